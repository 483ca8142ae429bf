/-
  What the document's answer gives on one floor and on the floor of a name: FloorOne for every floor, TopOf for every list, FloorOf for right ones.
-/
import Derived.Test.YteabincmopeljaeGreatDoorSealRef
import Derived.Test.YteabincmopeljaeGreatDoorFloorDo
namespace Go.Proofs.YteabincmopeljaeGreatDoor
open Go.RowKit Go.Extern.Stop Go.Stop Go.Extern Go.Proofs

/-- A fault of the document's answer. -/
abbrev fltV (c : Nat × Int) : Value := .agg #[.int .i64 (c.1 : Int), .int .i64 c.2]
theorem bare_any (c : Nat) (w : World) :
    Calls Tryz.prog 32 #[.int .i64 (c : Int)] w fun e w' => e = .returned (fltV (c, -1)) ∧ Below w.heap.size w w' := by
  unfold fltV
  generalize (c : Int) = z at *
  go_enter Tryz.func32, Tryz.ntmps32
  go_wp2
  refine bodyPost_ret (results_cell_row rfl _ _ w.heap.size _ _ _ _ rfl (heap_alloc_new _ _) Tryz.underlying54 rfl (by kernel_rfl)) rfl ?_
  exact ⟨rfl, (Below.refl _ _).alloc (Nat.le_refl _) _⟩
theorem fine_any (w : World) :
    Calls Tryz.prog 48 #[] w fun e w' => e = .returned (fltV (0, -1)) ∧ Below w.heap.size w w' := by
  go_enter Tryz.func48, Tryz.ntmps48
  go_wp2
  refine bodyPost_ret (results_cell_row rfl _ _ w.heap.size _ _ _ _ rfl (heap_alloc_new _ _) Tryz.underlying54 rfl (by kernel_rfl)) rfl ?_
  exact ⟨rfl, (Below.refl _ _).alloc (Nat.le_refl _) _⟩

set_option maxRecDepth 100000 in
set_option maxHeartbeats 1000000 in
theorem refOne_any (f : Fl) (w : World) (hs : f.who.size ≤ maxLen) :
    Calls Tryz.prog 46 #[f.val] w fun e w' => e = .returned (.int .i64 (oneE f : Int)) ∧ Below w.heap.size w w' := by
  obtain ⟨who, ep⟩ := f
  have HB : Hid (Below w.heap.size w (w.alloc (.cells #[.string who, .int .i64 ep] 61))) := (Below.refl _ _).alloc (Nat.le_refl _) _
  have HN := hide (fun w => refName_any who w hs)
  have hq := star_who ⟨who, ep⟩
  have H1 : Hid (oneE ⟨who, ep⟩ = if (Fl.mk who ep).nm = star ∨ Sl.nameL (Fl.mk who ep).nm = true then (if 1 ≤ ep ∧ ep ≤ 1073741824 then 0 else 2) else 4) := rfl
  have HR : Hid (∀ c, oneE ⟨who, ep⟩ = c → Calls Tryz.prog 46 #[.agg #[.string who, .int .i64 ep]] w (fun e w' => e = .returned (.int .i64 (c : Int)) ∧ Below w.heap.size w w') → Calls Tryz.prog 46 #[.agg #[.string who, .int .i64 ep]] w (fun e w' => e = .returned (.int .i64 (oneE ⟨who, ep⟩ : Int)) ∧ Below w.heap.size w w')) := fun c hc h => by rw [hc]; exact h
  show Calls Tryz.prog 46 #[.agg #[.string who, .int .i64 ep]] w _
  have hep : (1 ≤ ep ∧ ep ≤ 1073741824) ∨ ep < 1 ∨ (1 ≤ ep ∧ 1073741824 < ep) := by omega
  change (who.toList == [42]) = _ at hq
  by_cases hst : (Fl.mk who ep).nm = star
  · rw [decide_eq_true hst] at hq
    have HH := hide (fun c (h : (if 1 ≤ ep ∧ ep ≤ 1073741824 then 0 else 2) = c) => HR.out c (by rw [H1.out, if_pos (Or.inl hst)]; exact h))
    generalize Sl.nameL who.data.toList = nb at *
    rcases hep with ⟨g, g2⟩ | g | ⟨g, g2⟩
    · refine HH.out 0 (if_pos ⟨g, g2⟩) ?_
      clear HH HR H1 hst
      go_enter Tryz.func46, Tryz.ntmps46
      go_wp2_with fail
      refine (HN.out _).mono ?_
      rintro e w1 ⟨rfl, rfl⟩
      go_wp2
      go_ret
      exact ⟨rfl, HB.out⟩
    all_goals
      refine HH.out 2 (if_neg (by omega)) ?_
      clear HH HR H1 hst
      go_enter Tryz.func46, Tryz.ntmps46
      go_wp2_with fail
      refine (HN.out _).mono ?_
      rintro e w1 ⟨rfl, rfl⟩
      go_wp2
      go_ret
      exact ⟨rfl, HB.out⟩
  · rw [decide_eq_false hst] at hq
    have hnm : (Fl.mk who ep).nm = who.data.toList := rfl
    cases hn : Sl.nameL who.data.toList with
    | false =>
      refine HR.out 4 (by rw [H1.out, if_neg]; rw [hnm, hn]; rintro (e | e); exact hst e; cases e) ?_
      rw [hn] at HN
      clear HR H1 hst hn hnm
      go_enter Tryz.func46, Tryz.ntmps46
      go_wp2_with fail
      refine (HN.out _).mono ?_
      rintro e w1 ⟨rfl, rfl⟩
      go_wp2
      go_ret
      exact ⟨rfl, HB.out⟩
    | true =>
      rw [hn] at HN
      have HH := hide (fun c (h : (if 1 ≤ ep ∧ ep ≤ 1073741824 then 0 else 2) = c) => HR.out c (by rw [H1.out, if_pos (Or.inr (by rw [hnm]; exact hn))]; exact h))
      rcases hep with ⟨g, g2⟩ | g | ⟨g, g2⟩
      · refine HH.out 0 (if_pos ⟨g, g2⟩) ?_
        clear HH HR H1 hst hn hnm
        go_enter Tryz.func46, Tryz.ntmps46
        go_wp2_with fail
        refine (HN.out _).mono ?_
        rintro e w1 ⟨rfl, rfl⟩
        go_wp2
        go_ret
        exact ⟨rfl, HB.out⟩
      all_goals
        refine HH.out 2 (if_neg (by omega)) ?_
        clear HH HR H1 hst hn hnm
        go_enter Tryz.func46, Tryz.ntmps46
        go_wp2_with fail
        refine (HN.out _).mono ?_
        rintro e w1 ⟨rfl, rfl⟩
        go_wp2
        go_ret
        exact ⟨rfl, HB.out⟩

set_option maxRecDepth 100000 in
set_option maxHeartbeats 1000000 in
theorem refTop_any (v : Value) (l : List Fl) (w : World) (h : FlAt w v l) (hl : l.length ≤ 1000000) :
    Calls Tryz.prog 47 #[v] w fun e w' => e = .returned (.int .i64 (topL l)) ∧ w' = w := by
  match l with
  | [] =>
    obtain ⟨ad, cap, rfl, hc⟩ := h.form
    show Calls Tryz.prog 47 #[.slice ad 0 cap] w _
    go_enter Tryz.func47, Tryz.ntmps47
    go_wp2
    go_ret
    exact ⟨rfl, rfl⟩
  | f :: l =>
    obtain ⟨b, off, cap, rfl, hc, hb, hcell⟩ := h.at (by simp)
    obtain ⟨c0, c1⟩ := hcell 0 (by simp)
    simp only [List.getElem_cons_zero, Nat.zero_mul, Nat.add_zero] at c0 c1
    have hq := star_who f
    rw [topL_cons]
    have hn : ∃ n, (f :: l).length = n + 1 := ⟨l.length, rfl⟩
    clear hcell h
    obtain ⟨n, hn⟩ := hn
    rw [hn] at hc hl ⊢
    by_cases hs : f.nm = star
    · rw [if_pos hs]
      rw [decide_eq_true hs] at hq
      clear hs hn
      generalize f.who = who at *
      generalize f.ep = ep at *
      go_enter Tryz.func47, Tryz.ntmps47
      go_wp2
      go_ret
      exact ⟨rfl, rfl⟩
    · rw [if_neg hs]
      rw [decide_eq_false hs] at hq
      clear hs hn
      generalize f.who = who at *
      generalize f.ep = ep at *
      go_enter Tryz.func47, Tryz.ntmps47
      go_wp2
      go_ret
      exact ⟨rfl, rfl⟩

/-- How FloorOf goes through the floors. -/
def ofStep (name : List UInt8) (n : Int) (f : Fl) : Int := if f.nm = name ∧ n < f.ep then f.ep else n
theorem ofFold_skip (name : List UInt8) : ∀ (l : List Fl) (n : Int), (∀ f ∈ l, f.nm ≠ name) → l.foldl (ofStep name) n = n
  | [], _, _ => rfl
  | f :: l, n, h => by
    rw [List.foldl_cons, show ofStep name n f = n from if_neg (fun e => h f (by simp) e.1)]
    exact ofFold_skip name l n (fun g hg => h g (by simp [hg]))
theorem ofFold_right {l : List Fl} (h : RightF l) (name : List UInt8) : l.foldl (ofStep name) (topL l) = ofL l name := by
  rcases of_cases l name with ⟨f, hf, hn, he⟩ | ⟨hn, he⟩
  · obtain ⟨a, b, rfl⟩ := List.append_of_mem hf
    have hr := h.rising
    have hd : ∀ g ∈ a ++ f :: b, g.nm = name → g = f := fun g hg e => hr.inj hg hf (by rw [e, hn])
    have ha : ∀ g ∈ a, g.nm ≠ name := fun g hg e => by
      have e2 := hd g (by simp [hg]) e
      subst e2
      have := (List.pairwise_append.1 hr).2.2 g hg g (by simp)
      exact List.lt_irrefl _ this
    have hb : ∀ g ∈ b, g.nm ≠ name := fun g hg e => by
      have e2 := hd g (by simp [hg]) e
      subst e2
      have := (List.pairwise_cons.1 (List.pairwise_append.1 hr).2.1).1 g hg
      exact List.lt_irrefl _ this
    rw [he, List.foldl_append, ofFold_skip name a _ ha, List.foldl_cons, ofFold_skip name b _ hb]
    have := h.top_le hf
    unfold ofStep
    split
    · rfl
    · rename_i g
      have g2 : ¬ topL (a ++ f :: b) < f.ep := fun e => g ⟨hn, e⟩
      omega
  · rw [he, ofFold_skip name l _ hn]

set_option maxRecDepth 100000 in
set_option maxHeartbeats 2000000 in
theorem refFloorOf_any (v : Value) (l : List Fl) (name : ByteArray) (w : World) (hv : FlAt w v l) (hr : RightF l) (hl : l.length ≤ 1000000) :
    Calls Tryz.prog 33 #[v, .string name] w fun e w' => e = .returned (.int .i64 (ofL l name.data.toList)) ∧ w' = w := by
  have HT := hide (refTop_any v l w hv hl)
  have HR := hide (ofFold_right hr name.data.toList)
  have HV := hide hv
  obtain ⟨ad, cap, rfl, hc⟩ := hv.form
  generalize hn : l.length = n at *
  have HN := hide hn
  generalize ofL l name.data.toList = res at *
  clear hv hn hr
  go_enter Tryz.func33, Tryz.ntmps33
  go_wp2_with fail
  refine HT.out.mono ?_
  rintro e w1 ⟨rfl, rfl⟩
  go_wp2
  go_loop [5, 6] (fun nv i => ∃ (k : Nat) (m : Int), k ≤ n ∧ i = .int .i64 k ∧ nv = .int .i64 m ∧ Hid ((l.take k).foldl (ofStep name.data.toList) (topL l) = m)) (fun _ i => n - (intOf i).toNat)
  case atStart => exact ⟨0, topL l, Nat.zero_le _, rfl, rfl, (show Hid _ from rfl)⟩
  case round =>
    obtain ⟨k, m, hk, rfl, rfl, HM⟩ := hrel
    by_cases hlt : k < n
    · have hkl : k < l.length := by rw [HN.out]; exact hlt
      have hvr := HV.out
      rw [← HN.out] at hvr
      obtain ⟨b, off, cap', e, hc', hb, hcell⟩ := hvr.at (by omega)
      injection e with e1 e2 e3
      subst e1; subst e3
      obtain ⟨c0, c1⟩ := hcell k hkl
      have hltz : (k : Int) < (n : Int) := by omega
      have HM2 : Hid ((l.take (k + 1)).foldl (ofStep name.data.toList) (topL l) = ofStep name.data.toList m (l[k]'hkl)) := by
        show _ = _
        rw [List.take_succ_eq_append_getElem hkl, List.foldl_append, HM.out]
        rfl
      have hq := same_names (l[k]'hkl).who name
      have HQ : Hid (ofStep name.data.toList m (l[k]'hkl) = if (l[k]'hkl).who.data.toList = name.data.toList ∧ m < (l[k]'hkl).ep then (l[k]'hkl).ep else m) := rfl
      clear hcell hvr
      generalize ofStep name.data.toList m (l[k]'hkl) = m2 at *
      generalize (l[k]'hkl).who = who at *
      generalize (l[k]'hkl).ep = ep at *
      by_cases h1 : who.data.toList = name.data.toList
      · rw [decide_eq_true h1] at hq
        by_cases h2 : m < ep
        · have HQ2 : Hid (m2 = ep) := by show _ = _; rw [HQ.out, if_pos ⟨h1, h2⟩]
          clear h1 HQ
          go_wp2
          go_round
          case rel => exact ⟨k + 1, ep, by omega, by go_num, rfl, (show Hid _ from by show _ = _; rw [HM2.out, HQ2.out])⟩
          case measure => simp [intOf]; omega
        · have HQ2 : Hid (m2 = m) := by show _ = _; rw [HQ.out, if_neg (fun e => h2 e.2)]
          clear h1 HQ
          go_wp2
          go_round
          case rel => exact ⟨k + 1, m, by omega, by go_num, rfl, (show Hid _ from by show _ = _; rw [HM2.out, HQ2.out])⟩
          case measure => simp [intOf]; omega
      · rw [decide_eq_false h1] at hq
        have HQ2 : Hid (m2 = m) := by show _ = _; rw [HQ.out, if_neg (fun e => h1 e.1)]
        clear h1 HQ
        go_wp2
        go_round
        case rel => exact ⟨k + 1, m, by omega, by go_num, rfl, (show Hid _ from by show _ = _; rw [HM2.out, HQ2.out])⟩
        case measure => simp [intOf]; omega
    · obtain rfl : k = n := by omega
      have hltz : ¬ (k : Int) < (k : Int) := by omega
      have hm : m = res := by
        rw [← HM.out, List.take_of_length_le (by rw [HN.out]; exact Nat.le_refl _)]
        exact HR.out
      subst hm
      go_wp2
      go_ret
      exact ⟨rfl, rfl⟩
end Go.Proofs.YteabincmopeljaeGreatDoor

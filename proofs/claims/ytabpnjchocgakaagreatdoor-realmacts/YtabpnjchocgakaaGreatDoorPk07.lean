/-
  What the functions of these parts do, and what holds of their plain forms: FloorGone, FloorRow.
-/
import Derived.Test.YtabpnjchocgakaaGreatDoorPk03
import Derived.Laws.OwnMore
namespace Go.Proofs.YtabpnjchocgakaaGreatDoor
open Go.RowKit Go.Extern.Stop Go.Stop Go.Extern Go.Proofs
abbrev flO (f : Fl) : Obj := .cells #[.string f.who, .int .i64 f.ep] 112 (0, 0)
set_option maxRecDepth 100000 in
set_option maxHeartbeats 1000000 in
theorem raised1_any (fb : Nat) (f o : Fl) (W : World) (h : W.heap[fb]? = some (flO f)) :
  Calls Tryz.prog 160 #[.agg #[.string o.who, .int .i64 o.ep], .pointer (some ⟨fb, 0, none⟩)] W fun e w' => e = .returned (.bool (goesF f o)) ∧ Below W.heap.size W w' := by
 have hlt := row_lt h
 have h2 : (W.alloc (.cells #[.string o.who, .int .i64 o.ep] 112)).heap[fb]? = some (flO f) := by rw [Below.heap_alloc _ _ _ hlt]; exact h
 have c0 : (W.alloc (.cells #[.string o.who, .int .i64 o.ep] 112)).cell? ⟨fb, 0, none⟩ = some (.string f.who) := cell_of_row _ _ 0 _ _ _ h2
 have c1 : (W.alloc (.cells #[.string o.who, .int .i64 o.ep] 112)).cell? ⟨fb, 1, none⟩ = some (.int .i64 f.ep) := cell_of_row _ _ 1 _ _ _ h2
 have hq1 := same_names o.who f.who
 have hq2 := star_who f
 have hg : goesF f o = (decide (o.who.data.toList = f.who.data.toList) || (decide (f.nm = star) && decide (o.ep ≤ f.ep))) := rfl
 rw [hg, ← hq1, ← hq2]
 clear h h2 hg hlt
 cases e1 : (o.who.toList == f.who.toList) with
 | true =>
  clear hq1 hq2
  generalize f.who = who at *
  generalize f.ep = ep at *
  go_enter Tryz.func160, Tryz.ntmps160
  go_wp2
  go_ret
  exact ⟨rfl, (Below.refl _ _).alloc (Nat.le_refl _) _⟩
 | false =>
  cases e2 : (f.who.toList == [42]) with
  | false =>
   clear hq1 hq2
   generalize f.who = who at *
   generalize f.ep = ep at *
   go_enter Tryz.func160, Tryz.ntmps160
   go_wp2
   go_ret
   exact ⟨rfl, (Below.refl _ _).alloc (Nat.le_refl _) _⟩
  | true =>
   clear hq1 hq2
   generalize f.who = who at *
   generalize f.ep = ep at *
   generalize o.who = owho at *
   generalize o.ep = oep at *
   by_cases he : oep ≤ ep
   ·
    rw [decide_eq_true he]
    go_enter Tryz.func160, Tryz.ntmps160
    go_wp2
    go_ret
    exact ⟨rfl, (Below.refl _ _).alloc (Nat.le_refl _) _⟩
   ·
    rw [decide_eq_false he]
    go_enter Tryz.func160, Tryz.ntmps160
    go_wp2
    go_ret
    exact ⟨rfl, (Below.refl _ _).alloc (Nat.le_refl _) _⟩
def goneI (l : List Fl) (f : Fl) : Int := match l.findIdx? (goesF f) with | some i => (i : Int) | none => -1
theorem goneI_some (l : List Fl) (f : Fl) (k : Nat) (hk : k < l.length) (h : goesF f l[k] = true) (hb : ∀ j (hj : j < l.length), j < k → goesF f l[j] = false) : goneI l f = k := by
 have : l.findIdx? (goesF f) = some k := by
  rw [List.findIdx?_eq_some_iff_getElem]
  exact ⟨hk, h, fun j hj => by simp [hb j (by omega) hj]⟩
 unfold goneI
 rw [this]
theorem goneI_none (l : List Fl) (f : Fl) (h : ∀ j (hj : j < l.length), goesF f l[j] = false) : goneI l f = -1 := by
 have : l.findIdx? (goesF f) = none := by
  rw [List.findIdx?_eq_none_iff]
  intro x hx
  obtain ⟨j, hj, rfl⟩ := List.getElem_of_mem hx
  exact h j hj
 unfold goneI
 rw [this]
theorem goneI_cases (l : List Fl) (f : Fl) : (goneI l f = -1 ∧ ∀ j (hj : j < l.length), goesF f l[j] = false) ∨ ∃ k : Nat, ∃ hk : k < l.length, goneI l f = k ∧ goesF f l[k] = true ∧ ∀ j (hj : j < l.length), j < k → goesF f l[j] = false := by
 unfold goneI
 cases hf : l.findIdx? (goesF f) with
 | none =>
  rw [List.findIdx?_eq_none_iff] at hf
  exact Or.inl ⟨rfl, fun j hj => hf _ (List.getElem_mem _)⟩
 | some k =>
  rw [List.findIdx?_eq_some_iff_getElem] at hf
  obtain ⟨hk, h1, h2⟩ := hf
  exact Or.inr ⟨k, hk, rfl, h1, fun j hj hjk => by simpa using h2 j hjk⟩
set_option maxRecDepth 100000 in
set_option maxHeartbeats 2000000 in
theorem indexFuncF (fb : Nat) (f : Fl) (v : Value) (l : List Fl) (w : World) (hf : w.heap[fb]? = some (flO f)) (hv : FlAt w v l) (hl : l.length ≤ 1000000) :
  Calls Tryz.prog 201 #[v, .func (.func 160) #[] #[.pointer (some ⟨fb, 0, none⟩)]] w fun e w' => e = .returned (.int .i64 (goneI l f)) ∧ Below w.heap.size w w' := by
 obtain ⟨ad, cap, rfl, hc⟩ := hv.form
 have HV := hide hv
 have HF := hide hf
 have HP := hide (fun o W h => raised1_any fb f o W h)
 have eg : ∀ args w, (callFunc 160 args).run Tryz.prog w = .ok (.enter 160 args) w := enters_of Tryz.func160 (by kernel_rfl) rfl
 generalize hn : l.length = n at *
 have HN := hide hn
 clear hv hf hn
 go_enter Tryz.func201, Tryz.ntmps201
 go_wp2
 go_loopg [5, 8] n (fun gg _ s8 wr => ∃ kk : Nat, kk ≤ n ∧ n - kk ≤ gg ∧ s8 = .int .i64 kk ∧ Hid (Below w.heap.size w wr) ∧ Hid (∀ j (hj : j < l.length), j < kk → goesF f l[j] = false))
 case atStart => exact ⟨0, Nat.zero_le _, by omega, rfl, Below.refl _ _, fun j _ hj => absurd hj (Nat.not_lt_zero _)⟩
 case round =>
  obtain ⟨kk, hkk, hg, rfl, HB, A⟩ := hrel
  by_cases hlt : kk < n
  ·
   have hltz : (kk : Int) < (n : Int) := by omega
   have hkl : kk < l.length := by rw [HN.out]; exact hlt
   have hvr := HV.out.below HB.out
   rw [← HN.out] at hvr
   obtain ⟨b, off, cap', e, hc', hb, hcell⟩ := hvr.at (by omega)
   injection e with e1 e2 e3
   subst e1; subst e3
   obtain ⟨c0, c1⟩ := hcell kk hkl
   have HC := hide (HP.out (l[kk]'hkl) wr (by rw [HB.out.block _ (row_lt HF.out)]; exact HF.out))
   cases hq : goesF f (l[kk]'hkl) with
   | true =>
    have HR := hide hq
    rw [hq] at HC
    clear hcell hvr hq
    generalize (l[kk]'hkl).who = who at c0 HC
    generalize (l[kk]'hkl).ep = ep at c1 HC
    go_wp2_with fail
    refine HC.out.mono ?_
    rintro e w' ⟨rfl, hb1⟩
    have HB2 : Hid (Below w.heap.size w w') := HB.out.trans (hb1.mono HB.out.size)
    clear hb1
    go_wp2
    go_ret
    exact ⟨by rw [goneI_some l f kk hkl HR.out A.out]; rfl, HB2.out⟩
   | false =>
    have HR := hide hq
    rw [hq] at HC
    clear hcell hvr hq
    generalize (l[kk]'hkl).who = who at c0 HC
    generalize (l[kk]'hkl).ep = ep at c1 HC
    go_wp2_with fail
    refine HC.out.mono ?_
    rintro e w' ⟨rfl, hb1⟩
    have HB2 : Hid (Below w.heap.size w w') := HB.out.trans (hb1.mono HB.out.size)
    clear hb1
    go_wp2
    go_roundg (n - (kk + 1))
    case measure => omega
    case rel =>
     refine ⟨kk + 1, by omega, by omega, by go_num, HB2, (show Hid _ from fun j hj hjk => ?_)⟩
     by_cases e : j = kk
     ·
      subst e; exact HR.out
     ·
      exact A.out j hj (by omega)
  ·
   have hltz : ¬ (kk : Int) < (n : Int) := by omega
   have : kk = n := by omega
   subst this
   go_wp2
   go_ret
   exact ⟨by rw [goneI_none l f (fun j hj => A.out j hj (by rw [← HN.out]; exact hj))]; rfl, HB.out⟩
abbrev OwnF (w : World) (B : Nat) (v : Value) (l : List Fl) : Prop := w.ownsRow B 112 2 v l.length (cellsF l)
theorem OwnF.flAt {w : World} {B : Nat} {v : Value} {l : List Fl} (h : OwnF w B v l) : FlAt w v l := by
 rcases h.2 with ⟨rfl, h0⟩ | ⟨g, cap, cur, rfl, hb, hg, hc, hm, hs, ht⟩
 ·
  exact Or.inl ⟨none, 0, rfl, List.length_eq_zero_iff.1 h0⟩
 ·
  refine Or.inr ⟨g, 0, cap, rfl, hc, fun j u hu => ?_⟩
  rw [cell_of_row w g (0 + j) cur _ _ hg, Nat.zero_add]
  rw [← ht, List.getElem?_take] at hu
  split at hu
  ·
   simpa using hu
  ·
   cases hu
theorem OwnF.keep {w w' : World} {B : Nat} {v : Value} {l : List Fl} (h : OwnF w B v l) (hk : ∀ g, v.ownBlock = some g → w'.heap[g]? = w.heap[g]?) : OwnF w' B v l := by
 refine ⟨h.1, ?_⟩
 rcases h.2 with g | ⟨g, cap, cur, rfl, hb, hg, hc, hm, hs, ht⟩
 ·
  exact Or.inl g
 ·
  exact Or.inr ⟨g, cap, cur, rfl, hb, by rw [hk g rfl]; exact hg, hc, hm, hs, ht⟩
theorem OwnF.below {w w' : World} {B : Nat} {v : Value} {l : List Fl} (h : OwnF w B v l) (hb : Below w.heap.size w w') : OwnF w' B v l :=
 h.keep (fun g hg => hb.block g (h.lt g hg).2)
theorem OwnF.less {w : World} {B B' : Nat} {v : Value} {l : List Fl} (h : OwnF w B v l) (hb : B' ≤ B) : OwnF w B' v l := by
 refine ⟨h.1, ?_⟩
 rcases h.2 with g | ⟨g, cap, cur, e, h1, h2⟩
 ·
  exact Or.inl g
 ·
  exact Or.inr ⟨g, cap, cur, e, Nat.le_trans hb h1, h2⟩
theorem OwnF.nil (w : World) (B : Nat) : OwnF w B (.slice none 0 0) [] := World.ownsRow_nil _ _ _ _
def RowF (w : World) (g : Nat) (tl : List Value) (d : List Fl) : Prop := ∃ cur, w.heap[g]? = some (.cells cur 112 (0, 0)) ∧ cur.toList = cellsF d ++ tl
theorem RowF.lt {w : World} {g : Nat} {tl : List Value} {d : List Fl} (h : RowF w g tl d) : g < w.heap.size := by
 obtain ⟨cur, h1, _⟩ := h
 exact row_lt h1
theorem RowF.keep {w w' : World} {g : Nat} {tl : List Value} {d : List Fl} (h : RowF w g tl d) (hb : w'.heap[g]? = w.heap[g]?) : RowF w' g tl d := by
 obtain ⟨cur, h1, h2⟩ := h
 exact ⟨cur, by rw [hb]; exact h1, h2⟩
theorem RowF.cell {w : World} {g : Nat} {tl : List Value} {d : List Fl} (h : RowF w g tl d) (i : Nat) (hi : i < d.length) : w.cell? ⟨g, i * 2, none⟩ = some (.string d[i].who) ∧ w.cell? ⟨g, i * 2 + 1, none⟩ = some (.int .i64 d[i].ep) := by
 obtain ⟨cur, h1, h2⟩ := h
 rw [cell_of_row w g (i * 2) cur _ _ h1, cell_of_row w g (i * 2 + 1) cur _ _ h1]
 have e : ∀ j : Nat, cur[j]? = (cellsF d ++ tl)[j]? := fun j => by rw [← h2, Array.getElem?_toList]
 rw [e, e, List.getElem?_append_left (by rw [cellsF_len]; omega), List.getElem?_append_left (by rw [cellsF_len]; omega)]
 exact ⟨cellsF_who d i hi, cellsF_ep d i hi⟩
theorem RowF.frozen {w : World} {g : Nat} {tl : List Value} {d : List Fl} (h : RowF w g tl d) (j : Nat) : w.frozen? ⟨g, j, none⟩ = false := by
 obtain ⟨cur, h1, _⟩ := h
 exact frozen_of_row w g j cur _ h1
theorem cellsF_set : ∀ (d : List Fl) (i : Nat) (f : Fl), i < d.length → ((cellsF d).set (i * 2) (.string f.who)).set (i * 2 + 1) (.int .i64 f.ep) = cellsF (d.set i f)
 | a :: d, 0, f, _ => rfl
 | a :: d, i + 1, f, hi => by
  have ih := cellsF_set d i f (by simpa using hi)
  rw [cellsF_cons, List.set_cons_succ, cellsF_cons, show (i + 1) * 2 = i * 2 + 1 + 1 by omega, List.set_cons_succ, List.set_cons_succ, List.set_cons_succ, List.set_cons_succ, ih]
theorem RowF.set {w : World} {g : Nat} {tl : List Value} {d : List Fl} (h : RowF w g tl d) (i : Nat) (hi : i < d.length) (f : Fl) : RowF ((w.setCell ⟨g, i * 2, none⟩ (.string f.who)).setCell ⟨g, i * 2 + 1, none⟩ (.int .i64 f.ep)) g tl (d.set i f) := by
 obtain ⟨cur, h1, h2⟩ := h
 refine ⟨(cur.setIfInBounds (i * 2) (.string f.who)).setIfInBounds (i * 2 + 1) (.int .i64 f.ep), heap_setCell_same _ g _ _ _ _ (heap_setCell_same w g _ cur _ _ h1), ?_⟩
 rw [Array.toList_setIfInBounds, Array.toList_setIfInBounds, h2, List.set_append_left _ _ (by rw [cellsF_len]; omega), List.set_append_left _ _ (by rw [List.length_set, cellsF_len]; omega), cellsF_set d i f hi]
theorem RowF.own {w : World} {B g cap : Nat} {tl : List Value} {d : List Fl} (h : RowF w g tl d) (hB : B ≤ g) (hc : d.length * 2 + tl.length = cap * 2) (hm : cap ≤ maxLen) (i : Nat) (hi : i ≤ d.length) : OwnF w B (.slice (some ⟨g, 0, none⟩) i cap) (d.take i) := by
 obtain ⟨cur, h1, h2⟩ := h
 have hl : (d.take i).length = i := by rw [List.length_take]; omega
 refine ⟨by rw [cellsF_len], Or.inr ⟨g, cap, cur, by rw [hl], hB, h1, by rw [hl]; omega, hm, ?_, ?_⟩⟩
 ·
  have := congrArg List.length h2
  rw [List.length_append, cellsF_len, Array.length_toList] at this
  omega
 ·
  rw [h2, hl, cellsF_take, List.take_append_of_le_length (by rw [cellsF_len]; omega)]
theorem OwnF.row {w : World} {B : Nat} {v : Value} {l : List Fl} (h : OwnF w B v l) (hn : 0 < l.length) : ∃ g cap tl, v = .slice (some ⟨g, 0, none⟩) l.length cap ∧ B ≤ g ∧ RowF w g tl l ∧ l.length * 2 + tl.length = cap * 2 ∧ l.length ≤ cap ∧ cap ≤ maxLen := by
 rcases h.2 with ⟨rfl, h0⟩ | ⟨g, cap, cur, rfl, hb, hg, hc, hm, hs, ht⟩
 ·
  omega
 ·
  refine ⟨g, cap, cur.toList.drop (l.length * 2), rfl, hb, ⟨cur, hg, ?_⟩, ?_, hc, hm⟩
  ·
   rw [← ht, List.take_append_drop]
  ·
   rw [List.length_drop, show cur.toList.length = cap * 2 from hs]; omega
theorem kept_split (l : List Fl) (f : Fl) (j : Nat) (hj : j < l.length) : (l.take (j + 1)).filter (fun o => !goesF f o) = (l.take j).filter (fun o => !goesF f o) ++ (if goesF f l[j] = true then [] else [l[j]]) := by
 rw [List.take_succ_eq_append_getElem hj, List.filter_append]
 cases h : goesF f l[j] <;> simp [h]
theorem kept_none (l : List Fl) (f : Fl) (h : ∀ j (hj : j < l.length), goesF f l[j] = false) : keptF l f = l := by
 unfold keptF
 rw [List.filter_eq_self]
 intro o ho
 obtain ⟨j, hj, rfl⟩ := List.getElem_of_mem ho
 simp [h j hj]
theorem kept_first (l : List Fl) (f : Fl) (k : Nat) (hk : k < l.length) (h : goesF f l[k] = true) (hb : ∀ j (hj : j < l.length), j < k → goesF f l[j] = false) : (l.take (k + 1)).filter (fun o => !goesF f o) = l.take k := by
 rw [kept_split l f k hk, if_pos h, List.append_nil]
 refine kept_none (l.take k) f (fun j hj => ?_)
 rw [List.getElem_take]
 rw [List.length_take] at hj
 exact hb j (by omega) (by omega)
structure KeptTo (l : List Fl) (f : Fl) (j i : Nat) (d : List Fl) : Prop where
 len : d.length = l.length
 lt : i < j
 head : d.take i = (l.take j).filter (fun o => !goesF f o)
 rest : d.drop j = l.drop j
theorem KeptTo.at {l : List Fl} {f : Fl} {j i : Nat} {d : List Fl} (h : KeptTo l f j i d) (hj : j < l.length) : d[j]'(by rw [h.len]; exact hj) = l[j] := by
 have e := congrArg (fun x => x[0]?) h.rest
 simp only [List.getElem?_drop, Nat.add_zero] at e
 rw [List.getElem?_eq_getElem hj, List.getElem?_eq_getElem (by rw [h.len]; exact hj)] at e
 exact Option.some.inj e
theorem KeptTo.skip {l : List Fl} {f : Fl} {j i : Nat} {d : List Fl} (h : KeptTo l f j i d) (hj : j < l.length) (hg : goesF f l[j] = true) : KeptTo l f (j + 1) i d where
 len := h.len
 lt := by have := h.lt; omega
 head := by rw [kept_split l f j hj, if_pos hg, List.append_nil]; exact h.head
 rest := by
  have e := congrArg (fun x => x.drop 1) h.rest
  simpa [List.drop_drop] using e
theorem KeptTo.keep {l : List Fl} {f : Fl} {j i : Nat} {d : List Fl} (h : KeptTo l f j i d) (hj : j < l.length) (hg : goesF f l[j] = false) : KeptTo l f (j + 1) (i + 1) (d.set i l[j]) where
 len := by rw [List.length_set]; exact h.len
 lt := by have := h.lt; omega
 head := by
  have h1 := h.lt
  have h2 := h.len
  rw [kept_split l f j hj, hg, ← h.head, List.take_succ_eq_append_getElem (by rw [List.length_set]; omega), List.getElem_set_self, List.take_set_of_le (Nat.le_refl _)]
  rfl
 rest := by
  have h1 := h.lt
  rw [List.drop_set_of_lt (by omega)]
  have e := congrArg (fun x => x.drop 1) h.rest
  simpa [List.drop_drop] using e
end Go.Proofs.YtabpnjchocgakaaGreatDoor

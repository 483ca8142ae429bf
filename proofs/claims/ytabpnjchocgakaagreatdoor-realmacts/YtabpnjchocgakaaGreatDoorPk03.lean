/-
  What the functions of these parts do, and what holds of their plain forms: FloorCheck, FloorFind.
-/
import Derived.Test.YtabpnjchocgakaaGreatDoorFloorDo
import Derived.Test.YtabpnjchocgakaaGreatDoorPk00
import Derived.Lib.Bytealg
import Derived.Deep.LoopGhost
namespace Go.Proofs.YtabpnjchocgakaaGreatDoor
open Go.RowKit Go.Extern.Stop Go.Stop Go.Extern
def FlErr (a : Nat → Addr) (w : World) (c : Nat × Int) (ev : Value) : Prop :=
 (c.1 = 0 ∧ ev = .nilIface) ∨ (c.1 ≠ 0 ∧ c.2 = -1 ∧ ev = eV (a (c.1 - 1))) ∨ (c.1 ≠ 0 ∧ ∃ b, ev = fV b 0 ∧ w.heap[b]? = some (.cells #[.int .i64 c.2, eV (a (c.1 - 1))] 159 (0, 0)))
theorem FlErr.below {a : Nat → Addr} {w w' : World} {c : Nat × Int} {ev : Value} (h : FlErr a w c ev) (hb : Below w.heap.size w w') : FlErr a w' c ev := by
 rcases h with h | h | ⟨h1, b, h2, h3⟩
 ·
  exact Or.inl h
 ·
  exact Or.inr (Or.inl h)
 ·
  exact Or.inr (Or.inr ⟨h1, b, h2, by rw [hb.block b (row_lt h3)]; exact h3⟩)
theorem FlErr.cases {a : Nat → Addr} {w : World} {c : Nat × Int} {ev : Value} (h : FlErr a w c ev) : (c.1 = 0 ∧ ev = .nilIface) ∨ (c.1 ≠ 0 ∧ ∃ t p, ev = .iface t p) := by
 rcases h with h | ⟨h1, h2, h3⟩ | ⟨h1, b, h2, h3⟩
 ·
  exact Or.inl h
 ·
  exact Or.inr ⟨h1, _, _, h3⟩
 ·
  exact Or.inr ⟨h1, _, _, h2⟩
theorem FlErr.none {a : Nat → Addr} {w : World} {c : Nat × Int} {ev : Value} (h : FlErr a w c ev) (hc : c.1 = 0) : ev = .nilIface := by
 rcases h.cases with ⟨_, e⟩ | ⟨e, _⟩
 ·
  exact e
 ·
  exact absurd hc e
set_option maxRecDepth 100000 in
set_option maxHeartbeats 4000000 in
theorem check_any (a : Nat → Addr) (v : Value) (l : List Fl) (w : World) (h : EV flS a w) (hv : FlAt w v l) (hs : ∀ f ∈ l, f.who.size ≤ maxLen) (hl : l.length ≤ 1000000) :
  Calls Tryz.prog 107 #[v] w fun e w' => ∃ ev, e = .returned ev ∧ FlErr a w' (checkL l) ev ∧ Below w.heap.size w w' := by
 by_cases h21 : 21 < l.length
 ·
  obtain ⟨ad, cap, rfl, hc⟩ := hv.form
  rw [check_full h21]
  have hvv : w.cell? ⟨7, 0, none⟩ = some (eV (a 6)) := h.var 6 (by decide) rfl
  clear h hv hs
  generalize l.length = n at *
  have hz : (21 : Int) < (n : Int) := by omega
  go_enter Tryz.func107, Tryz.ntmps107
  go_wp2
  go_ret
  exact ⟨_, rfl, Or.inr (Or.inl ⟨by decide, rfl, rfl⟩), Below.refl _ _⟩
 ·
  obtain ⟨ad, cap, rfl, hc⟩ := hv.form
  have HV := hide hv
  have HE := hide h
  have HS := hide hs
  have HL := hide h21
  generalize hn : l.length = n at *
  have HN := hide hn
  have hz : ¬ (21 : Int) < (n : Int) := by omega
  clear h hv hs hn
  go_enter Tryz.func107, Tryz.ntmps107
  go_wp2
  go_loopg [3, 4, 5, 12] n (fun gg _ _ _ s12 wr => ∃ k : Nat, k ≤ n ∧ n - k ≤ gg ∧ s12 = .int .i64 k ∧ Hid (Below w.heap.size w wr) ∧ Hid (∀ j, j < k → badAt l j = 0))
  case atStart => exact ⟨0, Nat.zero_le _, by omega, rfl, Below.refl _ _, fun j hj => absurd hj (Nat.not_lt_zero _)⟩
  case round =>
   obtain ⟨k, hk, hg, rfl, HB, A⟩ := hrel
   by_cases hlt : k < n
   ·
    have hltz : (k : Int) < (n : Int) := by omega
    have hkl : k < l.length := by rw [HN.out]; exact hlt
    have hvr := HV.out.below HB.out
    rw [← HN.out] at hvr
    obtain ⟨b, off, cap', e, hc', hb, hcell⟩ := hvr.at (by omega)
    injection e with e1 e2 e3
    subst e1; subst e3
    have hcl : ∀ j u, (cellsF l)[j]? = some u → wr.cell? ⟨b, off + j, none⟩ = some u := by
     rcases hvr with ⟨_, _, _, e⟩ | ⟨b', off', cap', e, _, h3⟩
     ·
      rw [e] at hkl; simp at hkl
     ·
      injection e with e1 e2 e3
      injection e1 with e1
      injection e1 with e1 e4
      subst e1; subst e4
      exact h3
    obtain ⟨c0, c1⟩ := hcell k hkl
    obtain ⟨f, hf⟩ : ∃ f, f = l[k] := ⟨_, rfl⟩
    have hbad : badAt l k = behindE (l.take k) f := by unfold badAt; rw [List.getElem?_eq_getElem hkl, hf]
    have hfs : f.who.size ≤ maxLen := HS.out f (by rw [hf]; exact List.getElem_mem _)
    rw [← hf] at c0 c1
    have HT : Hid (FlAt wr (.slice (some ⟨b, off, none⟩) k cap) (l.take k)) := FlAt.take hc' hcl k (by omega)
    have HCk := hide (fun w h hv => checkBehind_any a (.slice (some ⟨b, off, none⟩) k cap) (l.take k) f w h hfs hv (by rw [List.length_take]; omega))
    rw [← hbad] at HCk
    have HEr := hide (HE.out.below HB.out)
    have HA : Hid (Below wr.heap.size wr (wr.alloc (.cells #[.string f.who, .int .i64 f.ep] 112))) := (Below.refl _ _).alloc (Nat.le_refl _) _
    have HR : Hid ((wr.alloc (.cells #[.string f.who, .int .i64 f.ep] 112)).heap[wr.heap.size]? = some (.cells #[.string f.who, .int .i64 f.ep] 112 (0, 0))) := heap_alloc_new _ _
    have HCa : Hid (∀ p : BelowAt (wr.alloc (.cells #[.string f.who, .int .i64 f.ep] 112)), Calls Tryz.prog 157 #[.slice (some ⟨b, off, none⟩) k cap, .agg #[.string f.who, .int .i64 f.ep]] p.to fun e w'' => e = .returned (errV a (badAt l k)) ∧ ∃ q : BelowAt (wr.alloc (.cells #[.string f.who, .int .i64 f.ep] 112)), w'' = q.to) :=
     fun p => BelowAt.calls (HCk.out p.to ((HEr.out.below HA.out).below p.below) ((HT.out.below HA.out).below p.below))
    clear hcell hcl hvr hf hbad hfs HT HCk HEr hb
    generalize f.who = who at *
    generalize f.ep = ep at *
    clear f
    have hco : k ≤ cap := by omega
    go_wp2_with fail
    generalize hw2 : wr.alloc (.cells #[.string who, .int .i64 ep] 112) = w2 at *
    have hd0 : w2.cell? ⟨wr.heap.size, 0, none⟩ = some (.string who) := cell_of_row w2 _ 0 _ _ _ HR.out
    have hd1 : w2.cell? ⟨wr.heap.size, 1, none⟩ = some (.int .i64 ep) := cell_of_row w2 _ 1 _ _ _ HR.out
    have hgl : wr.heap.size < w2.heap.size := row_lt HR.out
    have z0 := fun p : BelowAt w2 => p.cell hd0 hgl
    have z1 := fun p : BelowAt w2 => p.cell hd1 hgl
    have any1 : Nonempty (BelowAt w2) := BelowAt.any w2
    have HB2 : Hid (Below w.heap.size w w2) := HB.out.trans (HA.out.mono HB.out.size)
    clear c0 c1 hd0 hd1
    by_cases hb0 : badAt l k = 0
    ·
     rw [hb0, errV_zero] at HCa
     refine wp_region_below (by kernel_rfl) (by kernel_rfl) ?_
     repeat (go_big_quiet_step (exact HCa.out _))
     refine wpQuiet_nil ?_
     intro _ hw'
     obtain ⟨pq, hw''⟩ := hw'
     subst hw''
     have HB3 : Hid (Below w.heap.size w pq.to) := HB2.out.trans (pq.below.mono HB2.out.size)
     clear z0 z1 HCa HA HR
     go_wp2
     go_roundg (n - (k + 1))
     case measure => omega
     case rel =>
      refine ⟨k + 1, by omega, by omega, by go_num, HB3, (show Hid _ from fun j hj => ?_)⟩
      by_cases e : j = k
      ·
       subst e; exact hb0
      ·
       exact A.out j (by omega)
    ·
     rw [errV_pos a hb0] at HCa
     have HK := hide (check_bad (l := l) (by rw [HN.out]; exact HL.out) hkl A.out hb0)
     have HBa := hide hb0
     generalize badAt l k = c at *
     refine wp_region_below (by kernel_rfl) (by kernel_rfl) ?_
     repeat (go_big_quiet_step (exact HCa.out _))
     refine wpQuiet_nil ?_
     intro _ hw'
     obtain ⟨pq, hw''⟩ := hw'
     subst hw''
     have HB3 : Hid (Below w.heap.size w pq.to) := HB2.out.trans (pq.below.mono HB2.out.size)
     clear z0 z1 HCa HA HR hb0
     generalize hea : a (c - 1) = ea at *
     have HEa := hide hea
     clear hea
     go_wp2
     go_ret
     exact ⟨_, rfl, by rw [HK.out]; exact Or.inr (Or.inr ⟨HBa.out, _, rfl, by rw [HEa.out]; exact heap_alloc_new _ _⟩), HB3.out.alloc HB3.out.size _⟩
   ·
    have : k = n := by omega
    subst this
    have HK := hide (check_good (l := l) (by rw [HN.out]; exact HL.out) (by rw [HN.out]; exact A.out))
    have hltz : ¬ (k : Int) < (k : Int) := by omega
    go_wp2
    go_ret
    exact ⟨_, rfl, by rw [HK.out]; exact Or.inl ⟨rfl, rfl⟩, HB.out⟩
end Go.Proofs.YtabpnjchocgakaaGreatDoor

namespace Go.Proofs.YtabpnjchocgakaaGreatDoor
open Go.RowKit Go.Extern.Stop Go.Stop Go.Extern Go.Proofs
theorem cmp_neg : ∀ (a b : List UInt8), Lib.compareBytes a b < 0 ↔ a < b
 | [], [] => by simp [Lib.compareBytes]
 | [], _ :: _ => by simp [Lib.compareBytes]
 | _ :: _, [] => by simp [Lib.compareBytes]
 | a :: x, b :: y => by
  rw [Lib.compareBytes]
  have ih := cmp_neg x y
  simp only [List.cons_lt_cons_iff]
  by_cases h1 : a < b
  ·
   simp [h1]
  ·
   by_cases h2 : b < a
   ·
    have : a ≠ b := fun e => by subst e; exact h1 h2
    simp [h1, h2, this]
   ·
    have : a = b := UInt8.le_antisymm (UInt8.not_lt.1 h2) (UInt8.not_lt.1 h1)
    subst this
    simpa [h1] using ih
theorem cmp_zero : ∀ (a b : List UInt8), Lib.compareBytes a b = 0 ↔ a = b
 | [], [] => by simp [Lib.compareBytes]
 | [], _ :: _ => by simp [Lib.compareBytes]
 | _ :: _, [] => by simp [Lib.compareBytes]
 | a :: x, b :: y => by
  rw [Lib.compareBytes]
  have ih := cmp_zero x y
  by_cases h1 : a < b
  ·
   have : a ≠ b := fun e => by subst e; exact absurd h1 (UInt8.lt_irrefl _)
   simp [h1, this]
  ·
   by_cases h2 : b < a
   ·
    have : a ≠ b := fun e => by subst e; exact h1 h2
    simp [h1, h2, this]
   ·
    have : a = b := UInt8.le_antisymm (UInt8.not_lt.1 h2) (UInt8.not_lt.1 h1)
    subst this
    simpa [h1] using ih
set_option maxRecDepth 100000 in
set_option maxHeartbeats 1000000 in
theorem find1_any (who : ByteArray) (ep : Int) (name : ByteArray) (W : World) :
  Calls Tryz.prog 115 #[.agg #[.string who, .int .i64 ep], .string name] W fun e w' => e = .returned (.int .i64 (Lib.compareBytes who.data.toList name.data.toList)) ∧ Below W.heap.size W w' := by
 have hcon := fun W' => Any.strings_Compare Tryz.cmpS who name W'
 change ∀ W', Calls Tryz.prog 116 _ _ _ at hcon
 generalize Lib.compareBytes who.data.toList name.data.toList = r at hcon ⊢
 go_enter Tryz.func115, Tryz.ntmps115
 go_wp2_with (go_at_call 116; refine (hcon _).mono ?_; rintro e w' ⟨rfl, rfl⟩)
 go_ret
 exact ⟨rfl, (Below.refl _ _).alloc (Nat.le_refl _) _⟩
def hasF (l : List Fl) (n : List UInt8) : Bool := l.any (fun f => decide (f.nm = n))
theorem has_place {l : List Fl} (hr : RisingF l) (n : List UInt8) (k : Nat) (hk : placeF l n = k) : hasF l n = match l[k]? with | some f => decide (f.nm = n) | none => false := by
 have h1 := place_take l n
 have h2 := place_drop hr n
 rw [hk] at h1 h2
 cases hf : l[k]? with
 | none =>
  have : l.length ≤ k := by simpa using hf
  show hasF l n = false
  unfold hasF
  rw [List.any_eq_false]
  intro f hm
  rw [List.take_of_length_le this] at h1
  have := h1 f hm
  simp only [decide_eq_true_eq]
  intro e
  rw [e] at this
  exact List.lt_irrefl _ this
 | some g =>
  obtain ⟨hkl, hg⟩ := List.getElem?_eq_some_iff.1 hf
  show hasF l n = decide (g.nm = n)
  unfold hasF
  by_cases e : g.nm = n
  ·
   rw [decide_eq_true e, List.any_eq_true]
   exact ⟨g, by rw [← hg]; exact List.getElem_mem _, by simpa using e⟩
  ·
   rw [decide_eq_false e, List.any_eq_false]
   intro f hm
   simp only [decide_eq_true_eq]
   intro e2
   have hall := hr
   rw [← List.take_append_drop k l] at hm hall
   rcases List.mem_append.1 hm with m1 | m1
   ·
    have := h1 f m1; rw [e2] at this; exact List.lt_irrefl _ this
   ·
    rw [List.drop_eq_getElem_cons hkl, hg] at m1 hall
    rcases List.mem_cons.1 m1 with m2 | m2
    ·
     rw [m2] at e2; exact e e2
    ·
     have h3 := (List.pairwise_cons.1 (List.pairwise_append.1 hall).2.1).1 f m2
     rw [e2] at h3
     exact h2 g (by rw [List.drop_eq_getElem_cons hkl, hg]; simp) h3
theorem rising_at {l : List Fl} (hr : RisingF l) {i j : Nat} (hi : i < l.length) (hj : j < l.length) (hij : i < j) : l[i].nm < l[j].nm := List.pairwise_iff_getElem.1 hr i j hi hj hij
set_option maxRecDepth 100000 in
set_option maxHeartbeats 4000000 in
theorem search_any (v : Value) (l : List Fl) (name : ByteArray) (w : World) (hv : FlAt w v l) (hr : RisingF l) (hl : l.length ≤ 1000000) :
  Calls Tryz.prog 114 #[v, .string name, .func (.func 115) #[] #[]] w fun e w' => e = .returned (.tuple #[.int .i64 (placeF l name.data.toList : Nat), .bool (hasF l name.data.toList)]) ∧ Below w.heap.size w w' := by
 obtain ⟨ad, cap, rfl, hc⟩ := hv.form
 have HV := hide hv
 have HR := hide hr
 have HF := hide (fun who ep w => find1_any who ep name w)
 have eg : ∀ args w, (callFunc 115 args).run Tryz.prog w = .ok (.enter 115 args) w := enters_of Tryz.func115 (by kernel_rfl) rfl
 generalize hpl : placeF l name.data.toList = pl
 have HP := hide hpl
 generalize hha : hasF l name.data.toList = ha
 have HH := hide hha
 generalize hn : l.length = n at *
 have HN := hide hn
 clear hv hr hpl hha hn
 go_enter Tryz.func114, Tryz.ntmps114
 go_wp2
 go_loopg [9, 10, 11] n (fun kx s9 s10 _ wr => ∃ lo hi : Nat, s9 = .int .i64 lo ∧ s10 = .int .i64 hi ∧ lo ≤ hi ∧ hi ≤ n ∧ hi - lo ≤ kx ∧ Hid (Below w.heap.size w wr) ∧
  Hid ((∀ t (ht : t < l.length), t < lo → l[t].nm < name.data.toList) ∧ (∀ t (ht : t < l.length), hi ≤ t → ¬ l[t].nm < name.data.toList)))
 case atStart => exact ⟨0, n, rfl, rfl, Nat.zero_le _, Nat.le_refl _, by omega, Below.refl _ _, (⟨fun t _ ht => absurd ht (Nat.not_lt_zero _), fun t h1 h2 => by have := HN.out; omega⟩ : (∀ t (ht : t < l.length), t < 0 → l[t].nm < name.data.toList) ∧ (∀ t (ht : t < l.length), n ≤ t → ¬ l[t].nm < name.data.toList))⟩
 case round =>
  obtain ⟨lo, hi, rfl, rfl, hlh, hin, hg, HB, I⟩ := hrel
  by_cases hlt : lo < hi
  ·
   have hml : (lo + hi) / 2 < l.length := by have := HN.out; omega
   have hvr := HV.out.below HB.out
   rw [← HN.out] at hvr
   obtain ⟨b, off, cap', e, hc', hb, hcell⟩ := hvr.at (by omega)
   injection e with e1 e2 e3
   subst e1; subst e3
   obtain ⟨c0, c1⟩ := hcell _ hml
   have hF := HF.out (l[(lo + hi) / 2]'hml).who (l[(lo + hi) / 2]'hml).ep wr
   have hmn : (lo + hi) / 2 < n := by omega
   obtain ⟨m, hm⟩ : ∃ m, m = (lo + hi) / 2 := ⟨_, rfl⟩
   have hq : Hid (∀ (x : Int), x = Lib.compareBytes (l[(lo + hi) / 2]'hml).who.data.toList name.data.toList → (x < 0 ↔ (l[(lo + hi) / 2]'hml).nm < name.data.toList)) := fun x hx => by rw [hx]; exact cmp_neg _ _
   have HLt : Hid ((l[(lo + hi) / 2]'hml).nm < name.data.toList ↔ (l[(lo + hi) / 2]'hml).nm < name.data.toList) := Iff.rfl
   generalize hx : Lib.compareBytes (l[(lo + hi) / 2]'hml).who.data.toList name.data.toList = x at hF
   have hX := hq.out x hx.symm
   have HX := hide hX
   have HFc := hide hF
   clear hcell hvr hq HLt hx hF hX hm m
   generalize (l[(lo + hi) / 2]'hml).who = who at c0 HFc
   generalize (l[(lo + hi) / 2]'hml).ep = ep at c1 HFc
   by_cases hx0 : x < 0
   ·
    go_wp2_with fail
    refine HFc.out.mono ?_
    rintro e w1 ⟨rfl, hb1⟩
    have HB1 : Hid (Below w.heap.size w w1) := HB.out.trans (hb1.mono HB.out.size)
    clear hb1
    go_wp2
    go_roundg (hi - ((lo + hi) / 2 + 1))
    case measure => omega
    case rel =>
     have I2 : Hid ((∀ t (ht : t < l.length), t < (lo + hi) / 2 + 1 → l[t].nm < name.data.toList) ∧ (∀ t (ht : t < l.length), hi ≤ t → ¬ l[t].nm < name.data.toList)) := ⟨fun t ht htm => by
      rcases Nat.lt_or_ge t ((lo + hi) / 2) with g | g
      ·
       exact List.lt_trans (rising_at HR.out ht hml g) (HX.out.1 hx0)
      ·
       obtain rfl : t = (lo + hi) / 2 := by omega
       exact HX.out.1 hx0, I.out.2⟩
     exact ⟨(lo + hi) / 2 + 1, hi, by rw [show ((lo : Int) + (hi : Int)) / 2 + 1 = (((lo + hi) / 2 + 1 : Nat) : Int) by omega], rfl, by omega, hin, Nat.le_refl _, HB1, I2⟩
   ·
    go_wp2_with fail
    refine HFc.out.mono ?_
    rintro e w1 ⟨rfl, hb1⟩
    have HB1 : Hid (Below w.heap.size w w1) := HB.out.trans (hb1.mono HB.out.size)
    clear hb1
    go_wp2
    go_roundg ((lo + hi) / 2 - lo)
    case measure => omega
    case rel =>
     have I2 : Hid ((∀ t (ht : t < l.length), t < lo → l[t].nm < name.data.toList) ∧ (∀ t (ht : t < l.length), (lo + hi) / 2 ≤ t → ¬ l[t].nm < name.data.toList)) := ⟨I.out.1, fun t ht htm g => by
      rcases Nat.lt_or_ge ((lo + hi) / 2) t with g2 | g2
      ·
       exact absurd (HX.out.2 (List.lt_trans (rising_at HR.out hml ht g2) g)) (by omega)
      ·
       obtain rfl : t = (lo + hi) / 2 := by omega
       exact absurd (HX.out.2 g) (by omega)⟩
     exact ⟨lo, (lo + hi) / 2, rfl, by rw [show ((lo : Int) + (hi : Int)) / 2 = (((lo + hi) / 2 : Nat) : Int) by omega], by omega, by omega, Nat.le_refl _, HB1, I2⟩
  ·
   obtain rfl : hi = lo := by omega
   have hpe : pl = hi := by
    rw [← HP.out]
    exact placeF_eq l _ hi (by have := HN.out; omega) I.out.1 (fun hk => I.out.2 hi hk (Nat.le_refl _))
   subst hpe
   have HHp := hide (has_place HR.out _ _ HP.out)
   rw [HH.out] at HHp
   by_cases hn : pl < n
   ·
    have hml : pl < l.length := by have := HN.out; omega
    have hvr := HV.out.below HB.out
    rw [← HN.out] at hvr
    obtain ⟨b, off, cap', e, hc', hb, hcell⟩ := hvr.at (by omega)
    injection e with e1 e2 e3
    subst e1; subst e3
    obtain ⟨c0, c1⟩ := hcell _ hml
    have hF := HF.out (l[pl]'hml).who (l[pl]'hml).ep wr
    have hq := cmp_zero (l[pl]'hml).who.data.toList name.data.toList
    have hha : ha = decide ((l[pl]'hml).nm = name.data.toList) := by rw [HHp.out, List.getElem?_eq_getElem hml]
    have hha2 : ha = decide (Lib.compareBytes (l[pl]'hml).who.data.toList name.data.toList = 0) := by
     rw [hha]
     exact decide_eq_decide.2 hq.symm
    have HHa := hide hha2
    have HFc := hide hF
    have hnz : (pl : Int) < (n : Int) := by omega
    clear hcell hvr hF hq hha hha2 HHp
    generalize Lib.compareBytes (l[pl]'hml).who.data.toList name.data.toList = x at *
    generalize (l[pl]'hml).who = who at *
    generalize (l[pl]'hml).ep = ep at *
    by_cases hx0 : x = 0
    ·
     go_wp2_with fail
     refine HFc.out.mono ?_
     rintro e w1 ⟨rfl, hb1⟩
     have HB1 : Hid (Below w.heap.size w w1) := HB.out.trans (hb1.mono HB.out.size)
     clear hb1
     go_wp2
     go_ret2
     exact ⟨by rw [HHa.out]; simp [hx0], HB1.out⟩
    ·
     go_wp2_with fail
     refine HFc.out.mono ?_
     rintro e w1 ⟨rfl, hb1⟩
     have HB1 : Hid (Below w.heap.size w w1) := HB.out.trans (hb1.mono HB.out.size)
     clear hb1
     go_wp2
     go_ret2
     exact ⟨by rw [HHa.out]; simp [hx0], HB1.out⟩
   ·
    have hha : ha = false := by rw [HHp.out, List.getElem?_eq_none (by have := HN.out; omega)]
    have HHa := hide hha
    clear hha
    go_wp2
    go_ret2
    exact ⟨by rw [HHa.out]; simp, HB.out⟩
set_option maxRecDepth 100000 in
set_option maxHeartbeats 1000000 in
theorem find_any (v : Value) (l : List Fl) (name : ByteArray) (w : World) (hv : FlAt w v l) (hr : RisingF l) (hl : l.length ≤ 1000000) :
  Calls Tryz.prog 64 #[v, .string name] w fun e w' => e = .returned (.tuple #[.int .i64 (placeF l name.data.toList : Nat), .bool (hasF l name.data.toList)]) ∧ Below w.heap.size w w' := by
 have H := hide (search_any v l name w hv hr hl)
 clear hv hr
 generalize hasF l name.data.toList = ha at *
 generalize placeF l name.data.toList = pl at *
 go_enter Tryz.func64, Tryz.ntmps64
 go_wp2_with fail
 refine H.out.mono ?_
 rintro e w' ⟨rfl, hb⟩
 go_wp2
 go_ret2
 exact ⟨rfl, hb⟩
theorem of_place {l : List Fl} (hr : RisingF l) (n : List UInt8) : (hasF l n = true ∧ ∃ h : placeF l n < l.length, ofL l n = (l[placeF l n]'h).ep) ∨ (hasF l n = false ∧ ofL l n = topL l) := by
 have hh := has_place hr n _ rfl
 cases hf : l[placeF l n]? with
 | none =>
  rw [hf] at hh
  refine Or.inr ⟨hh, of_none fun f hm e => ?_⟩
  unfold hasF at hh
  have := List.any_eq_false.1 hh f hm
  simp [e] at this
 | some g =>
  rw [hf] at hh
  obtain ⟨hk, hg⟩ := List.getElem?_eq_some_iff.1 hf
  by_cases e : g.nm = n
  ·
   refine Or.inl ⟨by rw [hh]; exact decide_eq_true e, hk, ?_⟩
   rw [hg, ← of_mem hr (by rw [← hg]; exact List.getElem_mem _), e]
  ·
   have h0 : hasF l n = false := by rw [hh]; exact decide_eq_false e
   refine Or.inr ⟨h0, of_none fun f hm e2 => ?_⟩
   unfold hasF at h0
   have := List.any_eq_false.1 h0 f hm
   simp [e2] at this
set_option maxRecDepth 100000 in
set_option maxHeartbeats 1000000 in
theorem floorOf_any (v : Value) (l : List Fl) (name : ByteArray) (w : World) (hv : FlAt w v l) (hr : RisingF l) (hl : l.length ≤ 1000000) :
  Calls Tryz.prog 19 #[v, .string name] w fun e w' => e = .returned (.int .i64 (ofL l name.data.toList)) ∧ Below w.heap.size w w' := by
 have H := hide (find_any v l name w hv hr hl)
 have HT := hide (fun w h => ofAll_any v l w h hl)
 have HV := hide hv
 rcases of_place hr name.data.toList with ⟨h1, hp, h2⟩ | ⟨h1, h2⟩
 ·
  rw [h1] at H
  rw [h2]
  obtain ⟨b, off, cap, rfl, hc, hb, hcell⟩ := hv.at (by omega)
  have c1 := (hcell _ hp).2
  generalize hpl : placeF l name.data.toList = pl at *
  generalize hep : (l[pl]'hp).ep = ep at *
  have HC := hide c1
  have HBl := hide hb
  clear hcell h1 h2 hv hr c1 hpl hep HT HV hb
  generalize l.length = n at *
  have hpz : (pl : Int) < (n : Int) := by omega
  go_enter Tryz.func19, Tryz.ntmps19
  go_wp2_with fail
  refine H.out.mono ?_
  rintro e w1 ⟨rfl, hb⟩
  have hc1 : w1.cell? ⟨b, off + pl * 2 + 1, none⟩ = some (.int .i64 ep) := by rw [hb.cell (p := ⟨b, off + pl * 2 + 1, none⟩) HBl.out]; exact HC.out
  have HB := hide hb
  clear hb
  go_wp2
  go_ret
  exact ⟨rfl, HB.out⟩
 ·
  rw [h1] at H
  rw [h2]
  clear h1 h2 hv hr
  generalize placeF l name.data.toList = pl at *
  go_enter Tryz.func19, Tryz.ntmps19
  go_wp2_with fail
  refine H.out.mono ?_
  rintro e w1 ⟨rfl, hb⟩
  have HB := hide hb
  clear hb
  go_wp2_with fail
  refine (HT.out _ (HV.out.below HB.out)).mono ?_
  rintro e w2 ⟨rfl, rfl⟩
  go_wp2
  go_ret
  exact ⟨rfl, HB.out⟩
set_option maxRecDepth 100000 in
set_option maxHeartbeats 1000000 in
theorem passes_any (v : Value) (l : List Fl) (name : ByteArray) (epoch : Int) (w : World) (hv : FlAt w v l) (hr : RisingF l) (hl : l.length ≤ 1000000) :
  Calls Tryz.prog 18 #[v, .string name, .int .i64 epoch] w fun e w' => e = .returned (.bool (decide (ofL l name.data.toList ≤ epoch))) ∧ Below w.heap.size w w' := by
 have H := hide (floorOf_any v l name w hv hr hl)
 clear hv hr
 generalize ofL l name.data.toList = m at *
 go_enter Tryz.func18, Tryz.ntmps18
 go_wp2_with fail
 refine H.out.mono ?_
 rintro e w' ⟨rfl, hb⟩
 go_wp2
 go_ret
 exact ⟨rfl, hb⟩
def CheckedPost (a : Nat → Addr) (v : Value) (c : Nat × Int) (e : Ending) (w' : World) : Prop := (c.1 = 0 ∧ e = .returned (.tuple #[v, .nilIface])) ∨ (c.1 ≠ 0 ∧ ∃ ev, e = .returned (.tuple #[.slice none 0 0, ev]) ∧ (∃ t p, ev = .iface t p) ∧ FlErr a w' c ev)
theorem CheckedPost.yes {a : Nat → Addr} {v : Value} {c : Nat × Int} {e : Ending} {w' : World} (h : CheckedPost a v c e w') (h0 : c.1 = 0) : e = .returned (.tuple #[v, .nilIface]) := by
 rcases h with ⟨_, h⟩ | ⟨h, _⟩
 ·
  exact h
 ·
  exact absurd h0 h
theorem CheckedPost.no {a : Nat → Addr} {v : Value} {c : Nat × Int} {e : Ending} {w' : World} (h : CheckedPost a v c e w') (h0 : c.1 ≠ 0) : ∃ t p, e = .returned (.tuple #[.slice none 0 0, .iface t p]) ∧ FlErr a w' c (.iface t p) := by
 rcases h with ⟨h, _⟩ | ⟨_, ev, h1, ⟨t, p, rfl⟩, h2⟩
 ·
  exact absurd h h0
 ·
  exact ⟨t, p, h1, h2⟩
set_option maxRecDepth 100000 in
set_option maxHeartbeats 1000000 in
theorem checked_fl (a : Nat → Addr) (v : Value) (l : List Fl) (w : World) (h : EV flS a w) (hv : FlAt w v l) (hs : ∀ f ∈ l, f.who.size ≤ maxLen) (hl : l.length ≤ 1000000) :
  Calls Tryz.prog 109 #[v] w fun e w' => CheckedPost a v (checkL l) e w' ∧ Below w.heap.size w w' := by
 have H := hide (check_any a v l w h hv hs hl)
 clear h hv hs
 generalize checkL l = c at *
 go_enter Tryz.func109, Tryz.ntmps109
 go_wp2_with fail
 refine H.out.mono ?_
 rintro e w1 ⟨ev, rfl, he, hb⟩
 have HE := hide he
 rcases he.cases with ⟨h0, rfl⟩ | ⟨h0, t, p, rfl⟩
 ·
  clear he
  go_wp2
  go_ret2
  exact ⟨Or.inl ⟨h0, rfl⟩, hb⟩
 ·
  clear he
  go_wp2
  go_ret2
  exact ⟨Or.inr ⟨h0, _, rfl, ⟨_, _, rfl⟩, HE.out⟩, hb⟩
end Go.Proofs.YtabpnjchocgakaaGreatDoor

/-
  The small functions of the chapter's statements: floors that are too long, floors that are the same, floors of own memory, and the closed fact that a floor is raised.
-/
import Derived.Test.YtgkkffcbneabkabGreatDoorFloorRaise
namespace Go.Proofs.YtgkkffcbneabkabGreatDoor
open Go.RowKit Go.Extern.Stop Go.Stop Go.Extern Go.Proofs

/-- Too many, or too long. -/
def longF (l : List Fl) : Bool := decide (25 < l.length) || l.any (fun f => decide (20 < f.who.size))
theorem longF_no {l : List Fl} (h : longF l = false) : l.length ≤ 25 ∧ ∀ f ∈ l, f.who.size ≤ 20 := by
  unfold longF at h
  simp only [Bool.or_eq_false_iff, decide_eq_false_iff_not, Nat.not_lt, List.any_eq_false, decide_eq_true_eq] at h
  exact h

set_option maxRecDepth 100000 in
set_option maxHeartbeats 2000000 in
theorem longFloors_any (v : Value) (l : List Fl) (w : World) (hv : FlAt w v l) :
    Calls Tryz.prog 23 #[v] w fun e w' => e = .returned (.int .i64 (if longF l = true then 1 else 0)) ∧ w' = w := by
  obtain ⟨ad, cap, rfl, hc⟩ := hv.form
  have HV := hide hv
  by_cases h25 : 25 < l.length
  · rw [if_pos (by unfold longF; rw [decide_eq_true h25]; rfl)]
    generalize l.length = n at *
    have hz : (25 : Int) < (n : Int) := by omega
    clear hv
    go_enter Tryz.func23, Tryz.ntmps23
    go_wp2
    go_ret
    exact ⟨rfl, rfl⟩
  · have HQ : Hid (longF l = l.any (fun f => decide (20 < f.who.size))) := by show _ = _; unfold longF; rw [decide_eq_false h25]; rfl
    generalize hr : (if longF l = true then (1 : Int) else 0) = r
    have HR := hide hr
    generalize hn : l.length = n at *
    have HN := hide hn
    have hz : ¬ (25 : Int) < (n : Int) := by omega
    clear hv hr hn
    go_enter Tryz.func23, Tryz.ntmps23
    go_wp2
    go_loop [3] (fun i => ∃ k : Nat, k ≤ n ∧ i = .int .i64 k ∧ Hid (∀ j (hj : j < l.length), j < k → l[j].who.size ≤ 20)) (fun i => n - (intOf i).toNat)
    case atStart => exact ⟨0, Nat.zero_le _, rfl, fun j _ hj => absurd hj (Nat.not_lt_zero _)⟩
    case round =>
      obtain ⟨k, hk, rfl, A⟩ := hrel
      by_cases hlt : k < n
      · have hkl : k < l.length := by rw [HN.out]; exact hlt
        have hvr := HV.out
        rw [← HN.out] at hvr
        obtain ⟨b, off, cap', e, hc', hb, hcell⟩ := hvr.at (by omega)
        injection e with e1 e2 e3
        subst e1; subst e3
        obtain ⟨c0, c1⟩ := hcell k hkl
        have hltz : (k : Int) < (n : Int) := by omega
        by_cases h20 : 20 < (l[k]'hkl).who.size
        · have hr1 : r = 1 := by
            rw [← HR.out, if_pos]
            rw [HQ.out, List.any_eq_true]
            exact ⟨_, List.getElem_mem hkl, by simpa using h20⟩
          have HR1 := hide hr1
          clear hcell hvr hr1
          generalize (l[k]'hkl).who = who at c0 h20
          have h20z : (20 : Int) < (who.size : Int) := by omega
          go_wp2
          go_ret
          exact ⟨by rw [HR1.out]; rfl, rfl⟩
        · have H20 := hide (Nat.not_lt.1 h20)
          clear hcell hvr
          generalize (l[k]'hkl).who = who at c0 h20
          have h20z : ¬ (20 : Int) < (who.size : Int) := by omega
          go_wp2
          go_round
          case rel =>
            refine ⟨k + 1, by omega, by go_num, (show Hid _ from fun j hj hjk => ?_)⟩
            by_cases e : j = k
            · subst e; exact H20.out
            · exact A.out j hj (by omega)
          case measure => simp [intOf]; omega
      · obtain rfl : k = n := by omega
        have hltz : ¬ (k : Int) < (k : Int) := by omega
        have hr0 : r = 0 := by
          rw [← HR.out, if_neg]
          rw [HQ.out, Bool.not_eq_true, List.any_eq_false]
          intro f hf
          obtain ⟨j, hj, rfl⟩ := List.getElem_of_mem hf
          have := A.out j hj (by rw [← HN.out]; exact hj)
          simp only [decide_eq_true_eq]
          omega
        have HR0 := hide hr0
        clear hr0
        go_wp2
        go_ret
        exact ⟨by rw [HR0.out]; rfl, rfl⟩

set_option maxRecDepth 100000 in
set_option maxHeartbeats 2000000 in
theorem sameFloors_eq (v1 v2 : Value) (l : List Fl) (w : World) (h1 : FlAt w v1 l) (h2 : FlAt w v2 l) (hl : l.length ≤ 1000000) :
    Calls Tryz.prog 35 #[v1, v2] w fun e w' => e = .returned (.bool true) ∧ Below w.heap.size w w' := by
  obtain ⟨ad1, cap1, rfl, hc1⟩ := h1.form
  obtain ⟨ad2, cap2, rfl, hc2⟩ := h2.form
  have H1 := hide h1
  have H2 := hide h2
  clear h1 h2
  generalize hn : l.length = n at *
  have HN := hide hn
  clear hn
  go_enter Tryz.func35, Tryz.ntmps35
  go_wp2
  go_loopw [5] (fun i wr => ∃ k q : Nat, k ≤ n ∧ i = .int .i64 k ∧ wr = w.drewN q) (fun i _ => n - (intOf i).toNat)
  case atStart => exact ⟨0, 0, Nat.zero_le _, rfl, rfl⟩
  case round =>
    obtain ⟨k, q, hk, rfl, rfl⟩ := hrel
    by_cases hlt : k < n
    · have hkl : k < l.length := by rw [HN.out]; exact hlt
      have hv1 := H1.out
      have hv2 := H2.out
      rw [← HN.out] at hv1 hv2
      obtain ⟨b1, off1, cap1', e, _, _, hcell1⟩ := hv1.at (by omega)
      injection e with e1 e2 e3
      subst e1; subst e3
      obtain ⟨b2, off2, cap2', e, _, _, hcell2⟩ := hv2.at (by omega)
      injection e with e1 e2 e3
      subst e1; subst e3
      obtain ⟨x0, x1⟩ := hcell1 k hkl
      obtain ⟨y0, y1⟩ := hcell2 k hkl
      clear hcell1 hcell2 hv1 hv2
      generalize (l[k]'hkl).who = who at *
      generalize (l[k]'hkl).ep = ep at *
      go_wp2
      go_quiet (fail)
      go_wp2
      go_roundw
      case rel => exact ⟨k + 1, q + nq, by omega, by go_num, rfl⟩
      case measure => simp [intOf]; omega
    · go_wp2
      go_ret
      exact ⟨rfl, below_drewN (Below.refl _ _) _⟩

/-- ann, bob and all. -/
abbrev fAnn : ByteArray := { data := #[97, 110, 110] }
abbrev fBob : ByteArray := { data := #[98, 111, 98] }
abbrev fAll : ByteArray := { data := #[42] }
theorem right_ann : RightF [⟨fAnn, 2⟩] where
  one f hf := by
    obtain rfl : f = ⟨fAnn, 2⟩ := by simpa using hf
    rfl
  rising := by simp
  above f hf := by
    obtain rfl : f = ⟨fAnn, 2⟩ := by simpa using hf
    exact Or.inr (by decide)
theorem raised_ann : raisedL [⟨fAnn, 2⟩] ⟨fAll, 3⟩ = [⟨fAll, 3⟩] := by rfl
theorem right_all : RightF [⟨fAll, 3⟩] := raised_ann ▸ right_raised right_ann (f := ⟨fAll, 3⟩) rfl
theorem raiseC_right {l : List Fl} {f : Fl} (h : RightF l) (hl : l.length ≤ 21) (hf : oneE f = 0) : raiseC l f = if 21 < (raisedL l f).length then (7, -1) else (0, -1) := by
  have h0 : checkL l = (0, -1) := by rw [check_right h, if_neg (by omega)]
  unfold raiseC
  rw [h0, if_pos rfl, if_pos hf, check_right (right_raised h hf)]
theorem raiseC_zero {l : List Fl} {f : Fl} (h : (raiseC l f).1 = 0) : RightF l ∧ oneE f = 0 ∧ RightF (raisedL l f) ∧ l.length ≤ 21 ∧ (raisedL l f).length ≤ 21 ∧ raiseR l f = raisedL l f := by
  have hR : raiseR l f = raisedL l f := if_pos h
  unfold raiseC at h
  split at h
  · rename_i h1
    split at h
    · rename_i h2
      exact ⟨(right_of_check h1).1, h2, (right_of_check h).1, (right_of_check h1).2, (right_of_check h).2, hR⟩
    · rename_i h2; exact absurd h h2
  · rename_i h1; exact absurd h h1
theorem raiseR_bad {l : List Fl} {f : Fl} (h : (raiseC l f).1 ≠ 0) : raiseR l f = [] := if_neg h

set_option maxRecDepth 100000 in
set_option maxHeartbeats 4000000 in
theorem floored_any (a : Nat → Addr) (w : World) (hE : EV flS a w) :
    Calls Tryz.prog 22 #[] w fun e w' => e = .returned (.bool true) ∧ Below w.heap.size w w' := by
  have hc : (raiseC [⟨fAnn, 2⟩] ⟨fAll, 3⟩).1 = 0 := by rw [raiseC_right right_ann (by decide) rfl, raised_ann]; rfl
  have hr := (raiseC_zero hc).2.2.2.2.2
  rw [raised_ann] at hr
  have HB0 : Hid (Below w.heap.size w (w.alloc (.cells #[.string fAnn, .int .i64 2] 51))) := (Below.refl _ _).alloc (Nat.le_refl _) _
  have HFl : Hid (FlAt (w.alloc (.cells #[.string fAnn, .int .i64 2] 51)) (.slice (some ⟨w.heap.size, 0, none⟩) 1 1) [⟨fAnn, 2⟩]) := Or.inr ⟨w.heap.size, 0, 1, rfl, by decide, fun j u hu => by
    rw [Nat.zero_add, cell_of_row _ _ j _ _ _ (heap_alloc_new w (.cells #[.string fAnn, .int .i64 2] 51))]
    rw [show cellsF [⟨fAnn, 2⟩] = (#[.string fAnn, .int .i64 2] : Array Value).toList from rfl, Array.getElem?_toList] at hu
    exact hu⟩
  have HRa := hide (raise_any a (.slice (some ⟨w.heap.size, 0, none⟩) 1 1) [⟨fAnn, 2⟩] ⟨fAll, 3⟩ _ (hE.below HB0.out) HFl.out (fun g hg => by
    obtain rfl : g = ⟨fAnn, 2⟩ := by simpa using hg
    decide) (by decide) (by decide))
  rw [hr] at HRa
  have HP1 := hide (fun v w h => passes_any v [⟨fAll, 3⟩] fAnn 2 w h right_all.rising (by decide))
  have HP2 := hide (fun v w h => passes_any v [⟨fAll, 3⟩] fBob 3 w h right_all.rising (by decide))
  rw [show decide (ofL [⟨fAll, 3⟩] fAnn.data.toList ≤ 2) = false from rfl] at HP1
  rw [show decide (ofL [⟨fAll, 3⟩] fBob.data.toList ≤ 3) = true from rfl] at HP2
  have HC := hide hc
  unfold Fl.val at HRa
  generalize raiseC [⟨fAnn, 2⟩] ⟨fAll, 3⟩ = c at *
  clear hE hc hr HFl
  go_enter Tryz.func22, Tryz.ntmps22
  go_wp2_with fail
  refine HRa.out.mono ?_
  rintro e w1 ⟨⟨v1, ev, rfl, hown, herr, _⟩, hb⟩
  obtain rfl := herr.none HC.out
  have HB1 : Hid (Below w.heap.size w w1) := HB0.out.trans (hb.mono HB0.out.size)
  have HFl := hide hown.flAt
  obtain ⟨b, off, cap, rfl, hcp, hbl, hcell⟩ := hown.flAt.at (by decide)
  obtain ⟨c0, c1⟩ := hcell 0 (by decide)
  simp only [List.getElem_cons_zero, Nat.zero_mul, Nat.add_zero] at c0 c1
  clear hcell hown herr hb
  go_wp2_with fail
  refine (HP1.out _ _ HFl.out).mono ?_
  rintro e w2 ⟨rfl, hb⟩
  have HB2 : Hid (Below w.heap.size w w2) := HB1.out.trans (hb.mono HB1.out.size)
  have HFl2 := hide (HFl.out.below hb)
  clear hb
  go_wp2_with fail
  refine (HP2.out _ _ HFl2.out).mono ?_
  rintro e w3 ⟨rfl, hb⟩
  have HB3 : Hid (Below w.heap.size w w3) := HB2.out.trans (hb.mono HB2.out.size)
  clear hb
  go_wp2
  go_ret
  exact ⟨rfl, HB3.out⟩
end Go.Proofs.YtgkkffcbneabkabGreatDoor

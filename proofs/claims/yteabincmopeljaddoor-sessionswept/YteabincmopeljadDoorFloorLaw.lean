/-
  The small functions of the chapter's statements: floors that are too long, floors that are the same, floors of own memory, and the closed fact that a floor is raised.
-/
import Derived.Test.YteabincmopeljadDoorFloorRaise
namespace Go.Proofs.YteabincmopeljadDoor
open Go.RowKit Go.Extern.Stop Go.Stop Go.Extern Go.Proofs

/-- Too many, or too long. -/
def longF (l : List Fl) : Bool := decide (25 < l.length) || l.any (fun f => decide (20 < f.who.size))
theorem longF_no {l : List Fl} (h : longF l = false) : l.length ≤ 25 ∧ ∀ f ∈ l, f.who.size ≤ 20 := by
  unfold longF at h
  simp only [Bool.or_eq_false_iff, decide_eq_false_iff_not, Nat.not_lt, List.any_eq_false, decide_eq_true_eq] at h
  exact h

set_option maxRecDepth 100000 in
set_option maxHeartbeats 2000000 in
theorem longFloors_any (v : Value) (l : List Fl) (w : World) (hv : FlAt w v l) :
    Calls Tryd.prog 18 #[v] w fun e w' => e = .returned (.int .i64 (if longF l = true then 1 else 0)) ∧ w' = w := by
  obtain ⟨ad, cap, rfl, hc⟩ := hv.form
  have HV := hide hv
  by_cases h25 : 25 < l.length
  · rw [if_pos (by unfold longF; rw [decide_eq_true h25]; rfl)]
    generalize l.length = n at *
    have hz : (25 : Int) < (n : Int) := by omega
    clear hv
    go_enter Tryd.func18, Tryd.ntmps18
    go_wp2
    go_ret
    exact ⟨rfl, rfl⟩
  · have HQ : Hid (longF l = l.any (fun f => decide (20 < f.who.size))) := by show _ = _; unfold longF; rw [decide_eq_false h25]; rfl
    generalize hr : (if longF l = true then (1 : Int) else 0) = r
    have HR := hide hr
    generalize hn : l.length = n at *
    have HN := hide hn
    have hz : ¬ (25 : Int) < (n : Int) := by omega
    clear hv hr hn
    go_enter Tryd.func18, Tryd.ntmps18
    go_wp2
    go_loop [3] (fun i => ∃ k : Nat, k ≤ n ∧ i = .int .i64 k ∧ Hid (∀ j (hj : j < l.length), j < k → l[j].who.size ≤ 20)) (fun i => n - (intOf i).toNat)
    case atStart => exact ⟨0, Nat.zero_le _, rfl, fun j _ hj => absurd hj (Nat.not_lt_zero _)⟩
    case round =>
      obtain ⟨k, hk, rfl, A⟩ := hrel
      by_cases hlt : k < n
      · have hkl : k < l.length := by rw [HN.out]; exact hlt
        have hvr := HV.out
        rw [← HN.out] at hvr
        obtain ⟨b, off, cap', e, hc', hb, hcell⟩ := hvr.at (by omega)
        injection e with e1 e2 e3
        subst e1; subst e3
        obtain ⟨c0, c1⟩ := hcell k hkl
        have hltz : (k : Int) < (n : Int) := by omega
        by_cases h20 : 20 < (l[k]'hkl).who.size
        · have hr1 : r = 1 := by
            rw [← HR.out, if_pos]
            rw [HQ.out, List.any_eq_true]
            exact ⟨_, List.getElem_mem hkl, by simpa using h20⟩
          have HR1 := hide hr1
          clear hcell hvr hr1
          generalize (l[k]'hkl).who = who at c0 h20
          have h20z : (20 : Int) < (who.size : Int) := by omega
          go_wp2
          go_ret
          exact ⟨by rw [HR1.out]; rfl, rfl⟩
        · have H20 := hide (Nat.not_lt.1 h20)
          clear hcell hvr
          generalize (l[k]'hkl).who = who at c0 h20
          have h20z : ¬ (20 : Int) < (who.size : Int) := by omega
          go_wp2
          go_round
          case rel =>
            refine ⟨k + 1, by omega, by go_num, (show Hid _ from fun j hj hjk => ?_)⟩
            by_cases e : j = k
            · subst e; exact H20.out
            · exact A.out j hj (by omega)
          case measure => simp [intOf]; omega
      · obtain rfl : k = n := by omega
        have hltz : ¬ (k : Int) < (k : Int) := by omega
        have hr0 : r = 0 := by
          rw [← HR.out, if_neg]
          rw [HQ.out, Bool.not_eq_true, List.any_eq_false]
          intro f hf
          obtain ⟨j, hj, rfl⟩ := List.getElem_of_mem hf
          have := A.out j hj (by rw [← HN.out]; exact hj)
          simp only [decide_eq_true_eq]
          omega
        have HR0 := hide hr0
        clear hr0
        go_wp2
        go_ret
        exact ⟨by rw [HR0.out]; rfl, rfl⟩

/-- ann, bob and all. -/
abbrev fAnn : ByteArray := { data := #[97, 110, 110] }
abbrev fBob : ByteArray := { data := #[98, 111, 98] }
abbrev fAll : ByteArray := { data := #[42] }
theorem right_ann : RightF [⟨fAnn, 2⟩] where
  one f hf := by
    obtain rfl : f = ⟨fAnn, 2⟩ := by simpa using hf
    rfl
  rising := by simp
  above f hf := by
    obtain rfl : f = ⟨fAnn, 2⟩ := by simpa using hf
    exact Or.inr (by decide)
theorem raised_ann : raisedL [⟨fAnn, 2⟩] ⟨fAll, 3⟩ = [⟨fAll, 3⟩] := by rfl
theorem right_all : RightF [⟨fAll, 3⟩] := raised_ann ▸ right_raised right_ann (f := ⟨fAll, 3⟩) rfl
theorem raiseC_right {l : List Fl} {f : Fl} (h : RightF l) (hl : l.length ≤ 21) (hf : oneE f = 0) : raiseC l f = if 21 < (raisedL l f).length then (7, -1) else (0, -1) := by
  have h0 : checkL l = (0, -1) := by rw [check_right h, if_neg (by omega)]
  unfold raiseC
  rw [h0, if_pos rfl, if_pos hf, check_right (right_raised h hf)]
theorem raiseC_zero {l : List Fl} {f : Fl} (h : (raiseC l f).1 = 0) : RightF l ∧ oneE f = 0 ∧ RightF (raisedL l f) ∧ l.length ≤ 21 ∧ (raisedL l f).length ≤ 21 ∧ raiseR l f = raisedL l f := by
  have hR : raiseR l f = raisedL l f := if_pos h
  unfold raiseC at h
  split at h
  · rename_i h1
    split at h
    · rename_i h2
      exact ⟨(right_of_check h1).1, h2, (right_of_check h).1, (right_of_check h1).2, (right_of_check h).2, hR⟩
    · rename_i h2; exact absurd h h2
  · rename_i h1; exact absurd h h1
theorem raiseR_bad {l : List Fl} {f : Fl} (h : (raiseC l f).1 ≠ 0) : raiseR l f = [] := if_neg h

end Go.Proofs.YteabincmopeljadDoor

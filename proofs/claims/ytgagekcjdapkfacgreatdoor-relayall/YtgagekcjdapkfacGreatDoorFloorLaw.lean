/-
  The small functions of the chapter's statements: floors that are too long, floors that are the same, floors of own memory, and the closed fact that a floor is raised.
-/
import Derived.Test.YtgagekcjdapkfacGreatDoorFloorRaise
namespace Go.Proofs.YtgagekcjdapkfacGreatDoor
open Go.RowKit Go.Extern.Stop Go.Stop Go.Extern Go.Proofs

/-- Too many, or too long. -/
def longF (l : List Fl) : Bool := decide (25 < l.length) || l.any (fun f => decide (20 < f.who.size))
theorem longF_no {l : List Fl} (h : longF l = false) : l.length ≤ 25 ∧ ∀ f ∈ l, f.who.size ≤ 20 := by
  unfold longF at h
  simp only [Bool.or_eq_false_iff, decide_eq_false_iff_not, Nat.not_lt, List.any_eq_false, decide_eq_true_eq] at h
  exact h

set_option maxRecDepth 100000 in
set_option maxHeartbeats 2000000 in
theorem sameFloors_eq (v1 v2 : Value) (l : List Fl) (w : World) (h1 : FlAt w v1 l) (h2 : FlAt w v2 l) (hl : l.length ≤ 1000000) :
    Calls Tryz.prog 25 #[v1, v2] w fun e w' => e = .returned (.bool true) ∧ Below w.heap.size w w' := by
  obtain ⟨ad1, cap1, rfl, hc1⟩ := h1.form
  obtain ⟨ad2, cap2, rfl, hc2⟩ := h2.form
  have H1 := hide h1
  have H2 := hide h2
  clear h1 h2
  generalize hn : l.length = n at *
  have HN := hide hn
  clear hn
  go_enter Tryz.func25, Tryz.ntmps25
  go_wp2
  go_loopw [5] (fun i wr => ∃ k q : Nat, k ≤ n ∧ i = .int .i64 k ∧ wr = w.drewN q) (fun i _ => n - (intOf i).toNat)
  case atStart => exact ⟨0, 0, Nat.zero_le _, rfl, rfl⟩
  case round =>
    obtain ⟨k, q, hk, rfl, rfl⟩ := hrel
    by_cases hlt : k < n
    · have hkl : k < l.length := by rw [HN.out]; exact hlt
      have hv1 := H1.out
      have hv2 := H2.out
      rw [← HN.out] at hv1 hv2
      obtain ⟨b1, off1, cap1', e, _, _, hcell1⟩ := hv1.at (by omega)
      injection e with e1 e2 e3
      subst e1; subst e3
      obtain ⟨b2, off2, cap2', e, _, _, hcell2⟩ := hv2.at (by omega)
      injection e with e1 e2 e3
      subst e1; subst e3
      obtain ⟨x0, x1⟩ := hcell1 k hkl
      obtain ⟨y0, y1⟩ := hcell2 k hkl
      clear hcell1 hcell2 hv1 hv2
      generalize (l[k]'hkl).who = who at *
      generalize (l[k]'hkl).ep = ep at *
      go_wp2
      go_quiet (fail)
      go_wp2
      go_roundw
      case rel => exact ⟨k + 1, q + nq, by omega, by go_num, rfl⟩
      case measure => simp [intOf]; omega
    · go_wp2
      go_ret
      exact ⟨rfl, below_drewN (Below.refl _ _) _⟩

/-- ann, bob and all. -/
abbrev fAnn : ByteArray := { data := #[97, 110, 110] }
abbrev fBob : ByteArray := { data := #[98, 111, 98] }
abbrev fAll : ByteArray := { data := #[42] }
theorem right_ann : RightF [⟨fAnn, 2⟩] where
  one f hf := by
    obtain rfl : f = ⟨fAnn, 2⟩ := by simpa using hf
    rfl
  rising := by simp
  above f hf := by
    obtain rfl : f = ⟨fAnn, 2⟩ := by simpa using hf
    exact Or.inr (by decide)
theorem raised_ann : raisedL [⟨fAnn, 2⟩] ⟨fAll, 3⟩ = [⟨fAll, 3⟩] := by rfl
theorem right_all : RightF [⟨fAll, 3⟩] := raised_ann ▸ right_raised right_ann (f := ⟨fAll, 3⟩) rfl
theorem raiseC_right {l : List Fl} {f : Fl} (h : RightF l) (hl : l.length ≤ 21) (hf : oneE f = 0) : raiseC l f = if 21 < (raisedL l f).length then (7, -1) else (0, -1) := by
  have h0 : checkL l = (0, -1) := by rw [check_right h, if_neg (by omega)]
  unfold raiseC
  rw [h0, if_pos rfl, if_pos hf, check_right (right_raised h hf)]
theorem raiseC_zero {l : List Fl} {f : Fl} (h : (raiseC l f).1 = 0) : RightF l ∧ oneE f = 0 ∧ RightF (raisedL l f) ∧ l.length ≤ 21 ∧ (raisedL l f).length ≤ 21 ∧ raiseR l f = raisedL l f := by
  have hR : raiseR l f = raisedL l f := if_pos h
  unfold raiseC at h
  split at h
  · rename_i h1
    split at h
    · rename_i h2
      exact ⟨(right_of_check h1).1, h2, (right_of_check h).1, (right_of_check h1).2, (right_of_check h).2, hR⟩
    · rename_i h2; exact absurd h h2
  · rename_i h1; exact absurd h h1
theorem raiseR_bad {l : List Fl} {f : Fl} (h : (raiseC l f).1 ≠ 0) : raiseR l f = [] := if_neg h

end Go.Proofs.YtgagekcjdapkfacGreatDoor

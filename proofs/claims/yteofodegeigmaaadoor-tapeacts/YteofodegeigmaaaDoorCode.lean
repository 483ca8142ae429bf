/-
  What plain.Code answers: (0, -1) for nil, an error's number and -1 for one of package api's errors, (-1, -1) for another one of errors.New's make, an error's number and the place for an *api.Fault over one of them.
-/
import Derived.Test.YteofodegeigmaaaDoorErrs
namespace Go.Proofs.YteofodegeigmaaaDoor
open Go.RowKit Go.Extern.Stop Go.Stop Go.Extern

/-- The number of the error at place i. -/
def codeOf (i : Nat) : Int := if i < 16 then (i : Int) + 1 else -1

theorem code_nil (w : World) :
    Calls Tryd.prog 23 #[.nilIface] w fun e w' => e = .returned (.tuple #[.int .i64 0, .int .i64 (-1)]) ∧ w' = w := by
  go_enter Tryd.func23, Tryd.ntmps23
  go_wp2
  go_ret2
  exact ⟨rfl, rfl⟩

/-- The block of the sixteen. -/
def errsBlock (a : Nat → Addr) : Obj := .cells #[eV (a 0), eV (a 1), eV (a 2), eV (a 3), eV (a 4), eV (a 5), eV (a 6), eV (a 7), eV (a 8), eV (a 9), eV (a 10), eV (a 11), eV (a 12), eV (a 13), eV (a 14), eV (a 15)] 26 (0, 0)

theorem errsBlock_cell (a : Nat → Addr) (w : World) (k : Nat) (hk : k < 16) : (w.alloc (errsBlock a)).cell? ⟨w.heap.size, k, none⟩ = some (eV (a k)) := by
  have : k = 0 ∨ k = 1 ∨ k = 2 ∨ k = 3 ∨ k = 4 ∨ k = 5 ∨ k = 6 ∨ k = 7 ∨ k = 8 ∨ k = 9 ∨ k = 10 ∨ k = 11 ∨ k = 12 ∨ k = 13 ∨ k = 14 ∨ k = 15 := by omega
  unfold errsBlock
  rcases this with rfl | rfl | rfl | rfl | rfl | rfl | rfl | rfl | rfl | rfl | rfl | rfl | rfl | rfl | rfl | rfl <;> simp

set_option maxHeartbeats 1000000 in
theorem code_plain (a : Nat → Addr) (p : Addr) (i : Nat) (w : World) (h : Errs a w) (hIs : ∀ w', Below w.heap.size w w' → IsAt (eV p) i a w') :
    Calls Tryd.prog 23 #[eV p] w fun e w' => e = .returned (.tuple #[.int .i64 (codeOf i), .int .i64 (-1)]) ∧ Below w.heap.size w w' := by
  have HE : Hid (Errs a w) := h
  have HI : Hid (∀ w', Below w.heap.size w w' → IsAt (eV p) i a w') := hIs
  have hg : (w.alloc (.cells #[.pointer none] 65)).cell? ⟨16, 0, none⟩ = some (.iface 95 (.agg #[.pointer (some ⟨23, 26, none⟩)])) := by
    rw [World.cell?_alloc_lt _ _ ⟨16, 0, none⟩ (cell_lt h.typ)]; exact h.typ
  clear h hIs
  go_enter Tryd.func23, Tryd.ntmps23
  go_wp2_with fail
  refine (as_miss p _ _ hg).mono ?_
  rintro e w1 ⟨rfl, hw1⟩
  have hb : Below w.heap.size w w1 := by rw [hw1]; exact ((Below.refl _ _).alloc (Nat.le_refl _) _).trans ((asMissW_below _ _).mono (by simp))
  clear hw1 hg
  have h1 : Errs a w1 := HE.out.below hb
  have HB : Hid (Below w.heap.size w w1) := hb
  have v0 := h1.var 0 (by decide)
  have v1 := h1.var 1 (by decide)
  have v2 := h1.var 2 (by decide)
  have v3 := h1.var 3 (by decide)
  have v4 := h1.var 4 (by decide)
  have v5 := h1.var 5 (by decide)
  have v6 := h1.var 6 (by decide)
  have v7 := h1.var 7 (by decide)
  have v8 := h1.var 8 (by decide)
  have v9 := h1.var 9 (by decide)
  have v10 := h1.var 10 (by decide)
  have v11 := h1.var 11 (by decide)
  have v12 := h1.var 12 (by decide)
  have v13 := h1.var 13 (by decide)
  have v14 := h1.var 14 (by decide)
  have v15 := h1.var 15 (by decide)
  simp only [errG, List.getD_cons_zero, List.getD_cons_succ] at v0 v1 v2 v3 v4 v5 v6 v7 v8 v9 v10 v11 v12 v13 v14 v15
  have hw2 : Below w.heap.size w (w1.alloc (errsBlock a)) := hb.alloc hb.size _
  have HI2 : Hid (IsAt (eV p) i a (w1.alloc (errsBlock a))) := HI.out _ hw2
  have HC : Hid (∀ k, k < 16 → (w1.alloc (errsBlock a)).cell? ⟨w1.heap.size, k, none⟩ = some (eV (a k))) := errsBlock_cell a w1
  have HW : Hid (Below w.heap.size w (w1.alloc (errsBlock a))) := hw2
  clear h1 hb HE HI hw2
  go_wp2_with fail
  have HN : Hid (w1.alloc (errsBlock a) = w1.alloc (.cells #[eV (a 0), eV (a 1), eV (a 2), eV (a 3), eV (a 4), eV (a 5), eV (a 6), eV (a 7), eV (a 8), eV (a 9), eV (a 10), eV (a 11), eV (a 12), eV (a 13), eV (a 14), eV (a 15)] 26 (0, 0))) := rfl
  rw [← HN.out]
  clear v0 v1 v2 v3 v4 v5 v6 v7 v8 v9 v10 v11 v12 v13 v14 v15 HN
  generalize w1.alloc (errsBlock a) = w2 at *
  go_loop [3, 34] (fun r c => ∃ k : Nat, k ≤ 16 ∧ k ≤ i ∧ c = .int .i64 k ∧ r = .int .i64 (-1)) (fun _ c => 16 - (intOf c).toNat)
  case atStart => exact ⟨0, by omega, by omega, rfl, rfl⟩
  case round =>
    obtain ⟨k, hk, hki, rfl, rfl⟩ := hrel
    by_cases hlt : k < 16
    · have hc := HC.out k hlt
      by_cases heq : k = i
      · subst heq
        go_wp2_with (go_at_call 31; refine (HI2.out k hlt).mono ?_; rintro e w' ⟨rfl, rfl⟩)
        go_ret2
        exact ⟨by simp [codeOf, hlt], HW.out⟩
      · have hd : decide (k = i) = false := by simp [heq]
        go_wp2_with (go_at_call 31; refine (HI2.out k hlt).mono ?_; rintro e w' ⟨rfl, rfl⟩)
        go_round
        case rel => exact ⟨k + 1, by omega, by omega, by go_num, rfl⟩
        case measure => simp [intOf]; omega
    · go_wp2
      go_ret2
      exact ⟨by simp [codeOf, show ¬ i < 16 by omega], HW.out⟩
set_option maxHeartbeats 1000000 in
theorem code_fault (a : Nat → Addr) (b o : Nat) (at0 : Int) (i : Nat) (w : World) (h : Errs a w) (hat : w.cell? ⟨b, o, none⟩ = some (.int .i64 at0)) (hIs : ∀ w', Below w.heap.size w w' → IsAt (fV b o) i a w') :
    Calls Tryd.prog 23 #[fV b o] w fun e w' => e = .returned (.tuple #[.int .i64 (codeOf i), .int .i64 at0]) ∧ Below w.heap.size w w' := by
  have HE : Hid (Errs a w) := h
  have HI : Hid (∀ w', Below w.heap.size w w' → IsAt (fV b o) i a w') := hIs
  have hg : (w.alloc (.cells #[.pointer none] 65)).cell? ⟨16, 0, none⟩ = some (.iface 95 (.agg #[.pointer (some ⟨23, 26, none⟩)])) := by
    rw [World.cell?_alloc_lt _ _ ⟨16, 0, none⟩ (cell_lt h.typ)]; exact h.typ
  clear h hIs
  go_enter Tryd.func23, Tryd.ntmps23
  go_wp2_with fail
  refine (as_hit ⟨b, o, none⟩ ⟨w.heap.size, 0, none⟩ (.pointer none) _ hg (by simp) (by simp)).mono ?_
  rintro e w1 ⟨rfl, hw1⟩
  have hb : Below w.heap.size w w1 := by
    rw [hw1]
    exact ((((Below.refl _ _).alloc (Nat.le_refl _) _).trans ((asMissW_below _ _).mono (by simp))).alloc (by simp; omega) _).setCell (Nat.le_refl _) _
  have hfc : w1.cell? ⟨w.heap.size, 0, none⟩ = some (.pointer (some ⟨b, o, none⟩)) := by
    rw [hw1]
    refine World.cell?_setCell_same _ _ _ (u := .pointer none) ?_
    rw [World.cell?_alloc_lt _ _ ⟨w.heap.size, 0, none⟩ (by simp; omega), ((asMissW_below _ _).cell (p := ⟨w.heap.size, 0, none⟩) (by simp))]
    simp
  have hat1 : w1.cell? ⟨b, o, none⟩ = some (.int .i64 at0) := by rw [hb.cell (p := ⟨b, o, none⟩) (cell_lt hat)]; exact hat
  clear hw1 hg hat
  have h1 : Errs a w1 := HE.out.below hb
  have HB : Hid (Below w.heap.size w w1) := hb
  have v0 := h1.var 0 (by decide)
  have v1 := h1.var 1 (by decide)
  have v2 := h1.var 2 (by decide)
  have v3 := h1.var 3 (by decide)
  have v4 := h1.var 4 (by decide)
  have v5 := h1.var 5 (by decide)
  have v6 := h1.var 6 (by decide)
  have v7 := h1.var 7 (by decide)
  have v8 := h1.var 8 (by decide)
  have v9 := h1.var 9 (by decide)
  have v10 := h1.var 10 (by decide)
  have v11 := h1.var 11 (by decide)
  have v12 := h1.var 12 (by decide)
  have v13 := h1.var 13 (by decide)
  have v14 := h1.var 14 (by decide)
  have v15 := h1.var 15 (by decide)
  simp only [errG, List.getD_cons_zero, List.getD_cons_succ] at v0 v1 v2 v3 v4 v5 v6 v7 v8 v9 v10 v11 v12 v13 v14 v15
  have hw2 : Below w.heap.size w (w1.alloc (errsBlock a)) := hb.alloc hb.size _
  have HI2 : Hid (IsAt (fV b o) i a (w1.alloc (errsBlock a))) := HI.out _ hw2
  have HC : Hid (∀ k, k < 16 → (w1.alloc (errsBlock a)).cell? ⟨w1.heap.size, k, none⟩ = some (eV (a k))) := errsBlock_cell a w1
  have HW : Hid (Below w.heap.size w (w1.alloc (errsBlock a))) := hw2
  clear h1 hb HE HI hw2
  go_wp2_with fail
  have HN : Hid (w1.alloc (errsBlock a) = w1.alloc (.cells #[eV (a 0), eV (a 1), eV (a 2), eV (a 3), eV (a 4), eV (a 5), eV (a 6), eV (a 7), eV (a 8), eV (a 9), eV (a 10), eV (a 11), eV (a 12), eV (a 13), eV (a 14), eV (a 15)] 26 (0, 0))) := rfl
  rw [← HN.out]
  clear hfc hat1 v0 v1 v2 v3 v4 v5 v6 v7 v8 v9 v10 v11 v12 v13 v14 v15 HN
  generalize w1.alloc (errsBlock a) = w2 at *
  go_loop [3, 34] (fun r c => ∃ k : Nat, k ≤ 16 ∧ k ≤ i ∧ c = .int .i64 k ∧ r = .int .i64 at0) (fun _ c => 16 - (intOf c).toNat)
  case atStart => exact ⟨0, by omega, by omega, rfl, rfl⟩
  case round =>
    obtain ⟨k, hk, hki, rfl, rfl⟩ := hrel
    by_cases hlt : k < 16
    · have hc := HC.out k hlt
      by_cases heq : k = i
      · subst heq
        go_wp2_with (go_at_call 31; refine (HI2.out k hlt).mono ?_; rintro e w' ⟨rfl, rfl⟩)
        go_ret2
        exact ⟨by simp [codeOf, hlt], HW.out⟩
      · have hd : decide (k = i) = false := by simp [heq]
        go_wp2_with (go_at_call 31; refine (HI2.out k hlt).mono ?_; rintro e w' ⟨rfl, rfl⟩)
        go_round
        case rel => exact ⟨k + 1, by omega, by omega, by go_num, rfl⟩
        case measure => simp [intOf]; omega
    · go_wp2
      go_ret2
      exact ⟨by simp [codeOf, show ¬ i < 16 by omega], HW.out⟩
end Go.Proofs.YteofodegeigmaaaDoor

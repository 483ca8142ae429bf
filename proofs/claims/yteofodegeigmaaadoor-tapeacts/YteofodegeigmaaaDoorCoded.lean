/-
  What the statements' helper 'coded' answers: whether plain.Code tells just that number, and no place; for nil, for each of package api's errors, and for an *api.Fault over one.
-/
import Derived.Test.YteofodegeigmaaaDoorCode
namespace Go.Proofs.YteofodegeigmaaaDoor
open Go.RowKit Go.Extern.Stop Go.Stop Go.Extern

theorem code_err (a : Nat → Addr) (i : Nat) (hi : i < 16) (w : World) (h : Errs a w) :
    Calls Tryd.prog 23 #[eV (a i)] w fun e w' => e = .returned (.tuple #[.int .i64 ((i : Int) + 1), .int .i64 (-1)]) ∧ Below w.heap.size w w' := by
  have := code_plain a (a i) i w h (fun w' hb => (h.below hb).isAt i hi)
  simpa [codeOf, hi] using this

theorem code_at (a : Nat → Addr) (i : Nat) (hi : i < 16) (b o : Nat) (at0 : Int) (w : World) (h : Errs a w) (hat : w.cell? ⟨b, o, none⟩ = some (.int .i64 at0)) (hc : w.cell? ⟨b, o + 1, none⟩ = some (eV (a i))) :
    Calls Tryd.prog 23 #[fV b o] w fun e w' => e = .returned (.tuple #[.int .i64 ((i : Int) + 1), .int .i64 at0]) ∧ Below w.heap.size w w' := by
  have := code_fault a b o at0 i w h hat (fun w' hb => (h.below hb).isAt_fault i hi b o (by rw [hb.cell (p := ⟨b, o + 1, none⟩) (cell_lt hc)]; exact hc))
  simpa [codeOf, hi] using this

/-- 'coded', whatever the error: out of what plain.Code answers. -/
theorem coded_of (ev : Value) (c0 at0 c : Int) (w : World)
    (hc : Calls Tryd.prog 23 #[ev] w fun e w' => e = .returned (.tuple #[.int .i64 c0, .int .i64 at0]) ∧ Below w.heap.size w w') :
    Calls Tryd.prog 14 #[ev, .int .i64 c] w fun e w' => e = .returned (.bool (decide (c0 = c ∧ at0 = -1))) ∧ Below w.heap.size w w' := by
  have HC : Hid (Calls Tryd.prog 23 #[ev] w fun e w' => e = .returned (.tuple #[.int .i64 c0, .int .i64 at0]) ∧ Below w.heap.size w w') := hc
  clear hc
  by_cases h1 : c0 = c
  · have g1 : (c0 == c) = true := by simpa using h1
    by_cases h2 : at0 = -1
    · have g2 : (at0 == -1) = true := by simpa using h2
      have HR : Hid (decide (c0 = c ∧ at0 = -1) = true) := by show decide _ = true; simp [h1, h2]
      clear h1 h2
      go_enter Tryd.func14, Tryd.ntmps14
      go_wp2_with (go_at_call 23; refine HC.out.mono ?_; rintro e w' ⟨rfl, hb⟩)
      go_ret
      exact ⟨by rw [HR.out]; rfl, by assumption⟩
    · have g2 : (at0 == -1) = false := by simpa using h2
      have HR : Hid (decide (c0 = c ∧ at0 = -1) = false) := by show decide _ = false; simp [h2]
      clear h1 h2
      go_enter Tryd.func14, Tryd.ntmps14
      go_wp2_with (go_at_call 23; refine HC.out.mono ?_; rintro e w' ⟨rfl, hb⟩)
      go_ret
      exact ⟨by rw [HR.out]; rfl, by assumption⟩
  · have g1 : (c0 == c) = false := by simpa using h1
    have HR : Hid (decide (c0 = c ∧ at0 = -1) = false) := by show decide _ = false; simp [h1]
    clear h1
    go_enter Tryd.func14, Tryd.ntmps14
    go_wp2_with (go_at_call 23; refine HC.out.mono ?_; rintro e w' ⟨rfl, hb⟩)
    go_ret
    exact ⟨by rw [HR.out]; rfl, by assumption⟩

/-- Nil, against a number. -/
theorem coded_nil (c : Int) (w : World) :
    Calls Tryd.prog 14 #[.nilIface, .int .i64 c] w fun e w' => e = .returned (.bool (decide ((0 : Int) = c))) ∧ Below w.heap.size w w' := by
  have := coded_of .nilIface 0 (-1) c w ((code_nil w).mono (by rintro e w' ⟨rfl, rfl⟩; exact ⟨rfl, Below.refl _ _⟩))
  simpa using this

/-- One of the sixteen, against a number. -/
theorem coded_err (a : Nat → Addr) (i : Nat) (hi : i < 16) (c : Int) (w : World) (h : Errs a w) :
    Calls Tryd.prog 14 #[eV (a i), .int .i64 c] w fun e w' => e = .returned (.bool (decide ((i : Int) + 1 = c))) ∧ Below w.heap.size w w' := by
  have := coded_of (eV (a i)) ((i : Int) + 1) (-1) c w (code_err a i hi w h)
  simpa using this
end Go.Proofs.YteofodegeigmaaaDoor

/-
  The sixteen errors of package api as memory holds them (sixteen pointers, no two the same), and what errors.Is answers between them; it holds in every world that keeps what was there.
-/
import Derived.Test.YteofodegeigmaaaDoorIs
import Derived.Test.YteofodegeigmaaaDoorAs
import Derived.Test.YteofodegeigmaaaDoorBase
import Derived.WalkSpells
namespace Go.Proofs.YteofodegeigmaaaDoor
open Go.RowKit Go.Extern.Stop Go.Stop Go.Extern

/-- The variables of the sixteen errors, in the order of their numbers. -/
def errG : List Nat := [4, 0, 2, 5, 6, 7, 3, 8, 9, 10, 11, 12, 13, 14, 15, 1]

/-- An error of errors.New's make, at an address. -/
abbrev eV (p : Addr) : Value := .iface 138 (.pointer (some p))

structure Errs (a : Nat → Addr) (w : World) : Prop where
  var : ∀ i, i < 16 → w.cell? ⟨errG.getD i 0, 0, none⟩ = some (eV (a i))
  row : ∀ i, i < 16 → ∃ c t, w.heap[(a i).block]? = some (.cells c t (0, 0))
  ne : ∀ i j, i < 16 → j < 16 → i ≠ j → a i ≠ a j
  typ : w.cell? ⟨16, 0, none⟩ = some (.iface 95 (.agg #[.pointer (some ⟨23, 26, none⟩)]))

theorem Errs.below {a : Nat → Addr} {w w' : World} (h : Errs a w) (hb : Below w.heap.size w w') : Errs a w' := by
  refine ⟨fun i hi => ?_, fun i hi => ?_, h.ne, ?_⟩
  · have := h.var i hi
    rw [hb.cell (p := ⟨errG.getD i 0, 0, none⟩) (cell_lt this)]; exact this
  · obtain ⟨c, t, hc⟩ := h.row i hi
    exact ⟨c, t, by rw [hb.block _ (row_lt hc)]; exact hc⟩
  · rw [hb.cell (p := ⟨16, 0, none⟩) (cell_lt h.typ)]; exact h.typ

/-- Of the sixteen those that S names, in their variables: what a row gives that lists no more. -/
structure EV (S : Nat → Bool) (a : Nat → Addr) (w : World) : Prop where
  var : ∀ i, i < 16 → S i = true → w.cell? ⟨errG.getD i 0, 0, none⟩ = some (eV (a i))
theorem EV.below {S : Nat → Bool} {a : Nat → Addr} {w w' : World} (h : EV S a w) (hb : Below w.heap.size w w') : EV S a w' := ⟨fun i hi hs => by
  have := h.var i hi hs
  rw [hb.cell (p := ⟨errG.getD i 0, 0, none⟩) (cell_lt this)]; exact this⟩
theorem Errs.ev {a : Nat → Addr} {w : World} (h : Errs a w) (S : Nat → Bool) : EV S a w := ⟨fun i hi _ => h.var i hi⟩

/-- What errors.Is answers of an error against each of the sixteen: true at i alone (at none, where i is 16 or more). -/
def IsAt (ev : Value) (i : Nat) (a : Nat → Addr) (w : World) : Prop :=
  ∀ j, j < 16 → Calls Tryd.prog 31 #[ev, eV (a j)] w fun e w' => e = .returned (.bool (decide (j = i))) ∧ w' = w

theorem Errs.isAt {a : Nat → Addr} {w : World} (h : Errs a w) (i : Nat) (hi : i < 16) : IsAt (eV (a i)) i a w := by
  intro j hj
  by_cases e : j = i
  · subst e
    refine (is_same (a j) w).mono ?_
    rintro e w' ⟨rfl, rfl⟩
    exact ⟨by simp, rfl⟩
  · obtain ⟨ci, ti, hci⟩ := h.row i hi
    obtain ⟨cj, tj, hcj⟩ := h.row j hj
    refine (is_other (a i) (a j) ci cj ti tj w (h.ne i j hi hj (Ne.symm e)) hci hcj).mono ?_
    rintro e' w' ⟨rfl, rfl⟩
    exact ⟨by simp [e], rfl⟩

/-- An error of errors.New's make that is none of the sixteen. -/
theorem Errs.isAt_new {a : Nat → Addr} {w : World} (h : Errs a w) (p : Addr) (c : Array Value) (t : TypeId) (hp : w.heap[p.block]? = some (.cells c t (0, 0))) (hne : ∀ i, i < 16 → p ≠ a i) : IsAt (eV p) 16 a w := by
  intro j hj
  obtain ⟨cj, tj, hcj⟩ := h.row j hj
  refine (is_other p (a j) c cj t tj w (hne j hj) hp hcj).mono ?_
  rintro e' w' ⟨rfl, rfl⟩
  exact ⟨by simp [show ¬ j = 16 by omega], rfl⟩

/-- An *api.Fault, at an address. -/
abbrev fV (b o : Nat) : Value := .iface 65 (.pointer (some ⟨b, o, none⟩))

theorem Errs.isAt_fault {a : Nat → Addr} {w : World} (h : Errs a w) (i : Nat) (hi : i < 16) (b o : Nat) (hc : w.cell? ⟨b, o + 1, none⟩ = some (eV (a i))) : IsAt (fV b o) i a w := by
  intro j hj
  by_cases e : j = i
  · subst e
    refine (is_fault_same b o (a j) w hc).mono ?_
    rintro e w' ⟨rfl, rfl⟩
    exact ⟨by simp, rfl⟩
  · obtain ⟨ci, ti, hci⟩ := h.row i hi
    obtain ⟨cj, tj, hcj⟩ := h.row j hj
    refine (is_fault_other b o (a j) (a i) ci cj ti tj w hc (h.ne i j hi hj (Ne.symm e)) hci hcj).mono ?_
    rintro e' w' ⟨rfl, rfl⟩
    exact ⟨by simp [e], rfl⟩

theorem asMissW_below (t : Addr) (w : World) : Below w.heap.size w (asMissW t w) :=
  (((Below.refl _ _).alloc (Nat.le_refl _) _).alloc (by simp) _).alloc (by simp; omega) _
end Go.Proofs.YteofodegeigmaaaDoor

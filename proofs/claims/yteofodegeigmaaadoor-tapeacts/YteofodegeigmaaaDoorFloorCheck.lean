/-
  What package floor's Check and checked answer, for every list: the number of the first error, and its place.
-/
import Derived.Test.YteofodegeigmaaaDoorFloorDo
namespace Go.Proofs.YteofodegeigmaaaDoor
open Go.RowKit Go.Extern.Stop Go.Stop Go.Extern

/-- An error by its number and place: none, a plain one, or one with a place. -/
def FlErr (a : Nat → Addr) (w : World) (c : Nat × Int) (ev : Value) : Prop :=
  (c.1 = 0 ∧ ev = .nilIface) ∨ (c.1 ≠ 0 ∧ c.2 = -1 ∧ ev = eV (a (c.1 - 1))) ∨ (c.1 ≠ 0 ∧ ∃ b, ev = fV b 0 ∧ w.heap[b]? = some (.cells #[.int .i64 c.2, eV (a (c.1 - 1))] 69 (0, 0)))
theorem FlErr.below {a : Nat → Addr} {w w' : World} {c : Nat × Int} {ev : Value} (h : FlErr a w c ev) (hb : Below w.heap.size w w') : FlErr a w' c ev := by
  rcases h with h | h | ⟨h1, b, h2, h3⟩
  · exact Or.inl h
  · exact Or.inr (Or.inl h)
  · exact Or.inr (Or.inr ⟨h1, b, h2, by rw [hb.block b (row_lt h3)]; exact h3⟩)
theorem FlErr.cases {a : Nat → Addr} {w : World} {c : Nat × Int} {ev : Value} (h : FlErr a w c ev) : (c.1 = 0 ∧ ev = .nilIface) ∨ (c.1 ≠ 0 ∧ ∃ t p, ev = .iface t p) := by
  rcases h with h | ⟨h1, h2, h3⟩ | ⟨h1, b, h2, h3⟩
  · exact Or.inl h
  · exact Or.inr ⟨h1, _, _, h3⟩
  · exact Or.inr ⟨h1, _, _, h2⟩
theorem FlErr.none {a : Nat → Addr} {w : World} {c : Nat × Int} {ev : Value} (h : FlErr a w c ev) (hc : c.1 = 0) : ev = .nilIface := by
  rcases h.cases with ⟨_, e⟩ | ⟨e, _⟩
  · exact e
  · exact absurd hc e

end Go.Proofs.YteofodegeigmaaaDoor

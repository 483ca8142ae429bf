/-
  A region that draws its order, whose operations only read and whose callees may lay blocks of their own: one walk, in the order of the text, over all worlds in which what was there is as it was.
-/
import Derived.Below
import Derived.Deep.QuietTactic
import Derived.BigQuiet
namespace Go.Proofs.YteofodegeigmaaaDoor
open Go Go.RowKit

/-- A world in which what was there is as it was. -/
structure BelowAt (w : World) where
  to : World
  below : Below w.heap.size w to
theorem BelowAt.any (w : World) : Nonempty (BelowAt w) := ⟨⟨w, Below.refl _ _⟩⟩
theorem wp_region_below {P : Program} {id : Nat} {Q : Exit → Act → World → Prop} {a : Act} {w : World} {l : List Oper} (hm : P.follows .mixedOrders = true) (hB : Region.lexB .any l.toArray = true)
    (h : wpQuiet P l.toArray (fun w' => ∃ p : BelowAt w, w' = p.to) (fun a' => ∀ w', (∃ p : BelowAt w, w' = p.to) → Q .normal a' w') l a) : (Code.region id l.toArray true).wp P Q a w :=
  wp_region_quiet (C := fun w' => ∃ p : BelowAt w, w' = p.to) hm hB ⟨⟨w.drew, (Below.refl _ _).drew⟩, rfl⟩ (by simpa using h)
theorem BelowAt.cell {w : World} {a : Addr} {v : Value} (h : w.cell? a = some v) (hb : a.block < w.heap.size) (p : BelowAt w) : p.to.cell? a = some v := by
  rw [p.below.cell hb]; exact h
theorem BelowAt.calls {P : Program} {f : FuncId} {args : Array Value} {w : World} {p : BelowAt w} {v : Value} (h : Calls P f args p.to fun e w' => e = .returned v ∧ Below p.to.heap.size p.to w') :
    Calls P f args p.to fun e w'' => e = .returned v ∧ ∃ q : BelowAt w, w'' = q.to :=
  h.mono fun _ w'' ⟨he, hb⟩ => ⟨he, ⟨w'', p.below.trans (hb.mono p.below.size)⟩, rfl⟩
end Go.Proofs.YteofodegeigmaaaDoor

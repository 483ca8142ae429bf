/-
  What mark.Of and mark.Right answer, for every key, text and number: the mark or ErrKey; nil, ErrKey or ErrMark.
-/
import Derived.Test.YteofodegeigmaaaDoorMark
namespace Go.Proofs.YteofodegeigmaaaDoor
open Go.RowKit Go.Extern.Stop Go.Stop Go.Extern

theorem key_more (key : Int) : moreE key key = if 1 ≤ key ∧ key ≤ 1000000006 then 0 else 10 := by
  unfold moreE
  split
  · rw [if_pos (by omega)]
  · rfl

/-- The errors that packages mark and seal give. -/
def slS (i : Nat) : Bool := i == 0 || i == 1 || i == 2 || i == 8 || i == 9
end Go.Proofs.YteofodegeigmaaaDoor

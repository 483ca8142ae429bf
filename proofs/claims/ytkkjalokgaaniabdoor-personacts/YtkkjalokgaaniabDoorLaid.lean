/-
  What the rows' own list of package-level variables gives: the sixteen errors of package api as 'Errs' says; and the world that the program's start lays meets the list.
-/
import Derived.Test.YtkkjalokgaaniabDoorLaidBase
namespace Go.Proofs.YtkkjalokgaaniabDoor
open Go.ChangeShapes Go.WideShapes Go.ChangeAt Go.RowKit

/-- The rows' own list. -/
def laidL : List (String × DataW Unit) := Rows.personActsRow.laid
theorem errs_of_laid {W : World} (h : laidMetH Tryd.prog laidL W) : ∃ a, Errs a W :=
  errs_of_vars (r := []) (show laidMet Tryd.prog _ W from h.1) (handle_of (hs := []) h.2)
/-- The door's own heap meets the list. -/
theorem door_met (os : Os) (args : Array Value) : laidMetH Tryd.prog laidL ((World.doorLaid Tryd.prog 400 os).forCall (fun _ _ => 0) ⟨#[], args, []⟩).memory :=
  laidMetH_of_parts3 (fuel := 8) (laidMet_of_run' 8 (by kernel_rfl) (by kernel_rfl)) (by kernel_rfl) (by kernel_rfl)
end Go.Proofs.YtkkjalokgaaniabDoor

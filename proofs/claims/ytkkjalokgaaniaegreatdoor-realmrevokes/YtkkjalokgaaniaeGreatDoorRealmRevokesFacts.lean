/-
  Closed facts of the program that RealmRevokes's card asks: what is called in place, what is named, how variables are laid out.
-/
import Derived.Test.YtkkjalokgaaniaeGreatDoorRows
import Derived.Test.YtkkjalokgaaniaeGreatDoorCards
import Derived.Test.YtkkjalokgaaniaeGreatDoorTie
import Derived.ProofKit
import Derived.LaidMore
import Derived.OpenShut
import Derived.Stop.Joined
import Derived.SevenTiedAt
namespace Go.Proofs.YtkkjalokgaaniaeGreatDoor
open Go.ChangeShapes Go.WideShapes Go.ChangeAt Go.RowKit
open Go.ChangeMaps (open_string shut_string)
theorem both_true {a b : Bool} (ha : a = true) (hb : b = true) : (a && b) = true := by rw [ha, hb]; rfl
theorem realmRevokes_fact0 : laidOutB Tryz.checked.prog = true := by kernel_rfl
theorem realmRevokes_fact1 : mapsRowed Tryz.checked.prog = true := by kernel_rfl
theorem realmRevokes_fact2 : namedTie Tryz.checked.prog Rows.realmRevokesRow.named Rows.realmRevokesSpec.vars = true := by kernel_rfl
theorem realmRevokes_fact3 : (Rows.realmRevokesRow.inPlace == Tryz.checked.prog.inPlace 4) = true := by kernel_rfl
theorem realmRevokes_fact4 : (Rows.realmRevokesRow.unfollowed == Tryz.checked.prog.unfollowed 4) = true := by kernel_rfl
theorem realmRevokes_fact5 : (Rows.realmRevokesRow.recurses == Tryz.checked.prog.recurses 4) = true := by kernel_rfl
theorem realmRevokes_fact6 : (Rows.realmRevokesRow.named == Tryz.checked.prog.varsNamed 4) = true := by kernel_rfl
end Go.Proofs.YtkkjalokgaaniaeGreatDoor

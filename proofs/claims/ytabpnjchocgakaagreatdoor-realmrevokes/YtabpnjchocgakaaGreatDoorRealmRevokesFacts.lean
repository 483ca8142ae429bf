/-
  Closed facts of the program that RealmRevokes's card asks: what is called in place, what is named, how variables are laid out.
-/
import Derived.Test.YtabpnjchocgakaaGreatDoorRows
import Derived.Test.YtabpnjchocgakaaGreatDoorCards
import Derived.Test.YtabpnjchocgakaaGreatDoorTie
import Derived.ProofKit
import Derived.LaidMore
import Derived.OpenShut
import Derived.Stop.Joined
import Derived.SevenTiedAt
namespace Go.Proofs.YtabpnjchocgakaaGreatDoor
open Go.ChangeShapes Go.WideShapes Go.ChangeAt Go.RowKit
open Go.ChangeMaps (open_string shut_string)
theorem both_true {a b : Bool} (ha : a = true) (hb : b = true) : (a && b) = true := by rw [ha, hb]; rfl
theorem realmRevokes_fact0 : laidOutB Tryz.pinned.checked.prog = true := by kernel_rfl
theorem realmRevokes_fact1 : mapsRowed Tryz.pinned.checked.prog = true := by kernel_rfl
theorem realmRevokes_fact2 : namedTie Tryz.pinned.checked.prog Rows.realmRevokesRow.named Rows.realmRevokesSpec.vars = true := by kernel_rfl
theorem realmRevokes_fact3 : (Rows.realmRevokesRow.inPlace == Tryz.pinned.checked.prog.inPlace 3) = true := by kernel_rfl
theorem realmRevokes_fact4 : (Rows.realmRevokesRow.unfollowed == Tryz.pinned.checked.prog.unfollowed 3) = true := by kernel_rfl
theorem realmRevokes_fact5 : (Rows.realmRevokesRow.recurses == Tryz.pinned.checked.prog.recurses 3) = true := by kernel_rfl
theorem realmRevokes_fact6 : (Rows.realmRevokesRow.named == Tryz.pinned.checked.prog.varsNamed 3) = true := by kernel_rfl
end Go.Proofs.YtabpnjchocgakaaGreatDoor

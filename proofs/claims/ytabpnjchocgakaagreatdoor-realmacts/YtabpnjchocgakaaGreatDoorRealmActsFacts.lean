/-
  Closed facts of the program that RealmActs's card asks: what is called in place, what is named, how variables are laid out.
-/
import Derived.Test.YtabpnjchocgakaaGreatDoorRows
import Derived.Test.YtabpnjchocgakaaGreatDoorCards
import Derived.Test.YtabpnjchocgakaaGreatDoorTie
import Derived.ProofKit
import Derived.LaidMore
import Derived.OpenShut
import Derived.Stop.Joined
import Derived.SevenTiedAt
namespace Go.Proofs.YtabpnjchocgakaaGreatDoor
open Go.ChangeShapes Go.WideShapes Go.ChangeAt Go.RowKit
open Go.ChangeMaps (open_string shut_string)
theorem both_true {a b : Bool} (ha : a = true) (hb : b = true) : (a && b) = true := by rw [ha, hb]; rfl
theorem realmActs_fact0 : laidOutB Tryz.pinned.checked.prog = true := by kernel_rfl
theorem realmActs_fact1 : mapsRowed Tryz.pinned.checked.prog = true := by kernel_rfl
theorem realmActs_fact2 : namedTie Tryz.pinned.checked.prog Rows.realmActsRow.named Rows.realmActsSpec.vars = true := by kernel_rfl
theorem realmActs_fact3 : (Rows.realmActsRow.inPlace == Tryz.pinned.checked.prog.inPlace 5) = true := by kernel_rfl
theorem realmActs_fact4 : (Rows.realmActsRow.unfollowed == Tryz.pinned.checked.prog.unfollowed 5) = true := by kernel_rfl
theorem realmActs_fact5 : (Rows.realmActsRow.recurses == Tryz.pinned.checked.prog.recurses 5) = true := by kernel_rfl
theorem realmActs_fact6 : (Rows.realmActsRow.named == Tryz.pinned.checked.prog.varsNamed 5) = true := by kernel_rfl
end Go.Proofs.YtabpnjchocgakaaGreatDoor

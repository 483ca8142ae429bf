/-
  Closed facts of the program that RealmFlushes's card asks: what is called in place, what is named, how variables are laid out.
-/
import Derived.Test.YtabpnjchocgakaaGreatDoorRows
import Derived.Test.YtabpnjchocgakaaGreatDoorCards
import Derived.Test.YtabpnjchocgakaaGreatDoorTie
import Derived.ProofKit
import Derived.LaidMore
import Derived.OpenShut
import Derived.Stop.Joined
import Derived.SevenTiedAt
namespace Go.Proofs.YtabpnjchocgakaaGreatDoor
open Go.ChangeShapes Go.WideShapes Go.ChangeAt Go.RowKit
open Go.ChangeMaps (open_string shut_string)
theorem both_true {a b : Bool} (ha : a = true) (hb : b = true) : (a && b) = true := by rw [ha, hb]; rfl
theorem realmFlushes_fact0 : laidOutB Tryz.pinned.checked.prog = true := by kernel_rfl
theorem realmFlushes_fact1 : mapsRowed Tryz.pinned.checked.prog = true := by kernel_rfl
theorem realmFlushes_fact2 : namedTie Tryz.pinned.checked.prog Rows.realmFlushesRow.named Rows.realmFlushesSpec.vars = true := by kernel_rfl
theorem realmFlushes_fact3 : (Rows.realmFlushesRow.inPlace == Tryz.pinned.checked.prog.inPlace 4) = true := by kernel_rfl
theorem realmFlushes_fact4 : (Rows.realmFlushesRow.unfollowed == Tryz.pinned.checked.prog.unfollowed 4) = true := by kernel_rfl
theorem realmFlushes_fact5 : (Rows.realmFlushesRow.recurses == Tryz.pinned.checked.prog.recurses 4) = true := by kernel_rfl
theorem realmFlushes_fact6 : (Rows.realmFlushesRow.named == Tryz.pinned.checked.prog.varsNamed 4) = true := by kernel_rfl
end Go.Proofs.YtabpnjchocgakaaGreatDoor

/-
  DERIVED. GIVEN WITH THE SEED: THE CARDS: each row of YtemdnmnbecapbacGreatDoorRows.lean that lists a variable, with what it lists TIED to the program's text (the seventh form; the later family's looks); each row that meets fmt, with fmt's text TOLD by the authors' own Lean function (tested against real Go, not proved from fmt's source: count such statements apart). THE CARD IS WHAT COUNTS. Prove the row's statement (the work); the ties are given (YtemdnmnbecapbacGreatDoorTie.lean); close each card by the builder's one call (the guide's Derived/Test/ToyasCard.lean, 'card_holds'). Laid BY PROGRAM, IN A SANDBOX (cutbox-door.mjs). By AI agents, Wed Nov 11 2026. No macro, syntax, notation, axiom, sorry.
-/
import Derived.Test.YtemdnmnbecapbacGreatDoorRows
import GoSem.ClaimSeven
namespace Go.Proofs.YtemdnmnbecapbacGreatDoor
namespace Rows

/-- THE TIED CARD OF 'keyholderlaw2.FeedHeads'. -/
def feedHeadsCard : Claim7 := { stood := { row := feedHeadsRow, standIns := [], harness := (true, "97e86b3bd143df46b6b410c48c65dc3466e067646b16d512f72f5f05a8f2d1e8"), looks := true }, kinds := [], alts := [], laidByText := true, laidKinds := [.data, .data, .data, .data, .sentinel, .sentinel, .sentinel, .sentinel, .sentinel, .sentinel, .sentinel, .sentinel, .sentinel, .sentinel, .sentinel, .pinned], laidTests := true, laidLooks := .later }
def FeedHeadsCardSaid : Prop := Claim7.holds Tryz.pinned (.plain (OpenSpec.ofChange feedHeadsSpec)) feedHeadsCard

/-- THE TIED CARD OF 'keyholderlaw2.FeedTells'. -/
def feedTellsCard : Claim7 := { stood := { row := feedTellsRow, standIns := [], harness := (true, "97e86b3bd143df46b6b410c48c65dc3466e067646b16d512f72f5f05a8f2d1e8"), looks := true }, kinds := [], alts := [], laidByText := true, laidKinds := [.data, .data, .data, .data, .handle, .sentinel, .sentinel, .sentinel, .sentinel, .sentinel, .sentinel, .sentinel, .sentinel, .sentinel, .sentinel, .sentinel, .sentinel, .sentinel, .sentinel, .sentinel, .sentinel, .sentinel, .sentinel, .pinned], laidTests := true, laidLooks := .later }
def FeedTellsCardSaid : Prop := Claim7.holds Tryz.pinned (.plain (OpenSpec.ofChange feedTellsSpec)) feedTellsCard

/-- THE SECOND FORM's CARD OF 'keyholderlaw2.FeedHeads'. -/
def feedHeadsUptoCard : Claim7 := { stood := { row := feedHeadsUptoRow, standIns := [], harness := (true, "97e86b3bd143df46b6b410c48c65dc3466e067646b16d512f72f5f05a8f2d1e8"), looks := true }, kinds := [], alts := [], laidByText := true, laidKinds := [.data, .data, .data, .data, .sentinel, .sentinel, .sentinel, .sentinel, .sentinel, .sentinel, .sentinel, .sentinel, .sentinel, .sentinel, .sentinel, .pinned], laidTests := true, laidLooks := .later }
def FeedHeadsUptoCardSaid : Prop := Claim7.holds Tryz.pinned (.plain (OpenSpec.upto feedHeadsSpec)) feedHeadsUptoCard

/-- THE SECOND FORM's CARD OF 'keyholderlaw2.FeedTells'. -/
def feedTellsUptoCard : Claim7 := { stood := { row := feedTellsUptoRow, standIns := [], harness := (true, "97e86b3bd143df46b6b410c48c65dc3466e067646b16d512f72f5f05a8f2d1e8"), looks := true }, kinds := [], alts := [], laidByText := true, laidKinds := [.data, .data, .data, .data, .handle, .sentinel, .sentinel, .sentinel, .sentinel, .sentinel, .sentinel, .sentinel, .sentinel, .sentinel, .sentinel, .sentinel, .sentinel, .sentinel, .sentinel, .sentinel, .sentinel, .sentinel, .sentinel, .pinned], laidTests := true, laidLooks := .later }
def FeedTellsUptoCardSaid : Prop := Claim7.holds Tryz.pinned (.plain (OpenSpec.upto feedTellsSpec)) feedTellsUptoCard
end Rows
end Go.Proofs.YtemdnmnbecapbacGreatDoor

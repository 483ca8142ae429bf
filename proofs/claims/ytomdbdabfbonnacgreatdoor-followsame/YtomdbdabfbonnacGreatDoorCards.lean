/-
  DERIVED. GIVEN WITH THE SEED: THE CARDS: each row of YtomdbdabfbonnacGreatDoorRows.lean that lists a variable, with what it lists TIED to the program's text (the seventh form; the later family's looks); each row that meets fmt, with fmt's text TOLD by the authors' own Lean function (tested against real Go, not proved from fmt's source: count such statements apart). THE CARD IS WHAT COUNTS. Prove the row's statement (the work); the ties are given (YtomdbdabfbonnacGreatDoorTie.lean); close each card by the builder's one call (the guide's Derived/Test/ToyasCard.lean, 'card_holds'). Laid BY PROGRAM, IN A SANDBOX (cutbox-door.mjs). By AI agents, Wed Nov 11 2026. No macro, syntax, notation, axiom, sorry.
-/
import Derived.Test.YtomdbdabfbonnacGreatDoorRows
import GoSem.ClaimSeven
namespace Go.Proofs.YtomdbdabfbonnacGreatDoor
namespace Rows

/-- THE TIED CARD OF 'keyholderlaw2.FeedHeads'. -/
def feedHeadsCard : Claim7 := { stood := { row := feedHeadsRow, standIns := [], harness := (true, "c0fb258d6b008d58561e50b99b57c4a25415bffc9392272f12873556fabea403"), looks := true }, kinds := [], alts := [], laidByText := true, laidKinds := [.data, .data, .data, .data, .sentinel, .sentinel, .sentinel, .sentinel, .sentinel, .sentinel, .sentinel, .sentinel, .sentinel, .sentinel, .sentinel, .pinned], laidTests := true, laidLooks := .later }
def FeedHeadsCardSaid : Prop := Claim7.holds Tryz.pinned (.plain (OpenSpec.ofChange feedHeadsSpec)) feedHeadsCard

/-- THE TIED CARD OF 'keyholderlaw2.FeedTells'. -/
def feedTellsCard : Claim7 := { stood := { row := feedTellsRow, standIns := [], harness := (true, "c0fb258d6b008d58561e50b99b57c4a25415bffc9392272f12873556fabea403"), looks := true }, kinds := [], alts := [], laidByText := true, laidKinds := [.data, .data, .data, .data, .handle, .sentinel, .sentinel, .sentinel, .sentinel, .sentinel, .sentinel, .sentinel, .sentinel, .sentinel, .sentinel, .sentinel, .sentinel, .sentinel, .sentinel, .sentinel, .sentinel, .sentinel, .sentinel, .pinned], laidTests := true, laidLooks := .later }
def FeedTellsCardSaid : Prop := Claim7.holds Tryz.pinned (.plain (OpenSpec.ofChange feedTellsSpec)) feedTellsCard

/-- THE TIED CARD OF 'keyholderlaw2.FollowRises'. -/
def followRisesCard : Claim7 := { stood := { row := followRisesRow, standIns := [], harness := (true, "c0fb258d6b008d58561e50b99b57c4a25415bffc9392272f12873556fabea403"), looks := true }, kinds := [], alts := [], laidByText := true, laidKinds := [.data, .data, .data, .data, .handle, .sentinel, .sentinel, .sentinel, .sentinel, .sentinel, .sentinel, .sentinel, .sentinel, .sentinel, .sentinel, .sentinel, .sentinel, .pinned], laidTests := true, laidLooks := .later }
def FollowRisesCardSaid : Prop := Claim7.holds Tryz.pinned (.plain (OpenSpec.ofChange followRisesSpec)) followRisesCard

/-- THE TIED CARD OF 'keyholderlaw2.FollowSame'. -/
def followSameCard : Claim7 := { stood := { row := followSameRow, standIns := [], harness := (true, "c0fb258d6b008d58561e50b99b57c4a25415bffc9392272f12873556fabea403"), looks := true }, kinds := [], alts := [], laidByText := true, laidKinds := [.data, .data, .data, .data, .handle, .sentinel, .sentinel, .sentinel, .sentinel, .sentinel, .sentinel, .sentinel, .sentinel, .sentinel, .sentinel, .sentinel, .sentinel, .pinned], laidTests := true, laidLooks := .later }
def FollowSameCardSaid : Prop := Claim7.holds Tryz.pinned (.plain (OpenSpec.ofChange followSameSpec)) followSameCard

/-- THE TIED CARD OF 'keyholderlaw2.FollowActs'. -/
def followActsCard : Claim7 := { stood := { row := followActsRow, standIns := [], harness := (true, "c0fb258d6b008d58561e50b99b57c4a25415bffc9392272f12873556fabea403"), looks := true }, kinds := [], alts := [], laidByText := true, laidKinds := [.data, .data, .data, .data, .handle, .sentinel, .sentinel, .sentinel, .sentinel, .sentinel, .sentinel, .sentinel, .sentinel, .sentinel, .sentinel, .sentinel, .sentinel, .sentinel, .sentinel, .sentinel, .sentinel, .sentinel, .sentinel, .pinned], laidTests := true, laidLooks := .later }
def FollowActsCardSaid : Prop := Claim7.holds Tryz.pinned (.plain (OpenSpec.ofChange followActsSpec)) followActsCard

/-- THE SECOND FORM's CARD OF 'keyholderlaw2.FeedHeads'. -/
def feedHeadsUptoCard : Claim7 := { stood := { row := feedHeadsUptoRow, standIns := [], harness := (true, "c0fb258d6b008d58561e50b99b57c4a25415bffc9392272f12873556fabea403"), looks := true }, kinds := [], alts := [], laidByText := true, laidKinds := [.data, .data, .data, .data, .sentinel, .sentinel, .sentinel, .sentinel, .sentinel, .sentinel, .sentinel, .sentinel, .sentinel, .sentinel, .sentinel, .pinned], laidTests := true, laidLooks := .later }
def FeedHeadsUptoCardSaid : Prop := Claim7.holds Tryz.pinned (.plain (OpenSpec.upto feedHeadsSpec)) feedHeadsUptoCard

/-- THE SECOND FORM's CARD OF 'keyholderlaw2.FeedTells'. -/
def feedTellsUptoCard : Claim7 := { stood := { row := feedTellsUptoRow, standIns := [], harness := (true, "c0fb258d6b008d58561e50b99b57c4a25415bffc9392272f12873556fabea403"), looks := true }, kinds := [], alts := [], laidByText := true, laidKinds := [.data, .data, .data, .data, .handle, .sentinel, .sentinel, .sentinel, .sentinel, .sentinel, .sentinel, .sentinel, .sentinel, .sentinel, .sentinel, .sentinel, .sentinel, .sentinel, .sentinel, .sentinel, .sentinel, .sentinel, .sentinel, .pinned], laidTests := true, laidLooks := .later }
def FeedTellsUptoCardSaid : Prop := Claim7.holds Tryz.pinned (.plain (OpenSpec.upto feedTellsSpec)) feedTellsUptoCard

/-- THE SECOND FORM's CARD OF 'keyholderlaw2.FollowRises'. -/
def followRisesUptoCard : Claim7 := { stood := { row := followRisesUptoRow, standIns := [], harness := (true, "c0fb258d6b008d58561e50b99b57c4a25415bffc9392272f12873556fabea403"), looks := true }, kinds := [], alts := [], laidByText := true, laidKinds := [.data, .data, .data, .data, .handle, .sentinel, .sentinel, .sentinel, .sentinel, .sentinel, .sentinel, .sentinel, .sentinel, .sentinel, .sentinel, .sentinel, .sentinel, .pinned], laidTests := true, laidLooks := .later }
def FollowRisesUptoCardSaid : Prop := Claim7.holds Tryz.pinned (.plain (OpenSpec.upto followRisesSpec)) followRisesUptoCard

/-- THE SECOND FORM's CARD OF 'keyholderlaw2.FollowSame'. -/
def followSameUptoCard : Claim7 := { stood := { row := followSameUptoRow, standIns := [], harness := (true, "c0fb258d6b008d58561e50b99b57c4a25415bffc9392272f12873556fabea403"), looks := true }, kinds := [], alts := [], laidByText := true, laidKinds := [.data, .data, .data, .data, .handle, .sentinel, .sentinel, .sentinel, .sentinel, .sentinel, .sentinel, .sentinel, .sentinel, .sentinel, .sentinel, .sentinel, .sentinel, .pinned], laidTests := true, laidLooks := .later }
def FollowSameUptoCardSaid : Prop := Claim7.holds Tryz.pinned (.plain (OpenSpec.upto followSameSpec)) followSameUptoCard

/-- THE SECOND FORM's CARD OF 'keyholderlaw2.FollowActs'. -/
def followActsUptoCard : Claim7 := { stood := { row := followActsUptoRow, standIns := [], harness := (true, "c0fb258d6b008d58561e50b99b57c4a25415bffc9392272f12873556fabea403"), looks := true }, kinds := [], alts := [], laidByText := true, laidKinds := [.data, .data, .data, .data, .handle, .sentinel, .sentinel, .sentinel, .sentinel, .sentinel, .sentinel, .sentinel, .sentinel, .sentinel, .sentinel, .sentinel, .sentinel, .sentinel, .sentinel, .sentinel, .sentinel, .sentinel, .sentinel, .pinned], laidTests := true, laidLooks := .later }
def FollowActsUptoCardSaid : Prop := Claim7.holds Tryz.pinned (.plain (OpenSpec.upto followActsSpec)) followActsUptoCard
end Rows
end Go.Proofs.YtomdbdabfbonnacGreatDoor

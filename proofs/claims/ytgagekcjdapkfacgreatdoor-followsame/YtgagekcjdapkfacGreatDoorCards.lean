/-
  DERIVED. GIVEN WITH THE SEED: THE CARDS: each row of YtgagekcjdapkfacGreatDoorRows.lean that lists a variable, with what it lists TIED to the program's text (the seventh form; the later family's looks); each row that meets fmt, with fmt's text TOLD by the authors' own Lean function (tested against real Go, not proved from fmt's source: count such statements apart). THE CARD IS WHAT COUNTS. Prove the row's statement (the work); the ties are given (YtgagekcjdapkfacGreatDoorTie.lean); close each card by the builder's one call (the guide's Derived/Test/ToyasCard.lean, 'card_holds'). Laid BY PROGRAM, IN A SANDBOX (cutbox-door.mjs). By AI agents, Wed Nov 11 2026. No macro, syntax, notation, axiom, sorry.
-/
import Derived.Test.YtgagekcjdapkfacGreatDoorRows
import GoSem.ClaimSeven
namespace Go.Proofs.YtgagekcjdapkfacGreatDoor
namespace Rows

/-- THE TIED CARD OF 'keyholderlaw2.FeedHeads'. -/
def feedHeadsCard : Claim7 := { stood := { row := feedHeadsRow, standIns := [], harness := (true, "f5d29bf43ad3edee7e68fea8cfce620c8e340d369d809e201011099bcff926eb"), looks := true }, kinds := [], alts := [], laidByText := true, laidKinds := [.data, .data, .data, .data, .sentinel, .sentinel, .sentinel, .sentinel, .sentinel, .sentinel, .sentinel, .sentinel, .sentinel, .sentinel, .sentinel, .pinned], laidTests := true, laidLooks := .later }
def FeedHeadsCardSaid : Prop := Claim7.holds Tryz.pinned (.plain (OpenSpec.ofChange feedHeadsSpec)) feedHeadsCard

/-- THE TIED CARD OF 'keyholderlaw2.FeedTells'. -/
def feedTellsCard : Claim7 := { stood := { row := feedTellsRow, standIns := [], harness := (true, "f5d29bf43ad3edee7e68fea8cfce620c8e340d369d809e201011099bcff926eb"), looks := true }, kinds := [], alts := [], laidByText := true, laidKinds := [.data, .data, .data, .data, .handle, .sentinel, .sentinel, .sentinel, .sentinel, .sentinel, .sentinel, .sentinel, .sentinel, .sentinel, .sentinel, .sentinel, .sentinel, .sentinel, .sentinel, .sentinel, .sentinel, .sentinel, .sentinel, .pinned], laidTests := true, laidLooks := .later }
def FeedTellsCardSaid : Prop := Claim7.holds Tryz.pinned (.plain (OpenSpec.ofChange feedTellsSpec)) feedTellsCard

/-- THE TIED CARD OF 'keyholderlaw2.FollowRises'. -/
def followRisesCard : Claim7 := { stood := { row := followRisesRow, standIns := [], harness := (true, "f5d29bf43ad3edee7e68fea8cfce620c8e340d369d809e201011099bcff926eb"), looks := true }, kinds := [], alts := [], laidByText := true, laidKinds := [.data, .data, .data, .data, .handle, .sentinel, .sentinel, .sentinel, .sentinel, .sentinel, .sentinel, .sentinel, .sentinel, .sentinel, .sentinel, .sentinel, .sentinel, .pinned], laidTests := true, laidLooks := .later }
def FollowRisesCardSaid : Prop := Claim7.holds Tryz.pinned (.plain (OpenSpec.ofChange followRisesSpec)) followRisesCard

/-- THE TIED CARD OF 'keyholderlaw2.FollowSame'. -/
def followSameCard : Claim7 := { stood := { row := followSameRow, standIns := [], harness := (true, "f5d29bf43ad3edee7e68fea8cfce620c8e340d369d809e201011099bcff926eb"), looks := true }, kinds := [], alts := [], laidByText := true, laidKinds := [.data, .data, .data, .data, .handle, .sentinel, .sentinel, .sentinel, .sentinel, .sentinel, .sentinel, .sentinel, .sentinel, .sentinel, .sentinel, .sentinel, .sentinel, .pinned], laidTests := true, laidLooks := .later }
def FollowSameCardSaid : Prop := Claim7.holds Tryz.pinned (.plain (OpenSpec.ofChange followSameSpec)) followSameCard

/-- THE TIED CARD OF 'keyholderlaw2.FollowActs'. -/
def followActsCard : Claim7 := { stood := { row := followActsRow, standIns := [], harness := (true, "f5d29bf43ad3edee7e68fea8cfce620c8e340d369d809e201011099bcff926eb"), looks := true }, kinds := [], alts := [], laidByText := true, laidKinds := [.data, .data, .data, .data, .handle, .sentinel, .sentinel, .sentinel, .sentinel, .sentinel, .sentinel, .sentinel, .sentinel, .sentinel, .sentinel, .sentinel, .sentinel, .sentinel, .sentinel, .sentinel, .sentinel, .sentinel, .sentinel, .pinned], laidTests := true, laidLooks := .later }
def FollowActsCardSaid : Prop := Claim7.holds Tryz.pinned (.plain (OpenSpec.ofChange followActsSpec)) followActsCard

/-- THE TIED CARD OF 'keyholderlaw2.RelayAll'. -/
def relayAllCard : Claim7 := { stood := { row := relayAllRow, standIns := [], harness := (true, "f5d29bf43ad3edee7e68fea8cfce620c8e340d369d809e201011099bcff926eb"), looks := true }, kinds := [], alts := [], laidByText := true, laidKinds := [.data, .data, .data, .data, .handle, .sentinel, .sentinel, .sentinel, .sentinel, .sentinel, .sentinel, .sentinel, .sentinel, .sentinel, .sentinel, .sentinel, .sentinel, .sentinel, .pinned], laidTests := true, laidLooks := .later }
def RelayAllCardSaid : Prop := Claim7.holds Tryz.pinned (.plain (OpenSpec.ofChange relayAllSpec)) relayAllCard

/-- THE SECOND FORM's CARD OF 'keyholderlaw2.FeedHeads'. -/
def feedHeadsUptoCard : Claim7 := { stood := { row := feedHeadsUptoRow, standIns := [], harness := (true, "f5d29bf43ad3edee7e68fea8cfce620c8e340d369d809e201011099bcff926eb"), looks := true }, kinds := [], alts := [], laidByText := true, laidKinds := [.data, .data, .data, .data, .sentinel, .sentinel, .sentinel, .sentinel, .sentinel, .sentinel, .sentinel, .sentinel, .sentinel, .sentinel, .sentinel, .pinned], laidTests := true, laidLooks := .later }
def FeedHeadsUptoCardSaid : Prop := Claim7.holds Tryz.pinned (.plain (OpenSpec.upto feedHeadsSpec)) feedHeadsUptoCard

/-- THE SECOND FORM's CARD OF 'keyholderlaw2.FeedTells'. -/
def feedTellsUptoCard : Claim7 := { stood := { row := feedTellsUptoRow, standIns := [], harness := (true, "f5d29bf43ad3edee7e68fea8cfce620c8e340d369d809e201011099bcff926eb"), looks := true }, kinds := [], alts := [], laidByText := true, laidKinds := [.data, .data, .data, .data, .handle, .sentinel, .sentinel, .sentinel, .sentinel, .sentinel, .sentinel, .sentinel, .sentinel, .sentinel, .sentinel, .sentinel, .sentinel, .sentinel, .sentinel, .sentinel, .sentinel, .sentinel, .sentinel, .pinned], laidTests := true, laidLooks := .later }
def FeedTellsUptoCardSaid : Prop := Claim7.holds Tryz.pinned (.plain (OpenSpec.upto feedTellsSpec)) feedTellsUptoCard

/-- THE SECOND FORM's CARD OF 'keyholderlaw2.FollowRises'. -/
def followRisesUptoCard : Claim7 := { stood := { row := followRisesUptoRow, standIns := [], harness := (true, "f5d29bf43ad3edee7e68fea8cfce620c8e340d369d809e201011099bcff926eb"), looks := true }, kinds := [], alts := [], laidByText := true, laidKinds := [.data, .data, .data, .data, .handle, .sentinel, .sentinel, .sentinel, .sentinel, .sentinel, .sentinel, .sentinel, .sentinel, .sentinel, .sentinel, .sentinel, .sentinel, .pinned], laidTests := true, laidLooks := .later }
def FollowRisesUptoCardSaid : Prop := Claim7.holds Tryz.pinned (.plain (OpenSpec.upto followRisesSpec)) followRisesUptoCard

/-- THE SECOND FORM's CARD OF 'keyholderlaw2.FollowSame'. -/
def followSameUptoCard : Claim7 := { stood := { row := followSameUptoRow, standIns := [], harness := (true, "f5d29bf43ad3edee7e68fea8cfce620c8e340d369d809e201011099bcff926eb"), looks := true }, kinds := [], alts := [], laidByText := true, laidKinds := [.data, .data, .data, .data, .handle, .sentinel, .sentinel, .sentinel, .sentinel, .sentinel, .sentinel, .sentinel, .sentinel, .sentinel, .sentinel, .sentinel, .sentinel, .pinned], laidTests := true, laidLooks := .later }
def FollowSameUptoCardSaid : Prop := Claim7.holds Tryz.pinned (.plain (OpenSpec.upto followSameSpec)) followSameUptoCard

/-- THE SECOND FORM's CARD OF 'keyholderlaw2.FollowActs'. -/
def followActsUptoCard : Claim7 := { stood := { row := followActsUptoRow, standIns := [], harness := (true, "f5d29bf43ad3edee7e68fea8cfce620c8e340d369d809e201011099bcff926eb"), looks := true }, kinds := [], alts := [], laidByText := true, laidKinds := [.data, .data, .data, .data, .handle, .sentinel, .sentinel, .sentinel, .sentinel, .sentinel, .sentinel, .sentinel, .sentinel, .sentinel, .sentinel, .sentinel, .sentinel, .sentinel, .sentinel, .sentinel, .sentinel, .sentinel, .sentinel, .pinned], laidTests := true, laidLooks := .later }
def FollowActsUptoCardSaid : Prop := Claim7.holds Tryz.pinned (.plain (OpenSpec.upto followActsSpec)) followActsUptoCard

/-- THE SECOND FORM's CARD OF 'keyholderlaw2.RelayAll'. -/
def relayAllUptoCard : Claim7 := { stood := { row := relayAllUptoRow, standIns := [], harness := (true, "f5d29bf43ad3edee7e68fea8cfce620c8e340d369d809e201011099bcff926eb"), looks := true }, kinds := [], alts := [], laidByText := true, laidKinds := [.data, .data, .data, .data, .handle, .sentinel, .sentinel, .sentinel, .sentinel, .sentinel, .sentinel, .sentinel, .sentinel, .sentinel, .sentinel, .sentinel, .sentinel, .sentinel, .pinned], laidTests := true, laidLooks := .later }
def RelayAllUptoCardSaid : Prop := Claim7.holds Tryz.pinned (.plain (OpenSpec.upto relayAllSpec)) relayAllUptoCard
end Rows
end Go.Proofs.YtgagekcjdapkfacGreatDoor

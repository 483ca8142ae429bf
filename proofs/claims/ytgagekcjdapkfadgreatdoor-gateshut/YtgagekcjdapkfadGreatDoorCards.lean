/-
  DERIVED. GIVEN WITH THE SEED: THE CARDS: each row of YtgagekcjdapkfadGreatDoorRows.lean that lists a variable, with what it lists TIED to the program's text (the seventh form; the later family's looks); each row that meets fmt, with fmt's text TOLD by the authors' own Lean function (tested against real Go, not proved from fmt's source: count such statements apart). THE CARD IS WHAT COUNTS. Prove the row's statement (the work); the ties are given (YtgagekcjdapkfadGreatDoorTie.lean); close each card by the builder's one call (the guide's Derived/Test/ToyasCard.lean, 'card_holds'). Laid BY PROGRAM, IN A SANDBOX (cutbox-door.mjs). By AI agents, Wed Nov 11 2026. No macro, syntax, notation, axiom, sorry.
-/
import Derived.Test.YtgagekcjdapkfadGreatDoorRows
import GoSem.ClaimSeven
namespace Go.Proofs.YtgagekcjdapkfadGreatDoor
namespace Rows

/-- THE TIED CARD OF 'keyholderlaw2.RelayActs'. -/
def relayActsCard : Claim7 := { stood := { row := relayActsRow, standIns := [], harness := (true, "61c44cb7781ba69b589e8f362feada61be534d00d5b17d08508fa35e72a795f9"), looks := true }, kinds := [], alts := [], laidByText := true, laidKinds := [.data, .data, .data, .data, .handle, .sentinel, .sentinel, .sentinel, .sentinel, .sentinel, .sentinel, .sentinel, .sentinel, .sentinel, .sentinel, .sentinel, .sentinel, .sentinel, .sentinel, .sentinel, .sentinel, .sentinel, .sentinel, .pinned], laidTests := true, laidLooks := .later }
def RelayActsCardSaid : Prop := Claim7.holds Tryz.pinned (.plain (OpenSpec.ofChange relayActsSpec)) relayActsCard

/-- THE TIED CARD OF 'keyholderlaw3.GateShut'. -/
def gateShutCard : Claim7 := { stood := { row := gateShutRow, standIns := [], harness := (true, "61c44cb7781ba69b589e8f362feada61be534d00d5b17d08508fa35e72a795f9"), looks := true }, kinds := [], alts := [], laidByText := true, laidKinds := [.data, .data, .data, .data, .handle, .sentinel, .sentinel, .sentinel, .sentinel, .sentinel, .sentinel, .sentinel, .sentinel, .sentinel, .sentinel, .sentinel, .sentinel, .sentinel, .sentinel, .sentinel, .sentinel, .sentinel, .sentinel, .pinned], laidTests := true, laidLooks := .later }
def GateShutCardSaid : Prop := Claim7.holds Tryz.pinned (.plain (OpenSpec.ofChange gateShutSpec)) gateShutCard

/-- THE TIED CARD OF 'keyholderlaw3.GateActs'. -/
def gateActsCard : Claim7 := { stood := { row := gateActsRow, standIns := [], harness := (true, "61c44cb7781ba69b589e8f362feada61be534d00d5b17d08508fa35e72a795f9"), looks := true }, kinds := [], alts := [], laidByText := true, laidKinds := [.data, .data, .data, .data, .handle, .sentinel, .sentinel, .sentinel, .sentinel, .sentinel, .sentinel, .sentinel, .sentinel, .sentinel, .sentinel, .sentinel, .sentinel, .sentinel, .sentinel, .sentinel, .sentinel, .sentinel, .sentinel, .pinned], laidTests := true, laidLooks := .later }
def GateActsCardSaid : Prop := Claim7.holds Tryz.pinned (.plain (OpenSpec.ofChange gateActsSpec)) gateActsCard

/-- THE SECOND FORM's CARD OF 'keyholderlaw2.RelayActs'. -/
def relayActsUptoCard : Claim7 := { stood := { row := relayActsUptoRow, standIns := [], harness := (true, "61c44cb7781ba69b589e8f362feada61be534d00d5b17d08508fa35e72a795f9"), looks := true }, kinds := [], alts := [], laidByText := true, laidKinds := [.data, .data, .data, .data, .handle, .sentinel, .sentinel, .sentinel, .sentinel, .sentinel, .sentinel, .sentinel, .sentinel, .sentinel, .sentinel, .sentinel, .sentinel, .sentinel, .sentinel, .sentinel, .sentinel, .sentinel, .sentinel, .pinned], laidTests := true, laidLooks := .later }
def RelayActsUptoCardSaid : Prop := Claim7.holds Tryz.pinned (.plain (OpenSpec.upto relayActsSpec)) relayActsUptoCard

/-- THE SECOND FORM's CARD OF 'keyholderlaw3.GateShut'. -/
def gateShutUptoCard : Claim7 := { stood := { row := gateShutUptoRow, standIns := [], harness := (true, "61c44cb7781ba69b589e8f362feada61be534d00d5b17d08508fa35e72a795f9"), looks := true }, kinds := [], alts := [], laidByText := true, laidKinds := [.data, .data, .data, .data, .handle, .sentinel, .sentinel, .sentinel, .sentinel, .sentinel, .sentinel, .sentinel, .sentinel, .sentinel, .sentinel, .sentinel, .sentinel, .sentinel, .sentinel, .sentinel, .sentinel, .sentinel, .sentinel, .pinned], laidTests := true, laidLooks := .later }
def GateShutUptoCardSaid : Prop := Claim7.holds Tryz.pinned (.plain (OpenSpec.upto gateShutSpec)) gateShutUptoCard

/-- THE SECOND FORM's CARD OF 'keyholderlaw3.GateActs'. -/
def gateActsUptoCard : Claim7 := { stood := { row := gateActsUptoRow, standIns := [], harness := (true, "61c44cb7781ba69b589e8f362feada61be534d00d5b17d08508fa35e72a795f9"), looks := true }, kinds := [], alts := [], laidByText := true, laidKinds := [.data, .data, .data, .data, .handle, .sentinel, .sentinel, .sentinel, .sentinel, .sentinel, .sentinel, .sentinel, .sentinel, .sentinel, .sentinel, .sentinel, .sentinel, .sentinel, .sentinel, .sentinel, .sentinel, .sentinel, .sentinel, .pinned], laidTests := true, laidLooks := .later }
def GateActsUptoCardSaid : Prop := Claim7.holds Tryz.pinned (.plain (OpenSpec.upto gateActsSpec)) gateActsUptoCard
end Rows
end Go.Proofs.YtgagekcjdapkfadGreatDoor

/-
  DERIVED. GIVEN WITH THE SEED: THE CARDS: each row of YteabincmopeljadDoorRows.lean that lists a variable, with what it lists TIED to the program's text (the seventh form; the later family's looks); each row that meets fmt, with fmt's text TOLD by the authors' own Lean function (tested against real Go, not proved from fmt's source: count such statements apart). THE CARD IS WHAT COUNTS. Prove the row's statement (the work); the ties are given (YteabincmopeljadDoorTie.lean); close each card by the builder's one call (the guide's Derived/Test/ToyasCard.lean, 'card_holds'). Laid BY PROGRAM, IN A SANDBOX (cutbox-door.mjs). By AI agents, Wed Nov 11 2026. No macro, syntax, notation, axiom, sorry.
-/
import Derived.Test.YteabincmopeljadDoorRows
import GoSem.ClaimSeven
namespace Go.Proofs.YteabincmopeljadDoor
namespace Rows

/-- THE TIED CARD OF 'keyholderlaw3.SeenOnce'. -/
def seenOnceCard : Claim7 := { stood := { row := seenOnceRow, standIns := [], harness := (true, "afa238cd9511ea6897fb10ce42bc28b19eb09f7ac86d66efa58466e9059c660d"), looks := true }, kinds := [], alts := [], laidByText := true, laidKinds := [.handle, .sentinel, .sentinel, .sentinel, .sentinel, .sentinel, .sentinel, .sentinel, .sentinel, .sentinel, .sentinel, .sentinel, .sentinel, .sentinel, .sentinel, .sentinel, .sentinel], laidTests := true, laidLooks := .later }
def SeenOnceCardSaid : Prop := Claim7.holds Tryd.pinned (.plain (OpenSpec.ofChange seenOnceSpec)) seenOnceCard

/-- THE TIED CARD OF 'keyholderlaw3.SeenActs'. -/
def seenActsCard : Claim7 := { stood := { row := seenActsRow, standIns := [], harness := (true, "afa238cd9511ea6897fb10ce42bc28b19eb09f7ac86d66efa58466e9059c660d"), looks := true }, kinds := [], alts := [], laidByText := true, laidKinds := [.handle, .sentinel, .sentinel, .sentinel, .sentinel, .sentinel, .sentinel, .sentinel, .sentinel, .sentinel, .sentinel, .sentinel, .sentinel, .sentinel, .sentinel, .sentinel, .sentinel], laidTests := true, laidLooks := .later }
def SeenActsCardSaid : Prop := Claim7.holds Tryd.pinned (.plain (OpenSpec.ofChange seenActsSpec)) seenActsCard

/-- THE TIED CARD OF 'keyholderlaw3.SessionSwept'. -/
def sessionSweptCard : Claim7 := { stood := { row := sessionSweptRow, standIns := [], harness := (true, "afa238cd9511ea6897fb10ce42bc28b19eb09f7ac86d66efa58466e9059c660d"), looks := true }, kinds := [], alts := [], laidByText := true, laidKinds := [.sentinel, .sentinel, .sentinel, .sentinel, .sentinel, .sentinel, .sentinel, .sentinel], laidTests := true, laidLooks := .later }
def SessionSweptCardSaid : Prop := Claim7.holds Tryd.pinned (.plain (OpenSpec.ofChange sessionSweptSpec)) sessionSweptCard

/-- THE SECOND FORM's CARD OF 'keyholderlaw3.SeenOnce'. -/
def seenOnceUptoCard : Claim7 := { stood := { row := seenOnceUptoRow, standIns := [], harness := (true, "afa238cd9511ea6897fb10ce42bc28b19eb09f7ac86d66efa58466e9059c660d"), looks := true }, kinds := [], alts := [], laidByText := true, laidKinds := [.handle, .sentinel, .sentinel, .sentinel, .sentinel, .sentinel, .sentinel, .sentinel, .sentinel, .sentinel, .sentinel, .sentinel, .sentinel, .sentinel, .sentinel, .sentinel, .sentinel], laidTests := true, laidLooks := .later }
def SeenOnceUptoCardSaid : Prop := Claim7.holds Tryd.pinned (.plain (OpenSpec.upto seenOnceSpec)) seenOnceUptoCard

/-- THE SECOND FORM's CARD OF 'keyholderlaw3.SeenActs'. -/
def seenActsUptoCard : Claim7 := { stood := { row := seenActsUptoRow, standIns := [], harness := (true, "afa238cd9511ea6897fb10ce42bc28b19eb09f7ac86d66efa58466e9059c660d"), looks := true }, kinds := [], alts := [], laidByText := true, laidKinds := [.handle, .sentinel, .sentinel, .sentinel, .sentinel, .sentinel, .sentinel, .sentinel, .sentinel, .sentinel, .sentinel, .sentinel, .sentinel, .sentinel, .sentinel, .sentinel, .sentinel], laidTests := true, laidLooks := .later }
def SeenActsUptoCardSaid : Prop := Claim7.holds Tryd.pinned (.plain (OpenSpec.upto seenActsSpec)) seenActsUptoCard

/-- THE SECOND FORM's CARD OF 'keyholderlaw3.SessionSwept'. -/
def sessionSweptUptoCard : Claim7 := { stood := { row := sessionSweptUptoRow, standIns := [], harness := (true, "afa238cd9511ea6897fb10ce42bc28b19eb09f7ac86d66efa58466e9059c660d"), looks := true }, kinds := [], alts := [], laidByText := true, laidKinds := [.sentinel, .sentinel, .sentinel, .sentinel, .sentinel, .sentinel, .sentinel, .sentinel], laidTests := true, laidLooks := .later }
def SessionSweptUptoCardSaid : Prop := Claim7.holds Tryd.pinned (.plain (OpenSpec.upto sessionSweptSpec)) sessionSweptUptoCard
end Rows
end Go.Proofs.YteabincmopeljadDoor

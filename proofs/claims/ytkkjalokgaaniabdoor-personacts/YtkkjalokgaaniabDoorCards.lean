/-
  DERIVED. GIVEN WITH THE SEED: THE CARDS: each row of YtkkjalokgaaniabDoorRows.lean that lists a variable, with what it lists TIED to the program's text (the seventh form; the later family's looks); each row that meets fmt, with fmt's text TOLD by the authors' own Lean function (tested against real Go, not proved from fmt's source: count such statements apart). THE CARD IS WHAT COUNTS. Prove the row's statement (the work); the ties are given (YtkkjalokgaaniabDoorTie.lean); close each card by the builder's one call (the guide's Derived/Test/ToyasCard.lean, 'card_holds'). Laid BY PROGRAM, IN A SANDBOX (cutbox-door.mjs). By AI agents, Wed Nov 11 2026. No macro, syntax, notation, axiom, sorry.
-/
import Derived.Test.YtkkjalokgaaniabDoorRows
import GoSem.ClaimSeven
namespace Go.Proofs.YtkkjalokgaaniabDoor
namespace Rows

/-- THE TIED CARD OF 'keyholderlaw1.PersonActs'. -/
def personActsCard : Claim7 := { stood := { row := personActsRow, standIns := [], harness := (true, "7cd7499f27a30df1e6c9fd37c401cd21eedbdfef156eb36f318c4d5c7cb080ec"), looks := true }, kinds := [], alts := [], laidByText := true, laidKinds := [.handle, .sentinel, .sentinel, .sentinel, .sentinel, .sentinel, .sentinel, .sentinel, .sentinel, .sentinel, .sentinel, .sentinel, .sentinel, .sentinel, .sentinel, .sentinel, .sentinel], laidTests := true, laidLooks := .later }
def PersonActsCardSaid : Prop := Claim7.holds Tryd.pinned (.plain (OpenSpec.ofChange personActsSpec)) personActsCard

/-- THE TIED CARD OF 'keyholderlaw2.FloorJoins'. -/
def floorJoinsCard : Claim7 := { stood := { row := floorJoinsRow, standIns := [], harness := (true, "7cd7499f27a30df1e6c9fd37c401cd21eedbdfef156eb36f318c4d5c7cb080ec"), looks := true }, kinds := [], alts := [], laidByText := true, laidKinds := [.data, .data, .data, .data, .sentinel, .sentinel, .sentinel, .sentinel, .sentinel, .sentinel, .sentinel, .sentinel, .pinned], laidTests := true, laidLooks := .later }
def FloorJoinsCardSaid : Prop := Claim7.holds Tryd.pinned (.plain (OpenSpec.ofChange floorJoinsSpec)) floorJoinsCard

/-- THE TIED CARD OF 'keyholderlaw2.FloorOrder'. -/
def floorOrderCard : Claim7 := { stood := { row := floorOrderRow, standIns := [], harness := (true, "7cd7499f27a30df1e6c9fd37c401cd21eedbdfef156eb36f318c4d5c7cb080ec"), looks := true }, kinds := [], alts := [], laidByText := true, laidKinds := [.sentinel, .sentinel, .sentinel, .sentinel, .sentinel], laidTests := true, laidLooks := .later }
def FloorOrderCardSaid : Prop := Claim7.holds Tryd.pinned (.plain (OpenSpec.ofChange floorOrderSpec)) floorOrderCard

/-- THE SECOND FORM's CARD OF 'keyholderlaw1.PersonActs'. -/
def personActsUptoCard : Claim7 := { stood := { row := personActsUptoRow, standIns := [], harness := (true, "7cd7499f27a30df1e6c9fd37c401cd21eedbdfef156eb36f318c4d5c7cb080ec"), looks := true }, kinds := [], alts := [], laidByText := true, laidKinds := [.handle, .sentinel, .sentinel, .sentinel, .sentinel, .sentinel, .sentinel, .sentinel, .sentinel, .sentinel, .sentinel, .sentinel, .sentinel, .sentinel, .sentinel, .sentinel, .sentinel], laidTests := true, laidLooks := .later }
def PersonActsUptoCardSaid : Prop := Claim7.holds Tryd.pinned (.plain (OpenSpec.upto personActsSpec)) personActsUptoCard

/-- THE SECOND FORM's CARD OF 'keyholderlaw2.FloorJoins'. -/
def floorJoinsUptoCard : Claim7 := { stood := { row := floorJoinsUptoRow, standIns := [], harness := (true, "7cd7499f27a30df1e6c9fd37c401cd21eedbdfef156eb36f318c4d5c7cb080ec"), looks := true }, kinds := [], alts := [], laidByText := true, laidKinds := [.data, .data, .data, .data, .sentinel, .sentinel, .sentinel, .sentinel, .sentinel, .sentinel, .sentinel, .sentinel, .pinned], laidTests := true, laidLooks := .later }
def FloorJoinsUptoCardSaid : Prop := Claim7.holds Tryd.pinned (.plain (OpenSpec.upto floorJoinsSpec)) floorJoinsUptoCard

/-- THE SECOND FORM's CARD OF 'keyholderlaw2.FloorOrder'. -/
def floorOrderUptoCard : Claim7 := { stood := { row := floorOrderUptoRow, standIns := [], harness := (true, "7cd7499f27a30df1e6c9fd37c401cd21eedbdfef156eb36f318c4d5c7cb080ec"), looks := true }, kinds := [], alts := [], laidByText := true, laidKinds := [.sentinel, .sentinel, .sentinel, .sentinel, .sentinel], laidTests := true, laidLooks := .later }
def FloorOrderUptoCardSaid : Prop := Claim7.holds Tryd.pinned (.plain (OpenSpec.upto floorOrderSpec)) floorOrderUptoCard
end Rows
end Go.Proofs.YtkkjalokgaaniabDoor

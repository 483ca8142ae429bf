/-
  DERIVED. GIVEN WITH THE SEED: THE CARDS: each row of YtgagekcjdapkfadDoorRows.lean that lists a variable, with what it lists TIED to the program's text (the seventh form; the later family's looks); each row that meets fmt, with fmt's text TOLD by the authors' own Lean function (tested against real Go, not proved from fmt's source: count such statements apart). THE CARD IS WHAT COUNTS. Prove the row's statement (the work); the ties are given (YtgagekcjdapkfadDoorTie.lean); close each card by the builder's one call (the guide's Derived/Test/ToyasCard.lean, 'card_holds'). Laid BY PROGRAM, IN A SANDBOX (cutbox-door.mjs). By AI agents, Wed Nov 11 2026. No macro, syntax, notation, axiom, sorry.
-/
import Derived.Test.YtgagekcjdapkfadDoorRows
import GoSem.ClaimSeven
namespace Go.Proofs.YtgagekcjdapkfadDoor
namespace Rows

/-- THE TIED CARD OF 'keyholderlaw3.SeenOnce'. -/
def seenOnceCard : Claim7 := { stood := { row := seenOnceRow, standIns := [], harness := (true, "dacc977601ac634f45ec9b173b2cc75b86f0952b439e261743da5c69483eb88a"), looks := true }, kinds := [], alts := [], laidByText := true, laidKinds := [.handle, .sentinel, .sentinel, .sentinel, .sentinel, .sentinel, .sentinel, .sentinel, .sentinel, .sentinel, .sentinel, .sentinel, .sentinel, .sentinel, .sentinel, .sentinel, .sentinel], laidTests := true, laidLooks := .later }
def SeenOnceCardSaid : Prop := Claim7.holds Tryd.pinned (.plain (OpenSpec.ofChange seenOnceSpec)) seenOnceCard

/-- THE TIED CARD OF 'keyholderlaw3.SeenActs'. -/
def seenActsCard : Claim7 := { stood := { row := seenActsRow, standIns := [], harness := (true, "dacc977601ac634f45ec9b173b2cc75b86f0952b439e261743da5c69483eb88a"), looks := true }, kinds := [], alts := [], laidByText := true, laidKinds := [.handle, .sentinel, .sentinel, .sentinel, .sentinel, .sentinel, .sentinel, .sentinel, .sentinel, .sentinel, .sentinel, .sentinel, .sentinel, .sentinel, .sentinel, .sentinel, .sentinel], laidTests := true, laidLooks := .later }
def SeenActsCardSaid : Prop := Claim7.holds Tryd.pinned (.plain (OpenSpec.ofChange seenActsSpec)) seenActsCard

/-- THE SECOND FORM's CARD OF 'keyholderlaw3.SeenOnce'. -/
def seenOnceUptoCard : Claim7 := { stood := { row := seenOnceUptoRow, standIns := [], harness := (true, "dacc977601ac634f45ec9b173b2cc75b86f0952b439e261743da5c69483eb88a"), looks := true }, kinds := [], alts := [], laidByText := true, laidKinds := [.handle, .sentinel, .sentinel, .sentinel, .sentinel, .sentinel, .sentinel, .sentinel, .sentinel, .sentinel, .sentinel, .sentinel, .sentinel, .sentinel, .sentinel, .sentinel, .sentinel], laidTests := true, laidLooks := .later }
def SeenOnceUptoCardSaid : Prop := Claim7.holds Tryd.pinned (.plain (OpenSpec.upto seenOnceSpec)) seenOnceUptoCard

/-- THE SECOND FORM's CARD OF 'keyholderlaw3.SeenActs'. -/
def seenActsUptoCard : Claim7 := { stood := { row := seenActsUptoRow, standIns := [], harness := (true, "dacc977601ac634f45ec9b173b2cc75b86f0952b439e261743da5c69483eb88a"), looks := true }, kinds := [], alts := [], laidByText := true, laidKinds := [.handle, .sentinel, .sentinel, .sentinel, .sentinel, .sentinel, .sentinel, .sentinel, .sentinel, .sentinel, .sentinel, .sentinel, .sentinel, .sentinel, .sentinel, .sentinel, .sentinel], laidTests := true, laidLooks := .later }
def SeenActsUptoCardSaid : Prop := Claim7.holds Tryd.pinned (.plain (OpenSpec.upto seenActsSpec)) seenActsUptoCard
end Rows
end Go.Proofs.YtgagekcjdapkfadDoor

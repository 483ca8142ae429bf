/-
  A slice of texts that came in, opened, and that a nil one has no room.
-/
import Derived.Test.YtgagekcjdapkfaaGreatDoorLaidLib
namespace Go.Proofs.YtgagekcjdapkfaaGreatDoor
open Go.ChangeShapes Go.WideShapes Go.ChangeAt Go.RowKit

theorem texts_open2 {H : Type} {enc : TypeId × Value → H} {W : World} {base : Nat} {spare : Nat → Bool} {held : Bool} {a0 : Option Addr} {len cap : Nat} {d : DataW H} {p : List MemPlace}
    (h : DataW.Trod enc Tryz.prog W base spare held 22 (.slice a0 len cap) d p) : ∃ xs, TextsAt W (.slice a0 len cap) xs ∧ (∀ n c, Value.slice a0 len cap = .slice none n c → c = 0) ∧ ∀ x ∈ xs, x.size ≤ maxLen := by
  obtain ⟨xs, h1, h2⟩ := texts_open h
  refine ⟨xs, h1, fun n c e => ?_, h2⟩
  injection e with e1 e2 e3
  subst e1; subst e3
  obtain ⟨fuel, hf⟩ := h
  rcases open_strings Tryz.underlying22 Tryz.underlying9 Tryz.strCells hf with ⟨hcs, _⟩ | ⟨a, len', cap', ss, hcs, _⟩
  · have e : len = 0 ∧ cap = 0 := by simpa [Value.cells] using hcs
    exact e.2
  · simp [Value.cells] at hcs
end Go.Proofs.YtgagekcjdapkfaaGreatDoor

/-
  What the statements' helpers answer: SameTexts true of two slices of the same texts; longWords whether there are more than fifteen or one of more than thirty bytes; the closed fact 'sealed' is true.
-/
import Derived.Test.YtgagekcjdapkfadGreatDoorSealMake
namespace Go.Proofs.YtgagekcjdapkfadGreatDoor
open Go.RowKit Go.Extern.Stop Go.Stop Go.Extern

/-- Texts too many, or too long, for a statement. -/
def longB (xs : List ByteArray) : Bool := decide (15 < xs.length) || xs.any (fun x => decide (30 < x.size))

def ws0 : List (List UInt8) := [[97], [98, 45, 49]]
def xs0 : List ByteArray := [⟨#[97]⟩, ⟨#[98, 45, 49]⟩]
theorem ws0_ok : Sl.wordsOk ws0 = true := by decide
theorem mk6_ne : Mk.mk 6 6 (Sl.glue ws0) ≠ (Sl.sealM 5 ws0 : Int) := by
  rw [Sl.sealM_mk 5 (by decide)]
  decide +kernel
theorem open6 : Sl.openE 6 (Sl.sealL 5 ws0) = 9 := by
  obtain ⟨h1, h2, h3, _, _⟩ := Sl.seal_look 5 (by decide) ws0 ws0_ok
  unfold Sl.openE
  rw [if_pos (by decide), if_pos h3, h1, if_neg]
  unfold Sl.lookN
  rw [h2, Sl.dec_val]
  exact mk6_ne

theorem xs0_texts (w : World) : Texts (w.alloc (.cells #[.string ⟨#[97]⟩, .string ⟨#[98, 45, 49]⟩] 9)) w.heap.size 0 xs0 := fun j hj => by
  match j, hj with
  | 0, _ => simp [xs0]
  | 1, _ => simp [xs0]

end Go.Proofs.YtgagekcjdapkfadGreatDoor

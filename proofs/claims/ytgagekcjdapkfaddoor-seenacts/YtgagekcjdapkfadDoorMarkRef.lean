/-
  What the document's answer for marks answers (IsKey, MarkFrom, MarkOf, MarkError), for every key, number and text up to the longest that can be: the same mark, and the numbers of the errors.
-/
import Derived.Test.YtgagekcjdapkfadDoorMarkOf
namespace Go.Proofs.YtgagekcjdapkfadDoor
open Go.RowKit Go.Extern.Stop Go.Stop Go.Extern

theorem drop_cons (s : ByteArray) (k : Nat) (h : k < s.size) : s.data.toList.drop k = s[k] :: s.data.toList.drop (k + 1) := by
  rw [List.drop_eq_getElem_cons (by simpa using h)]; rfl
theorem mul_bd (p q : Int) (hp : 0 ≤ p ∧ p ≤ 1000000006) (hq : 0 ≤ q ∧ q ≤ 1000000006) : 0 ≤ p * q ∧ p * q ≤ 1000000012000000036 := by
  refine ⟨Int.mul_nonneg hp.1 hq.1, ?_⟩
  have h1 : p * q ≤ 1000000006 * q := Int.mul_le_mul_of_nonneg_right hp.2 hq.1
  omega

end Go.Proofs.YtgagekcjdapkfadDoor

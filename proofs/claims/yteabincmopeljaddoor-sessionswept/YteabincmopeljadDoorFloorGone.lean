/-
  What goes where a floor is raised: the closure of package floor's raised, and the library's IndexFunc with it.
-/
import Derived.Test.YteabincmopeljadDoorFloorFind
namespace Go.Proofs.YteabincmopeljadDoor
open Go.RowKit Go.Extern.Stop Go.Stop Go.Extern Go.Proofs

/-- A floor's block. -/
abbrev flO (f : Fl) : Obj := .cells #[.string f.who, .int .i64 f.ep] 83 (0, 0)

/-- The first that goes, as a number: -1 where none does. -/
def goneI (l : List Fl) (f : Fl) : Int := match l.findIdx? (goesF f) with | some i => (i : Int) | none => -1
theorem goneI_some (l : List Fl) (f : Fl) (k : Nat) (hk : k < l.length) (h : goesF f l[k] = true) (hb : ∀ j (hj : j < l.length), j < k → goesF f l[j] = false) : goneI l f = k := by
  have : l.findIdx? (goesF f) = some k := by
    rw [List.findIdx?_eq_some_iff_getElem]
    exact ⟨hk, h, fun j hj => by simp [hb j (by omega) hj]⟩
  unfold goneI
  rw [this]
theorem goneI_none (l : List Fl) (f : Fl) (h : ∀ j (hj : j < l.length), goesF f l[j] = false) : goneI l f = -1 := by
  have : l.findIdx? (goesF f) = none := by
    rw [List.findIdx?_eq_none_iff]
    intro x hx
    obtain ⟨j, hj, rfl⟩ := List.getElem_of_mem hx
    exact h j hj
  unfold goneI
  rw [this]
theorem goneI_cases (l : List Fl) (f : Fl) : (goneI l f = -1 ∧ ∀ j (hj : j < l.length), goesF f l[j] = false) ∨ ∃ k : Nat, ∃ hk : k < l.length, goneI l f = k ∧ goesF f l[k] = true ∧ ∀ j (hj : j < l.length), j < k → goesF f l[j] = false := by
  unfold goneI
  cases hf : l.findIdx? (goesF f) with
  | none =>
    rw [List.findIdx?_eq_none_iff] at hf
    exact Or.inl ⟨rfl, fun j hj => hf _ (List.getElem_mem _)⟩
  | some k =>
    rw [List.findIdx?_eq_some_iff_getElem] at hf
    obtain ⟨hk, h1, h2⟩ := hf
    exact Or.inr ⟨k, hk, rfl, h1, fun j hj hjk => by simpa using h2 j hjk⟩

end Go.Proofs.YteabincmopeljadDoor

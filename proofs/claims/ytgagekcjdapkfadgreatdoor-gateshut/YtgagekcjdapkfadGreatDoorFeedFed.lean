/-
  The closed fact of the chapter's statements: a head of one entry tells what it was made of.
-/
import Derived.Test.YtgagekcjdapkfadGreatDoorFeedAdd
import Derived.Test.YtgagekcjdapkfadGreatDoorFeedPb
import Derived.Deep.DeepCutAuto
namespace Go.Proofs.YtgagekcjdapkfadGreatDoor
open Go.RowKit Go.Extern.Stop Go.Stop Go.Extern Go.Proofs

abbrev enAnn : En := ⟨1, 3, ⟨fAnn, 2⟩⟩
theorem feed_nil : feedC [] = (0, -1) := rfl
theorem new_ann : newE [] 3 ⟨fAnn, 2⟩ = 0 := by
  unfold newE entE
  rw [if_neg (by decide), if_pos (by decide), if_pos (by decide), if_neg (by decide)]
  rfl
theorem add_ann : addC [] 3 ⟨fAnn, 2⟩ = (0, -1) ∧ addR [] 3 ⟨fAnn, 2⟩ = [enAnn] := by
  have e : addC [] 3 ⟨fAnn, 2⟩ = (0, -1) := by unfold addC; rw [if_pos (by rw [feed_nil]), new_ann]
  refine ⟨e, ?_⟩
  unfold addR
  rw [e, if_pos rfl]
  rfl
theorem feed_ann : (feedC [enAnn]).1 = 0 := (feed_add (l := []) (by rw [feed_nil]) 3 ⟨fAnn, 2⟩).trans new_ann
theorem raise_ann : (raiseC [] ⟨fAnn, 2⟩).1 = 0 ∧ raisedL [] ⟨fAnn, 2⟩ = [⟨fAnn, 2⟩] := ⟨by rw [raiseC_right right_nil (by decide) rfl]; rfl, rfl⟩
theorem floors_ann : floorsC [enAnn] = (0, -1) ∧ floorsR [enAnn] = [⟨fAnn, 2⟩] := by
  refine floors_some feed_ann ?_
  show stepO (some []) enAnn = _
  show (if (raiseC [] ⟨fAnn, 2⟩).1 = 0 then some (raisedL [] ⟨fAnn, 2⟩) else none) = _
  rw [if_pos raise_ann.1, raise_ann.2]
theorem head_ann : headC 7 [enAnn] 4 = (0, -1) := by
  unfold headC
  rw [if_pos (by decide), if_pos (by rw [floors_ann.1]), if_pos ⟨by decide, by decide⟩]
theorem opened_ann : openHC 7 (headT 7 [enAnn] 4) = 0 ∧ openHR 7 (headT 7 [enAnn] 4) = ⟨1, 4, sumL [⟨fAnn, 2⟩]⟩ := by
  have := head_open (key := 7) (l := [enAnn]) (time := 4) (by rw [head_ann])
  rw [floors_ann.2] at this
  exact this
theorem small_ann : ∀ f ∈ ([⟨fAnn, 2⟩] : List Fl), f.who.size ≤ maxLen := by
  intro f hf
  rw [List.mem_singleton.1 hf]
  decide

end Go.Proofs.YtgagekcjdapkfadGreatDoor

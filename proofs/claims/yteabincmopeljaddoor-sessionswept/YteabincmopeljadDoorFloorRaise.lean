/-
  What package floor's raised does to a row of one's own, and what Raise gives: the list with the floor raised, in new memory, or an error; for every list and floor.
-/
import Derived.Test.YteabincmopeljadDoorFloorInsert
import Derived.Deep.RegionHeld3
namespace Go.Proofs.YteabincmopeljadDoor
open Go.RowKit Go.Extern.Stop Go.Stop Go.Extern Go.Proofs

theorem own_ne {w : World} {B fb : Nat} {v : Value} {l : List Fl} (h : OwnF w B v l) (hw : w.heap.size ≤ fb) : v.ownBlock ≠ some fb := fun e => by
  have := (h.lt fb e).2
  omega

/-- What Raise gives: the error's number and place, and the list. -/
def raiseC (l : List Fl) (f : Fl) : Nat × Int := if (checkL l).1 = 0 then (if oneE f = 0 then checkL (raisedL l f) else (oneE f, -1)) else checkL l
def raiseR (l : List Fl) (f : Fl) : List Fl := if (raiseC l f).1 = 0 then raisedL l f else []
/-- A list in memory of one's own, and an error, by its number and place. -/
def ListPost (a : Nat → Addr) (c : Nat × Int) (r : List Fl) (B : Nat) (e : Ending) (w' : World) : Prop := ∃ v' ev, e = .returned (.tuple #[v', ev]) ∧ OwnF w' B v' r ∧ FlErr a w' c ev ∧ (c.1 ≠ 0 → v' = .slice none 0 0)
theorem FlErr.plain {a : Nat → Addr} {w : World} {c : Nat} (hc : c ≠ 0) : FlErr a w (c, -1) (eV (a (c - 1))) := Or.inr (Or.inl ⟨hc, rfl, rfl⟩)
theorem small_raised {l : List Fl} {f : Fl} (h : ∀ g ∈ l, g.who.size ≤ maxLen) (hf : f.who.size ≤ maxLen) : ∀ g ∈ raisedL l f, g.who.size ≤ maxLen := by
  intro g hg
  unfold raisedL at hg
  split at hg
  · exact h g hg
  · rcases mem_putF.1 hg with e | e
    · rw [e]; exact hf
    · exact h g (mem_keptF.1 e).1
theorem len_raised (l : List Fl) (f : Fl) : (raisedL l f).length ≤ l.length + 1 := by
  unfold raisedL
  split
  · omega
  · unfold putF
    have := List.length_filter_le (fun o => !goesF f o) l
    have e : (keptF l f).length = (l.filter (fun o => !goesF f o)).length := rfl
    rw [List.length_append, List.length_take, List.length_cons, List.length_drop]
    omega

end Go.Proofs.YteabincmopeljadDoor

/-
  What package floor's checkOne, ofAll, checkBehind and Check answer, for every floor and every list.
-/
import Derived.Test.YteofodegeigmaaaDoorFloorPlain
import Derived.Test.YteofodegeigmaaaDoorFloorRun
import Derived.Test.YteofodegeigmaaaDoorSealWords
import Derived.Test.YteofodegeigmaaaDoorQuietBelow
import Derived.Laws.Rows
import Derived.Laws.Cover1
import Derived.Sort.Walk0
import Derived.Laws.NewBlocks
import Derived.RegionTactic
namespace Go.Proofs.YteofodegeigmaaaDoor
open Go.RowKit Go.Extern.Stop Go.Stop Go.Extern

/-- The errors that the chapter's checks give. -/
def flS (i : Nat) : Bool := i == 1 || i == 2 || i == 3 || i == 6 || i == 7
/-- Floors in memory: a slice's value and its list. -/
def FlAt (w : World) (v : Value) (l : List Fl) : Prop :=
  (∃ ad cap, v = .slice ad 0 cap ∧ l = []) ∨ ∃ b off cap, v = .slice (some ⟨b, off, none⟩) l.length cap ∧ l.length ≤ cap ∧ ∀ j u, (cellsF l)[j]? = some u → w.cell? ⟨b, off + j, none⟩ = some u
theorem FlAt.below {w w' : World} {v : Value} {l : List Fl} (h : FlAt w v l) (hb : Below w.heap.size w w') : FlAt w' v l := by
  rcases h with h | ⟨b, off, cap, h1, h2, h3⟩
  · exact Or.inl h
  · exact Or.inr ⟨b, off, cap, h1, h2, fun j u hu => by rw [hb.cell (p := ⟨b, off + j, none⟩) (cell_lt (h3 j u hu))]; exact h3 j u hu⟩
theorem FlAt.form {w : World} {v : Value} {l : List Fl} (h : FlAt w v l) : ∃ ad cap, v = .slice ad l.length cap ∧ l.length ≤ cap := by
  rcases h with ⟨ad, cap, rfl, rfl⟩ | ⟨b, off, cap, h1, h2, h3⟩
  · exact ⟨ad, cap, rfl, Nat.zero_le _⟩
  · exact ⟨_, _, h1, h2⟩
/-- Where there is a floor there is an address, and there are its cells. -/
theorem FlAt.at {w : World} {v : Value} {l : List Fl} (h : FlAt w v l) (hn : 0 < l.length) : ∃ b off cap, v = .slice (some ⟨b, off, none⟩) l.length cap ∧ l.length ≤ cap ∧ b < w.heap.size ∧
    ∀ i (hi : i < l.length), w.cell? ⟨b, off + i * 2, none⟩ = some (.string l[i].who) ∧ w.cell? ⟨b, off + i * 2 + 1, none⟩ = some (.int .i64 l[i].ep) := by
  rcases h with ⟨_, _, _, rfl⟩ | ⟨b, off, cap, h1, h2, h3⟩
  · simp at hn
  · exact ⟨b, off, cap, h1, h2, cell_lt (h3 0 _ (cellsF_who l 0 hn)), fun i hi => ⟨h3 _ _ (cellsF_who l i hi), by rw [Nat.add_assoc]; exact h3 _ _ (cellsF_ep l i hi)⟩⟩
theorem FlAt.take {w : World} {b off cap : Nat} {l : List Fl} (h2 : l.length ≤ cap) (h3 : ∀ j u, (cellsF l)[j]? = some u → w.cell? ⟨b, off + j, none⟩ = some u) (k : Nat) (hk : k ≤ l.length) : FlAt w (.slice (some ⟨b, off, none⟩) k cap) (l.take k) := by
  refine Or.inr ⟨b, off, cap, by rw [List.length_take, Nat.min_eq_left hk], by rw [List.length_take]; omega, fun j u hu => h3 j u ?_⟩
  rw [cellsF_take, List.getElem?_take] at hu
  split at hu
  · exact hu
  · cases hu
theorem star_who (f : Fl) : (f.who.toList == [42]) = decide (f.nm = star) := by
  rw [Lib.toList_data]
  unfold Fl.nm star
  by_cases h : f.who.data.toList = [42]
  · rw [h]; rfl
  · rw [decide_eq_false h]; exact beq_eq_false_iff_ne.2 h

theorem less_names (x y : ByteArray) : Op.bytesLess x.toList y.toList = decide (x.data.toList < y.data.toList) := by
  rw [bytesLess_eq, Lib.toList_data, Lib.toList_data]
theorem same_names (x y : ByteArray) : (x.toList == y.toList) = decide (x.data.toList = y.data.toList) := by
  rw [Lib.toList_data, Lib.toList_data]
  by_cases h : x.data.toList = y.data.toList
  · rw [h]; simp
  · rw [decide_eq_false h]; exact beq_eq_false_iff_ne.2 h
/-- Three ways in which two names can stand. -/
theorem names_cases (x y : ByteArray) : (x.data.toList < y.data.toList ∧ Op.bytesLess x.toList y.toList = true ∧ (x.toList == y.toList) = false) ∨ (x.data.toList = y.data.toList ∧ Op.bytesLess x.toList y.toList = false ∧ (x.toList == y.toList) = true) ∨
    (y.data.toList < x.data.toList ∧ Op.bytesLess x.toList y.toList = false ∧ (x.toList == y.toList) = false) := by
  rw [less_names, same_names]
  by_cases h1 : x.data.toList < y.data.toList
  · exact Or.inl ⟨h1, decide_eq_true h1, decide_eq_false (fun e => by rw [e] at h1; exact List.lt_irrefl _ h1)⟩
  · by_cases h2 : x.data.toList = y.data.toList
    · exact Or.inr (Or.inl ⟨h2, decide_eq_false h1, decide_eq_true h2⟩)
    · exact Or.inr (Or.inr ⟨Decidable.byContradiction fun g => h2 (List.le_antisymm (List.not_lt.1 g) (List.not_lt.1 h1)), decide_eq_false h1, decide_eq_false h2⟩)


end Go.Proofs.YteofodegeigmaaaDoor

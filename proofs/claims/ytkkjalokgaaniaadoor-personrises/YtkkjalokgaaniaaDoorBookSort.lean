/-
  People sorted by names: what the library's sort leaves is the one list by names; a row of people as the sort speaks of it, and as append does.
-/
import Derived.Test.YtkkjalokgaaniaaDoorBookActs
import Derived.Shelf.SlSortCmp.InsertionK
import Derived.Lib.Bytealg
namespace Go.Proofs.YtkkjalokgaaniaaDoor
open Go Go.Sort Go.Proofs

theorem compare_lt : ∀ (a b : List UInt8), decide (Lib.compareBytes a b < 0) = decide (a < b)
  | [], [] => by simp [Lib.compareBytes]
  | [], _ :: _ => by simp [Lib.compareBytes]
  | _ :: _, [] => by simp [Lib.compareBytes]
  | a :: x, b :: y => by
    rw [Lib.compareBytes]
    have ih := compare_lt x y
    simp only [List.cons_lt_cons_iff]
    by_cases h1 : a < b
    · simp [h1]
    · by_cases h2 : b < a
      · have : a ≠ b := fun e => by subst e; exact h1 h2
        simp [h1, h2, this]
      · have : a = b := UInt8.le_antisymm (UInt8.not_lt.1 h2) (UInt8.not_lt.1 h1)
        subst this
        simpa [h1] using ih
/-- byName. -/
def cmpP (p q : Per) : Int := Lib.compareBytes p.nm q.nm
theorem ltP_eq (p q : Per) : ltOf cmpP p q = decide (p.nm < q.nm) := compare_lt _ _
theorem swoP : SWO (ltOf cmpP) where
  irrefl x := by rw [ltP_eq]; exact decide_eq_false (List.lt_irrefl _)
  trans x y z h1 h2 := by
    rw [ltP_eq, decide_eq_true_eq] at *
    exact List.lt_trans h1 h2
  ntrans x y z h1 h2 := by
    rw [ltP_eq, decide_eq_false_iff_not] at *
    exact List.not_lt.2 (List.le_trans (List.not_lt.1 h2) (List.not_lt.1 h1))

/-- What is sorted by names is the list by names. -/
theorem sorted_is [Inhabited Per] {L : List Per} (hr : Rising L) {d d' : Array Per} (hp : d.toList.Perm L) (h1 : PermIn 0 d.size d d') (h2 : SortedIn (ltOf cmpP) 0 d.size d') : d'.toList = L := by
  obtain ⟨hs, _, hperm⟩ := h1
  rw [Array.extract_eq_self_of_le (by omega), Array.extract_eq_self_of_le (by omega)] at hperm
  have hall := hperm.trans hp
  refine rising_unique ?_ hr hall
  have hne : d'.toList.Pairwise (fun p q => p.nm ≠ q.nm) := (hall.pairwise_iff (fun {_ _} h e => h e.symm)).2 (hr.imp (fun h e => by rw [e] at h; exact List.lt_irrefl _ h))
  refine List.pairwise_iff_getElem.2 fun i j hi hj hij => ?_
  have hn := List.pairwise_iff_getElem.1 hne i j hi hj hij
  have hi' : i < d'.size := by simpa using hi
  have hj' : j < d'.size := by simpa using hj
  have hso := h2 i j (Nat.zero_le _) hij (by omega)
  rw [ltP_eq, decide_eq_false_iff_not, getElem!_pos d' i hi', getElem!_pos d' j hj'] at hso
  simp only [Array.getElem_toList] at hn ⊢
  exact Decidable.byContradiction fun g => hn (List.le_antisymm (List.not_lt.1 hso) (List.not_lt.1 g))

theorem flat_cells [Inhabited Per] (L : List Per) : (flatK Per.cells 4 L.toArray).toList = cellsP L := by
  apply List.ext_getElem?
  intro t
  by_cases ht : t < L.length * 4
  · have hq : t / 4 < L.length := by omega
    have e := cellsP_at L (t / 4) (t % 4) hq (by omega)
    rw [show t / 4 * 4 + t % 4 = t by omega] at e
    have hl : t % 4 < L[t / 4].cells.length := by show t % 4 < 4; omega
    rw [e, List.getElem?_eq_getElem hl, Array.getElem?_toList, Array.getElem?_eq_getElem (by rw [size_flatK]; simpa using ht)]
    have := get_flatK Per.cells 4 L.toArray t (by simpa using ht)
    rw [getElem!_pos _ t (by rw [size_flatK]; simpa using ht)] at this
    rw [this, getElem!_pos L.toArray (t / 4) (by simpa using hq)]
    simp only [List.getElem_toArray]
    rw [getElem!_pos _ (t % 4) hl]
  · rw [List.getElem?_eq_none (by simp; omega), List.getElem?_eq_none (by rw [cellsP_len]; omega)]

theorem holds_of_own [Inhabited Per] {w : World} {base g cap : Nat} {T : TypeId} {L : List Per} (h : w.ownsRow base T 4 (.slice (some ⟨g, 0, none⟩) L.length cap) L.length (cellsP L)) : HoldsK Per.cells 4 w g 0 L.toArray := by
  rcases h.2 with ⟨h0, _⟩ | ⟨g', cap', cur, hv, _, hb, _, _, _, ht⟩
  · cases h0
  cases hv
  intro j hj
  have hj' : j < L.length * 4 := by simpa using hj
  refine ⟨?_, by simp [World.frozen?, hb]⟩
  have e : (flatK Per.cells 4 L.toArray)[j]? = (cellsP L)[j]? := by rw [← flat_cells, Array.getElem?_toList]
  rw [← ht, List.getElem?_take_of_lt hj', Array.getElem?_eq_getElem hj] at e
  simp only [World.cell?, hb, Nat.zero_add]
  simp only [Option.isSome_none, Bool.false_eq_true, if_false]
  rw [← Array.getElem?_toList, ← e, getElem!_pos _ j hj]
  rfl

theorem heap_sortedK [Inhabited Per] {w : World} {g n : Nat} {os : Array Obj} {cur : Array Value} {T : TypeId} (d : Array Per) (hb : w.heap[g]? = some (.cells cur T (0, 0))) :
    (sortWorldK Per.cells 4 w g 0 n d os).heap[g]? = some (.cells (putCells id 0 (flatK Per.cells 4 d) cur) T (0, 0)) := by
  have hg : g < w.heap.size := (Array.getElem?_eq_some_iff.1 hb).1
  unfold sortWorldK putRowK
  rw [heap_grow_old _ _ (by simpa using hg)]
  simp [putRow, mapBlock, Sort.ahead, Array.getElem?_modify, hb, onCells]
theorem grown_sortedK [Inhabited Per] {w : World} {g n : Nat} {os : Array Obj} (d : Array Per) : w.grownBy (sortWorldK Per.cells 4 w g 0 n d os) (some g) := by
  unfold sortWorldK putRowK
  refine ⟨rfl, rfl, rfl, by simp, fun k hk hne => ?_⟩
  rw [heap_grow_old _ _ (by simpa using hk)]
  have : g ≠ k := fun e => hne (by rw [e])
  simp [putRow, mapBlock, Sort.ahead, Array.getElem?_modify, this]
theorem take_putK [Inhabited Per] (cur : Array Value) (L : List Per) (h : L.length * 4 ≤ cur.size) : (putCells id 0 (flatK Per.cells 4 L.toArray) cur).toList.take (L.length * 4) = cellsP L := by
  rw [← flat_cells]
  apply List.ext_getElem?
  intro j
  by_cases hj : j < L.length * 4
  · rw [List.getElem?_take_of_lt hj, Array.getElem?_toList, Array.getElem?_toList]
    simp [putCells, hj, show j < cur.size by omega]
  · rw [List.getElem?_take_eq_none (by omega), List.getElem?_eq_none (by simp; omega)]
/-- Behind the sort the same slice owns the people by names. -/
theorem own_sortedK [Inhabited Per] {w : World} {base g cap n : Nat} {T : TypeId} {os : Array Obj} {L M : List Per} (h : w.ownsRow base T 4 (.slice (some ⟨g, 0, none⟩) L.length cap) L.length (cellsP L)) (hl : M.length = L.length) :
    (sortWorldK Per.cells 4 w g 0 n M.toArray os).ownsRow base T 4 (.slice (some ⟨g, 0, none⟩) M.length cap) M.length (cellsP M) := by
  rcases h.2 with ⟨h0, _⟩ | ⟨g', cap', cur, hv, hg, hb, h1, h2, h3, _⟩
  · cases h0
  cases hv
  exact ⟨by rw [cellsP_len], .inr ⟨g, cap, _, rfl, hg, heap_sortedK _ hb, by omega, h2, by simp [putCells, h3], take_putK cur M (by omega)⟩⟩
end Go.Proofs.YtkkjalokgaaniaaDoor

/-
  Three small facts on worlds: a cell that reads lies below the heap's size, so does a block that is there, and a new block is where the heap ended.
-/
import Derived.Below
namespace Go.Proofs.YteofodegeigmaaaDoor
open Go.RowKit

theorem hide {p : Prop} (h : p) : Hid p := h
/-- What an int holds. -/
def I64 (n : Int) : Prop := -9223372036854775808 ≤ n ∧ n ≤ 9223372036854775807
/-- What a byte holds. -/
def U8 (n : Int) : Prop := 0 ≤ n ∧ n ≤ 255
theorem cell_lt {w : World} {p : Addr} {v : Value} (h : w.cell? p = some v) : p.block < w.heap.size := by
  rcases Nat.lt_or_ge p.block w.heap.size with g | g
  · exact g
  · simp [World.cell?, Array.getElem?_eq_none g] at h
theorem row_lt {w : World} {b : Nat} {o : Obj} (h : w.heap[b]? = some o) : b < w.heap.size := by
  rcases Nat.lt_or_ge b w.heap.size with g | g
  · exact g
  · simp [Array.getElem?_eq_none g] at h

theorem alloc_row (w : World) (o : Obj) : (w.alloc o).heap[w.heap.size]? = some o := by
  show (w.heap.push o)[w.heap.size]? = _
  simp
end Go.Proofs.YteofodegeigmaaaDoor

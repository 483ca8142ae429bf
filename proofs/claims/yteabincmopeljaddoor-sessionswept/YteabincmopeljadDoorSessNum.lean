/-
  A row of numbers in memory.
-/
import Derived.Test.YteabincmopeljadDoorProg
import Derived.OwnWalk
import Derived.WalkKit
namespace Go.Proofs.YteabincmopeljadDoor
open Go Go.RowKit Go.Proofs

theorem Tryd.infoNum : (Tryd.prog.info? 3).map (fun i => (i.zero, i.size, i.bytes)) = some (some (.int .i64 0), 1, 8) := by kernel_rfl
/-- Numbers as cells. -/
def cellsNum (xs : List Int) : List Value := xs.map fun x => .int .i64 x
theorem new_num (w : World) (x : Int) : ∀ j u, [Value.int .i64 x][j]? = some u → (w.alloc (.cells #[.int .i64 x] 3)).cell? ((⟨w.heap.size, 0, none⟩ : Addr).add j) = some u := fun j u hj => by
  rw [Go.WideShapes.add_plain, World.cell?_alloc_at _ _ _ _ rfl, Nat.zero_add]
  match j, hj with
  | 0, hj => exact hj
  | j + 1, hj => simp at hj
theorem new_num1 (x : Int) : ∀ u ∈ [Value.int .i64 x], u.oneCell' = true := fun u hu => by
  rw [List.mem_singleton.1 hu]; rfl
abbrev OwnNum (w : World) (B : Nat) (v : Value) (xs : List Int) : Prop := w.ownsRow B 3 1 v xs.length (cellsNum xs)
end Go.Proofs.YteabincmopeljadDoor

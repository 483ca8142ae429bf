/-
  What package session's All gives: a new row of the numbers that are open, rising; for every desk.
-/
import Derived.Test.YteabincmopeljadDoorSessDo
import Derived.Test.YteabincmopeljadDoorSessSort
namespace Go.Proofs.YteabincmopeljadDoor
open Go Go.RowKit Go.Maps Go.Sort Go.Proofs Go.Shelf

set_option maxRecDepth 100000 in
set_option maxHeartbeats 1000000 in
theorem deAll_any (p m : Nat) (d : Dk) (w : World) (h : DeskAt w p m d) :
    Calls Tryd.prog 22 #[.pointer (some ⟨p, 0, none⟩)] w fun e w' => ∃ v, e = .returned v ∧ OwnNum w' w.heap.size v (d.l.map Os.n) ∧ Below w.heap.size w w' := by
  have hc := (de_cells h.row).2.1
  have HV := hide (keysT_any (some m) w)
  have HS := hide (sortedT_any w.heap.size m d.l.length d.l h.good.rising (Nat.le_trans h.good.few (by decide)) (w.alloc (.cells #[.map (some m)] 85)) (by simp) (by simp) (h.own.alloc _))
  have HB : Hid (Below w.heap.size w (w.alloc (.cells #[.map (some m)] 85))) := (Below.refl _ _).alloc (Nat.le_refl _) _
  clear h
  go_enter Tryd.func22, Tryd.ntmps22
  go_wp2_with fail
  refine HV.out.mono ?_
  rintro e w1 ⟨rfl, rfl⟩
  go_wp2_with fail
  refine HS.out.mono ?_
  rintro e w2 ⟨v, rfl, ho, hb⟩
  have HO := hide ho
  have HB2 := hide hb
  clear ho hb
  go_wp2
  go_ret
  exact ⟨v, rfl, ownsRow_base_a HO.out (by simp), HB.out.trans (HB2.out.mono HB.out.size)⟩
end Go.Proofs.YteabincmopeljadDoor

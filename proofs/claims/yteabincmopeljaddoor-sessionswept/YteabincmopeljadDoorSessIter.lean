/-
  What maps.Keys of a desk's map gives its loop: each number once, in some order.
-/
import Derived.Test.YteabincmopeljadDoorProg
import Derived.Test.YteabincmopeljadDoorBase
import Derived.Test.YteabincmopeljadDoorSessMap
import Derived.RangeFuncGives
import Derived.Maps.AppendAt
import Derived.Sort.MapsRangeIn
import Derived.Sort.KeysCollected
import Derived.WalkKit
import Derived.OwnWalkIn
import Derived.TacticsInMore
import Derived.RegionIn
import Derived.LoopNIn
import Derived.LoopIn
namespace Go.Proofs.YteabincmopeljadDoor
open Go Go.RowKit Go.Maps Go.Sort Go.Proofs

/-- Nothing stays: what has come is all that is not still to come. -/
abbrev noneO : Os → Bool := fun _ => false
theorem coll_len {L : List Os} {left : Lit → Bool} {ss : List Int} (h : ss.Perm ((goneO noneO L left).map Os.n)) : ss.length ≤ L.length := by
  have := h.length_eq
  rw [List.length_map] at this
  rw [this]
  exact List.length_filter_le _ _
theorem coll_step {L : List Os} (hr : L.Pairwise (fun x y => x.n < y.n)) {left : Lit → Bool} {ss : List Int} {o : Os} (h : ss.Perm ((goneO noneO L left).map Os.n)) (ho : o ∈ L) (hl : left (.int .i64 o.n) = true) :
    (ss ++ [o.n]).Perm ((goneO noneO L (fun z => left z && !z.sameKey (.int .i64 o.n))).map Os.n) := by
  have h1 := (goneO_struck (P := noneO) hr ho hl rfl).map Os.n
  have h2 : (ss ++ [o.n]).Perm (o.n :: ss) := List.perm_append_singleton o.n ss
  exact (h2.trans (h.cons o.n)).trans h1.symm

set_option maxRecDepth 100000 in
set_option maxHeartbeats 1000000 in
theorem keysT_in (F : Fence) (n : Nat) (hF : F.fn 57) (hro : F.round = none) (hn : 1 ≤ n) (l Bm b nn : Nat) (L : List Os) (hL : L.Pairwise (fun x y => x.n < y.n)) (J : List Int → World → Prop)
    (hY : ∀ pre x W, J pre W → pre.length < L.length → YieldAt F (n - 1) Tryd.prog l #[.int .i64 x] W fun e W' => e = .returned (.bool true) ∧ J (pre ++ [x]) W' ∧ KeepsWalks W W')
    (W : World) (hJ : AbidesFrom W.heap.size J) (hm : W.cell? ⟨Bm, 0, none⟩ = some (.map (some b))) (hown : W.ownsMap Tryd.prog 3 tkR b nn (dOfT L)) (h0 : J [] W) :
    CallsIn F n Tryd.prog 57 #[.func (.yield l) #[] #[], .pointer (some ⟨Bm, 0, none⟩)] W fun e W' => (∃ v, e = .returned v) ∧ ∃ ss : List Int, ss.Perm (L.map Os.n) ∧ J ss W' := by
  refine callsIn_of_wp Tryd.func57 rfl hF ?_ hro
  simp only [Tryd.ntmps57, List.size_toArray, List.length_cons, List.length_nil, Nat.reduceAdd, Nat.reduceSub, Array.replicate_succ, Array.replicate_zero, List.push_toArray, List.append_toArray, List.nil_append, List.cons_append]
  gi_wp2_with (first
    | (gi_at_range; refine wpListIn_range_own _ rfl _ 85 rfl 3 52 (int_keyed Tryd.underlying3) Tryd.underlying85 _ b nn _ rfl hown ?_; intro w0 hrg0 hg0 hs0)
    | gi_in)
  go_frame
  gi_loopw [3] (fun _ wr => ∃ (left : Lit → Bool) (cnt : Nat) (ss : List Int), wr.ranges Tryd.prog 3 tkR b W.heap.size nn (dOfT L) left cnt ∧ ss.Perm ((goneO noneO L left).map Os.n) ∧ J ss wr)
    (fun _ wr => wr.rangeLeft b W.heap.size)
  case atStart =>
    exact ⟨_, _, [], hrg0, by rw [goneO_start]; exact List.Perm.refl _, hJ [] W w0 none h0 hg0 (fun r e => by cases e)⟩
  case round =>
    obtain ⟨left, cnt, ss, hrg, hC, hJs⟩ := hrel
    gi_wp2_with (first
      | (gi_at_next; refine wpListIn_next_ranges _ rfl _ rfl 3 (int_keyed Tryd.underlying3) tkR (Value.int .i64) id (fun key kl hk => by obtain ⟨x, hx, _⟩ := Maps.keyOf_int_inv Tryd.underlying3 hk; exact ⟨x, hx⟩) (fun v _ _ => ⟨v, rfl⟩) b W.heap.size nn _ _ _ rfl hrg ?_ ?_)
      | gi_in)
    · intro hc0 hl0
      gi_wp2
      go_end0
      refine ⟨⟨_, rfl⟩, ss, ?_, hJs⟩
      rw [goneO_end hl0, show (L.filter fun o => !noneO o) = L from List.filter_eq_self.2 (fun _ _ => rfl)] at hC
      exact hC
    · intro x c kl yd yp w2 cnt2 hkey hlk hv hat hrg2 hlt hg2 hs2 hen
      obtain ⟨x', ex, rfl, _⟩ := Maps.keyOf_int_inv Tryd.underlying3 hkey
      obtain rfl : x = x' := by cases ex; rfl
      obtain ⟨q, hq, rfl, _⟩ := at_open hat
      have hC2 := coll_step hL hC hq hlk
      have hlen : ss.length < L.length := by
        have := coll_len hC2
        rw [List.length_append, List.length_singleton] at this
        omega
      have hJ2 : J ss w2 := hJ ss wr w2 (some W.heap.size) hJs hg2 (fun r e => by cases e; exact ⟨Nat.le_refl _, hrg.iter_walk⟩)
      obtain ⟨fn, tmps, assign, body, hy, hR⟩ := hY ss q.n w2 hJ2 hlen
      have HC := hide hC2
      have HL := hide hrg.left_eq
      clear hs2 hC2 hC hat hq hv hkey ex
      gi_wp2
      refine hR.mono ?_
      rintro e W3 ⟨rfl, hJ3, hk3⟩
      gi_wp2
      have hrg3 := hrg2.of_walks hk3
      go_roundw
      case rel => exact ⟨_, cnt2, ss ++ [q.n], hrg3, HC.out, hJ3⟩
      case measure => rw [hrg3.left_eq, HL.out]; exact hlt
end Go.Proofs.YteabincmopeljadDoor

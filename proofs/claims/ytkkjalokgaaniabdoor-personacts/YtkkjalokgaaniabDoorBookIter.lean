/-
  What maps.Values of a book's map gives its loop: each person once, in some order.
-/
import Derived.Test.YtkkjalokgaaniabDoorProg
import Derived.Test.YtkkjalokgaaniabDoorBase
import Derived.Test.YtkkjalokgaaniabDoorBookColl
import Derived.RangeFuncGives
import Derived.Maps.AppendAt
import Derived.Sort.MapsRangeIn
import Derived.Sort.KeysCollected
import Derived.WalkKit
import Derived.OwnWalkIn
import Derived.TacticsInMore
import Derived.RegionIn
import Derived.LoopNIn
import Derived.LoopIn
namespace Go.Proofs.YtkkjalokgaaniabDoor
open Go Go.RowKit Go.Maps Go.Sort Go.Proofs

set_option maxRecDepth 100000 in
set_option maxHeartbeats 1000000 in
theorem values_in (F : Fence) (n : Nat) (hF : F.fn 64) (hro : F.round = none) (hn : 1 ≤ n) (l Bm b nn : Nat) (L : List Per) (hL : Rising L) (J : List Per → World → Prop)
    (hY : ∀ pre x W, J pre W → pre.length < L.length → YieldAt F (n - 1) Tryd.prog l #[x.val] W fun e W' => e = .returned (.bool true) ∧ J (pre ++ [x]) W' ∧ KeepsWalks W W')
    (W : World) (hJ : AbidesFrom W.heap.size J) (hm : W.cell? ⟨Bm, 0, none⟩ = some (.map (some b))) (hown : W.ownsMap Tryd.prog 9 perR b nn (dOf L)) (h0 : J [] W) :
    CallsIn F n Tryd.prog 64 #[.func (.yield l) #[] #[], .pointer (some ⟨Bm, 0, none⟩)] W fun e W' => (∃ v, e = .returned v) ∧ ∃ ss : List Per, ss.Perm L ∧ J ss W' := by
  refine callsIn_of_wp Tryd.func64 rfl hF ?_ hro
  simp only [Tryd.ntmps64, List.size_toArray, List.length_cons, List.length_nil, Nat.reduceAdd, Nat.reduceSub, Array.replicate_succ, Array.replicate_zero, List.push_toArray, List.append_toArray, List.nil_append, List.cons_append]
  gi_wp2_with (first
    | (gi_at_range; refine wpListIn_range_own _ rfl _ 74 rfl 9 24 (string_keyed Tryd.underlying9) Tryd.underlying74 _ b nn _ rfl hown ?_; intro w0 hrg0 hg0 hs0)
    | gi_in)
  go_frame
  gi_loopw [4] (fun _ wr => ∃ (left : Lit → Bool) (cnt : Nat) (ss : List Per), wr.ranges Tryd.prog 9 perR b W.heap.size nn (dOf L) left cnt ∧ ss.length + cnt ≤ L.length ∧ Collected (dOf L) left (ss.map Per.nm) ∧ (∀ p ∈ ss, p ∈ L) ∧ J ss wr)
    (fun _ wr => wr.rangeLeft b W.heap.size)
  case atStart =>
    exact ⟨_, _, [], hrg0, by simp [dOf_size], Collected.start _, (fun _ h => by cases h), hJ [] W w0 none h0 hg0 (fun r e => by cases e)⟩
  case round =>
    obtain ⟨left, cnt, ss, hrg, hcs, hC, hmem, hJs⟩ := hrel
    gi_wp2_with (first
      | (gi_at_next; refine wpListIn_next_ranges _ rfl _ rfl 9 (string_keyed Tryd.underlying9) perR encStr (fun p : Per => .agg #[.string p.name, .int .i64 p.key, .int .i64 p.epoch, .bool p.off]) (fun key kl hk => by obtain ⟨x, hx, _⟩ := Maps.keyOf_str Tryd.underlying9 hk; exact ⟨x, hx⟩) (fun v _ h => by obtain ⟨p, hp, _⟩ := perR_inv h; exact ⟨p, hp⟩) b W.heap.size nn _ _ _ rfl hrg ?_ ?_)
      | gi_in)
    · intro hc0 hl0
      gi_wp2
      go_end0
      exact ⟨⟨_, rfl⟩, ss, coll_perm hL (hC.perm hown (string_keyed Tryd.underlying9) Tryd.underlying9 hl0) hmem, hJs⟩
    · intro x p kl yd yp w2 cnt2 hkey hlk hv hat hrg2 hlt hg2 hs2 hen
      obtain ⟨x', ex, rfl, _⟩ := Maps.keyOf_str Tryd.underlying9 hkey
      obtain rfl : x = x' := encStr_inj ex
      obtain ⟨q, hq, rfl, hyd⟩ := at_person hat
      obtain rfl : p = q := by
        have hv' : perR p.val = some (yd, yp) := hv
        rw [perR_val, hyd] at hv'
        simp only [Option.some.injEq, Prod.mk.injEq] at hv'
        exact perD_inj hv'.1
      have hJ2 : J ss w2 := hJ ss wr w2 (some W.heap.size) hJs hg2 (fun r e => by cases e; exact ⟨Nat.le_refl _, hrg.iter_walk⟩)
      have hJ3 : J ss (w2.alloc (.cells #[.string p.name, .int .i64 p.key, .int .i64 p.epoch, .bool p.off] 24)) := hJ ss w2 _ none hJ2 (World.grownBy_alloc _ _ _) (fun r e => by cases e)
      obtain ⟨fn, tmps, assign, body, hy, hR⟩ := hY ss p _ hJ3 (by omega)
      have hy' : (Instr.yield l #[.agg #[.string p.name, .int .i64 p.key, .int .i64 p.epoch, .bool p.off]]).run Tryd.prog (w2.alloc (.cells #[.string p.name, .int .i64 p.key, .int .i64 p.epoch, .bool p.off] 24)) = _ := hy
      have HC := hide (hC.step hlk hat)
      have HM : Hid (∀ r ∈ ss ++ [p], r ∈ L) := fun r hr => by
        rcases List.mem_append.1 hr with g | g
        · exact hmem r g
        · rw [List.mem_singleton.1 g]; exact hq
      have HW := hide (hrg2.of_walks (KeepsWalks.alloc w2 (.cells #[.string p.name, .int .i64 p.key, .int .i64 p.epoch, .bool p.off] 24)))
      have HL := hide hrg.left_eq
      clear hs2 hy hJ2 hmem hC hq hat hv hyd hlk hkey ex
      gi_wp2
      refine hR.mono ?_
      rintro e W3 ⟨rfl, hJ4, hk3⟩
      gi_wp2
      have hrg3 := HW.out.of_walks hk3
      go_roundw
      case rel => exact ⟨_, cnt2, ss ++ [p], hrg3, by simp; omega, by rw [List.map_append]; exact HC.out, HM.out, hJ4⟩
      case measure => rw [hrg3.left_eq, HL.out]; exact hlt
end Go.Proofs.YtkkjalokgaaniabDoor

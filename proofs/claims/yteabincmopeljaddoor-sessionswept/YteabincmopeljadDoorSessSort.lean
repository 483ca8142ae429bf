/-
  What the library's slices.Sort and slices.Sorted leave of a row of numbers: the same numbers, rising.
-/
import Derived.Test.YteabincmopeljadDoorSessSeq
import Derived.Test.YteabincmopeljadDoorSessLays
import Derived.Shelf.SortM.Plain
import Derived.Shelf.SortM.SortNone
import Derived.Sort.OwnSortedInts
import Derived.WalkKit
import Derived.RegionTactic
namespace Go.Proofs.YteabincmopeljadDoor
open Go Go.RowKit Go.Maps Go.Sort Go.Proofs Go.Shelf

theorem nums_sorted {ss m : List Int} (h : m.Pairwise (· < ·)) (hp : ss.Perm m) : (ss.mergeSort fun x y => decide (x ≤ y)) = m := by
  refine List.Perm.eq_of_pairwise (le := fun a b : Int => a ≤ b) (fun a b _ _ h1 h2 => by omega) ?_ (h.imp fun g => by omega) ((List.mergeSort_perm ss _).trans hp)
  exact (List.pairwise_mergeSort (le := fun x y : Int => decide (x ≤ y)) (fun a b c h1 h2 => by simp only [decide_eq_true_eq] at *; omega) (fun a b => by simp only [Bool.or_eq_true, decide_eq_true_eq]; omega) ss).imp fun g => by simpa using g

set_option maxRecDepth 100000 in
set_option maxHeartbeats 1000000 in
theorem sortI_any (B : Nat) (v : Value) (ss m : List Int) (w : World) (h : OwnNum w B v ss) (hm : m.Pairwise (· < ·)) (hp : ss.Perm m) (hl : m.length ≤ 1000) :
    Calls Tryd.prog 42 #[v] w fun e w' => e = .returned (.tuple #[]) ∧ OwnNum w' B v m ∧ w.grownBy w' v.ownBlock := by
  have hlen := hp.length_eq
  rcases h.2 with ⟨rfl, hz⟩ | ⟨g, cap, cur, rfl, hbase, hgb, r1, r2, r3, r4⟩
  · have hss : ss = [] := List.eq_nil_of_length_eq_zero hz
    subst hss
    obtain rfl : m = [] := List.eq_nil_of_length_eq_zero hlen.symm
    have cS := AnyM.slices_Sort_int_none Tryd.sortI none 0 w
    change Calls Tryd.prog 42 _ _ _ at cS
    exact cS.mono fun e w' ⟨h1, h2⟩ => ⟨h1, h2 ▸ h, h2 ▸ World.grownBy.refl _ _⟩
  · have hH : Holds (Value.int .i64) w g 0 ss.toArray := holds_of_blockI hgb (by simpa [cellsNum] using r4)
    have hgl : g < w.heap.size := (Array.getElem?_eq_some_iff.1 hgb).1
    have cS := AnyM.slices_Sort_int Tryd.sortI g 0 cap ss w hH hgl (by omega)
    change Calls Tryd.prog 42 _ _ _ at cS
    refine cS.mono ?_
    rintro e w' ⟨rfl, n, os, hw⟩
    rw [nums_sorted hm hp] at hw
    subst hw
    refine ⟨rfl, ?_, grownBy_sortedI _⟩
    have := ownsRow_sortedI (n := n) (os := os) (ts := m) (ss := ss) hlen.symm hbase hgb r1 r2 r3
    show World.ownsRow _ _ _ _ _ m.length (cellsNum m)
    rw [← hlen]
    exact this

set_option maxRecDepth 100000 in
set_option maxHeartbeats 2000000 in
theorem sortedT_any (Bm b nn : Nat) (L : List Os) (hL : L.Pairwise (fun x y => x.n < y.n)) (hn : L.length ≤ 1000) (w : World) (hBm : Bm < w.heap.size) (hm : w.cell? ⟨Bm, 0, none⟩ = some (.map (some b))) (hown : w.ownsMap Tryd.prog 3 tkR b nn (dOfT L)) :
    Calls Tryd.prog 37 #[.func (.func 57) #[] #[.pointer (some ⟨Bm, 0, none⟩)]] w fun e w' => ∃ v, e = .returned v ∧ OwnNum w' w.heap.size v (L.map Os.n) ∧ Below w.heap.size w w' := by
  have HC := hide (callsIn_wide.1 (collectN_in Fence.wide 3 trivial trivial rfl (by omega) 57 #[.pointer (some ⟨Bm, 0, none⟩)] trivial (enters_of Tryd.func57 (by kernel_rfl) rfl) (fun ss => ss.Perm (L.map Os.n)) L.length hn w (keysT_gives Fence.wide 1 trivial rfl (by omega) Bm b nn L hL w hBm hm hown)))
  clear hm hown
  have HR := hide (nums_rising hL)
  go_enter Tryd.func37, Tryd.ntmps37
  go_wp2_with fail
  refine HC.out.mono ?_
  rintro e W ⟨v, ss, rfl, hS, hrow, hnil, hb⟩
  have HS := hide (sortI_any w.heap.size v ss (L.map Os.n) W hrow HR.out hS (by rw [List.length_map]; exact hn))
  have HB := hide hb
  have HV : Hid (∀ k, v.ownBlock = some k → w.heap.size ≤ k) := fun k hk => (hrow.lt k hk).1
  clear hrow hb hnil hS HC
  go_wp2_with fail
  refine HS.out.mono ?_
  rintro e w' ⟨rfl, ho, hg⟩
  have HQ : Hid (OwnNum w' w.heap.size v (L.map Os.n) ∧ Below w.heap.size w w') := ⟨ho, HB.out.grown hg HB.out.size HV.out⟩
  clear ho hg HS
  go_wp2
  go_ret
  exact ⟨v, rfl, HQ.out⟩
end Go.Proofs.YteabincmopeljadDoor

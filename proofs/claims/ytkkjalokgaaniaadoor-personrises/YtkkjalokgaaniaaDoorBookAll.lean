/-
  What package person's All gives: a new row that holds the people of the book by names; for every book.
-/
import Derived.Test.YtkkjalokgaaniaaDoorBookSeq
import Derived.Test.YtkkjalokgaaniaaDoorBookSort
import Derived.Test.YtkkjalokgaaniaaDoorBookDo
import Derived.Test.YtkkjalokgaaniaaDoorLays
import Derived.Shelf.SlSortCmp.NoneTotal
namespace Go.Proofs.YtkkjalokgaaniaaDoor
open Go Go.RowKit Go.Maps Go.Sort Go.Proofs

set_option maxRecDepth 100000 in
set_option maxHeartbeats 1000000 in
theorem byName_any (x y : Per) (W : World) :
    Calls Tryd.prog 36 #[.agg #[.string x.name, .int .i64 x.key, .int .i64 x.epoch, .bool x.off], .agg #[.string y.name, .int .i64 y.key, .int .i64 y.epoch, .bool y.off]] W fun e w' => e = .returned (.int .i64 (cmpP x y)) ∧ ∃ q os', w' = grow (W.drewN q) os' := by
  have hcon := fun W' => Any.strings_Compare Tryd.cmpS x.name y.name W'
  change ∀ W', Calls Tryd.prog 48 _ _ _ at hcon
  unfold cmpP Per.nm
  generalize Lib.compareBytes x.name.data.toList y.name.data.toList = r at hcon ⊢
  go_enter Tryd.func36, Tryd.ntmps36
  go_wp2_with (go_at_call 48; refine (hcon _).mono ?_; rintro e w' ⟨rfl, rfl⟩)
  go_ret
  exact ⟨rfl, 0, _, by rw [alloc_eq_grow, alloc_eq_grow, grow_grow]; rfl⟩

set_option maxRecDepth 100000 in
set_option maxHeartbeats 2000000 in
theorem sortedFunc_any (Bm b nn : Nat) (L : List Per) (hL : Rising L) (hn : L.length ≤ 1000) (w : World) (hBm : Bm < w.heap.size) (hm : w.cell? ⟨Bm, 0, none⟩ = some (.map (some b))) (hown : w.ownsMap Tryd.prog 9 perR b nn (dOf L)) :
    Calls Tryd.prog 34 #[.func (.func 47) #[] #[.pointer (some ⟨Bm, 0, none⟩)], .func (.func 36) #[] #[]] w fun e w' => ∃ v, e = .returned v ∧ w'.ownsRow w.heap.size 58 4 v L.length (cellsP L) ∧ Below w.heap.size w w' := by
  have inst : Inhabited Per := ⟨noP⟩
  have HC := hide (callsIn_wide.1 (collect_in Fence.wide 3 trivial trivial rfl (by omega) 47 #[.pointer (some ⟨Bm, 0, none⟩)] trivial (enters_of Tryd.func47 (by kernel_rfl) rfl) (fun ss => ss.Perm L) L.length hn w (values_gives Fence.wide 1 trivial rfl (by omega) Bm b nn L hL w hBm hm hown)))
  clear hm hown
  go_enter Tryd.func34, Tryd.ntmps34
  go_wp2_with fail
  refine HC.out.mono ?_
  rintro e W ⟨v, ss, rfl, hS, hrow, hnil, hb⟩
  have hlen : L.length = ss.length := hS.length_eq.symm
  rcases hrow.2 with ⟨rfl, hz⟩ | ⟨g, cap, cur, rfl, hbase, hgb, r1, r2, r3, r4⟩
  · have hss : ss = [] := List.eq_nil_of_length_eq_zero hz
    subst hss
    obtain rfl : L = [] := List.eq_nil_of_length_eq_zero hlen
    have cS := fun W => AnyF.slices_SortFunc_none Tryd.sortP none 0 (.func (.func 36) #[] #[]) W
    change ∀ W, Calls Tryd.prog 46 _ _ _ at cS
    have HO := hide hrow
    have HB := hide hb
    clear hrow hb hnil hS HC
    go_wp2_with (go_at_call 46; refine (cS _).mono ?_; rintro e w' ⟨rfl, rfl⟩)
    go_ret
    exact ⟨_, rfl, HO.out, HB.out⟩
  · have hH : HoldsK Per.cells 4 W g 0 ss.toArray := holds_of_own hrow
    have hgl : g < W.heap.size := (Array.getElem?_eq_some_iff.1 hgb).1
    have cS := AnyQ.slices_SortFunc Tryd.sortP 4 Tryd.isAgg58 Tryd.sizeOf58 Per.cells (fun _ => rfl) cells_one cmpP swoP 36 #[] g 0 cap ss.toArray W (enters_of Tryd.func36 (by kernel_rfl) rfl) (fun _ _ _ _ x y => byName_any x y _) hH hgl (by simp; omega)
    change Calls Tryd.prog 46 _ _ _ at cS
    simp only [List.size_toArray] at cS
    have HS := hide cS
    have HO := hide hrow
    have HB := hide hb
    have HP := hide hS
    have HG := hide hbase
    clear hrow hb hnil hS HC cS hgb r1 r2 r3 r4 hH hbase
    generalize hk : ss.length = k at *
    go_wp2_with fail
    refine HS.out.mono ?_
    rintro e w' ⟨rfl, d', n, os, hp, hs, hw⟩
    have hd : d'.toList = L := sorted_is hL (d := ss.toArray) (by simpa using HP.out) (by simpa [hk] using hp) (by simpa [hk] using hs)
    have HD : Hid (∃ v, w'.ownsRow w.heap.size 58 4 v L.length (cellsP L) ∧ v = .slice (some ⟨g, 0, none⟩) k cap ∧ Below w.heap.size w w') := by
      have hd2 : d' = L.toArray := by rw [← hd]
      rw [hw, hd2]
      have h1 := HO.out
      rw [← hk] at h1
      have h2 := own_sortedK (n := n) (os := os) (M := L) h1 (hlen.trans hk.symm)
      exact ⟨_, h2, by rw [hlen], HB.out.grown (grown_sortedK _) HB.out.size (fun j hj => by cases hj; exact HG.out)⟩
    clear hw hp hs hd HS HO HB HP
    go_wp2
    go_ret
    obtain ⟨v, h1, rfl, h2⟩ := HD.out
    exact ⟨_, rfl, h1, h2⟩

set_option maxRecDepth 100000 in
set_option maxHeartbeats 1000000 in
theorem all_any (bp mb : Nat) (L : List Per) (w : World) (h : BookAt w bp mb L) :
    Calls Tryd.prog 21 #[.pointer (some ⟨bp, 0, none⟩)] w fun e w' => ∃ v, e = .returned v ∧ w'.ownsRow w.heap.size 58 4 v L.length (cellsP L) ∧ Below w.heap.size w w' := by
  have hc := h.cell
  have HV := hide (values_any (some mb) w)
  have HS := hide (sortedFunc_any w.heap.size mb L.length L h.good.rise (Nat.le_trans h.good.few (by decide)) (w.alloc (.cells #[.map (some mb)] 70)) (by simp) (by simp) (h.own.alloc _))
  have HB : Hid (Below w.heap.size w (w.alloc (.cells #[.map (some mb)] 70))) := (Below.refl _ _).alloc (Nat.le_refl _) _
  clear h
  go_enter Tryd.func21, Tryd.ntmps21
  go_wp2_with fail
  refine HV.out.mono ?_
  rintro e w1 ⟨rfl, rfl⟩
  go_wp2_with fail
  refine HS.out.mono ?_
  rintro e w2 ⟨v, rfl, ho, hb⟩
  have HO := hide ho
  have HB2 := hide hb
  clear ho hb
  go_wp2
  go_ret
  exact ⟨v, rfl, ownsRow_base_a HO.out (by simp), HB.out.trans (HB2.out.mono HB.out.size)⟩
end Go.Proofs.YtkkjalokgaaniaaDoor

/-
  What package person's Add, Raise, Off and Rekey give, and what they do to the book: its map is written, and nothing else; for every book, name, key and bool.
-/
import Derived.Test.YtkkjalokgaaniabDoorBookDo
namespace Go.Proofs.YtkkjalokgaaniabDoor
open Go.RowKit Go.Extern.Stop Go.Stop Go.Extern Go.Maps

set_option maxRecDepth 100000 in
set_option maxHeartbeats 2000000 in
theorem add_any (a : Nat → Addr) (bp mb : Nat) (L : List Per) (name : ByteArray) (key : Int) (w : World) (h : BookAt w bp mb L) (hE : EV perS a w) (hs : name.size ≤ maxLen) :
    Calls Tryd.prog 12 #[.pointer (some ⟨bp, 0, none⟩), .string name, .int .i64 key] w fun e w' => e = .returned (errV a (addP L name key).1) ∧ BookAt w' bp mb (addP L name key).2 ∧ w.grownBy w' (some mb) := by
  have HP : Hid (∀ w, EV perS a w → Calls Tryd.prog 9 #[.agg #[.string name, .int .i64 key, .int .i64 1, .bool false]] w fun e w' => e = .returned (errV a (newP name key).err) ∧ Below w.heap.size w w') := fun w hE => pcheck_any a (newP name key) w hE hs
  have HB0 : Hid (Below w.heap.size w (w.alloc (.cells #[.string name, .int .i64 key, .int .i64 1, .bool false] 24))) := (Below.refl _ _).alloc (Nat.le_refl _) _
  have HC0 : Hid ((w.alloc (.cells #[.string name, .int .i64 key, .int .i64 1, .bool false] 24)).heap[w.heap.size]? = some (.cells #[.string name, .int .i64 key, .int .i64 1, .bool false] 24 (0, 0))) := heap_alloc_new _ _
  have HB := hide h
  have HE := hide hE
  clear h hE
  by_cases he : (newP name key).err = 0
  · rw [he] at HP
    cases hg : getP L name with
    | some p =>
      rw [add_is he hg]
      clear he
      go_enter Tryd.func12, Tryd.ntmps12
      go_wp2_with fail
      refine (HP.out _ (HE.out.below HB0.out)).mono ?_
      rintro e w1 ⟨rfl, hb⟩
      have HB1 : Hid (Below w.heap.size w w1) := HB0.out.trans (hb.mono HB0.out.size)
      have HK1 := hide (HB.out.below HB1.out)
      have hc : w1.cell? ⟨bp, 0, none⟩ = some (.map (some mb)) := HK1.out.cell
      have hv : ∀ o, (w1.alloc o).cell? ⟨3, 0, none⟩ = some (eV (a 5)) := fun o => ((HE.out.below HB1.out).below ((Below.refl _ _).alloc (Nat.le_refl _) o)).var 5 (by decide) rfl
      clear hb
      rw [errV_zero]
      go_wp2_with (first | (at_lookup; refine look_yes _ rfl _ _ rfl mb L.length L name rfl HK1.out.own rfl hs p hg ?_) | go_in)
      go_ret
      have HB2 := HB1.out.trans (((Below.refl w1.heap.size w1).alloc (Nat.le_refl _) (.cells #[.string p.name, .int .i64 p.key, .int .i64 p.epoch, .bool p.off] 24)).mono HB1.out.size)
      exact ⟨rfl, HB.out.below HB2, grown_of_below HB2 _⟩
    | none =>
      by_cases hn : 20 ≤ L.length
      · rw [add_full he hg hn]
        clear he
        go_enter Tryd.func12, Tryd.ntmps12
        go_wp2_with fail
        refine (HP.out _ (HE.out.below HB0.out)).mono ?_
        rintro e w1 ⟨rfl, hb⟩
        have HB1 : Hid (Below w.heap.size w w1) := HB0.out.trans (hb.mono HB0.out.size)
        have HK1 := hide (HB.out.below HB1.out)
        have hc : w1.cell? ⟨bp, 0, none⟩ = some (.map (some mb)) := HK1.out.cell
        have hc2 : ∀ o, (w1.alloc o).cell? ⟨bp, 0, none⟩ = some (.map (some mb)) := fun o => (HK1.out.below ((Below.refl _ _).alloc (Nat.le_refl _) o)).cell
        have hv : ∀ o, (w1.alloc o).cell? ⟨4, 0, none⟩ = some (eV (a 6)) := fun o => ((HE.out.below HB1.out).below ((Below.refl _ _).alloc (Nat.le_refl _) o)).var 6 (by decide) rfl
        have HN : Hid (∀ o, (w1.alloc o).ownsMap Tryd.prog 9 perR mb L.length (dOf L)) := fun o => HK1.out.own.alloc o
        have hsz := dOf_size L
        clear hb
        rw [errV_zero]
        go_wp2_with (first | (at_lookup; refine look_no _ rfl _ _ rfl mb L.length L name rfl HK1.out.own rfl hs hg ?_) | (at_len; refine wpList_len_own _ rfl _ 74 rfl 9 24 Tryd.underlying74 perR mb L.length (dOf L) rfl (HN.out _) ?_; rw [hsz]) | go_in)
        go_ret
        have HB2 := HB1.out.trans (((Below.refl w1.heap.size w1).alloc (Nat.le_refl _) (.cells #[.string ByteArray.empty, .int .i64 0, .int .i64 0, .bool false] 24)).mono HB1.out.size)
        exact ⟨rfl, HB.out.below HB2, grown_of_below HB2 _⟩
      · rw [add_ok he hg hn]
        have HG := hide (put_new_good HB.out.good he hg (by omega)).1
        clear he
        go_enter Tryd.func12, Tryd.ntmps12
        go_wp2_with fail
        refine (HP.out _ (HE.out.below HB0.out)).mono ?_
        rintro e w1 ⟨rfl, hb⟩
        have HB1 : Hid (Below w.heap.size w w1) := HB0.out.trans (hb.mono HB0.out.size)
        have HK1 := hide (HB.out.below HB1.out)
        have hrow : w1.heap[w.heap.size]? = some (.cells #[.string name, .int .i64 key, .int .i64 1, .bool false] 24 (0, 0)) := by rw [hb.block _ (by simp)]; exact HC0.out
        have hc : w1.cell? ⟨bp, 0, none⟩ = some (.map (some mb)) := HK1.out.cell
        have HB2 : Hid (∀ o, Below w.heap.size w (w1.alloc o)) := fun o => HB1.out.trans (((Below.refl w1.heap.size w1).alloc (Nat.le_refl _) o).mono HB1.out.size)
        have HK2 : Hid (∀ o, BookAt (w1.alloc o) bp mb L) := fun o => HB.out.below (HB2.out o)
        have hc2 : ∀ o, (w1.alloc o).cell? ⟨bp, 0, none⟩ = some (.map (some mb)) := fun o => (HK2.out o).cell
        have hro : ∀ o, (w1.alloc o).heap[w.heap.size]? = some (.cells #[.string name, .int .i64 key, .int .i64 1, .bool false] 24 (0, 0)) := fun o => (Below.heap_alloc _ _ _ (row_lt hrow)).trans hrow
        have hp0 : ∀ o, (w1.alloc o).cell? ⟨w.heap.size, 0, none⟩ = some (.string name) := fun o => cell_of_row _ _ 0 _ _ _ (hro o)
        have hp1 : ∀ o, (w1.alloc o).cell? ⟨w.heap.size, 1, none⟩ = some (.int .i64 key) := fun o => cell_of_row _ _ 1 _ _ _ (hro o)
        have hp2 : ∀ o, (w1.alloc o).cell? ⟨w.heap.size, 2, none⟩ = some (.int .i64 1) := fun o => cell_of_row _ _ 2 _ _ _ (hro o)
        have hp3 : ∀ o, (w1.alloc o).cell? ⟨w.heap.size, 3, none⟩ = some (.bool false) := fun o => cell_of_row _ _ 3 _ _ _ (hro o)
        have HN : Hid (∀ o, (w1.alloc o).ownsMap Tryd.prog 9 perR mb L.length (dOf L)) := fun o => HK1.out.own.alloc o
        have hsz := dOf_size L
        obtain ⟨w2, hrun, hk2, hg2⟩ := BookAt.store (w := (w1.alloc (.cells #[.string ByteArray.empty, .int .i64 0, .int .i64 0, .bool false] 24)).drew) ((HK2.out _).same rfl rfl) (newP name key) hs HG.out
        have hrun' : (Instr.mapUpdate 74 (.map (some mb)) (.string name) (.agg #[.string name, .int .i64 key, .int .i64 1, .bool false])).run Tryd.prog (w1.alloc (.cells #[.string ByteArray.empty, .int .i64 0, .int .i64 0, .bool false] 24)).drew = .ok () w2 := hrun
        have HR : Hid (BookAt w2 bp mb (putP L (newP name key)) ∧ w.grownBy w2 (some mb)) := ⟨hk2, (grown_of_below (HB2.out _).drew (some mb)).trans hg2⟩
        clear hb hrow hro hrun hk2 hg2
        rw [errV_zero]
        go_wp2_with (first | (at_lookup; refine look_no _ rfl _ _ rfl mb L.length L name rfl HK1.out.own rfl hs hg ?_) | (at_len; refine wpList_len_own _ rfl _ 74 rfl 9 24 Tryd.underlying74 perR mb L.length (dOf L) rfl (HN.out _) ?_; rw [hsz]) | go_in)
        go_region
        go_wp2
        go_ret
        exact ⟨rfl, HR.out⟩
  · rw [add_err he]
    generalize hc : (newP name key).err = c at *
    rw [errV_pos a he] at HP ⊢
    clear hc he
    go_enter Tryd.func12, Tryd.ntmps12
    go_wp2_with fail
    refine (HP.out _ (HE.out.below HB0.out)).mono ?_
    rintro e w1 ⟨rfl, hb⟩
    have HB1 : Hid (Below w.heap.size w w1) := HB0.out.trans (hb.mono HB0.out.size)
    clear hb
    go_wp2
    go_ret
    exact ⟨rfl, HB.out.below HB1.out, grown_of_below HB1.out _⟩
end Go.Proofs.YtkkjalokgaaniabDoor

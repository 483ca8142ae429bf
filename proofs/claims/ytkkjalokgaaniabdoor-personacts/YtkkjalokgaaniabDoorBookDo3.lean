/-
  What package person's Raise, Off and Rekey give, and what they do to the book: its map is written, and nothing else; for every book, name, key and bool.
-/
import Derived.Test.YtkkjalokgaaniabDoorBookDo2
namespace Go.Proofs.YtkkjalokgaaniabDoor
open Go.RowKit Go.Extern.Stop Go.Stop Go.Extern Go.Maps

/-- A person raised to an epoch, if it is a later one. -/
def toP (p : Per) (ep : Int) : Per := { p with epoch := max p.epoch ep }
/-- A person of the next epoch. -/
def upP (p : Per) : Per := { p with epoch := p.epoch + 1 }
theorem cells_row {w : World} {g : Nat} {p : Per} (h : w.heap[g]? = some (.cells #[.string p.name, .int .i64 p.key, .int .i64 p.epoch, .bool p.off] 24 (0, 0))) :
    w.cell? ⟨g, 0, none⟩ = some (.string p.name) ∧ w.cell? ⟨g, 1, none⟩ = some (.int .i64 p.key) ∧ w.cell? ⟨g, 2, none⟩ = some (.int .i64 p.epoch) ∧ w.cell? ⟨g, 3, none⟩ = some (.bool p.off) :=
  ⟨cell_of_row w g 0 _ _ _ h, cell_of_row w g 1 _ _ _ h, cell_of_row w g 2 _ _ _ h, cell_of_row w g 3 _ _ _ h⟩

theorem to_up (p : Per) : toP p (p.epoch + 1) = upP p := by
  unfold toP upP
  rw [show max p.epoch (p.epoch + 1) = p.epoch + 1 by omega]

set_option maxRecDepth 100000 in
set_option maxHeartbeats 4000000 in
theorem rise_err (a : Nat → Addr) (bp mb : Nat) (L : List Per) (p : Per) (ep : Int) (w : World) (h : BookAt w bp mb L) (hE : EV perS a w) (hs : p.name.size ≤ maxLen) (he : (toP p ep).err ≠ 0) :
    Calls Tryd.prog 40 #[.pointer (some ⟨bp, 0, none⟩), .agg #[.string p.name, .int .i64 p.key, .int .i64 p.epoch, .bool p.off], .int .i64 ep] w fun e w' => e = .returned (.tuple #[.int .i64 0, errV a (toP p ep).err]) ∧ BookAt w' bp mb L ∧ w.grownBy w' (some mb) := by
  have HP : Hid (∀ w, EV perS a w → Calls Tryd.prog 9 #[.agg #[.string p.name, .int .i64 p.key, .int .i64 (max p.epoch ep), .bool p.off]] w fun e w' => e = .returned (errV a (toP p ep).err) ∧ Below w.heap.size w w') := fun w hE => pcheck_any a (toP p ep) w hE hs
  have HB0 : Hid (Below w.heap.size w (w.alloc (.cells #[.string p.name, .int .i64 p.key, .int .i64 (max p.epoch ep), .bool p.off] 24))) := (Below.refl _ _).alloc (Nat.le_refl _) _
  have HB := hide h
  have HE := hide hE
  rw [errV_pos a he] at HP ⊢
  generalize (toP p ep).err = c at *
  clear h hE he
  go_enter Tryd.func40, Tryd.ntmps40
  go_wp2_with fail
  refine (HP.out _ (HE.out.below HB0.out)).mono ?_
  rintro e w1 ⟨rfl, hb⟩
  have HB1 : Hid (Below w.heap.size w w1) := HB0.out.trans (hb.mono HB0.out.size)
  clear hb
  go_wp2
  go_ret2
  exact ⟨rfl, HB.out.below HB1.out, grown_of_below HB1.out _⟩

set_option maxRecDepth 100000 in
set_option maxHeartbeats 4000000 in
theorem rise_ok (a : Nat → Addr) (bp mb : Nat) (L : List Per) (p : Per) (ep : Int) (w : World) (h : BookAt w bp mb L) (hE : EV perS a w) (hs : p.name.size ≤ maxLen) (he : (toP p ep).err = 0) (hg : Good (putP L (toP p ep))) :
    Calls Tryd.prog 40 #[.pointer (some ⟨bp, 0, none⟩), .agg #[.string p.name, .int .i64 p.key, .int .i64 p.epoch, .bool p.off], .int .i64 ep] w fun e w' => e = .returned (.tuple #[.int .i64 (toP p ep).epoch, .nilIface]) ∧ BookAt w' bp mb (putP L (toP p ep)) ∧ w.grownBy w' (some mb) := by
  have HP : Hid (∀ w, EV perS a w → Calls Tryd.prog 9 #[.agg #[.string p.name, .int .i64 p.key, .int .i64 (max p.epoch ep), .bool p.off]] w fun e w' => e = .returned (errV a (toP p ep).err) ∧ Below w.heap.size w w') := fun w hE => pcheck_any a (toP p ep) w hE hs
  have HB0 : Hid (Below w.heap.size w (w.alloc (.cells #[.string p.name, .int .i64 p.key, .int .i64 (max p.epoch ep), .bool p.off] 24))) := (Below.refl _ _).alloc (Nat.le_refl _) _
  have HC0 : Hid ((w.alloc (.cells #[.string p.name, .int .i64 p.key, .int .i64 (max p.epoch ep), .bool p.off] 24)).heap[w.heap.size]? = some (.cells #[.string p.name, .int .i64 p.key, .int .i64 (max p.epoch ep), .bool p.off] 24 (0, 0))) := heap_alloc_new _ _
  have HB := hide h
  have HE := hide hE
  have HG := hide hg
  rw [he, errV_zero] at HP
  clear h hE he hg
  go_enter Tryd.func40, Tryd.ntmps40
  go_wp2_with fail
  refine (HP.out _ (HE.out.below HB0.out)).mono ?_
  rintro e w1 ⟨rfl, hb⟩
  have HB1 : Hid (Below w.heap.size w w1) := HB0.out.trans (hb.mono HB0.out.size)
  have HK1 := hide (HB.out.below HB1.out)
  have hrow : w1.heap[w.heap.size]? = some (.cells #[.string p.name, .int .i64 p.key, .int .i64 (max p.epoch ep), .bool p.off] 24 (0, 0)) := by rw [hb.block _ (by simp)]; exact HC0.out
  have hc : w1.cell? ⟨bp, 0, none⟩ = some (.map (some mb)) := HK1.out.cell
  obtain ⟨hp0, hp1, hp2, hp3⟩ := cells_row (p := toP p ep) hrow
  simp only [toP] at hp0 hp1 hp2 hp3
  obtain ⟨w2, hrun, hk2, hg2⟩ := BookAt.store (w := w1.drew) (HK1.out.same rfl rfl) (toP p ep) hs HG.out
  have hrun' : (Instr.mapUpdate 74 (.map (some mb)) (.string p.name) (.agg #[.string p.name, .int .i64 p.key, .int .i64 (max p.epoch ep), .bool p.off])).run Tryd.prog w1.drew = .ok () w2 := hrun
  have HR : Hid (BookAt w2 bp mb (putP L (toP p ep)) ∧ w.grownBy w2 (some mb)) := ⟨hk2, (grown_of_below HB1.out.drew (some mb)).trans hg2⟩
  have hne : some w.heap.size ≠ some mb := by
    have := HB.out.own.lt
    simp; omega
  have hp4 : w2.cell? ⟨w.heap.size, 2, none⟩ = some (.int .i64 (max p.epoch ep)) := by
    have hr2 : w2.heap[w.heap.size]? = _ := (hg2.block w.heap.size (row_lt hrow) hne).trans hrow
    exact cell_of_row _ _ 2 _ _ _ hr2
  clear hb hrow hrun hk2 hg2 hne
  go_wp2
  go_region
  go_wp2
  go_ret2
  exact ⟨rfl, HR.out⟩
end Go.Proofs.YtkkjalokgaaniabDoor

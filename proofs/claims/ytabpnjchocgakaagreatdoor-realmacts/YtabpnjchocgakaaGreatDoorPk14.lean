/-
  What the functions of these parts do, and what holds of their plain forms: RealmRev, RealmRek, RealmIn, RealmLog.
-/
import Derived.Test.YtabpnjchocgakaaGreatDoorPk12
import Derived.Test.YtabpnjchocgakaaGreatDoorPk10
import Derived.Test.YtabpnjchocgakaaGreatDoorRealmRef4
import Derived.Test.YtabpnjchocgakaaGreatDoorPk06
import Derived.Test.YtabpnjchocgakaaGreatDoorPk13
import Derived.Test.YtabpnjchocgakaaGreatDoorRealmRef9
import Derived.Test.YtabpnjchocgakaaGreatDoorRealmLogin
namespace Go.Proofs.YtabpnjchocgakaaGreatDoor
open Go.RowKit Go.Extern.Stop Go.Stop Go.Extern Go.Proofs Go.Maps Go.Shelf
theorem raise_le (L : List Per) (name : ByteArray) : (raiseP L name).2.1 ≤ 16 := by
 unfold raiseP
 repeat' split
 all_goals simp
theorem rev_no {r : Rm} {name : ByteArray} (h : r.revC name ≠ 0) : r.revR name = r := by
 unfold Rm.revC at h
 unfold Rm.revR
 split
 ·
  rename_i h0
  rw [if_pos h0] at h
  exact entR_no h
 ·
  rfl
set_option maxRecDepth 100000 in
set_option maxHeartbeats 4000000 in
theorem revoke_change (a : Nat → Addr) (nb : Nat) (name : ByteArray) (r : Rm) (w : World) (hg : GoodR r) (hE : Errs a w) (hnb : w.cell? ⟨nb, 0, none⟩ = some (.string name)) (hs : name.size ≤ maxLen) :
  Change a 61 #[.pointer (some ⟨nb, 0, none⟩)] r (r.revR name) (raiseP r.b name).1 (r.revC name) w := fun w1 cp hc => by
 obtain ⟨bp, mb, v, hR, hM, hB⟩ := hc
 have hn1 : w1.cell? ⟨nb, 0, none⟩ = some (.string name) := (hB.cell (p := ⟨nb, 0, none⟩) (cell_lt hnb)).trans hnb
 obtain ⟨_, _, _, _, c4, _⟩ := rp_cells hR.row
 have HE := hide (hE.below hB)
 have HE0 := hide hE
 have HP : Hid (∀ W, Below w1.heap.size w1 W → Calls Tryz.prog 62 #[.pointer (some ⟨bp, 0, none⟩), .string name] W fun e w' => e = .returned (.tuple #[.int .i64 (raiseP r.b name).1, errV a (raiseP r.b name).2.1]) ∧ BookAt w' bp mb (raiseP r.b name).2.2 ∧ W.grownBy w' (some mb)) := fun W hb =>
  praise_any a bp mb r.b name W (hR.book.below hb) ((HE.out.below hb).ev _) hs
 have HCo : Hid (∀ W w2 L, Below w1.heap.size w1 W → BookAt w2 bp mb L → W.grownBy w2 (some mb) → CopyOf w { r with b := L } cp w2 ∧ w2.cell? ⟨cp, 4, none⟩ = some (.pointer (some ⟨bp, 0, none⟩)) ∧ w2.cell? ⟨nb, 0, none⟩ = some (.string name)) := fun W w2 L hb hB2 hg2 => by
  have hbw := hB.trans (hb.mono hB.size)
  have hco := copy_booked (hR.below hb) hM hbw hB2 hg2
  exact ⟨hco, (rp_cells ((hR.below hb).booked hB2 hg2).row).2.2.2.2.1, (hco.past.cell (p := ⟨nb, 0, none⟩) (cell_lt hnb)).trans hnb⟩
 have HD1 : Hid (Below w1.heap.size w1 w1.drew) := (Below.refl _ _).drew
 have HT : Hid (∀ w2 L n, CopyOf w { r with b := L } cp w2 → Calls Tryz.prog 63 #[.pointer (some ⟨cp, 0, none⟩), .string name, .int .i64 n] w2 (TellPost a w w2 { r with b := L } cp name n)) := fun w2 L n hco =>
  tell_any a w w2 { r with b := L } cp name n hco hE hg.feed hg.small hs
 by_cases h0 : (raiseP r.b name).2.1 = 0
 ·
  have e1 : r.revC name = r.entC name (raiseP r.b name).1 := by unfold Rm.revC; rw [if_pos h0]
  have e2 : r.entC name (raiseP r.b name).1 = 0 → r.revR name = { r with b := (raiseP r.b name).2.2, l := addL r.l r.time ⟨name, (raiseP r.b name).1⟩ } := fun hz => by
   unfold Rm.revR; rw [if_pos h0]; exact entR_yes hz
  rw [h0, errV_zero] at HP
  rw [e1]
  have HE2 := hide e2
  clear hB hM hR hE hg hs h0 e1 e2
  generalize r.revR name = r' at *
  generalize (raiseP r.b name).2.2 = L at *
  generalize (raiseP r.b name).1 = n at *
  go_enter Tryz.func61, Tryz.ntmps61
  go_upto_region 1 with fail
  go_cut [5, 6] (fun s5 s6 wc => s5 = .int .i64 n ∧ s6 = .nilIface ∧ Hid (CopyOf w { r with b := L } cp wc) ∧ wc.cell? ⟨nb, 0, none⟩ = some (.string name))
  case first =>
   go_region_held3 (fun w' => w'.cell? ⟨cp, 4, none⟩ = some (.pointer (some ⟨bp, 0, none⟩)) ∧ w'.cell? ⟨nb, 0, none⟩ = some (.string name)) (first | go_keep | assumption)
    (first | (go_at_call 62; refine (HP.out _ HD1.out).mono ?_; rintro e w5 ⟨rfl, hk5, hg5⟩; have HX := hide (HCo.out _ _ _ HD1.out hk5 hg5); have k4 := HX.out.2.1; have kn := HX.out.2.2; clear hk5 hg5))
   all_goals
    go_wp2_with fail
    go_meet
    exact ⟨rfl, rfl, hide HX.out.1, HX.out.2.2⟩
  case rest =>
   obtain ⟨rfl, rfl, HX, hn2⟩ := hcut
   go_wp2_with fail
   refine (HT.out _ _ _ HX.out).mono ?_
   rintro e w6 ⟨⟨ev, rfl, he⟩, hz, hb, _⟩
   have HY : Hid (EvP a w6 (r.entC name n) ev ∧ (r.entC name n = 0 → CopyOf w r' cp w6) ∧ Below w.heap.size w w6) := ⟨he, fun hz0 => by rw [HE2.out hz0]; exact hz hz0, hb⟩
   clear he hz hb
   go_wp2
   go_ret2
   exact ⟨n, ev, rfl, HY.out.1, fun hz0 => ⟨rfl, HY.out.2.1 hz0⟩, HY.out.2.2⟩
 ·
  have e1 : r.revC name = (raiseP r.b name).2.1 := by unfold Rm.revC; rw [if_neg h0]
  rw [e1]
  rw [errV_pos a h0] at HP
  have HEv : Hid (∀ W, EvP a W (raiseP r.b name).2.1 (eV (a ((raiseP r.b name).2.1 - 1)))) := fun W => by rw [← errV_pos a h0]; exact evp_V a _ W
  have HN0 : Hid ((raiseP r.b name).2.1 ≠ 0) := h0
  clear hB hM hR hE hg hs h0 e1
  generalize (raiseP r.b name).2.2 = L at *
  generalize (raiseP r.b name).2.1 = c at *
  generalize (raiseP r.b name).1 = n at *
  go_enter Tryz.func61, Tryz.ntmps61
  go_upto_region 1 with fail
  go_cut [5, 6] (fun s5 s6 wc => s5 = .int .i64 n ∧ s6 = eV (a (c - 1)) ∧ Hid (Below w.heap.size w wc))
  case first =>
   go_region_held3 (fun w' => w'.cell? ⟨cp, 4, none⟩ = some (.pointer (some ⟨bp, 0, none⟩)) ∧ w'.cell? ⟨nb, 0, none⟩ = some (.string name)) (first | go_keep | assumption)
    (first | (go_at_call 62; refine (HP.out _ HD1.out).mono ?_; rintro e w5 ⟨rfl, hk5, hg5⟩; have HX := hide (HCo.out _ _ _ HD1.out hk5 hg5); have k4 := HX.out.2.1; have kn := HX.out.2.2; clear hk5 hg5))
   all_goals
    go_wp2_with fail
    go_meet
    exact ⟨rfl, rfl, hide HX.out.1.past⟩
  case rest =>
   obtain ⟨rfl, rfl, HX⟩ := hcut
   go_wp2
   go_ret2
   exact ⟨0, _, rfl, HEv.out _, fun hz0 => absurd hz0 HN0.out, HX.out⟩
set_option maxRecDepth 100000 in
set_option maxHeartbeats 4000000 in
theorem rpRevoke_any (a : Nat → Addr) (rp bp mb : Nat) (v : Value) (r : Rm) (name : ByteArray) (w : World) (h : RmAt w rp bp mb v r) (hg : GoodR r) (hE : Errs a w) (hs : name.size ≤ maxLen) :
  Calls Tryz.prog 17 #[.pointer (some ⟨rp, 0, none⟩), .string name] w (TryPost a rp bp mb v w (raiseP r.b name).1 (r.revC name) (r.revR name)) := by
 have hB0 : Below w.heap.size w (w.alloc (.cells #[.string name] 9)) := (Below.refl _ _).alloc (Nat.le_refl _) _
 have HT := hide (try_any a 61 #[.pointer (some ⟨w.heap.size, 0, none⟩)] (enters_of Tryz.func61 (by kernel_rfl) rfl) rp bp mb v r (r.revR name) (raiseP r.b name).1 (r.revC name) (w.alloc (.cells #[.string name] 9)) (h.below hB0) (Nat.le_trans hg.few (by decide))
  (revoke_change a w.heap.size name r _ hg (hE.below hB0) (cell_of_row _ _ 0 _ _ _ (heap_alloc_new w _)) hs))
 have HX : Hid (∀ e w', TryPost a rp bp mb v (w.alloc (.cells #[.string name] 9)) (raiseP r.b name).1 (r.revC name) (if r.revC name = 0 then r.revR name else r) e w' → TryPost a rp bp mb v w (raiseP r.b name).1 (r.revC name) (r.revR name) e w') := fun e w' ⟨h1, h2⟩ => by
  refine ⟨h1, PPost.from hB0 ?_⟩
  by_cases h0 : r.revC name = 0
  ·
   rw [if_pos h0] at h2; exact h2
  ·
   rw [if_neg h0] at h2; rw [rev_no h0]; exact h2
 have hmf : ∀ (fn : Fn) (first cap : Array Value) (w : World), (Instr.makeFunc fn first cap).run Tryz.prog w = .ok (.func fn first cap) w := fun _ _ _ _ => rfl
 clear h hg hE hs
 generalize r.revR name = r1 at *
 generalize r.revC name = c at *
 generalize (raiseP r.b name).1 = n at *
 go_enter Tryz.func17, Tryz.ntmps17
 go_wp2_with fail
 refine HT.out.mono ?_
 rintro e w1 hp
 obtain ⟨⟨ev, rfl, he⟩, hq⟩ := HX.out _ _ hp
 have HY : Hid (EvP a w1 c ev ∧ PPost w rp bp mb v r1 w1) := ⟨he, hq⟩
 clear hp he hq HX HT
 go_wp2
 go_ret2
 exact ⟨⟨ev, rfl, HY.out.1⟩, HY.out.2⟩
theorem rekey_le (L : List Per) (name : ByteArray) (key : Int) : (rekeyP L name key).1 ≤ 16 := by
 unfold rekeyP
 repeat' split
 all_goals simp
theorem key_no {r : Rm} {name : ByteArray} {key : Int} (h : r.keyC name key ≠ 0) : r.keyR name key = r := by
 unfold Rm.keyC at h
 unfold Rm.keyR
 split
 ·
  rename_i h0
  rw [if_pos h0] at h
  exact entR_no h
 ·
  rfl
abbrev four (w : World) (g : Nat) (u0 u1 u2 u3 : Value) : World := (((w.setCell ⟨g, 0, none⟩ u0).setCell ⟨g, 1, none⟩ u1).setCell ⟨g, 2, none⟩ u2).setCell ⟨g, 3, none⟩ u3
theorem four_row {w : World} {g : Nat} {t : TypeId} {a0 a1 a2 a3 : Value} (h : w.heap[g]? = some (.cells #[a0, a1, a2, a3] t (0, 0))) (u0 u1 u2 u3 : Value) : (four w g u0 u1 u2 u3).heap[g]? = some (.cells #[u0, u1, u2, u3] t (0, 0)) := by
 have h0 := heap_setCell_same w g 0 _ _ u0 h
 have h1 := heap_setCell_same _ g 1 _ _ u1 h0
 have h2 := heap_setCell_same _ g 2 _ _ u2 h1
 exact heap_setCell_same _ g 3 _ _ u3 h2
theorem four_below {B : Nat} {W w : World} {g : Nat} (h : Below B W w) (hg : B ≤ g) (u0 u1 u2 u3 : Value) : Below B W (four w g u0 u1 u2 u3) :=
 (((h.setCell (p := ⟨g, 0, none⟩) hg _).setCell (p := ⟨g, 1, none⟩) hg _).setCell (p := ⟨g, 2, none⟩) hg _).setCell (p := ⟨g, 3, none⟩) hg _
set_option maxRecDepth 100000 in
set_option maxHeartbeats 4000000 in
theorem rekey_change (a : Nat → Addr) (nb kb : Nat) (name : ByteArray) (key : Int) (r : Rm) (w : World) (hg : GoodR r) (hE : Errs a w) (hnb : w.cell? ⟨nb, 0, none⟩ = some (.string name)) (hkb : w.cell? ⟨kb, 0, none⟩ = some (.int .i64 key)) (hs : name.size ≤ maxLen) :
  Change a 92 #[.pointer (some ⟨nb, 0, none⟩), .pointer (some ⟨kb, 0, none⟩)] r (r.keyR name key) (r.keyN name key) (r.keyC name key) w := fun w1 cp hc => by
 obtain ⟨bp, mb, v, hR, hM, hB⟩ := hc
 have hn1 : w1.cell? ⟨nb, 0, none⟩ = some (.string name) := (hB.cell (p := ⟨nb, 0, none⟩) (cell_lt hnb)).trans hnb
 have hk1 : w1.cell? ⟨kb, 0, none⟩ = some (.int .i64 key) := (hB.cell (p := ⟨kb, 0, none⟩) (cell_lt hkb)).trans hkb
 obtain ⟨_, _, _, _, c4, _⟩ := rp_cells hR.row
 have HE := hide (hE.below hB)
 have HE0 := hide hE
 have HM := hide hM
 have HP : Hid (∀ W, Below w1.heap.size w1 W → Calls Tryz.prog 93 #[.pointer (some ⟨bp, 0, none⟩), .string name, .int .i64 key] W fun e w' => e = .returned (errV a (rekeyP r.b name key).1) ∧ BookAt w' bp mb (rekeyP r.b name key).2 ∧ W.grownBy w' (some mb)) := fun W hb =>
  rekey_any a bp mb r.b name key W (hR.book.below hb) ((HE.out.below hb).ev _) hs
 have HCo : Hid (∀ W w2 L, Below w1.heap.size w1 W → BookAt w2 bp mb L → W.grownBy w2 (some mb) → RmAt w2 cp bp mb v { r with b := L } ∧ Below w.heap.size w w2 ∧ w2.cell? ⟨cp, 4, none⟩ = some (.pointer (some ⟨bp, 0, none⟩)) ∧ w2.cell? ⟨nb, 0, none⟩ = some (.string name) ∧ w2.cell? ⟨kb, 0, none⟩ = some (.int .i64 key)) := fun W w2 L hb hB2 hg2 => by
  have hbw := hB.trans (hb.mono hB.size)
  have hbb := hbw.grown hg2 hbw.size (fun k e => by cases e; exact hM mb (Or.inr (Or.inr (Or.inl rfl))))
  have hR2 := (hR.below hb).booked hB2 hg2
  exact ⟨hR2, hbb, (rp_cells hR2.row).2.2.2.2.1, (hbb.cell (p := ⟨nb, 0, none⟩) (cell_lt hnb)).trans hnb, (hbb.cell (p := ⟨kb, 0, none⟩) (cell_lt hkb)).trans hkb⟩
 have HD1 : Hid (Below w1.heap.size w1 w1.drew) := (Below.refl _ _).drew
 by_cases h0 : (rekeyP r.b name key).1 = 0
 ·
  have e1 : r.keyC name key = r.entC name (r.keyN name key) := by unfold Rm.keyC; rw [if_pos h0]
  have e2 : r.entC name (r.keyN name key) = 0 → r.keyR name key = { r with b := (rekeyP r.b name key).2, l := addL r.l r.time ⟨name, r.keyN name key⟩ } := fun hz => by
   unfold Rm.keyR; rw [if_pos h0]; exact entR_yes hz
  obtain ⟨p, hp, _, hpn, _⟩ := rekeyP_one hg.book h0
  have hkn : r.keyN name key = p.epoch := by unfold Rm.keyN; rw [per_of hp]
  rw [h0, errV_zero] at HP
  rw [e1]
  rw [hkn] at e2 ⊢
  have HE2 := hide e2
  have HGet : Hid (∀ W, BookAt W bp mb (rekeyP r.b name key).2 → Calls Tryz.prog 49 #[.pointer (some ⟨bp, 0, none⟩), .string name] W fun e w' => e = .returned (.tuple #[.agg #[.string p.name, .int .i64 p.key, .int .i64 p.epoch, .bool p.off], .nilIface]) ∧ Below W.heap.size W w') := fun W hB => get_yes bp mb _ name W hB hs p hp
  have HT : Hid (∀ w2 L n, CopyOf w { r with b := L } cp w2 → Calls Tryz.prog 63 #[.pointer (some ⟨cp, 0, none⟩), .string name, .int .i64 n] w2 (TellPost a w w2 { r with b := L } cp name n)) := fun w2 L n hco =>
   tell_any a w w2 { r with b := L } cp name n hco hE hg.feed hg.small hs
  have HNb : Hid (∀ W, Below w.heap.size w W → W.cell? ⟨nb, 0, none⟩ = some (.string name)) := fun W hb => (hb.cell (p := ⟨nb, 0, none⟩) (cell_lt hnb)).trans hnb
  clear hB hM hR hE hg hs h0 e1 e2 hp hpn hkn hnb hkb HE HE0
  generalize r.keyR name key = r' at *
  generalize (rekeyP r.b name key).2 = L at *
  go_enter Tryz.func92, Tryz.ntmps92
  go_upto_region 1 with fail
  go_cut [6] (fun s6 wc => s6 = .nilIface ∧ Hid (RmAt wc cp bp mb v { r with b := L } ∧ Below w.heap.size w wc))
  case first =>
   go_region_held3 (fun w' => w'.cell? ⟨cp, 4, none⟩ = some (.pointer (some ⟨bp, 0, none⟩)) ∧ w'.cell? ⟨nb, 0, none⟩ = some (.string name) ∧ w'.cell? ⟨kb, 0, none⟩ = some (.int .i64 key)) (first | go_keep | assumption)
    (first | (go_at_call 93; refine (HP.out _ HD1.out).mono ?_; rintro e w5 ⟨rfl, hk5, hg5⟩; have HX := hide (HCo.out _ _ _ HD1.out hk5 hg5); have k4 := HX.out.2.2.1; have kn := HX.out.2.2.2.1; have kk := HX.out.2.2.2.2; clear hk5 hg5))
   all_goals
    go_wp2_with fail
    go_meet
    exact ⟨rfl, hide ⟨HX.out.1, HX.out.2.1⟩⟩
  case rest =>
   obtain ⟨rfl, HX⟩ := hcut
   have HX1 := hide HX.out.1
   have HX2 := hide HX.out.2
   have hn2 := HNb.out _ HX2.out
   obtain ⟨_, _, _, _, d4, _⟩ := rp_cells HX1.out.row
   have HD2 : Hid (Below wc.heap.size wc wc.drew) := (Below.refl _ _).drew
   have HDA : Hid (Below wc.heap.size wc (wc.alloc (.cells #[.string ⟨#[]⟩, .int .i64 0, .int .i64 0, .bool false] 46)).drew) := ((Below.refl _ wc).alloc (Nat.le_refl _) _).drew
   have HRA : Hid ((wc.alloc (.cells #[.string ⟨#[]⟩, .int .i64 0, .int .i64 0, .bool false] 46)).drew.heap[wc.heap.size]? = some (.cells #[.string ⟨#[]⟩, .int .i64 0, .int .i64 0, .bool false] 46 (0, 0))) := heap_alloc_new _ _
   have n4 := World.new_ne wc ⟨cp, 4, none⟩ d4
   have nn := World.new_ne wc ⟨nb, 0, none⟩ hn2
   clear c4 hn1 hk1 HP HCo HD1 HX
   go_upto_region 4 with fail
   go_cut [7, 8] (fun s7 s8 wc2 => ∃ gp, s7 = .pointer (some ⟨gp, 0, none⟩) ∧ s8 = .nilIface ∧ Hid (wc2.heap[gp]? = some (.cells #[.string p.name, .int .i64 p.key, .int .i64 p.epoch, .bool p.off] 46 (0, 0))) ∧ Hid (RmAt wc2 cp bp mb v { r with b := L } ∧ Below w.heap.size w wc2))
   case first =>
    go_region_held3 (fun w' => w'.cell? ⟨cp, 4, none⟩ = some (.pointer (some ⟨bp, 0, none⟩)) ∧ w'.cell? ⟨nb, 0, none⟩ = some (.string name)) (first | go_keep | assumption)
     (first
      | (go_at_call 49; refine (HGet.out _ (HX1.out.below HDA.out).book).mono ?_; rintro e w5 ⟨rfl, hb5⟩; have HY : Hid (Below wc.heap.size wc w5) := HDA.out.trans (hb5.mono HDA.out.size); have HR5 : Hid (w5.heap[wc.heap.size]? = some (.cells #[.string ⟨#[]⟩, .int .i64 0, .int .i64 0, .bool false] 46 (0, 0))) := (hb5.block _ (row_lt HRA.out)).trans HRA.out; have y0 : w5.cell? ⟨wc.heap.size, 0, none⟩ = some (.string ⟨#[]⟩) := cell_of_row _ _ 0 _ _ _ HR5.out; have y1 : w5.cell? ⟨wc.heap.size, 1, none⟩ = some (.int .i64 0) := cell_of_row _ _ 1 _ _ _ HR5.out; have y2 : w5.cell? ⟨wc.heap.size, 2, none⟩ = some (.int .i64 0) := cell_of_row _ _ 2 _ _ _ HR5.out; have y3 : w5.cell? ⟨wc.heap.size, 3, none⟩ = some (.bool false) := cell_of_row _ _ 3 _ _ _ HR5.out; have f0 := frozen_of_row w5 wc.heap.size 0 _ _ HR5.out; have f1 := frozen_of_row w5 wc.heap.size 1 _ _ HR5.out; have f2 := frozen_of_row w5 wc.heap.size 2 _ _ HR5.out; have f3 := frozen_of_row w5 wc.heap.size 3 _ _ HR5.out; have k4 : w5.cell? ⟨cp, 4, none⟩ = some (.pointer (some ⟨bp, 0, none⟩)) := (HY.out.cell (p := ⟨cp, 4, none⟩) (cell_lt d4)).trans d4; have kn : w5.cell? ⟨nb, 0, none⟩ = some (.string name) := (HY.out.cell (p := ⟨nb, 0, none⟩) (cell_lt hn2)).trans hn2; clear hb5)
      | (go_at_call 49; refine (HGet.out _ (HX1.out.below HD2.out).book).mono ?_; rintro e w5 ⟨rfl, hb5⟩; have HY : Hid (Below wc.heap.size wc w5) := HD2.out.trans hb5; have k4 : w5.cell? ⟨cp, 4, none⟩ = some (.pointer (some ⟨bp, 0, none⟩)) := (HY.out.cell (p := ⟨cp, 4, none⟩) (cell_lt d4)).trans d4; have kn : w5.cell? ⟨nb, 0, none⟩ = some (.string name) := (HY.out.cell (p := ⟨nb, 0, none⟩) (cell_lt hn2)).trans hn2; clear hb5))
    all_goals
     go_wp2_with fail
     go_meet
     first
      | exact ⟨_, rfl, rfl, hide (heap_alloc_new _ _), hide ⟨HX1.out.below (HY.out.alloc HY.out.size _), HX2.out.trans ((HY.out.alloc HY.out.size _).mono HX2.out.size)⟩⟩
      | exact ⟨_, rfl, rfl, hide (four_row HR5.out _ _ _ _), hide ⟨HX1.out.below (four_below HY.out (Nat.le_refl _) _ _ _ _), HX2.out.trans ((four_below HY.out (Nat.le_refl _) _ _ _ _).mono HX2.out.size)⟩⟩
   case rest =>
    obtain ⟨gp, rfl, rfl, HG, HX⟩ := hcut
    have HCp : Hid (CopyOf w { r with b := L } cp wc) := ⟨bp, mb, v, HX.out.1, HM.out, HX.out.2⟩
    have hn3 := HNb.out _ HX.out.2
    have x2 : wc.cell? ⟨gp, 2, none⟩ = some (.int .i64 p.epoch) := cell_of_row _ _ 2 _ _ _ HG.out
    have HNe : Hid (gp ≠ cp) := tags_ne HG.out HX.out.1.row (by decide)
    have HD3 : Hid (Below wc.heap.size wc wc.drew) := (Below.refl _ _).drew
    clear d4 hn2 HX1 HX2 HD2 HDA HRA n4 nn HGet HX
    go_upto_region 7 with fail
    go_cut [4, 5] (fun s4 s5 wd => s4 = .int .i64 p.epoch ∧ Hid (EvP a wd (r.entC name p.epoch) s5 ∧ (r.entC name p.epoch = 0 → CopyOf w r' cp wd) ∧ Below w.heap.size w wd))
    case first =>
     go_region_held3 (fun w' => w'.cell? ⟨gp, 2, none⟩ = some (.int .i64 p.epoch) ∧ w'.cell? ⟨nb, 0, none⟩ = some (.string name)) (first | go_keep | assumption)
      (first | (go_at_call 63; refine (HT.out _ _ _ (HCp.out.below HD3.out)).mono ?_; rintro e w6 ⟨⟨ev, rfl, he⟩, hz, hb, hkp⟩; have HY : Hid (EvP a w6 (r.entC name p.epoch) ev ∧ (r.entC name p.epoch = 0 → CopyOf w r' cp w6) ∧ Below w.heap.size w w6) := ⟨he, fun hz0 => (by rw [HE2.out hz0]; exact hz hz0), hb⟩; have k2 : w6.cell? ⟨gp, 2, none⟩ = some (.int .i64 p.epoch) := cell_of_row _ _ 2 _ _ _ ((hkp.block gp (row_lt HG.out) HNe.out).trans HG.out); have kn := HNb.out _ hb; clear he hz hb hkp))
     all_goals
      go_wp2_with fail
      go_meet
      exact ⟨rfl, HY⟩
    case rest =>
     obtain ⟨rfl, HY⟩ := hcut
     go_wp2
     go_ret2
     exact ⟨p.epoch, _, rfl, HY.out.1, fun hz0 => ⟨rfl, HY.out.2.1 hz0⟩, HY.out.2.2⟩
 ·
  have e1 : r.keyC name key = (rekeyP r.b name key).1 := by unfold Rm.keyC; rw [if_neg h0]
  rw [e1]
  rw [errV_pos a h0] at HP
  have HEv : Hid (∀ W, EvP a W (rekeyP r.b name key).1 (eV (a ((rekeyP r.b name key).1 - 1)))) := fun W => by rw [← errV_pos a h0]; exact evp_V a _ W
  have HN0 : Hid ((rekeyP r.b name key).1 ≠ 0) := h0
  clear hB hM hR hE hg hs h0 e1 hnb hkb HE HE0 HM
  generalize (rekeyP r.b name key).2 = L at *
  generalize (rekeyP r.b name key).1 = c at *
  go_enter Tryz.func92, Tryz.ntmps92
  go_upto_region 1 with fail
  go_cut [6] (fun s6 wc => s6 = eV (a (c - 1)) ∧ Hid (Below w.heap.size w wc))
  case first =>
   go_region_held3 (fun w' => w'.cell? ⟨cp, 4, none⟩ = some (.pointer (some ⟨bp, 0, none⟩)) ∧ w'.cell? ⟨nb, 0, none⟩ = some (.string name) ∧ w'.cell? ⟨kb, 0, none⟩ = some (.int .i64 key)) (first | go_keep | assumption)
    (first | (go_at_call 93; refine (HP.out _ HD1.out).mono ?_; rintro e w5 ⟨rfl, hk5, hg5⟩; have HX := hide (HCo.out _ _ _ HD1.out hk5 hg5); have k4 := HX.out.2.2.1; have kn := HX.out.2.2.2.1; have kk := HX.out.2.2.2.2; clear hk5 hg5))
   all_goals
    go_wp2_with fail
    go_meet
    exact ⟨rfl, hide HX.out.2.1⟩
  case rest =>
   obtain ⟨rfl, HX⟩ := hcut
   go_wp2
   go_ret2
   exact ⟨0, _, rfl, HEv.out _, fun hz0 => absurd hz0 HN0.out, HX.out⟩
set_option maxRecDepth 100000 in
set_option maxHeartbeats 4000000 in
theorem rpRekey_any (a : Nat → Addr) (rp bp mb : Nat) (v : Value) (r : Rm) (name : ByteArray) (key : Int) (w : World) (h : RmAt w rp bp mb v r) (hg : GoodR r) (hE : Errs a w) (hs : name.size ≤ maxLen) :
  Calls Tryz.prog 41 #[.pointer (some ⟨rp, 0, none⟩), .string name, .int .i64 key] w (TryPost a rp bp mb v w (r.keyN name key) (r.keyC name key) (r.keyR name key)) := by
 obtain ⟨W1, hW1⟩ : ∃ W, (w.alloc (.cells #[.string name] 9)).alloc (.cells #[.int .i64 key] 3) = W := ⟨_, rfl⟩
 have hB0 : Below w.heap.size w W1 := by rw [← hW1]; exact ((Below.refl _ _).alloc (Nat.le_refl _) _).alloc (by simp) _
 have hn1 : W1.cell? ⟨w.heap.size, 0, none⟩ = some (.string name) := by
  rw [← hW1]; exact cell_of_row _ _ 0 _ _ _ ((Below.heap_alloc _ _ _ (by simp)).trans (heap_alloc_new w _))
 have hk1 : W1.cell? ⟨w.heap.size + 1, 0, none⟩ = some (.int .i64 key) := by
  have := heap_alloc_new (w.alloc (.cells #[.string name] 9)) (.cells #[.int .i64 key] 3)
  rw [World.size_alloc, hW1] at this
  exact cell_of_row _ _ 0 _ _ _ this
 have HT := hide (try_any a 92 #[.pointer (some ⟨w.heap.size, 0, none⟩), .pointer (some ⟨w.heap.size + 1, 0, none⟩)] (enters_of Tryz.func92 (by kernel_rfl) rfl) rp bp mb v r (r.keyR name key) (r.keyN name key) (r.keyC name key) W1 (h.below hB0) (Nat.le_trans hg.few (by decide))
  (rekey_change a w.heap.size (w.heap.size + 1) name key r W1 hg (hE.below hB0) hn1 hk1 hs))
 have HX : Hid (∀ e w', TryPost a rp bp mb v W1 (r.keyN name key) (r.keyC name key) (if r.keyC name key = 0 then r.keyR name key else r) e w' → TryPost a rp bp mb v w (r.keyN name key) (r.keyC name key) (r.keyR name key) e w') := fun e w' ⟨h1, h2⟩ => by
  refine ⟨h1, PPost.from hB0 ?_⟩
  by_cases h0 : r.keyC name key = 0
  ·
   rw [if_pos h0] at h2; exact h2
  ·
   rw [if_neg h0] at h2; rw [key_no h0]; exact h2
 have hmf : ∀ (fn : Fn) (first cap : Array Value) (w : World), (Instr.makeFunc fn first cap).run Tryz.prog w = .ok (.func fn first cap) w := fun _ _ _ _ => rfl
 clear h hg hE hs hB0 hn1 hk1
 generalize r.keyR name key = r1 at *
 generalize r.keyC name key = c at *
 generalize r.keyN name key = n at *
 subst hW1
 go_enter Tryz.func41, Tryz.ntmps41
 go_wp2_with fail
 refine HT.out.mono ?_
 rintro e w1 hp
 obtain ⟨⟨ev, rfl, he⟩, hq⟩ := HX.out _ _ hp
 have HY : Hid (EvP a w1 c ev ∧ PPost w rp bp mb v r1 w1) := ⟨he, hq⟩
 clear hp he hq HX HT
 go_wp2
 go_ret2
 exact ⟨⟨ev, rfl, HY.out.1⟩, HY.out.2⟩
theorem presEnd {a : Act} {w : World} {R : Ending → World → Prop} (g : Nat) (cs : Array Value) (hp : a.tmps.getD 4 undef = .pointer (some ⟨g, 0, none⟩)) (hg : w.heap[g]? = some (.cells cs 46 (0, 0))) (hn : cs.size = 4) (hd : a.defers = [])
  (hR : R (.returned (.tuple #[.agg cs, a.tmps.getD 5 undef])) w) : bodyPost Tryz.prog Tryz.f66 R .ret a w :=
 bodyPost_ret (res_row_tmp rfl a.tmps w g _ cs (0, 0) _ hp hg Tryz.underlying46 rfl (by rw [hn]; kernel_rfl)) hd hR
abbrev zeroO : Obj := .cells #[.string ⟨#[]⟩, .int .i64 0, .int .i64 0, .bool false] 46 (0, 0)
theorem pres_ready {w w1 : World} (hb : Below (w.alloc zeroO).heap.size (w.alloc zeroO) w1) :
  Below w.heap.size w w1 ∧ w1.heap[w.heap.size]? = some zeroO := by
 have hB0 : Below w.heap.size w (w.alloc zeroO) := (Below.refl _ _).alloc (Nat.le_refl _) _
 exact ⟨hB0.trans (hb.mono hB0.size), (hb.block _ (by simp)).trans (heap_alloc_new w zeroO)⟩
theorem row_past {w : World} {g : Nat} {cs : Array Value} {t : TypeId} (h : w.heap[g]? = some (.cells cs t (0, 0))) (o : Obj) : (w.alloc o).heap[g]? = some (.cells cs t (0, 0)) := (Below.heap_alloc _ _ _ (row_lt h)).trans h
set_option maxRecDepth 100000 in
set_option maxHeartbeats 4000000 in
theorem present_none (a : Nat → Addr) (rp bp mb : Nat) (v : Value) (r : Rm) (name : ByteArray) (w : World) (h : RmAt w rp bp mb v r) (hE : Errs a w) (hs : name.size ≤ maxLen) (hg : getP r.b name = none) :
  Calls Tryz.prog 66 #[.pointer (some ⟨rp, 0, none⟩), .string name] w fun e w' => e = .returned (.tuple #[.agg #[.string ⟨#[]⟩, .int .i64 0, .int .i64 0, .bool false], eV (a 4)]) ∧ Below w.heap.size w w' := by
 have hB0 : Below w.heap.size w (w.alloc zeroO) := (Below.refl _ _).alloc (Nat.le_refl _) _
 have c4 : (w.alloc zeroO).cell? ⟨rp, 4, none⟩ = _ := (rp_cells (h.below hB0).row).2.2.2.2.1
 have HG := hide (get_no a bp mb r.b name (w.alloc zeroO) (h.below hB0).book ((hE.below hB0).ev _) hs hg)
 clear h hE hg hB0
 go_enter Tryz.func66, Tryz.ntmps66
 go_wp2_with fail
 refine HG.out.mono ?_
 rintro e w1 ⟨rfl, hb⟩
 obtain ⟨hB1, hr1⟩ := pres_ready hb
 have HB1 := hide hB1
 have HR1 : Hid (w1.heap[w.heap.size]? = some zeroO) := hr1
 have hr2 := fun o => row_past hr1 o
 have y0 : ∀ o, (w1.alloc o).cell? ⟨w.heap.size, 0, none⟩ = some (.string ⟨#[]⟩) := fun o => cell_of_row _ _ 0 _ _ _ (hr2 o)
 have y1 : ∀ o, (w1.alloc o).cell? ⟨w.heap.size, 1, none⟩ = some (.int .i64 0) := fun o => cell_of_row _ _ 1 _ _ _ (hr2 o)
 have y2 : ∀ o, (w1.alloc o).cell? ⟨w.heap.size, 2, none⟩ = some (.int .i64 0) := fun o => cell_of_row _ _ 2 _ _ _ (hr2 o)
 have y3 : ∀ o, (w1.alloc o).cell? ⟨w.heap.size, 3, none⟩ = some (.bool false) := fun o => cell_of_row _ _ 3 _ _ _ (hr2 o)
 have f0 : ∀ o, (w1.alloc o).frozen? ⟨w.heap.size, 0, none⟩ = false := fun o => frozen_of_row _ _ 0 _ _ (hr2 o)
 have f1 : ∀ o, (w1.alloc o).frozen? ⟨w.heap.size, 1, none⟩ = false := fun o => frozen_of_row _ _ 1 _ _ (hr2 o)
 have f2 : ∀ o, (w1.alloc o).frozen? ⟨w.heap.size, 2, none⟩ = false := fun o => frozen_of_row _ _ 2 _ _ (hr2 o)
 have f3 : ∀ o, (w1.alloc o).frozen? ⟨w.heap.size, 3, none⟩ = false := fun o => frozen_of_row _ _ 3 _ _ (hr2 o)
 clear hb hB1 hr1 hr2
 go_wp2
 refine presEnd w.heap.size _ rfl (four_row (row_past HR1.out _) _ _ _ _) rfl rfl ?_
 exact ⟨rfl, four_below (HB1.out.alloc HB1.out.size _) (Nat.le_refl _) _ _ _ _⟩
set_option maxRecDepth 100000 in
set_option maxHeartbeats 4000000 in
theorem present_off (a : Nat → Addr) (rp bp mb : Nat) (v : Value) (r : Rm) (name : ByteArray) (w : World) (h : RmAt w rp bp mb v r) (hE : Errs a w) (hs : name.size ≤ maxLen) {p : Per} (hg : getP r.b name = some p) (ho : p.off = true) :
  Calls Tryz.prog 66 #[.pointer (some ⟨rp, 0, none⟩), .string name] w fun e w' => e = .returned (.tuple #[.agg #[.string ⟨#[]⟩, .int .i64 0, .int .i64 0, .bool false], eV (a 15)]) ∧ Below w.heap.size w w' := by
 have hB0 : Below w.heap.size w (w.alloc zeroO) := (Below.refl _ _).alloc (Nat.le_refl _) _
 have c4 : (w.alloc zeroO).cell? ⟨rp, 4, none⟩ = _ := (rp_cells (h.below hB0).row).2.2.2.2.1
 have HG := hide (get_yes bp mb r.b name (w.alloc zeroO) (h.below hB0).book hs p hg)
 have HE := hide hE
 rw [ho] at HG
 clear h hE hg hB0
 go_enter Tryz.func66, Tryz.ntmps66
 go_wp2_with fail
 refine HG.out.mono ?_
 rintro e w1 ⟨rfl, hb⟩
 obtain ⟨hB1, hr1⟩ := pres_ready hb
 have HB1 := hide hB1
 have HR1 : Hid (w1.heap[w.heap.size]? = some zeroO) := hr1
 have hr2 := fun o => row_past hr1 o
 have y0 : ∀ o, (w1.alloc o).cell? ⟨w.heap.size, 0, none⟩ = some (.string ⟨#[]⟩) := fun o => cell_of_row _ _ 0 _ _ _ (hr2 o)
 have y1 : ∀ o, (w1.alloc o).cell? ⟨w.heap.size, 1, none⟩ = some (.int .i64 0) := fun o => cell_of_row _ _ 1 _ _ _ (hr2 o)
 have y2 : ∀ o, (w1.alloc o).cell? ⟨w.heap.size, 2, none⟩ = some (.int .i64 0) := fun o => cell_of_row _ _ 2 _ _ _ (hr2 o)
 have y3 : ∀ o, (w1.alloc o).cell? ⟨w.heap.size, 3, none⟩ = some (.bool false) := fun o => cell_of_row _ _ 3 _ _ _ (hr2 o)
 have f0 : ∀ o, (w1.alloc o).frozen? ⟨w.heap.size, 0, none⟩ = false := fun o => frozen_of_row _ _ 0 _ _ (hr2 o)
 have f1 : ∀ o, (w1.alloc o).frozen? ⟨w.heap.size, 1, none⟩ = false := fun o => frozen_of_row _ _ 1 _ _ (hr2 o)
 have f2 : ∀ o, (w1.alloc o).frozen? ⟨w.heap.size, 2, none⟩ = false := fun o => frozen_of_row _ _ 2 _ _ (hr2 o)
 have f3 : ∀ o, (w1.alloc o).frozen? ⟨w.heap.size, 3, none⟩ = false := fun o => frozen_of_row _ _ 3 _ _ (hr2 o)
 have hv : ∀ o, (w1.alloc o).cell? ⟨1, 0, none⟩ = some (eV (a 15)) := fun o => (HE.out.below (hB1.alloc hB1.size o)).var 15 (by decide)
 have hgl : 1 < w.heap.size := cell_lt (HE.out.var 15 (by decide))
 have hne1 : ¬ 1 = w.heap.size := by omega
 have hne2 : ¬ w.heap.size = 1 := by omega
 clear hb hB1 hr1 hr2
 go_wp2
 go_region
 all_goals
  go_wp2
  refine presEnd w.heap.size _ rfl (four_row (row_past HR1.out _) _ _ _ _) rfl rfl ?_
  exact ⟨rfl, four_below ((HB1.out.alloc HB1.out.size _).drew) (Nat.le_refl _) _ _ _ _⟩
set_option maxRecDepth 100000 in
set_option maxHeartbeats 4000000 in
theorem present_yes (rp bp mb : Nat) (v : Value) (r : Rm) (name : ByteArray) (w : World) (h : RmAt w rp bp mb v r) (hs : name.size ≤ maxLen) {p : Per} (hg : getP r.b name = some p) (ho : p.off = false) :
  Calls Tryz.prog 66 #[.pointer (some ⟨rp, 0, none⟩), .string name] w fun e w' => e = .returned (.tuple #[.agg #[.string p.name, .int .i64 p.key, .int .i64 p.epoch, .bool false], .nilIface]) ∧ Below w.heap.size w w' := by
 have hB0 : Below w.heap.size w (w.alloc zeroO) := (Below.refl _ _).alloc (Nat.le_refl _) _
 have c4 : (w.alloc zeroO).cell? ⟨rp, 4, none⟩ = _ := (rp_cells (h.below hB0).row).2.2.2.2.1
 have HG := hide (get_yes bp mb r.b name (w.alloc zeroO) (h.below hB0).book hs p hg)
 rw [ho] at HG
 clear h hg hB0
 go_enter Tryz.func66, Tryz.ntmps66
 go_wp2_with fail
 refine HG.out.mono ?_
 rintro e w1 ⟨rfl, hb⟩
 obtain ⟨hB1, hr1⟩ := pres_ready hb
 have HB1 := hide hB1
 have HR1 : Hid (w1.heap[w.heap.size]? = some zeroO) := hr1
 have hr2 := fun o => row_past hr1 o
 have y0 : ∀ o, (w1.alloc o).cell? ⟨w.heap.size, 0, none⟩ = some (.string ⟨#[]⟩) := fun o => cell_of_row _ _ 0 _ _ _ (hr2 o)
 have y1 : ∀ o, (w1.alloc o).cell? ⟨w.heap.size, 1, none⟩ = some (.int .i64 0) := fun o => cell_of_row _ _ 1 _ _ _ (hr2 o)
 have y2 : ∀ o, (w1.alloc o).cell? ⟨w.heap.size, 2, none⟩ = some (.int .i64 0) := fun o => cell_of_row _ _ 2 _ _ _ (hr2 o)
 have y3 : ∀ o, (w1.alloc o).cell? ⟨w.heap.size, 3, none⟩ = some (.bool false) := fun o => cell_of_row _ _ 3 _ _ _ (hr2 o)
 have f0 : ∀ o, (w1.alloc o).frozen? ⟨w.heap.size, 0, none⟩ = false := fun o => frozen_of_row _ _ 0 _ _ (hr2 o)
 have f1 : ∀ o, (w1.alloc o).frozen? ⟨w.heap.size, 1, none⟩ = false := fun o => frozen_of_row _ _ 1 _ _ (hr2 o)
 have f2 : ∀ o, (w1.alloc o).frozen? ⟨w.heap.size, 2, none⟩ = false := fun o => frozen_of_row _ _ 2 _ _ (hr2 o)
 have f3 : ∀ o, (w1.alloc o).frozen? ⟨w.heap.size, 3, none⟩ = false := fun o => frozen_of_row _ _ 3 _ _ (hr2 o)
 clear hb hB1 hr1 hr2
 go_wp2
 refine presEnd w.heap.size _ rfl (four_row (row_past HR1.out _) _ _ _ _) rfl rfl ?_
 exact ⟨rfl, four_below (HB1.out.alloc HB1.out.size _) (Nat.le_refl _) _ _ _ _⟩
theorem served_set {w : World} {rp bp mb : Nat} {v : Value} {r : Rm} (h : RmAt w rp bp mb v r) : PPost w rp bp mb v { r with ser := r.ser + 1 } (w.setCell ⟨rp, 3, none⟩ (.int .i64 (r.ser + 1))) :=
 ⟨bp, mb, v, h.rowed (rp_set (r' := { r with ser := r.ser + 1 }) h.row 3 (.int .i64 (r.ser + 1)) bp v rfl) (fun k _ hk => heap_setCell_other w ⟨rp, 3, none⟩ k _ hk) rfl rfl, Kept.setCell (S := fun k => k = rp ∨ k = mb) (Kept.refl _ w) (p := ⟨rp, 3, none⟩) (Or.inl rfl) _, fun _ hk => Or.inl hk⟩
set_option maxRecDepth 100000 in
set_option maxHeartbeats 4000000 in
theorem issue_any (a : Nat → Addr) (rp bp mb : Nat) (v : Value) (r : Rm) (key : Int) (t : Tk) (w : World) (h : RmAt w rp bp mb v r) (hE : Env a w) (hser : 1 ≤ r.ser ∧ r.ser ≤ 1073741825) (hs : t.who.size ≤ maxLen) (hs2 : t.dst.size ≤ maxLen) :
  Calls Tryz.prog 52 #[.pointer (some ⟨rp, 0, none⟩), .int .i64 key, .agg #[.string t.who, .string t.dst, .int .i64 t.epoch, .int .i64 t.frm, .int .i64 t.til, .int .i64 t.ser]] w fun e w' => e = .returned (.tuple #[.string (tkMakeS key t), errV a (tkMakeE key t)]) ∧ PPost w rp bp mb v (r.serR (tkMakeE key t)) w' := by
 have hB0 : Below w.heap.size w (w.alloc (tkO t)) := (Below.refl _ w).alloc (Nat.le_refl _) _
 have HM := hide (tkMake_any a key t (w.alloc (tkO t)) (hE.below hB0) hs hs2)
 rw [tk_val] at HM
 have HH := hide h
 have HB0 := hide hB0
 have hw1 : IntKind.i64.wrap (r.ser + 1) = r.ser + 1 := by rw [IntKind.wrap_i64]; omega
 obtain ⟨x0, x1, x2, x3, x4, x5⟩ := tk_row (heap_alloc_new w (tkO t))
 by_cases h0 : tkMakeE key t = 0
 ·
  rw [h0, errV_zero] at HM ⊢
  have HS : Hid (r.serR 0 = { r with ser := r.ser + 1 }) := by show r.serR 0 = _; unfold Rm.serR; rw [if_pos rfl]
  rw [HS.out]
  clear h hE hB0 h0 hser hs hs2
  generalize tkMakeS key t = ts at *
  go_enter Tryz.func52, Tryz.ntmps52
  go_wp2_with fail
  refine HM.out.mono ?_
  rintro e w1 ⟨rfl, hb⟩
  have HB1 : Hid (Below w.heap.size w w1) := HB0.out.trans (hb.mono HB0.out.size)
  have h1 := HH.out.below HB1.out
  obtain ⟨_, _, _, c3, _, _⟩ := rp_cells h1.row
  obtain ⟨_, z3, _, _⟩ := rp_frozen h1.row
  have HP := hide (PPost.from HB1.out (served_set h1))
  clear hb h1 x0 x1 x2 x3 x4 x5
  go_wp2
  go_ret2
  exact ⟨rfl, HP.out⟩
 ·
  have HE0 : Hid (tkMakeS key t = ⟨#[]⟩) := by show tkMakeS key t = _; unfold tkMakeS; rw [if_neg h0]
  have HS : Hid (r.serR (tkMakeE key t) = r) := serR_no h0
  rw [HE0.out, errV_pos a h0] at HM ⊢
  rw [HS.out]
  clear h hE hB0 h0 hser hs hs2 HE0 HS
  generalize a (tkMakeE key t - 1) = ad at *
  go_enter Tryz.func52, Tryz.ntmps52
  go_wp2_with fail
  refine HM.out.mono ?_
  rintro e w1 ⟨rfl, hb⟩
  have HB1 : Hid (Below w.heap.size w w1) := HB0.out.trans (hb.mono HB0.out.size)
  clear hb x0 x1 x2 x3 x4 x5
  go_wp2
  go_ret2
  exact ⟨rfl, PPost.same HH.out HB1.out⟩
theorem Env.f {a : Nat → Addr} {w : World} (h : Env a w) : EnvF a w := ⟨h.errs.ev _, h.len, h.tab⟩
set_option maxRecDepth 100000 in
set_option maxHeartbeats 4000000 in
theorem rpHead_any (a : Nat → Addr) (rp bp mb : Nat) (v : Value) (r : Rm) (w : World) (h : RmAt w rp bp mb v r) (hE : Env a w) (hg : GoodR r) :
  Calls Tryz.prog 46 #[.pointer (some ⟨rp, 0, none⟩)] w fun e w' => TextPost a (headC r.key r.l r.time) (headT r.key r.l r.time) e w' ∧ Below w.heap.size w w' := by
 obtain ⟨c0, _, c2, _, _, c5⟩ := rp_cells h.row
 have HF := hide (fun W (hb : Below w.heap.size w W) => fdMake_any a r.key v r.l r.time W (hE.below hb).f (h.enAt.below hb) hg.small (Nat.le_trans hg.few (by decide)))
 have HD1 : Hid (Below w.heap.size w w.drew) := (Below.refl _ _).drew
 obtain ⟨ad, cap, rfl, _⟩ := h.enAt.form
 clear h hE hg
 generalize headC r.key r.l r.time = hc at *
 generalize headT r.key r.l r.time = ht at *
 go_enter Tryz.func46, Tryz.ntmps46
 go_upto_region 1 with fail
 go_cut [2, 3] (fun s2 s3 wc => Hid (TextPost a hc ht (.returned (.tuple #[s2, s3])) wc ∧ Below w.heap.size w wc))
 case first =>
  go_region_held3 (fun w' => w'.cell? ⟨rp, 0, none⟩ = some (.int .i64 r.key) ∧ w'.cell? ⟨rp, 5, none⟩ = some (.slice ad r.l.length cap) ∧ w'.cell? ⟨rp, 2, none⟩ = some (.int .i64 r.time)) (first | go_keep | assumption)
   (first | (go_at_call 95; refine (HF.out _ HD1.out).mono ?_; rintro e w5 ⟨ht5, hb5⟩; have HB5 : Hid (Below w.heap.size w w5) := HD1.out.trans hb5; have HT5 := hide ht5; have k0 := (HB5.out.cell (p := ⟨rp, 0, none⟩) (cell_lt c0)).trans c0; have k5 := (HB5.out.cell (p := ⟨rp, 5, none⟩) (cell_lt c5)).trans c5; have k2 := (HB5.out.cell (p := ⟨rp, 2, none⟩) (cell_lt c2)).trans c2; obtain ⟨s5, v5, rfl⟩ : ∃ s v, e = .returned (.tuple #[s, v]) := (by rcases ht5 with ⟨_, rfl⟩ | ⟨_, t, p, rfl, _⟩ <;> exact ⟨_, _, rfl⟩); clear ht5 hb5))
  all_goals
   go_wp2_with fail
   go_meet
   exact hide ⟨HT5.out, HB5.out⟩
 case rest =>
  go_wp2
  go_ret2
  exact ⟨hcut.out.1, hcut.out.2⟩
abbrev perO (p : Per) : Obj := .cells #[.string p.name, .int .i64 p.key, .int .i64 p.epoch, .bool p.off] 46 (0, 0)
set_option maxRecDepth 100000 in
set_option maxHeartbeats 4000000 in
theorem rpLogin_none (a : Nat → Addr) (rp bp mb : Nat) (v : Value) (r : Rm) (name : ByteArray) (proof : Int) (dst : ByteArray) (w : World) (h : RmAt w rp bp mb v r) (hE : Errs a w) (hs : name.size ≤ maxLen) (hn : getP r.b name = none) :
  Calls Tryz.prog 12 #[.pointer (some ⟨rp, 0, none⟩), .string name, .int .i64 proof, .string dst] w fun e w' => e = .returned (.tuple #[.string ⟨#[]⟩, eV (a 4)]) ∧ Below w.heap.size w w' := by
 obtain ⟨_, _, _, _, c4, _⟩ := rp_cells h.row
 have HG := hide (get_no a bp mb r.b name w h.book (hE.ev _) hs hn)
 clear h hE hn
 go_enter Tryz.func12, Tryz.ntmps12
 go_wp2_with fail
 refine HG.out.mono ?_
 rintro e w1 ⟨rfl, hb⟩
 have HB1 := hide hb
 clear hb
 go_wp2
 go_ret2
 exact ⟨rfl, HB1.out.trans (((Below.refl w1.heap.size w1).alloc (Nat.le_refl _) _).mono HB1.out.size)⟩
set_option maxRecDepth 100000 in
set_option maxHeartbeats 4000000 in
theorem rpLogin_dst (a : Nat → Addr) (rp bp mb : Nat) (v : Value) (r : Rm) (name : ByteArray) (proof : Int) (dst : ByteArray) (w : World) (h : RmAt w rp bp mb v r) (hE : Errs a w) (hs : name.size ≤ maxLen) (hs2 : dst.size ≤ maxLen) {p : Per} (hp : getP r.b name = some p) (hn : getP r.b dst = none) :
  Calls Tryz.prog 12 #[.pointer (some ⟨rp, 0, none⟩), .string name, .int .i64 proof, .string dst] w fun e w' => e = .returned (.tuple #[.string ⟨#[]⟩, eV (a 4)]) ∧ Below w.heap.size w w' := by
 obtain ⟨_, _, _, _, c4, _⟩ := rp_cells h.row
 have HG := hide (get_yes bp mb r.b name w h.book hs p hp)
 have HG2 := hide (fun W (hb : Below w.heap.size w W) => get_no a bp mb r.b dst W (h.below hb).book ((hE.below hb).ev _) hs2 hn)
 have HH := hide h
 clear h hE hn hp
 go_enter Tryz.func12, Tryz.ntmps12
 go_wp2_with fail
 refine HG.out.mono ?_
 rintro e w1 ⟨rfl, hb⟩
 have HB1 : Hid (Below w.heap.size w (w1.alloc (perO p))) := hb.alloc hb.size _
 have d4 : ∀ o, (w1.alloc o).cell? ⟨rp, 4, none⟩ = some (.pointer (some ⟨bp, 0, none⟩)) := fun o => (rp_cells (HH.out.below (hb.alloc hb.size o)).row).2.2.2.2.1
 clear hb
 go_wp2_with fail
 refine (HG2.out _ HB1.out).mono ?_
 rintro e w2 ⟨rfl, hb⟩
 have HB2 : Hid (Below w.heap.size w w2) := HB1.out.trans (hb.mono HB1.out.size)
 clear hb
 go_wp2
 go_ret2
 exact ⟨rfl, HB2.out.alloc HB2.out.size _⟩
structure LogAt (w W : World) (rp bp mb gw gs : Nat) (v : Value) (r : Rm) (p s : Per) : Prop where
 mine : RmAt W rp bp mb v r
 past : Below w.heap.size w W
 who : W.heap[gw]? = some (perO p)
 dst : W.heap[gs]? = some (perO s)
 newW : w.heap.size ≤ gw
 newS : w.heap.size ≤ gs
theorem LogAt.below {w W W' : World} {rp bp mb gw gs : Nat} {v : Value} {r : Rm} {p s : Per} (h : LogAt w W rp bp mb gw gs v r p s) (hb : Below W.heap.size W W') : LogAt w W' rp bp mb gw gs v r p s :=
 ⟨h.mine.below hb, h.past.trans (hb.mono h.past.size), (hb.block _ (row_lt h.who)).trans h.who, (hb.block _ (row_lt h.dst)).trans h.dst, h.newW, h.newS⟩
set_option maxRecDepth 100000 in
set_option maxHeartbeats 4000000 in
theorem rpLogin_off (a : Nat → Addr) (rp bp mb : Nat) (v : Value) (r : Rm) (name : ByteArray) (proof : Int) (dst : ByteArray) (w : World) (h : RmAt w rp bp mb v r) (hE : Errs a w) (hs : name.size ≤ maxLen) (hs2 : dst.size ≤ maxLen) {p s : Per} (hp : getP r.b name = some p) (hn : getP r.b dst = some s) (ho : p.off = true ∨ s.off = true) :
  Calls Tryz.prog 12 #[.pointer (some ⟨rp, 0, none⟩), .string name, .int .i64 proof, .string dst] w fun e w' => e = .returned (.tuple #[.string ⟨#[]⟩, eV (a 15)]) ∧ Below w.heap.size w w' := by
 obtain ⟨_, _, _, _, c4, _⟩ := rp_cells h.row
 have HG := hide (get_yes bp mb r.b name w h.book hs p hp)
 have HG2 := hide (fun W (hb : Below w.heap.size w W) => get_yes bp mb r.b dst W (h.below hb).book hs2 s hn)
 have HH := hide h
 have HE := hide hE
 have ho' : p.off = true ∨ (p.off = false ∧ s.off = true) := by
  cases hpo : p.off
  ·
   rw [hpo] at ho
   rcases ho with g | g
   ·
    cases g
   ·
    exact Or.inr ⟨rfl, g⟩
  ·
   exact Or.inl rfl
 clear h hE hn hp ho
 obtain ⟨pn, pk, pe, po⟩ := p
 obtain ⟨sn, sk, se, so⟩ := s
 dsimp only at HG HG2 ho'
 rcases ho' with rfl | ⟨rfl, rfl⟩
 all_goals
  go_enter Tryz.func12, Tryz.ntmps12
  go_wp2_with fail
  refine HG.out.mono ?_
  rintro e w1 ⟨rfl, hb⟩
  have HB1 : Hid (∀ o, Below w.heap.size w (w1.alloc o)) := fun o => hb.alloc hb.size _
  have HW1 : Hid (∀ o, (w1.alloc (.cells o 46)).heap[w1.heap.size]? = some (.cells o 46 (0, 0))) := fun o => heap_alloc_new _ _
  have d4 : ∀ o, (w1.alloc o).cell? ⟨rp, 4, none⟩ = some (.pointer (some ⟨bp, 0, none⟩)) := fun o => (rp_cells (HH.out.below (hb.alloc hb.size o)).row).2.2.2.2.1
  clear hb
  go_wp2_with fail
  refine (HG2.out _ (HB1.out _)).mono ?_
  rintro e w2 ⟨rfl, hb⟩
  have hB2 := (HB1.out _).trans (hb.mono (HB1.out _).size)
  have hr1 := (hb.block _ (row_lt (HW1.out _))).trans (HW1.out _)
  have HB2 : Hid (∀ o, Below w.heap.size w (w2.alloc o)) := fun o => hB2.alloc hB2.size _
  have x3 := fun o => cell_of_row _ _ 3 _ _ _ (row_past hr1 o)
  have hv : ∀ o, (w2.alloc o).cell? ⟨1, 0, none⟩ = some (eV (a 15)) := fun o => (HE.out.below (HB2.out o)).var 15 (by decide)
  clear hb hB2
  clear hr1
  go_wp2
  go_quiet (fail)
  go_wp2
  go_ret2
  exact ⟨rfl, below_drewN (HB2.out _) _⟩
end Go.Proofs.YtabpnjchocgakaaGreatDoor

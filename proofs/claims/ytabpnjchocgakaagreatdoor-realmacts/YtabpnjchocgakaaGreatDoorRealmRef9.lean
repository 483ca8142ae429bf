/-
  What the document's answer's Login of a realm gives to whoever proves their name; Login as a whole.
-/
import Derived.Test.YtabpnjchocgakaaGreatDoorRealmRef8
namespace Go.Proofs.YtabpnjchocgakaaGreatDoor
open Go.RowKit Go.Extern.Stop Go.Stop Go.Extern Go.Proofs Go.Maps
theorem GoodR.name {r : Rm} (h : GoodR r) {name : ByteArray} {p : Per} (hp : getP r.b name = some p) : Sl.nameL name.data.toList = true ∧ (1 ≤ p.key ∧ p.key ≤ 1000000006) ∧ 1 ≤ p.epoch ∧ p.epoch ≤ 1073741824 := by
 obtain ⟨h1, h2⟩ := getP_some hp
 have := err_zero.1 (h.book.fine p h2)
 unfold Per.nm at this
 rw [h1] at this
 exact this
theorem name_len {s : ByteArray} (h : Sl.nameL s.data.toList = true) : s.size ≤ 1000 := by
 have h1 := size_list s
 unfold Sl.nameL Sl.madeL at h
 simp only [Bool.and_eq_true, decide_eq_true_eq] at h
 omega
theorem til_bd {r : Rm} (h : GoodR r) : r.time ≤ r.til ∧ r.til ≤ 1000000 := by
 have h1 := h.time
 have h2 := h.long
 unfold Rm.til
 split <;> omega
theorem log_err {r : Rm} (h : GoodR r) {name dst : ByteArray} {p s : Per} (hp : getP r.b name = some p) (hs : getP r.b dst = some s) (hser : r.ser ≤ 1073741824) : (r.logT name dst).err = 0 := by
 have n1 := h.name hp
 have n2 := (h.name hs).1
 have ht := til_bd h
 have h1 := h.time
 have h2 := h.ser
 refine (Tk.err_iff _).2 ⟨?_, ?_⟩
 ·
  show (Sl.nameL name.data.toList && Sl.nameL dst.data.toList) = true
  rw [n1.1, n2]
  rfl
 ·
  show (1 ≤ (perOf r.b name).epoch ∧ (perOf r.b name).epoch ≤ 1073741824) ∧ (1 ≤ r.ser ∧ r.ser ≤ 1073741824) ∧ (0 ≤ r.time ∧ r.time ≤ 1000000) ∧ (r.time ≤ r.til ∧ r.til ≤ 1000000)
  rw [per_of hp]
  omega
theorem RefRm.served {B : Nat} {w W : World} {rb bb : Nat} {v lv : Value} {r : Rm} (h : RefRm B w rb bb v lv r) (hb : Below w.heap.size w W) : RmPost B w rb bb v (r.serR 0) (W.setCell ⟨rb, 3, none⟩ (.int .i64 (r.ser + 1))) := by
 have h' := h.below hb
 have hS := rm_set (r' := { r with ser := r.ser + 1 }) h'.row 3 (.int .i64 (r.ser + 1)) bb lv rfl
 exact ⟨bb, v, lv, h'.rowed hS (fun k _ hk => heap_setCell_other W ⟨rb, 3, none⟩ k _ hk) rfl rfl, Kept.setCell (S := fun k => k = rb ∨ k = bb ∨ v.ownBlock = some k) (Kept.of_below _ hb) (p := ⟨rb, 3, none⟩) (Or.inl rfl) _, h.held⟩
set_option maxRecDepth 100000 in
set_option maxHeartbeats 8000000 in
theorem refLogin_ok {B : Nat} (rb bb : Nat) (v lv : Value) (r : Rm) (name : ByteArray) (proof : Int) (dst : ByteArray) (p s : Per) (w : World) (h : RefRm B w rb bb v lv r) (hg : GoodR r) (hp : getP r.b name = some p) (hs : getP r.b dst = some s) (ho : p.off = false) (ho2 : s.off = false) (hre : rightE p.key (prf name r.time) proof = 0) (htm : ¬ 1000000 ≤ r.time) (hsr : ¬ 1073741824 < r.ser) :
  Calls Tryz.prog 38 #[.pointer (some ⟨rb, 0, none⟩), .string name, .int .i64 proof, .string dst] w fun e w' => e = .returned (.tuple #[.string (Sl.ofL (Sl.sealL s.key (r.logT name dst).words)), .int .i64 0]) ∧ RmPost B w rb bb v (r.serR 0) w' := by
 obtain ⟨_, _, c2, c3, c4, _⟩ := rm_cells h.row
 have HF1 := hide (refFind_any bb r.b name w h.book.book (Nat.le_trans hg.book.few (by decide)))
 have HF2 := hide (refFind_any bb r.b dst w h.book.book (Nat.le_trans hg.book.few (by decide)))
 have k0 : w.cell? ⟨bb, 0, none⟩ = some v := cell_of_row w bb 0 _ _ _ h.book.1
 obtain ⟨kp, hkp, hpa, hfp⟩ := find_at hp
 obtain ⟨ks, hks, hsa, hfs⟩ := find_at hs
 obtain ⟨g, cap, rfl, hcap, hcl⟩ := h.people hp
 obtain ⟨p1, p2, p3⟩ := hcl kp p hpa
 obtain ⟨s1, _, s3⟩ := hcl ks s hsa
 rw [hfp] at HF1
 rw [hfs] at HF2
 rw [ho] at p3
 rw [ho2] at s3
 have HW : Hid (∀ W, Below w.heap.size w W → W.cell? ⟨rb, 1, none⟩ = some (.int .i64 r.long) ∧ W.cell? ⟨rb, 2, none⟩ = some (.int .i64 r.time) ∧ W.cell? ⟨rb, 3, none⟩ = some (.int .i64 r.ser) ∧ W.cell? ⟨rb, 4, none⟩ = some (.pointer (some ⟨bb, 0, none⟩)) ∧ W.cell? ⟨bb, 0, none⟩ = some (.slice (some ⟨g, 0, none⟩) r.b.length cap) ∧ W.cell? ⟨g, kp * 4 + 1, none⟩ = some (.int .i64 p.key) ∧ W.cell? ⟨g, kp * 4 + 2, none⟩ = some (.int .i64 p.epoch) ∧ W.cell? ⟨g, ks * 4 + 1, none⟩ = some (.int .i64 s.key) ∧ W.frozen? ⟨rb, 3, none⟩ = false) := fun W hb => by
  have h' := h.below hb
  obtain ⟨_, d1, d2, d3, d4, _⟩ := rm_cells h'.row
  obtain ⟨g', cap', e, _, hcl'⟩ := h'.people hp
  injection e with e1 _ _
  injection e1 with e1
  injection e1 with e1
  subst e1
  exact ⟨d1, d2, d3, d4, cell_of_row W bb 0 _ _ _ h'.book.1, (hcl' kp p hpa).1, (hcl' kp p hpa).2.1, (hcl' ks s hsa).1, (rm_frozen h'.row).2.1⟩
 have hns := name_len (hg.name hp).1
 have hds : (Sl.ofL (Lib.decDigits r.time.toNat)).size ≤ 1000 := by
  rw [Sl.ofL_size]
  have := ((Sl.numOk_iff _).1 (dec_nat r.time (by have := hg.time; omega)).1).1
  omega
 have HDec := hide (fun W => dec_any r.time W hg.time.1 (by have := hg.time; omega))
 have HErr := hide (fun W => refError_any p.key (prfB name r.time) proof W (prf_small hns hg.time))
 rw [prf_toList, hre] at HErr
 have hle0 := log_err hg hp hs (by omega)
 have hm0 : tkMakeE s.key (r.logT name dst) = 0 := by unfold tkMakeE; rw [if_pos (hg.name hs).2.1]; exact hle0
 have HTx := hide (fun W => refTkText_any s.key (r.logT name dst) W (name_small (hg.name hp).1) (name_small (hg.name hs).1))
 rw [hm0, show tkMakeS s.key (r.logT name dst) = Sl.ofL (Sl.sealL s.key (r.logT name dst).words) by unfold tkMakeS; rw [if_pos hm0]] at HTx
 have HTv : Hid ((r.logT name dst).val = .agg #[.string name, .string dst, .int .i64 p.epoch, .int .i64 r.time, .int .i64 r.til, .int .i64 r.ser]) := by show _ = _; unfold Rm.logT Tk.val Tk.cells; rw [per_of hp]
 rw [HTv.out] at HTx
 have HEnd : Hid (∀ W, Below w.heap.size w W → RmPost B w rb bb (.slice (some ⟨g, 0, none⟩) r.b.length cap) (r.serR 0) (W.setCell ⟨rb, 3, none⟩ (.int .i64 (r.ser + 1)))) := fun W hb => h.served hb
 have HTil : Hid (r.til = if 1000000 < r.time + r.long then 1000000 else r.time + r.long) := rfl
 have hb1 := hg.time
 have hb2 := hg.long
 have hb3 := hg.ser
 have hw1 : IntKind.i64.wrap (r.time + r.long) = r.time + r.long := by rw [IntKind.wrap_i64]; omega
 have hw2 : IntKind.i64.wrap (r.ser + 1) = r.ser + 1 := by rw [IntKind.wrap_i64]; omega
 clear h hg hp hs ho ho2 hcl hpa hsa hfp hfs hre hle0 hm0 HTv
 generalize Sl.ofL (Sl.sealL s.key (r.logT name dst).words) = LS at *
 generalize r.serR 0 = r2 at *
 generalize r.b.length = m at *
 unfold prfB at HErr
 generalize Sl.ofL (Lib.decDigits r.time.toNat) = ds at *
 generalize r.til = tl at *
 generalize r.time = t at *
 generalize r.ser = sr at *
 generalize r.long = lg at *
 generalize p.key = pk at *
 generalize p.epoch = pe at *
 generalize s.key = sk at *
 have ha1 : ∀ w : World, (Op.stringOp .add name { data := #[32] }).run Tryz.prog w = .ok (.string (name ++ { data := #[32] })) w := fun w => run_string_add_sum w _ _ (by show name.size + 1 ≤ _; omega)
 have ha2 : ∀ w : World, (Op.stringOp .add (name ++ { data := #[32] }) ds).run Tryz.prog w = .ok (.string (name ++ { data := #[32] } ++ ds)) w := fun w => run_string_add_sum w _ _ (by rw [ByteArray.size_append]; show name.size + 1 + ds.size ≤ _; omega)
 go_enter Tryz.func38, Tryz.ntmps38
 go_wp2_with fail
 refine HF1.out.mono ?_
 rintro e w1 ⟨rfl, rfl⟩
 go_wp2_with fail
 refine HF2.out.mono ?_
 rintro e w2 ⟨rfl, rfl⟩
 have HD1 : Hid (Below w2.heap.size w2 w2.drew) := (Below.refl _ _).drew
 go_upto_region 7 with fail
 go_cut [12] (fun s12 wc => s12 = .int .i64 0 ∧ Hid (Below w2.heap.size w2 wc))
 case first =>
  go_region_held3 (fun w' => w'.cell? ⟨rb, 2, none⟩ = some (.int .i64 t) ∧ w'.cell? ⟨rb, 4, none⟩ = some (.pointer (some ⟨bb, 0, none⟩)) ∧ w'.cell? ⟨bb, 0, none⟩ = some (.slice (some ⟨g, 0, none⟩) m cap) ∧ w'.cell? ⟨g, kp * 4 + 1, none⟩ = some (.int .i64 pk)) (first | go_keep | assumption)
   (first
    | (go_at_call 25; refine (HDec.out _).mono ?_; rintro e w4 ⟨rfl, hb⟩; have HB4 := hide (HD1.out.trans (hb.mono HD1.out.size)); have j2 := (HW.out _ HB4.out).2.1; have j4 := (HW.out _ HB4.out).2.2.2.1; have j0 := (HW.out _ HB4.out).2.2.2.2.1; have j1 := (HW.out _ HB4.out).2.2.2.2.2.1; clear hb HDec)
    | (go_at_call 85; refine (HErr.out _).mono ?_; rintro e w5 ⟨rfl, rfl⟩))
  all_goals
   go_wp2_with fail
   go_meet
   exact ⟨rfl, HB4⟩
 case rest =>
  obtain ⟨rfl, HB⟩ := hcut
  obtain ⟨j1, j2, j3, j4, j0, j5, j6, j7, jz⟩ := HW.out wc HB.out
  clear c2 c3 c4 k0 p1 p2 p3 s1 s3 HDec HErr HF1 HF2 HD1 ha1 ha2
  go_upto_region 12 with fail
  go_cut [13] (fun s13 wd => s13 = .int .i64 (t + lg) ∧ Hid (Below w2.heap.size w2 wd))
  case first =>
   have HDr : Hid (∀ k, Below w2.heap.size w2 (wc.drewN k)) := fun k => below_drewN HB.out k
   go_quiet (fail)
   go_wp2
   go_meet
   exact ⟨rfl, HDr.out _⟩
  case rest =>
   obtain ⟨rfl, HB2⟩ := hcut
   clear j1 j2 j3 j4 j0 j5 j6 j7 jz HB
   have htl : (1000000 < t + lg ∧ tl = 1000000) ∨ (¬ 1000000 < t + lg ∧ tl = t + lg) := by
    have := HTil.out
    by_cases hc : 1000000 < t + lg
    ·
     rw [if_pos hc] at this; exact Or.inl ⟨hc, this⟩
    ·
     rw [if_neg hc] at this; exact Or.inr ⟨hc, this⟩
   clear HTil
   have HD2 : Hid (Below w2.heap.size w2 wc.drew) := HB2.out.drew
   obtain ⟨j1, j2, j3, j4, j0, j5, j6, j7, jz⟩ := HW.out wc HB2.out
   rcases htl with ⟨hc, rfl⟩ | ⟨hc, rfl⟩
   all_goals
    go_upto_region 15 with fail
    go_cut [12, 14] (fun s12 s14 we => s12 = .int .i64 0 ∧ s14 = .string LS ∧ Hid (Below w2.heap.size w2 we))
    case first =>
     go_region_held3 (fun w' => w'.cell? ⟨rb, 2, none⟩ = some (.int .i64 t) ∧ w'.cell? ⟨rb, 3, none⟩ = some (.int .i64 sr) ∧ w'.cell? ⟨rb, 4, none⟩ = some (.pointer (some ⟨bb, 0, none⟩)) ∧ w'.cell? ⟨bb, 0, none⟩ = some (.slice (some ⟨g, 0, none⟩) m cap) ∧ w'.cell? ⟨g, kp * 4 + 2, none⟩ = some (.int .i64 pe) ∧ w'.cell? ⟨g, ks * 4 + 1, none⟩ = some (.int .i64 sk)) (first | go_keep | assumption)
      (first | (go_at_call 86; refine (HTx.out _).mono ?_; rintro e w5 ⟨rfl, hb⟩; have HB5 := hide (HD2.out.trans (hb.mono HD2.out.size)); have i2 := (HW.out _ HB5.out).2.1; have i3 := (HW.out _ HB5.out).2.2.1; have i4 := (HW.out _ HB5.out).2.2.2.1; have i0 := (HW.out _ HB5.out).2.2.2.2.1; have i6 := (HW.out _ HB5.out).2.2.2.2.2.2.1; have i7 := (HW.out _ HB5.out).2.2.2.2.2.2.2.1; clear hb HTx))
     all_goals
      go_wp2_with fail
      go_meet
      exact ⟨rfl, rfl, HB5⟩
    case rest =>
     obtain ⟨rfl, rfl, HB6⟩ := hcut
     clear j1 j2 j3 j4 j0 j5 j6 j7 jz
     obtain ⟨j1, j2, j3, j4, j0, j5, j6, j7, jz⟩ := HW.out wc HB6.out
     have HE6 := hide (HEnd.out wc HB6.out)
     clear HW HTx HEnd HB2 HB6 HD2
     go_wp2
     go_ret2
     exact ⟨rfl, HE6.out⟩
end Go.Proofs.YtabpnjchocgakaaGreatDoor

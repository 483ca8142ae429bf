/-
  FeedTells' law: for every key, list of entries, time, floor, number and text the statement's function returns true, and changes nothing that was there.
-/
import Derived.Test.YtgagekcjdapkfacGreatDoorFeedTold
import Derived.Deep.DeepCutAuto
namespace Go.Proofs.YtgagekcjdapkfacGreatDoor
open Go.RowKit Go.Extern.Stop Go.Stop Go.Extern Go.Proofs

set_option maxRecDepth 100000 in
set_option maxHeartbeats 16000000 in
theorem tells_main (a : Nat → Addr) (key : Int) (v : Value) (l : List En) (time : Int) (f : Fl) (seq : Int) (s : ByteArray) (w : World) (h : Env a w) (hv : EnAt w v l) (hlong : longE l = false) (hf : ¬ 20 < f.who.size) (hn : ¬ 400 < s.size) :
    Calls Tryz.prog 4 #[.int .i64 key, v, .int .i64 time, f.val, .int .i64 seq, .string s] w fun e w' => e = .returned (.bool true) ∧ Below w.heap.size w w' := by
  have h61 := (longE_no hlong).1
  have hsm : ∀ e ∈ l, e.fl.who.size ≤ maxLen := fun e he => by have := (longE_no hlong).2 e he; unfold maxLen; omega
  have hfs : f.who.size ≤ maxLen := by unfold maxLen; omega
  have hss : s.size ≤ maxLen := by unfold maxLen; omega
  have HFed := hide (fun w h => fed_any a w h)
  have HLg := hide (fun w h => longEntries_any v l w h)
  rw [if_neg (by rw [hlong]; decide)] at HLg
  have HOw := hide (fun w h => ownEntries_any v l w h (by omega))
  -- what is asked of the program, at the own slice, and of the document's answer
  have HCk := hide (fun vo w h hv => fdCheck_any a vo l w h hv hsm (by omega))
  have HRk := hide (fun w h => refFeed_any v l w h hsm (by omega))
  have HAd := hide (fun vo w h hv => fdAdd_any a vo l time f w h hv hsm hfs (by omega))
  have HRa := hide (fun w h => refAdd_any v l time f w h hsm hfs (by omega))
  have HFl := hide (fun vo w h hv => floors_any a vo l w h hv hsm (by omega))
  have HRf := hide (fun w h => refFloors_any v l w h hsm (by omega))
  have HSi := hide (fun vo w h hv => since_any a vo l seq w h hv hsm (by omega))
  have HRs := hide (fun w h => refSince_any v l seq w h hsm (by omega))
  have HMk := hide (fun vo w h hv => fdMake_any a key vo l time w h hv hsm (by omega))
  have HTx := hide (fun e w' h => text_x (a := a) (key := key) (l := l) (time := time) (e := e) (w' := w') h)
  have HRm := hide (fun w h => refHead_any key v l time w h hsm (by omega))
  have HOp := hide (fun w h => fdOpen_any a key s w h)
  have HRo := hide (fun w => refOpenH_any key s w hss)
  have HSe := hide (fun r (hr : r.length ≤ 1000000) v1 v2 w h1 h2 => sameEntries_eq v1 v2 r w h1 h2 hr)
  have HSf := hide (fun v1 v2 w h1 h2 => sameFloors_eq v1 v2 (floorsR l) w h1 h2 (by have := (floors_right l).2; omega))
  have HFt : Hid (∀ c ev w, (c : Nat × Int).1 < 16 → (c.1 = 0 → c.2 = -1) → Errs a w → FlErr a w c ev → Calls Tryz.prog 21 #[ev, .agg #[.int .i64 (c.1 : Int), .int .i64 c.2]] w fun e w' => e = .returned (.bool true) ∧ Below w.heap.size w w') := fun c ev w h1 h2 h3 h4 => faulted_fl h3 h4 h1 h2
  have HCo : Hid (∀ w, Errs a w → Calls Tryz.prog 29 #[errV a (openHC key s.data.toList), .int .i64 (openHC key s.data.toList : Int)] w fun e w' => e = .returned (.bool true) ∧ Below w.heap.size w w') := fun w h => by
    have := coded_errV a (openHC key s.data.toList) (openHC_le _ _) (openHC key s.data.toList : Int) w h
    rwa [decide_eq_true rfl] at this
  have L1 : Hid ((feedC l).1 < 16 ∧ ((feedC l).1 = 0 → (feedC l).2 = -1)) := ⟨feed_lt l, feed_pl l⟩
  have L2 : Hid ((addC l time f).1 < 16 ∧ ((addC l time f).1 = 0 → (addC l time f).2 = -1)) := ⟨add_lt l time f, add_pl l time f⟩
  have L3 : Hid ((floorsC l).1 < 16 ∧ ((floorsC l).1 = 0 → (floorsC l).2 = -1)) := ⟨floors_lt l, floors_pl l⟩
  have L4 : Hid ((sinceC l seq).1 < 16 ∧ ((sinceC l seq).1 = 0 → (sinceC l seq).2 = -1)) := ⟨since_lt l seq, since_pl l seq⟩
  have L5 : Hid ((headC key l time).1 < 16 ∧ ((headC key l time).1 = 0 → (headC key l time).2 = -1)) := ⟨head_lt key l time, head_pl key l time⟩
  have R2 : Hid ((addR l time f).length ≤ 1000000) := Nat.le_trans (addR_len l time f) (by omega)
  have R4 : Hid ((sinceR l seq).length ≤ 1000000) := Nat.le_trans (sinceR_len l seq) (by omega)
  have R0 : Hid (l.length ≤ 1000000) := by show _ ≤ _; omega
  have HB0 : Hid (Below w.heap.size w (w.alloc (.cells #[.string f.who, .int .i64 f.ep] 24))) := (Below.refl _ _).alloc (Nat.le_refl _) _
  have HQ0 : Hid ((w.alloc (.cells #[.string f.who, .int .i64 f.ep] 24)).heap[w.heap.size]? = some (.cells #[.string f.who, .int .i64 f.ep] 24 (0, 0))) := heap_alloc_new _ _
  have HE : Hid (∀ w', Below w.heap.size w w' → Env a w') := fun w' hb => h.below hb
  have HV : Hid (∀ w', Below w.heap.size w w' → EnAt w' v l) := fun w' hb => hv.below hb
  have hfz : ¬ (20 : Int) < (f.who.size : Int) := by omega
  have hnz : ¬ (400 : Int) < (s.size : Int) := by omega
  unfold Fl.val at HAd HRa ⊢
  unfold Hd.val at HOp HRo
  clear h hv hlong hf hn hsm hfs hss h61
  generalize addR l time f = ar at *
  generalize addC l time f = ac at *
  generalize floorsR l = fr at *
  generalize floorsC l = fc at *
  generalize sinceR l seq = sr at *
  generalize sinceC l seq = sc at *
  generalize headX key l time = hx at *
  generalize headT key l time = hdt at *
  generalize headC key l time = hc at *
  generalize feedC l = lc at *
  generalize openHR key s.data.toList = ho at *
  generalize openHC key s.data.toList = oc at *
  generalize errV a oc = er at *
  generalize (oc : Int) = ocz at *
  generalize f.who = who at *
  generalize f.ep = ep at *
  go_enter Tryz.func4, Tryz.ntmps4
  go_wp2_with fail
  refine (HFed.out _ (HE.out _ HB0.out).f).mono ?_
  rintro e w1 ⟨rfl, hb⟩
  have HB1 : Hid (Below w.heap.size w w1) := HB0.out.trans (hb.mono HB0.out.size)
  have HQ1 : Hid (w1.heap[w.heap.size]? = some (.cells #[.string who, .int .i64 ep] 24 (0, 0))) := (hb.block _ (row_lt HQ0.out)).trans HQ0.out
  have c0 : w1.cell? ⟨w.heap.size, 0, none⟩ = some (.string who) := cell_of_row w1 _ 0 _ _ _ HQ1.out
  clear hb HB0 HQ0 HFed
  go_wp2_with fail
  refine (HLg.out _ (HV.out _ HB1.out)).mono ?_
  rintro e w2 ⟨rfl, rfl⟩
  go_wp2_with fail
  refine (HOw.out _ (HV.out _ HB1.out)).mono ?_
  rintro e wA ⟨vo, rfl, hown, hb⟩
  -- from here on all lies behind wA
  have HBA : Hid (∀ w', Below wA.heap.size wA w' → Below w.heap.size w w') := fun w' hb' => (HB1.out.trans (hb.mono HB1.out.size)).trans (hb'.mono (Nat.le_trans HB1.out.size hb.size))
  have HVo : Hid (∀ w', Below wA.heap.size wA w' → EnAt w' vo l) := fun w' hb' => hown.enAt.below hb'
  have HQ : Hid (∀ w', Below wA.heap.size wA w' → w'.cell? ⟨w.heap.size, 0, none⟩ = some (.string who) ∧ w'.cell? ⟨w.heap.size, 1, none⟩ = some (.int .i64 ep)) := fun w' hb' => by
    have hq : w'.heap[w.heap.size]? = some (.cells #[.string who, .int .i64 ep] 24 (0, 0)) := (hb'.block _ (Nat.lt_of_lt_of_le (row_lt HQ1.out) hb.size)).trans ((hb.block _ (row_lt HQ1.out)).trans HQ1.out)
    exact ⟨cell_of_row w' _ 0 _ _ _ hq, cell_of_row w' _ 1 _ _ _ hq⟩
  clear hown hb HB1 HQ1 c0 HOw HLg
  -- Check
  have BA : Hid (Below wA.heap.size wA wA) := Below.refl _ _
  go_wp2_with fail
  refine (HCk.out _ _ (HE.out _ (HBA.out _ BA.out)).f.errs (HVo.out _ BA.out)).mono ?_
  rintro e w3 ⟨ev3, rfl, he, hb⟩
  have B3 := hide hb
  have E3 := hide he
  clear hb he HCk BA hfz hnz
  go_wp2_with fail
  refine (HRk.out _ (HV.out _ (HBA.out _ B3.out))).mono ?_
  rintro e w4 ⟨rfl, hb⟩
  have B4 : Hid (Below wA.heap.size wA w4) := B3.out.trans (hb.mono B3.out.size)
  have E4 := hide (E3.out.below hb)
  unfold fltV
  clear hb E3 B3 HRk
  go_wp2_with fail
  refine (HFt.out lc ev3 _ L1.out.1 L1.out.2 (HE.out _ (HBA.out _ B4.out)).errs E4.out).mono ?_
  rintro e w5 ⟨rfl, hb⟩
  have B5 : Hid (Below wA.heap.size wA w5) := B4.out.trans (hb.mono B4.out.size)
  clear hb E4 B4 L1
  -- Add
  obtain ⟨q0, q1⟩ := HQ.out _ B5.out
  go_wp2_with fail
  refine (HAd.out _ _ (HE.out _ (HBA.out _ B5.out)).f.errs (HVo.out _ B5.out)).mono ?_
  rintro e w6 ⟨⟨vx, evx, rfl, hown, herr, hnil⟩, hb⟩
  have B6 : Hid (Below wA.heap.size wA w6) := B5.out.trans (hb.mono B5.out.size)
  have X6 := hide hown.enAt
  have E6 := hide herr
  clear hb hown herr hnil HAd B5 q0 q1
  obtain ⟨q0, q1⟩ := HQ.out _ B6.out
  go_wp2_with fail
  refine (HRa.out _ (HV.out _ (HBA.out _ B6.out))).mono ?_
  rintro e w7 ⟨⟨vw, rfl, henw⟩, hb⟩
  have B7 : Hid (Below wA.heap.size wA w7) := B6.out.trans (hb.mono B6.out.size)
  have X7 := hide (X6.out.below hb)
  have E7 := hide (E6.out.below hb)
  have Y7 := hide henw
  clear hb henw HRa B6 X6 E6 q0 q1
  unfold fltV
  have B8 : Hid (Below wA.heap.size wA (w7.alloc (fltO (ac.1 : Int) ac.2))) := B7.out.alloc B7.out.size _
  have X8 : Hid (EnAt (w7.alloc (fltO (ac.1 : Int) ac.2)) vx ar) := X7.out.below ((Below.refl _ _).alloc (Nat.le_refl _) _)
  have Y8 : Hid (EnAt (w7.alloc (fltO (ac.1 : Int) ac.2)) vw ar) := Y7.out.below ((Below.refl _ _).alloc (Nat.le_refl _) _)
  have E8 : Hid (FlErr a (w7.alloc (fltO (ac.1 : Int) ac.2)) ac evx) := E7.out.below ((Below.refl _ _).alloc (Nat.le_refl _) _)
  have G8 : Hid ((w7.alloc (fltO (ac.1 : Int) ac.2)).heap[w7.heap.size]? = some (fltO (ac.1 : Int) ac.2)) := heap_alloc_new _ _
  have HLg8 : Hid (wA.heap.size ≤ w7.heap.size) := B7.out.size
  go_upto_region 9 with fail
  obtain ⟨W8, hW8⟩ : ∃ W, w7.alloc (.cells #[.int .i64 (ac.1 : Int), .int .i64 ac.2] 49) = W := ⟨_, rfl⟩
  rw [hW8] at B8 X8 Y8 E8 G8 ⊢
  generalize hgb : w7.heap.size = gb at *
  clear hW8 hgb B7 X7 E7 Y7
  obtain ⟨g0, g1, z0, z1⟩ := flt_row G8.out
  go_wp2_with fail
  refine (HFt.out ac evx _ L2.out.1 L2.out.2 (HE.out _ (HBA.out _ B8.out)).errs E8.out).mono ?_
  rintro e w9 ⟨rfl, hb⟩
  have B9 : Hid (Below wA.heap.size wA w9) := B8.out.trans (hb.mono B8.out.size)
  have X9 := hide (X8.out.below hb)
  have Y9 := hide (Y8.out.below hb)
  have G9 : Hid (w9.heap[gb]? = some (fltO (ac.1 : Int) ac.2)) := (hb.block _ (row_lt G8.out)).trans G8.out
  clear hb B8 X8 Y8 E8 G8 L2 g0 g1 z0 z1
  go_wp2_with fail
  refine (HSe.out ar R2.out _ _ _ X9.out Y9.out).mono ?_
  rintro e w10 ⟨rfl, hb⟩
  have B10 : Hid (Below wA.heap.size wA w10) := B9.out.trans (hb.mono B9.out.size)
  have G10 : Hid (w10.heap[gb]? = some (fltO (ac.1 : Int) ac.2)) := (hb.block _ (row_lt G9.out)).trans G9.out
  clear hb B9 X9 Y9 G9 R2
  -- Floors
  go_wp2_with fail
  refine (HFl.out _ _ (HE.out _ (HBA.out _ B10.out)).f.errs (HVo.out _ B10.out)).mono ?_
  rintro e w11 ⟨⟨vy, evy, rfl, hown, herr, hnil⟩, hb⟩
  have B11 : Hid (Below wA.heap.size wA w11) := B10.out.trans (hb.mono B10.out.size)
  have G11 : Hid (w11.heap[gb]? = some (fltO (ac.1 : Int) ac.2)) := (hb.block _ (row_lt G10.out)).trans G10.out
  have X11 := hide hown.flAt
  have E11 := hide herr
  clear hb hown herr hnil HFl B10 G10
  go_wp2_with fail
  refine (HRf.out _ (HV.out _ (HBA.out _ B11.out))).mono ?_
  rintro e w12 ⟨⟨vz, rfl, hfl⟩, hb⟩
  have B12 : Hid (Below wA.heap.size wA w12) := B11.out.trans (hb.mono B11.out.size)
  have G12 : Hid (w12.heap[gb]? = some (fltO (ac.1 : Int) ac.2)) := (hb.block _ (row_lt G11.out)).trans G11.out
  have X12 := hide (X11.out.below hb)
  have E12 := hide (E11.out.below hb)
  have Y12 := hide hfl
  clear hb hfl HRf B11 G11 X11 E11
  unfold fltV
  obtain ⟨g0, g1, z0, z1⟩ := flt_row G12.out
  have G13 : Hid (((w12.setCell ⟨gb, 0, none⟩ (.int .i64 (fc.1 : Int))).setCell ⟨gb, 1, none⟩ (.int .i64 fc.2)).heap[gb]? = some (fltO (fc.1 : Int) fc.2)) := (flt_set B12.out HLg8.out G12.out (.int .i64 (fc.1 : Int)) (.int .i64 fc.2)).1
  have B13 : Hid (Below wA.heap.size wA ((w12.setCell ⟨gb, 0, none⟩ (.int .i64 (fc.1 : Int))).setCell ⟨gb, 1, none⟩ (.int .i64 fc.2))) := (flt_set B12.out HLg8.out G12.out (.int .i64 (fc.1 : Int)) (.int .i64 fc.2)).2
  have X13 : Hid (FlAt ((w12.setCell ⟨gb, 0, none⟩ (.int .i64 (fc.1 : Int))).setCell ⟨gb, 1, none⟩ (.int .i64 fc.2)) vy fr) := X12.out.past G12.out _ _
  have Y13 : Hid (FlAt ((w12.setCell ⟨gb, 0, none⟩ (.int .i64 (fc.1 : Int))).setCell ⟨gb, 1, none⟩ (.int .i64 fc.2)) vz fr) := Y12.out.past G12.out _ _
  have E13 : Hid (FlErr a ((w12.setCell ⟨gb, 0, none⟩ (.int .i64 (fc.1 : Int))).setCell ⟨gb, 1, none⟩ (.int .i64 fc.2)) fc evy) := flErr_past E12.out G12.out _ _
  go_upto_region 13 with fail
  obtain ⟨W13, hW13⟩ : ∃ W, ((w12.setCell ⟨gb, 0, none⟩ (.int .i64 (fc.1 : Int))).setCell ⟨gb, 1, none⟩ (.int .i64 fc.2)) = W := ⟨_, rfl⟩
  rw [hW13] at B13 X13 Y13 E13 G13 ⊢
  clear hW13 B12 G12 X12 E12 Y12 g0 g1 z0 z1
  obtain ⟨g0, g1, _, _⟩ := flt_row G13.out
  go_wp2_with fail
  refine (HFt.out fc evy _ L3.out.1 L3.out.2 (HE.out _ (HBA.out _ B13.out)).errs E13.out).mono ?_
  rintro e w14 ⟨rfl, hb⟩
  have B14 : Hid (Below wA.heap.size wA w14) := B13.out.trans (hb.mono B13.out.size)
  have X14 := hide (X13.out.below hb)
  have Y14 := hide (Y13.out.below hb)
  have G14 : Hid (w14.heap[gb]? = some (fltO (fc.1 : Int) fc.2)) := (hb.block _ (row_lt G13.out)).trans G13.out
  clear hb B13 X13 Y13 E13 G13 L3 g0 g1
  go_wp2_with fail
  refine (HSf.out _ _ _ X14.out Y14.out).mono ?_
  rintro e w15 ⟨rfl, hb⟩
  have B15 : Hid (Below wA.heap.size wA w15) := B14.out.trans (hb.mono B14.out.size)
  have G15 : Hid (w15.heap[gb]? = some (fltO (fc.1 : Int) fc.2)) := (hb.block _ (row_lt G14.out)).trans G14.out
  clear hb B14 X14 Y14 G14 HSf
  -- Since
  go_wp2_with fail
  refine (HSi.out _ _ (HE.out _ (HBA.out _ B15.out)).f.errs (HVo.out _ B15.out)).mono ?_
  rintro e w16 ⟨⟨vs, evs, rfl, hown, herr, hnil⟩, hb⟩
  have B16 : Hid (Below wA.heap.size wA w16) := B15.out.trans (hb.mono B15.out.size)
  have G16 : Hid (w16.heap[gb]? = some (fltO (fc.1 : Int) fc.2)) := (hb.block _ (row_lt G15.out)).trans G15.out
  have X16 := hide hown.enAt
  have E16 := hide herr
  clear hb hown herr hnil HSi B15 G15
  go_wp2_with fail
  refine (HRs.out _ (HV.out _ (HBA.out _ B16.out))).mono ?_
  rintro e w17 ⟨⟨vt, rfl, hen⟩, hb⟩
  have B17 : Hid (Below wA.heap.size wA w17) := B16.out.trans (hb.mono B16.out.size)
  have G17 : Hid (w17.heap[gb]? = some (fltO (fc.1 : Int) fc.2)) := (hb.block _ (row_lt G16.out)).trans G16.out
  have X17 := hide (X16.out.below hb)
  have E17 := hide (E16.out.below hb)
  have Y17 := hide hen
  clear hb hen HRs B16 G16 X16 E16
  unfold fltV
  obtain ⟨g0, g1, z0, z1⟩ := flt_row G17.out
  have G18 : Hid (((w17.setCell ⟨gb, 0, none⟩ (.int .i64 (sc.1 : Int))).setCell ⟨gb, 1, none⟩ (.int .i64 sc.2)).heap[gb]? = some (fltO (sc.1 : Int) sc.2)) := (flt_set B17.out HLg8.out G17.out (.int .i64 (sc.1 : Int)) (.int .i64 sc.2)).1
  have B18 : Hid (Below wA.heap.size wA ((w17.setCell ⟨gb, 0, none⟩ (.int .i64 (sc.1 : Int))).setCell ⟨gb, 1, none⟩ (.int .i64 sc.2))) := (flt_set B17.out HLg8.out G17.out (.int .i64 (sc.1 : Int)) (.int .i64 sc.2)).2
  have X18 : Hid (EnAt ((w17.setCell ⟨gb, 0, none⟩ (.int .i64 (sc.1 : Int))).setCell ⟨gb, 1, none⟩ (.int .i64 sc.2)) vs sr) := X17.out.past G17.out _ _
  have Y18 : Hid (EnAt ((w17.setCell ⟨gb, 0, none⟩ (.int .i64 (sc.1 : Int))).setCell ⟨gb, 1, none⟩ (.int .i64 sc.2)) vt sr) := Y17.out.past G17.out _ _
  have E18 : Hid (FlErr a ((w17.setCell ⟨gb, 0, none⟩ (.int .i64 (sc.1 : Int))).setCell ⟨gb, 1, none⟩ (.int .i64 sc.2)) sc evs) := flErr_past E17.out G17.out _ _
  go_upto_region 17 with fail
  obtain ⟨W18, hW18⟩ : ∃ W, ((w17.setCell ⟨gb, 0, none⟩ (.int .i64 (sc.1 : Int))).setCell ⟨gb, 1, none⟩ (.int .i64 sc.2)) = W := ⟨_, rfl⟩
  rw [hW18] at B18 X18 Y18 E18 G18 ⊢
  clear hW18 B17 G17 X17 E17 Y17 g0 g1 z0 z1
  obtain ⟨g0, g1, _, _⟩ := flt_row G18.out
  go_wp2_with fail
  refine (HFt.out sc evs _ L4.out.1 L4.out.2 (HE.out _ (HBA.out _ B18.out)).errs E18.out).mono ?_
  rintro e w19 ⟨rfl, hb⟩
  have B19 : Hid (Below wA.heap.size wA w19) := B18.out.trans (hb.mono B18.out.size)
  have X19 := hide (X18.out.below hb)
  have Y19 := hide (Y18.out.below hb)
  have G19 : Hid (w19.heap[gb]? = some (fltO (sc.1 : Int) sc.2)) := (hb.block _ (row_lt G18.out)).trans G18.out
  clear hb B18 X18 Y18 E18 G18 L4 g0 g1
  go_wp2_with fail
  refine (HSe.out sr R4.out _ _ _ X19.out Y19.out).mono ?_
  rintro e w20 ⟨rfl, hb⟩
  have B20 : Hid (Below wA.heap.size wA w20) := B19.out.trans (hb.mono B19.out.size)
  have G20 : Hid (w20.heap[gb]? = some (fltO (sc.1 : Int) sc.2)) := (hb.block _ (row_lt G19.out)).trans G19.out
  clear hb B19 X19 Y19 G19 R4
  -- Make
  go_wp2_with fail
  refine (HMk.out _ _ (HE.out _ (HBA.out _ B20.out)).f (HVo.out _ B20.out)).mono ?_
  rintro e w21 ⟨hp, hb⟩
  obtain ⟨evm, rfl, herr⟩ := HTx.out _ _ hp
  have B21 : Hid (Below wA.heap.size wA w21) := B20.out.trans (hb.mono B20.out.size)
  have G21 : Hid (w21.heap[gb]? = some (fltO (sc.1 : Int) sc.2)) := (hb.block _ (row_lt G20.out)).trans G20.out
  have E21 := hide herr
  clear hb hp herr HMk HTx B20 G20
  go_wp2_with fail
  refine (HRm.out _ (HV.out _ (HBA.out _ B21.out))).mono ?_
  rintro e w22 ⟨rfl, hb⟩
  have B22 : Hid (Below wA.heap.size wA w22) := B21.out.trans (hb.mono B21.out.size)
  have G22 : Hid (w22.heap[gb]? = some (fltO (sc.1 : Int) sc.2)) := (hb.block _ (row_lt G21.out)).trans G21.out
  have E22 := hide (E21.out.below hb)
  clear hb HRm B21 G21 E21
  unfold fltV
  obtain ⟨g0, g1, z0, z1⟩ := flt_row G22.out
  have G23 : Hid (((w22.setCell ⟨gb, 0, none⟩ (.int .i64 (hc.1 : Int))).setCell ⟨gb, 1, none⟩ (.int .i64 hc.2)).heap[gb]? = some (fltO (hc.1 : Int) hc.2)) := (flt_set B22.out HLg8.out G22.out (.int .i64 (hc.1 : Int)) (.int .i64 hc.2)).1
  have B23 : Hid (Below wA.heap.size wA ((w22.setCell ⟨gb, 0, none⟩ (.int .i64 (hc.1 : Int))).setCell ⟨gb, 1, none⟩ (.int .i64 hc.2))) := (flt_set B22.out HLg8.out G22.out (.int .i64 (hc.1 : Int)) (.int .i64 hc.2)).2
  have E23 : Hid (FlErr a ((w22.setCell ⟨gb, 0, none⟩ (.int .i64 (hc.1 : Int))).setCell ⟨gb, 1, none⟩ (.int .i64 hc.2)) hc evm) := flErr_past E22.out G22.out _ _
  go_upto_region 21 with fail
  obtain ⟨W23, hW23⟩ : ∃ W, ((w22.setCell ⟨gb, 0, none⟩ (.int .i64 (hc.1 : Int))).setCell ⟨gb, 1, none⟩ (.int .i64 hc.2)) = W := ⟨_, rfl⟩
  rw [hW23] at B23 E23 G23 ⊢
  clear hW23 B22 G22 E22 g0 g1 z0 z1
  obtain ⟨g0, g1, _, _⟩ := flt_row G23.out
  have hqq : (hx.toList == hx.toList) = true := by simp
  go_wp2_with fail
  refine (HFt.out hc evm _ L5.out.1 L5.out.2 (HE.out _ (HBA.out _ B23.out)).errs E23.out).mono ?_
  rintro e w24 ⟨rfl, hb⟩
  have B24 : Hid (Below wA.heap.size wA w24) := B23.out.trans (hb.mono B23.out.size)
  clear hb B23 E23 G23 L5 g0 g1
  -- Open
  go_wp2_with fail
  refine (HOp.out _ (HE.out _ (HBA.out _ B24.out)).f).mono ?_
  rintro e w25 ⟨rfl, hb⟩
  have B25 : Hid (Below wA.heap.size wA w25) := B24.out.trans (hb.mono B24.out.size)
  clear hb HOp B24
  have B26 : Hid (Below wA.heap.size wA (w25.alloc (hdO ho))) := B25.out.alloc B25.out.size _
  have P26 : Hid ((w25.alloc (hdO ho)).heap[w25.heap.size]? = some (hdO ho)) := heap_alloc_new _ _
  go_upto_region 24 with fail
  obtain ⟨W26, hW26⟩ : ∃ W, w25.alloc (.cells #[.int .i64 ho.n, .int .i64 ho.t, .int .i64 ho.s] 36) = W := ⟨_, rfl⟩
  rw [hW26] at B26 P26 ⊢
  generalize hgh : w25.heap.size = gh at *
  clear hW26 hgh B25
  go_wp2_with fail
  refine (HRo.out _).mono ?_
  rintro e w27 ⟨rfl, hb⟩
  have B27 : Hid (Below wA.heap.size wA w27) := B26.out.trans (hb.mono B26.out.size)
  have P27 : Hid (w27.heap[gh]? = some (hdO ho)) := (hb.block _ (row_lt P26.out)).trans P26.out
  clear hb HRo B26 P26
  have B28 : Hid (Below wA.heap.size wA (w27.alloc (rhO ho))) := B27.out.alloc B27.out.size _
  have P28 : Hid ((w27.alloc (rhO ho)).heap[gh]? = some (hdO ho)) := (heap_alloc_old w27 _ (row_lt P27.out)).trans P27.out
  have O28 : Hid ((w27.alloc (rhO ho)).heap[w27.heap.size]? = some (rhO ho)) := heap_alloc_new _ _
  go_upto_region 25 with fail
  obtain ⟨W28, hW28⟩ : ∃ W, w27.alloc (.cells #[.int .i64 ho.n, .int .i64 ho.t, .int .i64 ho.s] 59) = W := ⟨_, rfl⟩
  rw [hW28] at B28 P28 O28 ⊢
  generalize hgk : w27.heap.size = gk at *
  clear hW28 hgk B27 P27
  go_wp2_with fail
  refine (HCo.out _ (HE.out _ (HBA.out _ B28.out)).errs).mono ?_
  rintro e w29 ⟨rfl, hb⟩
  have B29 : Hid (Below wA.heap.size wA w29) := B28.out.trans (hb.mono B28.out.size)
  obtain ⟨p0, p1, p2, _⟩ := row_cells ((hb.block _ (row_lt P28.out)).trans P28.out)
  obtain ⟨o0, o1, o2, _⟩ := row_cells ((hb.block _ (row_lt O28.out)).trans O28.out)
  clear hb HCo B28 P28 O28
  generalize ho.n = hn at *
  generalize ho.t = ht at *
  generalize ho.s = hs at *
  go_wp2_with fail
  refine (HSe.out l R0.out _ _ _ (HVo.out _ B29.out) (HV.out _ (HBA.out _ B29.out))).mono ?_
  rintro e w30 ⟨rfl, hb⟩
  have B30 : Hid (Below wA.heap.size wA w30) := B29.out.trans (hb.mono B29.out.size)
  clear hb
  go_wp2
  go_ret
  exact ⟨rfl, HBA.out _ B30.out⟩

theorem feedTells_law (a : Nat → Addr) (key : Int) (v : Value) (l : List En) (time : Int) (f : Fl) (seq : Int) (s : ByteArray) (w : World) (h : Env a w) (hv : EnAt w v l) :
    Calls Tryz.prog 4 #[.int .i64 key, v, .int .i64 time, f.val, .int .i64 seq, .string s] w fun e w' => e = .returned (.bool true) ∧ Below w.heap.size w w' := by
  cases hE : earlyT l f.who s with
  | true => exact tells_early a key v l time f seq s w h.f hv hE
  | false =>
    unfold earlyT at hE
    simp only [Bool.or_eq_false_iff, decide_eq_false_iff_not] at hE
    obtain ⟨⟨h1, h2⟩, h3⟩ := hE
    exact tells_main a key v l time f seq s w h hv h1 h2 h3
end Go.Proofs.YtgagekcjdapkfacGreatDoor

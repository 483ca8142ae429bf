/-
  What the document's answer's AddEntry gives: the entries with one more, and a fault; for every list.
-/
import Derived.Test.YtabpnjchocgakaaGreatDoorPk11
namespace Go.Proofs.YtabpnjchocgakaaGreatDoor
open Go.RowKit Go.Extern.Stop Go.Stop Go.Extern Go.Proofs
theorem OwnE.set {w : World} {B : Nat} {v : Value} {l : List En} (h : OwnE w B v l) {g : Nat} (hg : g < B) (y z : Value) : OwnE ((w.setCell ⟨g, 0, none⟩ y).setCell ⟨g, 0 + 1, none⟩ z) B v l :=
 h.keep (fun q hq => by
  have := (h.lt q hq).1
  rw [heap_setCell_other _ _ _ _ (show q ≠ g by omega), heap_setCell_other _ _ _ _ (show q ≠ g by omega)])
def FdPostO (c : Nat × Int) (r : List En) (w w' : World) (e : Ending) : Prop := (∃ v', e = .returned (.tuple #[v', fltV c]) ∧ OwnE w' w.heap.size v' r) ∧ Below w.heap.size w w'
set_option maxRecDepth 100000 in
set_option maxHeartbeats 8000000 in
theorem refAdd_own (v : Value) (l : List En) (time : Int) (f : Fl) (w : World) (hv : EnAt w v l) (hs : ∀ e ∈ l, e.fl.who.size ≤ maxLen) (hfs : f.who.size ≤ maxLen) (hl : l.length ≤ 100000) :
  Calls Tryz.prog 134 #[v, .int .i64 time, f.val] w fun e w' => FdPostO (addC l time f) (addR l time f) w w' e := by
 have HB0 : Hid (Below w.heap.size w ((w.alloc (.cells #[.string f.who, .int .i64 f.ep] 112)).alloc flt0)) := ((Below.refl _ _).alloc (Nat.le_refl _) _).alloc (by simp) _
 have HQ0 : Hid (((w.alloc (.cells #[.string f.who, .int .i64 f.ep] 112)).alloc flt0).heap[w.heap.size]? = some (.cells #[.string f.who, .int .i64 f.ep] 112 (0, 0))) := (heap_alloc_old _ _ (by simp)).trans (heap_alloc_new _ _)
 have HR0 : Hid (((w.alloc (.cells #[.string f.who, .int .i64 f.ep] 112)).alloc flt0).heap[w.heap.size + 1]? = some flt0) := by
  have := heap_alloc_new (w.alloc (.cells #[.string f.who, .int .i64 f.ep] 112)) flt0
  rwa [World.size_alloc] at this
 have HFF := hide (fun w h => refFeed_any v l w h hs (by omega))
 have HEn := hide (fun w => refEnt_any ⟨(l.length : Int) + 1, time, f⟩ l.length (newL l) w hfs (by omega))
 have HBare := hide (fun c w => bare_any c w)
 have HFine := hide (fun w => fine_any w)
 have HV := hide hv
 have HAC : Hid (addC l time f = if (feedC l).1 = 0 then (newE l time f, -1) else feedC l) := rfl
 have HAR : Hid (addR l time f = if (addC l time f).1 = 0 then addL l time f else []) := rfl
 have HNE : Hid (newE l time f = if 60 ≤ l.length then 7 else entE l.length (newL l) ⟨(l.length : Int) + 1, time, f⟩) := rfl
 have hcz : ((feedC l).1 = 0 ∧ ((feedC l).1 : Int) = 0 ∧ (feedC l).2 = -1) ∨ ((feedC l).1 ≠ 0 ∧ (0 : Int) < ((feedC l).1 : Int)) := by
  by_cases h : (feedC l).1 = 0
  ·
   exact Or.inl ⟨h, by omega, by rw [feed_ok h]⟩
  ·
   exact Or.inr ⟨h, by omega⟩
 have HLast : Hid (∀ W, Below w.heap.size w W → (l.length = 0 ∧ newL l = 0) ∨ ∃ m b off cap, l.length = m + 1 ∧ v = .slice (some ⟨b, off, none⟩) l.length cap ∧ W.cell? ⟨b, off + m * 4 + 1, none⟩ = some (.int .i64 (newL l))) := fun W hb => by
  by_cases hn : 0 < l.length
  ·
   obtain ⟨m, hm⟩ : ∃ m, l.length = m + 1 := ⟨l.length - 1, by omega⟩
   obtain ⟨b, off, cap, e, _, _, _, hcell⟩ := (hv.below hb).at hn
   exact Or.inr ⟨m, b, off, cap, hm, e, by rw [newL_last hm]; exact (hcell m (by omega)).2.1⟩
  ·
   exact Or.inl ⟨by omega, by rw [List.length_eq_zero_iff.1 (show l.length = 0 by omega)]; rfl⟩
 have HOw : Hid (∀ {w : World} {B : Nat} {v : Value}, w.ownsRow B 114 4 v (l.length + 1) (cellsE l ++ [.int .i64 ((l.length : Int) + 1), .int .i64 time, .string f.who, .int .i64 f.ep]) → OwnE w B v (addL l time f)) := fun h => own_add rfl h
 obtain ⟨i0, hi, hz0, hz1, hz2⟩ := info_parts Tryz.infoEntry
 obtain ⟨ad, cap, rfl, hcap⟩ := hv.form
 unfold En.val at HEn
 unfold Fl.val
 clear hv hs hfs
 generalize addC l time f = ac at *
 generalize addR l time f = ar at *
 generalize addL l time f = al at *
 generalize newE l time f = ne at *
 generalize entE l.length (newL l) _ = ee at *
 generalize newL l = nw at *
 dsimp only at HEn
 generalize hn : l.length = n at *
 have HN := hide hn
 clear hn
 generalize f.who = who at *
 generalize f.ep = ep at *
 go_enter Tryz.func134, Tryz.ntmps134
 go_wp2_with fail
 refine (HFF.out _ (HV.out.below HB0.out)).mono ?_
 rintro e w1 ⟨rfl, hb⟩
 have HB1 : Hid (Below w.heap.size w w1) := HB0.out.trans (hb.mono HB0.out.size)
 have HR1 : Hid (w1.heap[w.heap.size + 1]? = some flt0) := (hb.block _ (row_lt HR0.out)).trans HR0.out
 have HQ1 : Hid (w1.heap[w.heap.size]? = some (.cells #[.string who, .int .i64 ep] 112 (0, 0))) := (hb.block _ (row_lt HQ0.out)).trans HQ0.out
 unfold fltV
 clear hb HB0 HR0 HQ0 HFF
 have HFc := hide hcz
 generalize hfz : ((feedC l).1 : Int) = fz at *
 generalize hfa : (feedC l).2 = fa at *
 have HFz := hide hfz
 have HFa := hide hfa
 clear hfz hfa
 have HB2 : Hid (Below w.heap.size w (w1.alloc (fltO fz fa))) := HB1.out.alloc HB1.out.size _
 have HR2 : Hid ((w1.alloc (fltO fz fa)).heap[w.heap.size + 1]? = some flt0) := (heap_alloc_old w1 _ (row_lt HR1.out)).trans HR1.out
 have HQ2 : Hid ((w1.alloc (fltO fz fa)).heap[w.heap.size]? = some (.cells #[.string who, .int .i64 ep] 112 (0, 0))) := (heap_alloc_old w1 _ (row_lt HQ1.out)).trans HQ1.out
 have HG2 : Hid ((w1.alloc (fltO fz fa)).heap[w1.heap.size]? = some (fltO fz fa)) := heap_alloc_new _ _
 go_upto_region 2 with fail
 obtain ⟨W2, hW2⟩ : ∃ W, w1.alloc (.cells #[.int .i64 fz, .int .i64 fa] 98) = W := ⟨_, rfl⟩
 rw [hW2] at HB2 HR2 HQ2 HG2 ⊢
 generalize hgb : w1.heap.size = gb at *
 clear hW2 hgb HB1 HR1 HQ1
 obtain ⟨g0, g1, _, _⟩ := flt_row HG2.out
 obtain ⟨c0, c1, z0, z1⟩ := flt_row HR2.out
 rcases HFc.out with ⟨h0, hz, ha⟩ | ⟨h0, hz⟩
 ·
  subst hz
  subst ha
  rw [if_pos h0] at HAC
  clear h0 HFc HFz HFa
  by_cases h60 : 60 ≤ n
  ·
   rw [if_pos h60] at HNE
   have HRes : Hid (ac = (7, -1)) := by show _ = _; rw [HAC.out, HNE.out]
   have h60z : (60 : Int) ≤ (n : Int) := by omega
   clear HAC HNE
   go_wp2_with fail
   refine (HBare.out 7 _).mono ?_
   rintro e w3 ⟨rfl, hb⟩
   have HB3 : Hid (Below w.heap.size w w3) := HB2.out.trans (hb.mono HB2.out.size)
   have HR3 : Hid (w3.heap[w.heap.size + 1]? = some flt0) := (hb.block _ (row_lt HR2.out)).trans HR2.out
   clear hb c0 c1 z0 z1 g0 g1
   obtain ⟨c0, c1, z0, z1⟩ := flt_row HR3.out
   go_wp2
   obtain ⟨e1, e2⟩ := flt_set HB3.out (Nat.le_succ _) HR3.out (.int .i64 7) (.int .i64 (-1))
   refine fltEnd2 rfl (w.heap.size + 1) _ rfl e1 rfl rfl ?_
   exact ⟨⟨_, by rw [HRes.out]; rfl, by rw [HAR.out, HRes.out]; exact OwnE.nil _ _⟩, e2⟩
  ·
   rw [if_neg h60] at HNE
   have h60z : ¬ (60 : Int) ≤ (n : Int) := by omega
   have hw1 : IntKind.i64.wrap ((n : Int) + 1) = (n : Int) + 1 := by rw [IntKind.wrap_i64]; omega
   have q0 : W2.cell? ⟨w.heap.size, 0, none⟩ = some (.string who) := cell_of_row W2 _ 0 _ _ _ HQ2.out
   have q1 : W2.cell? ⟨w.heap.size, 1, none⟩ = some (.int .i64 ep) := cell_of_row W2 _ 1 _ _ _ HQ2.out
   go_upto_if 25 with fail
   go_cut [9] (fun s9 wc => s9 = .int .i64 nw ∧ W2 = wc)
   case first =>
    rcases HLast.out W2 HB2.out with ⟨hn0, hnw⟩ | ⟨m, b, off, cap', hm, hvv, hcl⟩
    ·
     have HNw := hide hnw
     have hnz : ¬ (0 : Int) < (n : Int) := by omega
     clear hnw hn0
     go_wp2
     go_meet
     exact ⟨by rw [HNw.out], rfl⟩
    ·
     injection hvv with v1 v2 v3
     subst v1; subst v3
     subst hm
     go_wp2
     go_meet
     exact ⟨rfl, rfl⟩
   case rest =>
    obtain ⟨rfl, rfl⟩ := hcut
    clear HLast g0 g1 c0 c1 z0 z1 HG2
    have HB3 : Hid (Below w.heap.size w (W2.alloc (.cells #[.int .i64 ((n : Int) + 1), .int .i64 time, .string who, .int .i64 ep] 114))) := HB2.out.alloc HB2.out.size _
    have HR3 : Hid ((W2.alloc (.cells #[.int .i64 ((n : Int) + 1), .int .i64 time, .string who, .int .i64 ep] 114)).heap[w.heap.size + 1]? = some flt0) := (heap_alloc_old W2 _ (row_lt HR2.out)).trans HR2.out
    have HX3 : Hid ((W2.alloc (.cells #[.int .i64 ((n : Int) + 1), .int .i64 time, .string who, .int .i64 ep] 114)).heap[W2.heap.size]? = some (.cells #[.int .i64 ((n : Int) + 1), .int .i64 time, .string who, .int .i64 ep] 114 (0, 0))) := heap_alloc_new _ _
    have HLx : Hid (w.heap.size + 1 < W2.heap.size) := row_lt HR2.out
    go_wp2_with fail
    refine (HEn.out _).mono ?_
    rintro e w4 ⟨rfl, hb⟩
    have HB4 : Hid (Below w.heap.size w w4) := HB3.out.trans (hb.mono HB3.out.size)
    have HR4 : Hid (w4.heap[w.heap.size + 1]? = some flt0) := (hb.block _ (row_lt HR3.out)).trans HR3.out
    have HX4 : Hid (w4.heap[W2.heap.size]? = some (.cells #[.int .i64 ((n : Int) + 1), .int .i64 time, .string who, .int .i64 ep] 114 (0, 0))) := (hb.block _ (row_lt HX3.out)).trans HX3.out
    generalize hgx : W2.heap.size = gx at *
    clear hb HEn HB3 HR3 HX3 HB2 HR2 HQ2 q0 q1 hgx
    have hee : (ee = 0 ∧ (ee : Int) = 0) ∨ (ee ≠ 0 ∧ (0 : Int) < (ee : Int)) := by omega
    rcases hee with ⟨he, hez⟩ | ⟨he, hez⟩
    ·
     subst he
     have HRes : Hid (ac = (0, -1)) := by show _ = _; rw [HAC.out, HNE.out]
     have HArr : Hid (ar = al) := by show _ = _; rw [HAR.out, HRes.out, if_pos rfl]
     clear HAC HNE HAR hez
     go_upto_region 14 with fail
     go_cut [12] (fun s12 wc => Hid (wc.ownsRow w4.heap.size 114 4 s12 n (cellsE l)) ∧ Hid (Below w4.heap.size w4 wc))
     case first =>
      have HEnd : Hid (∀ v' w5, w5.ownsRow w4.heap.size 114 4 v' (0 + n) ([] ++ cellsE l) → w4.grownBy w5 (Value.slice none 0 0).ownBlock → w5.ownsRow w4.heap.size 114 4 v' n (cellsE l) ∧ Below w4.heap.size w4 w5) := fun v' w5 h1 h2 =>
       ⟨by simpa using h1, (Below.refl _ w4).grown h2 (Nat.le_refl _) (fun k hk => by cases hk)⟩
      rcases HV.out.below HB4.out with ⟨ad', cap', hvv, hl0⟩ | ⟨b, off, cap', hvv, hc, hcell⟩
      ·
       injection hvv with v1 v2 v3
       subst v1; subst v2; subst v3
       subst hl0
       cases ad with
       | none =>
        have hno : ∀ ty c, (Builtin.append_ #[38, 38] ty #[.slice none 0 0, .slice none 0 c]).run Tryz.prog w4 = .ok (.slice none 0 0) w4 := fun ty c => by kernel_rfl
        go_wp2_with (at_builtin; refine Lib.wpList_append_run _ rfl _ _ _ _ rfl _ _ rfl rfl _ _ (hno _ _) ?_)
        go_meet
        exact ⟨World.ownsRow_nil _ _ _ _, Below.refl _ _⟩
       | some ad =>
        go_wp2_with (at_builtin; refine wpList_append_own _ rfl _ _ 38 rfl w4.heap.size 114 i0 _ 4 40 Tryz.underlying38 hi hz0 hz1 hz2 rfl (by decide) _ _ _ rfl (World.ownsRow_nil _ _ _ _) ad 0 cap [] rfl rfl (fun j u hj => by simp at hj) (by simp) (by unfold maxLen; omega) (by omega) (Nat.le_refl _) ?_; intro v5 w5 hown hgrow hnil)
        go_meet
        exact ⟨(HEnd.out v5 w5 hown hgrow).1, (HEnd.out v5 w5 hown hgrow).2⟩
      ·
       injection hvv with v1 v2 v3
       subst v1; subst v3
       have HSr : Hid (∀ j u, (cellsE l)[j]? = some u → w4.cell? ((⟨b, off, none⟩ : Addr).add j) = some u) := fun j u hu => by rw [Addr.add_lit]; exact hcell j u hu
       have HLn : Hid ((cellsE l).length = n * 4) := by show _ = _; rw [cellsE_len, HN.out]
       have HOn := hide (cellsE_one l)
       clear hcell v2
       go_wp2_with (at_builtin; refine wpList_append_own _ rfl _ _ 38 rfl w4.heap.size 114 i0 _ 4 40 Tryz.underlying38 hi hz0 hz1 hz2 rfl (by decide) _ _ _ rfl (World.ownsRow_nil _ _ _ _) ⟨b, off, none⟩ n cap (cellsE l) rfl HLn.out HSr.out HOn.out (by unfold maxLen; omega) (by omega) (Nat.le_refl _) ?_; intro v5 w5 hown hgrow hnil)
       go_meet
       exact ⟨(HEnd.out v5 w5 hown hgrow).1, (HEnd.out v5 w5 hown hgrow).2⟩
     case rest =>
      obtain ⟨HO5, HBw⟩ := hcut
      generalize wc = w5 at *
      have HB5 : Hid (Below w.heap.size w w5) := HB4.out.trans (HBw.out.mono HB4.out.size)
      have HR5 : Hid (w5.heap[w.heap.size + 1]? = some flt0) := (HBw.out.block _ (row_lt HR4.out)).trans HR4.out
      have HX5 : Hid (w5.heap[gx]? = some (.cells #[.int .i64 ((n : Int) + 1), .int .i64 time, .string who, .int .i64 ep] 114 (0, 0))) := (HBw.out.block _ (row_lt HX4.out)).trans HX4.out
      have HLt4 : Hid (w.heap.size + 1 < w4.heap.size) := row_lt HR4.out
      obtain ⟨x0, x1, x2, x3⟩ := en_row HX5.out
      clear HX4 HV
      go_wp2_with (at_builtin; refine wpList_append_own _ rfl _ _ 38 rfl w4.heap.size 114 i0 _ 4 40 Tryz.underlying38 hi hz0 hz1 hz2 rfl (by decide) _ _ _ rfl (HO5.out.alloc _) ⟨w5.heap.size, 0, none⟩ 1 1 [.int .i64 ((n : Int) + 1), .int .i64 time, .string who, .int .i64 ep] rfl rfl (World.news_of_block (cs := #[.int .i64 ((n : Int) + 1), .int .i64 time, .string who, .int .i64 ep]) (t := 114) (fr := (0, 0)) (heap_alloc_new w5 _)) (by simp [Value.oneCell']) (by unfold maxLen; omega) (by omega) (by have := HBw.out.size; simp; omega) ?_; intro v6 w6 hown hgrow hnil)
      have HBw6 : Hid (Below w4.heap.size w4 w6) := (HBw.out.alloc HBw.out.size _).grown hgrow (Nat.le_trans HBw.out.size (by simp)) (fun q hq => (HO5.out.lt q hq).1)
      have HO6 := hide (HOw.out hown)
      have HB6 : Hid (Below w.heap.size w w6) := HB4.out.trans (HBw6.out.mono HB4.out.size)
      have HR6 : Hid (w6.heap[w.heap.size + 1]? = some flt0) := (HBw6.out.block _ (row_lt HR4.out)).trans HR4.out
      clear hown hgrow hnil HBw6 HO5 HB5 HR5 HX5 HBw x0 x1 x2 x3 HB4 HR4
      refine (HFine.out _).mono ?_
      rintro e w7 ⟨rfl, hb⟩
      have HB7 : Hid (Below w.heap.size w w7) := HB6.out.trans (hb.mono HB6.out.size)
      have HR7 : Hid (w7.heap[w.heap.size + 1]? = some flt0) := (hb.block _ (row_lt HR6.out)).trans HR6.out
      have HO7 := hide (OwnE.below HO6.out hb)
      clear hb HB6 HR6 HO6
      obtain ⟨c0, c1, z0, z1⟩ := flt_row HR7.out
      go_wp2
      obtain ⟨e1, e2⟩ := flt_set HB7.out (Nat.le_succ _) HR7.out (.int .i64 0) (.int .i64 (-1))
      refine fltEnd2 rfl (w.heap.size + 1) _ rfl e1 rfl rfl ?_
      exact ⟨⟨_, by rw [HRes.out]; rfl, by rw [HArr.out]; exact (OwnE.set HO7.out HLt4.out _ _).less (by have := HLt4.out; omega)⟩, e2⟩
    ·
     have HRes : Hid (ac = (ee, -1)) := by show _ = _; rw [HAC.out, HNE.out]
     have HArr : Hid (ar = []) := by show _ = _; rw [HAR.out, HRes.out, if_neg he]
     have HBe := hide (HBare.out ee)
     unfold fltV at HBe
     have HFv : Hid (fltV ac = .agg #[.int .i64 (ee : Int), .int .i64 (-1)]) := by show _ = _; rw [HRes.out]
     clear HAC HNE HAR he HBare HRes
     generalize (ee : Int) = ez at *
     go_wp2_with fail
     refine (HBe.out _).mono ?_
     rintro e w5 ⟨rfl, hb⟩
     have HB5 : Hid (Below w.heap.size w w5) := HB4.out.trans (hb.mono HB4.out.size)
     have HR5 : Hid (w5.heap[w.heap.size + 1]? = some flt0) := (hb.block _ (row_lt HR4.out)).trans HR4.out
     clear hb
     obtain ⟨c0, c1, z0, z1⟩ := flt_row HR5.out
     go_wp2
     obtain ⟨e1, e2⟩ := flt_set HB5.out (Nat.le_succ _) HR5.out (.int .i64 ez) (.int .i64 (-1))
     refine fltEnd2 rfl (w.heap.size + 1) _ rfl e1 rfl rfl ?_
     exact ⟨⟨_, by first | (rw [HFv.out]; rfl) | rw [HFv.out], by rw [HArr.out]; exact OwnE.nil _ _⟩, e2⟩
 ·
  rw [if_neg h0] at HAC
  have HFv : Hid (fltV ac = .agg #[.int .i64 fz, .int .i64 fa]) := by show _ = _; rw [HAC.out]; unfold fltV; rw [HFz.out, HFa.out]
  have HSr2 : Hid (ar = []) := by show _ = _; rw [HAR.out, HAC.out, if_neg h0]
  clear h0 HAC HFc HAR HFz HFa HLast HOw
  go_wp2
  go_region
  all_goals
   go_wp2
   obtain ⟨e1, e2⟩ := flt_set HB2.out (Nat.le_succ _) HR2.out (.int .i64 fz) (.int .i64 fa)
   refine fltEnd2 rfl (w.heap.size + 1) _ rfl e1 rfl rfl ?_
   exact ⟨⟨_, by first | (rw [HFv.out]; rfl) | rw [HFv.out], by rw [HSr2.out]; exact OwnE.nil _ _⟩, e2.drew⟩
end Go.Proofs.YtabpnjchocgakaaGreatDoor

/-
  What the document's answer's entered does: an entry more, and another book, or an error and nothing.
-/
import Derived.Test.YtabpnjchocgakaaGreatDoorRealmRef2
import Derived.Deep.RegionWith
namespace Go.Proofs.YtabpnjchocgakaaGreatDoor
open Go.RowKit Go.Extern.Stop Go.Stop Go.Extern Go.Proofs Go.Maps
theorem ent_after {B rb bb b2 : Nat} {v lv v2 v' : Value} {r : Rm} {L2 : List Per} {l2 : List En} {w wc : World} (h : RefRm B w rb bb v lv r) (h2 : RefBookB B w b2 v2 L2) (hv2 : L2 = [] → v2 = .slice none 0 0) (hb2 : B ≤ b2) (hb : Below w.heap.size w wc) (ho : OwnE wc w.heap.size v' l2) :
  RefRm B ((wc.setCell ⟨rb, 4, none⟩ (.pointer (some ⟨b2, 0, none⟩))).setCell ⟨rb, 5, none⟩ v') rb b2 v2 v' { r with b := L2, l := l2 } ∧ Kept (fun k => k = rb) w ((wc.setCell ⟨rb, 4, none⟩ (.pointer (some ⟨b2, 0, none⟩))).setCell ⟨rb, 5, none⟩ v') := by
 have hc := h.below hb
 have hc2 := h2.below hb
 have hoth : ∀ k, k ≠ rb → ((wc.setCell ⟨rb, 4, none⟩ (.pointer (some ⟨b2, 0, none⟩))).setCell ⟨rb, 5, none⟩ v').heap[k]? = wc.heap[k]? := fun k hk => by
  rw [heap_setCell_other _ ⟨rb, 5, none⟩ k _ hk, heap_setCell_other _ ⟨rb, 4, none⟩ k _ hk]
 have r1 := rm_set (r' := r) hc.row 4 (.pointer (some ⟨b2, 0, none⟩)) b2 lv rfl
 have r2 := rm_set (r' := { r with b := L2, l := l2 }) r1 5 v' b2 v' rfl
 have hn : b2 ≠ rb := tags_ne hc2.1 hc.row (by decide)
 have hlt := row_lt h.row
 refine ⟨⟨r2, ⟨(hoth b2 hn).trans hc2.1, own_block hc2.2 fun g hg => hoth g fun e => ?_⟩, hv2, ?_, h.old.1, hb2⟩, ?_⟩
 ·
  obtain ⟨c, hcg⟩ := own_tag hc2.2 hg
  exact tags_ne hcg hc.row (by decide) e
 ·
  refine (ho.keep fun g hg => hoth g fun e => ?_).less h.base
  have := (ho.lt g hg).1
  omega
 ·
  refine Kept.setCell (S := fun k => k = rb) (p := ⟨rb, 5, none⟩) (Kept.setCell (S := fun k => k = rb) (p := ⟨rb, 4, none⟩) (Kept.of_below _ hb) rfl _) rfl _
theorem entR_no {r : Rm} {L2 : List Per} {who : ByteArray} {n : Int} (h : r.entC who n ≠ 0) : r.entR L2 who n = r := if_neg h
theorem entR_yes {r : Rm} {L2 : List Per} {who : ByteArray} {n : Int} (h : r.entC who n = 0) : r.entR L2 who n = { r with b := L2, l := addL r.l r.time ⟨who, n⟩ } := if_pos h
def EntPost (B : Nat) (w : World) (rb : Nat) (r' : Rm) (w' : World) : Prop := ∃ bb' v' lv', RefRm B w' rb bb' v' lv' r' ∧ Kept (fun k => k = rb) w w' ∧ NewFeed w rb lv'
set_option maxRecDepth 100000 in
set_option maxHeartbeats 4000000 in
theorem refEnter_any {B : Nat} (rb bb b2 : Nat) (v lv v2 : Value) (r : Rm) (L2 : List Per) (who : ByteArray) (n : Int) (w : World) (h : RefRm B w rb bb v lv r) (h2 : RefBookB B w b2 v2 L2) (hv2 : L2 = [] → v2 = .slice none 0 0) (hb2 : B ≤ b2) (hg : GoodR r) (hs : who.size ≤ maxLen) :
  Calls Tryz.prog 91 #[.pointer (some ⟨rb, 0, none⟩), .pointer (some ⟨b2, 0, none⟩), .string who, .int .i64 n] w fun e w' => e = .returned (.tuple #[.int .i64 (numC (r.entC who n) n), .int .i64 (r.entC who n : Int)]) ∧ EntPost B w rb (r.entR L2 who n) w' := by
 obtain ⟨_, _, c2, _, _, c5⟩ := rm_cells h.row
 obtain ⟨_, _, z4, z5⟩ := rm_frozen h.row
 have HA : Hid (∀ W, Below w.heap.size w W → Calls Tryz.prog 134 #[lv, .int .i64 r.time, .agg #[.string who, .int .i64 n]] W fun e w' => (∃ v', e = .returned (.tuple #[v', .agg #[.int .i64 (r.entC who n : Int), .int .i64 (addC r.l r.time ⟨who, n⟩).2]]) ∧ OwnE w' W.heap.size v' (addR r.l r.time ⟨who, n⟩)) ∧ Below W.heap.size W w') := fun W hb =>
  refAdd_own lv r.l r.time ⟨who, n⟩ W (h.below hb).feed.enAt hg.small hs (by have := hg.few; omega)
 have HRow : Hid (∀ W, Below w.heap.size w W → W.cell? ⟨rb, 2, none⟩ = some (.int .i64 r.time) ∧ W.cell? ⟨rb, 5, none⟩ = some lv ∧ W.frozen? ⟨rb, 4, none⟩ = false ∧ W.frozen? ⟨rb, 5, none⟩ = false ∧ W.cell? ⟨rb, 4, none⟩ = some (.pointer (some ⟨bb, 0, none⟩))) := fun W hb => by
  obtain ⟨_, _, d2, _, d4, d5⟩ := rm_cells (h.below hb).row
  obtain ⟨_, _, y4, y5⟩ := rm_frozen (h.below hb).row
  exact ⟨d2, d5, y4, y5, d4⟩
 have HNo : Hid (∀ W, r.entC who n ≠ 0 → Below w.heap.size w W → EntPost B w rb (r.entR L2 who n) W) := fun W h0 hb => by
  rw [entR_no h0]
  exact ⟨bb, v, lv, h.below hb, Kept.of_below _ hb, h.held⟩
 have HYes : Hid (∀ W v', r.entC who n = 0 → Below w.heap.size w W → OwnE W w.heap.size v' (addR r.l r.time ⟨who, n⟩) → EntPost B w rb (r.entR L2 who n) ((W.setCell ⟨rb, 4, none⟩ (.pointer (some ⟨b2, 0, none⟩))).setCell ⟨rb, 5, none⟩ v')) := fun W v' h0 hb ho => by
  rw [entR_yes h0]
  have e : addR r.l r.time ⟨who, n⟩ = addL r.l r.time ⟨who, n⟩ := if_pos h0
  rw [e] at ho
  obtain ⟨a1, a2⟩ := ent_after h h2 hv2 hb2 hb ho
  exact ⟨b2, v2, v', a1, a2, Or.inr fun g hg => (ho.lt g hg).1⟩
 have HNum : Hid (numC (r.entC who n) n = if r.entC who n = 0 then n else 0) := rfl
 have HD0 : Hid (Below w.heap.size w w) := Below.refl _ _
 have HD1 : Hid (Below w.heap.size w w.drew) := (Below.refl _ _).drew
 have HD2 : Hid (Below w.heap.size w (w.alloc flt0)) := (Below.refl _ _).alloc (Nat.le_refl _) _
 have HD3 : Hid (Below w.heap.size w (w.alloc flt0).drew) := HD2.out.drew
 have HG2 : Hid ((w.alloc flt0).heap[w.heap.size]? = some flt0) := heap_alloc_new _ _
 have hlt := row_lt h.row
 have HKe : Hid (∀ (W : World) (j : Nat) (u : Value), W.cell? ⟨rb, j, none⟩ = some u → ((W.setCell ⟨w.heap.size, 0, none⟩ (.int .i64 (r.entC who n : Int))).setCell ⟨w.heap.size, 1, none⟩ (.int .i64 (addC r.l r.time ⟨who, n⟩).2)).cell? ⟨rb, j, none⟩ = some u) := fun W j u hu => by
  rw [World.cell?_setCell_other _ _ _ _ (fun e => by have := (Addr.mk.inj e).1; omega), World.cell?_setCell_other _ _ _ _ (fun e => by have := (Addr.mk.inj e).1; omega)]
  exact hu
 obtain ⟨ad, cap, rfl, _⟩ := h.feed.enAt.form
 clear hlt
 clear h h2 hv2 hb2 hg hs
 generalize addR r.l r.time ⟨who, n⟩ = ar at *
 generalize (addC r.l r.time ⟨who, n⟩).2 = ca at *
 generalize r.entR L2 who n = r2 at *
 generalize r.entC who n = ec at *
 generalize numC ec n = nm at *
 generalize r.l.length = ln at *
 generalize r.time = t at *
 have hcz : (ec = 0 ∧ (ec : Int) = 0) ∨ (ec ≠ 0 ∧ (0 : Int) < (ec : Int)) := by omega
 have HCz := hide hcz
 clear hcz
 generalize hez : (ec : Int) = ez at *
 have HEz := hide hez
 clear hez
 go_enter Tryz.func91, Tryz.ntmps91
 go_upto_region 1 with fail
 go_cut [10, 11] (fun s10 s11 wc => ∃ g ad' n' c', s10 = .slice ad' n' c' ∧ s11 = .pointer (some ⟨g, 0, none⟩) ∧ Hid (w.heap.size ≤ g) ∧ Hid (wc.heap[g]? = some (fltO ez ca)) ∧ Hid (OwnE wc w.heap.size (.slice ad' n' c') ar) ∧ Hid (Below w.heap.size w wc))
 case first =>
  go_region_held3 (fun w' => w'.cell? ⟨rb, 2, none⟩ = some (.int .i64 t) ∧ w'.cell? ⟨rb, 5, none⟩ = some (.slice ad ln cap)) (first | go_keep | assumption) (first
   | (go_at_call 134; refine (HA.out _ HD0.out).mono ?_; rintro e w1 ⟨⟨v', rfl, ho⟩, hb⟩; obtain ⟨ad', cap', rfl, _⟩ := ho.enAt.form; have HO1 := hide (OwnE.less ho HD0.out.size); have HB1 := hide (HD0.out.trans (hb.mono HD0.out.size)); have g2 := (HRow.out _ HB1.out).1; have g5 := (HRow.out _ HB1.out).2.1; clear ho hb HA)
   | (go_at_call 134; refine (HA.out _ HD1.out).mono ?_; rintro e w1 ⟨⟨v', rfl, ho⟩, hb⟩; obtain ⟨ad', cap', rfl, _⟩ := ho.enAt.form; have HO1 := hide (OwnE.less ho HD1.out.size); have HB1 := hide (HD1.out.trans (hb.mono HD1.out.size)); have g2 := (HRow.out _ HB1.out).1; have g5 := (HRow.out _ HB1.out).2.1; clear ho hb HA)
   | (go_at_call 134; refine (HA.out _ HD2.out).mono ?_; rintro e w1 ⟨⟨v', rfl, ho⟩, hb⟩; obtain ⟨ad', cap', rfl, _⟩ := ho.enAt.form; have HO1 := hide (OwnE.less ho HD2.out.size); have HO2 := hide ho; have HB1 := hide (HD2.out.trans (hb.mono HD2.out.size)); have HG1 := hide ((hb.block _ (row_lt HG2.out)).trans HG2.out); obtain ⟨y0, y1, y2, y3⟩ := flt_row HG1.out; have g2 := (HRow.out _ HB1.out).1; have g5 := (HRow.out _ HB1.out).2.1; have k2 := HKe.out w1 2 _ g2; have k5 := HKe.out w1 5 _ g5; clear ho hb HA)
   | (go_at_call 134; refine (HA.out _ HD3.out).mono ?_; rintro e w1 ⟨⟨v', rfl, ho⟩, hb⟩; obtain ⟨ad', cap', rfl, _⟩ := ho.enAt.form; have HO1 := hide (OwnE.less ho HD3.out.size); have HO2 := hide ho; have HB1 := hide (HD3.out.trans (hb.mono HD3.out.size)); have HG1 := hide ((hb.block _ (row_lt HG2.out)).trans HG2.out); obtain ⟨y0, y1, y2, y3⟩ := flt_row HG1.out; have g2 := (HRow.out _ HB1.out).1; have g5 := (HRow.out _ HB1.out).2.1; have k2 := HKe.out w1 2 _ g2; have k5 := HKe.out w1 5 _ g5; clear ho hb HA))
  ·
   go_wp2_with fail
   go_meet
   exact ⟨w1.heap.size, ad', _, cap', rfl, rfl, HB1.out.size, heap_alloc_new _ _, HO1.out.below ((Below.refl _ _).alloc (Nat.le_refl _) _), HB1.out.alloc HB1.out.size _⟩
  ·
   go_wp2_with fail
   go_meet
   obtain ⟨e1, e2⟩ := flt_set HB1.out (Nat.le_refl _) HG1.out (.int .i64 ez) (.int .i64 ca)
   exact ⟨w.heap.size, ad', _, cap', rfl, rfl, Nat.le_refl _, e1, (OwnE.set HO2.out (by simp) _ _).less HD2.out.size, e2⟩
 case rest =>
  obtain ⟨g, ad2, n2, cc2, rfl, rfl, HGe, HGr, HO, HBw⟩ := hcut
  obtain ⟨g0, g1, _, _⟩ := flt_row HGr.out
  obtain ⟨_, k5, k4z, k5z, k4⟩ := HRow.out wc HBw.out
  clear c2 c5 z4 z5 HA HKe HD0 HD1 HD2 HD3 HG2 HRow
  rcases HCz.out with ⟨h0, hz⟩ | ⟨h0, hz⟩
  ·
   subst hz
   have HY := hide (HYes.out wc _ h0 HBw.out HO.out)
   have HN : Hid (nm = n) := by show _ = _; rw [HNum.out, if_pos h0]
   clear h0 HYes HNo HNum HEz HCz
   go_wp2
   go_ret2
   exact ⟨by rw [HN.out]; rfl, HY.out⟩
  ·
   have HNm : Hid (nm = 0) := by show _ = _; rw [HNum.out, if_neg h0]
   have HY : Hid (∀ k, EntPost B w rb r2 (wc.drewN k)) := fun k => HNo.out _ h0 (below_drewN HBw.out k)
   clear h0 HYes HNo HNum HEz HCz
   go_wp2
   go_quiet (fail)
   go_wp2
   go_ret2
   exact ⟨by rw [HNm.out]; rfl, HY.out _⟩
end Go.Proofs.YtabpnjchocgakaaGreatDoor

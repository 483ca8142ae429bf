/-
  What the functions of these parts do, and what holds of their plain forms: FeedRef, FeedRefAdd.
-/
import Derived.Test.YtabpnjchocgakaaGreatDoorFloorRefRaise
import Derived.Test.YtabpnjchocgakaaGreatDoorPk09
import Derived.Deep.LoopGhost
import Derived.Deep.DeepCutAuto
namespace Go.Proofs.YtabpnjchocgakaaGreatDoor
open Go.RowKit Go.Extern.Stop Go.Stop Go.Extern Go.Proofs
set_option maxRecDepth 100000 in
set_option maxHeartbeats 4000000 in
theorem refEnt_any (e : En) (k : Nat) (was : Int) (w : World) (hs : e.fl.who.size ≤ maxLen) (hk : k ≤ 1000000) :
  Calls Tryz.prog 178 #[e.val, .int .i64 (k : Int), .int .i64 was] w fun r w' => r = .returned (.int .i64 (entE k was e : Int)) ∧ Below w.heap.size w w' := by
 have HOn := hide (fun w => refOne_any e.fl w hs)
 have hcase : (e.seq ≠ (k : Int) + 1 ∧ entE k was e = 15) ∨ (e.seq = (k : Int) + 1 ∧ e.time < 0 ∧ entE k was e = 2) ∨ (e.seq = (k : Int) + 1 ∧ 0 ≤ e.time ∧ 1000000 < e.time ∧ entE k was e = 2) ∨
   (e.seq = (k : Int) + 1 ∧ (0 ≤ e.time ∧ e.time ≤ 1000000) ∧ e.time < was ∧ entE k was e = 8) ∨ (e.seq = (k : Int) + 1 ∧ (0 ≤ e.time ∧ e.time ≤ 1000000) ∧ ¬ e.time < was ∧ entE k was e = oneE e.fl) := by
  unfold entE
  by_cases h1 : e.seq = (k : Int) + 1
  ·
   by_cases h2 : 0 ≤ e.time ∧ e.time ≤ 1000000
   ·
    by_cases h3 : e.time < was
    ·
     exact Or.inr (Or.inr (Or.inr (Or.inl ⟨h1, h2, h3, by rw [if_pos h1, if_pos h2, if_pos h3]⟩)))
    ·
     exact Or.inr (Or.inr (Or.inr (Or.inr ⟨h1, h2, h3, by rw [if_pos h1, if_pos h2, if_neg h3]⟩)))
   ·
    by_cases h4 : e.time < 0
    ·
     exact Or.inr (Or.inl ⟨h1, h4, by rw [if_pos h1, if_neg h2]⟩)
    ·
     exact Or.inr (Or.inr (Or.inl ⟨h1, by omega, by omega, by rw [if_pos h1, if_neg h2]⟩))
  ·
   exact Or.inl ⟨h1, by rw [if_neg h1]⟩
 have HB0 : Hid (Below w.heap.size w (w.alloc (.cells #[.int .i64 e.seq, .int .i64 e.time, .string e.fl.who, .int .i64 e.fl.ep] 114))) := (Below.refl _ _).alloc (Nat.le_refl _) _
 show Calls Tryz.prog 178 #[.agg #[.int .i64 e.seq, .int .i64 e.time, .string e.fl.who, .int .i64 e.fl.ep], .int .i64 (k : Int), .int .i64 was] w _
 clear hs
 unfold Fl.val at HOn
 generalize entE k was e = c at *
 generalize oneE e.fl = one at *
 generalize e.seq = sq at *
 generalize e.time = tm at *
 generalize e.fl.who = who at *
 generalize e.fl.ep = ep at *
 rcases hcase with ⟨h1, rfl⟩ | ⟨h1, h2, rfl⟩ | ⟨h1, h2, h3, rfl⟩ | ⟨h1, ⟨h2, h2'⟩, h3, rfl⟩ | ⟨h1, ⟨h2, h2'⟩, h3, rfl⟩
 ·
  have hq : (sq == (k : Int) + 1) = false := beq_eq_false_iff_ne.2 h1
  clear h1
  go_enter Tryz.func178, Tryz.ntmps178
  go_wp2
  go_ret
  exact ⟨rfl, HB0.out⟩
 ·
  have hq : (sq == (k : Int) + 1) = true := beq_iff_eq.2 h1
  clear h1
  go_enter Tryz.func178, Tryz.ntmps178
  go_wp2
  go_ret
  exact ⟨rfl, HB0.out⟩
 ·
  have hq : (sq == (k : Int) + 1) = true := beq_iff_eq.2 h1
  have h2z : ¬ tm < 0 := by omega
  clear h1
  go_enter Tryz.func178, Tryz.ntmps178
  go_wp2
  go_ret
  exact ⟨rfl, HB0.out⟩
 ·
  have hq : (sq == (k : Int) + 1) = true := beq_iff_eq.2 h1
  have h2z : ¬ tm < 0 := by omega
  have h2y : ¬ 1000000 < tm := by omega
  clear h1
  go_enter Tryz.func178, Tryz.ntmps178
  go_wp2
  go_ret
  exact ⟨rfl, HB0.out⟩
 ·
  have hq : (sq == (k : Int) + 1) = true := beq_iff_eq.2 h1
  have h2z : ¬ tm < 0 := by omega
  have h2y : ¬ 1000000 < tm := by omega
  clear h1
  go_enter Tryz.func178, Tryz.ntmps178
  go_wp2_with fail
  refine (HOn.out _).mono ?_
  rintro e1 w1 ⟨rfl, hb⟩
  have HB1 : Hid (Below w.heap.size w w1) := HB0.out.trans (hb.mono HB0.out.size)
  clear hb
  go_wp2
  go_ret
  exact ⟨rfl, HB1.out⟩
theorem fltEnd1 {fn : Func} {p : Tmp} (hr : fn.results = #[.cell p 98]) {a : Act} {w : World} {R : Ending → World → Prop} (g : Nat) (cs : Array Value) (hp : a.tmps.getD p undef = .pointer (some ⟨g, 0, none⟩)) (hg : w.heap[g]? = some (.cells cs 98 (0, 0))) (hn : cs.size = 2) (hd : a.defers = [])
  (hR : R (.returned (.agg cs)) w) : bodyPost Tryz.prog fn R .ret a w :=
 bodyPost_ret (results_cell_row hr a.tmps w g _ cs (0, 0) _ hp hg Tryz.underlying98 rfl (by rw [hn]; kernel_rfl)) hd hR
theorem fltEnd2 {fn : Func} {p u : Tmp} (hr : fn.results = #[.tmp u, .cell p 98]) {a : Act} {w : World} {R : Ending → World → Prop} (g : Nat) (cs : Array Value) (hp : a.tmps.getD p undef = .pointer (some ⟨g, 0, none⟩)) (hg : w.heap[g]? = some (.cells cs 98 (0, 0))) (hn : cs.size = 2) (hd : a.defers = [])
  (hR : R (.returned (.tuple #[a.tmps.getD u undef, .agg cs])) w) : bodyPost Tryz.prog fn R .ret a w :=
 bodyPost_ret (res_tmp_cell hr a.tmps w g _ cs (0, 0) _ hp hg Tryz.underlying98 rfl (by rw [hn]; kernel_rfl)) hd hR
theorem newL_take {l : List En} {k : Nat} (hk : k < l.length) : newL (l.take (k + 1)) = l[k].time := by
 have hm : (l.take (k + 1)).length = k + 1 := by rw [List.length_take]; omega
 rw [newL_last hm, List.getElem_take]
theorem flt_row {W : World} {g : Nat} {x y : Value} (h : W.heap[g]? = some (.cells #[x, y] 98 (0, 0))) : W.cell? ⟨g, 0, none⟩ = some x ∧ W.cell? ⟨g, 1, none⟩ = some y ∧ W.frozen? ⟨g, 0, none⟩ = false ∧ W.frozen? ⟨g, 1, none⟩ = false :=
 ⟨cell_of_row W _ 0 _ _ _ h, cell_of_row W _ 1 _ _ _ h, frozen_of_row W _ 0 _ _ h, frozen_of_row W _ 1 _ _ h⟩
theorem flt_set {w W : World} {B g : Nat} {x y : Value} (hb : Below B w W) (hg : B ≤ g) (h : W.heap[g]? = some (.cells #[x, y] 98 (0, 0))) (x' y' : Value) :
  ((W.setCell ⟨g, 0, none⟩ x').setCell ⟨g, 0 + 1, none⟩ y').heap[g]? = some (.cells #[x', y'] 98 (0, 0)) ∧ Below B w ((W.setCell ⟨g, 0, none⟩ x').setCell ⟨g, 0 + 1, none⟩ y') :=
 ⟨set2_row h _ _, (hb.setCell (p := ⟨g, 0, none⟩) hg _).setCell (p := ⟨g, 0 + 1, none⟩) hg _⟩
set_option maxRecDepth 100000 in
set_option maxHeartbeats 8000000 in
theorem refFeed_any (v : Value) (l : List En) (w : World) (hv : EnAt w v l) (hs : ∀ e ∈ l, e.fl.who.size ≤ maxLen) (hl : l.length ≤ 1000000) :
  Calls Tryz.prog 140 #[v] w fun e w' => e = .returned (fltV (feedC l)) ∧ Below w.heap.size w w' := by
 have HB0 : Hid (Below w.heap.size w (w.alloc flt0)) := (Below.refl _ _).alloc (Nat.le_refl _) _
 have HR0 : Hid ((w.alloc flt0).heap[w.heap.size]? = some flt0) := heap_alloc_new _ _
 obtain ⟨ad, cap, rfl, hc⟩ := hv.form
 have HV := hide hv
 have HS := hide hs
 by_cases h60 : 60 < l.length
 ·
  rw [feed_full h60]
  have HBa := hide (fun w => bare_any 7 w)
  generalize l.length = n at *
  have hz : (60 : Int) < (n : Int) := by omega
  clear hv hs
  go_enter Tryz.func140, Tryz.ntmps140
  go_wp2_with fail
  refine (HBa.out _).mono ?_
  rintro e w1 ⟨rfl, hb⟩
  have HR1 : Hid (w1.heap[w.heap.size]? = some flt0) := (hb.block _ (row_lt HR0.out)).trans HR0.out
  have HB1 : Hid (Below w.heap.size w w1) := HB0.out.trans (hb.mono HB0.out.size)
  obtain ⟨c0, c1, z0, z1⟩ := flt_row HR1.out
  clear hb
  go_wp2
  obtain ⟨e1, e2⟩ := flt_set HB1.out (Nat.le_refl _) HR1.out (.int .i64 7) (.int .i64 (-1))
  refine fltEnd1 rfl w.heap.size _ rfl e1 rfl rfl ?_
  exact ⟨rfl, e2⟩
 ·
  have HG : Hid ((∀ j, j < l.length → badE l j = 0) → feedC l = (0, -1)) := fun h => feed_good h60 h
  have HBd : Hid (∀ k, k < l.length → (∀ j, j < k → badE l j = 0) → badE l k ≠ 0 → feedC l = (badE l k, (k : Int))) := fun k hk h1 h2 => feed_bad h60 hk h1 h2
  have HF := hide (fun w => fine_any w)
  generalize feedC l = res at *
  generalize hn : l.length = n at *
  have HN := hide hn
  have hz : ¬ (60 : Int) < (n : Int) := by omega
  clear hv hs hn
  go_enter Tryz.func140, Tryz.ntmps140
  go_wp2
  go_loopg [3, 4, 5] n (fun gg s3 s4 _ wr => ∃ k : Nat, k ≤ n ∧ n - k ≤ gg ∧ s4 = .int .i64 k ∧ s3 = .int .i64 (newL (l.take k)) ∧ Hid (∀ j, j < k → badE l j = 0) ∧ Hid (Below w.heap.size w wr) ∧ Hid (wr.heap[w.heap.size]? = some flt0))
  case atStart => exact ⟨0, Nat.zero_le _, by omega, rfl, rfl, (show Hid _ from fun j hj => absurd hj (Nat.not_lt_zero _)), HB0, HR0⟩
  case round =>
   obtain ⟨k, hk, hgg, rfl, rfl, HP, HB, HR⟩ := hrel
   clear HB0 HR0
   by_cases hlt : k < n
   ·
    have hkl : k < l.length := by rw [HN.out]; exact hlt
    have hvr := HV.out.below HB.out
    rw [← HN.out] at hvr
    obtain ⟨b, off, cap', e, hc', hb, _, hcell⟩ := hvr.at (by omega)
    injection e with e1 e2 e3
    subst e1; subst e3
    obtain ⟨c0, c1, c2, c3⟩ := hcell k hkl
    have hltz : (k : Int) < (n : Int) := by omega
    have HTm : Hid (∀ W, Below wr.heap.size wr W → W.cell? ⟨b, off + k * 4 + 1, none⟩ = some (.int .i64 l[k].time)) := fun W hbW => by rw [hbW.cell (p := ⟨b, off + k * 4 + 1, none⟩) hb]; exact (hcell k hkl).2.1
    have HO := hide (refEnt_any (l[k]'hkl) k (newL (l.take k)) wr (HS.out _ (List.getElem_mem hkl)) (by omega))
    rw [← bad_at hkl] at HO
    unfold En.val at HO
    have HNt := hide (newL_take hkl)
    have HBk := hide (HBd.out k hlt HP.out)
    have hcz : (badE l k = 0 ∧ (badE l k : Int) = 0) ∨ (badE l k ≠ 0 ∧ (0 : Int) < (badE l k : Int)) := by omega
    clear hcell hvr
    generalize newL (l.take k) = was at *
    generalize (l[k]'hkl).seq = sq at *
    generalize (l[k]'hkl).time = tm at *
    generalize (l[k]'hkl).fl.who = who at *
    generalize (l[k]'hkl).fl.ep = ep at *
    rcases hcz with ⟨hb0, hbz⟩ | ⟨hb0, hbz⟩
    ·
     rw [hbz] at HO
     have HB0' := hide hb0
     clear hb0 hbz HBk
     go_wp2_with fail
     refine HO.out.mono ?_
     rintro e w1 ⟨rfl, hb1⟩
     have HB1 : Hid (Below w.heap.size w w1) := HB.out.trans (hb1.mono HB.out.size)
     have HR1 : Hid (w1.heap[w.heap.size]? = some flt0) := (hb1.block _ (row_lt HR.out)).trans HR.out
     have d1 := HTm.out w1 hb1
     clear hb1 c0 c1 c2 c3
     go_wp2
     go_roundg (n - (k + 1))
     case measure => omega
     case rel =>
      refine ⟨k + 1, by omega, by omega, by go_num, by rw [HNt.out], (show Hid _ from fun j hj => ?_), HB1, HR1⟩
      by_cases e : j = k
      ·
       rw [e]; exact HB0'.out
      ·
       exact HP.out j (by omega)
    ·
     have HRes := hide (HBk.out hb0)
     clear hb0 HBk
     generalize hcz : (badE l k : Int) = cz at *
     have HCz := hide hcz
     clear hcz
     go_wp2_with fail
     refine HO.out.mono ?_
     rintro e w1 ⟨rfl, hb1⟩
     have HB1 : Hid (Below w.heap.size w w1) := HB.out.trans (hb1.mono HB.out.size)
     have HR1 : Hid (w1.heap[w.heap.size]? = some flt0) := (hb1.block _ (row_lt HR.out)).trans HR.out
     obtain ⟨d0, d1, z0, z1⟩ := flt_row HR1.out
     clear hb1 c0 c1 c2 c3
     go_wp2
     obtain ⟨e1, e2⟩ := flt_set HB1.out (Nat.le_refl _) HR1.out (.int .i64 cz) (.int .i64 (k : Int))
     refine fltEnd1 rfl w.heap.size _ rfl e1 rfl rfl ?_
     exact ⟨by rw [HRes.out]; show _ = Ending.returned (.agg #[.int .i64 (badE l k : Int), .int .i64 (k : Int)]); rw [HCz.out], e2⟩
   ·
    obtain rfl : k = n := by omega
    have hltz : ¬ (k : Int) < (k : Int) := by omega
    have HRes := hide (HG.out HP.out)
    go_wp2_with fail
    refine (HF.out _).mono ?_
    rintro e w1 ⟨rfl, hb1⟩
    have HB1 : Hid (Below w.heap.size w w1) := HB.out.trans (hb1.mono HB.out.size)
    have HR1 : Hid (w1.heap[w.heap.size]? = some flt0) := (hb1.block _ (row_lt HR.out)).trans HR.out
    obtain ⟨d0, d1, z0, z1⟩ := flt_row HR1.out
    clear hb1
    go_wp2
    obtain ⟨e1, e2⟩ := flt_set HB1.out (Nat.le_refl _) HR1.out (.int .i64 0) (.int .i64 (-1))
    refine fltEnd1 rfl w.heap.size _ rfl e1 rfl rfl ?_
    exact ⟨by rw [HRes.out]; rfl, e2⟩
abbrev fltO (x y : Int) : Obj := .cells #[.int .i64 x, .int .i64 y] 98 (0, 0)
theorem FlAt.past {w : World} {v : Value} {x : List Fl} {g : Nat} {p q : Int} (h : FlAt w v x) (hr : w.heap[g]? = some (fltO p q)) (y z : Value) : FlAt ((w.setCell ⟨g, 0, none⟩ y).setCell ⟨g, 0 + 1, none⟩ z) v x := by
 rcases h with h | ⟨b, off, cap, h1, h2, h3⟩
 ·
  exact Or.inl h
 ·
  refine Or.inr ⟨b, off, cap, h1, h2, fun j u hu => ?_⟩
  have hx : 0 < x.length := by
   cases x with
   | nil => simp [cellsF] at hu
   | cons a x => simp
  have hb : g ≠ b := by
   intro e
   subst e
   have c := h3 (0 * 2) _ (cellsF_who x 0 hx)
   rw [cell_of_row w g _ _ _ _ hr] at c
   match hoff : off + 0 * 2, c with
   | 0, c => simp at c
   | 1, c => simp at c
   | n + 2, c => simp at c
  rw [World.cell?_setCell_other _ _ _ _ (fun e => hb (congrArg Addr.block e)), World.cell?_setCell_other _ _ _ _ (fun e => hb (congrArg Addr.block e))]
  exact h3 j u hu
set_option maxRecDepth 100000 in
set_option maxHeartbeats 8000000 in
theorem refFloors_any (v : Value) (l : List En) (w : World) (hv : EnAt w v l) (hs : ∀ e ∈ l, e.fl.who.size ≤ maxLen) (hl : l.length ≤ 1000000) :
  Calls Tryz.prog 97 #[v] w fun e w' => FltPost (floorsC l) (floorsR l) w w' e := by
 have HB0 : Hid (Below w.heap.size w (w.alloc flt0)) := (Below.refl _ _).alloc (Nat.le_refl _) _
 have HR0 : Hid ((w.alloc flt0).heap[w.heap.size]? = some flt0) := heap_alloc_new _ _
 have HFF := hide (fun w h => refFeed_any v l w h hs hl)
 have HBare := hide (fun c w => bare_any c w)
 have HV := hide hv
 have HS := hide hs
 have hcz : ((feedC l).1 = 0 ∧ ((feedC l).1 : Int) = 0 ∧ (feedC l).2 = -1) ∨ ((feedC l).1 ≠ 0 ∧ (0 : Int) < ((feedC l).1 : Int)) := by
  by_cases h : (feedC l).1 = 0
  ·
   exact Or.inl ⟨h, by omega, by rw [feed_ok h]⟩
  ·
   exact Or.inr ⟨h, by omega⟩
 have HOne : Hid ((feedC l).1 = 0 → ∀ e ∈ l, oneE e.fl = 0) := fun h => feed_one h
 have HNo : Hid ((feedC l).1 = 0 → flsO l = none → floorsC l = (7, -1)) := fun h h2 => floors_none h h2
 have HYes : Hid ((feedC l).1 = 0 → ∀ b, flsO l = some b → floorsC l = (0, -1) ∧ floorsR l = b) := fun h b h2 => floors_some (b := b) h h2
 have HBadC : Hid ((feedC l).1 ≠ 0 → floorsC l = feedC l) := fun h => if_neg h
 have HBad : Hid ((floorsC l).1 ≠ 0 → floorsR l = []) := fun h => if_neg h
 obtain ⟨ad, cap, rfl, hcap⟩ := hv.form
 clear hv hs
 generalize floorsC l = fc at *
 generalize floorsR l = fr at *
 generalize hn : l.length = n at *
 have HN := hide hn
 clear hn
 go_enter Tryz.func97, Tryz.ntmps97
 go_wp2_with fail
 refine (HFF.out _ (HV.out.below HB0.out)).mono ?_
 rintro e w1 ⟨rfl, hb⟩
 have HB1 : Hid (Below w.heap.size w w1) := HB0.out.trans (hb.mono HB0.out.size)
 have HR1 : Hid (w1.heap[w.heap.size]? = some flt0) := (hb.block _ (row_lt HR0.out)).trans HR0.out
 unfold fltV
 clear hb HB0 HR0 HFF
 have HFc := hide hcz
 generalize hfz : ((feedC l).1 : Int) = fz at *
 generalize hfa : (feedC l).2 = fa at *
 have HFz := hide hfz
 have HFa := hide hfa
 clear hfz hfa
 have HB2 : Hid (Below w.heap.size w (w1.alloc (fltO fz fa))) := HB1.out.alloc HB1.out.size _
 have HR2 : Hid ((w1.alloc (fltO fz fa)).heap[w.heap.size]? = some flt0) := (heap_alloc_old w1 _ (row_lt HR1.out)).trans HR1.out
 have HG2 : Hid ((w1.alloc (fltO fz fa)).heap[w1.heap.size]? = some (fltO fz fa)) := heap_alloc_new _ _
 go_upto_region 2 with fail
 obtain ⟨W2, hW2⟩ : ∃ W, w1.alloc (.cells #[.int .i64 fz, .int .i64 fa] 98) = W := ⟨_, rfl⟩
 rw [hW2] at HB2 HR2 HG2 ⊢
 have HLt1 : Hid (w.heap.size < w1.heap.size) := row_lt HR1.out
 generalize hgb : w1.heap.size = gb at *
 clear hW2 hgb HB1 HR1
 obtain ⟨g0, g1, _, _⟩ := flt_row HG2.out
 obtain ⟨c0, c1, z0, z1⟩ := flt_row HR2.out
 rcases HFc.out with ⟨h0, hz, ha⟩ | ⟨h0, hz⟩
 ·
  subst hz
  subst ha
  have HOne2 := hide (HOne.out h0)
  have HNo2 := hide (HNo.out h0)
  have HYes2 := hide (HYes.out h0)
  clear h0 HFc HFz HFa HOne HNo HYes HBadC
  go_wp2
  go_loopg [5, 6, 7, 8] n (fun gg s5 s6 _ _ wr => ∃ k : Nat, k ≤ n ∧ n - k ≤ gg ∧ s6 = .int .i64 k ∧ Hid (Below w.heap.size w wr) ∧ Hid (wr.heap[w.heap.size]? = some flt0) ∧ Hid (wr.heap[gb]? = some (fltO 0 (-1))) ∧ ∃ x, Hid (flsO (l.take k) = some x) ∧ Hid (FlAt wr s5 x))
  case atStart => exact ⟨0, Nat.zero_le _, by omega, rfl, HB2, HR2, HG2, [], rfl, Or.inl ⟨none, 0, rfl, rfl⟩⟩
  case round =>
   clear HB2 HR2 HG2 g0 g1 c0 c1 z0 z1
   obtain ⟨k, hk, hgg, rfl, HB, HR, HG, x, HX, HO⟩ := hrel
   by_cases hlt : k < n
   ·
    have hltz : (k : Int) < (n : Int) := by omega
    have hkl : k < l.length := by rw [HN.out]; exact hlt
    have hvr := HV.out.below HB.out
    rw [← HN.out] at hvr
    obtain ⟨b, off, cap', e, hc', hb, _, hcell⟩ := hvr.at (by omega)
    injection e with e1 e2 e3
    subst e1; subst e3
    obtain ⟨_, _, c2, c3⟩ := hcell k hkl
    obtain ⟨hr, hx21⟩ := fls_ok HX.out
    have hx1 := small_fls (l.take k) [] x (fun e he => HS.out e (List.mem_of_mem_take he)) (fun f hf => by cases hf) HX.out
    have hfs : (l[k]).fl.who.size ≤ maxLen := HS.out _ (List.getElem_mem _)
    have hrc := raiseC_right hr hx21 (HOne2.out _ (List.getElem_mem hkl))
    have HRa := hide (refRaise_any u5 x l[k].fl wr HO.out hx1 hfs (by omega))
    unfold Fl.val at HRa
    have HSt : Hid (flsO (l.take (k + 1)) = if (raiseC x l[k].fl).1 = 0 then some (raisedL x l[k].fl) else none) := by
     show _ = _
     rw [fls_take l k hkl, HX.out]
     rfl
    have HZ : Hid ((raiseC x l[k].fl).1 = 0 → raiseR x l[k].fl = raisedL x l[k].fl) := fun h => (raiseC_zero h).2.2.2.2.2
    have HCut := hide (fls_cut l (k + 1))
    have hway : (raiseC x l[k].fl = (0, -1)) ∨ (raiseC x l[k].fl = (7, -1)) := by
     rw [hrc]
     split
     ·
      exact Or.inr rfl
     ·
      exact Or.inl rfl
    clear hcell hvr hr hx21 hx1 hfs hrc
    generalize raiseR x l[k].fl = rr at *
    generalize raisedL x l[k].fl = rd at *
    generalize raiseC x l[k].fl = rc at *
    generalize l[k].fl.who = who at *
    generalize l[k].fl.ep = ep at *
    rcases hway with rfl | rfl
    ·
     have hrr : rr = rd := HZ.out rfl
     subst hrr
     have HX4 : Hid (flsO (l.take (k + 1)) = some rr) := by show _ = _; rw [HSt.out, if_pos rfl]
     clear HZ HSt HCut
     go_wp2_with fail
     refine HRa.out.mono ?_
     rintro e w4 ⟨⟨v4, rfl, hfl⟩, hb4⟩
     have HB4 : Hid (Below w.heap.size w w4) := HB.out.trans (hb4.mono HB.out.size)
     have HR4 : Hid (w4.heap[w.heap.size]? = some flt0) := (hb4.block _ (row_lt HR.out)).trans HR.out
     have HG4 : Hid (w4.heap[gb]? = some (fltO 0 (-1))) := (hb4.block _ (row_lt HG.out)).trans HG.out
     have HF4 := hide hfl
     have HB5 : Hid (Below w.heap.size w (w4.alloc (fltO 0 (-1)))) := HB4.out.alloc HB4.out.size _
     have HR5 : Hid ((w4.alloc (fltO 0 (-1))).heap[w.heap.size]? = some flt0) := (heap_alloc_old w4 _ (row_lt HR4.out)).trans HR4.out
     have HG5 : Hid ((w4.alloc (fltO 0 (-1))).heap[gb]? = some (fltO 0 (-1))) := (heap_alloc_old w4 _ (row_lt HG4.out)).trans HG4.out
     have HF5 : Hid (FlAt (w4.alloc (fltO 0 (-1))) v4 rr) := HF4.out.below ((Below.refl _ _).alloc (Nat.le_refl _) _)
     clear hb4 hfl HRa c2 c3 HB4 HR4 HG4 HF4
     unfold fltV
     go_wp2
     go_roundg (n - (k + 1))
     case measure => omega
     case rel => exact ⟨k + 1, by omega, by omega, by go_num, HB5, HR5, HG5, rr, HX4, HF5⟩
    ·
     have hfc : fc = (7, -1) := HNo2.out (HCut.out (by rw [HSt.out, if_neg (by decide)]))
     have HFr := hide (HBad.out (by rw [hfc]; decide))
     have HFc := hide hfc
     clear HZ HSt HCut hfc
     go_wp2_with fail
     refine HRa.out.mono ?_
     rintro e w4 ⟨⟨v4, rfl, hfl⟩, hb4⟩
     have HB4 : Hid (Below w.heap.size w w4) := HB.out.trans (hb4.mono HB.out.size)
     have HR4 : Hid (w4.heap[w.heap.size]? = some flt0) := (hb4.block _ (row_lt HR.out)).trans HR.out
     have HB5 : Hid (Below w.heap.size w (w4.alloc (fltO 7 (-1)))) := HB4.out.alloc HB4.out.size _
     have HR5 : Hid ((w4.alloc (fltO 7 (-1))).heap[w.heap.size]? = some flt0) := (heap_alloc_old w4 _ (row_lt HR4.out)).trans HR4.out
     clear hb4 hfl HRa c2 c3 HB4 HR4
     unfold fltV
     go_wp2_with fail
     refine (HBare.out 7 _).mono ?_
     rintro e w6 ⟨rfl, hb6⟩
     have HB6 : Hid (Below w.heap.size w w6) := HB5.out.trans (hb6.mono HB5.out.size)
     have HR6 : Hid (w6.heap[w.heap.size]? = some flt0) := (hb6.block _ (row_lt HR5.out)).trans HR5.out
     obtain ⟨c0, c1, z0, z1⟩ := flt_row HR6.out
     clear hb6
     go_wp2
     obtain ⟨e1, e2⟩ := flt_set HB6.out (Nat.le_refl _) HR6.out (.int .i64 7) (.int .i64 (-1))
     refine fltEnd2 rfl w.heap.size _ rfl e1 rfl rfl ?_
     exact ⟨⟨_, by rw [HFc.out]; rfl, by rw [HFr.out]; exact Or.inl ⟨none, 0, rfl, rfl⟩⟩, e2⟩
   ·
    obtain rfl : k = n := by omega
    have hltz : ¬ (k : Int) < (k : Int) := by omega
    have hx : flsO l = some x := by
     have := HX.out
     rwa [List.take_of_length_le (Nat.le_of_eq HN.out)] at this
    have HY := hide (HYes2.out x hx)
    obtain ⟨g0, g1, _, _⟩ := flt_row HG.out
    obtain ⟨c0, c1, z0, z1⟩ := flt_row HR.out
    clear hx
    go_wp2
    go_region
    all_goals
     go_wp2
     obtain ⟨e1, e2⟩ := flt_set HB.out (Nat.le_refl _) HR.out (.int .i64 0) (.int .i64 (-1))
     refine fltEnd2 rfl w.heap.size _ rfl e1 rfl rfl ?_
     exact ⟨⟨_, by rw [HY.out.1]; rfl, by rw [HY.out.2]; exact (HO.out.past HR.out _ _).below ((Below.refl _ _).drew)⟩, e2.drew⟩
 ·
  have hfc := HBadC.out h0
  have HFv : Hid (fltV fc = .agg #[.int .i64 fz, .int .i64 fa]) := by show _ = _; rw [hfc]; unfold fltV; rw [HFz.out, HFa.out]
  have HSr2 := hide (HBad.out (by rw [hfc]; exact h0))
  clear h0 HFc HFz HFa HOne HNo HYes HBadC hfc
  go_wp2
  go_region
  all_goals
   go_wp2
   obtain ⟨e1, e2⟩ := flt_set HB2.out (Nat.le_refl _) HR2.out (.int .i64 fz) (.int .i64 fa)
   refine fltEnd2 rfl w.heap.size _ rfl e1 rfl rfl ?_
   exact ⟨⟨_, by first | (rw [HFv.out]; rfl) | rw [HFv.out], by rw [HSr2.out]; exact Or.inl ⟨none, 0, rfl, rfl⟩⟩, e2.drew⟩
end Go.Proofs.YtabpnjchocgakaaGreatDoor

/-
  What the document's answer's RaiseOf gives, for any list and any floor: the same list and the same fault as the program's Raise.
-/
import Derived.Test.YtabpnjchocgakaaGreatDoorPk08
import Derived.Test.YtabpnjchocgakaaGreatDoorPk04
import Derived.Test.YtabpnjchocgakaaGreatDoorFloorInsert
import Derived.WalkKit
import Derived.OwnWalk
namespace Go.Proofs.YtabpnjchocgakaaGreatDoor
open Go Go.RowKit Go.Extern.Stop Go.Stop Go.Extern Go.Proofs
theorem res_tmp_cell {P : Program} {fn : Func} {p u : Tmp} {ty : TypeId} (h : fn.results = #[.tmp u, .cell p ty]) (tmps : Array Value) (w : World) (g : Nat) (t : TypeId) (cs : Array Value) (fr : Nat × Nat) (d : TypeDesc)
  (hp : tmps.getD p undef = .pointer (some ⟨g, 0, none⟩)) (hg : w.heap[g]? = some (.cells cs t fr))
  (hu : P.underlying ty = some d) (hd : (match d with | .struct _ | .array _ _ => true | _ => false) = true) (hi : (P.info? ty).map (·.size) = some cs.size) :
  (results fn tmps).run P w = .ok (.tuple #[tmps.getD u undef, .agg cs]) w := by
 have hp2 : tmps[p]?.getD undef = .pointer (some ⟨g, 0, none⟩) := by simpa using hp
 simp only [results, h]
 simp [Result.andThen, hp2, asAddr, run_loadVar_row w g t ty cs fr d hg hu hd hi]
theorem raiseEnd {a : Act} {w : World} {R : Ending → World → Prop} (g : Nat) (cs : Array Value) (hp : a.tmps.getD 5 undef = .pointer (some ⟨g, 0, none⟩)) (hg : w.heap[g]? = some (.cells cs 98 (0, 0))) (hn : cs.size = 2) (hd : a.defers = [])
  (hR : R (.returned (.tuple #[a.tmps.getD 4 undef, .agg cs])) w) : bodyPost Tryz.prog Tryz.f141 R .ret a w :=
 bodyPost_ret (res_tmp_cell rfl a.tmps w g _ cs (0, 0) _ hp hg Tryz.underlying98 rfl (by rw [hn]; kernel_rfl)) hd hR
def FltPost (c : Nat × Int) (r : List Fl) (w w' : World) (e : Ending) : Prop := (∃ v', e = .returned (.tuple #[v', fltV c]) ∧ FlAt w' v' r) ∧ Below w.heap.size w w'
theorem own_snoc {w : World} {B : Nat} {v : Value} {o : List Fl} {f : Fl} (h : w.ownsRow B 112 2 v (o.length + 1) (cellsF o ++ f.cells)) : OwnF w B v (o ++ [f]) := by
 have e1 : (o ++ [f]).length = o.length + 1 := by simp
 have e2 : cellsF (o ++ [f]) = cellsF o ++ f.cells := by rw [cellsF_append]; simp [cellsF]
 unfold OwnF
 rw [e1, e2]
 exact h
theorem OwnF.form {w : World} {B : Nat} {v : Value} {l : List Fl} (h : OwnF w B v l) : ∃ ad cap, v = .slice ad l.length cap ∧ l.length ≤ cap := h.flAt.form
abbrev flt0 : Obj := .cells #[.int .i64 0, .int .i64 0] 98 (0, 0)
attribute [local go_sem] Oper.semAt_some
set_option maxRecDepth 100000 in
set_option maxHeartbeats 8000000 in
theorem refRaise_any (v : Value) (l : List Fl) (f : Fl) (w : World) (hv : FlAt w v l) (hs : ∀ g ∈ l, g.who.size ≤ maxLen) (hfs : f.who.size ≤ maxLen) (hl : l.length ≤ 100000) :
  Calls Tryz.prog 141 #[v, f.val] w fun e w' => FltPost (raiseC l f) (raiseR l f) w w' e := by
 have HFF := hide (fun w h => refFault_any v l w h hs (by omega))
 have HOne := hide (fun w => refOne_any f w hfs)
 have HBare := hide (fun c w => bare_any c w)
 have HFine := hide (fun w => fine_any w)
 have HOf : Hid ((checkL l).1 = 0 → ∀ w (h : FlAt w v l), Calls Tryz.prog 182 #[v, .string f.who] w fun e w' => e = .returned (.int .i64 (ofL l f.nm)) ∧ w' = w) := fun h0 w h => refFloorOf_any v l f.who w h (right_of_check h0).1 (by omega)
 have HW0 : Hid (Below w.heap.size w ((w.alloc (.cells #[.string f.who, .int .i64 f.ep] 112)).alloc flt0) ∧ ((w.alloc (.cells #[.string f.who, .int .i64 f.ep] 112)).alloc flt0).heap[w.heap.size]? = some (.cells #[.string f.who, .int .i64 f.ep] 112 (0, 0)) ∧ ((w.alloc (.cells #[.string f.who, .int .i64 f.ep] 112)).alloc flt0).heap[w.heap.size + 1]? = some flt0) := by
  refine ⟨((Below.refl _ _).alloc (Nat.le_refl _) _).alloc (by simp) _, ?_, ?_⟩
  ·
   rw [Below.heap_alloc _ _ _ (by simp)]
   exact heap_alloc_new _ _
  ·
   have := heap_alloc_new (w.alloc (.cells #[.string f.who, .int .i64 f.ep] 112)) flt0
   rwa [World.size_alloc] at this
 have HR : Hid (raiseC l f = if (checkL l).1 = 0 then (if oneE f = 0 then checkL (raisedL l f) else (oneE f, -1)) else checkL l) := rfl
 have HRR : Hid (raiseR l f = if (raiseC l f).1 = 0 then raisedL l f else []) := rfl
 have HV := hide hv
 unfold Fl.val at HOne ⊢
 clear hv hs
 by_cases h1 : (checkL l).1 = 0
 ·
  obtain ⟨hright, h21⟩ := right_of_check h1
  have hck : checkL l = (0, -1) := by rw [check_right hright, if_neg (by omega)]
  have HOf2 := hide (HOf.out h1)
  rw [if_pos h1] at HR
  rw [hck] at HFF
  have HRi := hide hright
  clear HOf h1 hck
  generalize hone : oneE f = c1 at *
  by_cases h2 : c1 = 0
  ·
   rw [if_pos h2] at HR
   subst h2
   have HO1 := hide hone
   clear hone
   generalize hww : f.who = who at *
   generalize hee : f.ep = ep at *
   have HWw := hide hww
   have HEe := hide hee
   clear hww hee
   go_enter Tryz.func141, Tryz.ntmps141
   go_wp2_with fail
   refine (HFF.out _ (HV.out.below HW0.out.1)).mono ?_
   rintro e w1 ⟨rfl, hb⟩
   have HB1 : Hid (Below w.heap.size w w1) := HW0.out.1.trans (hb.mono HW0.out.1.size)
   have HF1 : Hid (w1.heap[w.heap.size]? = some (.cells #[.string who, .int .i64 ep] 112 (0, 0))) := (hb.block _ (row_lt HW0.out.2.1)).trans HW0.out.2.1
   have HR1 : Hid (w1.heap[w.heap.size + 1]? = some flt0) := (hb.block _ (row_lt HW0.out.2.2)).trans HW0.out.2.2
   have c0 : w1.cell? ⟨w.heap.size, 0, none⟩ = some (.string who) := cell_of_row w1 _ 0 _ _ _ HF1.out
   have c1' : w1.cell? ⟨w.heap.size, 1, none⟩ = some (.int .i64 ep) := cell_of_row w1 _ 1 _ _ _ HF1.out
   have HLt : Hid (w.heap.size < w1.heap.size) := row_lt HF1.out
   have hlt := HLt.out
   clear hb HFF HW0
   go_wp2_with fail
   refine (HOne.out _).mono ?_
   rintro e w3 ⟨rfl, hb3⟩
   have HB3 := hide hb3
   clear hb3 HOne
   go_wp2_with fail
   refine (HBare.out _ _).mono ?_
   rintro e w4 ⟨rfl, hb4⟩
   have HB4 : Hid (Below (w1.heap.size + 1) (w1.alloc (.cells #[.int .i64 0, .int .i64 (-1)] 98)) w4) := by
    have h3 := HB3.out
    rw [World.size_alloc] at h3
    exact h3.trans (hb4.mono (by have := h3.size; rw [World.size_alloc] at this; exact this))
   have HG4 : Hid (w4.heap[w1.heap.size]? = some (.cells #[.int .i64 0, .int .i64 (-1)] 98 (0, 0))) := (HB4.out.block _ (by omega)).trans (heap_alloc_new _ _)
   have HO4 : Hid (∀ k, k < w1.heap.size → w4.heap[k]? = w1.heap[k]?) := fun k hk => (HB4.out.block k (by omega)).trans (Below.heap_alloc _ _ _ hk)
   clear hb4 HB3 c0 c1' hlt
   have g0 : w4.cell? ⟨w1.heap.size, 0, none⟩ = some (.int .i64 0) := cell_of_row w4 _ 0 _ _ _ HG4.out
   have g1 : w4.cell? ⟨w1.heap.size, 1, none⟩ = some (.int .i64 (-1)) := cell_of_row w4 _ 1 _ _ _ HG4.out
   have gz0 : w4.frozen? ⟨w1.heap.size, 0, none⟩ = false := frozen_of_row w4 _ 0 _ _ HG4.out
   have gz1 : w4.frozen? ⟨w1.heap.size, 1, none⟩ = false := frozen_of_row w4 _ 1 _ _ HG4.out
   go_wp2
   obtain ⟨X, hX⟩ : ∃ X, (w4.setCell ⟨w1.heap.size, 0, none⟩ (.int .i64 0)).setCell ⟨w1.heap.size, 0 + 1, none⟩ (.int .i64 (-1)) = X := ⟨_, rfl⟩
   have HG : Hid (X.heap[w1.heap.size]? = some (.cells #[.int .i64 0, .int .i64 (-1)] 98 (0, 0))) := by rw [← hX]; exact set2_row HG4.out _ _
   have HOX : Hid (∀ k, k < w1.heap.size → X.heap[k]? = w1.heap[k]?) := fun k hk => by
    rw [← hX, heap_setCell_other _ ⟨w1.heap.size, 0 + 1, none⟩ k _ (by show k ≠ w1.heap.size; omega), heap_setCell_other _ ⟨w1.heap.size, 0, none⟩ k _ (by show k ≠ w1.heap.size; omega)]
    exact HO4.out k hk
   have HBX : Hid (Below w.heap.size w X) := by
    rw [← hX]
    have hs := HB1.out.size
    have hb5 : Below w.heap.size w w4 := (HB1.out.alloc hs (.cells #[.int .i64 0, .int .i64 (-1)] 98)).trans (HB4.out.mono (by omega))
    exact (hb5.setCell (p := ⟨w1.heap.size, 0, none⟩) hs _).setCell (p := ⟨w1.heap.size, 0 + 1, none⟩) hs _
   have HRX : Hid (X.heap[w.heap.size + 1]? = some flt0) := (HOX.out _ (row_lt HR1.out)).trans HR1.out
   rw [hX]
   have b0 : X.cell? ⟨w.heap.size, 0, none⟩ = some (.string who) := cell_of_row X _ 0 _ _ _ ((HOX.out _ HLt.out).trans HF1.out)
   have b1 : X.cell? ⟨w.heap.size, 1, none⟩ = some (.int .i64 ep) := cell_of_row X _ 1 _ _ _ ((HOX.out _ HLt.out).trans HF1.out)
   have HVX := hide (HV.out.below HBX.out)
   clear hX g0 g1 gz0 gz1 HG4 HO4 HB4
   by_cases h3 : ep ≤ ofL l f.nm
   ·
    have hd := decide_eq_true h3
    have HRl : Hid (raisedL l f = l) := by show _ = _; unfold raisedL; rw [HEe.out, if_pos h3]
    have HFi : Hid (FltPost (raiseC l f) (raiseR l f) = FltPost (0, -1) l) := by
     show _ = _
     rw [HR.out] at HRR ⊢
     rw [HRR.out, HRl.out, check_right HRi.out, if_neg (by omega)]
     rfl
    generalize ofL l f.nm = ol at *
    go_quiet (first | (go_at_call 182; exact Calls.quiet_of_same (HOf2.out _ (HVX.out.below (below_drewN (Below.refl _ _) _)))))
    go_wp2_with fail
    refine (HFine.out _).mono ?_
    rintro e w5 ⟨rfl, hb5⟩
    have HB5 : Hid (Below w.heap.size w w5) := (below_drewN HBX.out nq).trans (hb5.mono (below_drewN HBX.out nq).size)
    have HR5 : Hid (w5.heap[w.heap.size + 1]? = some flt0) := (hb5.block _ (row_lt HRX.out)).trans HRX.out
    have r0 : w5.cell? ⟨w.heap.size + 1, 0, none⟩ = some (.int .i64 0) := cell_of_row w5 _ 0 _ _ _ HR5.out
    have r1 : w5.cell? ⟨w.heap.size + 1, 1, none⟩ = some (.int .i64 0) := cell_of_row w5 _ 1 _ _ _ HR5.out
    have z0 : w5.frozen? ⟨w.heap.size + 1, 0, none⟩ = false := frozen_of_row w5 _ 0 _ _ HR5.out
    have z1 : w5.frozen? ⟨w.heap.size + 1, 1, none⟩ = false := frozen_of_row w5 _ 1 _ _ HR5.out
    clear hb5
    go_wp2
    refine raiseEnd (w.heap.size + 1) _ rfl (set2_row HR5.out _ _) rfl rfl ?_
    rw [HFi.out]
    have hbe : Below w.heap.size w ((w5.setCell ⟨w.heap.size + 1, 0, none⟩ (.int .i64 0)).setCell ⟨w.heap.size + 1, 0 + 1, none⟩ (.int .i64 (-1))) := (HB5.out.setCell (p := ⟨w.heap.size + 1, 0, none⟩) (Nat.le_succ _) _).setCell (p := ⟨w.heap.size + 1, 0 + 1, none⟩) (Nat.le_succ _) _
    exact ⟨⟨_, rfl, HV.out.below hbe⟩, hbe⟩
   ·
    have hd := decide_eq_false h3
    have HRl : Hid (raisedL l f = putEnd f (l.foldl (putStep f) ([], false))) := by show _ = _; rw [put_end f HRi.out.rising]; unfold raisedL; rw [HEe.out, if_neg h3]
    have HRt : Hid (RightF (raisedL l f)) := right_raised HRi.out HO1.out
    obtain ⟨i0, hi, hi0, hi1, hi2⟩ := info_parts Tryz.infoFloor
    obtain ⟨ad, cap, rfl, hc⟩ := HV.out.form
    generalize hn : l.length = n at *
    have HN := hide hn
    have HLn : Hid (∀ k, ((l.take k).foldl (putStep f) ([], false)).1.length ≤ 200000) := fun k => by
     have := put_len f (l.take k) ([], false)
     rw [List.length_take, HN.out] at this
     simp only [List.length_nil] at this
     omega
    clear hn
    generalize hol : ofL l f.nm = ol at *
    clear hol
    go_quiet (first | (go_at_call 182; exact Calls.quiet_of_same (HOf2.out _ (HVX.out.below (below_drewN (Below.refl _ _) _)))))
    go_wp2_with fail
    obtain ⟨Y, hY⟩ : ∃ Y, X.drewN nq = Y := ⟨_, rfl⟩
    rw [hY]
    have HBY : Hid (Below w.heap.size w Y) := by rw [← hY]; exact below_drewN HBX.out nq
    have HRY : Hid (Y.heap[w.heap.size + 1]? = some flt0) := by rw [← hY]; exact HRX.out
    have HFY : Hid (Y.heap[w.heap.size]? = some (.cells #[.string who, .int .i64 ep] 112 (0, 0))) := by rw [← hY]; exact (HOX.out _ HLt.out).trans HF1.out
    clear hY b0 b1 HVX HOX HG HRX HBX HOf2 hd h3 HLt HF1 HR1 HB1
    go_loopw [7, 8, 9] (fun OV pv iv wr => ∃ (k : Nat) (o : List Fl) (b : Bool), k ≤ n ∧ iv = .int .i64 k ∧ pv = .bool b ∧ Hid (OwnF wr Y.heap.size OV o) ∧ Hid ((l.take k).foldl (putStep f) ([], false) = (o, b)) ∧ Hid (Below Y.heap.size Y wr)) (fun _ _ iv _ => n - (intOf iv).toNat)
    case atStart => exact ⟨0, [], false, Nat.zero_le _, rfl, rfl, (show Hid _ from OwnF.nil _ _), (show Hid _ from rfl), (show Hid _ from Below.refl _ _)⟩
    case round =>
     obtain ⟨k, o, b, hk, rfl, rfl, HOwn, HFo, HBr⟩ := hrel
     by_cases hlt : k < n
     ·
      have hkl : k < l.length := by rw [HN.out]; exact hlt
      have hvr := (HV.out.below HBY.out).below HBr.out
      rw [← HN.out] at hvr
      obtain ⟨bb, off, cap', e, hc', hb, hcell⟩ := hvr.at (by omega)
      injection e with e1 e2 e3
      subst e1; subst e3
      have hltz : (k : Int) < (n : Int) := by omega
      have HCk : Hid (∀ W, Below Y.heap.size Y W → W.cell? ⟨bb, off + k * 2, none⟩ = some (.string (l[k]'hkl).who) ∧ W.cell? ⟨bb, off + k * 2 + 1, none⟩ = some (.int .i64 (l[k]'hkl).ep) ∧ W.cell? ⟨w.heap.size, 0, none⟩ = some (.string who) ∧ W.cell? ⟨w.heap.size, 1, none⟩ = some (.int .i64 ep)) := fun W hbW => by
       have hvY := (HV.out.below HBY.out).below hbW
       rw [← HN.out] at hvY
       obtain ⟨bb', off', cap'', e, _, _, hcell'⟩ := hvY.at (by omega)
       injection e with e1 e2 e3
       injection e1 with e1
       injection e1 with e1 e4
       subst e1; subst e4
       obtain ⟨q0, q1⟩ := hcell' k hkl
       have hrow := (hbW.block _ (row_lt HFY.out)).trans HFY.out
       exact ⟨q0, q1, cell_of_row W _ 0 _ _ _ hrow, cell_of_row W _ 1 _ _ _ hrow⟩
      have HSt : Hid ((l.take (k + 1)).foldl (putStep f) ([], false) = putStep f (o, b) (l[k]'hkl)) := by
       show _ = _
       rw [List.take_succ_eq_append_getElem hkl, List.foldl_append, HFo.out]
       rfl
      have HLo : Hid (o.length ≤ 200000) := by have := HLn.out k; rw [HFo.out] at this; exact this
      have hst := star_who f
      rw [HWw.out] at hst
      have hfw : f.nm = who.data.toList := by unfold Fl.nm; rw [HWw.out]
      have HGo : Hid (goesF f (l[k]'hkl) = (decide ((l[k]'hkl).who.data.toList = who.data.toList) || (decide (f.nm = star) && decide ((l[k]'hkl).ep ≤ ep)))) := by show _ = _; unfold goesF; rw [hfw, HEe.out]; rfl
      have HSp : Hid (putStep f (o, b) (l[k]'hkl) = ((if who.data.toList < (l[k]'hkl).who.data.toList ∧ b = false then o ++ [f] else o) ++ (if goesF f (l[k]'hkl) = true then [] else [l[k]'hkl]), b || decide (who.data.toList < (l[k]'hkl).who.data.toList))) := by show _ = _; unfold putStep; rw [hfw]; rfl
      have HFe : Hid (f = ⟨who, ep⟩) := by show _ = _; rw [← HWw.out, ← HEe.out]
      have HXe : Hid ((l[k]'hkl) = ⟨(l[k]'hkl).who, (l[k]'hkl).ep⟩) := rfl
      have hst1 : Hid (f.nm = star → ¬ (l[k]'hkl).who.data.toList < who.data.toList) := fun e => by
       rw [← hfw, e]
       exact not_below_star (HRi.out.one _ (List.getElem_mem hkl))
      obtain ⟨c0, c1, b0, b1⟩ := HCk.out _ HBr.out
      have hl1 := less_names who (l[k]'hkl).who
      have hl2 := less_names (l[k]'hkl).who who
      have he1 := same_names (l[k]'hkl).who who
      clear hcell hvr hb hc' HFo
      generalize hgo : goesF f (l[k]'hkl) = go at *
      generalize putStep f (o, b) (l[k]'hkl) = sp at *
      generalize (l[k]'hkl) = x at *
      generalize x.who = xw at *
      generalize x.ep = xe at *
      clear hgo
      rcases names_cases who xw with ⟨hn1, hq1, hq2⟩ | ⟨hn1, hq1, hq2⟩ | ⟨hn1, hq1, hq2⟩
      ·
       rw [decide_eq_true hn1] at hl1
       rw [decide_eq_false (fun e => List.lt_irrefl _ (List.lt_trans hn1 e))] at hl2
       have hne : xw.data.toList ≠ who.data.toList := fun e => by rw [e] at hn1; exact List.lt_irrefl _ hn1
       rw [decide_eq_false hne] at he1 HGo
       clear hne
       cases b with
       | false =>
        by_cases hs1 : f.nm = star
        ·
         rw [decide_eq_true hs1] at hst HGo
         by_cases hs2 : xe ≤ ep
         ·
          have hd := decide_eq_true hs2
          rw [hd] at HGo
          clear hs1 hs2 hst1
          have HSv : Hid (sp = (o ++ [f], true)) := by
           show _ = _
           rw [HSp.out, if_pos ⟨hn1, rfl⟩, HGo.out]
           simp [hn1]
          clear HSp HGo hn1
          rw [HFe.out] at HSv
          go_wp2
          go_quiet (fail)
          obtain ⟨Wq, hW⟩ : ∃ W, wr.drewN nq = W := ⟨_, rfl⟩
          rw [hW]
          have HBq : Hid (Below Y.heap.size Y Wq) := by rw [← hW]; exact below_drewN HBr.out nq
          have HOq := hide (HOwn.out.keep (w' := Wq) (fun _ _ => by rw [← hW]; rfl))
          clear hW nq HBr HOwn c0 c1 b0 b1
          obtain ⟨c0, c1, b0, b1⟩ := HCk.out _ HBq.out
          go_wp2_with (first
           | (at_builtin; refine wpList_append_own _ rfl _ _ 54 rfl Y.heap.size 112 i0 _ 2 24 Tryz.underlying54 hi hi0 hi1 hi2 rfl (by decide) _ _ _ rfl (HOq.out.alloc _) ⟨Wq.heap.size, 0, none⟩ 1 1 (Fl.cells ⟨who, ep⟩) rfl rfl (fun j u hj => cells_src (heap_alloc_new _ _) j u hj) (cells_oneF ⟨who, ep⟩) (by have := HLo.out; unfold maxLen; omega) (by have := HLo.out; omega) (by have := HBq.out.size; simp; omega) ?_; intro v5 W5 hown' hg5 hnil5))
          have HB5 : Hid (Below Y.heap.size Y W5) := (HBq.out.alloc HBq.out.size _).grown hg5 (by have := HBq.out.size; simp; omega) (fun g hg => (HOq.out.lt g hg).1)
          have HO5 := hide (own_snoc hown')
          clear hown' hg5 hnil5 HOq HBq
          clear c0 c1 b0 b1
          obtain ⟨c0, c1, b0, b1⟩ := HCk.out _ HB5.out
          have HLt : Hid ((o ++ [Fl.mk who ep]).length ≤ 200001) := by have := HLo.out; show _ ≤ _; simp; omega
          go_wp2
          go_quiet (fail)
          obtain ⟨Wt, hW⟩ : ∃ W, W5.drewN nq = W := ⟨_, rfl⟩
          rw [hW]
          have HBt : Hid (Below Y.heap.size Y Wt) := by rw [← hW]; exact below_drewN HB5.out nq
          have HOt := hide (HO5.out.keep (w' := Wt) (fun _ _ => by rw [← hW]; rfl))
          clear hW nq HB5 HO5 c0 c1 b0 b1
          obtain ⟨c0, c1, b0, b1⟩ := HCk.out _ HBt.out
          go_wp2
          go_roundw
          case rel => exact ⟨k + 1, _, _, by omega, by go_num, rfl, HOt, (show Hid _ from by show _ = _; rw [HSt.out]; exact HSv.out), HBt⟩
          case measure => simp [intOf]; omega
         ·
          have hd := decide_eq_false hs2
          rw [hd] at HGo
          clear hs1 hs2 hst1
          have HSv : Hid (sp = (o ++ [f] ++ [x], true)) := by
           show _ = _
           rw [HSp.out, if_pos ⟨hn1, rfl⟩, HGo.out]
           simp [hn1]
          clear HSp HGo hn1
          rw [HFe.out, HXe.out] at HSv
          go_wp2
          go_quiet (fail)
          obtain ⟨Wq, hW⟩ : ∃ W, wr.drewN nq = W := ⟨_, rfl⟩
          rw [hW]
          have HBq : Hid (Below Y.heap.size Y Wq) := by rw [← hW]; exact below_drewN HBr.out nq
          have HOq := hide (HOwn.out.keep (w' := Wq) (fun _ _ => by rw [← hW]; rfl))
          clear hW nq HBr HOwn c0 c1 b0 b1
          obtain ⟨c0, c1, b0, b1⟩ := HCk.out _ HBq.out
          go_wp2_with (first
           | (at_builtin; refine wpList_append_own _ rfl _ _ 54 rfl Y.heap.size 112 i0 _ 2 24 Tryz.underlying54 hi hi0 hi1 hi2 rfl (by decide) _ _ _ rfl (HOq.out.alloc _) ⟨Wq.heap.size, 0, none⟩ 1 1 (Fl.cells ⟨who, ep⟩) rfl rfl (fun j u hj => cells_src (heap_alloc_new _ _) j u hj) (cells_oneF ⟨who, ep⟩) (by have := HLo.out; unfold maxLen; omega) (by have := HLo.out; omega) (by have := HBq.out.size; simp; omega) ?_; intro v5 W5 hown' hg5 hnil5))
          have HB5 : Hid (Below Y.heap.size Y W5) := (HBq.out.alloc HBq.out.size _).grown hg5 (by have := HBq.out.size; simp; omega) (fun g hg => (HOq.out.lt g hg).1)
          have HO5 := hide (own_snoc hown')
          clear hown' hg5 hnil5 HOq HBq
          clear c0 c1 b0 b1
          obtain ⟨c0, c1, b0, b1⟩ := HCk.out _ HB5.out
          have HLt : Hid ((o ++ [Fl.mk who ep]).length ≤ 200001) := by have := HLo.out; show _ ≤ _; simp; omega
          go_wp2
          go_quiet (fail)
          obtain ⟨Wt, hW⟩ : ∃ W, W5.drewN nq = W := ⟨_, rfl⟩
          rw [hW]
          have HBt : Hid (Below Y.heap.size Y Wt) := by rw [← hW]; exact below_drewN HB5.out nq
          have HOt := hide (HO5.out.keep (w' := Wt) (fun _ _ => by rw [← hW]; rfl))
          clear hW nq HB5 HO5 c0 c1 b0 b1
          obtain ⟨c0, c1, b0, b1⟩ := HCk.out _ HBt.out
          go_wp2_with (first
           | (at_builtin; refine wpList_append_own _ rfl _ _ 54 rfl Y.heap.size 112 i0 _ 2 24 Tryz.underlying54 hi hi0 hi1 hi2 rfl (by decide) _ _ _ rfl (HOt.out.alloc _) ⟨Wt.heap.size, 0, none⟩ 1 1 (Fl.cells ⟨xw, xe⟩) rfl rfl (fun j u hj => cells_src (heap_alloc_new _ _) j u hj) (cells_oneF ⟨xw, xe⟩) (by have := HLt.out; unfold maxLen; omega) (by have := HLt.out; omega) (by have := HBt.out.size; simp; omega) ?_; intro v9 W9 hown' hg5 hnil5))
          have HB9 : Hid (Below Y.heap.size Y W9) := (HBt.out.alloc HBt.out.size _).grown hg5 (by have := HBt.out.size; simp; omega) (fun g hg => (HOt.out.lt g hg).1)
          have HO9 := hide (own_snoc hown')
          clear hown' hg5 hnil5 HOt HBt
          clear c0 c1 b0 b1
          go_wp2
          go_roundw
          case rel => exact ⟨k + 1, _, _, by omega, by go_num, rfl, HO9, (show Hid _ from by show _ = _; rw [HSt.out]; exact HSv.out), HB9⟩
          case measure => simp [intOf]; omega
        ·
         rw [decide_eq_false hs1] at hst HGo
         clear hs1 hst1
         have HSv : Hid (sp = (o ++ [f] ++ [x], true)) := by
          show _ = _
          rw [HSp.out, if_pos ⟨hn1, rfl⟩, HGo.out]
          simp [hn1]
         clear HSp HGo hn1
         rw [HFe.out, HXe.out] at HSv
         go_wp2
         go_quiet (fail)
         obtain ⟨Wq, hW⟩ : ∃ W, wr.drewN nq = W := ⟨_, rfl⟩
         rw [hW]
         have HBq : Hid (Below Y.heap.size Y Wq) := by rw [← hW]; exact below_drewN HBr.out nq
         have HOq := hide (HOwn.out.keep (w' := Wq) (fun _ _ => by rw [← hW]; rfl))
         clear hW nq HBr HOwn c0 c1 b0 b1
         obtain ⟨c0, c1, b0, b1⟩ := HCk.out _ HBq.out
         go_wp2_with (first
          | (at_builtin; refine wpList_append_own _ rfl _ _ 54 rfl Y.heap.size 112 i0 _ 2 24 Tryz.underlying54 hi hi0 hi1 hi2 rfl (by decide) _ _ _ rfl (HOq.out.alloc _) ⟨Wq.heap.size, 0, none⟩ 1 1 (Fl.cells ⟨who, ep⟩) rfl rfl (fun j u hj => cells_src (heap_alloc_new _ _) j u hj) (cells_oneF ⟨who, ep⟩) (by have := HLo.out; unfold maxLen; omega) (by have := HLo.out; omega) (by have := HBq.out.size; simp; omega) ?_; intro v5 W5 hown' hg5 hnil5))
         have HB5 : Hid (Below Y.heap.size Y W5) := (HBq.out.alloc HBq.out.size _).grown hg5 (by have := HBq.out.size; simp; omega) (fun g hg => (HOq.out.lt g hg).1)
         have HO5 := hide (own_snoc hown')
         clear hown' hg5 hnil5 HOq HBq
         clear c0 c1 b0 b1
         obtain ⟨c0, c1, b0, b1⟩ := HCk.out _ HB5.out
         have HLt : Hid ((o ++ [Fl.mk who ep]).length ≤ 200001) := by have := HLo.out; show _ ≤ _; simp; omega
         go_wp2
         go_quiet (fail)
         obtain ⟨Wt, hW⟩ : ∃ W, W5.drewN nq = W := ⟨_, rfl⟩
         rw [hW]
         have HBt : Hid (Below Y.heap.size Y Wt) := by rw [← hW]; exact below_drewN HB5.out nq
         have HOt := hide (HO5.out.keep (w' := Wt) (fun _ _ => by rw [← hW]; rfl))
         clear hW nq HB5 HO5 c0 c1 b0 b1
         obtain ⟨c0, c1, b0, b1⟩ := HCk.out _ HBt.out
         go_wp2_with (first
          | (at_builtin; refine wpList_append_own _ rfl _ _ 54 rfl Y.heap.size 112 i0 _ 2 24 Tryz.underlying54 hi hi0 hi1 hi2 rfl (by decide) _ _ _ rfl (HOt.out.alloc _) ⟨Wt.heap.size, 0, none⟩ 1 1 (Fl.cells ⟨xw, xe⟩) rfl rfl (fun j u hj => cells_src (heap_alloc_new _ _) j u hj) (cells_oneF ⟨xw, xe⟩) (by have := HLt.out; unfold maxLen; omega) (by have := HLt.out; omega) (by have := HBt.out.size; simp; omega) ?_; intro v9 W9 hown' hg5 hnil5))
         have HB9 : Hid (Below Y.heap.size Y W9) := (HBt.out.alloc HBt.out.size _).grown hg5 (by have := HBt.out.size; simp; omega) (fun g hg => (HOt.out.lt g hg).1)
         have HO9 := hide (own_snoc hown')
         clear hown' hg5 hnil5 HOt HBt
         clear c0 c1 b0 b1
         go_wp2
         go_roundw
         case rel => exact ⟨k + 1, _, _, by omega, by go_num, rfl, HO9, (show Hid _ from by show _ = _; rw [HSt.out]; exact HSv.out), HB9⟩
         case measure => simp [intOf]; omega
       | true =>
        by_cases hs1 : f.nm = star
        ·
         rw [decide_eq_true hs1] at hst HGo
         by_cases hs2 : xe ≤ ep
         ·
          have hd := decide_eq_true hs2
          rw [hd] at HGo
          clear hs1 hs2 hst1
          have HSv : Hid (sp = (o, true)) := by
           show _ = _
           rw [HSp.out, if_neg (fun e => by cases e.2), HGo.out]
           simp [hn1]
          clear HSp HGo hn1
          go_wp2
          go_quiet (fail)
          obtain ⟨Wq, hW⟩ : ∃ W, wr.drewN nq = W := ⟨_, rfl⟩
          rw [hW]
          have HBq : Hid (Below Y.heap.size Y Wq) := by rw [← hW]; exact below_drewN HBr.out nq
          have HOq := hide (HOwn.out.keep (w' := Wq) (fun _ _ => by rw [← hW]; rfl))
          clear hW nq HBr HOwn c0 c1 b0 b1
          obtain ⟨c0, c1, b0, b1⟩ := HCk.out _ HBq.out
          have HLt : Hid (o.length ≤ 200001) := by have := HLo.out; show _ ≤ _; omega
          go_wp2
          go_quiet (fail)
          obtain ⟨Wt, hW⟩ : ∃ W, Wq.drewN nq = W := ⟨_, rfl⟩
          rw [hW]
          have HBt : Hid (Below Y.heap.size Y Wt) := by rw [← hW]; exact below_drewN HBq.out nq
          have HOt := hide (HOq.out.keep (w' := Wt) (fun _ _ => by rw [← hW]; rfl))
          clear hW nq HBq HOq c0 c1 b0 b1
          obtain ⟨c0, c1, b0, b1⟩ := HCk.out _ HBt.out
          go_wp2
          go_roundw
          case rel => exact ⟨k + 1, _, _, by omega, by go_num, rfl, HOt, (show Hid _ from by show _ = _; rw [HSt.out]; exact HSv.out), HBt⟩
          case measure => simp [intOf]; omega
         ·
          have hd := decide_eq_false hs2
          rw [hd] at HGo
          clear hs1 hs2 hst1
          have HSv : Hid (sp = (o ++ [x], true)) := by
           show _ = _
           rw [HSp.out, if_neg (fun e => by cases e.2), HGo.out]
           simp [hn1]
          clear HSp HGo hn1
          rw [HXe.out] at HSv
          go_wp2
          go_quiet (fail)
          obtain ⟨Wq, hW⟩ : ∃ W, wr.drewN nq = W := ⟨_, rfl⟩
          rw [hW]
          have HBq : Hid (Below Y.heap.size Y Wq) := by rw [← hW]; exact below_drewN HBr.out nq
          have HOq := hide (HOwn.out.keep (w' := Wq) (fun _ _ => by rw [← hW]; rfl))
          clear hW nq HBr HOwn c0 c1 b0 b1
          obtain ⟨c0, c1, b0, b1⟩ := HCk.out _ HBq.out
          have HLt : Hid (o.length ≤ 200001) := by have := HLo.out; show _ ≤ _; omega
          go_wp2
          go_quiet (fail)
          obtain ⟨Wt, hW⟩ : ∃ W, Wq.drewN nq = W := ⟨_, rfl⟩
          rw [hW]
          have HBt : Hid (Below Y.heap.size Y Wt) := by rw [← hW]; exact below_drewN HBq.out nq
          have HOt := hide (HOq.out.keep (w' := Wt) (fun _ _ => by rw [← hW]; rfl))
          clear hW nq HBq HOq c0 c1 b0 b1
          obtain ⟨c0, c1, b0, b1⟩ := HCk.out _ HBt.out
          go_wp2_with (first
           | (at_builtin; refine wpList_append_own _ rfl _ _ 54 rfl Y.heap.size 112 i0 _ 2 24 Tryz.underlying54 hi hi0 hi1 hi2 rfl (by decide) _ _ _ rfl (HOt.out.alloc _) ⟨Wt.heap.size, 0, none⟩ 1 1 (Fl.cells ⟨xw, xe⟩) rfl rfl (fun j u hj => cells_src (heap_alloc_new _ _) j u hj) (cells_oneF ⟨xw, xe⟩) (by have := HLt.out; unfold maxLen; omega) (by have := HLt.out; omega) (by have := HBt.out.size; simp; omega) ?_; intro v9 W9 hown' hg5 hnil5))
          have HB9 : Hid (Below Y.heap.size Y W9) := (HBt.out.alloc HBt.out.size _).grown hg5 (by have := HBt.out.size; simp; omega) (fun g hg => (HOt.out.lt g hg).1)
          have HO9 := hide (own_snoc hown')
          clear hown' hg5 hnil5 HOt HBt
          clear c0 c1 b0 b1
          go_wp2
          go_roundw
          case rel => exact ⟨k + 1, _, _, by omega, by go_num, rfl, HO9, (show Hid _ from by show _ = _; rw [HSt.out]; exact HSv.out), HB9⟩
          case measure => simp [intOf]; omega
        ·
         rw [decide_eq_false hs1] at hst HGo
         clear hs1 hst1
         have HSv : Hid (sp = (o ++ [x], true)) := by
          show _ = _
          rw [HSp.out, if_neg (fun e => by cases e.2), HGo.out]
          simp [hn1]
         clear HSp HGo hn1
         rw [HXe.out] at HSv
         go_wp2
         go_quiet (fail)
         obtain ⟨Wq, hW⟩ : ∃ W, wr.drewN nq = W := ⟨_, rfl⟩
         rw [hW]
         have HBq : Hid (Below Y.heap.size Y Wq) := by rw [← hW]; exact below_drewN HBr.out nq
         have HOq := hide (HOwn.out.keep (w' := Wq) (fun _ _ => by rw [← hW]; rfl))
         clear hW nq HBr HOwn c0 c1 b0 b1
         obtain ⟨c0, c1, b0, b1⟩ := HCk.out _ HBq.out
         have HLt : Hid (o.length ≤ 200001) := by have := HLo.out; show _ ≤ _; omega
         go_wp2
         go_quiet (fail)
         obtain ⟨Wt, hW⟩ : ∃ W, Wq.drewN nq = W := ⟨_, rfl⟩
         rw [hW]
         have HBt : Hid (Below Y.heap.size Y Wt) := by rw [← hW]; exact below_drewN HBq.out nq
         have HOt := hide (HOq.out.keep (w' := Wt) (fun _ _ => by rw [← hW]; rfl))
         clear hW nq HBq HOq c0 c1 b0 b1
         obtain ⟨c0, c1, b0, b1⟩ := HCk.out _ HBt.out
         go_wp2_with (first
          | (at_builtin; refine wpList_append_own _ rfl _ _ 54 rfl Y.heap.size 112 i0 _ 2 24 Tryz.underlying54 hi hi0 hi1 hi2 rfl (by decide) _ _ _ rfl (HOt.out.alloc _) ⟨Wt.heap.size, 0, none⟩ 1 1 (Fl.cells ⟨xw, xe⟩) rfl rfl (fun j u hj => cells_src (heap_alloc_new _ _) j u hj) (cells_oneF ⟨xw, xe⟩) (by have := HLt.out; unfold maxLen; omega) (by have := HLt.out; omega) (by have := HBt.out.size; simp; omega) ?_; intro v9 W9 hown' hg5 hnil5))
         have HB9 : Hid (Below Y.heap.size Y W9) := (HBt.out.alloc HBt.out.size _).grown hg5 (by have := HBt.out.size; simp; omega) (fun g hg => (HOt.out.lt g hg).1)
         have HO9 := hide (own_snoc hown')
         clear hown' hg5 hnil5 HOt HBt
         clear c0 c1 b0 b1
         go_wp2
         go_roundw
         case rel => exact ⟨k + 1, _, _, by omega, by go_num, rfl, HO9, (show Hid _ from by show _ = _; rw [HSt.out]; exact HSv.out), HB9⟩
         case measure => simp [intOf]; omega
      ·
       have hnl : ¬ who.data.toList < xw.data.toList := fun e => by rw [hn1] at e; exact List.lt_irrefl _ e
       rw [decide_eq_false (fun e => by rw [hn1] at e; exact List.lt_irrefl _ e)] at hl2
       rw [decide_eq_false hnl] at hl1
       rw [decide_eq_true hn1.symm] at he1 HGo
       have HSv : Hid (sp = (o, b)) := by
        show _ = _
        rw [HSp.out, if_neg (fun e => hnl e.1), HGo.out]
        simp [hnl]
       clear HSp HGo hn1 hnl hst hst1
       go_wp2
       go_quiet (fail)
       obtain ⟨Wq, hW⟩ : ∃ W, wr.drewN nq = W := ⟨_, rfl⟩
       rw [hW]
       have HBq : Hid (Below Y.heap.size Y Wq) := by rw [← hW]; exact below_drewN HBr.out nq
       have HOq := hide (HOwn.out.keep (w' := Wq) (fun _ _ => by rw [← hW]; rfl))
       clear hW nq HBr HOwn c0 c1 b0 b1
       obtain ⟨c0, c1, b0, b1⟩ := HCk.out _ HBq.out
       go_wp2
       go_quiet (fail)
       obtain ⟨Wt, hW⟩ : ∃ W, Wq.drewN nq = W := ⟨_, rfl⟩
       rw [hW]
       have HBt : Hid (Below Y.heap.size Y Wt) := by rw [← hW]; exact below_drewN HBq.out nq
       have HOt := hide (HOq.out.keep (w' := Wt) (fun _ _ => by rw [← hW]; rfl))
       clear hW nq HBq HOq c0 c1 b0 b1
       obtain ⟨c0, c1, b0, b1⟩ := HCk.out _ HBt.out
       go_wp2
       go_roundw
       case rel => exact ⟨k + 1, _, _, by omega, by go_num, rfl, HOt, (show Hid _ from by show _ = _; rw [HSt.out]; exact HSv.out), HBt⟩
       case measure => simp [intOf]; omega
      ·
       have hnl : ¬ who.data.toList < xw.data.toList := fun e => List.lt_irrefl _ (List.lt_trans hn1 e)
       have hne : xw.data.toList ≠ who.data.toList := fun e => by rw [e] at hn1; exact List.lt_irrefl _ hn1
       have hs1 : ¬ f.nm = star := fun e => hst1.out e hn1
       rw [decide_eq_true hn1] at hl2
       rw [decide_eq_false hnl] at hl1
       rw [decide_eq_false hne] at he1 HGo
       rw [decide_eq_false hs1] at hst HGo
       have HSv : Hid (sp = (o ++ [x], b)) := by
        show _ = _
        rw [HSp.out, if_neg (fun e => hnl e.1), HGo.out]
        simp [hnl]
       rw [HXe.out] at HSv
       have HLt : Hid (o.length ≤ 200001) := by have := HLo.out; show _ ≤ _; omega
       clear HSp HGo hn1 hnl hne hs1 hst1
       go_wp2
       go_quiet (fail)
       obtain ⟨Wq, hW⟩ : ∃ W, wr.drewN nq = W := ⟨_, rfl⟩
       rw [hW]
       have HBq : Hid (Below Y.heap.size Y Wq) := by rw [← hW]; exact below_drewN HBr.out nq
       have HOq := hide (HOwn.out.keep (w' := Wq) (fun _ _ => by rw [← hW]; rfl))
       clear hW nq HBr HOwn c0 c1 b0 b1
       obtain ⟨c0, c1, b0, b1⟩ := HCk.out _ HBq.out
       go_wp2
       go_quiet (fail)
       obtain ⟨Wt, hW⟩ : ∃ W, Wq.drewN nq = W := ⟨_, rfl⟩
       rw [hW]
       have HBt : Hid (Below Y.heap.size Y Wt) := by rw [← hW]; exact below_drewN HBq.out nq
       have HOt := hide (HOq.out.keep (w' := Wt) (fun _ _ => by rw [← hW]; rfl))
       clear hW nq HBq HOq c0 c1 b0 b1
       obtain ⟨c0, c1, b0, b1⟩ := HCk.out _ HBt.out
       go_wp2_with (first
        | (at_builtin; refine wpList_append_own _ rfl _ _ 54 rfl Y.heap.size 112 i0 _ 2 24 Tryz.underlying54 hi hi0 hi1 hi2 rfl (by decide) _ _ _ rfl (HOt.out.alloc _) ⟨Wt.heap.size, 0, none⟩ 1 1 (Fl.cells ⟨xw, xe⟩) rfl rfl (fun j u hj => cells_src (heap_alloc_new _ _) j u hj) (cells_oneF ⟨xw, xe⟩) (by have := HLt.out; unfold maxLen; omega) (by have := HLt.out; omega) (by have := HBt.out.size; simp; omega) ?_; intro v9 W9 hown' hg5 hnil5))
       have HB9 : Hid (Below Y.heap.size Y W9) := (HBt.out.alloc HBt.out.size _).grown hg5 (by have := HBt.out.size; simp; omega) (fun g hg => (HOt.out.lt g hg).1)
       have HO9 := hide (own_snoc hown')
       clear hown' hg5 hnil5 HOt HBt
       clear c0 c1 b0 b1
       go_wp2
       go_roundw
       case rel => exact ⟨k + 1, _, _, by omega, by go_num, rfl, HO9, (show Hid _ from by show _ = _; rw [HSt.out]; exact HSv.out), HB9⟩
       case measure => simp [intOf]; omega
     ·
      obtain rfl : k = n := by omega
      have hltz : ¬ (k : Int) < (k : Int) := by omega
      have HFo2 : Hid (l.foldl (putStep f) ([], false) = (o, b)) := by
       have := HFo.out
       rwa [List.take_of_length_le (by rw [HN.out]; exact Nat.le_refl _)] at this
      have HLo : Hid (o.length ≤ 200000) := by have := HLn.out k; rw [HFo.out] at this; exact this
      rw [HFo2.out] at HRl
      cases b with
      | true =>
       obtain ⟨r, hr⟩ : ∃ r, o = r := ⟨_, rfl⟩
       have HRl2 : Hid (raisedL l f = r) := by show _ = _; rw [HRl.out, ← hr]; rfl
       have HRt2 : Hid (RightF r) := by have := HRt.out; rwa [HRl2.out] at this
       subst hr
       obtain ⟨ad2, cap2, hu, hc2⟩ := HOwn.out.form
       subst hu
       by_cases hm : 21 < o.length
       ·
        have HPo : Hid (FltPost (raiseC l f) (raiseR l f) = FltPost (7, -1) []) := by
         show _ = _
         rw [HR.out] at HRR ⊢
         rw [HRR.out, HRl2.out, check_right HRt2.out, if_pos hm]
         rfl
        generalize o.length = m at *
        have hmz : (21 : Int) < (m : Int) := by omega
        go_wp2_with fail
        refine (HBare.out 7 _).mono ?_
        rintro e w5 ⟨rfl, hb5⟩
        have HB5 : Hid (Below w.heap.size w w5) := (HBY.out.trans (HBr.out.mono HBY.out.size)).trans (hb5.mono (HBY.out.trans (HBr.out.mono HBY.out.size)).size)
        have HR5 : Hid (w5.heap[w.heap.size + 1]? = some flt0) := (hb5.block _ (Nat.lt_of_lt_of_le (row_lt HRY.out) HBr.out.size)).trans ((HBr.out.block _ (row_lt HRY.out)).trans HRY.out)
        have r0 : w5.cell? ⟨w.heap.size + 1, 0, none⟩ = some (.int .i64 0) := cell_of_row w5 _ 0 _ _ _ HR5.out
        have r1 : w5.cell? ⟨w.heap.size + 1, 1, none⟩ = some (.int .i64 0) := cell_of_row w5 _ 1 _ _ _ HR5.out
        have z0 : w5.frozen? ⟨w.heap.size + 1, 0, none⟩ = false := frozen_of_row w5 _ 0 _ _ HR5.out
        have z1 : w5.frozen? ⟨w.heap.size + 1, 1, none⟩ = false := frozen_of_row w5 _ 1 _ _ HR5.out
        clear hb5
        go_wp2
        refine raiseEnd (w.heap.size + 1) _ rfl (set2_row HR5.out _ _) rfl rfl ?_
        rw [HPo.out]
        exact ⟨⟨_, rfl, Or.inl ⟨none, 0, rfl, rfl⟩⟩, (HB5.out.setCell (p := ⟨w.heap.size + 1, 0, none⟩) (Nat.le_succ _) _).setCell (p := ⟨w.heap.size + 1, 0 + 1, none⟩) (Nat.le_succ _) _⟩
       ·
        have HPo : Hid (FltPost (raiseC l f) (raiseR l f) = FltPost (0, -1) o) := by
         show _ = _
         rw [HR.out] at HRR ⊢
         rw [HRR.out, HRl2.out, check_right HRt2.out, if_neg hm]
         rfl
        have HZ := hide HOwn.out
        generalize o.length = m at *
        have hmz : ¬ (21 : Int) < (m : Int) := by omega
        go_wp2_with fail
        refine (HFine.out _).mono ?_
        rintro e w5 ⟨rfl, hb5⟩
        have HB5 : Hid (Below w.heap.size w w5) := (HBY.out.trans (HBr.out.mono HBY.out.size)).trans (hb5.mono (HBY.out.trans (HBr.out.mono HBY.out.size)).size)
        have HR5 : Hid (w5.heap[w.heap.size + 1]? = some flt0) := (hb5.block _ (Nat.lt_of_lt_of_le (row_lt HRY.out) HBr.out.size)).trans ((HBr.out.block _ (row_lt HRY.out)).trans HRY.out)
        have HZ5 := hide (HZ.out.below hb5)
        have HLy : Hid (w.heap.size + 1 < Y.heap.size) := row_lt HRY.out
        have r0 : w5.cell? ⟨w.heap.size + 1, 0, none⟩ = some (.int .i64 0) := cell_of_row w5 _ 0 _ _ _ HR5.out
        have r1 : w5.cell? ⟨w.heap.size + 1, 1, none⟩ = some (.int .i64 0) := cell_of_row w5 _ 1 _ _ _ HR5.out
        have z0 : w5.frozen? ⟨w.heap.size + 1, 0, none⟩ = false := frozen_of_row w5 _ 0 _ _ HR5.out
        have z1 : w5.frozen? ⟨w.heap.size + 1, 1, none⟩ = false := frozen_of_row w5 _ 1 _ _ HR5.out
        clear hb5
        go_wp2
        refine raiseEnd (w.heap.size + 1) _ rfl (set2_row HR5.out _ _) rfl rfl ?_
        rw [HPo.out]
        refine ⟨⟨_, rfl, (HZ5.out.keep (fun g hg => ?_)).flAt⟩, (HB5.out.setCell (p := ⟨w.heap.size + 1, 0, none⟩) (Nat.le_succ _) _).setCell (p := ⟨w.heap.size + 1, 0 + 1, none⟩) (Nat.le_succ _) _⟩
        have hgl := (HZ5.out.lt g hg).1
        have := HLy.out
        rw [heap_setCell_other _ ⟨w.heap.size + 1, 0 + 1, none⟩ g _ (by show g ≠ w.heap.size + 1; omega), heap_setCell_other _ ⟨w.heap.size + 1, 0, none⟩ g _ (by show g ≠ w.heap.size + 1; omega)]
      | false =>
       have b0 : wr.cell? ⟨w.heap.size, 0, none⟩ = some (.string who) := cell_of_row wr _ 0 _ _ _ ((HBr.out.block _ (row_lt HFY.out)).trans HFY.out)
       have b1 : wr.cell? ⟨w.heap.size, 1, none⟩ = some (.int .i64 ep) := cell_of_row wr _ 1 _ _ _ ((HBr.out.block _ (row_lt HFY.out)).trans HFY.out)
       go_wp2_with (first
        | (at_builtin; refine wpList_append_own _ rfl _ _ 54 rfl Y.heap.size 112 i0 _ 2 24 Tryz.underlying54 hi hi0 hi1 hi2 rfl (by decide) _ _ _ rfl (HOwn.out.alloc _) ⟨wr.heap.size, 0, none⟩ 1 1 (Fl.cells ⟨who, ep⟩) rfl rfl (fun j u hj => cells_src (heap_alloc_new _ _) j u hj) (cells_oneF ⟨who, ep⟩) (by have := HLo.out; unfold maxLen; omega) (by have := HLo.out; omega) (by have := HBr.out.size; simp; omega) ?_; intro v5 W5 hown' hg5 hnil5))
       have HB6 : Hid (Below Y.heap.size Y W5) := (HBr.out.alloc HBr.out.size _).grown hg5 (by have := HBr.out.size; simp; omega) (fun g hg => (HOwn.out.lt g hg).1)
       have HO5 := hide (own_snoc hown')
       clear hown' hg5 hnil5 HOwn HBr
       clear b0 b1
       have HFe : Hid (f = ⟨who, ep⟩) := by show _ = _; rw [← HWw.out, ← HEe.out]
       have HRl2 : Hid (raisedL l f = o ++ [⟨who, ep⟩]) := by show _ = _; rw [HRl.out, ← HFe.out]; rfl
       have HRt2 : Hid (RightF (o ++ [⟨who, ep⟩])) := by have := HRt.out; rwa [HRl2.out] at this
       have hlr : (o ++ [Fl.mk who ep]).length ≤ 200001 := by have := HLo.out; simp; omega
       clear HFe
       generalize o ++ [⟨who, ep⟩] = r at *
       obtain ⟨ad2, cap2, hu, hc2⟩ := HO5.out.form
       subst hu
       by_cases hm : 21 < r.length
       ·
        have HPo : Hid (FltPost (raiseC l f) (raiseR l f) = FltPost (7, -1) []) := by
         show _ = _
         rw [HR.out] at HRR ⊢
         rw [HRR.out, HRl2.out, check_right HRt2.out, if_pos hm]
         rfl
        generalize r.length = m at *
        have hmz : (21 : Int) < (m : Int) := by omega
        have hmb : (m : Int) ≤ 200001 := by omega
        have hlen : (Builtin.len_ #[54] 3 #[.slice ad2 m cap2]).run Tryz.prog W5 = .ok (.int .i64 (m : Int)) W5 := by simp [Builtin.len_, run_underlying Tryz.underlying54, goInt]
        go_wp2_with fail
        simp only [hlen, Result.andThen]
        go_wp2_with fail
        refine (HBare.out 7 _).mono ?_
        rintro e w5 ⟨rfl, hb5⟩
        have HB5 : Hid (Below w.heap.size w w5) := (HBY.out.trans (HB6.out.mono HBY.out.size)).trans (hb5.mono (HBY.out.trans (HB6.out.mono HBY.out.size)).size)
        have HR5 : Hid (w5.heap[w.heap.size + 1]? = some flt0) := (hb5.block _ (Nat.lt_of_lt_of_le (row_lt HRY.out) HB6.out.size)).trans ((HB6.out.block _ (row_lt HRY.out)).trans HRY.out)
        have r0 : w5.cell? ⟨w.heap.size + 1, 0, none⟩ = some (.int .i64 0) := cell_of_row w5 _ 0 _ _ _ HR5.out
        have r1 : w5.cell? ⟨w.heap.size + 1, 1, none⟩ = some (.int .i64 0) := cell_of_row w5 _ 1 _ _ _ HR5.out
        have z0 : w5.frozen? ⟨w.heap.size + 1, 0, none⟩ = false := frozen_of_row w5 _ 0 _ _ HR5.out
        have z1 : w5.frozen? ⟨w.heap.size + 1, 1, none⟩ = false := frozen_of_row w5 _ 1 _ _ HR5.out
        clear hb5
        go_wp2
        refine raiseEnd (w.heap.size + 1) _ rfl (set2_row HR5.out _ _) rfl rfl ?_
        rw [HPo.out]
        exact ⟨⟨_, rfl, Or.inl ⟨none, 0, rfl, rfl⟩⟩, (HB5.out.setCell (p := ⟨w.heap.size + 1, 0, none⟩) (Nat.le_succ _) _).setCell (p := ⟨w.heap.size + 1, 0 + 1, none⟩) (Nat.le_succ _) _⟩
       ·
        have HPo : Hid (FltPost (raiseC l f) (raiseR l f) = FltPost (0, -1) r) := by
         show _ = _
         rw [HR.out] at HRR ⊢
         rw [HRR.out, HRl2.out, check_right HRt2.out, if_neg hm]
         rfl
        have HZ := hide HO5.out
        generalize r.length = m at *
        have hmz : ¬ (21 : Int) < (m : Int) := by omega
        go_wp2_with fail
        refine (HFine.out _).mono ?_
        rintro e w5 ⟨rfl, hb5⟩
        have HB5 : Hid (Below w.heap.size w w5) := (HBY.out.trans (HB6.out.mono HBY.out.size)).trans (hb5.mono (HBY.out.trans (HB6.out.mono HBY.out.size)).size)
        have HR5 : Hid (w5.heap[w.heap.size + 1]? = some flt0) := (hb5.block _ (Nat.lt_of_lt_of_le (row_lt HRY.out) HB6.out.size)).trans ((HB6.out.block _ (row_lt HRY.out)).trans HRY.out)
        have HZ5 := hide (HZ.out.below hb5)
        have HLy : Hid (w.heap.size + 1 < Y.heap.size) := row_lt HRY.out
        have r0 : w5.cell? ⟨w.heap.size + 1, 0, none⟩ = some (.int .i64 0) := cell_of_row w5 _ 0 _ _ _ HR5.out
        have r1 : w5.cell? ⟨w.heap.size + 1, 1, none⟩ = some (.int .i64 0) := cell_of_row w5 _ 1 _ _ _ HR5.out
        have z0 : w5.frozen? ⟨w.heap.size + 1, 0, none⟩ = false := frozen_of_row w5 _ 0 _ _ HR5.out
        have z1 : w5.frozen? ⟨w.heap.size + 1, 1, none⟩ = false := frozen_of_row w5 _ 1 _ _ HR5.out
        clear hb5
        go_wp2
        refine raiseEnd (w.heap.size + 1) _ rfl (set2_row HR5.out _ _) rfl rfl ?_
        rw [HPo.out]
        refine ⟨⟨_, rfl, (HZ5.out.keep (fun g hg => ?_)).flAt⟩, (HB5.out.setCell (p := ⟨w.heap.size + 1, 0, none⟩) (Nat.le_succ _) _).setCell (p := ⟨w.heap.size + 1, 0 + 1, none⟩) (Nat.le_succ _) _⟩
        have hgl := (HZ5.out.lt g hg).1
        have := HLy.out
        rw [heap_setCell_other _ ⟨w.heap.size + 1, 0 + 1, none⟩ g _ (by show g ≠ w.heap.size + 1; omega), heap_setCell_other _ ⟨w.heap.size + 1, 0, none⟩ g _ (by show g ≠ w.heap.size + 1; omega)]
  ·
   rw [if_neg h2] at HR
   rw [HR.out, if_neg (show ¬ ((c1, (-1 : Int)).1 = 0) from h2)] at HRR
   rw [HR.out, HRR.out]
   have hq : ((c1 : Int) == 0) = false := by rw [beq_eq_false_iff_ne]; omega
   have hq2 : (0 : Int) < (c1 : Int) := by omega
   clear HR HRR HOf2 hone h2 HRi hright h21
   generalize f.who = who at *
   generalize f.ep = ep at *
   go_enter Tryz.func141, Tryz.ntmps141
   go_wp2_with fail
   refine (HFF.out _ (HV.out.below HW0.out.1)).mono ?_
   rintro e w1 ⟨rfl, hb⟩
   have HB1 : Hid (Below w.heap.size w w1) := HW0.out.1.trans (hb.mono HW0.out.1.size)
   have HF1 : Hid (w1.heap[w.heap.size]? = some (.cells #[.string who, .int .i64 ep] 112 (0, 0))) := (hb.block _ (row_lt HW0.out.2.1)).trans HW0.out.2.1
   have HR1 : Hid (w1.heap[w.heap.size + 1]? = some flt0) := (hb.block _ (row_lt HW0.out.2.2)).trans HW0.out.2.2
   have c0 : w1.cell? ⟨w.heap.size, 0, none⟩ = some (.string who) := cell_of_row w1 _ 0 _ _ _ HF1.out
   have c1' : w1.cell? ⟨w.heap.size, 1, none⟩ = some (.int .i64 ep) := cell_of_row w1 _ 1 _ _ _ HF1.out
   have HLt : Hid (w.heap.size < w1.heap.size) := row_lt HF1.out
   have hlt := HLt.out
   clear hb HFF HW0
   go_wp2_with fail
   refine (HOne.out _).mono ?_
   rintro e w3 ⟨rfl, hb3⟩
   have HB3 := hide hb3
   clear hb3 HOne
   go_wp2_with fail
   refine (HBare.out _ _).mono ?_
   rintro e w4 ⟨rfl, hb4⟩
   have HB4 : Hid (Below (w1.heap.size + 1) (w1.alloc (.cells #[.int .i64 0, .int .i64 (-1)] 98)) w4) := by
    have h3 := HB3.out
    rw [World.size_alloc] at h3
    exact h3.trans (hb4.mono (by have := h3.size; rw [World.size_alloc] at this; exact this))
   have HG4 : Hid (w4.heap[w1.heap.size]? = some (.cells #[.int .i64 0, .int .i64 (-1)] 98 (0, 0))) := (HB4.out.block _ (by omega)).trans (heap_alloc_new _ _)
   have HO4 : Hid (∀ k, k < w1.heap.size → w4.heap[k]? = w1.heap[k]?) := fun k hk => (HB4.out.block k (by omega)).trans (Below.heap_alloc _ _ _ hk)
   clear hb4 HB3 c0 c1' hlt
   have g0 : w4.cell? ⟨w1.heap.size, 0, none⟩ = some (.int .i64 0) := cell_of_row w4 _ 0 _ _ _ HG4.out
   have g1 : w4.cell? ⟨w1.heap.size, 1, none⟩ = some (.int .i64 (-1)) := cell_of_row w4 _ 1 _ _ _ HG4.out
   have gz0 : w4.frozen? ⟨w1.heap.size, 0, none⟩ = false := frozen_of_row w4 _ 0 _ _ HG4.out
   have gz1 : w4.frozen? ⟨w1.heap.size, 1, none⟩ = false := frozen_of_row w4 _ 1 _ _ HG4.out
   go_wp2
   obtain ⟨X, hX⟩ : ∃ X, (w4.setCell ⟨w1.heap.size, 0, none⟩ (.int .i64 (c1 : Int))).setCell ⟨w1.heap.size, 0 + 1, none⟩ (.int .i64 (-1)) = X := ⟨_, rfl⟩
   have HG : Hid (X.heap[w1.heap.size]? = some (.cells #[.int .i64 (c1 : Int), .int .i64 (-1)] 98 (0, 0))) := by rw [← hX]; exact set2_row HG4.out _ _
   have HOX : Hid (∀ k, k < w1.heap.size → X.heap[k]? = w1.heap[k]?) := fun k hk => by
    rw [← hX, heap_setCell_other _ ⟨w1.heap.size, 0 + 1, none⟩ k _ (by show k ≠ w1.heap.size; omega), heap_setCell_other _ ⟨w1.heap.size, 0, none⟩ k _ (by show k ≠ w1.heap.size; omega)]
    exact HO4.out k hk
   have HBX : Hid (Below w.heap.size w X) := by
    rw [← hX]
    have hs := HB1.out.size
    have hb5 : Below w.heap.size w w4 := (HB1.out.alloc hs (.cells #[.int .i64 0, .int .i64 (-1)] 98)).trans (HB4.out.mono (by omega))
    exact (hb5.setCell (p := ⟨w1.heap.size, 0, none⟩) hs _).setCell (p := ⟨w1.heap.size, 0 + 1, none⟩) hs _
   have HRX : Hid (X.heap[w.heap.size + 1]? = some flt0) := (HOX.out _ (row_lt HR1.out)).trans HR1.out
   clear g0 g1 gz0 gz1
   rw [hX]
   clear hX
   have x0 : X.cell? ⟨w1.heap.size, 0, none⟩ = some (.int .i64 (c1 : Int)) := cell_of_row X _ 0 _ _ _ HG.out
   have x1 : X.cell? ⟨w1.heap.size, 1, none⟩ = some (.int .i64 (-1)) := cell_of_row X _ 1 _ _ _ HG.out
   have y0 : X.drew.cell? ⟨w1.heap.size, 0, none⟩ = some (.int .i64 (c1 : Int)) := x0
   have y1 : X.drew.cell? ⟨w1.heap.size, 1, none⟩ = some (.int .i64 (-1)) := x1
   have r0 : X.cell? ⟨w.heap.size + 1, 0, none⟩ = some (.int .i64 0) := cell_of_row X _ 0 _ _ _ HRX.out
   have r1 : X.cell? ⟨w.heap.size + 1, 1, none⟩ = some (.int .i64 0) := cell_of_row X _ 1 _ _ _ HRX.out
   have s0 : X.drew.cell? ⟨w.heap.size + 1, 0, none⟩ = some (.int .i64 0) := r0
   have s1 : X.drew.cell? ⟨w.heap.size + 1, 1, none⟩ = some (.int .i64 0) := r1
   have z0 : X.frozen? ⟨w.heap.size + 1, 0, none⟩ = false := frozen_of_row X _ 0 _ _ HRX.out
   have z1 : X.frozen? ⟨w.heap.size + 1, 1, none⟩ = false := frozen_of_row X _ 1 _ _ HRX.out
   have q0 : X.drew.frozen? ⟨w.heap.size + 1, 0, none⟩ = false := z0
   have q1 : X.drew.frozen? ⟨w.heap.size + 1, 1, none⟩ = false := z1
   go_region
   all_goals
    go_wp2
    refine raiseEnd (w.heap.size + 1) _ rfl (set2_row (w := X.drew) HRX.out _ _) rfl rfl ?_
    exact ⟨⟨_, rfl, Or.inl ⟨none, 0, rfl, rfl⟩⟩, (HBX.out.drew.setCell (p := ⟨w.heap.size + 1, 0, none⟩) (Nat.le_succ _) _).setCell (p := ⟨w.heap.size + 1, 0 + 1, none⟩) (Nat.le_succ _) _⟩
 ·
  rw [if_neg h1] at HR
  rw [HR.out, if_neg h1] at HRR
  rw [HR.out, HRR.out]
  clear HR HRR HOf
  have hz : ((checkL l).1 : Int) ≠ 0 := by omega
  have hq : (((checkL l).1 : Int) == 0) = false := by rw [beq_eq_false_iff_ne]; exact hz
  have hq2 : (0 : Int) < ((checkL l).1 : Int) := by omega
  generalize checkL l = c at *
  generalize f.who = who at *
  generalize f.ep = ep at *
  clear h1 hz
  go_enter Tryz.func141, Tryz.ntmps141
  go_wp2_with fail
  refine (HFF.out _ (HV.out.below HW0.out.1)).mono ?_
  rintro e w1 ⟨rfl, hb⟩
  have HB1 : Hid (Below w.heap.size w w1) := HW0.out.1.trans (hb.mono HW0.out.1.size)
  have HR1 : Hid (w1.heap[w.heap.size + 1]? = some flt0) := (hb.block _ (row_lt HW0.out.2.2)).trans HW0.out.2.2
  clear hb HFF
  go_wp2
  obtain ⟨X, hX⟩ : ∃ X, w1.alloc (.cells #[.int .i64 (c.1 : Int), .int .i64 c.2] 98) = X := ⟨_, rfl⟩
  have HBX : Hid (Below w.heap.size w X) := by rw [← hX]; exact HB1.out.alloc HB1.out.size _
  have HG : Hid (X.heap[w1.heap.size]? = some (.cells #[.int .i64 (c.1 : Int), .int .i64 c.2] 98 (0, 0))) := by rw [← hX]; exact heap_alloc_new _ _
  have HRX : Hid (X.heap[w.heap.size + 1]? = some flt0) := by rw [← hX]; exact (Below.heap_alloc _ _ _ (row_lt HR1.out)).trans HR1.out
  rw [hX]
  clear hX
  have x0 : X.cell? ⟨w1.heap.size, 0, none⟩ = some (.int .i64 (c.1 : Int)) := cell_of_row X _ 0 _ _ _ HG.out
  have x1 : X.cell? ⟨w1.heap.size, 1, none⟩ = some (.int .i64 c.2) := cell_of_row X _ 1 _ _ _ HG.out
  have y0 : X.drew.cell? ⟨w1.heap.size, 0, none⟩ = some (.int .i64 (c.1 : Int)) := x0
  have y1 : X.drew.cell? ⟨w1.heap.size, 1, none⟩ = some (.int .i64 c.2) := x1
  have r0 : X.cell? ⟨w.heap.size + 1, 0, none⟩ = some (.int .i64 0) := cell_of_row X _ 0 _ _ _ HRX.out
  have r1 : X.cell? ⟨w.heap.size + 1, 1, none⟩ = some (.int .i64 0) := cell_of_row X _ 1 _ _ _ HRX.out
  have s0 : X.drew.cell? ⟨w.heap.size + 1, 0, none⟩ = some (.int .i64 0) := r0
  have s1 : X.drew.cell? ⟨w.heap.size + 1, 1, none⟩ = some (.int .i64 0) := r1
  have z0 : X.frozen? ⟨w.heap.size + 1, 0, none⟩ = false := frozen_of_row X _ 0 _ _ HRX.out
  have z1 : X.frozen? ⟨w.heap.size + 1, 1, none⟩ = false := frozen_of_row X _ 1 _ _ HRX.out
  have q0 : X.drew.frozen? ⟨w.heap.size + 1, 0, none⟩ = false := z0
  have q1 : X.drew.frozen? ⟨w.heap.size + 1, 1, none⟩ = false := z1
  go_region
  all_goals
   go_wp2
   refine raiseEnd (w.heap.size + 1) _ rfl (set2_row (w := X.drew) HRX.out _ _) rfl rfl ?_
   exact ⟨⟨_, rfl, Or.inl ⟨none, 0, rfl, rfl⟩⟩, (HBX.out.drew.setCell (p := ⟨w.heap.size + 1, 0, none⟩) (Nat.le_succ _) _).setCell (p := ⟨w.heap.size + 1, 0 + 1, none⟩) (Nat.le_succ _) _⟩
end Go.Proofs.YtabpnjchocgakaaGreatDoor

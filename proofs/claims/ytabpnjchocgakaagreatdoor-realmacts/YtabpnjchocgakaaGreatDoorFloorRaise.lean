/-
  What package floor's raised does to a row of one's own, and what Raise gives: the list with the floor raised, in new memory, or an error; for every list and floor.
-/
import Derived.Test.YtabpnjchocgakaaGreatDoorFloorInsert
import Derived.Deep.RegionHeld3
namespace Go.Proofs.YtabpnjchocgakaaGreatDoor
open Go.RowKit Go.Extern.Stop Go.Stop Go.Extern Go.Proofs
theorem own_ne {w : World} {B fb : Nat} {v : Value} {l : List Fl} (h : OwnF w B v l) (hw : w.heap.size ≤ fb) : v.ownBlock ≠ some fb := fun e => by
 have := (h.lt fb e).2
 omega
set_option maxRecDepth 100000 in
set_option maxHeartbeats 4000000 in
theorem raised_any (B : Nat) (f : Fl) (v : Value) (l : List Fl) (w : World) (hv : OwnF w B v l) (hr : RisingF l) (hB : B ≤ w.heap.size) (hl : l.length ≤ 900000) :
  Calls Tryz.prog 110 #[v, f.val] w fun e w' => ∃ v', e = .returned v' ∧ OwnF w' B v' (raisedL l f) ∧ Below B w w' := by
 have HB0 : Hid (Below w.heap.size w (w.alloc (.cells #[.string f.who, .int .i64 f.ep] 112))) := (Below.refl _ _).alloc (Nat.le_refl _) _
 have HC0 : Hid ((w.alloc (.cells #[.string f.who, .int .i64 f.ep] 112)).heap[w.heap.size]? = some (flO f)) := heap_alloc_new _ _
 have HV := hide hv
 have HO := hide (fun w h => floorOf_any v l f.who w h hr (by omega))
 show Calls Tryz.prog 110 #[v, .agg #[.string f.who, .int .i64 f.ep]] w _
 have HNe := hide (own_ne hv (Nat.le_refl _))
 have hge : (f.ep ≤ ofL l f.who.data.toList ∧ raisedL l f = l) ∨ (ofL l f.who.data.toList < f.ep ∧ raisedL l f = putF (keptF l f) f) := by
  unfold raisedL Fl.nm
  by_cases e : f.ep ≤ ofL l f.who.data.toList
  ·
   exact Or.inl ⟨e, if_pos e⟩
  ·
   exact Or.inr ⟨by omega, if_neg e⟩
 have HD := hide (fun w1 h1 h2 => deleteFunc_any B w.heap.size f v l w1 h1 h2 HNe.out (by omega))
 have HF := hide (fun v1 w1 (h1 : FlAt w1 v1 (keptF l f)) => find_any v1 (keptF l f) f.who w1 h1 (rising_kept hr f) (Nat.le_trans (List.length_filter_le _ _) (by omega)))
 have HI := hide (fun vb v1 w1 h1 h2 h3 h4 => insert_any B vb f v1 (keptF l f) w1 (placeF (keptF l f) f.nm) h1 h2 h3 h4 (Nat.le_trans (List.length_filter_le _ _) (by omega)) (place_le _ _))
 have HP : Hid (putF (keptF l f) f = (keptF l f).take (placeF (keptF l f) f.nm) ++ f :: (keptF l f).drop (placeF (keptF l f) f.nm)) := rfl
 have HFo : Hid (flO f = .cells #[.string f.who, .int .i64 f.ep] 112 (0, 0)) := rfl
 have hnm : f.nm = f.who.data.toList := rfl
 rw [← HP.out, hnm] at HI
 generalize raisedL l f = res at *
 generalize hasF (keptF l f) f.who.data.toList = ha at *
 generalize placeF (keptF l f) f.who.data.toList = pl at *
 generalize ofL l f.who.data.toList = m at *
 clear hv hr HP hnm
 generalize f.who = who at *
 generalize f.ep = ep at *
 have HE0 := hide (HV.out.below HB0.out)
 rcases hge with ⟨hge, hres⟩ | ⟨hge, hres⟩
 ·
  have HRes := hide hres
  clear hres HD HF HI
  go_enter Tryz.func110, Tryz.ntmps110
  go_wp2_with fail
  generalize hw2 : w.alloc (.cells #[.string who, .int .i64 ep] 112) = w2 at *
  have hrow : w2.heap[w.heap.size]? = some (.cells #[.string who, .int .i64 ep] 112 (0, 0)) := by rw [← HFo.out]; exact HC0.out
  have hd0 : w2.cell? ⟨w.heap.size, 0, none⟩ = some (.string who) := cell_of_row w2 _ 0 _ _ _ hrow
  have hd1 : w2.cell? ⟨w.heap.size, 1, none⟩ = some (.int .i64 ep) := cell_of_row w2 _ 1 _ _ _ hrow
  have hgl : w.heap.size < w2.heap.size := row_lt hrow
  have z0 := fun p : BelowAt w2 => p.cell hd0 hgl
  have z1 := fun p : BelowAt w2 => p.cell hd1 hgl
  have any1 : Nonempty (BelowAt w2) := BelowAt.any w2
  have HCa : Hid (∀ p : BelowAt w2, Calls Tryz.prog 19 #[v, .string who] p.to fun e w'' => e = .returned (.int .i64 m) ∧ ∃ q : BelowAt w2, w'' = q.to) := fun p => BelowAt.calls (HO.out p.to (HE0.out.flAt.below p.below))
  clear hd0 hd1 hrow
  refine wp_region_below (by kernel_rfl) (by kernel_rfl) ?_
  repeat (go_big_quiet_step (exact HCa.out _))
  refine wpQuiet_nil ?_
  intro _ hw'
  obtain ⟨pq, hw''⟩ := hw'
  subst hw''
  have HB3 : Hid (Below w.heap.size w pq.to) := HB0.out.trans (pq.below.mono HB0.out.size)
  clear z0 z1 HCa
  go_wp2
  go_ret
  exact ⟨_, rfl, by rw [HRes.out]; exact HV.out.below HB3.out, HB3.out.mono hB⟩
 ·
  have HRes := hide hres
  clear hres
  have hnot : ¬ ep ≤ m := by omega
  go_enter Tryz.func110, Tryz.ntmps110
  go_wp2_with fail
  generalize hw2 : w.alloc (.cells #[.string who, .int .i64 ep] 112) = w2 at *
  have hrow : w2.heap[w.heap.size]? = some (.cells #[.string who, .int .i64 ep] 112 (0, 0)) := by rw [← HFo.out]; exact HC0.out
  have hd0 : w2.cell? ⟨w.heap.size, 0, none⟩ = some (.string who) := cell_of_row w2 _ 0 _ _ _ hrow
  have hd1 : w2.cell? ⟨w.heap.size, 1, none⟩ = some (.int .i64 ep) := cell_of_row w2 _ 1 _ _ _ hrow
  have hgl : w.heap.size < w2.heap.size := row_lt hrow
  have z0 := fun p : BelowAt w2 => p.cell hd0 hgl
  have z1 := fun p : BelowAt w2 => p.cell hd1 hgl
  have any1 : Nonempty (BelowAt w2) := BelowAt.any w2
  have HCa : Hid (∀ p : BelowAt w2, Calls Tryz.prog 19 #[v, .string who] p.to fun e w'' => e = .returned (.int .i64 m) ∧ ∃ q : BelowAt w2, w'' = q.to) := fun p => BelowAt.calls (HO.out p.to (HE0.out.flAt.below p.below))
  clear hd0 hd1 hrow
  refine wp_region_below (by kernel_rfl) (by kernel_rfl) ?_
  repeat (go_big_quiet_step (exact HCa.out _))
  refine wpQuiet_nil ?_
  intro _ hw'
  obtain ⟨pq, hw''⟩ := hw'
  subst hw''
  have HB3 : Hid (Below w.heap.size w pq.to) := HB0.out.trans (pq.below.mono HB0.out.size)
  have HR3 : Hid (pq.to.heap[w.heap.size]? = some (flO f)) := (pq.below.block _ hgl).trans HC0.out
  clear z0 z1 HCa HC0 HE0 HB0
  generalize pq.to = w3 at *
  clear pq any1 hgl hw2
  go_wp2_with fail
  refine (HD.out w3 HR3.out (HV.out.below HB3.out)).mono ?_
  rintro e w4 ⟨v1, rfl, hown, hblk, hgrow⟩
  have HO4 := hide hown
  have HB4 : Hid (Below B w w4) := (HB3.out.mono hB).grown hgrow (Nat.le_trans hB HB3.out.size) (fun q hq => (HV.out.lt q hq).1)
  have HR4 : Hid (w4.heap[w.heap.size]? = some (flO f)) := by
   show _ = _
   rw [hgrow.block _ (row_lt HR3.out) (Ne.symm HNe.out)]
   exact HR3.out
  have HNe4 : Hid (v1.ownBlock ≠ some w.heap.size) := by show _ ≠ _; rw [hblk]; exact HNe.out
  have hrow : w4.heap[w.heap.size]? = some (.cells #[.string who, .int .i64 ep] 112 (0, 0)) := by rw [← HFo.out]; exact HR4.out
  have hd0 : w4.cell? ⟨w.heap.size, 0, none⟩ = some (.string who) := cell_of_row w4 _ 0 _ _ _ hrow
  clear hown hblk hgrow hrow
  go_wp2_with fail
  refine (HF.out v1 w4 HO4.out.flAt).mono ?_
  rintro e w5 ⟨rfl, hb⟩
  have HO5 := hide (HO4.out.below hb)
  have HB5 : Hid (Below B w w5) := HB4.out.trans (hb.mono (Nat.le_trans hB HB4.out.size))
  have hrow : w5.heap[w.heap.size]? = some (.cells #[.string who, .int .i64 ep] 112 (0, 0)) := by rw [hb.block _ (row_lt HR4.out), ← HFo.out]; exact HR4.out
  have he0 : w5.cell? ⟨w.heap.size, 0, none⟩ = some (.string who) := cell_of_row w5 _ 0 _ _ _ hrow
  have he1 : w5.cell? ⟨w.heap.size, 1, none⟩ = some (.int .i64 ep) := cell_of_row w5 _ 1 _ _ _ hrow
  have HI2 : Hid (Calls Tryz.prog 161 #[v1, .int .i64 pl, .slice (some ⟨w5.heap.size, 0, none⟩) 1 1] (w5.alloc (.cells #[.string who, .int .i64 ep] 112)) fun e w' => ∃ v', e = .returned v' ∧ OwnF w' B v' (putF (keptF l f) f) ∧ Below B (w5.alloc (.cells #[.string who, .int .i64 ep] 112)) w') :=
   HI.out w5.heap.size v1 _ (by rw [HFo.out]; exact heap_alloc_new _ _) (HO5.out.alloc _) (own_ne HO5.out (Nat.le_refl _)) (by have := HB5.out.size; simp; omega)
  have HB6 : Hid (Below B w (w5.alloc (.cells #[.string who, .int .i64 ep] 112))) := HB5.out.alloc (Nat.le_trans hB HB5.out.size) _
  clear hb hrow hd0 HI
  go_wp2_with fail
  refine HI2.out.mono ?_
  rintro e w7 ⟨v2, rfl, hown, hb⟩
  go_wp2
  go_ret
  exact ⟨_, rfl, by rw [HRes.out]; exact hown, HB6.out.trans hb⟩
set_option maxRecDepth 100000 in
set_option maxHeartbeats 1000000 in
theorem clone_any (v : Value) (l : List Fl) (w : World) (hv : FlAt w v l) (hl : l.length ≤ 1000000) :
  Calls Tryz.prog 111 #[v] w fun e w' => ∃ v', e = .returned v' ∧ OwnF w' w.heap.size v' l ∧ Below w.heap.size w w' := by
 obtain ⟨i0, hi, hz0, hz1, hz2⟩ := info_parts Tryz.infoFloor
 rcases hv with ⟨ad, cap, rfl, rfl⟩ | ⟨b, off, cap, rfl, hc, hcell⟩
 ·
  cases ad with
  | none => exact (AnyE.slices_Clone_nil Tryz.cloneF 0 cap w).mono fun e w' ⟨h1, h2⟩ => ⟨_, h1, OwnF.nil _ _, by rw [h2]; exact Below.refl _ _⟩
  | some ad =>
   have q22 : ∀ (w : World) (a : Option Addr) (n c n' c' : Nat), (binOp .eql 54 (.slice a n c) (.slice none n' c')).run Tryz.prog w = .ok (.bool a.isNone) w := fun w a n c n' c' => Lib.run_eql_slice_nil w _ _ a n c n' c' Tryz.underlying54
   go_enter Tryz.func111, Tryz.ntmps111
   go_wp2_with (at_builtin; refine wpList_append_own _ rfl _ _ 54 rfl w.heap.size 112 i0 _ 2 24 Tryz.underlying54 hi hz0 hz1 hz2 rfl (by decide) _ _ _ rfl (World.ownsRow_made w #[] 0 (Nat.le_refl _) (Nat.zero_le _) (by simp)) ad 0 cap [] rfl rfl (fun j u hj => by simp at hj) (by simp) (by unfold maxLen; omega) (by omega) (by simp) ?_; intro v' w1 hown hgrow hnil)
   go_wp2
   go_ret
   exact ⟨v', rfl, (by show w1.ownsRow w.heap.size 112 2 v' 0 []; simpa using hown), ((Below.refl _ w).alloc (Nat.le_refl _) _).grown hgrow (by simp) (fun k hk => by have e : w.heap.size = k := Option.some.inj hk; omega)⟩
 ·
  exact (AnyE.slices_Clone Tryz.cloneF i0 _ 2 24 hi hz0 hz1 hz2 rfl (by decide) Tryz.sizeOf112 b off l.length cap (cellsF l) w (cellsF_len l) (by unfold maxLen; omega) (by omega) hcell (cellsF_one l)).mono fun e w' ⟨v', h1, h2, _, h4⟩ => ⟨v', h1, h2, h4⟩
def raiseC (l : List Fl) (f : Fl) : Nat × Int := if (checkL l).1 = 0 then (if oneE f = 0 then checkL (raisedL l f) else (oneE f, -1)) else checkL l
def raiseR (l : List Fl) (f : Fl) : List Fl := if (raiseC l f).1 = 0 then raisedL l f else []
def ListPost (a : Nat → Addr) (c : Nat × Int) (r : List Fl) (B : Nat) (e : Ending) (w' : World) : Prop := ∃ v' ev, e = .returned (.tuple #[v', ev]) ∧ OwnF w' B v' r ∧ FlErr a w' c ev ∧ (c.1 ≠ 0 → v' = .slice none 0 0)
theorem FlErr.plain {a : Nat → Addr} {w : World} {c : Nat} (hc : c ≠ 0) : FlErr a w (c, -1) (eV (a (c - 1))) := Or.inr (Or.inl ⟨hc, rfl, rfl⟩)
theorem small_raised {l : List Fl} {f : Fl} (h : ∀ g ∈ l, g.who.size ≤ maxLen) (hf : f.who.size ≤ maxLen) : ∀ g ∈ raisedL l f, g.who.size ≤ maxLen := by
 intro g hg
 unfold raisedL at hg
 split at hg
 ·
  exact h g hg
 ·
  rcases mem_putF.1 hg with e | e
  ·
   rw [e]; exact hf
  ·
   exact h g (mem_keptF.1 e).1
theorem len_raised (l : List Fl) (f : Fl) : (raisedL l f).length ≤ l.length + 1 := by
 unfold raisedL
 split
 ·
  omega
 ·
  unfold putF
  have := List.length_filter_le (fun o => !goesF f o) l
  have e : (keptF l f).length = (l.filter (fun o => !goesF f o)).length := rfl
  rw [List.length_append, List.length_take, List.length_cons, List.length_drop]
  omega
set_option maxRecDepth 100000 in
set_option maxHeartbeats 4000000 in
theorem raise_any (a : Nat → Addr) (v : Value) (l : List Fl) (f : Fl) (w : World) (h : EV flS a w) (hv : FlAt w v l) (hs : ∀ g ∈ l, g.who.size ≤ maxLen) (hfs : f.who.size ≤ maxLen) (hl : l.length ≤ 800000) :
  Calls Tryz.prog 57 #[v, f.val] w fun e w' => ListPost a (raiseC l f) (raiseR l f) w.heap.size e w' ∧ Below w.heap.size w w' := by
 have HB0 : Hid (Below w.heap.size w (w.alloc (.cells #[.string f.who, .int .i64 f.ep] 112))) := (Below.refl _ _).alloc (Nat.le_refl _) _
 have HC0 : Hid ((w.alloc (.cells #[.string f.who, .int .i64 f.ep] 112)).heap[w.heap.size]? = some (.cells #[.string f.who, .int .i64 f.ep] 112 (0, 0))) := heap_alloc_new _ _
 have HE := hide h
 have HV := hide hv
 have HCh := hide (fun w h hv => check_any a v l w h hv hs (by omega))
 have HOn := hide (fun w h => checkOne_any a f w h hfs)
 have HCl := hide (fun w h => clone_any v l w h (by omega))
 have HRa := hide (fun B v w h hr hB => raised_any B f v l w h hr hB (by omega))
 have HCk := hide (fun v w h hv => checked_fl a v (raisedL l f) w h hv (small_raised hs hfs) (by have := len_raised l f; omega))
 have HR : Hid (raiseC l f = if (checkL l).1 = 0 then (if oneE f = 0 then checkL (raisedL l f) else (oneE f, -1)) else checkL l) := rfl
 have HRR : Hid (raiseR l f = if (raiseC l f).1 = 0 then raisedL l f else []) := rfl
 have HRi : Hid ((checkL l).1 = 0 → RisingF l) := fun h => (right_of_check h).1.rising
 unfold Fl.val at HOn HRa ⊢
 clear h hv hs hfs
 generalize raiseR l f = rr at *
 generalize raiseC l f = rc at *
 generalize raisedL l f = rd at *
 generalize checkL rd = cr at *
 generalize checkL l = cl at *
 generalize oneE f = c1 at *
 generalize f.who = who at *
 generalize f.ep = ep at *
 by_cases h1 : cl.1 = 0
 ·
  have hri := HRi.out h1
  rw [if_pos h1] at HR
  by_cases h2 : c1 = 0
  ·
   rw [if_pos h2] at HR
   rw [h2, errV_zero] at HOn
   have HRis := hide hri
   go_enter Tryz.func57, Tryz.ntmps57
   go_wp2_with fail
   refine (HCh.out _ (HE.out.below HB0.out) (HV.out.below HB0.out)).mono ?_
   rintro e w1 ⟨ev, rfl, he, hb⟩
   obtain rfl := he.none h1
   have HB1 : Hid (Below w.heap.size w w1) := HB0.out.trans (hb.mono HB0.out.size)
   have HRo1 : Hid (w1.heap[w.heap.size]? = some (.cells #[.string who, .int .i64 ep] 112 (0, 0))) := by show _ = _; rw [hb.block _ (by simp)]; exact HC0.out
   have hc0 : w1.cell? ⟨w.heap.size, 0, none⟩ = some (.string who) := cell_of_row w1 _ 0 _ _ _ HRo1.out
   have hc1 : w1.cell? ⟨w.heap.size, 1, none⟩ = some (.int .i64 ep) := cell_of_row w1 _ 1 _ _ _ HRo1.out
   clear he hb HC0 HB0 hri
   go_wp2_with fail
   refine (HOn.out _ (HE.out.below HB1.out)).mono ?_
   rintro e w2 ⟨rfl, hb⟩
   have HB2 : Hid (Below w.heap.size w w2) := HB1.out.trans (hb.mono HB1.out.size)
   have HRo2 : Hid (w2.heap[w.heap.size]? = some (.cells #[.string who, .int .i64 ep] 112 (0, 0))) := by show _ = _; rw [hb.block _ (row_lt HRo1.out)]; exact HRo1.out
   clear hb hc0 hc1 HB1 HRo1
   have hc0 : w2.cell? ⟨w.heap.size, 0, none⟩ = some (.string who) := cell_of_row w2 _ 0 _ _ _ HRo2.out
   have hc1 : w2.cell? ⟨w.heap.size, 1, none⟩ = some (.int .i64 ep) := cell_of_row w2 _ 1 _ _ _ HRo2.out
   have HCl2 := hide (HCl.out w2.drew ((HV.out.below HB2.out).below ((Below.refl _ _).drew)))
   have HLt := hide (row_lt HRo2.out)
   go_wp2_with fail
   by_cases h3 : cr.1 = 0
   ·
    have HH3 := hide h3
    clear h3 h1 h2
    go_region_held (fun w' => w'.cell? ⟨w.heap.size, 0, none⟩ = some (.string who) ∧ w'.cell? ⟨w.heap.size, 1, none⟩ = some (.int .i64 ep)) (go_keep)
     (first
      | (go_at_call 111; refine HCl2.out.mono ?_; rintro e w6 ⟨v6, rfl, hown, hb⟩; have HO6 := hide hown; have HB6 : Hid (Below w2.heap.size w2 w6) := (((Below.refl _ w2).drew).trans hb); have HW6 : Hid (w6.heap[w.heap.size]? = some (.cells #[.string who, .int .i64 ep] 112 (0, 0))) := (HB6.out.block _ HLt.out).trans HRo2.out; have e1 : w6.cell? ⟨w.heap.size, 0, none⟩ = some (.string who) := cell_of_row w6 _ 0 _ _ _ HW6.out; have e2 : w6.cell? ⟨w.heap.size, 1, none⟩ = some (.int .i64 ep) := cell_of_row w6 _ 1 _ _ _ HW6.out; clear hown hb HCl2)
      | (go_at_call 110; refine (HRa.out w2.heap.size v6 w6 HO6.out HRis.out HB6.out.size).mono ?_; rintro e w7 ⟨v7, rfl, hown, hb⟩; have HO7 := hide hown; have HB7 : Hid (Below w2.heap.size w2 w7) := HB6.out.trans hb; have HW7 : Hid (w7.heap[w.heap.size]? = some (.cells #[.string who, .int .i64 ep] 112 (0, 0))) := (HB7.out.block _ HLt.out).trans HRo2.out; have e3 : w7.cell? ⟨w.heap.size, 0, none⟩ = some (.string who) := cell_of_row w7 _ 0 _ _ _ HW7.out; have e4 : w7.cell? ⟨w.heap.size, 1, none⟩ = some (.int .i64 ep) := cell_of_row w7 _ 1 _ _ _ HW7.out; clear hown hb HRa)
      | (go_at_call 109; refine (HCk.out v7 w7 (HE.out.below (HB2.out.trans (HB7.out.mono HB2.out.size))) HO7.out.flAt).mono ?_; rintro e w8 ⟨hcp, hb⟩; obtain rfl := hcp.yes HH3.out; clear hcp; have HO8 := hide (HO7.out.below hb); have HB8 : Hid (Below w2.heap.size w2 w8) := HB7.out.trans (hb.mono HB7.out.size); have HW8 : Hid (w8.heap[w.heap.size]? = some (.cells #[.string who, .int .i64 ep] 112 (0, 0))) := (HB8.out.block _ HLt.out).trans HRo2.out; have e5 : w8.cell? ⟨w.heap.size, 0, none⟩ = some (.string who) := cell_of_row w8 _ 0 _ _ _ HW8.out; have e6 : w8.cell? ⟨w.heap.size, 1, none⟩ = some (.int .i64 ep) := cell_of_row w8 _ 1 _ _ _ HW8.out; clear hb HCk))
    go_wp2
    go_ret2
    have hrc : rc.1 = 0 := by rw [HR.out]; exact HH3.out
    exact ⟨⟨_, _, rfl, by rw [HRR.out, if_pos hrc]; exact OwnF.less HO8.out HB2.out.size, Or.inl ⟨hrc, rfl⟩, fun h => absurd hrc h⟩, HB2.out.trans (HB8.out.mono HB2.out.size)⟩
   ·
    have HH3 := hide h3
    clear h3 h1 h2
    go_region_held (fun w' => w'.cell? ⟨w.heap.size, 0, none⟩ = some (.string who) ∧ w'.cell? ⟨w.heap.size, 1, none⟩ = some (.int .i64 ep)) (go_keep)
     (first
      | (go_at_call 111; refine HCl2.out.mono ?_; rintro e w6 ⟨v6, rfl, hown, hb⟩; have HO6 := hide hown; have HB6 : Hid (Below w2.heap.size w2 w6) := (((Below.refl _ w2).drew).trans hb); have HW6 : Hid (w6.heap[w.heap.size]? = some (.cells #[.string who, .int .i64 ep] 112 (0, 0))) := (HB6.out.block _ HLt.out).trans HRo2.out; have e1 : w6.cell? ⟨w.heap.size, 0, none⟩ = some (.string who) := cell_of_row w6 _ 0 _ _ _ HW6.out; have e2 : w6.cell? ⟨w.heap.size, 1, none⟩ = some (.int .i64 ep) := cell_of_row w6 _ 1 _ _ _ HW6.out; clear hown hb HCl2)
      | (go_at_call 110; refine (HRa.out w2.heap.size v6 w6 HO6.out HRis.out HB6.out.size).mono ?_; rintro e w7 ⟨v7, rfl, hown, hb⟩; have HO7 := hide hown; have HB7 : Hid (Below w2.heap.size w2 w7) := HB6.out.trans hb; have HW7 : Hid (w7.heap[w.heap.size]? = some (.cells #[.string who, .int .i64 ep] 112 (0, 0))) := (HB7.out.block _ HLt.out).trans HRo2.out; have e3 : w7.cell? ⟨w.heap.size, 0, none⟩ = some (.string who) := cell_of_row w7 _ 0 _ _ _ HW7.out; have e4 : w7.cell? ⟨w.heap.size, 1, none⟩ = some (.int .i64 ep) := cell_of_row w7 _ 1 _ _ _ HW7.out; clear hown hb HRa)
      | (go_at_call 109; refine (HCk.out v7 w7 (HE.out.below (HB2.out.trans (HB7.out.mono HB2.out.size))) HO7.out.flAt).mono ?_; rintro e w8 ⟨hcp, hb⟩; obtain ⟨tt, pp, rfl, herr⟩ := hcp.no HH3.out; have HEr := hide herr; clear hcp herr; have HO8 := hide (HO7.out.below hb); have HB8 : Hid (Below w2.heap.size w2 w8) := HB7.out.trans (hb.mono HB7.out.size); have HW8 : Hid (w8.heap[w.heap.size]? = some (.cells #[.string who, .int .i64 ep] 112 (0, 0))) := (HB8.out.block _ HLt.out).trans HRo2.out; have e5 : w8.cell? ⟨w.heap.size, 0, none⟩ = some (.string who) := cell_of_row w8 _ 0 _ _ _ HW8.out; have e6 : w8.cell? ⟨w.heap.size, 1, none⟩ = some (.int .i64 ep) := cell_of_row w8 _ 1 _ _ _ HW8.out; clear hb HCk))
    go_wp2
    go_ret2
    have hrc : ¬ rc.1 = 0 := by rw [HR.out]; exact HH3.out
    exact ⟨⟨_, _, rfl, by rw [HRR.out, if_neg hrc]; exact OwnF.nil _ _, by rw [HR.out]; exact HEr.out, fun _ => rfl⟩, HB2.out.trans (HB8.out.mono HB2.out.size)⟩
  ·
   rw [if_neg h2] at HR
   rw [errV_pos a h2] at HOn
   have HH2 := hide h2
   go_enter Tryz.func57, Tryz.ntmps57
   go_wp2_with fail
   refine (HCh.out _ (HE.out.below HB0.out) (HV.out.below HB0.out)).mono ?_
   rintro e w1 ⟨ev, rfl, he, hb⟩
   obtain rfl := he.none h1
   have HB1 : Hid (Below w.heap.size w w1) := HB0.out.trans (hb.mono HB0.out.size)
   have HRo1 : Hid (w1.heap[w.heap.size]? = some (.cells #[.string who, .int .i64 ep] 112 (0, 0))) := by show _ = _; rw [hb.block _ (by simp)]; exact HC0.out
   have hc0 : w1.cell? ⟨w.heap.size, 0, none⟩ = some (.string who) := cell_of_row w1 _ 0 _ _ _ HRo1.out
   have hc1 : w1.cell? ⟨w.heap.size, 1, none⟩ = some (.int .i64 ep) := cell_of_row w1 _ 1 _ _ _ HRo1.out
   clear he hb HC0 HB0 h1 h2
   go_wp2_with fail
   refine (HOn.out _ (HE.out.below HB1.out)).mono ?_
   rintro e w2 ⟨rfl, hb⟩
   have HB2 : Hid (Below w.heap.size w w2) := HB1.out.trans (hb.mono HB1.out.size)
   clear hb hc0 hc1 HB1 HRo1
   generalize hea : a (c1 - 1) = ea at *
   have HEa := hide hea
   clear hea
   go_wp2
   go_ret2
   have hrc : ¬ rc.1 = 0 := by rw [HR.out]; exact HH2.out
   exact ⟨⟨_, _, rfl, by rw [HRR.out, if_neg hrc]; exact OwnF.nil _ _, by rw [HR.out]; exact Or.inr (Or.inl ⟨HH2.out, rfl, by rw [← HEa.out]; rfl⟩), fun _ => rfl⟩, HB2.out⟩
 ·
  rw [if_neg h1] at HR
  have HH1 := hide h1
  clear h1
  go_enter Tryz.func57, Tryz.ntmps57
  go_wp2_with fail
  refine (HCh.out _ (HE.out.below HB0.out) (HV.out.below HB0.out)).mono ?_
  rintro e w1 ⟨ev, rfl, he, hb⟩
  have HEr := hide he
  have HB1 : Hid (Below w.heap.size w w1) := HB0.out.trans (hb.mono HB0.out.size)
  rcases he.cases with ⟨e0, _⟩ | ⟨_, tt, pp, rfl⟩
  ·
   exact absurd e0 HH1.out
  ·
   clear he hb
   go_wp2
   go_ret2
   have hrc : ¬ rc.1 = 0 := by rw [HR.out]; exact HH1.out
   exact ⟨⟨_, _, rfl, by rw [HRR.out, if_neg hrc]; exact OwnF.nil _ _, by rw [HR.out]; exact HEr.out, fun _ => rfl⟩, HB1.out⟩
end Go.Proofs.YtabpnjchocgakaaGreatDoor

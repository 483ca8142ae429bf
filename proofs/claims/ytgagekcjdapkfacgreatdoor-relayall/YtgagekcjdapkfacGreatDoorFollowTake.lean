/-
  What package follow's Take gives, and what it does to the follower: its block is written, and nothing else, and only where it gives no error; for every follower, text and entries.
-/
import Derived.Test.YtgagekcjdapkfacGreatDoorFollowDo
import Derived.Deep.DeepCutAuto
import Derived.RegionTactic
namespace Go.Proofs.YtgagekcjdapkfacGreatDoor
open Go.RowKit Go.Extern.Stop Go.Stop Go.Extern Go.Proofs

/-- The number of Take's error. -/
def takeC (s : Fo) (h : ByteArray) (m : List En) : Nat :=
  if openHC s.key h.data.toList = 0 then
    (if (openHR s.key h.data.toList).t < s.time then 12
     else if (openHR s.key h.data.toList).n = (s.l.length : Int) + (m.length : Int) then
      (if (feedC (s.l ++ m)).1 = 0 then (if tellsB (openHR s.key h.data.toList) (s.l ++ m) = true then 0 else 9) else (feedC (s.l ++ m)).1)
     else 15)
  else openHC s.key h.data.toList
/-- The follower behind a Take without an error. -/
def takeS (s : Fo) (h : ByteArray) (m : List En) : Fo := ⟨s.key, s.l ++ m, h, (openHR s.key h.data.toList).t⟩
def FoPost (a : Nat → Addr) (w : World) (p : Nat) (c : Nat) (s' : Fo) (e : Ending) (w' : World) : Prop :=
  (c ≠ 0 ∧ e = .returned (errV a c) ∧ Below w.heap.size w w') ∨ (c = 0 ∧ e = .returned .nilIface ∧ w.grownBy w' (some p) ∧ ∃ v', FoAt w' p v' s')
theorem FoPost.err {a : Nat → Addr} {w w' : World} {p c : Nat} {s' : Fo} (hc : c ≠ 0) (hb : Below w.heap.size w w') : FoPost a w p c s' (.returned (eV (a (c - 1)))) w' := Or.inl ⟨hc, by rw [errV_pos a hc], hb⟩
theorem fo_frozen {w : World} {p : Nat} {key time : Int} {v : Value} {head : ByteArray} (h : w.heap[p]? = some (foO key v head time)) :
    w.frozen? ⟨p, 0, none⟩ = false ∧ w.frozen? ⟨p, 1, none⟩ = false ∧ w.frozen? ⟨p, 2, none⟩ = false ∧ w.frozen? ⟨p, 3, none⟩ = false :=
  ⟨frozen_of_row w p 0 _ _ h, frozen_of_row w p 1 _ _ h, frozen_of_row w p 2 _ _ h, frozen_of_row w p 3 _ _ h⟩

theorem grownOf {w w' : World} (h : Below w.heap.size w w') (row : Option Nat) : w.grownBy w' row := ⟨h.os, h.tape, h.output, h.size, fun k hk _ => h.block k hk⟩
/-- A follower whose block was written. -/
theorem fo_put {w : World} {p : Nat} {key st : Int} {v0 v : Value} {sh : ByteArray} {l : List En} (h : w.heap[p]? = some (foO key v0 sh st)) (ho : OwnE w 0 v l) (hd : ByteArray) (t : Int) :
    FoAt (((w.setCell ⟨p, 1, none⟩ v).setCell ⟨p, 2, none⟩ (.string hd)).setCell ⟨p, 3, none⟩ (.int .i64 t)).drew p v ⟨key, l, hd, t⟩ ∧ w.grownBy (((w.setCell ⟨p, 1, none⟩ v).setCell ⟨p, 2, none⟩ (.string hd)).setCell ⟨p, 3, none⟩ (.int .i64 t)).drew (some p) := by
  have h1 := heap_setCell_same w p 1 _ _ v h
  have h2 := heap_setCell_same _ p 2 _ _ (.string hd) h1
  have h3 := heap_setCell_same _ p 3 _ _ (.int .i64 t) h2
  have hk : ∀ g, g ≠ p → (((w.setCell ⟨p, 1, none⟩ v).setCell ⟨p, 2, none⟩ (.string hd)).setCell ⟨p, 3, none⟩ (.int .i64 t)).heap[g]? = w.heap[g]? := fun g hg => by
    rw [Below.heap_setCell _ _ _ g hg, Below.heap_setCell _ _ _ g hg, Below.heap_setCell _ _ _ g hg]
  refine ⟨⟨h3, ho.keep (fun g e => hk g (fun e2 => ho.ne h (by rw [e, e2])))⟩, ?_⟩
  have hb : Below 0 w (((w.setCell ⟨p, 1, none⟩ v).setCell ⟨p, 2, none⟩ (.string hd)).setCell ⟨p, 3, none⟩ (.int .i64 t)).drew := ((((Below.refl 0 w).setCell (Nat.zero_le _) _).setCell (Nat.zero_le _) _).setCell (Nat.zero_le _) _).drew
  exact ⟨hb.os, hb.tape, hb.output, hb.size, fun k _ hk2 => hk k (by simpa using hk2)⟩

set_option maxRecDepth 100000 in
set_option maxHeartbeats 8000000 in
theorem foTake_any (a : Nat → Addr) (p : Nat) (v : Value) (s : Fo) (h : ByteArray) (vl : Value) (m : List En) (w : World) (hE : EnvW a w) (hF : FoAt w p v s) (hv : EnAt w vl m) (hs1 : ∀ e ∈ s.l, e.fl.who.size ≤ maxLen) (hs2 : ∀ e ∈ m, e.fl.who.size ≤ maxLen) (hl : s.l.length + m.length ≤ 1000000) :
    Calls Tryz.prog 35 #[.pointer (some ⟨p, 0, none⟩), .string h, vl] w fun e w' => FoPost a w p (takeC s h m) (takeS s h m) e w' := by
  have HOp := hide (fdOpen_any a s.key h w hE.f)
  have HE := hide hE
  have HF := hide hF
  have HVm := hide hv
  have hsb : ∀ e ∈ s.l ++ m, e.fl.who.size ≤ maxLen := fun e he => (List.mem_append.1 he).elim (hs1 e) (hs2 e)
  have hlb : (s.l ++ m).length ≤ 1000000 := by rw [List.length_append]; exact hl
  have HCat := hide (fun b v1 v2 w h0 h1 hv1 hv2 => concat_any b v1 v2 s.l m w h0 h1 hv1 hv2 hl)
  have HCk := hide (fun v w h hv => fdCheck_any a v (s.l ++ m) w h hv hsb hlb)
  have HTl := hide (fun v w hh hv => foTells_any a (openHR s.key h.data.toList) v (s.l ++ m) w hh hv hsb hlb)
  have HTc : Hid (takeC s h m = if openHC s.key h.data.toList = 0 then
    (if (openHR s.key h.data.toList).t < s.time then 12
     else if (openHR s.key h.data.toList).n = (s.l.length : Int) + (m.length : Int) then
      (if (feedC (s.l ++ m)).1 = 0 then (if tellsB (openHR s.key h.data.toList) (s.l ++ m) = true then 0 else 9) else (feedC (s.l ++ m)).1)
     else 15)
    else openHC s.key h.data.toList) := rfl
  have HNew : Hid (takeS s h m = ⟨s.key, s.l ++ m, h, (openHR s.key h.data.toList).t⟩) := rfl
  have hwr : IntKind.i64.wrap ((s.l.length : Int) + (m.length : Int)) = (s.l.length : Int) + (m.length : Int) := by rw [IntKind.wrap_i64]; omega
  obtain ⟨q0, q1, q2, q3⟩ := fo_cells hF.row
  have hpl : p < w.heap.size := row_lt hF.row
  have HRow := hide hF.row
  obtain ⟨ad1, cap1, rfl, hcap1⟩ := hF.en.form
  obtain ⟨ad2, cap2, rfl, hcap2⟩ := hv.form
  clear hE hF hv hs1 hs2 hsb hlb
  generalize takeS s h m = s' at *
  generalize takeC s h m = tc at *
  generalize openHC s.key h.data.toList = oc at *
  generalize tellsB (openHR s.key h.data.toList) (s.l ++ m) = tb at *
  generalize openHR s.key h.data.toList = H at *
  generalize feedC (s.l ++ m) = fc at *
  obtain ⟨hn, ht, hsm⟩ := H
  unfold Hd.val at HOp HTl
  dsimp only at HOp HTc HNew HTl
  generalize hn1 : s.l.length = n1 at *
  generalize hn2 : m.length = n2 at *
  clear hn1 hn2
  generalize s.key = key at *
  generalize s.time = st at *
  generalize s.head = sh at *
  go_enter Tryz.func35, Tryz.ntmps35
  go_wp2_with fail
  refine HOp.out.mono ?_
  rintro e w1 ⟨rfl, hb⟩
  have HB1 := hide hb
  clear hb HOp
  by_cases hoc : oc = 0
  · rw [hoc, errV_zero]
    have HTc2 : Hid (tc = (if ht < st then 12 else if hn = (n1 : Int) + (n2 : Int) then (if fc.1 = 0 then (if tb = true then 0 else 9) else fc.1) else 15)) := HTc.out.trans (if_pos hoc)
    clear HTc hoc
    have HB2 : Hid (Below w.heap.size w (w1.alloc (hdO ⟨hn, ht, hsm⟩))) := HB1.out.alloc HB1.out.size _
    have HR2 : Hid ((w1.alloc (hdO ⟨hn, ht, hsm⟩)).heap[w1.heap.size]? = some (hdO ⟨hn, ht, hsm⟩)) := heap_alloc_new _ _
    go_upto_region 4 with fail
    obtain ⟨W2, hW2⟩ : ∃ W, w1.alloc (.cells #[.int .i64 hn, .int .i64 ht, .int .i64 hsm] 36) = W := ⟨_, rfl⟩
    rw [hW2] at HB2 HR2 ⊢
    have hgb : w.heap.size ≤ w1.heap.size := HB1.out.size
    generalize w1.heap.size = gb at *
    clear HB1 hW2 w1
    obtain ⟨c0, c1, c2, cfr⟩ := row_cells HR2.out
    dsimp only at c0 c1 c2
    clear cfr
    have p1 : W2.cell? ⟨p, 1, none⟩ = _ := (HB2.out.cell (p := ⟨p, 1, none⟩) hpl).trans q1
    have p3 : W2.cell? ⟨p, 3, none⟩ = _ := (HB2.out.cell (p := ⟨p, 3, none⟩) hpl).trans q3
    by_cases hlate : ht < st
    · have hz : tc = 12 := HTc2.out.trans (if_pos hlate)
      subst hz
      have hvv : ∀ nq, (W2.drewN nq).cell? ⟨3, 0, none⟩ = some (eV (a 11)) := fun nq => (HE.out.below HB2.out).errs.var 11 (by decide) rfl
      go_quiet (fail)
      go_wp2
      go_ret
      exact FoPost.err (by decide) (below_drewN HB2.out _)
    · rw [if_neg hlate] at HTc2
      go_quiet (fail)
      go_upto_region 6 with fail
      have HB3 : Hid (Below w.heap.size w (W2.drewN nq)) := below_drewN HB2.out nq
      have HR3 : Hid ((W2.drewN nq).heap[gb]? = some (hdO ⟨hn, ht, hsm⟩)) := HR2.out
      obtain ⟨W3, hW3⟩ : ∃ W, W2.drewN nq = W := ⟨_, rfl⟩
      rw [hW3] at HB3 HR3 ⊢
      clear hW3 HB2 HR2 c0 c1 c2 p1 p3 hlate
      obtain ⟨c0, c1, c2, cfr⟩ := row_cells HR3.out
      dsimp only at c0 c1 c2
      clear cfr
      have p1 : W3.cell? ⟨p, 1, none⟩ = _ := (HB3.out.cell (p := ⟨p, 1, none⟩) hpl).trans q1
      by_cases hgap : hn = (n1 : Int) + (n2 : Int)
      · rw [if_pos hgap] at HTc2
        have hgz : (hn != (n1 : Int) + (n2 : Int)) = false := by rw [hgap]; simp
        clear hgap
        go_quiet (fail)
        go_upto_region 8 with fail
        have HB4 : Hid (Below w.heap.size w (W3.drewN nq)) := below_drewN HB3.out nq
        have HR4 : Hid ((W3.drewN nq).heap[gb]? = some (hdO ⟨hn, ht, hsm⟩)) := HR3.out
        obtain ⟨W4, hW4⟩ : ∃ W, W3.drewN nq = W := ⟨_, rfl⟩
        rw [hW4] at HB4 HR4 ⊢
        clear hW4 HB3 HR3 c0 c1 c2 p1 hgz
        have p1 : W4.cell? ⟨p, 1, none⟩ = _ := (HB4.out.cell (p := ⟨p, 1, none⟩) hpl).trans q1
        have HB5 : Hid (Below W4.heap.size W4 (W4.alloc (.cells #[.slice ad1 n1 cap1, .slice ad2 n2 cap2] 22))) := (Below.refl _ _).alloc (Nat.le_refl _) _
        have HR5 : Hid ((W4.alloc (.cells #[.slice ad1 n1 cap1, .slice ad2 n2 cap2] 22)).heap[W4.heap.size]? = some (.cells #[.slice ad1 n1 cap1, .slice ad2 n2 cap2] 22 (0, 0))) := heap_alloc_new _ _
        go_wp2_with fail
        refine (HCat.out _ _ _ _ (cell_of_row _ _ 0 _ _ _ HR5.out) (cell_of_row _ _ 1 _ _ _ HR5.out) (((HF.out.below HB4.out).below HB5.out).en) ((HVm.out.below HB4.out).below HB5.out)).mono ?_
        rintro e w6 ⟨v6, rfl, hown, hb⟩
        have hb46 : Below W4.heap.size W4 w6 := HB5.out.trans (hb.mono HB5.out.size)
        have HB6 : Hid (Below w.heap.size w w6) := HB4.out.trans (hb46.mono HB4.out.size)
        have HR6 : Hid (w6.heap[gb]? = some (hdO ⟨hn, ht, hsm⟩)) := (hb46.block gb (row_lt HR4.out)).trans HR4.out
        have HO6 : Hid (OwnE w6 0 v6 (s.l ++ m)) := OwnE.less hown (Nat.zero_le _)
        clear hown hb hb46 HB5 HR5 p1 HCat HB4 HR4
        go_wp2_with fail
        refine (HCk.out _ _ (HE.out.below HB6.out).f.errs HO6.out.enAt).mono ?_
        rintro e w7 ⟨ev, rfl, herr, hb⟩
        have HB7 : Hid (Below w.heap.size w w7) := HB6.out.trans (hb.mono HB6.out.size)
        have HR7 : Hid (w7.heap[gb]? = some (hdO ⟨hn, ht, hsm⟩)) := (hb.block gb (row_lt HR6.out)).trans HR6.out
        have HO7 : Hid (OwnE w7 0 v6 (s.l ++ m)) := HO6.out.below hb
        have HEr := hide herr
        clear hb HCk HB6 HR6 HO6
        rcases herr.cases with ⟨z0, rfl⟩ | ⟨z0, tt, pp, rfl⟩
        · rw [if_pos z0] at HTc2
          clear herr HEr z0
          obtain ⟨c0, c1, c2, cfr⟩ := row_cells HR7.out
          dsimp only at c0 c1 c2
          clear cfr
          go_wp2_with fail
          refine (HTl.out _ _ (HE.out.below HB7.out).f HO7.out.enAt).mono ?_
          rintro e w8 ⟨rfl, hb⟩
          have HB8 : Hid (Below w.heap.size w w8) := HB7.out.trans (hb.mono HB7.out.size)
          have HR8 : Hid (w8.heap[gb]? = some (hdO ⟨hn, ht, hsm⟩)) := (hb.block gb (row_lt HR7.out)).trans HR7.out
          have HO8 : Hid (OwnE w8 0 v6 (s.l ++ m)) := HO7.out.below hb
          clear hb HTl HB7 HR7 HO7 c0 c1 c2
          cases tb with
          | true =>
            have hz : tc = 0 := HTc2.out
            subst hz
            have HRp : Hid (w8.heap[p]? = some (foO key (.slice ad1 n1 cap1) sh st)) := (HB8.out.block p hpl).trans HRow.out
            have hgp : gb ≠ p := by omega
            have hpg : p ≠ gb := by omega
            obtain ⟨c0, c1, c2, cfr⟩ := row_cells HR8.out
            dsimp only at c0 c1 c2
            clear cfr
            obtain ⟨p0, p1, p2, p3⟩ := fo_cells HRp.out
            obtain ⟨f0, f1, f2, f3⟩ := fo_frozen HRp.out
            clear q0 q1 q2 q3
            obtain ⟨ad6, cap6, rfl, _⟩ := HO8.out.enAt.form
            generalize (s.l ++ m).length = n6 at *
            go_wp2
            go_region
            go_wp2
            go_ret
            obtain ⟨hf, hg⟩ := fo_put HRp.out HO8.out h ht
            exact Or.inr ⟨rfl, rfl, (grownOf HB8.out (some p)).trans hg, _, by rw [HNew.out]; exact hf⟩
          | false =>
            have hz : tc = 9 := HTc2.out
            subst hz
            have hvv : w8.cell? ⟨4, 0, none⟩ = some (eV (a 8)) := (HE.out.below HB8.out).errs.var 8 (by decide) rfl
            go_wp2
            go_ret
            exact FoPost.err (by decide) HB8.out
        · rw [if_neg z0] at HTc2
          have HZ := hide z0
          have HBr := hide (foBare_any a fc (.iface tt pp) w7 (HE.out.below HB7.out) HEr.out z0)
          clear herr HEr z0
          go_wp2_with fail
          refine HBr.out.mono ?_
          rintro e w8 ⟨rfl, hb⟩
          have HB8 : Hid (Below w.heap.size w w8) := HB7.out.trans (hb.mono HB7.out.size)
          have HEv : Hid (∀ ev, ev = errV a fc.1 → FoPost a w p tc s' (.returned ev) w8) := fun ev h => by
            have h1 := HTc2.out
            have h2 := HZ.out
            exact Or.inl ⟨by rw [h1]; exact h2, by rw [h, h1], HB8.out⟩
          generalize errV a fc.1 = ev8 at *
          clear hb HBr
          go_wp2
          go_ret
          exact HEv.out _ rfl
      · rw [if_neg hgap] at HTc2
        have hz : tc = 15 := HTc2.out
        subst hz
        have hgz : (hn != (n1 : Int) + (n2 : Int)) = true := by rw [bne_iff_ne]; exact hgap
        have hvv : ∀ nq, (W3.drewN nq).cell? ⟨2, 0, none⟩ = some (eV (a 14)) := fun nq => (HE.out.below HB3.out).errs.var 14 (by decide) rfl
        clear hgap
        go_quiet (fail)
        go_wp2
        go_ret
        exact FoPost.err (by decide) (below_drewN HB3.out _)
  · have hz : tc = oc := HTc.out.trans (if_neg hoc)
    subst hz
    rw [errV_pos a hoc]
    have HEnd : Hid (∀ ea w', ea = a (tc - 1) → Below w.heap.size w w' → FoPost a w p tc s' (.returned (eV ea)) w') := fun ea w' h hb => by rw [h]; exact FoPost.err hoc hb
    have HB2 : Hid (Below w.heap.size w (w1.alloc (hdO ⟨hn, ht, hsm⟩))) := HB1.out.alloc HB1.out.size _
    obtain ⟨ea, hea⟩ : ∃ ea, ea = a (tc - 1) := ⟨_, rfl⟩
    have HEa := hide hea
    rw [← hea]
    clear HTc hoc hea
    go_wp2
    go_ret
    exact HEnd.out _ _ HEa.out HB2.out
end Go.Proofs.YtgagekcjdapkfacGreatDoor

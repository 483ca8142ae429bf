/-
  What package ticket's read gives: of words the ticket, or ErrText where they are none of a ticket, or Check's error; for every slice of texts.
-/
import Derived.Test.YtgagekcjdapkfabGreatDoorTicketRead
namespace Go.Proofs.YtgagekcjdapkfabGreatDoor
open Go.RowKit Go.Extern.Stop Go.Stop Go.Extern

/-- The block of read's four numbers, k of them laid. -/
def num4 (ys : List ByteArray) (k j : Nat) : Value := .int .i64 (if j < k then (Sl.valL (ys.getD j ⟨#[]⟩).data.toList : Int) else 0)
def arr4 (ys : List ByteArray) (k : Nat) : Array Value := #[num4 ys k 0, num4 ys k 1, num4 ys k 2, num4 ys k 3]
theorem arr4_0 (ys : List ByteArray) : arr4 ys 0 = #[.int .i64 0, .int .i64 0, .int .i64 0, .int .i64 0] := rfl
theorem arr4_4 (y0 y1 y2 y3 : ByteArray) : arr4 [y0, y1, y2, y3] 4 = #[.int .i64 (Sl.valL y0.data.toList), .int .i64 (Sl.valL y1.data.toList), .int .i64 (Sl.valL y2.data.toList), .int .i64 (Sl.valL y3.data.toList)] := rfl
theorem arr4_set (y0 y1 y2 y3 : ByteArray) (k : Nat) (hk : k < 4) (v : Int) (hv : v = (Sl.valL ([y0, y1, y2, y3].getD k ⟨#[]⟩).data.toList : Int)) : (arr4 [y0, y1, y2, y3] k).setIfInBounds k (.int .i64 v) = arr4 [y0, y1, y2, y3] (k + 1) := by
  subst hv
  match k, hk with
  | 0, _ => rfl
  | 1, _ => rfl
  | 2, _ => rfl
  | 3, _ => rfl

theorem numB_max (l : List UInt8) : numB l 9223372036854775807 = Sl.numOk l := by
  unfold numB
  cases h : Sl.numOk l with
  | false => rfl
  | true =>
    obtain ⟨h1, h2, _⟩ := (Sl.numOk_iff l).1 h
    have := Sl.valL_lt l h2 h1.2
    rw [decide_eq_true (by omega)]
    rfl
theorem numV_max (l : List UInt8) (h : Sl.numOk l = true) : numV l 9223372036854775807 = (Sl.valL l : Int) := by
  unfold numV
  rw [numB_max, if_pos h]

set_option maxRecDepth 100000 in
set_option maxHeartbeats 2000000 in
theorem read_len (a : Nat → Addr) (ad : Option Addr) (n c : Nat) (w : World) (h : Env a w) (hn : n ≠ 7) :
    Calls Tryz.prog 46 #[.slice ad n c] w fun e w' => e = .returned (.tuple #[tk0.val, eV (a 0)]) ∧ Below w.heap.size w w' := by
  have hv := h.errs.later 0 (by decide)
  simp only [errG, List.getD_cons_zero] at hv
  have hn2 : ((n : Int) != 7) = true := by rw [bne_iff_ne]; omega
  clear h hn
  go_enter Tryz.func46, Tryz.ntmps46
  go_wp2
  go_region
  go_wp2
  refine tkEnd rfl w.heap.size tk0 rfl (heap_alloc_new _ _) rfl ?_
  exact ⟨rfl, ((Below.refl _ w).alloc (Nat.le_refl _) _).drew⟩

set_option maxRecDepth 100000 in
set_option maxHeartbeats 2000000 in
theorem read_kind (a : Nat → Addr) (b o c : Nat) (x0 : ByteArray) (w : World) (h : Env a w) (hx : w.cell? ⟨b, o, none⟩ = some (.string x0)) (hk : x0.data.toList ≠ tickL) :
    Calls Tryz.prog 46 #[.slice (some ⟨b, o, none⟩) 7 c] w fun e w' => e = .returned (.tuple #[tk0.val, eV (a 0)]) ∧ Below w.heap.size w w' := by
  have hv := h.errs.later 0 (by decide)
  simp only [errG, List.getD_cons_zero] at hv
  have hx2 : ∀ O, (w.alloc O).cell? ⟨b, o, none⟩ = some (.string x0) := fun O => by
    rw [((Below.refl w.heap.size w).alloc (Nat.le_refl _) O).cell (p := ⟨b, o, none⟩) (cell_lt hx)]; exact hx
  have hq : (x0.toList == [116, 105, 99, 107, 101, 116]) = false := by
    rw [beq_eq_false_iff_ne, Go.ByteArray.toList_eq]
    exact hk
  clear h hk hx
  go_enter Tryz.func46, Tryz.ntmps46
  go_wp2
  go_region
  go_wp2
  refine tkEnd rfl w.heap.size tk0 rfl (heap_alloc_new _ _) rfl ?_
  exact ⟨rfl, ((Below.refl _ w).alloc (Nat.le_refl _) _).drew⟩

theorem drew_heap (w : World) : w.drew.heap = w.heap := rfl
theorem tk0_drew {w : World} {g : Nat} {t : Tk} (h : w.heap[g]? = some (tkO t)) :
    ((((((w.setCell ⟨g, 0, none⟩ (.string ⟨#[]⟩)).setCell ⟨g, 1, none⟩ (.string ⟨#[]⟩)).setCell ⟨g, 2, none⟩ (.int .i64 0)).setCell ⟨g, 3, none⟩ (.int .i64 0)).setCell ⟨g, 4, none⟩ (.int .i64 0)).setCell ⟨g, 5, none⟩ (.int .i64 0)).drew.heap[g]? = some (tkO tk0) := by
  rw [drew_heap]
  exact row_set6 h _ _ _ _ _ _
theorem cell_set6 (w : World) {g : Nat} (p : Addr) (h : p.block ≠ g) (a b c d e f : Value) :
    ((((((w.setCell ⟨g, 0, none⟩ a).setCell ⟨g, 1, none⟩ b).setCell ⟨g, 2, none⟩ c).setCell ⟨g, 3, none⟩ d).setCell ⟨g, 4, none⟩ e).setCell ⟨g, 5, none⟩ f).cell? p = w.cell? p := by
  have k : ∀ (w : World) (i : Nat) (v : Value), (w.setCell ⟨g, i, none⟩ v).cell? p = w.cell? p := fun w i v => World.cell?_setCell_other _ _ _ _ (fun e => h (congrArg Addr.block e).symm)
  exact (k _ _ _).trans ((k _ _ _).trans ((k _ _ _).trans ((k _ _ _).trans ((k _ _ _).trans (k _ _ _)))))

set_option maxRecDepth 100000 in
set_option maxHeartbeats 8000000 in
theorem read_nums (a : Nat → Addr) (b o c : Nat) (x0 x1 x2 x3 x4 x5 x6 : ByteArray) (w : World) (h : Env a w) (hc : 7 ≤ c) (hx : Texts w b o [x0, x1, x2, x3, x4, x5, x6]) (hk : x0.data.toList = tickL) (hs : ∀ x ∈ [x0, x1, x2, x3, x4, x5, x6], x.size ≤ maxLen)
    (r : Tk) (rv : Value) (hbad : ∀ k, k < 4 → Sl.numOk ([x3, x4, x5, x6].getD k ⟨#[]⟩).data.toList = false → r = tk0 ∧ rv = eV (a 0))
    (hgood : (∀ k, k < 4 → Sl.numOk ([x3, x4, x5, x6].getD k ⟨#[]⟩).data.toList = true) → ∀ w, Errs a w → Calls Tryz.prog 48 #[.agg #[.string x1, .string x2, .int .i64 (Sl.valL x3.data.toList), .int .i64 (Sl.valL x4.data.toList), .int .i64 (Sl.valL x5.data.toList), .int .i64 (Sl.valL x6.data.toList)]] w fun e w' => e = .returned (.tuple #[r.val, rv]) ∧ Below w.heap.size w w') :
    Calls Tryz.prog 46 #[.slice (some ⟨b, o, none⟩) 7 c] w fun e w' => e = .returned (.tuple #[r.val, rv]) ∧ Below w.heap.size w w' := by
  have hx0 : w.cell? ⟨b, o, none⟩ = some (.string x0) := hx 0 (by simp)
  have hx2 : ∀ O, (w.alloc O).cell? ⟨b, o, none⟩ = some (.string x0) := fun O => by
    rw [((Below.refl w.heap.size w).alloc (Nat.le_refl _) O).cell (p := ⟨b, o, none⟩) (cell_lt hx0)]; exact hx0
  have hq : (x0.toList == [116, 105, 99, 107, 101, 116]) = true := by
    rw [beq_iff_eq, Go.ByteArray.toList_eq]
    exact hk
  have HX := hide hx
  have HS := hide hs
  have HE := hide h
  have HBad := hide hbad
  have HGood := hide hgood
  have HBl : Hid (b < w.heap.size) := hx.lt (by simp)
  have HG : Hid (5 < w.heap.size) := by
    have := h.errs.var 0 (by decide)
    exact cell_lt this
  clear h hk hx hx0 hs hbad hgood
  go_enter Tryz.func46, Tryz.ntmps46
  go_wp2
  have HB0 : Hid (Below w.heap.size w ((w.alloc (tkO tk0)).alloc (.cells (arr4 [x3, x4, x5, x6] 0) 121))) := ((Below.refl _ w).alloc (Nat.le_refl _) _).alloc (by simp) _
  have HR0 : Hid (((w.alloc (tkO tk0)).alloc (.cells (arr4 [x3, x4, x5, x6] 0) 121)).heap[w.heap.size]? = some (tkO tk0)) := (heap_alloc_old _ _ (by simp)).trans (heap_alloc_new _ _)
  have HR1 : Hid (((w.alloc (tkO tk0)).alloc (.cells (arr4 [x3, x4, x5, x6] 0) 121)).heap[w.heap.size + 1]? = some (.cells (arr4 [x3, x4, x5, x6] 0) 121 (0, 0))) := by
    have := heap_alloc_new (w.alloc (tkO tk0)) (.cells (arr4 [x3, x4, x5, x6] 0) 121)
    rw [show (w.alloc (tkO tk0)).heap.size = w.heap.size + 1 by simp] at this
    exact this
  clear hx2 hq
  go_loopg [23] 4 (fun gg s23 wr => ∃ k : Nat, k ≤ 4 ∧ 4 - k ≤ gg ∧ s23 = .int .i64 k ∧ Hid (Below w.heap.size w wr) ∧ Hid (wr.heap[w.heap.size]? = some (tkO tk0)) ∧ Hid (wr.heap[w.heap.size + 1]? = some (.cells (arr4 [x3, x4, x5, x6] k) 121 (0, 0))) ∧ Hid (∀ j, j < k → Sl.numOk ([x3, x4, x5, x6].getD j ⟨#[]⟩).data.toList = true))
  case atStart => exact ⟨0, Nat.zero_le _, by omega, rfl, HB0, HR0, HR1, fun j hj => absurd hj (Nat.not_lt_zero _)⟩
  case round =>
    obtain ⟨k, hk, hg, rfl, HB, HT0, HT1, A⟩ := hrel
    by_cases hlt : k < 4
    · have hltz : (k : Int) < 4 := by omega
      have hk0 : (0 : Int) ≤ (k : Int) := by omega
      have hcell : wr.cell? ⟨b, o + 3 + k, none⟩ = some (.string ([x3, x4, x5, x6].getD k ⟨#[]⟩)) := by
        rw [HB.out.cell (p := ⟨b, o + 3 + k, none⟩) HBl.out]
        have := HX.out (3 + k) (by simp; omega)
        rw [← Nat.add_assoc] at this
        rw [this]
        match k, hlt with
        | 0, _ => rfl
        | 1, _ => rfl
        | 2, _ => rfl
        | 3, _ => rfl
      have hsz : ([x3, x4, x5, x6].getD k ⟨#[]⟩).size ≤ maxLen := by
        refine HS.out _ ?_
        match k, hlt with
        | 0, _ => simp
        | 1, _ => simp
        | 2, _ => simp
        | 3, _ => simp
      have HN := hide (number_any ([x3, x4, x5, x6].getD k ⟨#[]⟩) 9223372036854775807 wr hsz)
      rw [numB_max] at HN
      have HBk := hide (HBad.out k hlt)
      have HAs : Hid (∀ v : Int, v = (Sl.valL ([x3, x4, x5, x6].getD k ⟨#[]⟩).data.toList : Int) → (arr4 [x3, x4, x5, x6] k).setIfInBounds k (.int .i64 v) = arr4 [x3, x4, x5, x6] (k + 1)) := fun v hv => arr4_set x3 x4 x5 x6 k hlt v hv
      have hac : ∃ u, (arr4 [x3, x4, x5, x6] k)[k]? = some u := by
        match k, hlt with
        | 0, _ => exact ⟨_, rfl⟩
        | 1, _ => exact ⟨_, rfl⟩
        | 2, _ => exact ⟨_, rfl⟩
        | 3, _ => exact ⟨_, rfl⟩
      obtain ⟨u, hu⟩ := hac
      have HU := hide hu
      have HA2 := hide A.out
      generalize harr : arr4 [x3, x4, x5, x6] k = cs at *
      clear harr hu
      cases hnk : Sl.numOk ([x3, x4, x5, x6].getD k ⟨#[]⟩).data.toList with
      | false =>
        obtain ⟨rfl, rfl⟩ := HBk.out hnk
        rw [hnk] at HN
        generalize numV ([x3, x4, x5, x6].getD k ⟨#[]⟩).data.toList 9223372036854775807 = nv at *
        generalize [x3, x4, x5, x6].getD k ⟨#[]⟩ = y at *
        clear hnk HBk HAs HU hsz HA2 A HBad HGood
        go_wp2_with fail
        refine HN.out.mono ?_
        rintro e w1 ⟨rfl, hb⟩
        have HB1 : Hid (Below w.heap.size w w1) := HB.out.trans (hb.mono HB.out.size)
        have HT2 : Hid (w1.heap[w.heap.size]? = some (tkO tk0)) := by show _ = _; rw [hb.block _ (row_lt HT0.out)]; exact HT0.out
        have hv := (HE.out.below HB1.out).errs.var 0 (by decide)
        simp only [errG, List.getD_cons_zero] at hv
        clear hb HN HB HT0 HT1
        obtain ⟨hd0, hd1, hd2, hd3, hd4, hd5⟩ := tk_row HT2.out
        obtain ⟨hf0, hf1, hf2, hf3, hf4, hf5⟩ := row_frozen6 HT2.out
        dsimp only [tk0] at hd0 hd1 hd2 hd3 hd4 hd5
        have hv2 : ∀ v, (w1.setCell ⟨w.heap.size, 0, none⟩ v).cell? ⟨5, 0, none⟩ = some (eV (a 0)) := fun v => by
          rw [World.cell?_setCell_other _ _ _ _ (fun e => by have := HG.out; have := (Addr.mk.inj e).1; omega)]; exact hv
        go_wp2
        go_region
        go_wp2
        refine tkEnd rfl w.heap.size tk0 rfl (tk0_drew HT2.out) rfl ?_
        exact ⟨rfl, (below_set6 HB1.out (Nat.le_refl _) _ _ _ _ _ _).drew⟩
      | true =>
        rw [hnk, numV_max _ hnk] at HN
        have HNk := hide hnk
        have HAs2 := hide (HAs.out _ rfl)
        generalize hnv : (Sl.valL ([x3, x4, x5, x6].getD k ⟨#[]⟩).data.toList : Int) = nv at *
        generalize hyy : [x3, x4, x5, x6].getD k ⟨#[]⟩ = y at *
        have HY := hide hyy
        clear hnk HBk HAs hsz hnv hyy
        go_wp2_with fail
        refine HN.out.mono ?_
        rintro e w1 ⟨rfl, hb⟩
        have HB1 : Hid (Below w.heap.size w w1) := HB.out.trans (hb.mono HB.out.size)
        have HT2 : Hid (w1.heap[w.heap.size]? = some (tkO tk0)) := by show _ = _; rw [hb.block _ (row_lt HT0.out)]; exact HT0.out
        have HT3 : Hid (w1.heap[w.heap.size + 1]? = some (.cells cs 121 (0, 0))) := by show _ = _; rw [hb.block _ (row_lt HT1.out)]; exact HT1.out
        have hc1 : w1.cell? ⟨w.heap.size + 1, k, none⟩ = some u := by rw [cell_of_row w1 _ k _ _ _ HT3.out]; exact HU.out
        have hf1 : w1.frozen? ⟨w.heap.size + 1, k, none⟩ = false := frozen_of_row w1 _ k _ _ HT3.out
        clear hb HN HB HT0 HT1
        go_wp2
        go_roundg (4 - (k + 1))
        case measure => omega
        case rel =>
          refine ⟨k + 1, by omega, by omega, by go_num, HB1.out.setCell (by simp) _, ?_, ?_, (show Hid _ from fun j hj => ?_)⟩
          · show _ = _
            rw [heap_setCell_other _ _ _ _ (by simp)]; exact HT2.out
          · show _ = _
            rw [heap_setCell_same w1 _ k _ _ _ HT3.out, HAs2.out]
          · by_cases e : j = k
            · subst e; rw [HY.out]; exact HNk.out
            · exact HA2.out j (by omega)
    · have : k = 4 := by omega
      subst this
      have HGd := hide (HGood.out A.out)
      clear HBad HGood A
      rw [arr4_4] at HT1
      generalize (Sl.valL x3.data.toList : Int) = v3 at *
      generalize (Sl.valL x4.data.toList : Int) = v4 at *
      generalize (Sl.valL x5.data.toList : Int) = v5 at *
      generalize (Sl.valL x6.data.toList : Int) = v6 at *
      have hx1 : wr.cell? ⟨b, o + 1, none⟩ = some (.string x1) := by
        rw [HB.out.cell (p := ⟨b, o + 1, none⟩) HBl.out]
        exact HX.out 1 (by simp)
      have hx2 : wr.cell? ⟨b, o + 2, none⟩ = some (.string x2) := by
        rw [HB.out.cell (p := ⟨b, o + 2, none⟩) HBl.out]
        exact HX.out 2 (by simp)
      have hn0 : wr.cell? ⟨w.heap.size + 1, 0, none⟩ = some (.int .i64 v3) := cell_of_row wr _ 0 _ _ _ HT1.out
      have hn1 : wr.cell? ⟨w.heap.size + 1, 1, none⟩ = some (.int .i64 v4) := cell_of_row wr _ 1 _ _ _ HT1.out
      have hn2 : wr.cell? ⟨w.heap.size + 1, 2, none⟩ = some (.int .i64 v5) := cell_of_row wr _ 2 _ _ _ HT1.out
      have hn3 : wr.cell? ⟨w.heap.size + 1, 3, none⟩ = some (.int .i64 v6) := cell_of_row wr _ 3 _ _ _ HT1.out
      have hbne : b ≠ w.heap.size := by have := HBl.out; omega
      have hbne2 : w.heap.size ≠ b := fun e => hbne e.symm
      have HL1 : Hid (w.heap.size + 1 < wr.heap.size) := row_lt HT1.out
      have HL2 : Hid (b < wr.heap.size) := Nat.lt_of_lt_of_le HBl.out HB.out.size
      obtain ⟨who, dst, epoch, frm, til, ser⟩ := r
      have HGe := hide (HGd.out wr.drew ((HE.out.below HB.out).errs.below (Below.refl _ _).drew))
      rw [tk_val ⟨who, dst, epoch, frm, til, ser⟩] at HGe
      dsimp only at HGe
      clear HX HS HE HGd HB0 HR0 HR1
      go_wp2_with fail
      rename_i K3 J K2 a3 a2 Q2 K1 a1 K0 a0
      clear a1 K1 a2 a3 J K2 K3 hk hg hlt HG
      go_region_held3 (fun w' => w'.cell? ⟨b, o + 1, none⟩ = some (.string x1) ∧ w'.cell? ⟨b, o + 2, none⟩ = some (.string x2) ∧ w'.cell? ⟨w.heap.size + 1, 0, none⟩ = some (.int .i64 v3) ∧ w'.cell? ⟨w.heap.size + 1, 1, none⟩ = some (.int .i64 v4) ∧ w'.cell? ⟨w.heap.size + 1, 2, none⟩ = some (.int .i64 v5) ∧ w'.cell? ⟨w.heap.size + 1, 3, none⟩ = some (.int .i64 v6)) (go_keep)
        (first
          | (go_at_call 48; refine HGe.out.mono ?_; rintro e w1 ⟨rfl, hb⟩; have HB1 : Hid (Below w.heap.size w w1) := HB.out.trans ((((Below.refl _ _).drew).trans hb).mono HB.out.size); have HT2 : Hid (w1.heap[w.heap.size]? = some (tkO tk0)) := (hb.block _ (row_lt HT0.out)).trans HT0.out; have hk1 := (hb.cell (p := ⟨b, o + 1, none⟩) HL2.out).trans hx1; have hk2 := (hb.cell (p := ⟨b, o + 2, none⟩) HL2.out).trans hx2; have hk3 := (hb.cell (p := ⟨w.heap.size + 1, 0, none⟩) HL1.out).trans hn0; have hk4 := (hb.cell (p := ⟨w.heap.size + 1, 1, none⟩) HL1.out).trans hn1; have hk5 := (hb.cell (p := ⟨w.heap.size + 1, 2, none⟩) HL1.out).trans hn2; have hk6 := (hb.cell (p := ⟨w.heap.size + 1, 3, none⟩) HL1.out).trans hn3; clear hb; obtain ⟨hd0, hd1, hd2, hd3, hd4, hd5⟩ := tk_row HT2.out; obtain ⟨hf0, hf1, hf2, hf3, hf4, hf5⟩ := row_frozen6 HT2.out; dsimp only [tk0] at hd0 hd1 hd2 hd3 hd4 hd5))
      go_wp2
      refine tkEnd rfl w.heap.size ⟨who, dst, epoch, frm, til, ser⟩ rfl (row_set6 HT2.out _ _ _ _ _ _) rfl ?_
      exact ⟨rfl, below_set6 HB1.out (Nat.le_refl _) _ _ _ _ _ _⟩

theorem read_any (a : Nat → Addr) (v : Value) (xs : List ByteArray) (w : World) (h : Env a w) (hv : TextsAt w v xs) (hs : ∀ x ∈ xs, x.size ≤ maxLen) :
    Calls Tryz.prog 46 #[v] w fun e w' => e = .returned (.tuple #[(okT (readE (toLs xs)) (tkOf (toLs xs))).val, errV a (readE (toLs xs))]) ∧ Below w.heap.size w w' := by
  obtain ⟨ad, c, rfl, hc, hor⟩ := hv
  by_cases hn : xs.length = 7
  · obtain ⟨x0, x1, x2, x3, x4, x5, x6, rfl⟩ : ∃ x0 x1 x2 x3 x4 x5 x6, xs = [x0, x1, x2, x3, x4, x5, x6] := by
      match xs, hn with
      | [x0, x1, x2, x3, x4, x5, x6], _ => exact ⟨_, _, _, _, _, _, _, rfl⟩
    obtain ⟨b, o, rfl, hx⟩ : ∃ b o, ad = some ⟨b, o, none⟩ ∧ Texts w b o [x0, x1, x2, x3, x4, x5, x6] := by
      rcases hor with g | g
      · cases g
      · exact g
    by_cases hk : x0.data.toList = tickL
    · refine read_nums a b o c x0 x1 x2 x3 x4 x5 x6 w h hc hx hk hs _ _ (fun k hk4 hno => ?_) (fun hall => ?_)
      · have e1 : readE (toLs [x0, x1, x2, x3, x4, x5, x6]) = 1 := by
          unfold readE
          rw [if_neg]
          intro hf
          unfold formW at hf
          obtain ⟨_, h36⟩ := Bool.and_eq_true_iff.1 hf
          obtain ⟨h35, g6⟩ := Bool.and_eq_true_iff.1 h36
          obtain ⟨h34, g5⟩ := Bool.and_eq_true_iff.1 h35
          obtain ⟨g3, g4⟩ := Bool.and_eq_true_iff.1 h34
          match k, hk4 with
          | 0, _ => exact absurd (hno.symm.trans g3) (by decide)
          | 1, _ => exact absurd (hno.symm.trans g4) (by decide)
          | 2, _ => exact absurd (hno.symm.trans g5) (by decide)
          | 3, _ => exact absurd (hno.symm.trans g6) (by decide)
        rw [e1]
        exact ⟨rfl, rfl⟩
      · have e1 : readE (toLs [x0, x1, x2, x3, x4, x5, x6]) = (tkOf (toLs [x0, x1, x2, x3, x4, x5, x6])).err := by
          unfold readE
          rw [if_pos]
          unfold formW
          have g3 := hall 0 (by decide)
          have g4 := hall 1 (by decide)
          have g5 := hall 2 (by decide)
          have g6 := hall 3 (by decide)
          show (true && decide (x0.data.toList = tickL) && (Sl.numOk x3.data.toList && Sl.numOk x4.data.toList && Sl.numOk x5.data.toList && Sl.numOk x6.data.toList)) = true
          have f3 : Sl.numOk x3.data.toList = true := g3
          have f4 : Sl.numOk x4.data.toList = true := g4
          have f5 : Sl.numOk x5.data.toList = true := g5
          have f6 : Sl.numOk x6.data.toList = true := g6
          rw [f3, f4, f5, f6, decide_eq_true hk]
          rfl
        rw [e1]
        intro w hw
        have ew : (tkOf (toLs [x0, x1, x2, x3, x4, x5, x6])).val = .agg #[.string x1, .string x2, .int .i64 (Sl.valL x3.data.toList), .int .i64 (Sl.valL x4.data.toList), .int .i64 (Sl.valL x5.data.toList), .int .i64 (Sl.valL x6.data.toList)] := by
          show Value.agg #[.string (Sl.ofL x1.data.toList), .string (Sl.ofL x2.data.toList), _, _, _, _] = _
          rw [Sl.ofL_toL, Sl.ofL_toL]
          rfl
        have := checked_any a (tkOf (toLs [x0, x1, x2, x3, x4, x5, x6])) w hw (by show (Sl.ofL x1.data.toList).size ≤ _; rw [Sl.ofL_toL]; exact hs x1 (by simp)) (by show (Sl.ofL x2.data.toList).size ≤ _; rw [Sl.ofL_toL]; exact hs x2 (by simp))
        rw [ew] at this
        exact this
    · have e1 : readE (toLs [x0, x1, x2, x3, x4, x5, x6]) = 1 := by
        unfold readE
        rw [if_neg]
        intro hf
        unfold formW at hf
        exact hk (of_decide_eq_true (Bool.and_eq_true_iff.1 (Bool.and_eq_true_iff.1 hf).1).2)
      rw [e1]
      exact read_kind a b o c x0 w h (hx 0 (by simp)) hk
  · have e1 : readE (toLs xs) = 1 := by
      unfold readE
      rw [if_neg]
      intro hf
      unfold formW at hf
      have := of_decide_eq_true (Bool.and_eq_true_iff.1 (Bool.and_eq_true_iff.1 hf).1).1
      rw [List.length_map] at this
      exact hn this
    rw [e1]
    exact read_len a ad xs.length c w h hn

theorem read_look (a : Nat → Addr) (l : List UInt8) (b : Nat) (w : World) (h : Env a w) (h0 : Sl.lookE l = 0) (hx : Texts w b 0 ((Sl.lookW l).map Sl.ofL)) :
    Calls Tryz.prog 46 #[.slice (some ⟨b, 0, none⟩) (Sl.lookW l).length (Sl.lookW l).length] w fun e w' => e = .returned (.tuple #[(okT (readE (Sl.lookW l)) (tkOf (Sl.lookW l))).val, errV a (readE (Sl.lookW l))]) ∧ Below w.heap.size w w' := by
  have hmm : toLs ((Sl.lookW l).map Sl.ofL) = Sl.lookW l := by
    unfold toLs
    rw [List.map_map]
    conv => rhs; rw [← List.map_id (Sl.lookW l)]
    exact List.map_congr_left fun l _ => rfl
  have hw := (Sl.wordsOk_iff _).1 (Sl.lookOk_words l (Sl.lookE_ok l h0))
  have := read_any a (.slice (some ⟨b, 0, none⟩) (Sl.lookW l).length (Sl.lookW l).length) ((Sl.lookW l).map Sl.ofL) w h ⟨_, _, by rw [List.length_map], by simp, Or.inr ⟨b, 0, rfl, hx⟩⟩ (fun x hx => by
    obtain ⟨y, hy, rfl⟩ := List.mem_map.1 hx
    have := (Sl.word_len y (hw.2 y hy)).2
    rw [Sl.ofL_size]
    unfold maxLen; omega)
  rw [hmm] at this
  exact this
end Go.Proofs.YtgagekcjdapkfabGreatDoor

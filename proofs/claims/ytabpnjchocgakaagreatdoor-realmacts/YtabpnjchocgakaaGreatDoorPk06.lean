/-
  What the functions of these parts do, and what holds of their plain forms: TicketRead, TicketRead2, TicketOpen, TicketRef3.
-/
import Derived.Test.YtabpnjchocgakaaGreatDoorPk05
import Derived.Test.YtabpnjchocgakaaGreatDoorPk02
import Derived.Deep.RegionHeld3
import Derived.BigQuiet
namespace Go.Proofs.YtabpnjchocgakaaGreatDoor
open Go.RowKit Go.Extern.Stop Go.Stop Go.Extern
theorem itoa_any (a : Nat → Addr) (n : Int) (w : World) (h : Env a w) (h0 : 0 ≤ n) (h1 : n ≤ 1073741824) :
  Calls Tryz.prog 51 #[.int .i64 n] w fun e w' => e = .returned (.string (Sl.ofL (Lib.decDigits n.toNat))) ∧ Below w.heap.size w w' := by
 have hit : (⟨(Lib.itoa n).toArray⟩ : ByteArray) = Sl.ofL (Lib.decDigits n.toNat) := by
  have e : n = (n.toNat : Int) := by omega
  rw [e, Lib.itoa_nonneg]
  rfl
 refine (Tryz.strconv_Itoa n (by omega) (by omega) w h.tab).mono ?_
 rintro e w' ⟨rfl, k, os, rfl⟩
 exact ⟨by rw [hit], below_grow w k os⟩
theorem texts7 (w : World) (x0 x1 x2 x3 x4 x5 x6 : ByteArray) : Texts (w.alloc (.cells #[.string x0, .string x1, .string x2, .string x3, .string x4, .string x5, .string x6] 9)) w.heap.size 0 [x0, x1, x2, x3, x4, x5, x6] := fun j hj => by
 match j, hj with
 | 0, _ => simp
 | 1, _ => simp
 | 2, _ => simp
 | 3, _ => simp
 | 4, _ => simp
 | 5, _ => simp
 | 6, _ => simp
set_option maxRecDepth 100000 in
set_option maxHeartbeats 4000000 in
theorem words_any (a : Nat → Addr) (t : Tk) (w : World) (h : Env a w) (he : t.err = 0) :
  Calls Tryz.prog 149 #[t.val] w fun e w' => ∃ b, Texts w' b 0 (t.words.map Sl.ofL) ∧ e = .returned (.slice (some ⟨b, 0, none⟩) 7 7) ∧ Below w.heap.size w w' := by
 obtain ⟨_, ⟨k1, k2⟩, ⟨k3, k4⟩, ⟨k5, k6⟩, k7, k8⟩ := t.err_iff.1 he
 have H1 := hide (fun w h => itoa_any a t.epoch w h (by omega) (by omega))
 have H2 := hide (fun w h => itoa_any a t.frm w h (by omega) (by omega))
 have H3 := hide (fun w h => itoa_any a t.til w h (by omega) (by omega))
 have H4 := hide (fun w h => itoa_any a t.ser w h (by omega) (by omega))
 have HB0 : Hid (Below w.heap.size w (w.alloc (tkO t))) := (Below.refl _ w).alloc (Nat.le_refl _) _
 have HR0 : Hid ((w.alloc (tkO t)).heap[w.heap.size]? = some (tkO t)) := heap_alloc_new _ _
 have HE := hide (h.below HB0.out)
 have HW : Hid (t.words.map Sl.ofL = [Sl.ofL tickL, t.who, t.dst, Sl.ofL (Lib.decDigits t.epoch.toNat), Sl.ofL (Lib.decDigits t.frm.toNat), Sl.ofL (Lib.decDigits t.til.toNat), Sl.ofL (Lib.decDigits t.ser.toNat)]) := by
  show [Sl.ofL tickL, Sl.ofL t.who.data.toList, Sl.ofL t.dst.data.toList, _, _, _, _] = _
  rw [Sl.ofL_toL, Sl.ofL_toL]
 rw [HW.out]
 clear h he k1 k2 k3 k4 k5 k6 k7 k8 HW
 generalize Sl.ofL (Lib.decDigits t.epoch.toNat) = s1 at *
 generalize Sl.ofL (Lib.decDigits t.frm.toNat) = s2 at *
 generalize Sl.ofL (Lib.decDigits t.til.toNat) = s3 at *
 generalize Sl.ofL (Lib.decDigits t.ser.toNat) = s4 at *
 rw [tk_val]
 obtain ⟨who, dst, epoch, frm, til, ser⟩ := t
 dsimp only at *
 have HC : Hid (∀ W, Below (w.alloc (tkO ⟨who, dst, epoch, frm, til, ser⟩)).heap.size (w.alloc (tkO ⟨who, dst, epoch, frm, til, ser⟩)) W → W.cell? ⟨w.heap.size, 0, none⟩ = some (.string who) ∧ W.cell? ⟨w.heap.size, 1, none⟩ = some (.string dst) ∧ W.cell? ⟨w.heap.size, 2, none⟩ = some (.int .i64 epoch) ∧ W.cell? ⟨w.heap.size, 3, none⟩ = some (.int .i64 frm) ∧ W.cell? ⟨w.heap.size, 4, none⟩ = some (.int .i64 til) ∧ W.cell? ⟨w.heap.size, 5, none⟩ = some (.int .i64 ser)) := fun W hb => by
  refine tk_row (t := ⟨who, dst, epoch, frm, til, ser⟩) ?_
  rw [hb.block _ (by simp)]; exact HR0.out
 go_enter Tryz.func149, Tryz.ntmps149
 go_wp2_with fail
 generalize hW0 : w.alloc (.cells #[.string who, .string dst, .int .i64 epoch, .int .i64 frm, .int .i64 til, .int .i64 ser] 51) = W0 at *
 have Hd : Hid (Below W0.heap.size W0 W0.drew) := (Below.refl _ _).drew
 obtain ⟨z0, z1, z2, z3, z4, z5⟩ := HC.out W0 (Below.refl _ _)
 clear hW0 HR0
 go_region_held3 (fun w' => w'.cell? ⟨w.heap.size, 0, none⟩ = some (.string who) ∧ w'.cell? ⟨w.heap.size, 1, none⟩ = some (.string dst) ∧ w'.cell? ⟨w.heap.size, 2, none⟩ = some (.int .i64 epoch) ∧ w'.cell? ⟨w.heap.size, 3, none⟩ = some (.int .i64 frm) ∧ w'.cell? ⟨w.heap.size, 4, none⟩ = some (.int .i64 til) ∧ w'.cell? ⟨w.heap.size, 5, none⟩ = some (.int .i64 ser)) (first | go_keep | assumption)
  (first
   | (go_at_call 51; refine (H1.out _ (HE.out.below Hd.out)).mono ?_; rintro e w1 ⟨rfl, hb⟩; have HP1 : Hid (Below W0.heap.size W0 w1) := Hd.out.trans (hb.mono Hd.out.size); have hc1 := HC.out _ HP1.out; clear hb)
   | (go_at_call 51; refine (H2.out _ (HE.out.below HP1.out)).mono ?_; rintro e w2 ⟨rfl, hb⟩; have HP2 : Hid (Below W0.heap.size W0 w2) := HP1.out.trans (hb.mono HP1.out.size); have hc2 := HC.out _ HP2.out; clear hb)
   | (go_at_call 51; refine (H3.out _ (HE.out.below HP2.out)).mono ?_; rintro e w3 ⟨rfl, hb⟩; have HP3 : Hid (Below W0.heap.size W0 w3) := HP2.out.trans (hb.mono HP2.out.size); have hc3 := HC.out _ HP3.out; clear hb)
   | (go_at_call 51; refine (H4.out _ (HE.out.below HP3.out)).mono ?_; rintro e w4 ⟨rfl, hb⟩; have HP4 : Hid (Below W0.heap.size W0 w4) := HP3.out.trans (hb.mono HP3.out.size); have hc4 := HC.out _ HP4.out; clear hb))
 have HP5 := hide ((HB0.out.trans (HP4.out.mono HB0.out.size)).alloc (HB0.out.trans (HP4.out.mono HB0.out.size)).size (.cells #[.string ⟨#[116, 105, 99, 107, 101, 116]⟩, .string who, .string dst, .string s1, .string s2, .string s3, .string s4] 9))
 clear hc1 hc2 hc3 hc4 HP1 HP2 HP3 HP4 HC HE HB0 Hd z0 z1 z2 z3 z4 z5 H1 H2 H3 H4
 go_wp2
 go_ret
 exact ⟨w4.heap.size, texts7 w4 _ _ _ _ _ _ _, rfl, HP5.out⟩
def num4 (ys : List ByteArray) (k j : Nat) : Value := .int .i64 (if j < k then (Sl.valL (ys.getD j ⟨#[]⟩).data.toList : Int) else 0)
def arr4 (ys : List ByteArray) (k : Nat) : Array Value := #[num4 ys k 0, num4 ys k 1, num4 ys k 2, num4 ys k 3]
theorem arr4_4 (y0 y1 y2 y3 : ByteArray) : arr4 [y0, y1, y2, y3] 4 = #[.int .i64 (Sl.valL y0.data.toList), .int .i64 (Sl.valL y1.data.toList), .int .i64 (Sl.valL y2.data.toList), .int .i64 (Sl.valL y3.data.toList)] := rfl
theorem arr4_set (y0 y1 y2 y3 : ByteArray) (k : Nat) (hk : k < 4) (v : Int) (hv : v = (Sl.valL ([y0, y1, y2, y3].getD k ⟨#[]⟩).data.toList : Int)) : (arr4 [y0, y1, y2, y3] k).setIfInBounds k (.int .i64 v) = arr4 [y0, y1, y2, y3] (k + 1) := by
 subst hv
 match k, hk with
 | 0, _ => rfl
 | 1, _ => rfl
 | 2, _ => rfl
 | 3, _ => rfl
theorem numB_max (l : List UInt8) : numB l 9223372036854775807 = Sl.numOk l := by
 unfold numB
 cases h : Sl.numOk l with
 | false => rfl
 | true =>
  obtain ⟨h1, h2, _⟩ := (Sl.numOk_iff l).1 h
  have := Sl.valL_lt l h2 h1.2
  rw [decide_eq_true (by omega)]
  rfl
theorem numV_max (l : List UInt8) (h : Sl.numOk l = true) : numV l 9223372036854775807 = (Sl.valL l : Int) := by
 unfold numV
 rw [numB_max, if_pos h]
set_option maxRecDepth 100000 in
set_option maxHeartbeats 2000000 in
theorem read_len (a : Nat → Addr) (ad : Option Addr) (n c : Nat) (w : World) (h : Env a w) (hn : n ≠ 7) :
  Calls Tryz.prog 55 #[.slice ad n c] w fun e w' => e = .returned (.tuple #[tk0.val, eV (a 0)]) ∧ Below w.heap.size w w' := by
 have hv := h.errs.later 0 (by decide)
 simp only [errG, List.getD_cons_zero] at hv
 have hn2 : ((n : Int) != 7) = true := by rw [bne_iff_ne]; omega
 clear h hn
 go_enter Tryz.func55, Tryz.ntmps55
 go_wp2
 go_region
 go_wp2
 refine tkEnd rfl w.heap.size tk0 rfl (heap_alloc_new _ _) rfl ?_
 exact ⟨rfl, ((Below.refl _ w).alloc (Nat.le_refl _) _).drew⟩
set_option maxRecDepth 100000 in
set_option maxHeartbeats 2000000 in
theorem read_kind (a : Nat → Addr) (b o c : Nat) (x0 : ByteArray) (w : World) (h : Env a w) (hx : w.cell? ⟨b, o, none⟩ = some (.string x0)) (hk : x0.data.toList ≠ tickL) :
  Calls Tryz.prog 55 #[.slice (some ⟨b, o, none⟩) 7 c] w fun e w' => e = .returned (.tuple #[tk0.val, eV (a 0)]) ∧ Below w.heap.size w w' := by
 have hv := h.errs.later 0 (by decide)
 simp only [errG, List.getD_cons_zero] at hv
 have hx2 : ∀ O, (w.alloc O).cell? ⟨b, o, none⟩ = some (.string x0) := fun O => by
  rw [((Below.refl w.heap.size w).alloc (Nat.le_refl _) O).cell (p := ⟨b, o, none⟩) (cell_lt hx)]; exact hx
 have hq : (x0.toList == [116, 105, 99, 107, 101, 116]) = false := by
  rw [beq_eq_false_iff_ne, Go.ByteArray.toList_eq]
  exact hk
 clear h hk hx
 go_enter Tryz.func55, Tryz.ntmps55
 go_wp2
 go_region
 go_wp2
 refine tkEnd rfl w.heap.size tk0 rfl (heap_alloc_new _ _) rfl ?_
 exact ⟨rfl, ((Below.refl _ w).alloc (Nat.le_refl _) _).drew⟩
theorem drew_heap (w : World) : w.drew.heap = w.heap := rfl
theorem tk0_drew {w : World} {g : Nat} {t : Tk} (h : w.heap[g]? = some (tkO t)) :
  ((((((w.setCell ⟨g, 0, none⟩ (.string ⟨#[]⟩)).setCell ⟨g, 1, none⟩ (.string ⟨#[]⟩)).setCell ⟨g, 2, none⟩ (.int .i64 0)).setCell ⟨g, 3, none⟩ (.int .i64 0)).setCell ⟨g, 4, none⟩ (.int .i64 0)).setCell ⟨g, 5, none⟩ (.int .i64 0)).drew.heap[g]? = some (tkO tk0) := by
 rw [drew_heap]
 exact row_set6 h _ _ _ _ _ _
set_option maxRecDepth 100000 in
set_option maxHeartbeats 8000000 in
theorem read_nums (a : Nat → Addr) (b o c : Nat) (x0 x1 x2 x3 x4 x5 x6 : ByteArray) (w : World) (h : Env a w) (hc : 7 ≤ c) (hx : Texts w b o [x0, x1, x2, x3, x4, x5, x6]) (hk : x0.data.toList = tickL) (hs : ∀ x ∈ [x0, x1, x2, x3, x4, x5, x6], x.size ≤ maxLen)
  (r : Tk) (rv : Value) (hbad : ∀ k, k < 4 → Sl.numOk ([x3, x4, x5, x6].getD k ⟨#[]⟩).data.toList = false → r = tk0 ∧ rv = eV (a 0))
  (hgood : (∀ k, k < 4 → Sl.numOk ([x3, x4, x5, x6].getD k ⟨#[]⟩).data.toList = true) → ∀ w, Errs a w → Calls Tryz.prog 105 #[.agg #[.string x1, .string x2, .int .i64 (Sl.valL x3.data.toList), .int .i64 (Sl.valL x4.data.toList), .int .i64 (Sl.valL x5.data.toList), .int .i64 (Sl.valL x6.data.toList)]] w fun e w' => e = .returned (.tuple #[r.val, rv]) ∧ Below w.heap.size w w') :
  Calls Tryz.prog 55 #[.slice (some ⟨b, o, none⟩) 7 c] w fun e w' => e = .returned (.tuple #[r.val, rv]) ∧ Below w.heap.size w w' := by
 have hx0 : w.cell? ⟨b, o, none⟩ = some (.string x0) := hx 0 (by simp)
 have hx2 : ∀ O, (w.alloc O).cell? ⟨b, o, none⟩ = some (.string x0) := fun O => by
  rw [((Below.refl w.heap.size w).alloc (Nat.le_refl _) O).cell (p := ⟨b, o, none⟩) (cell_lt hx0)]; exact hx0
 have hq : (x0.toList == [116, 105, 99, 107, 101, 116]) = true := by
  rw [beq_iff_eq, Go.ByteArray.toList_eq]
  exact hk
 have HX := hide hx
 have HS := hide hs
 have HE := hide h
 have HBad := hide hbad
 have HGood := hide hgood
 have HBl : Hid (b < w.heap.size) := hx.lt (by simp)
 have HG : Hid (6 < w.heap.size) := by
  have := h.errs.var 0 (by decide)
  exact cell_lt this
 clear h hk hx hx0 hs hbad hgood
 go_enter Tryz.func55, Tryz.ntmps55
 go_wp2
 have HB0 : Hid (Below w.heap.size w ((w.alloc (tkO tk0)).alloc (.cells (arr4 [x3, x4, x5, x6] 0) 153))) := ((Below.refl _ w).alloc (Nat.le_refl _) _).alloc (by simp) _
 have HR0 : Hid (((w.alloc (tkO tk0)).alloc (.cells (arr4 [x3, x4, x5, x6] 0) 153)).heap[w.heap.size]? = some (tkO tk0)) := (heap_alloc_old _ _ (by simp)).trans (heap_alloc_new _ _)
 have HR1 : Hid (((w.alloc (tkO tk0)).alloc (.cells (arr4 [x3, x4, x5, x6] 0) 153)).heap[w.heap.size + 1]? = some (.cells (arr4 [x3, x4, x5, x6] 0) 153 (0, 0))) := by
  have := heap_alloc_new (w.alloc (tkO tk0)) (.cells (arr4 [x3, x4, x5, x6] 0) 153)
  rw [show (w.alloc (tkO tk0)).heap.size = w.heap.size + 1 by simp] at this
  exact this
 clear hx2 hq
 go_loopg [23] 4 (fun gg s23 wr => ∃ k : Nat, k ≤ 4 ∧ 4 - k ≤ gg ∧ s23 = .int .i64 k ∧ Hid (Below w.heap.size w wr) ∧ Hid (wr.heap[w.heap.size]? = some (tkO tk0)) ∧ Hid (wr.heap[w.heap.size + 1]? = some (.cells (arr4 [x3, x4, x5, x6] k) 153 (0, 0))) ∧ Hid (∀ j, j < k → Sl.numOk ([x3, x4, x5, x6].getD j ⟨#[]⟩).data.toList = true))
 case atStart => exact ⟨0, Nat.zero_le _, by omega, rfl, HB0, HR0, HR1, fun j hj => absurd hj (Nat.not_lt_zero _)⟩
 case round =>
  obtain ⟨k, hk, hg, rfl, HB, HT0, HT1, A⟩ := hrel
  by_cases hlt : k < 4
  ·
   have hltz : (k : Int) < 4 := by omega
   have hk0 : (0 : Int) ≤ (k : Int) := by omega
   have hcell : wr.cell? ⟨b, o + 3 + k, none⟩ = some (.string ([x3, x4, x5, x6].getD k ⟨#[]⟩)) := by
    rw [HB.out.cell (p := ⟨b, o + 3 + k, none⟩) HBl.out]
    have := HX.out (3 + k) (by simp; omega)
    rw [← Nat.add_assoc] at this
    rw [this]
    match k, hlt with
    | 0, _ => rfl
    | 1, _ => rfl
    | 2, _ => rfl
    | 3, _ => rfl
   have hsz : ([x3, x4, x5, x6].getD k ⟨#[]⟩).size ≤ maxLen := by
    refine HS.out _ ?_
    match k, hlt with
    | 0, _ => simp
    | 1, _ => simp
    | 2, _ => simp
    | 3, _ => simp
   have HN := hide (number_any ([x3, x4, x5, x6].getD k ⟨#[]⟩) 9223372036854775807 wr hsz)
   rw [numB_max] at HN
   have HBk := hide (HBad.out k hlt)
   have HAs : Hid (∀ v : Int, v = (Sl.valL ([x3, x4, x5, x6].getD k ⟨#[]⟩).data.toList : Int) → (arr4 [x3, x4, x5, x6] k).setIfInBounds k (.int .i64 v) = arr4 [x3, x4, x5, x6] (k + 1)) := fun v hv => arr4_set x3 x4 x5 x6 k hlt v hv
   have hac : ∃ u, (arr4 [x3, x4, x5, x6] k)[k]? = some u := by
    match k, hlt with
    | 0, _ => exact ⟨_, rfl⟩
    | 1, _ => exact ⟨_, rfl⟩
    | 2, _ => exact ⟨_, rfl⟩
    | 3, _ => exact ⟨_, rfl⟩
   obtain ⟨u, hu⟩ := hac
   have HU := hide hu
   have HA2 := hide A.out
   generalize harr : arr4 [x3, x4, x5, x6] k = cs at *
   clear harr hu
   cases hnk : Sl.numOk ([x3, x4, x5, x6].getD k ⟨#[]⟩).data.toList with
   | false =>
    obtain ⟨rfl, rfl⟩ := HBk.out hnk
    rw [hnk] at HN
    generalize numV ([x3, x4, x5, x6].getD k ⟨#[]⟩).data.toList 9223372036854775807 = nv at *
    generalize [x3, x4, x5, x6].getD k ⟨#[]⟩ = y at *
    clear hnk HBk HAs HU hsz HA2 A HBad HGood
    go_wp2_with fail
    refine HN.out.mono ?_
    rintro e w1 ⟨rfl, hb⟩
    have HB1 : Hid (Below w.heap.size w w1) := HB.out.trans (hb.mono HB.out.size)
    have HT2 : Hid (w1.heap[w.heap.size]? = some (tkO tk0)) := by show _ = _; rw [hb.block _ (row_lt HT0.out)]; exact HT0.out
    have hv := (HE.out.below HB1.out).errs.var 0 (by decide)
    simp only [errG, List.getD_cons_zero] at hv
    clear hb HN HB HT0 HT1
    obtain ⟨hd0, hd1, hd2, hd3, hd4, hd5⟩ := tk_row HT2.out
    obtain ⟨hf0, hf1, hf2, hf3, hf4, hf5⟩ := row_frozen6 HT2.out
    dsimp only [tk0] at hd0 hd1 hd2 hd3 hd4 hd5
    have hv2 : ∀ v, (w1.setCell ⟨w.heap.size, 0, none⟩ v).cell? ⟨6, 0, none⟩ = some (eV (a 0)) := fun v => by
     rw [World.cell?_setCell_other _ _ _ _ (fun e => by have := HG.out; have := (Addr.mk.inj e).1; omega)]; exact hv
    go_wp2
    go_region
    go_wp2
    refine tkEnd rfl w.heap.size tk0 rfl (tk0_drew HT2.out) rfl ?_
    exact ⟨rfl, (below_set6 HB1.out (Nat.le_refl _) _ _ _ _ _ _).drew⟩
   | true =>
    rw [hnk, numV_max _ hnk] at HN
    have HNk := hide hnk
    have HAs2 := hide (HAs.out _ rfl)
    generalize hnv : (Sl.valL ([x3, x4, x5, x6].getD k ⟨#[]⟩).data.toList : Int) = nv at *
    generalize hyy : [x3, x4, x5, x6].getD k ⟨#[]⟩ = y at *
    have HY := hide hyy
    clear hnk HBk HAs hsz hnv hyy
    go_wp2_with fail
    refine HN.out.mono ?_
    rintro e w1 ⟨rfl, hb⟩
    have HB1 : Hid (Below w.heap.size w w1) := HB.out.trans (hb.mono HB.out.size)
    have HT2 : Hid (w1.heap[w.heap.size]? = some (tkO tk0)) := by show _ = _; rw [hb.block _ (row_lt HT0.out)]; exact HT0.out
    have HT3 : Hid (w1.heap[w.heap.size + 1]? = some (.cells cs 153 (0, 0))) := by show _ = _; rw [hb.block _ (row_lt HT1.out)]; exact HT1.out
    have hc1 : w1.cell? ⟨w.heap.size + 1, k, none⟩ = some u := by rw [cell_of_row w1 _ k _ _ _ HT3.out]; exact HU.out
    have hf1 : w1.frozen? ⟨w.heap.size + 1, k, none⟩ = false := frozen_of_row w1 _ k _ _ HT3.out
    clear hb HN HB HT0 HT1
    go_wp2
    go_roundg (4 - (k + 1))
    case measure => omega
    case rel =>
     refine ⟨k + 1, by omega, by omega, by go_num, HB1.out.setCell (by simp) _, ?_, ?_, (show Hid _ from fun j hj => ?_)⟩
     ·
      show _ = _
      rw [heap_setCell_other _ _ _ _ (by simp)]; exact HT2.out
     ·
      show _ = _
      rw [heap_setCell_same w1 _ k _ _ _ HT3.out, HAs2.out]
     ·
      by_cases e : j = k
      ·
       subst e; rw [HY.out]; exact HNk.out
      ·
       exact HA2.out j (by omega)
  ·
   have : k = 4 := by omega
   subst this
   have HGd := hide (HGood.out A.out)
   clear HBad HGood A
   rw [arr4_4] at HT1
   generalize (Sl.valL x3.data.toList : Int) = v3 at *
   generalize (Sl.valL x4.data.toList : Int) = v4 at *
   generalize (Sl.valL x5.data.toList : Int) = v5 at *
   generalize (Sl.valL x6.data.toList : Int) = v6 at *
   have hx1 : wr.cell? ⟨b, o + 1, none⟩ = some (.string x1) := by
    rw [HB.out.cell (p := ⟨b, o + 1, none⟩) HBl.out]
    exact HX.out 1 (by simp)
   have hx2 : wr.cell? ⟨b, o + 2, none⟩ = some (.string x2) := by
    rw [HB.out.cell (p := ⟨b, o + 2, none⟩) HBl.out]
    exact HX.out 2 (by simp)
   have hn0 : wr.cell? ⟨w.heap.size + 1, 0, none⟩ = some (.int .i64 v3) := cell_of_row wr _ 0 _ _ _ HT1.out
   have hn1 : wr.cell? ⟨w.heap.size + 1, 1, none⟩ = some (.int .i64 v4) := cell_of_row wr _ 1 _ _ _ HT1.out
   have hn2 : wr.cell? ⟨w.heap.size + 1, 2, none⟩ = some (.int .i64 v5) := cell_of_row wr _ 2 _ _ _ HT1.out
   have hn3 : wr.cell? ⟨w.heap.size + 1, 3, none⟩ = some (.int .i64 v6) := cell_of_row wr _ 3 _ _ _ HT1.out
   have hbne : b ≠ w.heap.size := by have := HBl.out; omega
   have hbne2 : w.heap.size ≠ b := fun e => hbne e.symm
   have HL1 : Hid (w.heap.size + 1 < wr.heap.size) := row_lt HT1.out
   have HL2 : Hid (b < wr.heap.size) := Nat.lt_of_lt_of_le HBl.out HB.out.size
   obtain ⟨who, dst, epoch, frm, til, ser⟩ := r
   have HGe := hide (HGd.out wr.drew ((HE.out.below HB.out).errs.below (Below.refl _ _).drew))
   rw [tk_val ⟨who, dst, epoch, frm, til, ser⟩] at HGe
   dsimp only at HGe
   clear HX HS HE HGd HB0 HR0 HR1
   go_wp2_with fail
   rename_i K3 J K2 a3 a2 Q2 K1 a1 K0 a0
   clear a1 K1 a2 a3 J K2 K3 hk hg hlt HG
   go_region_held3 (fun w' => w'.cell? ⟨b, o + 1, none⟩ = some (.string x1) ∧ w'.cell? ⟨b, o + 2, none⟩ = some (.string x2) ∧ w'.cell? ⟨w.heap.size + 1, 0, none⟩ = some (.int .i64 v3) ∧ w'.cell? ⟨w.heap.size + 1, 1, none⟩ = some (.int .i64 v4) ∧ w'.cell? ⟨w.heap.size + 1, 2, none⟩ = some (.int .i64 v5) ∧ w'.cell? ⟨w.heap.size + 1, 3, none⟩ = some (.int .i64 v6)) (go_keep)
    (first
     | (go_at_call 105; refine HGe.out.mono ?_; rintro e w1 ⟨rfl, hb⟩; have HB1 : Hid (Below w.heap.size w w1) := HB.out.trans ((((Below.refl _ _).drew).trans hb).mono HB.out.size); have HT2 : Hid (w1.heap[w.heap.size]? = some (tkO tk0)) := (hb.block _ (row_lt HT0.out)).trans HT0.out; have hk1 := (hb.cell (p := ⟨b, o + 1, none⟩) HL2.out).trans hx1; have hk2 := (hb.cell (p := ⟨b, o + 2, none⟩) HL2.out).trans hx2; have hk3 := (hb.cell (p := ⟨w.heap.size + 1, 0, none⟩) HL1.out).trans hn0; have hk4 := (hb.cell (p := ⟨w.heap.size + 1, 1, none⟩) HL1.out).trans hn1; have hk5 := (hb.cell (p := ⟨w.heap.size + 1, 2, none⟩) HL1.out).trans hn2; have hk6 := (hb.cell (p := ⟨w.heap.size + 1, 3, none⟩) HL1.out).trans hn3; clear hb; obtain ⟨hd0, hd1, hd2, hd3, hd4, hd5⟩ := tk_row HT2.out; obtain ⟨hf0, hf1, hf2, hf3, hf4, hf5⟩ := row_frozen6 HT2.out; dsimp only [tk0] at hd0 hd1 hd2 hd3 hd4 hd5))
   go_wp2
   refine tkEnd rfl w.heap.size ⟨who, dst, epoch, frm, til, ser⟩ rfl (row_set6 HT2.out _ _ _ _ _ _) rfl ?_
   exact ⟨rfl, below_set6 HB1.out (Nat.le_refl _) _ _ _ _ _ _⟩
theorem read_any (a : Nat → Addr) (v : Value) (xs : List ByteArray) (w : World) (h : Env a w) (hv : TextsAt w v xs) (hs : ∀ x ∈ xs, x.size ≤ maxLen) :
  Calls Tryz.prog 55 #[v] w fun e w' => e = .returned (.tuple #[(okT (readE (toLs xs)) (tkOf (toLs xs))).val, errV a (readE (toLs xs))]) ∧ Below w.heap.size w w' := by
 obtain ⟨ad, c, rfl, hc, hor⟩ := hv
 by_cases hn : xs.length = 7
 ·
  obtain ⟨x0, x1, x2, x3, x4, x5, x6, rfl⟩ : ∃ x0 x1 x2 x3 x4 x5 x6, xs = [x0, x1, x2, x3, x4, x5, x6] := by
   match xs, hn with
   | [x0, x1, x2, x3, x4, x5, x6], _ => exact ⟨_, _, _, _, _, _, _, rfl⟩
  obtain ⟨b, o, rfl, hx⟩ : ∃ b o, ad = some ⟨b, o, none⟩ ∧ Texts w b o [x0, x1, x2, x3, x4, x5, x6] := by
   rcases hor with g | g
   ·
    cases g
   ·
    exact g
  by_cases hk : x0.data.toList = tickL
  ·
   refine read_nums a b o c x0 x1 x2 x3 x4 x5 x6 w h hc hx hk hs _ _ (fun k hk4 hno => ?_) (fun hall => ?_)
   ·
    have e1 : readE (toLs [x0, x1, x2, x3, x4, x5, x6]) = 1 := by
     unfold readE
     rw [if_neg]
     intro hf
     unfold formW at hf
     obtain ⟨_, h36⟩ := Bool.and_eq_true_iff.1 hf
     obtain ⟨h35, g6⟩ := Bool.and_eq_true_iff.1 h36
     obtain ⟨h34, g5⟩ := Bool.and_eq_true_iff.1 h35
     obtain ⟨g3, g4⟩ := Bool.and_eq_true_iff.1 h34
     match k, hk4 with
     | 0, _ => exact absurd (hno.symm.trans g3) (by decide)
     | 1, _ => exact absurd (hno.symm.trans g4) (by decide)
     | 2, _ => exact absurd (hno.symm.trans g5) (by decide)
     | 3, _ => exact absurd (hno.symm.trans g6) (by decide)
    rw [e1]
    exact ⟨rfl, rfl⟩
   ·
    have e1 : readE (toLs [x0, x1, x2, x3, x4, x5, x6]) = (tkOf (toLs [x0, x1, x2, x3, x4, x5, x6])).err := by
     unfold readE
     rw [if_pos]
     unfold formW
     have g3 := hall 0 (by decide)
     have g4 := hall 1 (by decide)
     have g5 := hall 2 (by decide)
     have g6 := hall 3 (by decide)
     show (true && decide (x0.data.toList = tickL) && (Sl.numOk x3.data.toList && Sl.numOk x4.data.toList && Sl.numOk x5.data.toList && Sl.numOk x6.data.toList)) = true
     have f3 : Sl.numOk x3.data.toList = true := g3
     have f4 : Sl.numOk x4.data.toList = true := g4
     have f5 : Sl.numOk x5.data.toList = true := g5
     have f6 : Sl.numOk x6.data.toList = true := g6
     rw [f3, f4, f5, f6, decide_eq_true hk]
     rfl
    rw [e1]
    intro w hw
    have ew : (tkOf (toLs [x0, x1, x2, x3, x4, x5, x6])).val = .agg #[.string x1, .string x2, .int .i64 (Sl.valL x3.data.toList), .int .i64 (Sl.valL x4.data.toList), .int .i64 (Sl.valL x5.data.toList), .int .i64 (Sl.valL x6.data.toList)] := by
     show Value.agg #[.string (Sl.ofL x1.data.toList), .string (Sl.ofL x2.data.toList), _, _, _, _] = _
     rw [Sl.ofL_toL, Sl.ofL_toL]
     rfl
    have := checked_any a (tkOf (toLs [x0, x1, x2, x3, x4, x5, x6])) w hw (by show (Sl.ofL x1.data.toList).size ≤ _; rw [Sl.ofL_toL]; exact hs x1 (by simp)) (by show (Sl.ofL x2.data.toList).size ≤ _; rw [Sl.ofL_toL]; exact hs x2 (by simp))
    rw [ew] at this
    exact this
  ·
   have e1 : readE (toLs [x0, x1, x2, x3, x4, x5, x6]) = 1 := by
    unfold readE
    rw [if_neg]
    intro hf
    unfold formW at hf
    exact hk (of_decide_eq_true (Bool.and_eq_true_iff.1 (Bool.and_eq_true_iff.1 hf).1).2)
   rw [e1]
   exact read_kind a b o c x0 w h (hx 0 (by simp)) hk
 ·
  have e1 : readE (toLs xs) = 1 := by
   unfold readE
   rw [if_neg]
   intro hf
   unfold formW at hf
   have := of_decide_eq_true (Bool.and_eq_true_iff.1 (Bool.and_eq_true_iff.1 hf).1).1
   rw [List.length_map] at this
   exact hn this
  rw [e1]
  exact read_len a ad xs.length c w h hn
theorem read_look (a : Nat → Addr) (l : List UInt8) (b : Nat) (w : World) (h : Env a w) (h0 : Sl.lookE l = 0) (hx : Texts w b 0 ((Sl.lookW l).map Sl.ofL)) :
  Calls Tryz.prog 55 #[.slice (some ⟨b, 0, none⟩) (Sl.lookW l).length (Sl.lookW l).length] w fun e w' => e = .returned (.tuple #[(okT (readE (Sl.lookW l)) (tkOf (Sl.lookW l))).val, errV a (readE (Sl.lookW l))]) ∧ Below w.heap.size w w' := by
 have hmm : toLs ((Sl.lookW l).map Sl.ofL) = Sl.lookW l := by
  unfold toLs
  rw [List.map_map]
  conv => rhs; rw [← List.map_id (Sl.lookW l)]
  exact List.map_congr_left fun l _ => rfl
 have hw := (Sl.wordsOk_iff _).1 (Sl.lookOk_words l (Sl.lookE_ok l h0))
 have := read_any a (.slice (some ⟨b, 0, none⟩) (Sl.lookW l).length (Sl.lookW l).length) ((Sl.lookW l).map Sl.ofL) w h ⟨_, _, by rw [List.length_map], by simp, Or.inr ⟨b, 0, rfl, hx⟩⟩ (fun x hx => by
  obtain ⟨y, hy, rfl⟩ := List.mem_map.1 hx
  have := (Sl.word_len y (hw.2 y hy)).2
  rw [Sl.ofL_size]
  unfold maxLen; omega)
 rw [hmm] at this
 exact this
def tkMakeE (key : Int) (t : Tk) : Nat := if 1 ≤ key ∧ key ≤ 1000000006 then t.err else 10
def tkMakeS (key : Int) (t : Tk) : ByteArray := if tkMakeE key t = 0 then Sl.ofL (Sl.sealL key t.words) else ⟨#[]⟩
def tkOpenE (key : Int) (l : List UInt8) : Nat := if Sl.openE key l = 0 then readE (Sl.lookW l) else Sl.openE key l
def tkLookE (l : List UInt8) : Nat := if Sl.lookE l = 0 then readE (Sl.lookW l) else Sl.lookE l
set_option maxRecDepth 100000 in
set_option maxHeartbeats 2000000 in
theorem tkMake_key (a : Nat → Addr) (key : Int) (t : Tk) (w : World) (h : Env a w) (hk : ¬ (1 ≤ key ∧ key ≤ 1000000006)) :
  Calls Tryz.prog 101 #[.int .i64 key, t.val] w fun e w' => e = .returned (.tuple #[.string ⟨#[]⟩, eV (a 9)]) ∧ Below w.heap.size w w' := by
 have HB0 : Hid (Below w.heap.size w (w.alloc (tkO t))) := (Below.refl _ w).alloc (Nat.le_refl _) _
 have HK := hide (of_any a key ⟨#[]⟩ _ (h.errs.below HB0.out) (by decide))
 rw [key_more, if_neg hk, show errV a 10 = eV (a 9) from rfl] at HK
 generalize moreN key key _ = m at HK
 clear h hk
 rw [tk_val]
 obtain ⟨who, dst, epoch, frm, til, ser⟩ := t
 dsimp only at *
 go_enter Tryz.func101, Tryz.ntmps101
 go_wp2_with fail
 refine HK.out.mono ?_
 rintro e w1 ⟨rfl, hb⟩
 have HB1 : Hid (Below w.heap.size w w1) := HB0.out.trans (hb.mono HB0.out.size)
 clear hb HB0 HK
 go_wp2
 go_ret2
 exact ⟨rfl, HB1.out⟩
set_option maxRecDepth 100000 in
set_option maxHeartbeats 2000000 in
theorem tkMake_err (a : Nat → Addr) (key : Int) (t : Tk) (w : World) (h : Env a w) (hs : t.who.size ≤ maxLen) (hs2 : t.dst.size ≤ maxLen) (hk : 1 ≤ key ∧ key ≤ 1000000006) (h0 : t.err ≠ 0) :
  Calls Tryz.prog 101 #[.int .i64 key, t.val] w fun e w' => e = .returned (.tuple #[.string ⟨#[]⟩, errV a t.err]) ∧ Below w.heap.size w w' := by
 have HB0 : Hid (Below w.heap.size w (w.alloc (tkO t))) := (Below.refl _ w).alloc (Nat.le_refl _) _
 have HR0 : Hid ((w.alloc (tkO t)).heap[w.heap.size]? = some (tkO t)) := heap_alloc_new _ _
 have HK := hide (of_any a key ⟨#[]⟩ _ (h.errs.below HB0.out) (by decide))
 rw [key_more, if_pos hk, show errV a 0 = Value.nilIface from rfl] at HK
 generalize moreN key key _ = m at HK
 have HC := hide (fun w h => tkCheck_any a t w h hs hs2)
 have HE := hide h
 have e1 : errV a t.err = eV (a (t.err - 1)) := by unfold errV; rw [if_neg h0]
 rw [e1] at HC ⊢
 generalize a (t.err - 1) = ad at *
 clear h hk hs hs2 h0 e1
 rw [tk_val] at HC ⊢
 obtain ⟨who, dst, epoch, frm, til, ser⟩ := t
 dsimp only at *
 go_enter Tryz.func101, Tryz.ntmps101
 go_wp2_with fail
 refine HK.out.mono ?_
 rintro e w1 ⟨rfl, hb⟩
 have HB1 : Hid (Below w.heap.size w w1) := HB0.out.trans (hb.mono HB0.out.size)
 have HT0 : Hid (w1.heap[w.heap.size]? = some (tkO ⟨who, dst, epoch, frm, til, ser⟩)) := by show _ = _; rw [hb.block _ (by simp)]; exact HR0.out
 obtain ⟨hc0, hc1, hc2, hc3, hc4, hc5⟩ := tk_row HT0.out
 dsimp only at hc0 hc1 hc2 hc3 hc4 hc5
 clear hb HB0 HK HR0 HT0
 go_wp2_with fail
 refine (HC.out _ (HE.out.errs.below HB1.out)).mono ?_
 rintro e w2 ⟨rfl, hb⟩
 have HB2 : Hid (Below w.heap.size w w2) := HB1.out.trans (hb.mono HB1.out.size)
 clear hb HB1 HC HE hc0 hc1 hc2 hc3 hc4 hc5
 go_wp2
 go_ret2
 exact ⟨rfl, HB2.out⟩
set_option maxRecDepth 100000 in
set_option maxHeartbeats 2000000 in
theorem tkMake_ok (a : Nat → Addr) (key : Int) (t : Tk) (w : World) (h : Env a w) (hs : t.who.size ≤ maxLen) (hs2 : t.dst.size ≤ maxLen) (hk : 1 ≤ key ∧ key ≤ 1000000006) (h0 : t.err = 0) :
  Calls Tryz.prog 101 #[.int .i64 key, t.val] w fun e w' => e = .returned (.tuple #[.string (Sl.ofL (Sl.sealL key t.words)), .nilIface]) ∧ Below w.heap.size w w' := by
 have HB0 : Hid (Below w.heap.size w (w.alloc (tkO t))) := (Below.refl _ w).alloc (Nat.le_refl _) _
 have HR0 : Hid ((w.alloc (tkO t)).heap[w.heap.size]? = some (tkO t)) := heap_alloc_new _ _
 have HK := hide (of_any a key ⟨#[]⟩ _ (h.errs.below HB0.out) (by decide))
 rw [key_more, if_pos hk, show errV a 0 = Value.nilIface from rfl] at HK
 generalize moreN key key _ = m at HK
 have HC := hide (fun w h => tkCheck_any a t w h hs hs2)
 rw [h0, show errV a 0 = Value.nilIface from rfl] at HC
 have HE := hide h
 have HW := hide (fun w h => words_any a t w h h0)
 have hml : (t.words.map Sl.ofL).map (·.data.toList) = t.words := by
  rw [List.map_map]
  conv => rhs; rw [← List.map_id t.words]
  exact List.map_congr_left fun l _ => rfl
 have HM : Hid (∀ b w, Env a w → Texts w b 0 (t.words.map Sl.ofL) → Calls Tryz.prog 137 #[.int .i64 key, .slice (some ⟨b, 0, none⟩) 7 7] w fun e w' => e = .returned (.tuple #[.string (Sl.ofL (Sl.sealL key t.words)), .nilIface]) ∧ Below w.heap.size w w') := fun b w h hx => by
  have := make_ok a key b 0 7 7 (t.words.map Sl.ofL) w h hk (Nat.le_refl _) hx rfl (by rw [hml]; exact t.words_ok h0)
  rw [hml] at this
  exact this
 clear h hk hs hs2 h0 hml
 generalize Sl.ofL (Sl.sealL key t.words) = res at *
 generalize t.words.map Sl.ofL = ws at *
 rw [tk_val] at HC HW ⊢
 obtain ⟨who, dst, epoch, frm, til, ser⟩ := t
 dsimp only at *
 go_enter Tryz.func101, Tryz.ntmps101
 go_wp2_with fail
 refine HK.out.mono ?_
 rintro e w1 ⟨rfl, hb⟩
 have HB1 : Hid (Below w.heap.size w w1) := HB0.out.trans (hb.mono HB0.out.size)
 have HT0 : Hid (w1.heap[w.heap.size]? = some (tkO ⟨who, dst, epoch, frm, til, ser⟩)) := by show _ = _; rw [hb.block _ (by simp)]; exact HR0.out
 obtain ⟨hc0, hc1, hc2, hc3, hc4, hc5⟩ := tk_row HT0.out
 dsimp only at hc0 hc1 hc2 hc3 hc4 hc5
 clear hb HB0 HK HR0
 go_wp2_with fail
 refine (HC.out _ (HE.out.errs.below HB1.out)).mono ?_
 rintro e w2 ⟨rfl, hb⟩
 have HB2 : Hid (Below w.heap.size w w2) := HB1.out.trans (hb.mono HB1.out.size)
 have HT2 : Hid (w2.heap[w.heap.size]? = some (tkO ⟨who, dst, epoch, frm, til, ser⟩)) := by show _ = _; rw [hb.block _ (row_lt HT0.out)]; exact HT0.out
 clear hb HB1 HC hc0 hc1 hc2 hc3 hc4 hc5 HT0
 obtain ⟨hc0, hc1, hc2, hc3, hc4, hc5⟩ := tk_row HT2.out
 dsimp only at hc0 hc1 hc2 hc3 hc4 hc5
 clear HT2
 go_wp2_with fail
 refine (HW.out _ (HE.out.below HB2.out)).mono ?_
 rintro e w3 ⟨b, hx, rfl, hb⟩
 have HB3 : Hid (Below w.heap.size w w3) := HB2.out.trans (hb.mono HB2.out.size)
 have HM3 := hide (HM.out b w3 (HE.out.below HB3.out) hx)
 clear hb hx HB2 HW HE HM hc0 hc1 hc2 hc3 hc4 hc5
 go_wp2_with fail
 refine HM3.out.mono ?_
 rintro e w4 ⟨rfl, hb⟩
 have HB4 : Hid (Below w.heap.size w w4) := HB3.out.trans (hb.mono HB3.out.size)
 clear hb HB3 HM3
 go_wp2
 go_ret2
 exact ⟨rfl, HB4.out⟩
theorem tkMake_any (a : Nat → Addr) (key : Int) (t : Tk) (w : World) (h : Env a w) (hs : t.who.size ≤ maxLen) (hs2 : t.dst.size ≤ maxLen) :
  Calls Tryz.prog 101 #[.int .i64 key, t.val] w fun e w' => e = .returned (.tuple #[.string (tkMakeS key t), errV a (tkMakeE key t)]) ∧ Below w.heap.size w w' := by
 unfold tkMakeS
 by_cases hk : 1 ≤ key ∧ key ≤ 1000000006
 ·
  rw [show tkMakeE key t = t.err by unfold tkMakeE; rw [if_pos hk]]
  by_cases h0 : t.err = 0
  ·
   rw [if_pos h0, h0]
   exact tkMake_ok a key t w h hs hs2 hk h0
  ·
   rw [if_neg h0]
   exact tkMake_err a key t w h hs hs2 hk h0
 ·
  rw [show tkMakeE key t = 10 by unfold tkMakeE; rw [if_neg hk]]
  exact tkMake_key a key t w h hk
set_option maxRecDepth 100000 in
set_option maxHeartbeats 2000000 in
theorem tkOpen_any (a : Nat → Addr) (key : Int) (s : ByteArray) (w : World) (h : Env a w) :
  Calls Tryz.prog 14 #[.int .i64 key, .string s] w fun e w' => e = .returned (.tuple #[(okT (tkOpenE key s.data.toList) (tkOf (Sl.lookW s.data.toList))).val, errV a (tkOpenE key s.data.toList)]) ∧ Below w.heap.size w w' := by
 have HB0 : Hid (Below w.heap.size w (w.alloc (tkO tk0))) := (Below.refl _ w).alloc (Nat.le_refl _) _
 have HR0 : Hid ((w.alloc (tkO tk0)).heap[w.heap.size]? = some (tkO tk0)) := heap_alloc_new _ _
 have HO := hide (open_any a key s _ (h.below HB0.out))
 have HE := hide h
 by_cases h0 : Sl.openE key s.data.toList = 0
 ·
  have e1 : tkOpenE key s.data.toList = readE (Sl.lookW s.data.toList) := by unfold tkOpenE; rw [if_pos h0]
  rw [e1]
  have HRd := hide (fun b w h hx => read_look a s.data.toList b w h (((Sl.openE_iff key _).1 h0).2.1) hx)
  rw [h0] at HO
  generalize okT (readE (Sl.lookW s.data.toList)) (tkOf (Sl.lookW s.data.toList)) = r at *
  generalize errV a (readE (Sl.lookW s.data.toList)) = rv at *
  clear h h0 e1
  generalize Sl.lookW s.data.toList = ws at *
  rw [tk_val] at HRd ⊢
  obtain ⟨who, dst, epoch, frm, til, ser⟩ := r
  dsimp only at *
  go_enter Tryz.func14, Tryz.ntmps14
  go_wp2_with fail
  refine HO.out.mono ?_
  rintro e w1 ⟨hb, hp⟩
  unfold WordsPost at hp
  rw [if_pos rfl] at hp
  obtain ⟨b, hx, rfl⟩ := hp
  have HB1 : Hid (Below w.heap.size w w1) := HB0.out.trans (hb.mono HB0.out.size)
  have HT1 : Hid (w1.heap[w.heap.size]? = some (tkO tk0)) := by show _ = _; rw [hb.block _ (by simp)]; exact HR0.out
  have HRd1 := hide (HRd.out b w1 (HE.out.below HB1.out) hx)
  clear hb hx HB0 HO HR0 HE HRd
  generalize ws.length = n at *
  go_wp2_with fail
  refine HRd1.out.mono ?_
  rintro e w2 ⟨rfl, hb⟩
  have HB2 : Hid (Below w.heap.size w w2) := HB1.out.trans (hb.mono HB1.out.size)
  have HT2 : Hid (w2.heap[w.heap.size]? = some (tkO tk0)) := by show _ = _; rw [hb.block _ (row_lt HT1.out)]; exact HT1.out
  clear hb HB1 HT1 HRd1
  obtain ⟨hd0, hd1, hd2, hd3, hd4, hd5⟩ := tk_row HT2.out
  obtain ⟨hf0, hf1, hf2, hf3, hf4, hf5⟩ := row_frozen6 HT2.out
  dsimp only [tk0] at hd0 hd1 hd2 hd3 hd4 hd5
  go_wp2
  refine tkEnd rfl w.heap.size ⟨who, dst, epoch, frm, til, ser⟩ rfl (row_set6 HT2.out _ _ _ _ _ _) rfl ?_
  exact ⟨rfl, below_set6 HB2.out (Nat.le_refl _) _ _ _ _ _ _⟩
 ·
  have e1 : tkOpenE key s.data.toList = Sl.openE key s.data.toList := by unfold tkOpenE; rw [if_neg h0]
  rw [e1, okT_no _ _ h0, errV_posS a _ h0]
  have HO2 : Hid (Calls Tryz.prog 54 #[.int .i64 key, .string s] (w.alloc (tkO tk0)) fun e w' => e = .returned (.tuple #[.slice none 0 0, eV (a (Sl.openE key s.data.toList - 1))]) ∧ Below (w.alloc (tkO tk0)).heap.size (w.alloc (tkO tk0)) w') := HO.out.mono fun e w' ⟨hb, hp⟩ => by
   unfold WordsPost at hp
   rw [if_neg h0, errV_posS a _ h0] at hp
   exact ⟨hp, hb⟩
  generalize a (Sl.openE key s.data.toList - 1) = ad at *
  clear h h0 e1 HO HE
  go_enter Tryz.func14, Tryz.ntmps14
  go_wp2_with fail
  refine HO2.out.mono ?_
  rintro e w1 ⟨rfl, hb⟩
  have HB1 : Hid (Below w.heap.size w w1) := HB0.out.trans (hb.mono HB0.out.size)
  have HT1 : Hid (w1.heap[w.heap.size]? = some (tkO tk0)) := by show _ = _; rw [hb.block _ (by simp)]; exact HR0.out
  clear hb HB0 HO2 HR0
  obtain ⟨hd0, hd1, hd2, hd3, hd4, hd5⟩ := tk_row HT1.out
  obtain ⟨hf0, hf1, hf2, hf3, hf4, hf5⟩ := row_frozen6 HT1.out
  dsimp only [tk0] at hd0 hd1 hd2 hd3 hd4 hd5
  go_wp2
  refine tkEnd rfl w.heap.size tk0 rfl (row_set6 HT1.out _ _ _ _ _ _) rfl ?_
  exact ⟨rfl, below_set6 HB1.out (Nat.le_refl _) _ _ _ _ _ _⟩
theorem dec_any (n : Int) (w : World) (h0 : 0 ≤ n) (h1 : n ≤ 1073741824) :
  Calls Tryz.prog 25 #[.int .i64 n] w fun e w' => e = .returned (.string (Sl.ofL (Lib.decDigits n.toNat))) ∧ Below w.heap.size w w' := by
 have := refDecimal_any n.toNat (by omega) w
 rw [show ((n.toNat : Nat) : Int) = n by omega] at this
 exact this
theorem row_kept {w w' : World} {g : Nat} {o : Obj} (h : w.heap[g]? = some o) (hb : Below w.heap.size w w') : w'.heap[g]? = some o := (hb.block _ (row_lt h)).trans h
theorem row_pushed {w : World} {g : Nat} {o : Obj} (h : w.heap[g]? = some o) (o2 : Obj) : (w.alloc o2).heap[g]? = some o := (heap_alloc_old _ _ (row_lt h)).trans h
theorem texts7b (w : World) (o : Obj) (x0 x1 x2 x3 x4 x5 x6 : ByteArray) : Texts ((w.alloc o).alloc (.cells #[.string x0, .string x1, .string x2, .string x3, .string x4, .string x5, .string x6] 9)) (w.heap.size + 1) 0 [x0, x1, x2, x3, x4, x5, x6] := by
 have := texts7 (w.alloc o) x0 x1 x2 x3 x4 x5 x6
 rw [show (w.alloc o).heap.size = w.heap.size + 1 by simp] at this
 exact this
theorem fault_drew (w : World) : (w.alloc fault0).drew.heap[w.heap.size]? = some fault0 := heap_alloc_new w fault0
theorem fault_behind (w : World) (o : Obj) : ((w.alloc o).alloc fault0).heap[w.heap.size + 1]? = some fault0 := by
 have := heap_alloc_new (w.alloc o) fault0
 rw [show (w.alloc o).heap.size = w.heap.size + 1 by simp] at this
 exact this
set_option maxRecDepth 100000 in
set_option maxHeartbeats 2000000 in
theorem refText_key (key : Int) (t : Tk) (w : World) (hk : ¬ (1 ≤ key ∧ key ≤ 1000000006)) :
  Calls Tryz.prog 86 #[.int .i64 key, t.val] w fun e w' => e = .returned (.tuple #[.string ⟨#[]⟩, .int .i64 10]) ∧ Below w.heap.size w w' := by
 have HB0 : Hid (Below w.heap.size w (w.alloc (tkO t))) := (Below.refl _ w).alloc (Nat.le_refl _) _
 have HK := hide (fun w => refKey_any key w)
 rw [decide_eq_false hk] at HK
 clear hk
 rw [tk_val]
 obtain ⟨who, dst, epoch, frm, til, ser⟩ := t
 dsimp only at *
 go_enter Tryz.func86, Tryz.ntmps86
 go_wp2_with fail
 refine (HK.out _).mono ?_
 rintro e w1 ⟨rfl, rfl⟩
 go_wp2
 go_ret2
 exact ⟨rfl, HB0.out⟩
set_option maxRecDepth 100000 in
set_option maxHeartbeats 2000000 in
theorem refText_err (key : Int) (t : Tk) (w : World) (hs : t.who.size ≤ maxLen) (hs2 : t.dst.size ≤ maxLen) (hk : 1 ≤ key ∧ key ≤ 1000000006) (h0 : t.err ≠ 0) :
  Calls Tryz.prog 86 #[.int .i64 key, t.val] w fun e w' => e = .returned (.tuple #[.string ⟨#[]⟩, .int .i64 (t.err : Int)]) ∧ Below w.heap.size w w' := by
 have HB0 : Hid (Below w.heap.size w (w.alloc (tkO t))) := (Below.refl _ w).alloc (Nat.le_refl _) _
 have HK := hide (fun w => refKey_any key w)
 rw [decide_eq_true hk] at HK
 have HC := hide (refTk_any t (w.alloc (tkO t)) hs hs2)
 have hz : (0 : Int) < (t.err : Int) := by omega
 have hz2 : (t.err : Int) ≤ 16 := by have := t.err_le; omega
 generalize (t.err : Int) = z at *
 clear hk hs hs2 h0
 rw [tk_val] at HC ⊢
 obtain ⟨who, dst, epoch, frm, til, ser⟩ := t
 dsimp only at *
 go_enter Tryz.func86, Tryz.ntmps86
 go_wp2_with fail
 refine (HK.out _).mono ?_
 rintro e w1 ⟨rfl, rfl⟩
 go_wp2_with fail
 refine HC.out.mono ?_
 rintro e w2 ⟨rfl, hb⟩
 have HB2 : Hid (Below w.heap.size w w2) := HB0.out.trans (hb.mono HB0.out.size)
 clear hb HB0 HC HK
 go_wp2
 go_ret2
 exact ⟨rfl, HB2.out⟩
set_option maxRecDepth 100000 in
set_option maxHeartbeats 4000000 in
theorem refText_ok (key : Int) (t : Tk) (w : World) (hs : t.who.size ≤ maxLen) (hs2 : t.dst.size ≤ maxLen) (hk : 1 ≤ key ∧ key ≤ 1000000006) (h0 : t.err = 0) :
  Calls Tryz.prog 86 #[.int .i64 key, t.val] w fun e w' => e = .returned (.tuple #[.string (Sl.ofL (Sl.sealL key t.words)), .int .i64 0]) ∧ Below w.heap.size w w' := by
 have HB0 : Hid (Below w.heap.size w (w.alloc (tkO t))) := (Below.refl _ w).alloc (Nat.le_refl _) _
 have HR0 : Hid ((w.alloc (tkO t)).heap[w.heap.size]? = some (tkO t)) := heap_alloc_new _ _
 have HK := hide (fun w => refKey_any key w)
 rw [decide_eq_true hk] at HK
 have HC := hide (refTk_any t (w.alloc (tkO t)) hs hs2)
 rw [h0] at HC
 obtain ⟨_, ⟨k1, k2⟩, ⟨k3, k4⟩, ⟨k5, k6⟩, k7, k8⟩ := t.err_iff.1 h0
 have H1 := hide (fun w => dec_any t.epoch w (by omega) (by omega))
 have H2 := hide (fun w => dec_any t.frm w (by omega) (by omega))
 have H3 := hide (fun w => dec_any t.til w (by omega) (by omega))
 have H4 := hide (fun w => dec_any t.ser w (by omega) (by omega))
 have hml : (t.words.map Sl.ofL).map (·.data.toList) = t.words := by
  rw [List.map_map]
  conv => rhs; rw [← List.map_id t.words]
  exact List.map_congr_left fun l _ => rfl
 have HW : t.words.map Sl.ofL = [⟨#[116, 105, 99, 107, 101, 116]⟩, t.who, t.dst, Sl.ofL (Lib.decDigits t.epoch.toNat), Sl.ofL (Lib.decDigits t.frm.toNat), Sl.ofL (Lib.decDigits t.til.toNat), Sl.ofL (Lib.decDigits t.ser.toNat)] := by
  show [Sl.ofL tickL, Sl.ofL t.who.data.toList, Sl.ofL t.dst.data.toList, _, _, _, _] = _
  rw [Sl.ofL_toL, Sl.ofL_toL]
  rfl
 have HSl : Hid (∀ b w, Texts w b 0 (t.words.map Sl.ofL) → Calls Tryz.prog 98 #[.int .i64 key, .slice (some ⟨b, 0, none⟩) 7 7] w fun e w' => e = .returned (.tuple #[.string (Sl.ofL (Sl.sealL key t.words)), .agg #[.int .i64 0, .int .i64 (-1)]]) ∧ Below w.heap.size w w') := fun b w hx => by
  have := sealOf_ok key b 0 7 7 (t.words.map Sl.ofL) w hk hx rfl (by unfold toLs; rw [hml]; exact t.words_ok h0)
  rw [show toLs (t.words.map Sl.ofL) = t.words from hml] at this
  exact this
 rw [HW] at HSl
 clear hk hs hs2 h0 hml HW k1 k2 k3 k4 k5 k6 k7 k8
 generalize Sl.ofL (Sl.sealL key t.words) = res at *
 generalize Sl.ofL (Lib.decDigits t.epoch.toNat) = s1 at *
 generalize Sl.ofL (Lib.decDigits t.frm.toNat) = s2 at *
 generalize Sl.ofL (Lib.decDigits t.til.toNat) = s3 at *
 generalize Sl.ofL (Lib.decDigits t.ser.toNat) = s4 at *
 rw [tk_val] at HC ⊢
 obtain ⟨who, dst, epoch, frm, til, ser⟩ := t
 dsimp only at *
 go_enter Tryz.func86, Tryz.ntmps86
 go_wp2_with fail
 refine (HK.out _).mono ?_
 rintro e w1 ⟨rfl, rfl⟩
 go_wp2_with fail
 refine HC.out.mono ?_
 rintro e W0 ⟨rfl, hb⟩
 have HB2 : Hid (Below w.heap.size w W0) := HB0.out.trans (hb.mono HB0.out.size)
 have HR2 : Hid (W0.heap[w.heap.size]? = some (tkO ⟨who, dst, epoch, frm, til, ser⟩)) := (hb.block _ (row_lt HR0.out)).trans HR0.out
 clear hb HB0 HC HK HR0
 have HCe : Hid (∀ W, Below W0.heap.size W0 W → W.cell? ⟨w.heap.size, 0, none⟩ = some (.string who) ∧ W.cell? ⟨w.heap.size, 1, none⟩ = some (.string dst) ∧ W.cell? ⟨w.heap.size, 2, none⟩ = some (.int .i64 epoch) ∧ W.cell? ⟨w.heap.size, 3, none⟩ = some (.int .i64 frm) ∧ W.cell? ⟨w.heap.size, 4, none⟩ = some (.int .i64 til) ∧ W.cell? ⟨w.heap.size, 5, none⟩ = some (.int .i64 ser)) := fun W hb => tk_row (t := ⟨who, dst, epoch, frm, til, ser⟩) ((hb.block _ (row_lt HR2.out)).trans HR2.out)
 have HSz : Hid (w.heap.size < W0.heap.size) := row_lt HR2.out
 have Hd : Hid (Below W0.heap.size W0 W0.drew) := (Below.refl _ _).drew
 have hn0 : W0.heap.size ≠ w.heap.size := (fun e => by have := HSz.out; omega)
 obtain ⟨z0, z1, z2, z3, z4, z5⟩ := HCe.out W0 (Below.refl _ _)
 clear HR2
 go_wp2_with fail
 go_region_held3 (fun w' => w'.cell? ⟨w.heap.size, 0, none⟩ = some (.string who) ∧ w'.cell? ⟨w.heap.size, 1, none⟩ = some (.string dst) ∧ w'.cell? ⟨w.heap.size, 2, none⟩ = some (.int .i64 epoch) ∧ w'.cell? ⟨w.heap.size, 3, none⟩ = some (.int .i64 frm) ∧ w'.cell? ⟨w.heap.size, 4, none⟩ = some (.int .i64 til) ∧ w'.cell? ⟨w.heap.size, 5, none⟩ = some (.int .i64 ser)) (go_keep)
  (first
   | (go_at_call 25; refine (H1.out _).mono ?_; rintro e w1 ⟨rfl, hb⟩; have HP1 : Hid (Below W0.heap.size W0 w1) := (by first | exact Hd.out.trans (hb.mono Hd.out.size) | exact (Hd.out.alloc Hd.out.size _).trans (hb.mono (Hd.out.alloc Hd.out.size _).size)); (first | (with_reducible have HF1 := hide (row_kept (fault_drew W0) hb)) | ((with_reducible have HFz := hide (row_kept (heap_alloc_new W0.drew fault0) hb)); have HF1 : Hid (w1.heap[W0.heap.size]? = some fault0) := HFz.out; clear HFz) | skip); have hc1 := HCe.out _ HP1.out; have hn1 : w1.heap.size ≠ w.heap.size := (fun e => by have := HP1.out.size; have := HSz.out; omega); have hm1 : w1.heap.size + 1 ≠ w.heap.size := (fun e => by have := HP1.out.size; have := HSz.out; omega); clear hb H1)
   | (go_at_call 25; refine (H2.out _).mono ?_; rintro e w2 ⟨rfl, hb⟩; have HP2 : Hid (Below W0.heap.size W0 w2) := (by first | exact HP1.out.trans (hb.mono HP1.out.size) | exact (HP1.out.alloc HP1.out.size _).trans (hb.mono (HP1.out.alloc HP1.out.size _).size)); (first | (with_reducible have HF2 := hide (row_kept HF1.out hb)) | (with_reducible have HF2 := hide (row_kept (heap_alloc_new w1 fault0) hb)) | skip); have hc2 := HCe.out _ HP2.out; have hn2 : w2.heap.size ≠ w.heap.size := (fun e => by have := HP2.out.size; have := HSz.out; omega); have hm2 : w2.heap.size + 1 ≠ w.heap.size := (fun e => by have := HP2.out.size; have := HSz.out; omega); clear hb H2)
   | (go_at_call 25; refine (H3.out _).mono ?_; rintro e w3 ⟨rfl, hb⟩; have HP3 : Hid (Below W0.heap.size W0 w3) := (by first | exact HP2.out.trans (hb.mono HP2.out.size) | exact (HP2.out.alloc HP2.out.size _).trans (hb.mono (HP2.out.alloc HP2.out.size _).size)); (first | (with_reducible have HF3 := hide (row_kept HF2.out hb)) | (with_reducible have HF3 := hide (row_kept (heap_alloc_new w2 fault0) hb)) | skip); have hc3 := HCe.out _ HP3.out; have hn3 : w3.heap.size ≠ w.heap.size := (fun e => by have := HP3.out.size; have := HSz.out; omega); have hm3 : w3.heap.size + 1 ≠ w.heap.size := (fun e => by have := HP3.out.size; have := HSz.out; omega); clear hb H3)
   | (go_at_call 25; refine (H4.out _).mono ?_; rintro e w4 ⟨rfl, hb⟩; have HP4 : Hid (Below W0.heap.size W0 w4) := (by first | exact HP3.out.trans (hb.mono HP3.out.size) | exact (HP3.out.alloc HP3.out.size _).trans (hb.mono (HP3.out.alloc HP3.out.size _).size)); (first | (with_reducible have HF4 := hide (row_kept HF3.out hb)) | (with_reducible have HF4 := hide (row_kept (heap_alloc_new w3 fault0) hb)) | skip); have hc4 := HCe.out _ HP4.out; have hn4 : w4.heap.size ≠ w.heap.size := (fun e => by have := HP4.out.size; have := HSz.out; omega); have hm4 : w4.heap.size + 1 ≠ w.heap.size := (fun e => by have := HP4.out.size; have := HSz.out; omega); clear hb H4)
   | (go_at_call 98; refine (HSl.out _ _ ?hx).mono ?_; (case hx => first | with_reducible exact texts7 w4 _ _ _ _ _ _ _ | with_reducible exact texts7b w4 fault0 _ _ _ _ _ _ _ | with_reducible exact Texts.below (texts7 w4 _ _ _ _ _ _ _) ((Below.refl _ _).alloc (Nat.le_refl _) fault0)); rintro e w5 ⟨rfl, hb⟩; have HP5 : Hid (Below W0.heap.size W0 w5) := (by first | exact (HP4.out.alloc HP4.out.size _).trans (hb.mono (HP4.out.alloc HP4.out.size _).size) | exact ((HP4.out.alloc HP4.out.size _).alloc (HP4.out.alloc HP4.out.size _).size _).trans (hb.mono ((HP4.out.alloc HP4.out.size _).alloc (HP4.out.alloc HP4.out.size _).size _).size)); (first | (with_reducible have HF5 := hide (row_kept (row_pushed HF4.out _) hb)) | (with_reducible have HF5 := hide (row_kept (row_pushed (heap_alloc_new w4 fault0) _) hb)) | (with_reducible have HF5 := hide (row_kept (fault_behind w4 _) hb)) | skip); have hc5 := HCe.out _ HP5.out; have hn5 : w5.heap.size ≠ w.heap.size := (fun e => by have := HP5.out.size; have := HSz.out; omega); (first | (have hq := HF5.out; have hq2 := row_cells2 hq; clear hq; obtain ⟨q0, q1, q2, q3⟩ := hq2) | skip); clear hb HSl))
 all_goals
  have HB5 : Hid (Below w.heap.size w w5) := HB2.out.trans (HP5.out.mono HB2.out.size)
  have HZ1 : Hid (w.heap.size ≤ W0.heap.size) := HB2.out.size
  have HY1 := hide HP1.out.size
  have HY2 := hide HP2.out.size
  have HY3 := hide HP3.out.size
  have HY4 := hide HP4.out.size
  clear HP1 HP2 HP3 HP4 HP5 HCe Hd HSz hc1 hc2 hc3 hc4 hc5 hn0 hn1 hn2 hn3 hn4 hn5 hm1 hm2 hm3 hm4 z0 z1 z2 z3 z4 z5
  go_wp2_with fail
  go_quiet (fail)
  go_wp2
  go_ret2
  first
   | exact ⟨rfl, below_drewN (HB5.out.alloc HB5.out.size _) _⟩
   | exact ⟨rfl, below_drewN ((HB5.out.setCell (by have := HZ1.out; have := HY1.out; have := HY2.out; have := HY3.out; have := HY4.out; dsimp only; omega) _).setCell (by have := HZ1.out; have := HY1.out; have := HY2.out; have := HY3.out; have := HY4.out; dsimp only; omega) _) _⟩
theorem refTkText_any (key : Int) (t : Tk) (w : World) (hs : t.who.size ≤ maxLen) (hs2 : t.dst.size ≤ maxLen) :
  Calls Tryz.prog 86 #[.int .i64 key, t.val] w fun e w' => e = .returned (.tuple #[.string (tkMakeS key t), .int .i64 (tkMakeE key t : Int)]) ∧ Below w.heap.size w w' := by
 unfold tkMakeS
 by_cases hk : 1 ≤ key ∧ key ≤ 1000000006
 ·
  rw [show tkMakeE key t = t.err by unfold tkMakeE; rw [if_pos hk]]
  by_cases h0 : t.err = 0
  ·
   rw [if_pos h0, h0]
   exact refText_ok key t w hs hs2 hk h0
  ·
   rw [if_neg h0]
   exact refText_err key t w hs hs2 hk h0
 ·
  rw [show tkMakeE key t = 10 by unfold tkMakeE; rw [if_neg hk]]
  exact refText_key key t w hk
end Go.Proofs.YtabpnjchocgakaaGreatDoor

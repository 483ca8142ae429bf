/-
  What the document's answer's RenewOf gives, for every ticket, times and serial.
-/
import Derived.Test.YtgagekcjdapkfabGreatDoorTicketRef
namespace Go.Proofs.YtgagekcjdapkfabGreatDoor
open Go.RowKit Go.Extern.Stop Go.Stop Go.Extern

set_option maxRecDepth 100000 in
set_option maxHeartbeats 2000000 in
theorem refRenew_no (t : Tk) (now til2 ser2 : Int) (w : World) (hs : t.who.size ≤ maxLen) (hs2 : t.dst.size ≤ maxLen) (h0 : t.good now ≠ 0) :
    Calls Tryz.prog 21 #[t.val, .int .i64 now, .int .i64 til2, .int .i64 ser2] w fun e w' => e = .returned (.tuple #[tk0.val, .int .i64 (t.good now : Int)]) ∧ Below w.heap.size w w' := by
  have HB0 : Hid (Below w.heap.size w ((w.alloc (tkO t)).alloc (tkO tk0))) := ((Below.refl _ w).alloc (Nat.le_refl _) _).alloc (by simp) _
  have HR1 : Hid (((w.alloc (tkO t)).alloc (tkO tk0)).heap[w.heap.size + 1]? = some (tkO tk0)) := by
    have := heap_alloc_new (w.alloc (tkO t)) (tkO tk0)
    rw [show (w.alloc (tkO t)).heap.size = w.heap.size + 1 by simp] at this
    exact this
  have HCall := hide (refGood_any t now ((w.alloc (tkO t)).alloc (tkO tk0)) hs hs2)
  have hz : (0 : Int) < (t.good now : Int) := by omega
  have hz2 : (t.good now : Int) ≤ 16 := by have := t.good_le now; omega
  generalize (t.good now : Int) = z at *
  clear hs hs2 h0
  rw [tk_val] at HCall
  rw [tk_val t]
  obtain ⟨who, dst, epoch, frm, til, ser⟩ := t
  dsimp only at *
  go_enter Tryz.func21, Tryz.ntmps21
  go_wp2_with fail
  refine HCall.out.mono ?_
  rintro e w1 ⟨rfl, hb⟩
  have HB1 : Hid (Below w.heap.size w w1) := HB0.out.trans (hb.mono HB0.out.size)
  have HT1 : Hid (w1.heap[w.heap.size + 1]? = some (tkO tk0)) := (hb.block _ (row_lt HR1.out)).trans HR1.out
  clear hb HR1 HB0 HCall
  obtain ⟨hd0, hd1, hd2, hd3, hd4, hd5⟩ := tk_row HT1.out
  obtain ⟨hf0, hf1, hf2, hf3, hf4, hf5⟩ := row_frozen6 HT1.out
  dsimp only [tk0] at hd0 hd1 hd2 hd3 hd4 hd5
  go_wp2
  refine tkEnd rfl (w.heap.size + 1) tk0 rfl (row_set6 HT1.out _ _ _ _ _ _) rfl ?_
  exact ⟨rfl, below_set6 HB1.out (by omega) _ _ _ _ _ _⟩

/-- What was there behind three stores into one block. -/
theorem set3_other (w : World) (g k : Nat) (hk : k ≠ g) (i j l : Nat) (x y z : Value) : (((w.setCell ⟨g, i, none⟩ x).setCell ⟨g, j, none⟩ y).setCell ⟨g, l, none⟩ z).heap[k]? = w.heap[k]? := by
  rw [heap_setCell_other _ _ _ _ hk, heap_setCell_other _ _ _ _ hk, heap_setCell_other _ _ _ _ hk]
theorem set2_other (w : World) (g k : Nat) (hk : k ≠ g) (i j : Nat) (x y : Value) : ((w.setCell ⟨g, i, none⟩ x).setCell ⟨g, j, none⟩ y).heap[k]? = w.heap[k]? := by
  rw [heap_setCell_other _ _ _ _ hk, heap_setCell_other _ _ _ _ hk]
/-- A ticket's block, its last cells written. -/
theorem tk_set3 {w : World} {g : Nat} {t : Tk} (h : w.heap[g]? = some (tkO t)) (a b c : Int) : (((w.setCell ⟨g, 3, none⟩ (.int .i64 a)).setCell ⟨g, 4, none⟩ (.int .i64 b)).setCell ⟨g, 5, none⟩ (.int .i64 c)).heap[g]? = some (tkO ⟨t.who, t.dst, t.epoch, a, b, c⟩) := by
  have h1 := heap_setCell_same w g 3 _ _ (.int .i64 a) h
  have h2 := heap_setCell_same _ g 4 _ _ (.int .i64 b) h1
  exact heap_setCell_same _ g 5 _ _ (.int .i64 c) h2
theorem tk_set2 {w : World} {g : Nat} {t : Tk} (h : w.heap[g]? = some (tkO t)) (a c : Int) : ((w.setCell ⟨g, 3, none⟩ (.int .i64 a)).setCell ⟨g, 5, none⟩ (.int .i64 c)).heap[g]? = some (tkO ⟨t.who, t.dst, t.epoch, a, t.til, c⟩) := by
  have h1 := heap_setCell_same w g 3 _ _ (.int .i64 a) h
  exact heap_setCell_same _ g 5 _ _ (.int .i64 c) h1

set_option maxRecDepth 100000 in
set_option maxHeartbeats 2000000 in
theorem refRenew_lt0 (t : Tk) (now til2 ser2 : Int) (w : World) (hs : t.who.size ≤ maxLen) (hs2 : t.dst.size ≤ maxLen) (h0 : t.good now = 0) (hm : til2 < t.til) (he : (t.anew now til2 ser2).err = 0) :
    Calls Tryz.prog 21 #[t.val, .int .i64 now, .int .i64 til2, .int .i64 ser2] w fun e w' => e = .returned (.tuple #[(t.anew now til2 ser2).val, .int .i64 0]) ∧ Below w.heap.size w w' := by
  have HB0 : Hid (Below w.heap.size w ((w.alloc (tkO t)).alloc (tkO tk0))) := ((Below.refl _ w).alloc (Nat.le_refl _) _).alloc (by simp) _
  have HR0 : Hid (((w.alloc (tkO t)).alloc (tkO tk0)).heap[w.heap.size]? = some (tkO t)) := (heap_alloc_old _ _ (by simp)).trans (heap_alloc_new _ _)
  have HR1 : Hid (((w.alloc (tkO t)).alloc (tkO tk0)).heap[w.heap.size + 1]? = some (tkO tk0)) := by
    have := heap_alloc_new (w.alloc (tkO t)) (tkO tk0)
    rw [show (w.alloc (tkO t)).heap.size = w.heap.size + 1 by simp] at this
    exact this
  have HCall := hide (refGood_any t now ((w.alloc (tkO t)).alloc (tkO tk0)) hs hs2)
  rw [h0] at HCall
  have ea : t.anew now til2 ser2 = ⟨t.who, t.dst, t.epoch, now, til2, ser2⟩ := by unfold Tk.anew; rw [show min til2 t.til = til2 by omega]
  have HK := hide (fun w => refTk_any (t.anew now til2 ser2) w hs hs2)
  rw [he] at HK
  rw [ea] at HK ⊢
  clear hs hs2 h0 he ea
  rw [tk_val] at HCall HK
  rw [tk_val t, tk_val]
  obtain ⟨who, dst, epoch, frm, til, ser⟩ := t
  dsimp only at *
  go_enter Tryz.func21, Tryz.ntmps21
  go_wp2_with fail
  refine HCall.out.mono ?_
  rintro e w1 ⟨rfl, hb⟩
  have HB1 : Hid (Below w.heap.size w w1) := HB0.out.trans (hb.mono HB0.out.size)
  have HT0 : Hid (w1.heap[w.heap.size]? = some (tkO ⟨who, dst, epoch, frm, til, ser⟩)) := (hb.block _ (row_lt HR0.out)).trans HR0.out
  have HT1 : Hid (w1.heap[w.heap.size + 1]? = some (tkO tk0)) := (hb.block _ (row_lt HR1.out)).trans HR1.out
  clear hb HR0 HR1 HB0 HCall
  obtain ⟨hc0, hc1, hc2, hc3, hc4, hc5⟩ := tk_row HT0.out
  obtain ⟨hf0, hf1, hf2, hf3, hf4, hf5⟩ := row_frozen6 HT0.out
  dsimp only at hc0 hc1 hc2 hc3 hc4 hc5
  go_wp2_with fail
  have HB2 : Hid (Below w.heap.size w (((w1.setCell ⟨w.heap.size, 3, none⟩ (.int .i64 now)).setCell ⟨w.heap.size, 4, none⟩ (.int .i64 til2)).setCell ⟨w.heap.size, 5, none⟩ (.int .i64 ser2))) := ((HB1.out.setCell (Nat.le_refl _) _).setCell (Nat.le_refl _) _).setCell (Nat.le_refl _) _
  have HT2 : Hid ((((w1.setCell ⟨w.heap.size, 3, none⟩ (.int .i64 now)).setCell ⟨w.heap.size, 4, none⟩ (.int .i64 til2)).setCell ⟨w.heap.size, 5, none⟩ (.int .i64 ser2)).heap[w.heap.size + 1]? = some (tkO tk0)) := (set3_other w1 w.heap.size (w.heap.size + 1) (by omega) 3 4 5 _ _ _).trans HT1.out
  have HX2 : Hid ((((w1.setCell ⟨w.heap.size, 3, none⟩ (.int .i64 now)).setCell ⟨w.heap.size, 4, none⟩ (.int .i64 til2)).setCell ⟨w.heap.size, 5, none⟩ (.int .i64 ser2)).heap[w.heap.size]? = some (tkO ⟨who, dst, epoch, now, til2, ser2⟩)) := tk_set3 HT0.out now til2 ser2
  generalize ((w1.setCell ⟨w.heap.size, 3, none⟩ (.int .i64 now)).setCell ⟨w.heap.size, 4, none⟩ (.int .i64 til2)).setCell ⟨w.heap.size, 5, none⟩ (.int .i64 ser2) = W at *
  refine (HK.out W).mono ?_
  rintro e w2 ⟨rfl, hb⟩
  have HB3 : Hid (Below w.heap.size w w2) := HB2.out.trans (hb.mono HB2.out.size)
  have HT3 : Hid (w2.heap[w.heap.size + 1]? = some (tkO tk0)) := (hb.block _ (row_lt HT2.out)).trans HT2.out
  have HX3 : Hid (w2.heap[w.heap.size]? = some (tkO ⟨who, dst, epoch, now, til2, ser2⟩)) := (hb.block _ (row_lt HX2.out)).trans HX2.out
  clear hb HT2 HB2 HT1 HT0 HB1 HX2 hc0 hc1 hc2 hc3 hc4 hc5 hf0 hf1 hf2 hf3 hf4 hf5 HK
  obtain ⟨hc0, hc1, hc2, hc3, hc4, hc5⟩ := tk_row HX3.out
  obtain ⟨hd0, hd1, hd2, hd3, hd4, hd5⟩ := tk_row HT3.out
  obtain ⟨hf0, hf1, hf2, hf3, hf4, hf5⟩ := row_frozen6 HT3.out
  dsimp only [tk0] at hc0 hc1 hc2 hc3 hc4 hc5 hd0 hd1 hd2 hd3 hd4 hd5
  go_wp2
  refine tkEnd rfl (w.heap.size + 1) ⟨who, dst, epoch, now, til2, ser2⟩ rfl (row_set6 HT3.out _ _ _ _ _ _) rfl ?_
  exact ⟨rfl, below_set6 HB3.out (by omega) _ _ _ _ _ _⟩

set_option maxRecDepth 100000 in
set_option maxHeartbeats 2000000 in
theorem refRenew_lt (t : Tk) (now til2 ser2 : Int) (w : World) (hs : t.who.size ≤ maxLen) (hs2 : t.dst.size ≤ maxLen) (h0 : t.good now = 0) (hm : til2 < t.til) (he : (t.anew now til2 ser2).err ≠ 0) :
    Calls Tryz.prog 21 #[t.val, .int .i64 now, .int .i64 til2, .int .i64 ser2] w fun e w' => e = .returned (.tuple #[tk0.val, .int .i64 ((t.anew now til2 ser2).err : Int)]) ∧ Below w.heap.size w w' := by
  have HB0 : Hid (Below w.heap.size w ((w.alloc (tkO t)).alloc (tkO tk0))) := ((Below.refl _ w).alloc (Nat.le_refl _) _).alloc (by simp) _
  have HR0 : Hid (((w.alloc (tkO t)).alloc (tkO tk0)).heap[w.heap.size]? = some (tkO t)) := (heap_alloc_old _ _ (by simp)).trans (heap_alloc_new _ _)
  have HR1 : Hid (((w.alloc (tkO t)).alloc (tkO tk0)).heap[w.heap.size + 1]? = some (tkO tk0)) := by
    have := heap_alloc_new (w.alloc (tkO t)) (tkO tk0)
    rw [show (w.alloc (tkO t)).heap.size = w.heap.size + 1 by simp] at this
    exact this
  have HCall := hide (refGood_any t now ((w.alloc (tkO t)).alloc (tkO tk0)) hs hs2)
  rw [h0] at HCall
  have ea : t.anew now til2 ser2 = ⟨t.who, t.dst, t.epoch, now, til2, ser2⟩ := by unfold Tk.anew; rw [show min til2 t.til = til2 by omega]
  have HK := hide (fun w => refTk_any (t.anew now til2 ser2) w hs hs2)
  have hz : (0 : Int) < ((t.anew now til2 ser2).err : Int) := by omega
  have hz2 : ((t.anew now til2 ser2).err : Int) ≤ 16 := by have := (t.anew now til2 ser2).err_le; omega
  generalize ((t.anew now til2 ser2).err : Int) = z at *
  rw [ea] at HK
  clear hs hs2 h0 he ea
  rw [tk_val] at HCall HK
  rw [tk_val t]
  obtain ⟨who, dst, epoch, frm, til, ser⟩ := t
  dsimp only at *
  go_enter Tryz.func21, Tryz.ntmps21
  go_wp2_with fail
  refine HCall.out.mono ?_
  rintro e w1 ⟨rfl, hb⟩
  have HB1 : Hid (Below w.heap.size w w1) := HB0.out.trans (hb.mono HB0.out.size)
  have HT0 : Hid (w1.heap[w.heap.size]? = some (tkO ⟨who, dst, epoch, frm, til, ser⟩)) := (hb.block _ (row_lt HR0.out)).trans HR0.out
  have HT1 : Hid (w1.heap[w.heap.size + 1]? = some (tkO tk0)) := (hb.block _ (row_lt HR1.out)).trans HR1.out
  clear hb HR0 HR1 HB0 HCall
  obtain ⟨hc0, hc1, hc2, hc3, hc4, hc5⟩ := tk_row HT0.out
  obtain ⟨hf0, hf1, hf2, hf3, hf4, hf5⟩ := row_frozen6 HT0.out
  dsimp only at hc0 hc1 hc2 hc3 hc4 hc5
  go_wp2_with fail
  have HB2 : Hid (Below w.heap.size w (((w1.setCell ⟨w.heap.size, 3, none⟩ (.int .i64 now)).setCell ⟨w.heap.size, 4, none⟩ (.int .i64 til2)).setCell ⟨w.heap.size, 5, none⟩ (.int .i64 ser2))) := ((HB1.out.setCell (Nat.le_refl _) _).setCell (Nat.le_refl _) _).setCell (Nat.le_refl _) _
  have HT2 : Hid ((((w1.setCell ⟨w.heap.size, 3, none⟩ (.int .i64 now)).setCell ⟨w.heap.size, 4, none⟩ (.int .i64 til2)).setCell ⟨w.heap.size, 5, none⟩ (.int .i64 ser2)).heap[w.heap.size + 1]? = some (tkO tk0)) := (set3_other w1 w.heap.size (w.heap.size + 1) (by omega) 3 4 5 _ _ _).trans HT1.out
  have HX2 : Hid ((((w1.setCell ⟨w.heap.size, 3, none⟩ (.int .i64 now)).setCell ⟨w.heap.size, 4, none⟩ (.int .i64 til2)).setCell ⟨w.heap.size, 5, none⟩ (.int .i64 ser2)).heap[w.heap.size]? = some (tkO ⟨who, dst, epoch, now, til2, ser2⟩)) := tk_set3 HT0.out now til2 ser2
  generalize ((w1.setCell ⟨w.heap.size, 3, none⟩ (.int .i64 now)).setCell ⟨w.heap.size, 4, none⟩ (.int .i64 til2)).setCell ⟨w.heap.size, 5, none⟩ (.int .i64 ser2) = W at *
  refine (HK.out W).mono ?_
  rintro e w2 ⟨rfl, hb⟩
  have HB3 : Hid (Below w.heap.size w w2) := HB2.out.trans (hb.mono HB2.out.size)
  have HT3 : Hid (w2.heap[w.heap.size + 1]? = some (tkO tk0)) := (hb.block _ (row_lt HT2.out)).trans HT2.out
  have HX3 : Hid (w2.heap[w.heap.size]? = some (tkO ⟨who, dst, epoch, now, til2, ser2⟩)) := (hb.block _ (row_lt HX2.out)).trans HX2.out
  clear hb HT2 HB2 HT1 HT0 HB1 HX2 hc0 hc1 hc2 hc3 hc4 hc5 hf0 hf1 hf2 hf3 hf4 hf5 HK
  obtain ⟨hc0, hc1, hc2, hc3, hc4, hc5⟩ := tk_row HX3.out
  obtain ⟨hd0, hd1, hd2, hd3, hd4, hd5⟩ := tk_row HT3.out
  obtain ⟨hf0, hf1, hf2, hf3, hf4, hf5⟩ := row_frozen6 HT3.out
  dsimp only [tk0] at hc0 hc1 hc2 hc3 hc4 hc5 hd0 hd1 hd2 hd3 hd4 hd5
  go_wp2
  refine tkEnd rfl (w.heap.size + 1) tk0 rfl (row_set6 HT3.out _ _ _ _ _ _) rfl ?_
  exact ⟨rfl, below_set6 HB3.out (by omega) _ _ _ _ _ _⟩

set_option maxRecDepth 100000 in
set_option maxHeartbeats 2000000 in
theorem refRenew_ge0 (t : Tk) (now til2 ser2 : Int) (w : World) (hs : t.who.size ≤ maxLen) (hs2 : t.dst.size ≤ maxLen) (h0 : t.good now = 0) (hm : t.til ≤ til2) (he : (t.anew now til2 ser2).err = 0) :
    Calls Tryz.prog 21 #[t.val, .int .i64 now, .int .i64 til2, .int .i64 ser2] w fun e w' => e = .returned (.tuple #[(t.anew now til2 ser2).val, .int .i64 0]) ∧ Below w.heap.size w w' := by
  have HB0 : Hid (Below w.heap.size w ((w.alloc (tkO t)).alloc (tkO tk0))) := ((Below.refl _ w).alloc (Nat.le_refl _) _).alloc (by simp) _
  have HR0 : Hid (((w.alloc (tkO t)).alloc (tkO tk0)).heap[w.heap.size]? = some (tkO t)) := (heap_alloc_old _ _ (by simp)).trans (heap_alloc_new _ _)
  have HR1 : Hid (((w.alloc (tkO t)).alloc (tkO tk0)).heap[w.heap.size + 1]? = some (tkO tk0)) := by
    have := heap_alloc_new (w.alloc (tkO t)) (tkO tk0)
    rw [show (w.alloc (tkO t)).heap.size = w.heap.size + 1 by simp] at this
    exact this
  have HCall := hide (refGood_any t now ((w.alloc (tkO t)).alloc (tkO tk0)) hs hs2)
  rw [h0] at HCall
  have ea : t.anew now til2 ser2 = ⟨t.who, t.dst, t.epoch, now, t.til, ser2⟩ := by unfold Tk.anew; rw [show min til2 t.til = t.til by omega]
  have HK := hide (fun w => refTk_any (t.anew now til2 ser2) w hs hs2)
  rw [he] at HK
  rw [ea] at HK ⊢
  clear hs hs2 h0 he ea
  rw [tk_val] at HCall HK
  rw [tk_val t, tk_val]
  obtain ⟨who, dst, epoch, frm, til, ser⟩ := t
  dsimp only at *
  go_enter Tryz.func21, Tryz.ntmps21
  go_wp2_with fail
  refine HCall.out.mono ?_
  rintro e w1 ⟨rfl, hb⟩
  have HB1 : Hid (Below w.heap.size w w1) := HB0.out.trans (hb.mono HB0.out.size)
  have HT0 : Hid (w1.heap[w.heap.size]? = some (tkO ⟨who, dst, epoch, frm, til, ser⟩)) := (hb.block _ (row_lt HR0.out)).trans HR0.out
  have HT1 : Hid (w1.heap[w.heap.size + 1]? = some (tkO tk0)) := (hb.block _ (row_lt HR1.out)).trans HR1.out
  clear hb HR0 HR1 HB0 HCall
  obtain ⟨hc0, hc1, hc2, hc3, hc4, hc5⟩ := tk_row HT0.out
  obtain ⟨hf0, hf1, hf2, hf3, hf4, hf5⟩ := row_frozen6 HT0.out
  dsimp only at hc0 hc1 hc2 hc3 hc4 hc5
  go_wp2_with fail
  have HB2 : Hid (Below w.heap.size w ((w1.setCell ⟨w.heap.size, 3, none⟩ (.int .i64 now)).setCell ⟨w.heap.size, 5, none⟩ (.int .i64 ser2))) := (HB1.out.setCell (Nat.le_refl _) _).setCell (Nat.le_refl _) _
  have HT2 : Hid (((w1.setCell ⟨w.heap.size, 3, none⟩ (.int .i64 now)).setCell ⟨w.heap.size, 5, none⟩ (.int .i64 ser2)).heap[w.heap.size + 1]? = some (tkO tk0)) := (set2_other w1 w.heap.size (w.heap.size + 1) (by omega) 3 5 _ _).trans HT1.out
  have HX2 : Hid (((w1.setCell ⟨w.heap.size, 3, none⟩ (.int .i64 now)).setCell ⟨w.heap.size, 5, none⟩ (.int .i64 ser2)).heap[w.heap.size]? = some (tkO ⟨who, dst, epoch, now, til, ser2⟩)) := tk_set2 HT0.out now ser2
  generalize (w1.setCell ⟨w.heap.size, 3, none⟩ (.int .i64 now)).setCell ⟨w.heap.size, 5, none⟩ (.int .i64 ser2) = W at *
  refine (HK.out W).mono ?_
  rintro e w2 ⟨rfl, hb⟩
  have HB3 : Hid (Below w.heap.size w w2) := HB2.out.trans (hb.mono HB2.out.size)
  have HT3 : Hid (w2.heap[w.heap.size + 1]? = some (tkO tk0)) := (hb.block _ (row_lt HT2.out)).trans HT2.out
  have HX3 : Hid (w2.heap[w.heap.size]? = some (tkO ⟨who, dst, epoch, now, til, ser2⟩)) := (hb.block _ (row_lt HX2.out)).trans HX2.out
  clear hb HT2 HB2 HT1 HT0 HB1 HX2 hc0 hc1 hc2 hc3 hc4 hc5 hf0 hf1 hf2 hf3 hf4 hf5 HK
  obtain ⟨hc0, hc1, hc2, hc3, hc4, hc5⟩ := tk_row HX3.out
  obtain ⟨hd0, hd1, hd2, hd3, hd4, hd5⟩ := tk_row HT3.out
  obtain ⟨hf0, hf1, hf2, hf3, hf4, hf5⟩ := row_frozen6 HT3.out
  dsimp only [tk0] at hc0 hc1 hc2 hc3 hc4 hc5 hd0 hd1 hd2 hd3 hd4 hd5
  go_wp2
  refine tkEnd rfl (w.heap.size + 1) ⟨who, dst, epoch, now, til, ser2⟩ rfl (row_set6 HT3.out _ _ _ _ _ _) rfl ?_
  exact ⟨rfl, below_set6 HB3.out (by omega) _ _ _ _ _ _⟩

set_option maxRecDepth 100000 in
set_option maxHeartbeats 2000000 in
theorem refRenew_ge (t : Tk) (now til2 ser2 : Int) (w : World) (hs : t.who.size ≤ maxLen) (hs2 : t.dst.size ≤ maxLen) (h0 : t.good now = 0) (hm : t.til ≤ til2) (he : (t.anew now til2 ser2).err ≠ 0) :
    Calls Tryz.prog 21 #[t.val, .int .i64 now, .int .i64 til2, .int .i64 ser2] w fun e w' => e = .returned (.tuple #[tk0.val, .int .i64 ((t.anew now til2 ser2).err : Int)]) ∧ Below w.heap.size w w' := by
  have HB0 : Hid (Below w.heap.size w ((w.alloc (tkO t)).alloc (tkO tk0))) := ((Below.refl _ w).alloc (Nat.le_refl _) _).alloc (by simp) _
  have HR0 : Hid (((w.alloc (tkO t)).alloc (tkO tk0)).heap[w.heap.size]? = some (tkO t)) := (heap_alloc_old _ _ (by simp)).trans (heap_alloc_new _ _)
  have HR1 : Hid (((w.alloc (tkO t)).alloc (tkO tk0)).heap[w.heap.size + 1]? = some (tkO tk0)) := by
    have := heap_alloc_new (w.alloc (tkO t)) (tkO tk0)
    rw [show (w.alloc (tkO t)).heap.size = w.heap.size + 1 by simp] at this
    exact this
  have HCall := hide (refGood_any t now ((w.alloc (tkO t)).alloc (tkO tk0)) hs hs2)
  rw [h0] at HCall
  have ea : t.anew now til2 ser2 = ⟨t.who, t.dst, t.epoch, now, t.til, ser2⟩ := by unfold Tk.anew; rw [show min til2 t.til = t.til by omega]
  have HK := hide (fun w => refTk_any (t.anew now til2 ser2) w hs hs2)
  have hz : (0 : Int) < ((t.anew now til2 ser2).err : Int) := by omega
  have hz2 : ((t.anew now til2 ser2).err : Int) ≤ 16 := by have := (t.anew now til2 ser2).err_le; omega
  generalize ((t.anew now til2 ser2).err : Int) = z at *
  rw [ea] at HK
  clear hs hs2 h0 he ea
  rw [tk_val] at HCall HK
  rw [tk_val t]
  obtain ⟨who, dst, epoch, frm, til, ser⟩ := t
  dsimp only at *
  go_enter Tryz.func21, Tryz.ntmps21
  go_wp2_with fail
  refine HCall.out.mono ?_
  rintro e w1 ⟨rfl, hb⟩
  have HB1 : Hid (Below w.heap.size w w1) := HB0.out.trans (hb.mono HB0.out.size)
  have HT0 : Hid (w1.heap[w.heap.size]? = some (tkO ⟨who, dst, epoch, frm, til, ser⟩)) := (hb.block _ (row_lt HR0.out)).trans HR0.out
  have HT1 : Hid (w1.heap[w.heap.size + 1]? = some (tkO tk0)) := (hb.block _ (row_lt HR1.out)).trans HR1.out
  clear hb HR0 HR1 HB0 HCall
  obtain ⟨hc0, hc1, hc2, hc3, hc4, hc5⟩ := tk_row HT0.out
  obtain ⟨hf0, hf1, hf2, hf3, hf4, hf5⟩ := row_frozen6 HT0.out
  dsimp only at hc0 hc1 hc2 hc3 hc4 hc5
  go_wp2_with fail
  have HB2 : Hid (Below w.heap.size w ((w1.setCell ⟨w.heap.size, 3, none⟩ (.int .i64 now)).setCell ⟨w.heap.size, 5, none⟩ (.int .i64 ser2))) := (HB1.out.setCell (Nat.le_refl _) _).setCell (Nat.le_refl _) _
  have HT2 : Hid (((w1.setCell ⟨w.heap.size, 3, none⟩ (.int .i64 now)).setCell ⟨w.heap.size, 5, none⟩ (.int .i64 ser2)).heap[w.heap.size + 1]? = some (tkO tk0)) := (set2_other w1 w.heap.size (w.heap.size + 1) (by omega) 3 5 _ _).trans HT1.out
  have HX2 : Hid (((w1.setCell ⟨w.heap.size, 3, none⟩ (.int .i64 now)).setCell ⟨w.heap.size, 5, none⟩ (.int .i64 ser2)).heap[w.heap.size]? = some (tkO ⟨who, dst, epoch, now, til, ser2⟩)) := tk_set2 HT0.out now ser2
  generalize (w1.setCell ⟨w.heap.size, 3, none⟩ (.int .i64 now)).setCell ⟨w.heap.size, 5, none⟩ (.int .i64 ser2) = W at *
  refine (HK.out W).mono ?_
  rintro e w2 ⟨rfl, hb⟩
  have HB3 : Hid (Below w.heap.size w w2) := HB2.out.trans (hb.mono HB2.out.size)
  have HT3 : Hid (w2.heap[w.heap.size + 1]? = some (tkO tk0)) := (hb.block _ (row_lt HT2.out)).trans HT2.out
  have HX3 : Hid (w2.heap[w.heap.size]? = some (tkO ⟨who, dst, epoch, now, til, ser2⟩)) := (hb.block _ (row_lt HX2.out)).trans HX2.out
  clear hb HT2 HB2 HT1 HT0 HB1 HX2 hc0 hc1 hc2 hc3 hc4 hc5 hf0 hf1 hf2 hf3 hf4 hf5 HK
  obtain ⟨hc0, hc1, hc2, hc3, hc4, hc5⟩ := tk_row HX3.out
  obtain ⟨hd0, hd1, hd2, hd3, hd4, hd5⟩ := tk_row HT3.out
  obtain ⟨hf0, hf1, hf2, hf3, hf4, hf5⟩ := row_frozen6 HT3.out
  dsimp only [tk0] at hc0 hc1 hc2 hc3 hc4 hc5 hd0 hd1 hd2 hd3 hd4 hd5
  go_wp2
  refine tkEnd rfl (w.heap.size + 1) tk0 rfl (row_set6 HT3.out _ _ _ _ _ _) rfl ?_
  exact ⟨rfl, below_set6 HB3.out (by omega) _ _ _ _ _ _⟩

theorem refRenew_any (t : Tk) (now til2 ser2 : Int) (w : World) (hs : t.who.size ≤ maxLen) (hs2 : t.dst.size ≤ maxLen) :
    Calls Tryz.prog 21 #[t.val, .int .i64 now, .int .i64 til2, .int .i64 ser2] w fun e w' => e = .returned (.tuple #[(okT (t.renewE now til2 ser2) (t.anew now til2 ser2)).val, .int .i64 (t.renewE now til2 ser2 : Int)]) ∧ Below w.heap.size w w' := by
  by_cases h0 : t.good now = 0
  · have e : t.renewE now til2 ser2 = (t.anew now til2 ser2).err := by unfold Tk.renewE; rw [if_pos h0]
    rw [e]
    by_cases he : (t.anew now til2 ser2).err = 0
    · rw [he, okT_yes]
      by_cases hm : til2 < t.til
      · exact refRenew_lt0 t now til2 ser2 w hs hs2 h0 hm he
      · exact refRenew_ge0 t now til2 ser2 w hs hs2 h0 (by omega) he
    · rw [okT_no _ _ he]
      by_cases hm : til2 < t.til
      · exact refRenew_lt t now til2 ser2 w hs hs2 h0 hm he
      · exact refRenew_ge t now til2 ser2 w hs hs2 h0 (by omega) he
  · have e : t.renewE now til2 ser2 = t.good now := by unfold Tk.renewE; rw [if_neg h0]
    rw [e, okT_no _ _ h0]
    exact refRenew_no t now til2 ser2 w hs hs2 h0
end Go.Proofs.YtgagekcjdapkfabGreatDoor

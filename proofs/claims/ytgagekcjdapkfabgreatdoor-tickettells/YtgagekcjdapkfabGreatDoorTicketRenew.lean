/-
  What package ticket's Renew gives, for every ticket, times and serial.
-/
import Derived.Test.YtgagekcjdapkfabGreatDoorTicketDo2
namespace Go.Proofs.YtgagekcjdapkfabGreatDoor
open Go.RowKit Go.Extern.Stop Go.Stop Go.Extern

set_option maxRecDepth 100000 in
set_option maxHeartbeats 2000000 in
theorem renew_no (a : Nat → Addr) (t : Tk) (now til2 ser2 : Int) (w : World) (h : Errs a w) (hs : t.who.size ≤ maxLen) (hs2 : t.dst.size ≤ maxLen) (h0 : t.good now ≠ 0) :
    Calls Tryz.prog 11 #[t.val, .int .i64 now, .int .i64 til2, .int .i64 ser2] w fun e w' => e = .returned (.tuple #[tk0.val, errV a (t.good now)]) ∧ Below w.heap.size w w' := by
  have HB0 : Hid (Below w.heap.size w ((w.alloc (tkO t)).alloc (tkO tk0))) := ((Below.refl _ w).alloc (Nat.le_refl _) _).alloc (by simp) _
  have HR1 : Hid (((w.alloc (tkO t)).alloc (tkO tk0)).heap[w.heap.size + 1]? = some (tkO tk0)) := by
    have := heap_alloc_new (w.alloc (tkO t)) (tkO tk0)
    rw [show (w.alloc (tkO t)).heap.size = w.heap.size + 1 by simp] at this
    exact this
  have HCall := hide (good_any a t now _ (h.below HB0.out) hs hs2)
  have e1 : errV a (t.good now) = eV (a (t.good now - 1)) := by unfold errV; rw [if_neg h0]
  rw [e1] at HCall ⊢
  generalize a (t.good now - 1) = ad at *
  clear h hs hs2 h0 e1
  rw [tk_val] at HCall
  rw [tk_val t]
  obtain ⟨who, dst, epoch, frm, til, ser⟩ := t
  dsimp only at *
  go_enter Tryz.func11, Tryz.ntmps11
  go_wp2_with fail
  refine HCall.out.mono ?_
  rintro e w1 ⟨rfl, hb⟩
  have HB1 : Hid (Below w.heap.size w w1) := HB0.out.trans (hb.mono HB0.out.size)
  have HT1 : Hid (w1.heap[w.heap.size + 1]? = some (tkO tk0)) := by show _ = _; rw [hb.block _ (by simp)]; exact HR1.out
  clear hb HR1 HB0 HCall
  obtain ⟨hd0, hd1, hd2, hd3, hd4, hd5⟩ := tk_row HT1.out
  obtain ⟨hf0, hf1, hf2, hf3, hf4, hf5⟩ := row_frozen6 HT1.out
  dsimp only [tk0] at hd0 hd1 hd2 hd3 hd4 hd5
  go_wp2
  refine tkEnd rfl (w.heap.size + 1) tk0 rfl (row_set6 HT1.out _ _ _ _ _ _) rfl ?_
  exact ⟨rfl, below_set6 HB1.out (by omega) _ _ _ _ _ _⟩

set_option maxRecDepth 100000 in
set_option maxHeartbeats 2000000 in
theorem renew_yes (a : Nat → Addr) (t : Tk) (now til2 ser2 : Int) (w : World) (h : Errs a w) (hs : t.who.size ≤ maxLen) (hs2 : t.dst.size ≤ maxLen) (h0 : t.good now = 0) :
    Calls Tryz.prog 11 #[t.val, .int .i64 now, .int .i64 til2, .int .i64 ser2] w fun e w' => e = .returned (.tuple #[(okT (t.anew now til2 ser2).err (t.anew now til2 ser2)).val, errV a (t.anew now til2 ser2).err]) ∧ Below w.heap.size w w' := by
  have HB0 : Hid (Below w.heap.size w ((w.alloc (tkO t)).alloc (tkO tk0))) := ((Below.refl _ w).alloc (Nat.le_refl _) _).alloc (by simp) _
  have HR0 : Hid (((w.alloc (tkO t)).alloc (tkO tk0)).heap[w.heap.size]? = some (tkO t)) := (heap_alloc_old _ _ (by simp)).trans (heap_alloc_new _ _)
  have HR1 : Hid (((w.alloc (tkO t)).alloc (tkO tk0)).heap[w.heap.size + 1]? = some (tkO tk0)) := by
    have := heap_alloc_new (w.alloc (tkO t)) (tkO tk0)
    rw [show (w.alloc (tkO t)).heap.size = w.heap.size + 1 by simp] at this
    exact this
  have HCall := hide (good_any a t now _ (h.below HB0.out) hs hs2)
  rw [h0, show errV a 0 = Value.nilIface from rfl] at HCall
  have HK := hide (fun w h => checked_any a (t.anew now til2 ser2) w h hs hs2)
  have HE := hide h
  generalize (okT (t.anew now til2 ser2).err (t.anew now til2 ser2)) = r at *
  generalize errV a (t.anew now til2 ser2).err = rv at *
  clear h hs hs2 h0
  rw [tk_val] at HCall
  rw [tk_val t, tk_val r]
  rw [tk_val, tk_val r] at HK
  obtain ⟨who, dst, epoch, frm, til, ser⟩ := t
  obtain ⟨rwho, rdst, repoch, rfrm, rtil, rser⟩ := r
  dsimp only [Tk.anew] at *
  go_enter Tryz.func11, Tryz.ntmps11
  go_wp2_with fail
  refine HCall.out.mono ?_
  rintro e w1 ⟨rfl, hb⟩
  have HB1 : Hid (Below w.heap.size w w1) := HB0.out.trans (hb.mono HB0.out.size)
  have HT0 : Hid (w1.heap[w.heap.size]? = some (tkO ⟨who, dst, epoch, frm, til, ser⟩)) := by show _ = _; rw [hb.block _ (by simp; omega)]; exact HR0.out
  have HT1 : Hid (w1.heap[w.heap.size + 1]? = some (tkO tk0)) := by show _ = _; rw [hb.block _ (by simp)]; exact HR1.out
  clear hb HR0 HR1 HB0 HCall
  obtain ⟨hc0, hc1, hc2, hc3, hc4, hc5⟩ := tk_row HT0.out
  obtain ⟨hf0, hf1, hf2, hf3, hf4, hf5⟩ := row_frozen6 HT0.out
  dsimp only at hc0 hc1 hc2 hc3 hc4 hc5
  go_wp2_with fail
  have HB2 : Hid (Below w.heap.size w (((w1.setCell ⟨w.heap.size, 3, none⟩ (.int .i64 now)).setCell ⟨w.heap.size, 4, none⟩ (.int .i64 (min til2 til))).setCell ⟨w.heap.size, 5, none⟩ (.int .i64 ser2))) := ((HB1.out.setCell (Nat.le_refl _) _).setCell (Nat.le_refl _) _).setCell (Nat.le_refl _) _
  have HT2 : Hid ((((w1.setCell ⟨w.heap.size, 3, none⟩ (.int .i64 now)).setCell ⟨w.heap.size, 4, none⟩ (.int .i64 (min til2 til))).setCell ⟨w.heap.size, 5, none⟩ (.int .i64 ser2)).heap[w.heap.size + 1]? = some (tkO tk0)) := by
    show _ = _
    rw [heap_setCell_other _ _ _ _ (by simp), heap_setCell_other _ _ _ _ (by simp), heap_setCell_other _ _ _ _ (by simp)]
    exact HT1.out
  generalize ((w1.setCell ⟨w.heap.size, 3, none⟩ (.int .i64 now)).setCell ⟨w.heap.size, 4, none⟩ (.int .i64 (min til2 til))).setCell ⟨w.heap.size, 5, none⟩ (.int .i64 ser2) = W at *
  refine (HK.out W (HE.out.below HB2.out)).mono ?_
  rintro e w2 ⟨rfl, hb⟩
  have HB3 : Hid (Below w.heap.size w w2) := HB2.out.trans (hb.mono HB2.out.size)
  have HT3 : Hid (w2.heap[w.heap.size + 1]? = some (tkO tk0)) := by show _ = _; rw [hb.block _ (row_lt HT2.out)]; exact HT2.out
  clear hb HT2 HB2 HT1 HT0 HB1 HE hc0 hc1 hc2 hc3 hc4 hc5 hf0 hf1 hf2 hf3 hf4 hf5 HK
  obtain ⟨hd0, hd1, hd2, hd3, hd4, hd5⟩ := tk_row HT3.out
  obtain ⟨hf0, hf1, hf2, hf3, hf4, hf5⟩ := row_frozen6 HT3.out
  dsimp only [tk0] at hd0 hd1 hd2 hd3 hd4 hd5
  go_wp2
  refine tkEnd rfl (w.heap.size + 1) ⟨rwho, rdst, repoch, rfrm, rtil, rser⟩ rfl (row_set6 HT3.out _ _ _ _ _ _) rfl ?_
  exact ⟨rfl, below_set6 HB3.out (by omega) _ _ _ _ _ _⟩

theorem renew_any (a : Nat → Addr) (t : Tk) (now til2 ser2 : Int) (w : World) (h : Errs a w) (hs : t.who.size ≤ maxLen) (hs2 : t.dst.size ≤ maxLen) :
    Calls Tryz.prog 11 #[t.val, .int .i64 now, .int .i64 til2, .int .i64 ser2] w fun e w' => e = .returned (.tuple #[(okT (t.renewE now til2 ser2) (t.anew now til2 ser2)).val, errV a (t.renewE now til2 ser2)]) ∧ Below w.heap.size w w' := by
  by_cases h0 : t.good now = 0
  · have e : t.renewE now til2 ser2 = (t.anew now til2 ser2).err := by unfold Tk.renewE; rw [if_pos h0]
    rw [e]
    exact renew_yes a t now til2 ser2 w h hs hs2 h0
  · have e : t.renewE now til2 ser2 = t.good now := by unfold Tk.renewE; rw [if_neg h0]
    rw [e, okT_no _ _ h0]
    exact renew_no a t now til2 ser2 w h hs hs2 h0
end Go.Proofs.YtgagekcjdapkfabGreatDoor

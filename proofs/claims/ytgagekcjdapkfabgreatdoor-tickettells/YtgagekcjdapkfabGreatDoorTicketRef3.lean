/-
  What the document's answer's TicketText gives: the sealed text of a ticket, or an error's number; for every key and ticket.
-/
import Derived.Test.YtgagekcjdapkfabGreatDoorTicketRef2
import Derived.Test.YtgagekcjdapkfabGreatDoorTicketOpen
import Derived.Test.YtgagekcjdapkfabGreatDoorSealOf
import Derived.BigQuiet
namespace Go.Proofs.YtgagekcjdapkfabGreatDoor
open Go.RowKit Go.Extern.Stop Go.Stop Go.Extern

theorem dec_any (n : Int) (w : World) (h0 : 0 ≤ n) (h1 : n ≤ 1073741824) :
    Calls Tryz.prog 52 #[.int .i64 n] w fun e w' => e = .returned (.string (Sl.ofL (Lib.decDigits n.toNat))) ∧ Below w.heap.size w w' := by
  have := refDecimal_any n.toNat (by omega) w
  rw [show ((n.toNat : Nat) : Int) = n by omega] at this
  exact this

theorem row_kept {w w' : World} {g : Nat} {o : Obj} (h : w.heap[g]? = some o) (hb : Below w.heap.size w w') : w'.heap[g]? = some o := (hb.block _ (row_lt h)).trans h
theorem row_pushed {w : World} {g : Nat} {o : Obj} (h : w.heap[g]? = some o) (o2 : Obj) : (w.alloc o2).heap[g]? = some o := (heap_alloc_old _ _ (row_lt h)).trans h
theorem texts7b (w : World) (o : Obj) (x0 x1 x2 x3 x4 x5 x6 : ByteArray) : Texts ((w.alloc o).alloc (.cells #[.string x0, .string x1, .string x2, .string x3, .string x4, .string x5, .string x6] 9)) (w.heap.size + 1) 0 [x0, x1, x2, x3, x4, x5, x6] := by
  have := texts7 (w.alloc o) x0 x1 x2 x3 x4 x5 x6
  rw [show (w.alloc o).heap.size = w.heap.size + 1 by simp] at this
  exact this
theorem fault_drew (w : World) : (w.alloc fault0).drew.heap[w.heap.size]? = some fault0 := heap_alloc_new w fault0
theorem fault_behind (w : World) (o : Obj) : ((w.alloc o).alloc fault0).heap[w.heap.size + 1]? = some fault0 := by
  have := heap_alloc_new (w.alloc o) fault0
  rw [show (w.alloc o).heap.size = w.heap.size + 1 by simp] at this
  exact this

set_option maxRecDepth 100000 in
set_option maxHeartbeats 2000000 in
theorem refText_key (key : Int) (t : Tk) (w : World) (hk : ¬ (1 ≤ key ∧ key ≤ 1000000006)) :
    Calls Tryz.prog 13 #[.int .i64 key, t.val] w fun e w' => e = .returned (.tuple #[.string ⟨#[]⟩, .int .i64 10]) ∧ Below w.heap.size w w' := by
  have HB0 : Hid (Below w.heap.size w (w.alloc (tkO t))) := (Below.refl _ w).alloc (Nat.le_refl _) _
  have HK := hide (fun w => refKey_any key w)
  rw [decide_eq_false hk] at HK
  clear hk
  rw [tk_val]
  obtain ⟨who, dst, epoch, frm, til, ser⟩ := t
  dsimp only at *
  go_enter Tryz.func13, Tryz.ntmps13
  go_wp2_with fail
  refine (HK.out _).mono ?_
  rintro e w1 ⟨rfl, rfl⟩
  go_wp2
  go_ret2
  exact ⟨rfl, HB0.out⟩

set_option maxRecDepth 100000 in
set_option maxHeartbeats 2000000 in
theorem refText_err (key : Int) (t : Tk) (w : World) (hs : t.who.size ≤ maxLen) (hs2 : t.dst.size ≤ maxLen) (hk : 1 ≤ key ∧ key ≤ 1000000006) (h0 : t.err ≠ 0) :
    Calls Tryz.prog 13 #[.int .i64 key, t.val] w fun e w' => e = .returned (.tuple #[.string ⟨#[]⟩, .int .i64 (t.err : Int)]) ∧ Below w.heap.size w w' := by
  have HB0 : Hid (Below w.heap.size w (w.alloc (tkO t))) := (Below.refl _ w).alloc (Nat.le_refl _) _
  have HK := hide (fun w => refKey_any key w)
  rw [decide_eq_true hk] at HK
  have HC := hide (refTk_any t (w.alloc (tkO t)) hs hs2)
  have hz : (0 : Int) < (t.err : Int) := by omega
  have hz2 : (t.err : Int) ≤ 16 := by have := t.err_le; omega
  generalize (t.err : Int) = z at *
  clear hk hs hs2 h0
  rw [tk_val] at HC ⊢
  obtain ⟨who, dst, epoch, frm, til, ser⟩ := t
  dsimp only at *
  go_enter Tryz.func13, Tryz.ntmps13
  go_wp2_with fail
  refine (HK.out _).mono ?_
  rintro e w1 ⟨rfl, rfl⟩
  go_wp2_with fail
  refine HC.out.mono ?_
  rintro e w2 ⟨rfl, hb⟩
  have HB2 : Hid (Below w.heap.size w w2) := HB0.out.trans (hb.mono HB0.out.size)
  clear hb HB0 HC HK
  go_wp2
  go_ret2
  exact ⟨rfl, HB2.out⟩

set_option maxRecDepth 100000 in
set_option maxHeartbeats 4000000 in
theorem refText_ok (key : Int) (t : Tk) (w : World) (hs : t.who.size ≤ maxLen) (hs2 : t.dst.size ≤ maxLen) (hk : 1 ≤ key ∧ key ≤ 1000000006) (h0 : t.err = 0) :
    Calls Tryz.prog 13 #[.int .i64 key, t.val] w fun e w' => e = .returned (.tuple #[.string (Sl.ofL (Sl.sealL key t.words)), .int .i64 0]) ∧ Below w.heap.size w w' := by
  have HB0 : Hid (Below w.heap.size w (w.alloc (tkO t))) := (Below.refl _ w).alloc (Nat.le_refl _) _
  have HR0 : Hid ((w.alloc (tkO t)).heap[w.heap.size]? = some (tkO t)) := heap_alloc_new _ _
  have HK := hide (fun w => refKey_any key w)
  rw [decide_eq_true hk] at HK
  have HC := hide (refTk_any t (w.alloc (tkO t)) hs hs2)
  rw [h0] at HC
  obtain ⟨_, ⟨k1, k2⟩, ⟨k3, k4⟩, ⟨k5, k6⟩, k7, k8⟩ := t.err_iff.1 h0
  have H1 := hide (fun w => dec_any t.epoch w (by omega) (by omega))
  have H2 := hide (fun w => dec_any t.frm w (by omega) (by omega))
  have H3 := hide (fun w => dec_any t.til w (by omega) (by omega))
  have H4 := hide (fun w => dec_any t.ser w (by omega) (by omega))
  have hml : (t.words.map Sl.ofL).map (·.data.toList) = t.words := by
    rw [List.map_map]
    conv => rhs; rw [← List.map_id t.words]
    exact List.map_congr_left fun l _ => rfl
  have HW : t.words.map Sl.ofL = [⟨#[116, 105, 99, 107, 101, 116]⟩, t.who, t.dst, Sl.ofL (Lib.decDigits t.epoch.toNat), Sl.ofL (Lib.decDigits t.frm.toNat), Sl.ofL (Lib.decDigits t.til.toNat), Sl.ofL (Lib.decDigits t.ser.toNat)] := by
    show [Sl.ofL tickL, Sl.ofL t.who.data.toList, Sl.ofL t.dst.data.toList, _, _, _, _] = _
    rw [Sl.ofL_toL, Sl.ofL_toL]
    rfl
  have HSl : Hid (∀ b w, Texts w b 0 (t.words.map Sl.ofL) → Calls Tryz.prog 51 #[.int .i64 key, .slice (some ⟨b, 0, none⟩) 7 7] w fun e w' => e = .returned (.tuple #[.string (Sl.ofL (Sl.sealL key t.words)), .agg #[.int .i64 0, .int .i64 (-1)]]) ∧ Below w.heap.size w w') := fun b w hx => by
    have := sealOf_ok key b 0 7 7 (t.words.map Sl.ofL) w hk hx rfl (by unfold toLs; rw [hml]; exact t.words_ok h0)
    rw [show toLs (t.words.map Sl.ofL) = t.words from hml] at this
    exact this
  rw [HW] at HSl
  clear hk hs hs2 h0 hml HW k1 k2 k3 k4 k5 k6 k7 k8
  generalize Sl.ofL (Sl.sealL key t.words) = res at *
  generalize Sl.ofL (Lib.decDigits t.epoch.toNat) = s1 at *
  generalize Sl.ofL (Lib.decDigits t.frm.toNat) = s2 at *
  generalize Sl.ofL (Lib.decDigits t.til.toNat) = s3 at *
  generalize Sl.ofL (Lib.decDigits t.ser.toNat) = s4 at *
  rw [tk_val] at HC ⊢
  obtain ⟨who, dst, epoch, frm, til, ser⟩ := t
  dsimp only at *
  go_enter Tryz.func13, Tryz.ntmps13
  go_wp2_with fail
  refine (HK.out _).mono ?_
  rintro e w1 ⟨rfl, rfl⟩
  go_wp2_with fail
  refine HC.out.mono ?_
  rintro e W0 ⟨rfl, hb⟩
  have HB2 : Hid (Below w.heap.size w W0) := HB0.out.trans (hb.mono HB0.out.size)
  have HR2 : Hid (W0.heap[w.heap.size]? = some (tkO ⟨who, dst, epoch, frm, til, ser⟩)) := (hb.block _ (row_lt HR0.out)).trans HR0.out
  clear hb HB0 HC HK HR0
  have HCe : Hid (∀ W, Below W0.heap.size W0 W → W.cell? ⟨w.heap.size, 0, none⟩ = some (.string who) ∧ W.cell? ⟨w.heap.size, 1, none⟩ = some (.string dst) ∧ W.cell? ⟨w.heap.size, 2, none⟩ = some (.int .i64 epoch) ∧ W.cell? ⟨w.heap.size, 3, none⟩ = some (.int .i64 frm) ∧ W.cell? ⟨w.heap.size, 4, none⟩ = some (.int .i64 til) ∧ W.cell? ⟨w.heap.size, 5, none⟩ = some (.int .i64 ser)) := fun W hb => tk_row (t := ⟨who, dst, epoch, frm, til, ser⟩) ((hb.block _ (row_lt HR2.out)).trans HR2.out)
  have HSz : Hid (w.heap.size < W0.heap.size) := row_lt HR2.out
  have Hd : Hid (Below W0.heap.size W0 W0.drew) := (Below.refl _ _).drew
  have hn0 : W0.heap.size ≠ w.heap.size := (fun e => by have := HSz.out; omega)
  obtain ⟨z0, z1, z2, z3, z4, z5⟩ := HCe.out W0 (Below.refl _ _)
  clear HR2
  go_wp2_with fail
  go_region_held3 (fun w' => w'.cell? ⟨w.heap.size, 0, none⟩ = some (.string who) ∧ w'.cell? ⟨w.heap.size, 1, none⟩ = some (.string dst) ∧ w'.cell? ⟨w.heap.size, 2, none⟩ = some (.int .i64 epoch) ∧ w'.cell? ⟨w.heap.size, 3, none⟩ = some (.int .i64 frm) ∧ w'.cell? ⟨w.heap.size, 4, none⟩ = some (.int .i64 til) ∧ w'.cell? ⟨w.heap.size, 5, none⟩ = some (.int .i64 ser)) (go_keep)
    (first
      | (go_at_call 52; refine (H1.out _).mono ?_; rintro e w1 ⟨rfl, hb⟩; have HP1 : Hid (Below W0.heap.size W0 w1) := (by first | exact Hd.out.trans (hb.mono Hd.out.size) | exact (Hd.out.alloc Hd.out.size _).trans (hb.mono (Hd.out.alloc Hd.out.size _).size)); (first | (with_reducible have HF1 := hide (row_kept (fault_drew W0) hb)) | ((with_reducible have HFz := hide (row_kept (heap_alloc_new W0.drew fault0) hb)); have HF1 : Hid (w1.heap[W0.heap.size]? = some fault0) := HFz.out; clear HFz) | skip); have hc1 := HCe.out _ HP1.out; have hn1 : w1.heap.size ≠ w.heap.size := (fun e => by have := HP1.out.size; have := HSz.out; omega); have hm1 : w1.heap.size + 1 ≠ w.heap.size := (fun e => by have := HP1.out.size; have := HSz.out; omega); clear hb H1)
      | (go_at_call 52; refine (H2.out _).mono ?_; rintro e w2 ⟨rfl, hb⟩; have HP2 : Hid (Below W0.heap.size W0 w2) := (by first | exact HP1.out.trans (hb.mono HP1.out.size) | exact (HP1.out.alloc HP1.out.size _).trans (hb.mono (HP1.out.alloc HP1.out.size _).size)); (first | (with_reducible have HF2 := hide (row_kept HF1.out hb)) | (with_reducible have HF2 := hide (row_kept (heap_alloc_new w1 fault0) hb)) | skip); have hc2 := HCe.out _ HP2.out; have hn2 : w2.heap.size ≠ w.heap.size := (fun e => by have := HP2.out.size; have := HSz.out; omega); have hm2 : w2.heap.size + 1 ≠ w.heap.size := (fun e => by have := HP2.out.size; have := HSz.out; omega); clear hb H2)
      | (go_at_call 52; refine (H3.out _).mono ?_; rintro e w3 ⟨rfl, hb⟩; have HP3 : Hid (Below W0.heap.size W0 w3) := (by first | exact HP2.out.trans (hb.mono HP2.out.size) | exact (HP2.out.alloc HP2.out.size _).trans (hb.mono (HP2.out.alloc HP2.out.size _).size)); (first | (with_reducible have HF3 := hide (row_kept HF2.out hb)) | (with_reducible have HF3 := hide (row_kept (heap_alloc_new w2 fault0) hb)) | skip); have hc3 := HCe.out _ HP3.out; have hn3 : w3.heap.size ≠ w.heap.size := (fun e => by have := HP3.out.size; have := HSz.out; omega); have hm3 : w3.heap.size + 1 ≠ w.heap.size := (fun e => by have := HP3.out.size; have := HSz.out; omega); clear hb H3)
      | (go_at_call 52; refine (H4.out _).mono ?_; rintro e w4 ⟨rfl, hb⟩; have HP4 : Hid (Below W0.heap.size W0 w4) := (by first | exact HP3.out.trans (hb.mono HP3.out.size) | exact (HP3.out.alloc HP3.out.size _).trans (hb.mono (HP3.out.alloc HP3.out.size _).size)); (first | (with_reducible have HF4 := hide (row_kept HF3.out hb)) | (with_reducible have HF4 := hide (row_kept (heap_alloc_new w3 fault0) hb)) | skip); have hc4 := HCe.out _ HP4.out; have hn4 : w4.heap.size ≠ w.heap.size := (fun e => by have := HP4.out.size; have := HSz.out; omega); have hm4 : w4.heap.size + 1 ≠ w.heap.size := (fun e => by have := HP4.out.size; have := HSz.out; omega); clear hb H4)
      | (go_at_call 51; refine (HSl.out _ _ ?hx).mono ?_; (case hx => first | with_reducible exact texts7 w4 _ _ _ _ _ _ _ | with_reducible exact texts7b w4 fault0 _ _ _ _ _ _ _ | with_reducible exact Texts.below (texts7 w4 _ _ _ _ _ _ _) ((Below.refl _ _).alloc (Nat.le_refl _) fault0)); rintro e w5 ⟨rfl, hb⟩; have HP5 : Hid (Below W0.heap.size W0 w5) := (by first | exact (HP4.out.alloc HP4.out.size _).trans (hb.mono (HP4.out.alloc HP4.out.size _).size) | exact ((HP4.out.alloc HP4.out.size _).alloc (HP4.out.alloc HP4.out.size _).size _).trans (hb.mono ((HP4.out.alloc HP4.out.size _).alloc (HP4.out.alloc HP4.out.size _).size _).size)); (first | (with_reducible have HF5 := hide (row_kept (row_pushed HF4.out _) hb)) | (with_reducible have HF5 := hide (row_kept (row_pushed (heap_alloc_new w4 fault0) _) hb)) | (with_reducible have HF5 := hide (row_kept (fault_behind w4 _) hb)) | skip); have hc5 := HCe.out _ HP5.out; have hn5 : w5.heap.size ≠ w.heap.size := (fun e => by have := HP5.out.size; have := HSz.out; omega); (first | (have hq := HF5.out; have hq2 := row_cells2 hq; clear hq; obtain ⟨q0, q1, q2, q3⟩ := hq2) | skip); clear hb HSl))
  all_goals
    have HB5 : Hid (Below w.heap.size w w5) := HB2.out.trans (HP5.out.mono HB2.out.size)
    have HZ1 : Hid (w.heap.size ≤ W0.heap.size) := HB2.out.size
    have HY1 := hide HP1.out.size
    have HY2 := hide HP2.out.size
    have HY3 := hide HP3.out.size
    have HY4 := hide HP4.out.size
    clear HP1 HP2 HP3 HP4 HP5 HCe Hd HSz hc1 hc2 hc3 hc4 hc5 hn0 hn1 hn2 hn3 hn4 hn5 hm1 hm2 hm3 hm4 z0 z1 z2 z3 z4 z5
    go_wp2_with fail
    go_quiet (fail)
    go_wp2
    go_ret2
    first
      | exact ⟨rfl, below_drewN (HB5.out.alloc HB5.out.size _) _⟩
      | exact ⟨rfl, below_drewN ((HB5.out.setCell (by have := HZ1.out; have := HY1.out; have := HY2.out; have := HY3.out; have := HY4.out; dsimp only; omega) _).setCell (by have := HZ1.out; have := HY1.out; have := HY2.out; have := HY3.out; have := HY4.out; dsimp only; omega) _) _⟩

theorem refText_any (key : Int) (t : Tk) (w : World) (hs : t.who.size ≤ maxLen) (hs2 : t.dst.size ≤ maxLen) :
    Calls Tryz.prog 13 #[.int .i64 key, t.val] w fun e w' => e = .returned (.tuple #[.string (tkMakeS key t), .int .i64 (tkMakeE key t : Int)]) ∧ Below w.heap.size w w' := by
  unfold tkMakeS
  by_cases hk : 1 ≤ key ∧ key ≤ 1000000006
  · rw [show tkMakeE key t = t.err by unfold tkMakeE; rw [if_pos hk]]
    by_cases h0 : t.err = 0
    · rw [if_pos h0, h0]
      exact refText_ok key t w hs hs2 hk h0
    · rw [if_neg h0]
      exact refText_err key t w hs hs2 hk h0
  · rw [show tkMakeE key t = 10 by unfold tkMakeE; rw [if_neg hk]]
    exact refText_key key t w hk
end Go.Proofs.YtgagekcjdapkfabGreatDoor

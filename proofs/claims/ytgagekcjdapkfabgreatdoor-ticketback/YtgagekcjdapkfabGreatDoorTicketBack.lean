/-
  The call of TicketBack returns true wherever the sixteen errors, the library's MaxLen and its powers of ten lie as the program lays them, for every key, ticket, times and serial; nothing that was there changes.
-/
import Derived.Test.YtgagekcjdapkfabGreatDoorTicketLaw
namespace Go.Proofs.YtgagekcjdapkfabGreatDoor
open Go.RowKit Go.Extern.Stop Go.Stop Go.Extern

set_option maxRecDepth 100000 in
set_option maxHeartbeats 4000000 in
theorem ticketBack_long (a : Nat → Addr) (key : Int) (t : Tk) (now til2 ser2 thn : Int) (w : World) (h : Env a w) (hs : t.who.size ≤ maxLen) (hs2 : t.dst.size ≤ maxLen) (hl : longT t = 1) :
    Calls Tryz.prog 3 #[.int .i64 key, t.val, .int .i64 now, .int .i64 til2, .int .i64 ser2, .int .i64 thn] w fun e w' => e = .returned (.bool true) ∧ Below w.heap.size w w' := by
  have HB0 : Hid (Below w.heap.size w (w.alloc (tkO t))) := (Below.refl _ w).alloc (Nat.le_refl _) _
  have HR0 : Hid ((w.alloc (tkO t)).heap[w.heap.size]? = some (tkO t)) := heap_alloc_new _ _
  have HT := hide (ticketed_any a _ (h.below HB0.out))
  have HL := hide (fun w => longTicket_any t w hs hs2)
  rw [hl] at HL
  clear h hs hs2 hl
  rw [tk_val] at HL ⊢
  obtain ⟨who, dst, epoch, frm, til, ser⟩ := t
  dsimp only at *
  go_enter Tryz.func3, Tryz.ntmps3
  go_wp2_with fail
  refine HT.out.mono ?_
  rintro e w1 ⟨rfl, hb⟩
  have HB1 : Hid (Below w.heap.size w w1) := HB0.out.trans (hb.mono HB0.out.size)
  have HR1 : Hid (w1.heap[w.heap.size]? = some (tkO ⟨who, dst, epoch, frm, til, ser⟩)) := (hb.block _ (row_lt HR0.out)).trans HR0.out
  clear hb HB0 HR0 HT
  obtain ⟨hc0, hc1, hc2, hc3, hc4, hc5⟩ := tk_row HR1.out
  dsimp only at hc0 hc1 hc2 hc3 hc4 hc5
  clear HR1
  go_wp2_with fail
  refine (HL.out _).mono ?_
  rintro e w2 ⟨rfl, hb⟩
  have HB2 : Hid (Below w.heap.size w w2) := HB1.out.trans (hb.mono HB1.out.size)
  clear hb HB1 HL hc0 hc1 hc2 hc3 hc4 hc5
  go_wp2
  go_ret
  exact ⟨rfl, HB2.out⟩

set_option maxRecDepth 100000 in
set_option maxHeartbeats 4000000 in
theorem ticketBack_make (a : Nat → Addr) (key : Int) (t : Tk) (now til2 ser2 thn : Int) (w : World) (h : Env a w) (hs : t.who.size ≤ maxLen) (hs2 : t.dst.size ≤ maxLen) (hl : longT t = 0) (hm : tkMakeE key t ≠ 0) :
    Calls Tryz.prog 3 #[.int .i64 key, t.val, .int .i64 now, .int .i64 til2, .int .i64 ser2, .int .i64 thn] w fun e w' => e = .returned (.bool true) ∧ Below w.heap.size w w' := by
  have HB0 : Hid (Below w.heap.size w (w.alloc (tkO t))) := (Below.refl _ w).alloc (Nat.le_refl _) _
  have HR0 : Hid ((w.alloc (tkO t)).heap[w.heap.size]? = some (tkO t)) := heap_alloc_new _ _
  have HT := hide (ticketed_any a _ (h.below HB0.out))
  have HL := hide (fun w => longTicket_any t w hs hs2)
  rw [hl] at HL
  have HM := hide (fun w h => tkMake_any a key t w h hs hs2)
  rw [show tkMakeS key t = ⟨#[]⟩ by unfold tkMakeS; rw [if_neg hm], errV_posS a _ hm] at HM
  have HE := hide h
  generalize a (tkMakeE key t - 1) = ad at *
  clear h hs hs2 hl hm
  rw [tk_val] at HL HM ⊢
  obtain ⟨who, dst, epoch, frm, til, ser⟩ := t
  dsimp only at *
  go_enter Tryz.func3, Tryz.ntmps3
  go_wp2_with fail
  refine HT.out.mono ?_
  rintro e w1 ⟨rfl, hb⟩
  have HB1 : Hid (Below w.heap.size w w1) := HB0.out.trans (hb.mono HB0.out.size)
  have HR1 : Hid (w1.heap[w.heap.size]? = some (tkO ⟨who, dst, epoch, frm, til, ser⟩)) := (hb.block _ (row_lt HR0.out)).trans HR0.out
  clear hb HB0 HR0 HT
  obtain ⟨hc0, hc1, hc2, hc3, hc4, hc5⟩ := tk_row HR1.out
  dsimp only at hc0 hc1 hc2 hc3 hc4 hc5
  go_wp2_with fail
  refine (HL.out _).mono ?_
  rintro e w2 ⟨rfl, hb⟩
  have HB2 : Hid (Below w.heap.size w w2) := HB1.out.trans (hb.mono HB1.out.size)
  have HR2 : Hid (w2.heap[w.heap.size]? = some (tkO ⟨who, dst, epoch, frm, til, ser⟩)) := (hb.block _ (row_lt HR1.out)).trans HR1.out
  clear hb HB1 HL HR1 hc0 hc1 hc2 hc3 hc4 hc5
  obtain ⟨hc0, hc1, hc2, hc3, hc4, hc5⟩ := tk_row HR2.out
  dsimp only at hc0 hc1 hc2 hc3 hc4 hc5
  clear HR2
  go_wp2_with fail
  refine (HM.out _ (HE.out.below HB2.out)).mono ?_
  rintro e w3 ⟨rfl, hb⟩
  have HB3 : Hid (Below w.heap.size w w3) := HB2.out.trans (hb.mono HB2.out.size)
  clear hb HB2 HM HE hc0 hc1 hc2 hc3 hc4 hc5
  go_wp2
  go_ret
  exact ⟨rfl, HB3.out⟩

/-- What the walk has once the ticket was made, opened and looked at. -/
theorem row_keep {w w' : World} {g : Nat} {o : Obj} (h : w.heap[g]? = some o) (hb : Below w.heap.size w w') : w'.heap[g]? = some o := (hb.block _ (row_lt h)).trans h
theorem row_push {w : World} {g : Nat} {o : Obj} (h : w.heap[g]? = some o) (o2 : Obj) : (w.alloc o2).heap[g]? = some o := (heap_alloc_old _ _ (row_lt h)).trans h

set_option maxRecDepth 100000 in
set_option maxHeartbeats 8000000 in
theorem ticketBack_no (a : Nat → Addr) (key : Int) (t : Tk) (now til2 ser2 thn : Int) (w : World) (h : Env a w) (hs : t.who.size ≤ maxLen) (hs2 : t.dst.size ≤ maxLen) (hl : longT t = 0) (hk : 1 ≤ key ∧ key ≤ 1000000006) (he : t.err = 0) (hr : t.renewE now til2 ser2 ≠ 0) :
    Calls Tryz.prog 3 #[.int .i64 key, t.val, .int .i64 now, .int .i64 til2, .int .i64 ser2, .int .i64 thn] w fun e w' => e = .returned (.bool true) ∧ Below w.heap.size w w' := by
  have HB0 : Hid (Below w.heap.size w (w.alloc (tkO t))) := (Below.refl _ w).alloc (Nat.le_refl _) _
  have HR0 : Hid ((w.alloc (tkO t)).heap[w.heap.size]? = some (tkO t)) := heap_alloc_new _ _
  have HT := hide (ticketed_any a _ (h.below HB0.out))
  have HL := hide (fun w => longTicket_any t w hs hs2)
  rw [hl] at HL
  have HM := hide (fun w h => tkMake_ok a key t w h hs hs2 hk he)
  have HO := hide (fun w h => tkOpen_back a key hk t he w h)
  have HLo := hide (fun w h => tkLook_back a key hk t he w h)
  have HE := hide h
  have HRn := hide (fun w (h : Env a w) => renew_any a t now til2 ser2 w h.errs hs hs2)
  rw [okT_no _ _ hr, errV_posS a _ hr] at HRn
  generalize a (t.renewE now til2 ser2 - 1) = ad at *
  clear h hs hs2 hl hk he hr
  generalize Sl.ofL (Sl.sealL key t.words) = s at *
  rw [tk_val t] at HL HM HO HLo HRn ⊢
  rw [tk_val tk0] at HRn
  dsimp only [tk0] at HRn
  obtain ⟨who, dst, epoch, frm, til, ser⟩ := t
  dsimp only at *
  go_enter Tryz.func3, Tryz.ntmps3
  go_wp2_with fail
  refine HT.out.mono ?_
  rintro e w1 ⟨rfl, hb⟩
  have HB1 : Hid (Below w.heap.size w w1) := HB0.out.trans (hb.mono HB0.out.size)
  have HR1 : Hid (w1.heap[w.heap.size]? = some (tkO ⟨who, dst, epoch, frm, til, ser⟩)) := row_keep HR0.out hb
  clear hb HB0 HR0 HT
  obtain ⟨hc0, hc1, hc2, hc3, hc4, hc5⟩ := tk_row HR1.out
  dsimp only at hc0 hc1 hc2 hc3 hc4 hc5
  go_wp2_with fail
  refine (HL.out _).mono ?_
  rintro e w2 ⟨rfl, hb⟩
  have HB2 : Hid (Below w.heap.size w w2) := HB1.out.trans (hb.mono HB1.out.size)
  have HR2 : Hid (w2.heap[w.heap.size]? = some (tkO ⟨who, dst, epoch, frm, til, ser⟩)) := row_keep HR1.out hb
  clear hb HB1 HL HR1 hc0 hc1 hc2 hc3 hc4 hc5
  obtain ⟨hc0, hc1, hc2, hc3, hc4, hc5⟩ := tk_row HR2.out
  dsimp only at hc0 hc1 hc2 hc3 hc4 hc5
  go_wp2_with fail
  refine (HM.out _ (HE.out.below HB2.out)).mono ?_
  rintro e w3 ⟨rfl, hb⟩
  have HB3 : Hid (Below w.heap.size w w3) := HB2.out.trans (hb.mono HB2.out.size)
  have HR3 : Hid (w3.heap[w.heap.size]? = some (tkO ⟨who, dst, epoch, frm, til, ser⟩)) := row_keep HR2.out hb
  clear hb HB2 HM HR2 hc0 hc1 hc2 hc3 hc4 hc5
  go_wp2_with fail
  refine (HO.out _ (HE.out.below HB3.out)).mono ?_
  rintro e w4 ⟨rfl, hb⟩
  have HB4 : Hid (Below w.heap.size w (w4.alloc (tkO ⟨who, dst, epoch, frm, til, ser⟩))) := (HB3.out.trans (hb.mono HB3.out.size)).alloc (HB3.out.trans (hb.mono HB3.out.size)).size _
  have HR4 : Hid ((w4.alloc (tkO ⟨who, dst, epoch, frm, til, ser⟩)).heap[w.heap.size]? = some (tkO ⟨who, dst, epoch, frm, til, ser⟩)) := row_push (row_keep HR3.out hb) _
  have HX4 : Hid ((w4.alloc (tkO ⟨who, dst, epoch, frm, til, ser⟩)).heap[w4.heap.size]? = some (tkO ⟨who, dst, epoch, frm, til, ser⟩)) := heap_alloc_new _ _
  clear hb HB3 HO HR3
  go_wp2_with fail
  refine (HLo.out _ (HE.out.below HB4.out)).mono ?_
  rintro e w5 ⟨rfl, hb⟩
  have HB5 : Hid (Below w.heap.size w (w5.alloc (tkO ⟨who, dst, epoch, frm, til, ser⟩))) := (HB4.out.trans (hb.mono HB4.out.size)).alloc (HB4.out.trans (hb.mono HB4.out.size)).size _
  have HR5 : Hid ((w5.alloc (tkO ⟨who, dst, epoch, frm, til, ser⟩)).heap[w.heap.size]? = some (tkO ⟨who, dst, epoch, frm, til, ser⟩)) := row_push (row_keep HR4.out hb) _
  have HX5 : Hid ((w5.alloc (tkO ⟨who, dst, epoch, frm, til, ser⟩)).heap[w4.heap.size]? = some (tkO ⟨who, dst, epoch, frm, til, ser⟩)) := row_push (row_keep HX4.out hb) _
  have HY5 : Hid ((w5.alloc (tkO ⟨who, dst, epoch, frm, til, ser⟩)).heap[w5.heap.size]? = some (tkO ⟨who, dst, epoch, frm, til, ser⟩)) := heap_alloc_new _ _
  clear hb HB4 HLo HR4 HX4
  generalize w4.heap.size = g4 at *
  obtain ⟨hc0, hc1, hc2, hc3, hc4, hc5⟩ := tk_row HR5.out
  obtain ⟨hd0, hd1, hd2, hd3, hd4, hd5⟩ := tk_row HX5.out
  obtain ⟨he0, he1, he2, he3, he4, he5⟩ := tk_row HY5.out
  dsimp only [tkO] at hc0 hc1 hc2 hc3 hc4 hc5 hd0 hd1 hd2 hd3 hd4 hd5 he0 he1 he2 he3 he4 he5
  clear HX5 HY5
  go_wp2_with fail
  refine (HRn.out _ (HE.out.below HB5.out)).mono ?_
  rintro e w6 ⟨rfl, hb⟩
  have HB6 : Hid (Below w.heap.size w (w6.alloc (tkO tk0))) := (HB5.out.trans (hb.mono HB5.out.size)).alloc (HB5.out.trans (hb.mono HB5.out.size)).size _
  clear hb HB5 HRn HE HR5 hc0 hc1 hc2 hc3 hc4 hc5 hd0 hd1 hd2 hd3 hd4 hd5 he0 he1 he2 he3 he4 he5
  go_wp2
  go_ret
  exact ⟨rfl, HB6.out⟩

set_option maxRecDepth 100000 in
set_option maxHeartbeats 8000000 in
theorem ticketBack_bad (a : Nat → Addr) (key : Int) (t : Tk) (now til2 ser2 thn : Int) (w : World) (h : Env a w) (hs : t.who.size ≤ maxLen) (hs2 : t.dst.size ≤ maxLen) (hl : longT t = 0) (hk : 1 ≤ key ∧ key ≤ 1000000006) (he : t.err = 0) (hr : t.renewE now til2 ser2 = 0) (hg : (t.anew now til2 ser2).good thn ≠ 0) :
    Calls Tryz.prog 3 #[.int .i64 key, t.val, .int .i64 now, .int .i64 til2, .int .i64 ser2, .int .i64 thn] w fun e w' => e = .returned (.bool true) ∧ Below w.heap.size w w' := by
  have HB0 : Hid (Below w.heap.size w (w.alloc (tkO t))) := (Below.refl _ w).alloc (Nat.le_refl _) _
  have HR0 : Hid ((w.alloc (tkO t)).heap[w.heap.size]? = some (tkO t)) := heap_alloc_new _ _
  have HT := hide (ticketed_any a _ (h.below HB0.out))
  have HL := hide (fun w => longTicket_any t w hs hs2)
  rw [hl] at HL
  have HM := hide (fun w h => tkMake_ok a key t w h hs hs2 hk he)
  have HO := hide (fun w h => tkOpen_back a key hk t he w h)
  have HLo := hide (fun w h => tkLook_back a key hk t he w h)
  have HE := hide h
  have HRn := hide (fun w (h : Env a w) => renew_any a t now til2 ser2 w h.errs hs hs2)
  rw [hr, okT_yes, show errV a 0 = Value.nilIface from rfl] at HRn
  have HGr := hide (fun w (h : Env a w) => good_any a (t.anew now til2 ser2) thn w h.errs hs hs2)
  rw [errV_posS a _ hg] at HGr
  generalize a ((t.anew now til2 ser2).good thn - 1) = ad at *
  clear h hs hs2 hl hk he hr hg
  generalize Sl.ofL (Sl.sealL key t.words) = s at *
  rw [tk_val t] at HL HM HO HLo HRn ⊢
  rw [tk_val] at HRn HGr
  obtain ⟨who, dst, epoch, frm, til, ser⟩ := t
  dsimp only [Tk.anew] at HRn HGr
  have hmn : min til2 til ≤ til := by omega
  generalize min til2 til = mn at *
  dsimp only at *
  go_enter Tryz.func3, Tryz.ntmps3
  go_wp2_with fail
  refine HT.out.mono ?_
  rintro e w1 ⟨rfl, hb⟩
  have HB1 : Hid (Below w.heap.size w w1) := HB0.out.trans (hb.mono HB0.out.size)
  have HR1 : Hid (w1.heap[w.heap.size]? = some (tkO ⟨who, dst, epoch, frm, til, ser⟩)) := row_keep HR0.out hb
  clear hb HB0 HR0 HT
  obtain ⟨hc0, hc1, hc2, hc3, hc4, hc5⟩ := tk_row HR1.out
  dsimp only at hc0 hc1 hc2 hc3 hc4 hc5
  go_wp2_with fail
  refine (HL.out _).mono ?_
  rintro e w2 ⟨rfl, hb⟩
  have HB2 : Hid (Below w.heap.size w w2) := HB1.out.trans (hb.mono HB1.out.size)
  have HR2 : Hid (w2.heap[w.heap.size]? = some (tkO ⟨who, dst, epoch, frm, til, ser⟩)) := row_keep HR1.out hb
  clear hb HB1 HL HR1 hc0 hc1 hc2 hc3 hc4 hc5
  obtain ⟨hc0, hc1, hc2, hc3, hc4, hc5⟩ := tk_row HR2.out
  dsimp only at hc0 hc1 hc2 hc3 hc4 hc5
  go_wp2_with fail
  refine (HM.out _ (HE.out.below HB2.out)).mono ?_
  rintro e w3 ⟨rfl, hb⟩
  have HB3 : Hid (Below w.heap.size w w3) := HB2.out.trans (hb.mono HB2.out.size)
  have HR3 : Hid (w3.heap[w.heap.size]? = some (tkO ⟨who, dst, epoch, frm, til, ser⟩)) := row_keep HR2.out hb
  clear hb HB2 HM HR2 hc0 hc1 hc2 hc3 hc4 hc5
  go_wp2_with fail
  refine (HO.out _ (HE.out.below HB3.out)).mono ?_
  rintro e w4 ⟨rfl, hb⟩
  have HB4 : Hid (Below w.heap.size w (w4.alloc (tkO ⟨who, dst, epoch, frm, til, ser⟩))) := (HB3.out.trans (hb.mono HB3.out.size)).alloc (HB3.out.trans (hb.mono HB3.out.size)).size _
  have HR4 : Hid ((w4.alloc (tkO ⟨who, dst, epoch, frm, til, ser⟩)).heap[w.heap.size]? = some (tkO ⟨who, dst, epoch, frm, til, ser⟩)) := row_push (row_keep HR3.out hb) _
  have HX4 : Hid ((w4.alloc (tkO ⟨who, dst, epoch, frm, til, ser⟩)).heap[w4.heap.size]? = some (tkO ⟨who, dst, epoch, frm, til, ser⟩)) := heap_alloc_new _ _
  clear hb HB3 HO HR3
  go_wp2_with fail
  refine (HLo.out _ (HE.out.below HB4.out)).mono ?_
  rintro e w5 ⟨rfl, hb⟩
  have HB5 : Hid (Below w.heap.size w (w5.alloc (tkO ⟨who, dst, epoch, frm, til, ser⟩))) := (HB4.out.trans (hb.mono HB4.out.size)).alloc (HB4.out.trans (hb.mono HB4.out.size)).size _
  have HR5 : Hid ((w5.alloc (tkO ⟨who, dst, epoch, frm, til, ser⟩)).heap[w.heap.size]? = some (tkO ⟨who, dst, epoch, frm, til, ser⟩)) := row_push (row_keep HR4.out hb) _
  have HX5 : Hid ((w5.alloc (tkO ⟨who, dst, epoch, frm, til, ser⟩)).heap[w4.heap.size]? = some (tkO ⟨who, dst, epoch, frm, til, ser⟩)) := row_push (row_keep HX4.out hb) _
  have HY5 : Hid ((w5.alloc (tkO ⟨who, dst, epoch, frm, til, ser⟩)).heap[w5.heap.size]? = some (tkO ⟨who, dst, epoch, frm, til, ser⟩)) := heap_alloc_new _ _
  clear hb HB4 HLo HR4 HX4
  generalize w4.heap.size = g4 at *
  obtain ⟨hc0, hc1, hc2, hc3, hc4, hc5⟩ := tk_row HR5.out
  obtain ⟨hd0, hd1, hd2, hd3, hd4, hd5⟩ := tk_row HX5.out
  obtain ⟨he0, he1, he2, he3, he4, he5⟩ := tk_row HY5.out
  dsimp only [tkO] at hc0 hc1 hc2 hc3 hc4 hc5 hd0 hd1 hd2 hd3 hd4 hd5 he0 he1 he2 he3 he4 he5
  clear HX5 HY5
  go_wp2_with fail
  refine (HRn.out _ (HE.out.below HB5.out)).mono ?_
  rintro e w6 ⟨rfl, hb⟩
  have HB6 : Hid (Below w.heap.size w (w6.alloc (tkO ⟨who, dst, epoch, now, mn, ser2⟩))) := (HB5.out.trans (hb.mono HB5.out.size)).alloc (HB5.out.trans (hb.mono HB5.out.size)).size _
  have HR6 : Hid ((w6.alloc (tkO ⟨who, dst, epoch, now, mn, ser2⟩)).heap[w.heap.size]? = some (tkO ⟨who, dst, epoch, frm, til, ser⟩)) := row_push (row_keep HR5.out hb) _
  have HX6 : Hid ((w6.alloc (tkO ⟨who, dst, epoch, now, mn, ser2⟩)).heap[w6.heap.size]? = some (tkO ⟨who, dst, epoch, now, mn, ser2⟩)) := heap_alloc_new _ _
  clear hb HB5 HRn HR5 hc0 hc1 hc2 hc3 hc4 hc5 hd0 hd1 hd2 hd3 hd4 hd5 he0 he1 he2 he3 he4 he5
  obtain ⟨hc0, hc1, hc2, hc3, hc4, hc5⟩ := tk_row HR6.out
  obtain ⟨hd0, hd1, hd2, hd3, hd4, hd5⟩ := tk_row HX6.out
  dsimp only [tkO] at hc0 hc1 hc2 hc3 hc4 hc5 hd0 hd1 hd2 hd3 hd4 hd5
  go_wp2_with fail
  refine (HGr.out _ (HE.out.below HB6.out)).mono ?_
  rintro e w7 ⟨rfl, hb⟩
  have HB7 : Hid (Below w.heap.size w w7) := HB6.out.trans (hb.mono HB6.out.size)
  have HR7 : Hid (w7.heap[w.heap.size]? = some (tkO ⟨who, dst, epoch, frm, til, ser⟩)) := row_keep HR6.out hb
  clear hb HB6 HGr HR6 HX6 hc0 hc1 hc2 hc3 hc4 hc5 hd0 hd1 hd2 hd3 hd4 hd5
  go_wp2
  go_ret
  exact ⟨rfl, HB7.out⟩

set_option maxRecDepth 100000 in
set_option maxHeartbeats 8000000 in
theorem ticketBack_good (a : Nat → Addr) (key : Int) (t : Tk) (now til2 ser2 thn : Int) (w : World) (h : Env a w) (hs : t.who.size ≤ maxLen) (hs2 : t.dst.size ≤ maxLen) (hl : longT t = 0) (hk : 1 ≤ key ∧ key ≤ 1000000006) (he : t.err = 0) (hr : t.renewE now til2 ser2 = 0) (hg : (t.anew now til2 ser2).good thn = 0) (hg2 : t.good thn = 0) (hle : now ≤ thn) :
    Calls Tryz.prog 3 #[.int .i64 key, t.val, .int .i64 now, .int .i64 til2, .int .i64 ser2, .int .i64 thn] w fun e w' => e = .returned (.bool true) ∧ Below w.heap.size w w' := by
  have HB0 : Hid (Below w.heap.size w (w.alloc (tkO t))) := (Below.refl _ w).alloc (Nat.le_refl _) _
  have HR0 : Hid ((w.alloc (tkO t)).heap[w.heap.size]? = some (tkO t)) := heap_alloc_new _ _
  have HT := hide (ticketed_any a _ (h.below HB0.out))
  have HL := hide (fun w => longTicket_any t w hs hs2)
  rw [hl] at HL
  have HM := hide (fun w h => tkMake_ok a key t w h hs hs2 hk he)
  have HO := hide (fun w h => tkOpen_back a key hk t he w h)
  have HLo := hide (fun w h => tkLook_back a key hk t he w h)
  have HE := hide h
  have HRn := hide (fun w (h : Env a w) => renew_any a t now til2 ser2 w h.errs hs hs2)
  rw [hr, okT_yes, show errV a 0 = Value.nilIface from rfl] at HRn
  have HGr := hide (fun w (h : Env a w) => good_any a (t.anew now til2 ser2) thn w h.errs hs hs2)
  rw [hg, show errV a 0 = Value.nilIface from rfl] at HGr
  have HGt := hide (fun w (h : Env a w) => good_any a t thn w h.errs hs hs2)
  rw [hg2, show errV a 0 = Value.nilIface from rfl] at HGt
  clear h hs hs2 hl hk he hr hg hg2
  generalize Sl.ofL (Sl.sealL key t.words) = s at *
  rw [tk_val t] at HL HM HO HLo HRn HGt ⊢
  rw [tk_val] at HRn HGr
  obtain ⟨who, dst, epoch, frm, til, ser⟩ := t
  dsimp only [Tk.anew] at HRn HGr
  have hmn : min til2 til ≤ til := by omega
  generalize min til2 til = mn at *
  dsimp only at *
  go_enter Tryz.func3, Tryz.ntmps3
  go_wp2_with fail
  refine HT.out.mono ?_
  rintro e w1 ⟨rfl, hb⟩
  have HB1 : Hid (Below w.heap.size w w1) := HB0.out.trans (hb.mono HB0.out.size)
  have HR1 : Hid (w1.heap[w.heap.size]? = some (tkO ⟨who, dst, epoch, frm, til, ser⟩)) := row_keep HR0.out hb
  clear hb HB0 HR0 HT
  obtain ⟨hc0, hc1, hc2, hc3, hc4, hc5⟩ := tk_row HR1.out
  dsimp only at hc0 hc1 hc2 hc3 hc4 hc5
  go_wp2_with fail
  refine (HL.out _).mono ?_
  rintro e w2 ⟨rfl, hb⟩
  have HB2 : Hid (Below w.heap.size w w2) := HB1.out.trans (hb.mono HB1.out.size)
  have HR2 : Hid (w2.heap[w.heap.size]? = some (tkO ⟨who, dst, epoch, frm, til, ser⟩)) := row_keep HR1.out hb
  clear hb HB1 HL HR1 hc0 hc1 hc2 hc3 hc4 hc5
  obtain ⟨hc0, hc1, hc2, hc3, hc4, hc5⟩ := tk_row HR2.out
  dsimp only at hc0 hc1 hc2 hc3 hc4 hc5
  go_wp2_with fail
  refine (HM.out _ (HE.out.below HB2.out)).mono ?_
  rintro e w3 ⟨rfl, hb⟩
  have HB3 : Hid (Below w.heap.size w w3) := HB2.out.trans (hb.mono HB2.out.size)
  have HR3 : Hid (w3.heap[w.heap.size]? = some (tkO ⟨who, dst, epoch, frm, til, ser⟩)) := row_keep HR2.out hb
  clear hb HB2 HM HR2 hc0 hc1 hc2 hc3 hc4 hc5
  go_wp2_with fail
  refine (HO.out _ (HE.out.below HB3.out)).mono ?_
  rintro e w4 ⟨rfl, hb⟩
  have HB4 : Hid (Below w.heap.size w (w4.alloc (tkO ⟨who, dst, epoch, frm, til, ser⟩))) := (HB3.out.trans (hb.mono HB3.out.size)).alloc (HB3.out.trans (hb.mono HB3.out.size)).size _
  have HR4 : Hid ((w4.alloc (tkO ⟨who, dst, epoch, frm, til, ser⟩)).heap[w.heap.size]? = some (tkO ⟨who, dst, epoch, frm, til, ser⟩)) := row_push (row_keep HR3.out hb) _
  have HX4 : Hid ((w4.alloc (tkO ⟨who, dst, epoch, frm, til, ser⟩)).heap[w4.heap.size]? = some (tkO ⟨who, dst, epoch, frm, til, ser⟩)) := heap_alloc_new _ _
  clear hb HB3 HO HR3
  go_wp2_with fail
  refine (HLo.out _ (HE.out.below HB4.out)).mono ?_
  rintro e w5 ⟨rfl, hb⟩
  have HB5 : Hid (Below w.heap.size w (w5.alloc (tkO ⟨who, dst, epoch, frm, til, ser⟩))) := (HB4.out.trans (hb.mono HB4.out.size)).alloc (HB4.out.trans (hb.mono HB4.out.size)).size _
  have HR5 : Hid ((w5.alloc (tkO ⟨who, dst, epoch, frm, til, ser⟩)).heap[w.heap.size]? = some (tkO ⟨who, dst, epoch, frm, til, ser⟩)) := row_push (row_keep HR4.out hb) _
  have HX5 : Hid ((w5.alloc (tkO ⟨who, dst, epoch, frm, til, ser⟩)).heap[w4.heap.size]? = some (tkO ⟨who, dst, epoch, frm, til, ser⟩)) := row_push (row_keep HX4.out hb) _
  have HY5 : Hid ((w5.alloc (tkO ⟨who, dst, epoch, frm, til, ser⟩)).heap[w5.heap.size]? = some (tkO ⟨who, dst, epoch, frm, til, ser⟩)) := heap_alloc_new _ _
  clear hb HB4 HLo HR4 HX4
  generalize w4.heap.size = g4 at *
  obtain ⟨hc0, hc1, hc2, hc3, hc4, hc5⟩ := tk_row HR5.out
  obtain ⟨hd0, hd1, hd2, hd3, hd4, hd5⟩ := tk_row HX5.out
  obtain ⟨he0, he1, he2, he3, he4, he5⟩ := tk_row HY5.out
  dsimp only [tkO] at hc0 hc1 hc2 hc3 hc4 hc5 hd0 hd1 hd2 hd3 hd4 hd5 he0 he1 he2 he3 he4 he5
  clear HX5 HY5
  go_wp2_with fail
  refine (HRn.out _ (HE.out.below HB5.out)).mono ?_
  rintro e w6 ⟨rfl, hb⟩
  have HB6 : Hid (Below w.heap.size w (w6.alloc (tkO ⟨who, dst, epoch, now, mn, ser2⟩))) := (HB5.out.trans (hb.mono HB5.out.size)).alloc (HB5.out.trans (hb.mono HB5.out.size)).size _
  have HR6 : Hid ((w6.alloc (tkO ⟨who, dst, epoch, now, mn, ser2⟩)).heap[w.heap.size]? = some (tkO ⟨who, dst, epoch, frm, til, ser⟩)) := row_push (row_keep HR5.out hb) _
  have HX6 : Hid ((w6.alloc (tkO ⟨who, dst, epoch, now, mn, ser2⟩)).heap[w6.heap.size]? = some (tkO ⟨who, dst, epoch, now, mn, ser2⟩)) := heap_alloc_new _ _
  clear hb HB5 HRn HR5 hc0 hc1 hc2 hc3 hc4 hc5 hd0 hd1 hd2 hd3 hd4 hd5 he0 he1 he2 he3 he4 he5
  obtain ⟨hc0, hc1, hc2, hc3, hc4, hc5⟩ := tk_row HR6.out
  obtain ⟨hd0, hd1, hd2, hd3, hd4, hd5⟩ := tk_row HX6.out
  dsimp only [tkO] at hc0 hc1 hc2 hc3 hc4 hc5 hd0 hd1 hd2 hd3 hd4 hd5
  go_wp2_with fail
  refine (HGr.out _ (HE.out.below HB6.out)).mono ?_
  rintro e w7 ⟨rfl, hb⟩
  have HB7 : Hid (Below w.heap.size w w7) := HB6.out.trans (hb.mono HB6.out.size)
  have HR7 : Hid (w7.heap[w.heap.size]? = some (tkO ⟨who, dst, epoch, frm, til, ser⟩)) := row_keep HR6.out hb
  clear hb HB6 HGr HR6 HX6 hc0 hc1 hc2 hc3 hc4 hc5 hd0 hd1 hd2 hd3 hd4 hd5
  obtain ⟨hc0, hc1, hc2, hc3, hc4, hc5⟩ := tk_row HR7.out
  dsimp only at hc0 hc1 hc2 hc3 hc4 hc5
  go_wp2_with fail
  refine (HGt.out _ (HE.out.below HB7.out)).mono ?_
  rintro e w8 ⟨rfl, hb⟩
  have HB8 : Hid (Below w.heap.size w w8) := HB7.out.trans (hb.mono HB7.out.size)
  clear hb HB7 HR7 HGt HE hc0 hc1 hc2 hc3 hc4 hc5
  go_wp2
  go_ret
  exact ⟨rfl, HB8.out⟩

theorem ticketBack_walk (a : Nat → Addr) (key : Int) (t : Tk) (now til2 ser2 thn : Int) (w : World) (h : Env a w) (hs : t.who.size ≤ maxLen) (hs2 : t.dst.size ≤ maxLen) :
    Calls Tryz.prog 3 #[.int .i64 key, t.val, .int .i64 now, .int .i64 til2, .int .i64 ser2, .int .i64 thn] w fun e w' => e = .returned (.bool true) ∧ Below w.heap.size w w' := by
  by_cases hl : 20 < t.who.size ∨ 20 < t.dst.size
  · exact ticketBack_long a key t now til2 ser2 thn w h hs hs2 (by unfold longT; rw [if_pos hl])
  · have hl0 : longT t = 0 := by unfold longT; rw [if_neg hl]
    by_cases hm : tkMakeE key t = 0
    · have hk : 1 ≤ key ∧ key ≤ 1000000006 := by
        unfold tkMakeE at hm
        split at hm
        · assumption
        · cases hm
      have he : t.err = 0 := by
        unfold tkMakeE at hm
        rw [if_pos hk] at hm
        exact hm
      by_cases hr : t.renewE now til2 ser2 = 0
      · by_cases hg : (t.anew now til2 ser2).good thn = 0
        · have hgn : t.good now = 0 := by
            by_cases g : t.good now = 0
            · exact g
            · unfold Tk.renewE at hr
              rw [if_neg g] at hr
              exact hr
          obtain ⟨hg2, hle⟩ := t.anew_good now til2 ser2 thn hgn hg
          exact ticketBack_good a key t now til2 ser2 thn w h hs hs2 hl0 hk he hr hg hg2 hle
        · exact ticketBack_bad a key t now til2 ser2 thn w h hs hs2 hl0 hk he hr hg
      · exact ticketBack_no a key t now til2 ser2 thn w h hs hs2 hl0 hk he hr
    · exact ticketBack_make a key t now til2 ser2 thn w h hs hs2 hl0 hm
theorem ticketBack_law (a : Nat → Addr) (key : Int) (t : Tk) (now til2 ser2 thn : Int) (w : World) (h : Env a w) (_ : I64 key) (hs : t.who.size ≤ maxLen) (hs2 : t.dst.size ≤ maxLen) (_ : I64 now) (_ : I64 til2) (_ : I64 ser2) (_ : I64 thn) :
    Calls Tryz.prog 3 #[.int .i64 key, t.val, .int .i64 now, .int .i64 til2, .int .i64 ser2, .int .i64 thn] w fun e w' => e = .returned (.bool true) ∧ Below w.heap.size w w' :=
  ticketBack_walk a key t now til2 ser2 thn w h hs hs2
end Go.Proofs.YtgagekcjdapkfabGreatDoor

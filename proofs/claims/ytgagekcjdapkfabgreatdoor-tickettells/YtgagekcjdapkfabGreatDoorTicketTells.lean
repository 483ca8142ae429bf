/-
  The call of TicketTells returns true wherever the sixteen errors, the library's MaxLen and its powers of ten lie as the program lays them, for every key, ticket, text, times and serial; nothing that was there changes.
-/
import Derived.Test.YtgagekcjdapkfabGreatDoorTicketState
import Derived.Test.YtgagekcjdapkfabGreatDoorQuietBelow
namespace Go.Proofs.YtgagekcjdapkfabGreatDoor
open Go.RowKit Go.Extern.Stop Go.Stop Go.Extern

set_option maxRecDepth 100000 in
set_option maxHeartbeats 4000000 in
theorem ticketTells_long (a : Nat → Addr) (key : Int) (t : Tk) (s : ByteArray) (now til2 ser2 : Int) (w : World) (h : Env a w) (hs : t.who.size ≤ maxLen) (hs2 : t.dst.size ≤ maxLen) (hz : s.size ≤ maxLen) (hl : longT t = 1 ∨ (longT t = 0 ∧ 400 < s.size)) :
    Calls Tryz.prog 4 #[.int .i64 key, t.val, .string s, .int .i64 now, .int .i64 til2, .int .i64 ser2] w fun e w' => e = .returned (.bool true) ∧ Below w.heap.size w w' := by
  have HB0 : Hid (Below w.heap.size w (w.alloc (tkO t))) := (Below.refl _ w).alloc (Nat.le_refl _) _
  have HR0 : Hid ((w.alloc (tkO t)).heap[w.heap.size]? = some (tkO t)) := heap_alloc_new _ _
  have HT := hide (ticketed_any a _ (h.below HB0.out))
  have HL := hide (fun w => longTicket_any t w hs hs2)
  unfold maxLen at hz
  rcases hl with hl | ⟨hl, h4⟩
  all_goals
    rw [hl] at HL
    clear h hs hs2 hl
    rw [tk_val] at HL ⊢
    obtain ⟨who, dst, epoch, frm, til, ser⟩ := t
    dsimp only at *
    go_enter Tryz.func4, Tryz.ntmps4
    go_wp2_with fail
    refine HT.out.mono ?_
    rintro e w1 ⟨rfl, hb⟩
    have HB1 : Hid (Below w.heap.size w w1) := HB0.out.trans (hb.mono HB0.out.size)
    have HR1 : Hid (w1.heap[w.heap.size]? = some (tkO ⟨who, dst, epoch, frm, til, ser⟩)) := row_kept HR0.out hb
    clear hb HB0 HR0 HT
    obtain ⟨hc0, hc1, hc2, hc3, hc4, hc5⟩ := tk_row HR1.out
    dsimp only at hc0 hc1 hc2 hc3 hc4 hc5
    clear HR1
    go_wp2_with fail
    refine (HL.out _).mono ?_
    rintro e w2 ⟨rfl, hb⟩
    have HB2 : Hid (Below w.heap.size w w2) := HB1.out.trans (hb.mono HB1.out.size)
    clear hb HB1 HL hc0 hc1 hc2 hc3 hc4 hc5
    go_wp2
    go_ret
    exact ⟨rfl, HB2.out⟩

/-- Of a ticket's cells only the first two are texts. -/
theorem tkO_text {W : World} {g : Nat} {t0 : Tk} (hr : W.heap[g]? = some (tkO t0)) (k : Nat) (x : ByteArray) (h : W.cell? ⟨g, k, none⟩ = some (.string x)) : k < 2 := by
  obtain ⟨h0, h1, h2, h3, h4, h5⟩ := tk_row hr
  match k, h with
  | 0, _ => decide
  | 1, _ => decide
  | 2, h => exact absurd (h2.symm.trans h) (by intro e; cases e)
  | 3, h => exact absurd (h3.symm.trans h) (by intro e; cases e)
  | 4, h => exact absurd (h4.symm.trans h) (by intro e; cases e)
  | 5, h => exact absurd (h5.symm.trans h) (by intro e; cases e)
  | k + 6, h =>
    have e1 : W.cell? ⟨g, k + 6, none⟩ = none := by
      unfold World.cell?
      rw [hr]
      rfl
    exact absurd (e1.symm.trans h) (by intro e; cases e)
/-- TicketOf over words that were looked at, in the world where a ticket was written into its own block. -/
theorem refTkOf_put (l : List UInt8) (h : Sl.lookE l = 0) (v : Value) (W : World) (g : Nat) (t0 t : Tk) (hv : TextsAt W v (okW 0 (Sl.lookW l))) (hr : W.heap[g]? = some (tkO t0)) :
    Calls Tryz.prog 20 #[v] (putT W g t) fun e w' => e = .returned (.tuple #[(okT (readE (Sl.lookW l)) (tkOf (Sl.lookW l))).val, .int .i64 (readE (Sl.lookW l) : Int)]) ∧ Below (putT W g t).heap.size (putT W g t) w' := by
  by_cases hn : (okW 0 (Sl.lookW l)).length = 7
  · refine refTkOf_look l h v (putT W g t) ?_
    obtain ⟨ad, c, h1, h2, h3⟩ := hv
    refine ⟨ad, c, h1, h2, ?_⟩
    rcases h3 with h3 | ⟨b, o, h4, h5⟩
    · exact Or.inl h3
    · refine Or.inr ⟨b, o, h4, fun j hj => ?_⟩
      have hb : b ≠ g := by
        rintro rfl
        have := tkO_text hr _ _ (h5 2 (by omega))
        omega
      exact (cell_set6 W ⟨b, o + j, none⟩ hb _ _ _ _ _ _).trans (h5 j hj)
  · obtain ⟨ad, c, rfl, _, _⟩ := hv
    have e1 : readE (Sl.lookW l) = 1 := by
      unfold readE
      rw [if_neg]
      intro hf
      unfold formW at hf
      have h7 := of_decide_eq_true (Bool.and_eq_true_iff.1 (Bool.and_eq_true_iff.1 hf).1).1
      refine hn ?_
      rw [← h7]
      exact List.length_map _
    rw [e1]
    exact refOf_len ad _ c _ hn

set_option maxRecDepth 100000 in
set_option maxHeartbeats 16000000 in
theorem ticketTells_look (a : Nat → Addr) (key : Int) (t : Tk) (s : ByteArray) (now til2 ser2 : Int) (w : World) (h : Env a w) (hs : t.who.size ≤ maxLen) (hs2 : t.dst.size ≤ maxLen) (hl : longT t = 0) (hz : s.size ≤ 400) (hlk : Sl.lookE s.data.toList = 0) :
    Calls Tryz.prog 4 #[.int .i64 key, t.val, .string s, .int .i64 now, .int .i64 til2, .int .i64 ser2] w fun e w' => e = .returned (.bool true) ∧ Below w.heap.size w w' := by
  have hsm : s.size ≤ maxLen := by unfold maxLen; omega
  have HB0 : Hid (Below w.heap.size w (w.alloc (tkO t))) := (Below.refl _ w).alloc (Nat.le_refl _) _
  have HR0 : Hid ((w.alloc (tkO t)).heap[w.heap.size]? = some (tkO t)) := heap_alloc_new _ _
  have HT := hide (ticketed_any a _ (h.below HB0.out))
  have HL := hide (fun w => longTicket_any t w hs hs2)
  rw [hl] at HL
  have HM := hide (fun w h => tkMake_any a key t w h hs hs2)
  have HMr := hide (fun w => refText_any key t w hs hs2)
  have P1 : PairOf a (errV a (tkMakeE key t)) (tkMakeE key t : Int) := ⟨_, tkMakeE_le key t, rfl, rfl⟩
  generalize errV a (tkMakeE key t) = mv at *
  generalize (tkMakeE key t : Int) = mz at *
  generalize tkMakeS key t = ms at *
  have HC := hide (fun w h => tkCheck_any a t w h hs hs2)
  have HCr := hide (fun w => refTk_any t w hs hs2)
  have P2 : PairOf a (errV a t.err) (t.err : Int) := ⟨_, t.err_le, rfl, rfl⟩
  generalize errV a t.err = cv at *
  generalize (t.err : Int) = cz at *
  have HG := hide (fun w h => good_any a t now w h hs hs2)
  have HGr := hide (fun w => refGood_any t now w hs hs2)
  have P3 : PairOf a (errV a (t.good now)) (t.good now : Int) := ⟨_, t.good_le now, rfl, rfl⟩
  generalize errV a (t.good now) = gv at *
  generalize (t.good now : Int) = gz at *
  have HO := hide (fun w h => tkOpen_any a key s w h)
  have HOr := hide (fun w => refOpen_any key s w hsm)
  have P4 : PairOf a (errV a (tkOpenE key s.data.toList)) (tkOpenE key s.data.toList : Int) := ⟨_, tkOpenE_le key _, rfl, rfl⟩
  generalize errV a (tkOpenE key s.data.toList) = ov at *
  generalize (tkOpenE key s.data.toList : Int) = oz at *
  generalize okT (tkOpenE key s.data.toList) (tkOf (Sl.lookW s.data.toList)) = ot at *
  have HLo := hide (fun w h => tkLook_any a s w h)
  have HLa := hide (fun w => lookAt_t s w hsm)
  have P5 : PairOf a (errV a (tkLookE s.data.toList)) (tkLookE s.data.toList : Int) := ⟨_, tkLookE_le _, rfl, rfl⟩
  have hll := lookE_le s.data.toList
  have HTo := hide (fun v W g t0 t hv hr => refTkOf_put s.data.toList hlk v W g t0 t hv hr)
  have el : tkLookE s.data.toList = readE (Sl.lookW s.data.toList) := by unfold tkLookE; rw [if_pos hlk]
  rw [hlk] at HLa
  rw [← el] at HTo
  generalize errV a (tkLookE s.data.toList) = lv at *
  generalize (tkLookE s.data.toList : Int) = lz at *
  generalize okT (tkLookE s.data.toList) (tkOf (Sl.lookW s.data.toList)) = lt at *
  generalize okW 0 (Sl.lookW s.data.toList) = xs at *
  have HRn := hide (fun w h => renew_any a t now til2 ser2 w h hs hs2)
  have HRr := hide (fun w => refRenew_any t now til2 ser2 w hs hs2)
  have P6 : PairOf a (errV a (t.renewE now til2 ser2)) (t.renewE now til2 ser2 : Int) := ⟨_, t.renewE_le now til2 ser2, rfl, rfl⟩
  generalize errV a (t.renewE now til2 ser2) = nv at *
  generalize (t.renewE now til2 ser2 : Int) = nz at *
  generalize okT (t.renewE now til2 ser2) (t.anew now til2 ser2) = nt at *
  have HE := hide h
  clear h hs hs2 hl hll hlk el hsm
  rw [tk_val t] at HL HM HMr HC HCr HG HGr HRn HRr ⊢
  rw [tk_val ot] at HO HOr
  rw [tk_val nt] at HRn HRr
  rw [tk_val lt] at HLo HTo
  obtain ⟨who, dst, epoch, frm, til, ser⟩ := t
  obtain ⟨owho, odst, oepoch, ofrm, otil, oser⟩ := ot
  obtain ⟨nwho, ndst, nepoch, nfrm, ntil, nser⟩ := nt
  obtain ⟨lwho, ldst, lepoch, lfrm, ltil, lser⟩ := lt
  dsimp only at *
  go_enter Tryz.func4, Tryz.ntmps4
  go_wp2_with fail
  refine HT.out.mono ?_
  rintro e w1 ⟨rfl, hb⟩
  have HB1 : Hid (Below w.heap.size w w1) := HB0.out.trans (hb.mono HB0.out.size)
  have HR1 : Hid (w1.heap[w.heap.size]? = some (tkO ⟨who, dst, epoch, frm, til, ser⟩)) := row_kept HR0.out hb
  clear hb HB0 HR0 HT
  obtain ⟨hc0, hc1, hc2, hc3, hc4, hc5⟩ := tk_row HR1.out
  dsimp only at hc0 hc1 hc2 hc3 hc4 hc5
  go_wp2_with fail
  refine (HL.out _).mono ?_
  rintro e w2 ⟨rfl, hb⟩
  have HB2 : Hid (Below w.heap.size w w2) := HB1.out.trans (hb.mono HB1.out.size)
  have HR2 : Hid (w2.heap[w.heap.size]? = some (tkO ⟨who, dst, epoch, frm, til, ser⟩)) := row_kept HR1.out hb
  clear hb HB1 HL HR1 hc0 hc1 hc2 hc3 hc4 hc5
  obtain ⟨hc0, hc1, hc2, hc3, hc4, hc5⟩ := tk_row HR2.out
  dsimp only at hc0 hc1 hc2 hc3 hc4 hc5
  go_wp2_with fail
  refine (HM.out _ (HE.out.below HB2.out)).mono ?_
  rintro e w3 ⟨rfl, hb⟩
  have HB3 : Hid (Below w.heap.size w w3) := HB2.out.trans (hb.mono HB2.out.size)
  have HR3 : Hid (w3.heap[w.heap.size]? = some (tkO ⟨who, dst, epoch, frm, til, ser⟩)) := row_kept HR2.out hb
  clear hb HB2 HM HR2 hc0 hc1 hc2 hc3 hc4 hc5
  obtain ⟨hc0, hc1, hc2, hc3, hc4, hc5⟩ := tk_row HR3.out
  dsimp only at hc0 hc1 hc2 hc3 hc4 hc5
  go_wp2_with fail
  refine (HMr.out _).mono ?_
  rintro e w4 ⟨rfl, hb⟩
  have HB4 : Hid (Below w.heap.size w w4) := HB3.out.trans (hb.mono HB3.out.size)
  have HR4 : Hid (w4.heap[w.heap.size]? = some (tkO ⟨who, dst, epoch, frm, til, ser⟩)) := row_kept HR3.out hb
  clear hb HB3 HMr HR3 hc0 hc1 hc2 hc3 hc4 hc5
  obtain ⟨hc0, hc1, hc2, hc3, hc4, hc5⟩ := tk_row HR4.out
  dsimp only at hc0 hc1 hc2 hc3 hc4 hc5
  have HE4 := hide (HE.out.below HB4.out)
  have hgl : w.heap.size < w4.heap.size := row_lt HR4.out
  have z0 := fun q : BelowAt w4 => q.cell hc0 hgl
  have z1 := fun q : BelowAt w4 => q.cell hc1 hgl
  have z2 := fun q : BelowAt w4 => q.cell hc2 hgl
  have z3 := fun q : BelowAt w4 => q.cell hc3 hgl
  have z4 := fun q : BelowAt w4 => q.cell hc4 hgl
  have z5 := fun q : BelowAt w4 => q.cell hc5 hgl
  have HCq : Hid (∀ q : BelowAt w4, Calls Tryz.prog 15 #[.agg #[.string who, .string dst, .int .i64 epoch, .int .i64 frm, .int .i64 til, .int .i64 ser]] q.to fun e w'' => e = .returned cv ∧ ∃ r : BelowAt w4, w'' = r.to) := fun q => BelowAt.calls (HC.out q.to (HE4.out.below q.below).errs)
  have HCrq : Hid (∀ q : BelowAt w4, Calls Tryz.prog 16 #[.agg #[.string who, .string dst, .int .i64 epoch, .int .i64 frm, .int .i64 til, .int .i64 ser]] q.to fun e w'' => e = .returned (.int .i64 cz) ∧ ∃ r : BelowAt w4, w'' = r.to) := fun q => BelowAt.calls (HCr.out q.to)
  have HGq : Hid (∀ q : BelowAt w4, Calls Tryz.prog 12 #[.agg #[.string who, .string dst, .int .i64 epoch, .int .i64 frm, .int .i64 til, .int .i64 ser], .int .i64 now] q.to fun e w'' => e = .returned gv ∧ ∃ r : BelowAt w4, w'' = r.to) := fun q => BelowAt.calls (HG.out q.to (HE4.out.below q.below).errs)
  have HGrq : Hid (∀ q : BelowAt w4, Calls Tryz.prog 17 #[.agg #[.string who, .string dst, .int .i64 epoch, .int .i64 frm, .int .i64 til, .int .i64 ser], .int .i64 now] q.to fun e w'' => e = .returned (.int .i64 gz) ∧ ∃ r : BelowAt w4, w'' = r.to) := fun q => BelowAt.calls (HGr.out q.to)
  have HCod : Hid (∀ q : BelowAt w4, ∀ v z, PairOf a v z → Calls Tryz.prog 14 #[v, .int .i64 z] q.to fun e w'' => e = .returned (.bool true) ∧ ∃ r : BelowAt w4, w'' = r.to) := fun q v z hp => BelowAt.calls (coded_pair a v z hp q.to (HE4.out.below q.below).errs)
  have any1 : Nonempty (BelowAt w4) := BelowAt.any w4
  clear hc0 hc1 hc2 hc3 hc4 hc5 HC HCr HG HGr
  go_wp2_with fail
  refine wp_region_below (by kernel_rfl) (by kernel_rfl) ?_
  repeat (go_big_quiet_step (first | exact HCq.out _ | exact HCrq.out _ | exact HGq.out _ | exact HGrq.out _ | exact HCod.out _ _ _ (by first | exact P1 | exact P2 | exact P3)))
  refine wpQuiet_nil ?_
  intro _ hw'
  obtain ⟨pq, hw''⟩ := hw'
  subst hw''
  have HB5 : Hid (Below w.heap.size w pq.to) := HB4.out.trans (pq.below.mono HB4.out.size)
  have HR5 : Hid (pq.to.heap[w.heap.size]? = some (tkO ⟨who, dst, epoch, frm, til, ser⟩)) := (pq.below.block _ hgl).trans HR4.out
  clear z0 z1 z2 z3 z4 z5 HCq HCrq HGq HGrq HCod hgl HR4 HE4 P1 P2 P3
  generalize pq.to = w5 at *
  clear pq any1 HB4
  go_wp2_with fail
  refine (HO.out _ (HE.out.below HB5.out)).mono ?_
  rintro e w6 ⟨rfl, hb⟩
  have HB6 : Hid (Below w.heap.size w (w6.alloc (tkO ⟨owho, odst, oepoch, ofrm, otil, oser⟩))) := (HB5.out.trans (hb.mono HB5.out.size)).alloc (HB5.out.trans (hb.mono HB5.out.size)).size _
  have HR6 : Hid ((w6.alloc (tkO ⟨owho, odst, oepoch, ofrm, otil, oser⟩)).heap[w.heap.size]? = some (tkO ⟨who, dst, epoch, frm, til, ser⟩)) := row_pushed (row_kept HR5.out hb) _
  have HY6 : Hid ((w6.alloc (tkO ⟨owho, odst, oepoch, ofrm, otil, oser⟩)).heap[w6.heap.size]? = some (tkO ⟨owho, odst, oepoch, ofrm, otil, oser⟩)) := heap_alloc_new _ _
  have HO1 : Hid (w.heap.size < w6.heap.size) := row_lt (row_kept HR5.out hb)
  clear hb HB5 HO HR5
  go_wp2_with fail
  refine (HOr.out _).mono ?_
  rintro e w7 ⟨rfl, hb⟩
  have hst : TSt w ⟨who, dst, epoch, frm, til, ser⟩ ⟨owho, odst, oepoch, ofrm, otil, oser⟩ ⟨owho, odst, oepoch, ofrm, otil, oser⟩ w6.heap.size w7.heap.size (w7.alloc (tkO ⟨owho, odst, oepoch, ofrm, otil, oser⟩)) :=
    ⟨(HB6.out.trans (hb.mono HB6.out.size)).alloc (HB6.out.trans (hb.mono HB6.out.size)).size _, row_pushed (row_kept HR6.out hb) _, row_pushed (row_kept HY6.out hb) _, heap_alloc_new _ _, HO1.out, row_lt (row_kept HY6.out hb)⟩
  have HS7 := hide hst
  clear hb hst HB6 HR6 HY6 HO1 HOr
  have HCo : Hid (∀ W, Env a W → ∀ v z, PairOf a v z → Calls Tryz.prog 14 #[v, .int .i64 z] W fun e w' => e = .returned (.bool true) ∧ Below W.heap.size W w') := fun W hE v z hp => coded_pair a v z hp W hE.errs
  generalize w6.heap.size = gy at *
  go_wp2_with fail
  refine (HCo.out _ (HE.out.below HS7.out.below) _ _ P4).mono ?_
  rintro e w8 ⟨rfl, hb⟩
  have HS8 := hide (HS7.out.step hb)
  clear hb HS7 P4
  generalize w7.heap.size = gw at *
  obtain ⟨hd0, hd1, hd2, hd3, hd4, hd5⟩ := tk_row HS8.out.ry
  obtain ⟨he0, he1, he2, he3, he4, he5⟩ := tk_row HS8.out.rv
  dsimp only at hd0 hd1 hd2 hd3 hd4 hd5 he0 he1 he2 he3 he4 he5
  go_wp2_with fail
  refine (HLo.out _ (HE.out.below HS8.out.below)).mono ?_
  rintro e w9 ⟨rfl, hb⟩
  have HS9 := hide (HS8.out.step hb)
  clear hb HS8 HLo hd0 hd1 hd2 hd3 hd4 hd5 he0 he1 he2 he3 he4 he5
  obtain ⟨hd0, hd1, hd2, hd3, hd4, hd5⟩ := tk_row HS9.out.ry
  obtain ⟨hf0, hf1, hf2, hf3, hf4, hf5⟩ := row_frozen6 HS9.out.ry
  dsimp only at hd0 hd1 hd2 hd3 hd4 hd5
  have HS9b := hide (HS9.out.putY ⟨lwho, ldst, lepoch, lfrm, ltil, lser⟩)
  go_wp2_with fail
  refine (HLa.out (putT w9 gy ⟨lwho, ldst, lepoch, lfrm, ltil, lser⟩)).mono ?_
  rintro e w10 ⟨sl, nn, rfl, hx, hb⟩
  have HS10 := hide (HS9b.out.step hb)
  have HX10 := hide hx
  clear hb hx HS9 HS9b HLa hd0 hd1 hd2 hd3 hd4 hd5 hf0 hf1 hf2 hf3 hf4 hf5
  obtain ⟨he0, he1, he2, he3, he4, he5⟩ := tk_row HS10.out.rv
  obtain ⟨hf0, hf1, hf2, hf3, hf4, hf5⟩ := row_frozen6 HS10.out.rv
  dsimp only at he0 he1 he2 he3 he4 he5
  have HS10b := hide (HS10.out.putV tk0)
  go_wp2_with fail
  refine (HTo.out sl w10 gw _ tk0 HX10.out HS10.out.rv).mono ?_
  rintro e w11 ⟨rfl, hb⟩
  have HS11 := hide (HS10b.out.step hb)
  clear hb HS10 HS10b HX10 HTo he0 he1 he2 he3 he4 he5 hf0 hf1 hf2 hf3 hf4 hf5
  obtain ⟨he0, he1, he2, he3, he4, he5⟩ := tk_row HS11.out.rv
  obtain ⟨hf0, hf1, hf2, hf3, hf4, hf5⟩ := row_frozen6 HS11.out.rv
  dsimp only [tk0] at he0 he1 he2 he3 he4 he5
  have HS12 := hide (HS11.out.putV ⟨lwho, ldst, lepoch, lfrm, ltil, lser⟩)
  go_wp2_with fail
  refine (HCo.out (putT w11 gw ⟨lwho, ldst, lepoch, lfrm, ltil, lser⟩) (HE.out.below HS12.out.below) _ _ P5).mono ?_
  rintro e w12 ⟨rfl, hb⟩
  have HS13 := hide (HS12.out.step hb)
  clear hb HS11 HS12 P5 he0 he1 he2 he3 he4 he5 hf0 hf1 hf2 hf3 hf4 hf5
  obtain ⟨hc0, hc1, hc2, hc3, hc4, hc5⟩ := tk_row HS13.out.r0
  obtain ⟨hd0, hd1, hd2, hd3, hd4, hd5⟩ := tk_row HS13.out.ry
  obtain ⟨he0, he1, he2, he3, he4, he5⟩ := tk_row HS13.out.rv
  dsimp only [tk0] at hc0 hc1 hc2 hc3 hc4 hc5 hd0 hd1 hd2 hd3 hd4 hd5 he0 he1 he2 he3 he4 he5
  go_wp2_with fail
  refine (HRn.out _ (HE.out.below HS13.out.below).errs).mono ?_
  rintro e w13 ⟨rfl, hb⟩
  have HS14 := hide (HS13.out.step hb)
  clear hb HS13 HRn hc0 hc1 hc2 hc3 hc4 hc5 hd0 hd1 hd2 hd3 hd4 hd5 he0 he1 he2 he3 he4 he5
  have HS15 := hide (HS14.out.putY ⟨nwho, ndst, nepoch, nfrm, ntil, nser⟩)
  obtain ⟨hc0, hc1, hc2, hc3, hc4, hc5⟩ := tk_row HS14.out.r0
  obtain ⟨hd0, hd1, hd2, hd3, hd4, hd5⟩ := tk_row HS14.out.ry
  obtain ⟨hf0, hf1, hf2, hf3, hf4, hf5⟩ := row_frozen6 HS14.out.ry
  have hgy : gy ≠ w.heap.size := by have := HS14.out.o1; omega
  have hgy2 : w.heap.size ≠ gy := fun e => hgy e.symm
  dsimp only [tk0] at hc0 hc1 hc2 hc3 hc4 hc5 hd0 hd1 hd2 hd3 hd4 hd5
  go_wp2_with fail
  refine (HRr.out (putT w13 gy ⟨nwho, ndst, nepoch, nfrm, ntil, nser⟩)).mono ?_
  rintro e w14 ⟨rfl, hb⟩
  have HS16 := hide (HS15.out.step hb)
  clear hb HS14 HS15 HRr hc0 hc1 hc2 hc3 hc4 hc5 hd0 hd1 hd2 hd3 hd4 hd5 hf0 hf1 hf2 hf3 hf4 hf5
  have HS17 := hide (HS16.out.putV ⟨nwho, ndst, nepoch, nfrm, ntil, nser⟩)
  obtain ⟨he0, he1, he2, he3, he4, he5⟩ := tk_row HS16.out.rv
  obtain ⟨hf0, hf1, hf2, hf3, hf4, hf5⟩ := row_frozen6 HS16.out.rv
  dsimp only [tk0] at he0 he1 he2 he3 he4 he5
  go_wp2_with fail
  refine (HCo.out (putT w14 gw ⟨nwho, ndst, nepoch, nfrm, ntil, nser⟩) (HE.out.below HS17.out.below) _ _ P6).mono ?_
  rintro e w15 ⟨rfl, hb⟩
  have HS18 := hide (HS17.out.step hb)
  clear hb HS16 HS17 P6 he0 he1 he2 he3 he4 he5 hf0 hf1 hf2 hf3 hf4 hf5
  obtain ⟨hd0, hd1, hd2, hd3, hd4, hd5⟩ := tk_row HS18.out.ry
  obtain ⟨he0, he1, he2, he3, he4, he5⟩ := tk_row HS18.out.rv
  dsimp only at hd0 hd1 hd2 hd3 hd4 hd5 he0 he1 he2 he3 he4 he5
  go_wp2
  go_ret
  exact ⟨rfl, HS18.out.below⟩

set_option maxRecDepth 100000 in
set_option maxHeartbeats 16000000 in
theorem ticketTells_nolook (a : Nat → Addr) (key : Int) (t : Tk) (s : ByteArray) (now til2 ser2 : Int) (w : World) (h : Env a w) (hs : t.who.size ≤ maxLen) (hs2 : t.dst.size ≤ maxLen) (hl : longT t = 0) (hz : s.size ≤ 400) (hlk : Sl.lookE s.data.toList ≠ 0) :
    Calls Tryz.prog 4 #[.int .i64 key, t.val, .string s, .int .i64 now, .int .i64 til2, .int .i64 ser2] w fun e w' => e = .returned (.bool true) ∧ Below w.heap.size w w' := by
  have hsm : s.size ≤ maxLen := by unfold maxLen; omega
  have HB0 : Hid (Below w.heap.size w (w.alloc (tkO t))) := (Below.refl _ w).alloc (Nat.le_refl _) _
  have HR0 : Hid ((w.alloc (tkO t)).heap[w.heap.size]? = some (tkO t)) := heap_alloc_new _ _
  have HT := hide (ticketed_any a _ (h.below HB0.out))
  have HL := hide (fun w => longTicket_any t w hs hs2)
  rw [hl] at HL
  have HM := hide (fun w h => tkMake_any a key t w h hs hs2)
  have HMr := hide (fun w => refText_any key t w hs hs2)
  have P1 : PairOf a (errV a (tkMakeE key t)) (tkMakeE key t : Int) := ⟨_, tkMakeE_le key t, rfl, rfl⟩
  generalize errV a (tkMakeE key t) = mv at *
  generalize (tkMakeE key t : Int) = mz at *
  generalize tkMakeS key t = ms at *
  have HC := hide (fun w h => tkCheck_any a t w h hs hs2)
  have HCr := hide (fun w => refTk_any t w hs hs2)
  have P2 : PairOf a (errV a t.err) (t.err : Int) := ⟨_, t.err_le, rfl, rfl⟩
  generalize errV a t.err = cv at *
  generalize (t.err : Int) = cz at *
  have HG := hide (fun w h => good_any a t now w h hs hs2)
  have HGr := hide (fun w => refGood_any t now w hs hs2)
  have P3 : PairOf a (errV a (t.good now)) (t.good now : Int) := ⟨_, t.good_le now, rfl, rfl⟩
  generalize errV a (t.good now) = gv at *
  generalize (t.good now : Int) = gz at *
  have HO := hide (fun w h => tkOpen_any a key s w h)
  have HOr := hide (fun w => refOpen_any key s w hsm)
  have P4 : PairOf a (errV a (tkOpenE key s.data.toList)) (tkOpenE key s.data.toList : Int) := ⟨_, tkOpenE_le key _, rfl, rfl⟩
  generalize errV a (tkOpenE key s.data.toList) = ov at *
  generalize (tkOpenE key s.data.toList : Int) = oz at *
  generalize okT (tkOpenE key s.data.toList) (tkOf (Sl.lookW s.data.toList)) = ot at *
  have HLo := hide (fun w h => tkLook_any a s w h)
  have HLa := hide (fun w => lookAt_t s w hsm)
  have P5 : PairOf a (errV a (tkLookE s.data.toList)) (tkLookE s.data.toList : Int) := ⟨_, tkLookE_le _, rfl, rfl⟩
  have hll := lookE_le s.data.toList
  have el : tkLookE s.data.toList = Sl.lookE s.data.toList := by unfold tkLookE; rw [if_neg hlk]
  rw [okT_no _ _ (by rw [el]; exact hlk), el] at HLo
  rw [el] at P5
  have hlz : ((Sl.lookE s.data.toList : Int) == 0) = false := by rw [beq_eq_false_iff_ne]; omega
  have hlz2 : (0 : Int) < (Sl.lookE s.data.toList : Int) := by omega
  have hlz3 : (Sl.lookE s.data.toList : Int) ≤ 2 := by omega
  generalize okW (Sl.lookE s.data.toList) (Sl.lookW s.data.toList) = xs at *
  generalize errV a (Sl.lookE s.data.toList) = lv at *
  generalize (Sl.lookE s.data.toList : Int) = lz at *
  have HRn := hide (fun w h => renew_any a t now til2 ser2 w h hs hs2)
  have HRr := hide (fun w => refRenew_any t now til2 ser2 w hs hs2)
  have P6 : PairOf a (errV a (t.renewE now til2 ser2)) (t.renewE now til2 ser2 : Int) := ⟨_, t.renewE_le now til2 ser2, rfl, rfl⟩
  generalize errV a (t.renewE now til2 ser2) = nv at *
  generalize (t.renewE now til2 ser2 : Int) = nz at *
  generalize okT (t.renewE now til2 ser2) (t.anew now til2 ser2) = nt at *
  have HE := hide h
  clear h hs hs2 hl hll hlk el hsm
  rw [tk_val t] at HL HM HMr HC HCr HG HGr HRn HRr ⊢
  rw [tk_val ot] at HO HOr
  rw [tk_val nt] at HRn HRr
  rw [tk_val tk0] at HLo
  dsimp only [tk0] at HLo
  obtain ⟨who, dst, epoch, frm, til, ser⟩ := t
  obtain ⟨owho, odst, oepoch, ofrm, otil, oser⟩ := ot
  obtain ⟨nwho, ndst, nepoch, nfrm, ntil, nser⟩ := nt
  dsimp only at *
  go_enter Tryz.func4, Tryz.ntmps4
  go_wp2_with fail
  refine HT.out.mono ?_
  rintro e w1 ⟨rfl, hb⟩
  have HB1 : Hid (Below w.heap.size w w1) := HB0.out.trans (hb.mono HB0.out.size)
  have HR1 : Hid (w1.heap[w.heap.size]? = some (tkO ⟨who, dst, epoch, frm, til, ser⟩)) := row_kept HR0.out hb
  clear hb HB0 HR0 HT
  obtain ⟨hc0, hc1, hc2, hc3, hc4, hc5⟩ := tk_row HR1.out
  dsimp only at hc0 hc1 hc2 hc3 hc4 hc5
  go_wp2_with fail
  refine (HL.out _).mono ?_
  rintro e w2 ⟨rfl, hb⟩
  have HB2 : Hid (Below w.heap.size w w2) := HB1.out.trans (hb.mono HB1.out.size)
  have HR2 : Hid (w2.heap[w.heap.size]? = some (tkO ⟨who, dst, epoch, frm, til, ser⟩)) := row_kept HR1.out hb
  clear hb HB1 HL HR1 hc0 hc1 hc2 hc3 hc4 hc5
  obtain ⟨hc0, hc1, hc2, hc3, hc4, hc5⟩ := tk_row HR2.out
  dsimp only at hc0 hc1 hc2 hc3 hc4 hc5
  go_wp2_with fail
  refine (HM.out _ (HE.out.below HB2.out)).mono ?_
  rintro e w3 ⟨rfl, hb⟩
  have HB3 : Hid (Below w.heap.size w w3) := HB2.out.trans (hb.mono HB2.out.size)
  have HR3 : Hid (w3.heap[w.heap.size]? = some (tkO ⟨who, dst, epoch, frm, til, ser⟩)) := row_kept HR2.out hb
  clear hb HB2 HM HR2 hc0 hc1 hc2 hc3 hc4 hc5
  obtain ⟨hc0, hc1, hc2, hc3, hc4, hc5⟩ := tk_row HR3.out
  dsimp only at hc0 hc1 hc2 hc3 hc4 hc5
  go_wp2_with fail
  refine (HMr.out _).mono ?_
  rintro e w4 ⟨rfl, hb⟩
  have HB4 : Hid (Below w.heap.size w w4) := HB3.out.trans (hb.mono HB3.out.size)
  have HR4 : Hid (w4.heap[w.heap.size]? = some (tkO ⟨who, dst, epoch, frm, til, ser⟩)) := row_kept HR3.out hb
  clear hb HB3 HMr HR3 hc0 hc1 hc2 hc3 hc4 hc5
  obtain ⟨hc0, hc1, hc2, hc3, hc4, hc5⟩ := tk_row HR4.out
  dsimp only at hc0 hc1 hc2 hc3 hc4 hc5
  have HE4 := hide (HE.out.below HB4.out)
  have hgl : w.heap.size < w4.heap.size := row_lt HR4.out
  have z0 := fun q : BelowAt w4 => q.cell hc0 hgl
  have z1 := fun q : BelowAt w4 => q.cell hc1 hgl
  have z2 := fun q : BelowAt w4 => q.cell hc2 hgl
  have z3 := fun q : BelowAt w4 => q.cell hc3 hgl
  have z4 := fun q : BelowAt w4 => q.cell hc4 hgl
  have z5 := fun q : BelowAt w4 => q.cell hc5 hgl
  have HCq : Hid (∀ q : BelowAt w4, Calls Tryz.prog 15 #[.agg #[.string who, .string dst, .int .i64 epoch, .int .i64 frm, .int .i64 til, .int .i64 ser]] q.to fun e w'' => e = .returned cv ∧ ∃ r : BelowAt w4, w'' = r.to) := fun q => BelowAt.calls (HC.out q.to (HE4.out.below q.below).errs)
  have HCrq : Hid (∀ q : BelowAt w4, Calls Tryz.prog 16 #[.agg #[.string who, .string dst, .int .i64 epoch, .int .i64 frm, .int .i64 til, .int .i64 ser]] q.to fun e w'' => e = .returned (.int .i64 cz) ∧ ∃ r : BelowAt w4, w'' = r.to) := fun q => BelowAt.calls (HCr.out q.to)
  have HGq : Hid (∀ q : BelowAt w4, Calls Tryz.prog 12 #[.agg #[.string who, .string dst, .int .i64 epoch, .int .i64 frm, .int .i64 til, .int .i64 ser], .int .i64 now] q.to fun e w'' => e = .returned gv ∧ ∃ r : BelowAt w4, w'' = r.to) := fun q => BelowAt.calls (HG.out q.to (HE4.out.below q.below).errs)
  have HGrq : Hid (∀ q : BelowAt w4, Calls Tryz.prog 17 #[.agg #[.string who, .string dst, .int .i64 epoch, .int .i64 frm, .int .i64 til, .int .i64 ser], .int .i64 now] q.to fun e w'' => e = .returned (.int .i64 gz) ∧ ∃ r : BelowAt w4, w'' = r.to) := fun q => BelowAt.calls (HGr.out q.to)
  have HCod : Hid (∀ q : BelowAt w4, ∀ v z, PairOf a v z → Calls Tryz.prog 14 #[v, .int .i64 z] q.to fun e w'' => e = .returned (.bool true) ∧ ∃ r : BelowAt w4, w'' = r.to) := fun q v z hp => BelowAt.calls (coded_pair a v z hp q.to (HE4.out.below q.below).errs)
  have any1 : Nonempty (BelowAt w4) := BelowAt.any w4
  clear hc0 hc1 hc2 hc3 hc4 hc5 HC HCr HG HGr
  go_wp2_with fail
  refine wp_region_below (by kernel_rfl) (by kernel_rfl) ?_
  repeat (go_big_quiet_step (first | exact HCq.out _ | exact HCrq.out _ | exact HGq.out _ | exact HGrq.out _ | exact HCod.out _ _ _ (by first | exact P1 | exact P2 | exact P3)))
  refine wpQuiet_nil ?_
  intro _ hw'
  obtain ⟨pq, hw''⟩ := hw'
  subst hw''
  have HB5 : Hid (Below w.heap.size w pq.to) := HB4.out.trans (pq.below.mono HB4.out.size)
  have HR5 : Hid (pq.to.heap[w.heap.size]? = some (tkO ⟨who, dst, epoch, frm, til, ser⟩)) := (pq.below.block _ hgl).trans HR4.out
  clear z0 z1 z2 z3 z4 z5 HCq HCrq HGq HGrq HCod hgl HR4 HE4 P1 P2 P3
  generalize pq.to = w5 at *
  clear pq any1 HB4
  go_wp2_with fail
  refine (HO.out _ (HE.out.below HB5.out)).mono ?_
  rintro e w6 ⟨rfl, hb⟩
  have HB6 : Hid (Below w.heap.size w (w6.alloc (tkO ⟨owho, odst, oepoch, ofrm, otil, oser⟩))) := (HB5.out.trans (hb.mono HB5.out.size)).alloc (HB5.out.trans (hb.mono HB5.out.size)).size _
  have HR6 : Hid ((w6.alloc (tkO ⟨owho, odst, oepoch, ofrm, otil, oser⟩)).heap[w.heap.size]? = some (tkO ⟨who, dst, epoch, frm, til, ser⟩)) := row_pushed (row_kept HR5.out hb) _
  have HY6 : Hid ((w6.alloc (tkO ⟨owho, odst, oepoch, ofrm, otil, oser⟩)).heap[w6.heap.size]? = some (tkO ⟨owho, odst, oepoch, ofrm, otil, oser⟩)) := heap_alloc_new _ _
  have HO1 : Hid (w.heap.size < w6.heap.size) := row_lt (row_kept HR5.out hb)
  clear hb HB5 HO HR5
  go_wp2_with fail
  refine (HOr.out _).mono ?_
  rintro e w7 ⟨rfl, hb⟩
  have hst : TSt w ⟨who, dst, epoch, frm, til, ser⟩ ⟨owho, odst, oepoch, ofrm, otil, oser⟩ ⟨owho, odst, oepoch, ofrm, otil, oser⟩ w6.heap.size w7.heap.size (w7.alloc (tkO ⟨owho, odst, oepoch, ofrm, otil, oser⟩)) :=
    ⟨(HB6.out.trans (hb.mono HB6.out.size)).alloc (HB6.out.trans (hb.mono HB6.out.size)).size _, row_pushed (row_kept HR6.out hb) _, row_pushed (row_kept HY6.out hb) _, heap_alloc_new _ _, HO1.out, row_lt (row_kept HY6.out hb)⟩
  have HS7 := hide hst
  clear hb hst HB6 HR6 HY6 HO1 HOr
  have HCo : Hid (∀ W, Env a W → ∀ v z, PairOf a v z → Calls Tryz.prog 14 #[v, .int .i64 z] W fun e w' => e = .returned (.bool true) ∧ Below W.heap.size W w') := fun W hE v z hp => coded_pair a v z hp W hE.errs
  generalize w6.heap.size = gy at *
  go_wp2_with fail
  refine (HCo.out _ (HE.out.below HS7.out.below) _ _ P4).mono ?_
  rintro e w8 ⟨rfl, hb⟩
  have HS8 := hide (HS7.out.step hb)
  clear hb HS7 P4
  generalize w7.heap.size = gw at *
  obtain ⟨hd0, hd1, hd2, hd3, hd4, hd5⟩ := tk_row HS8.out.ry
  obtain ⟨he0, he1, he2, he3, he4, he5⟩ := tk_row HS8.out.rv
  dsimp only at hd0 hd1 hd2 hd3 hd4 hd5 he0 he1 he2 he3 he4 he5
  go_wp2_with fail
  refine (HLo.out _ (HE.out.below HS8.out.below)).mono ?_
  rintro e w9 ⟨rfl, hb⟩
  have HS9 := hide (HS8.out.step hb)
  clear hb HS8 HLo hd0 hd1 hd2 hd3 hd4 hd5 he0 he1 he2 he3 he4 he5
  obtain ⟨hd0, hd1, hd2, hd3, hd4, hd5⟩ := tk_row HS9.out.ry
  obtain ⟨hf0, hf1, hf2, hf3, hf4, hf5⟩ := row_frozen6 HS9.out.ry
  dsimp only at hd0 hd1 hd2 hd3 hd4 hd5
  have HS9b := hide (HS9.out.putY tk0)
  go_wp2_with fail
  refine (HLa.out (putT w9 gy tk0)).mono ?_
  rintro e w10 ⟨sl, nn, rfl, hx, hb⟩
  have HS10 := hide (HS9b.out.step hb)
  have HX10 := hide hx
  clear hb hx HS9 HS9b HLa hd0 hd1 hd2 hd3 hd4 hd5 hf0 hf1 hf2 hf3 hf4 hf5
  obtain ⟨he0, he1, he2, he3, he4, he5⟩ := tk_row HS10.out.rv
  obtain ⟨hf0, hf1, hf2, hf3, hf4, hf5⟩ := row_frozen6 HS10.out.rv
  dsimp only at he0 he1 he2 he3 he4 he5
  have HS12 := hide (HS10.out.putV tk0)
  go_wp2_with fail
  refine (HCo.out (putT w10 gw tk0) (HE.out.below HS12.out.below) _ _ P5).mono ?_
  rintro e w12 ⟨rfl, hb⟩
  have HS13 := hide (HS12.out.step hb)
  clear hb HS10 HX10 HS12 P5 he0 he1 he2 he3 he4 he5 hf0 hf1 hf2 hf3 hf4 hf5
  obtain ⟨hc0, hc1, hc2, hc3, hc4, hc5⟩ := tk_row HS13.out.r0
  obtain ⟨hd0, hd1, hd2, hd3, hd4, hd5⟩ := tk_row HS13.out.ry
  obtain ⟨he0, he1, he2, he3, he4, he5⟩ := tk_row HS13.out.rv
  dsimp only [tk0] at hc0 hc1 hc2 hc3 hc4 hc5 hd0 hd1 hd2 hd3 hd4 hd5 he0 he1 he2 he3 he4 he5
  go_wp2_with fail
  refine (HRn.out _ (HE.out.below HS13.out.below).errs).mono ?_
  rintro e w13 ⟨rfl, hb⟩
  have HS14 := hide (HS13.out.step hb)
  clear hb HS13 HRn hc0 hc1 hc2 hc3 hc4 hc5 hd0 hd1 hd2 hd3 hd4 hd5 he0 he1 he2 he3 he4 he5
  have HS15 := hide (HS14.out.putY ⟨nwho, ndst, nepoch, nfrm, ntil, nser⟩)
  obtain ⟨hc0, hc1, hc2, hc3, hc4, hc5⟩ := tk_row HS14.out.r0
  obtain ⟨hd0, hd1, hd2, hd3, hd4, hd5⟩ := tk_row HS14.out.ry
  obtain ⟨hf0, hf1, hf2, hf3, hf4, hf5⟩ := row_frozen6 HS14.out.ry
  have hgy : gy ≠ w.heap.size := by have := HS14.out.o1; omega
  have hgy2 : w.heap.size ≠ gy := fun e => hgy e.symm
  dsimp only [tk0] at hc0 hc1 hc2 hc3 hc4 hc5 hd0 hd1 hd2 hd3 hd4 hd5
  go_wp2_with fail
  refine (HRr.out (putT w13 gy ⟨nwho, ndst, nepoch, nfrm, ntil, nser⟩)).mono ?_
  rintro e w14 ⟨rfl, hb⟩
  have HS16 := hide (HS15.out.step hb)
  clear hb HS14 HS15 HRr hc0 hc1 hc2 hc3 hc4 hc5 hd0 hd1 hd2 hd3 hd4 hd5 hf0 hf1 hf2 hf3 hf4 hf5
  have HS17 := hide (HS16.out.putV ⟨nwho, ndst, nepoch, nfrm, ntil, nser⟩)
  obtain ⟨he0, he1, he2, he3, he4, he5⟩ := tk_row HS16.out.rv
  obtain ⟨hf0, hf1, hf2, hf3, hf4, hf5⟩ := row_frozen6 HS16.out.rv
  dsimp only [tk0] at he0 he1 he2 he3 he4 he5
  go_wp2_with fail
  refine (HCo.out (putT w14 gw ⟨nwho, ndst, nepoch, nfrm, ntil, nser⟩) (HE.out.below HS17.out.below) _ _ P6).mono ?_
  rintro e w15 ⟨rfl, hb⟩
  have HS18 := hide (HS17.out.step hb)
  clear hb HS16 HS17 P6 he0 he1 he2 he3 he4 he5 hf0 hf1 hf2 hf3 hf4 hf5
  obtain ⟨hd0, hd1, hd2, hd3, hd4, hd5⟩ := tk_row HS18.out.ry
  obtain ⟨he0, he1, he2, he3, he4, he5⟩ := tk_row HS18.out.rv
  dsimp only at hd0 hd1 hd2 hd3 hd4 hd5 he0 he1 he2 he3 he4 he5
  go_wp2
  go_ret
  exact ⟨rfl, HS18.out.below⟩

theorem ticketTells_walk (a : Nat → Addr) (key : Int) (t : Tk) (s : ByteArray) (now til2 ser2 : Int) (w : World) (h : Env a w) (hs : t.who.size ≤ maxLen) (hs2 : t.dst.size ≤ maxLen) (hz : s.size ≤ maxLen) :
    Calls Tryz.prog 4 #[.int .i64 key, t.val, .string s, .int .i64 now, .int .i64 til2, .int .i64 ser2] w fun e w' => e = .returned (.bool true) ∧ Below w.heap.size w w' := by
  by_cases hl : 20 < t.who.size ∨ 20 < t.dst.size
  · exact ticketTells_long a key t s now til2 ser2 w h hs hs2 hz (Or.inl (by unfold longT; rw [if_pos hl]))
  · have hl0 : longT t = 0 := by unfold longT; rw [if_neg hl]
    by_cases h4 : 400 < s.size
    · exact ticketTells_long a key t s now til2 ser2 w h hs hs2 hz (Or.inr ⟨hl0, h4⟩)
    · by_cases hlk : Sl.lookE s.data.toList = 0
      · exact ticketTells_look a key t s now til2 ser2 w h hs hs2 hl0 (by omega) hlk
      · exact ticketTells_nolook a key t s now til2 ser2 w h hs hs2 hl0 (by omega) hlk
theorem ticketTells_law (a : Nat → Addr) (key : Int) (t : Tk) (s : ByteArray) (now til2 ser2 : Int) (w : World) (h : Env a w) (_ : I64 key) (hs : t.who.size ≤ maxLen) (hs2 : t.dst.size ≤ maxLen) (hz : s.size ≤ maxLen) (_ : I64 now) (_ : I64 til2) (_ : I64 ser2) :
    Calls Tryz.prog 4 #[.int .i64 key, t.val, .string s, .int .i64 now, .int .i64 til2, .int .i64 ser2] w fun e w' => e = .returned (.bool true) ∧ Below w.heap.size w w' :=
  ticketTells_walk a key t s now til2 ser2 w h hs hs2 hz
end Go.Proofs.YtgagekcjdapkfabGreatDoor

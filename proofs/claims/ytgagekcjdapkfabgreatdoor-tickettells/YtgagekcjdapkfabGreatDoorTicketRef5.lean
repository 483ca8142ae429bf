/-
  What the document's answer's TicketOf and OpenTicket give, whole: of any slice of texts, of any key and text, the ticket, or an error's number.
-/
import Derived.Test.YtgagekcjdapkfabGreatDoorTicketRef4
namespace Go.Proofs.YtgagekcjdapkfabGreatDoor
open Go.RowKit Go.Extern.Stop Go.Stop Go.Extern

theorem tkOf7 (x0 x1 x2 x3 x4 x5 x6 : ByteArray) : tkOf (toLs [x0, x1, x2, x3, x4, x5, x6]) = ⟨x1, x2, (Sl.valL x3.data.toList : Int), (Sl.valL x4.data.toList : Int), (Sl.valL x5.data.toList : Int), (Sl.valL x6.data.toList : Int)⟩ := by
  show Tk.mk (Sl.ofL x1.data.toList) (Sl.ofL x2.data.toList) _ _ _ _ = _
  rw [Sl.ofL_toL, Sl.ofL_toL]
  rfl

theorem refTkOf_any (v : Value) (xs : List ByteArray) (w : World) (hv : TextsAt w v xs) (hs : ∀ x ∈ xs, x.size ≤ maxLen) :
    Calls Tryz.prog 20 #[v] w fun e w' => e = .returned (.tuple #[(okT (readE (toLs xs)) (tkOf (toLs xs))).val, .int .i64 (readE (toLs xs) : Int)]) ∧ Below w.heap.size w w' := by
  obtain ⟨ad, c, rfl, hc, hor⟩ := hv
  by_cases hn : xs.length = 7
  · obtain ⟨x0, x1, x2, x3, x4, x5, x6, rfl⟩ : ∃ x0 x1 x2 x3 x4 x5 x6, xs = [x0, x1, x2, x3, x4, x5, x6] := by
      match xs, hn with
      | [x0, x1, x2, x3, x4, x5, x6], _ => exact ⟨_, _, _, _, _, _, _, rfl⟩
    obtain ⟨b, o, rfl, hx⟩ : ∃ b o, ad = some ⟨b, o, none⟩ ∧ Texts w b o [x0, x1, x2, x3, x4, x5, x6] := by
      rcases hor with g | g
      · cases g
      · exact g
    refine refOf_nums b o c x0 x1 x2 x3 x4 x5 x6 w hx hs _ _ (fun k hk4 hno => ?_) (fun hall hk => ?_) (fun hall hk => ?_)
    · have e1 : readE (toLs [x0, x1, x2, x3, x4, x5, x6]) = 1 := by
        unfold readE
        rw [if_neg]
        intro hf
        unfold formW at hf
        obtain ⟨_, h36⟩ := Bool.and_eq_true_iff.1 hf
        obtain ⟨h35, g6⟩ := Bool.and_eq_true_iff.1 h36
        obtain ⟨h34, g5⟩ := Bool.and_eq_true_iff.1 h35
        obtain ⟨g3, g4⟩ := Bool.and_eq_true_iff.1 h34
        match k, hk4 with
        | 0, _ => exact absurd (hno.symm.trans g3) (by decide)
        | 1, _ => exact absurd (hno.symm.trans g4) (by decide)
        | 2, _ => exact absurd (hno.symm.trans g5) (by decide)
        | 3, _ => exact absurd (hno.symm.trans g6) (by decide)
      rw [e1]
      exact ⟨rfl, rfl⟩
    · have e1 : readE (toLs [x0, x1, x2, x3, x4, x5, x6]) = 1 := by
        unfold readE
        rw [if_neg]
        intro hf
        unfold formW at hf
        exact hk (of_decide_eq_true (Bool.and_eq_true_iff.1 (Bool.and_eq_true_iff.1 hf).1).2)
      rw [e1]
      exact ⟨rfl, rfl⟩
    · have e1 : readE (toLs [x0, x1, x2, x3, x4, x5, x6]) = (tkOf (toLs [x0, x1, x2, x3, x4, x5, x6])).err := by
        unfold readE
        rw [if_pos]
        unfold formW
        have f3 : Sl.numOk x3.data.toList = true := hall 0 (by decide)
        have f4 : Sl.numOk x4.data.toList = true := hall 1 (by decide)
        have f5 : Sl.numOk x5.data.toList = true := hall 2 (by decide)
        have f6 : Sl.numOk x6.data.toList = true := hall 3 (by decide)
        show (true && decide (x0.data.toList = tickL) && (Sl.numOk x3.data.toList && Sl.numOk x4.data.toList && Sl.numOk x5.data.toList && Sl.numOk x6.data.toList)) = true
        rw [f3, f4, f5, f6, decide_eq_true hk]
        rfl
      rw [e1]
      have hle := (tkOf (toLs [x0, x1, x2, x3, x4, x5, x6])).err_le
      refine ⟨?_, fun w => ?_⟩
      · by_cases h0 : (tkOf (toLs [x0, x1, x2, x3, x4, x5, x6])).err = 0
        · refine Or.inl ⟨by rw [h0]; rfl, ?_⟩
          rw [h0, okT_yes]
          exact tkOf7 x0 x1 x2 x3 x4 x5 x6
        · exact Or.inr ⟨by omega, by omega, okT_no _ _ h0⟩
      · have := refTk_any (tkOf (toLs [x0, x1, x2, x3, x4, x5, x6])) w (by rw [tkOf7]; exact hs x1 (by simp)) (by rw [tkOf7]; exact hs x2 (by simp))
        rw [tk_val, tkOf7] at this
        rw [tkOf7]
        exact this
  · have e1 : readE (toLs xs) = 1 := by
      unfold readE
      rw [if_neg]
      intro hf
      unfold formW at hf
      have := of_decide_eq_true (Bool.and_eq_true_iff.1 (Bool.and_eq_true_iff.1 hf).1).1
      rw [List.length_map] at this
      exact hn this
    rw [e1]
    exact refOf_len ad xs.length c w hn

/-- The words that go with an error's number, looked at. -/
theorem okW_small (l : List UInt8) (h : Sl.lookE l = 0) : ∀ x ∈ okW 0 (Sl.lookW l), x.size ≤ maxLen := fun x hx => by
  have hw := (Sl.wordsOk_iff _).1 (Sl.lookOk_words l (Sl.lookE_ok l h))
  obtain ⟨y, hy, rfl⟩ := List.mem_map.1 hx
  have := (Sl.word_len y (hw.2 y hy)).2
  rw [Sl.ofL_size]
  unfold maxLen; omega
theorem toLs_okW (ws : List (List UInt8)) : toLs (okW 0 ws) = ws := toLs_map ws
theorem refTkOf_look (l : List UInt8) (h : Sl.lookE l = 0) (v : Value) (w : World) (hv : TextsAt w v (okW 0 (Sl.lookW l))) :
    Calls Tryz.prog 20 #[v] w fun e w' => e = .returned (.tuple #[(okT (readE (Sl.lookW l)) (tkOf (Sl.lookW l))).val, .int .i64 (readE (Sl.lookW l) : Int)]) ∧ Below w.heap.size w w' := by
  have := refTkOf_any v (okW 0 (Sl.lookW l)) w hv (okW_small l h)
  rw [toLs_okW] at this
  exact this

set_option maxRecDepth 100000 in
set_option maxHeartbeats 2000000 in
theorem refOpen_any (key : Int) (s : ByteArray) (w : World) (hs : s.size ≤ maxLen) :
    Calls Tryz.prog 18 #[.int .i64 key, .string s] w fun e w' => e = .returned (.tuple #[(okT (tkOpenE key s.data.toList) (tkOf (Sl.lookW s.data.toList))).val, .int .i64 (tkOpenE key s.data.toList : Int)]) ∧ Below w.heap.size w w' := by
  have HB0 : Hid (Below w.heap.size w (w.alloc (tkO tk0))) := (Below.refl _ w).alloc (Nat.le_refl _) _
  have HR0 : Hid ((w.alloc (tkO tk0)).heap[w.heap.size]? = some (tkO tk0)) := heap_alloc_new _ _
  have HO := hide (unseal_t key s (w.alloc (tkO tk0)) hs)
  have hle := openE_le key s.data.toList
  by_cases h0 : Sl.openE key s.data.toList = 0
  · have e1 : tkOpenE key s.data.toList = readE (Sl.lookW s.data.toList) := by unfold tkOpenE; rw [if_pos h0]
    rw [e1]
    have HRd := hide (fun v w hv => refTkOf_look s.data.toList (((Sl.openE_iff key _).1 h0).2.1) v w hv)
    rw [h0] at HO
    generalize okT (readE (Sl.lookW s.data.toList)) (tkOf (Sl.lookW s.data.toList)) = r at *
    generalize (readE (Sl.lookW s.data.toList) : Int) = rv at *
    generalize okW 0 (Sl.lookW s.data.toList) = xs at *
    clear h0 e1 hle hs
    rw [tk_val] at HRd ⊢
    obtain ⟨who, dst, epoch, frm, til, ser⟩ := r
    dsimp only at *
    go_enter Tryz.func18, Tryz.ntmps18
    go_wp2_with fail
    refine HO.out.mono ?_
    rintro e w1 ⟨sl, rfl, hx, hb⟩
    have HB1 : Hid (Below w.heap.size w w1) := HB0.out.trans (hb.mono HB0.out.size)
    have HT1 : Hid (w1.heap[w.heap.size]? = some (tkO tk0)) := row_kept HR0.out hb
    have HRd1 := hide (HRd.out sl w1 hx)
    clear hb hx HB0 HO HR0 HRd
    go_wp2_with fail
    refine HRd1.out.mono ?_
    rintro e w2 ⟨rfl, hb⟩
    have HB2 : Hid (Below w.heap.size w w2) := HB1.out.trans (hb.mono HB1.out.size)
    have HT2 : Hid (w2.heap[w.heap.size]? = some (tkO tk0)) := row_kept HT1.out hb
    clear hb HB1 HT1 HRd1
    obtain ⟨hd0, hd1, hd2, hd3, hd4, hd5⟩ := tk_row HT2.out
    obtain ⟨hf0, hf1, hf2, hf3, hf4, hf5⟩ := row_frozen6 HT2.out
    dsimp only [tk0] at hd0 hd1 hd2 hd3 hd4 hd5
    go_wp2
    refine tkEnd rfl w.heap.size ⟨who, dst, epoch, frm, til, ser⟩ rfl (row_set6 HT2.out _ _ _ _ _ _) rfl ?_
    exact ⟨rfl, below_set6 HB2.out (Nat.le_refl _) _ _ _ _ _ _⟩
  · have e1 : tkOpenE key s.data.toList = Sl.openE key s.data.toList := by unfold tkOpenE; rw [if_neg h0]
    rw [e1, okT_no _ _ h0]
    have hz : (0 : Int) < (Sl.openE key s.data.toList : Int) := by omega
    have hz2 : (Sl.openE key s.data.toList : Int) ≤ 16 := by omega
    generalize okW (Sl.openE key s.data.toList) (Sl.lookW s.data.toList) = xs at *
    generalize (Sl.openE key s.data.toList : Int) = z at *
    clear h0 e1 hle hs
    go_enter Tryz.func18, Tryz.ntmps18
    go_wp2_with fail
    refine HO.out.mono ?_
    rintro e w1 ⟨sl, rfl, hx, hb⟩
    have HB1 : Hid (Below w.heap.size w w1) := HB0.out.trans (hb.mono HB0.out.size)
    have HT1 : Hid (w1.heap[w.heap.size]? = some (tkO tk0)) := row_kept HR0.out hb
    clear hb hx HB0 HO HR0
    obtain ⟨hd0, hd1, hd2, hd3, hd4, hd5⟩ := tk_row HT1.out
    obtain ⟨hf0, hf1, hf2, hf3, hf4, hf5⟩ := row_frozen6 HT1.out
    dsimp only [tk0] at hd0 hd1 hd2 hd3 hd4 hd5
    go_wp2
    refine tkEnd rfl w.heap.size tk0 rfl (row_set6 HT1.out _ _ _ _ _ _) rfl ?_
    exact ⟨rfl, below_set6 HB1.out (Nat.le_refl _) _ _ _ _ _ _⟩
end Go.Proofs.YtgagekcjdapkfabGreatDoor

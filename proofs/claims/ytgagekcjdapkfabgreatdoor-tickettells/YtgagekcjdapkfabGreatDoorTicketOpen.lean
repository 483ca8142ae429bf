/-
  What package ticket's Make, Open and Look give: the sealed text of a ticket, the ticket of a sealed text, or the error that the document names; for every key, ticket and text.
-/
import Derived.Test.YtgagekcjdapkfabGreatDoorTicketRead2
import Derived.Test.YtgagekcjdapkfabGreatDoorSealMake
namespace Go.Proofs.YtgagekcjdapkfabGreatDoor
open Go.RowKit Go.Extern.Stop Go.Stop Go.Extern

/-- Make's error and text. -/
def tkMakeE (key : Int) (t : Tk) : Nat := if 1 ≤ key ∧ key ≤ 1000000006 then t.err else 10
def tkMakeS (key : Int) (t : Tk) : ByteArray := if tkMakeE key t = 0 then Sl.ofL (Sl.sealL key t.words) else ⟨#[]⟩
theorem tkMakeE_le (key : Int) (t : Tk) : tkMakeE key t ≤ 16 := by have := t.err_le; unfold tkMakeE; split <;> omega
/-- Open's and Look's errors. -/
def tkOpenE (key : Int) (l : List UInt8) : Nat := if Sl.openE key l = 0 then readE (Sl.lookW l) else Sl.openE key l
def tkLookE (l : List UInt8) : Nat := if Sl.lookE l = 0 then readE (Sl.lookW l) else Sl.lookE l

set_option maxRecDepth 100000 in
set_option maxHeartbeats 2000000 in
theorem tkMake_key (a : Nat → Addr) (key : Int) (t : Tk) (w : World) (h : Env a w) (hk : ¬ (1 ≤ key ∧ key ≤ 1000000006)) :
    Calls Tryz.prog 8 #[.int .i64 key, t.val] w fun e w' => e = .returned (.tuple #[.string ⟨#[]⟩, eV (a 9)]) ∧ Below w.heap.size w w' := by
  have HB0 : Hid (Below w.heap.size w (w.alloc (tkO t))) := (Below.refl _ w).alloc (Nat.le_refl _) _
  have HK := hide (of_any a key ⟨#[]⟩ _ (h.errs.below HB0.out) (by decide))
  rw [key_more, if_neg hk, show errV a 10 = eV (a 9) from rfl] at HK
  generalize moreN key key _ = m at HK
  clear h hk
  rw [tk_val]
  obtain ⟨who, dst, epoch, frm, til, ser⟩ := t
  dsimp only at *
  go_enter Tryz.func8, Tryz.ntmps8
  go_wp2_with fail
  refine HK.out.mono ?_
  rintro e w1 ⟨rfl, hb⟩
  have HB1 : Hid (Below w.heap.size w w1) := HB0.out.trans (hb.mono HB0.out.size)
  clear hb HB0 HK
  go_wp2
  go_ret2
  exact ⟨rfl, HB1.out⟩

set_option maxRecDepth 100000 in
set_option maxHeartbeats 2000000 in
theorem tkMake_err (a : Nat → Addr) (key : Int) (t : Tk) (w : World) (h : Env a w) (hs : t.who.size ≤ maxLen) (hs2 : t.dst.size ≤ maxLen) (hk : 1 ≤ key ∧ key ≤ 1000000006) (h0 : t.err ≠ 0) :
    Calls Tryz.prog 8 #[.int .i64 key, t.val] w fun e w' => e = .returned (.tuple #[.string ⟨#[]⟩, errV a t.err]) ∧ Below w.heap.size w w' := by
  have HB0 : Hid (Below w.heap.size w (w.alloc (tkO t))) := (Below.refl _ w).alloc (Nat.le_refl _) _
  have HR0 : Hid ((w.alloc (tkO t)).heap[w.heap.size]? = some (tkO t)) := heap_alloc_new _ _
  have HK := hide (of_any a key ⟨#[]⟩ _ (h.errs.below HB0.out) (by decide))
  rw [key_more, if_pos hk, show errV a 0 = Value.nilIface from rfl] at HK
  generalize moreN key key _ = m at HK
  have HC := hide (fun w h => tkCheck_any a t w h hs hs2)
  have HE := hide h
  have e1 : errV a t.err = eV (a (t.err - 1)) := by unfold errV; rw [if_neg h0]
  rw [e1] at HC ⊢
  generalize a (t.err - 1) = ad at *
  clear h hk hs hs2 h0 e1
  rw [tk_val] at HC ⊢
  obtain ⟨who, dst, epoch, frm, til, ser⟩ := t
  dsimp only at *
  go_enter Tryz.func8, Tryz.ntmps8
  go_wp2_with fail
  refine HK.out.mono ?_
  rintro e w1 ⟨rfl, hb⟩
  have HB1 : Hid (Below w.heap.size w w1) := HB0.out.trans (hb.mono HB0.out.size)
  have HT0 : Hid (w1.heap[w.heap.size]? = some (tkO ⟨who, dst, epoch, frm, til, ser⟩)) := by show _ = _; rw [hb.block _ (by simp)]; exact HR0.out
  obtain ⟨hc0, hc1, hc2, hc3, hc4, hc5⟩ := tk_row HT0.out
  dsimp only at hc0 hc1 hc2 hc3 hc4 hc5
  clear hb HB0 HK HR0 HT0
  go_wp2_with fail
  refine (HC.out _ (HE.out.errs.below HB1.out)).mono ?_
  rintro e w2 ⟨rfl, hb⟩
  have HB2 : Hid (Below w.heap.size w w2) := HB1.out.trans (hb.mono HB1.out.size)
  clear hb HB1 HC HE hc0 hc1 hc2 hc3 hc4 hc5
  go_wp2
  go_ret2
  exact ⟨rfl, HB2.out⟩

set_option maxRecDepth 100000 in
set_option maxHeartbeats 2000000 in
theorem tkMake_ok (a : Nat → Addr) (key : Int) (t : Tk) (w : World) (h : Env a w) (hs : t.who.size ≤ maxLen) (hs2 : t.dst.size ≤ maxLen) (hk : 1 ≤ key ∧ key ≤ 1000000006) (h0 : t.err = 0) :
    Calls Tryz.prog 8 #[.int .i64 key, t.val] w fun e w' => e = .returned (.tuple #[.string (Sl.ofL (Sl.sealL key t.words)), .nilIface]) ∧ Below w.heap.size w w' := by
  have HB0 : Hid (Below w.heap.size w (w.alloc (tkO t))) := (Below.refl _ w).alloc (Nat.le_refl _) _
  have HR0 : Hid ((w.alloc (tkO t)).heap[w.heap.size]? = some (tkO t)) := heap_alloc_new _ _
  have HK := hide (of_any a key ⟨#[]⟩ _ (h.errs.below HB0.out) (by decide))
  rw [key_more, if_pos hk, show errV a 0 = Value.nilIface from rfl] at HK
  generalize moreN key key _ = m at HK
  have HC := hide (fun w h => tkCheck_any a t w h hs hs2)
  rw [h0, show errV a 0 = Value.nilIface from rfl] at HC
  have HE := hide h
  have HW := hide (fun w h => words_any a t w h h0)
  have hml : (t.words.map Sl.ofL).map (·.data.toList) = t.words := by
    rw [List.map_map]
    conv => rhs; rw [← List.map_id t.words]
    exact List.map_congr_left fun l _ => rfl
  have HM : Hid (∀ b w, Env a w → Texts w b 0 (t.words.map Sl.ofL) → Calls Tryz.prog 43 #[.int .i64 key, .slice (some ⟨b, 0, none⟩) 7 7] w fun e w' => e = .returned (.tuple #[.string (Sl.ofL (Sl.sealL key t.words)), .nilIface]) ∧ Below w.heap.size w w') := fun b w h hx => by
    have := make_ok a key b 0 7 7 (t.words.map Sl.ofL) w h hk (Nat.le_refl _) hx rfl (by rw [hml]; exact t.words_ok h0)
    rw [hml] at this
    exact this
  clear h hk hs hs2 h0 hml
  generalize Sl.ofL (Sl.sealL key t.words) = res at *
  generalize t.words.map Sl.ofL = ws at *
  rw [tk_val] at HC HW ⊢
  obtain ⟨who, dst, epoch, frm, til, ser⟩ := t
  dsimp only at *
  go_enter Tryz.func8, Tryz.ntmps8
  go_wp2_with fail
  refine HK.out.mono ?_
  rintro e w1 ⟨rfl, hb⟩
  have HB1 : Hid (Below w.heap.size w w1) := HB0.out.trans (hb.mono HB0.out.size)
  have HT0 : Hid (w1.heap[w.heap.size]? = some (tkO ⟨who, dst, epoch, frm, til, ser⟩)) := by show _ = _; rw [hb.block _ (by simp)]; exact HR0.out
  obtain ⟨hc0, hc1, hc2, hc3, hc4, hc5⟩ := tk_row HT0.out
  dsimp only at hc0 hc1 hc2 hc3 hc4 hc5
  clear hb HB0 HK HR0
  go_wp2_with fail
  refine (HC.out _ (HE.out.errs.below HB1.out)).mono ?_
  rintro e w2 ⟨rfl, hb⟩
  have HB2 : Hid (Below w.heap.size w w2) := HB1.out.trans (hb.mono HB1.out.size)
  have HT2 : Hid (w2.heap[w.heap.size]? = some (tkO ⟨who, dst, epoch, frm, til, ser⟩)) := by show _ = _; rw [hb.block _ (row_lt HT0.out)]; exact HT0.out
  clear hb HB1 HC hc0 hc1 hc2 hc3 hc4 hc5 HT0
  obtain ⟨hc0, hc1, hc2, hc3, hc4, hc5⟩ := tk_row HT2.out
  dsimp only at hc0 hc1 hc2 hc3 hc4 hc5
  clear HT2
  go_wp2_with fail
  refine (HW.out _ (HE.out.below HB2.out)).mono ?_
  rintro e w3 ⟨b, hx, rfl, hb⟩
  have HB3 : Hid (Below w.heap.size w w3) := HB2.out.trans (hb.mono HB2.out.size)
  have HM3 := hide (HM.out b w3 (HE.out.below HB3.out) hx)
  clear hb hx HB2 HW HE HM hc0 hc1 hc2 hc3 hc4 hc5
  go_wp2_with fail
  refine HM3.out.mono ?_
  rintro e w4 ⟨rfl, hb⟩
  have HB4 : Hid (Below w.heap.size w w4) := HB3.out.trans (hb.mono HB3.out.size)
  clear hb HB3 HM3
  go_wp2
  go_ret2
  exact ⟨rfl, HB4.out⟩

theorem tkMake_any (a : Nat → Addr) (key : Int) (t : Tk) (w : World) (h : Env a w) (hs : t.who.size ≤ maxLen) (hs2 : t.dst.size ≤ maxLen) :
    Calls Tryz.prog 8 #[.int .i64 key, t.val] w fun e w' => e = .returned (.tuple #[.string (tkMakeS key t), errV a (tkMakeE key t)]) ∧ Below w.heap.size w w' := by
  unfold tkMakeS
  by_cases hk : 1 ≤ key ∧ key ≤ 1000000006
  · rw [show tkMakeE key t = t.err by unfold tkMakeE; rw [if_pos hk]]
    by_cases h0 : t.err = 0
    · rw [if_pos h0, h0]
      exact tkMake_ok a key t w h hs hs2 hk h0
    · rw [if_neg h0]
      exact tkMake_err a key t w h hs hs2 hk h0
  · rw [show tkMakeE key t = 10 by unfold tkMakeE; rw [if_neg hk]]
    exact tkMake_key a key t w h hk

set_option maxRecDepth 100000 in
set_option maxHeartbeats 2000000 in
theorem tkOpen_any (a : Nat → Addr) (key : Int) (s : ByteArray) (w : World) (h : Env a w) :
    Calls Tryz.prog 9 #[.int .i64 key, .string s] w fun e w' => e = .returned (.tuple #[(okT (tkOpenE key s.data.toList) (tkOf (Sl.lookW s.data.toList))).val, errV a (tkOpenE key s.data.toList)]) ∧ Below w.heap.size w w' := by
  have HB0 : Hid (Below w.heap.size w (w.alloc (tkO tk0))) := (Below.refl _ w).alloc (Nat.le_refl _) _
  have HR0 : Hid ((w.alloc (tkO tk0)).heap[w.heap.size]? = some (tkO tk0)) := heap_alloc_new _ _
  have HO := hide (open_any a key s _ (h.below HB0.out))
  have HE := hide h
  by_cases h0 : Sl.openE key s.data.toList = 0
  · have e1 : tkOpenE key s.data.toList = readE (Sl.lookW s.data.toList) := by unfold tkOpenE; rw [if_pos h0]
    rw [e1]
    have HRd := hide (fun b w h hx => read_look a s.data.toList b w h (((Sl.openE_iff key _).1 h0).2.1) hx)
    rw [h0] at HO
    generalize okT (readE (Sl.lookW s.data.toList)) (tkOf (Sl.lookW s.data.toList)) = r at *
    generalize errV a (readE (Sl.lookW s.data.toList)) = rv at *
    clear h h0 e1
    generalize Sl.lookW s.data.toList = ws at *
    rw [tk_val] at HRd ⊢
    obtain ⟨who, dst, epoch, frm, til, ser⟩ := r
    dsimp only at *
    go_enter Tryz.func9, Tryz.ntmps9
    go_wp2_with fail
    refine HO.out.mono ?_
    rintro e w1 ⟨hb, hp⟩
    unfold WordsPost at hp
    rw [if_pos rfl] at hp
    obtain ⟨b, hx, rfl⟩ := hp
    have HB1 : Hid (Below w.heap.size w w1) := HB0.out.trans (hb.mono HB0.out.size)
    have HT1 : Hid (w1.heap[w.heap.size]? = some (tkO tk0)) := by show _ = _; rw [hb.block _ (by simp)]; exact HR0.out
    have HRd1 := hide (HRd.out b w1 (HE.out.below HB1.out) hx)
    clear hb hx HB0 HO HR0 HE HRd
    generalize ws.length = n at *
    go_wp2_with fail
    refine HRd1.out.mono ?_
    rintro e w2 ⟨rfl, hb⟩
    have HB2 : Hid (Below w.heap.size w w2) := HB1.out.trans (hb.mono HB1.out.size)
    have HT2 : Hid (w2.heap[w.heap.size]? = some (tkO tk0)) := by show _ = _; rw [hb.block _ (row_lt HT1.out)]; exact HT1.out
    clear hb HB1 HT1 HRd1
    obtain ⟨hd0, hd1, hd2, hd3, hd4, hd5⟩ := tk_row HT2.out
    obtain ⟨hf0, hf1, hf2, hf3, hf4, hf5⟩ := row_frozen6 HT2.out
    dsimp only [tk0] at hd0 hd1 hd2 hd3 hd4 hd5
    go_wp2
    refine tkEnd rfl w.heap.size ⟨who, dst, epoch, frm, til, ser⟩ rfl (row_set6 HT2.out _ _ _ _ _ _) rfl ?_
    exact ⟨rfl, below_set6 HB2.out (Nat.le_refl _) _ _ _ _ _ _⟩
  · have e1 : tkOpenE key s.data.toList = Sl.openE key s.data.toList := by unfold tkOpenE; rw [if_neg h0]
    rw [e1, okT_no _ _ h0, errV_posS a _ h0]
    have HO2 : Hid (Calls Tryz.prog 45 #[.int .i64 key, .string s] (w.alloc (tkO tk0)) fun e w' => e = .returned (.tuple #[.slice none 0 0, eV (a (Sl.openE key s.data.toList - 1))]) ∧ Below (w.alloc (tkO tk0)).heap.size (w.alloc (tkO tk0)) w') := HO.out.mono fun e w' ⟨hb, hp⟩ => by
      unfold WordsPost at hp
      rw [if_neg h0, errV_posS a _ h0] at hp
      exact ⟨hp, hb⟩
    generalize a (Sl.openE key s.data.toList - 1) = ad at *
    clear h h0 e1 HO HE
    go_enter Tryz.func9, Tryz.ntmps9
    go_wp2_with fail
    refine HO2.out.mono ?_
    rintro e w1 ⟨rfl, hb⟩
    have HB1 : Hid (Below w.heap.size w w1) := HB0.out.trans (hb.mono HB0.out.size)
    have HT1 : Hid (w1.heap[w.heap.size]? = some (tkO tk0)) := by show _ = _; rw [hb.block _ (by simp)]; exact HR0.out
    clear hb HB0 HO2 HR0
    obtain ⟨hd0, hd1, hd2, hd3, hd4, hd5⟩ := tk_row HT1.out
    obtain ⟨hf0, hf1, hf2, hf3, hf4, hf5⟩ := row_frozen6 HT1.out
    dsimp only [tk0] at hd0 hd1 hd2 hd3 hd4 hd5
    go_wp2
    refine tkEnd rfl w.heap.size tk0 rfl (row_set6 HT1.out _ _ _ _ _ _) rfl ?_
    exact ⟨rfl, below_set6 HB1.out (Nat.le_refl _) _ _ _ _ _ _⟩

set_option maxRecDepth 100000 in
set_option maxHeartbeats 2000000 in
theorem tkLook_any (a : Nat → Addr) (s : ByteArray) (w : World) (h : Env a w) :
    Calls Tryz.prog 10 #[.string s] w fun e w' => e = .returned (.tuple #[(okT (tkLookE s.data.toList) (tkOf (Sl.lookW s.data.toList))).val, errV a (tkLookE s.data.toList)]) ∧ Below w.heap.size w w' := by
  have HB0 : Hid (Below w.heap.size w (w.alloc (tkO tk0))) := (Below.refl _ w).alloc (Nat.le_refl _) _
  have HR0 : Hid ((w.alloc (tkO tk0)).heap[w.heap.size]? = some (tkO tk0)) := heap_alloc_new _ _
  have HO := hide (look_any a s _ (h.below HB0.out))
  have HE := hide h
  by_cases h0 : Sl.lookE s.data.toList = 0
  · have e1 : tkLookE s.data.toList = readE (Sl.lookW s.data.toList) := by unfold tkLookE; rw [if_pos h0]
    rw [e1]
    have HRd := hide (fun b w h hx => read_look a s.data.toList b w h h0 hx)
    rw [h0] at HO
    generalize okT (readE (Sl.lookW s.data.toList)) (tkOf (Sl.lookW s.data.toList)) = r at *
    generalize errV a (readE (Sl.lookW s.data.toList)) = rv at *
    clear h h0 e1
    generalize Sl.lookW s.data.toList = ws at *
    rw [tk_val] at HRd ⊢
    obtain ⟨who, dst, epoch, frm, til, ser⟩ := r
    dsimp only at *
    go_enter Tryz.func10, Tryz.ntmps10
    go_wp2_with fail
    refine HO.out.mono ?_
    rintro e w1 ⟨hb, hp⟩
    unfold WordsPost at hp
    rw [if_pos rfl] at hp
    obtain ⟨b, hx, rfl⟩ := hp
    have HB1 : Hid (Below w.heap.size w w1) := HB0.out.trans (hb.mono HB0.out.size)
    have HT1 : Hid (w1.heap[w.heap.size]? = some (tkO tk0)) := by show _ = _; rw [hb.block _ (by simp)]; exact HR0.out
    have HRd1 := hide (HRd.out b w1 (HE.out.below HB1.out) hx)
    clear hb hx HB0 HO HR0 HE HRd
    generalize ws.length = n at *
    go_wp2_with fail
    refine HRd1.out.mono ?_
    rintro e w2 ⟨rfl, hb⟩
    have HB2 : Hid (Below w.heap.size w w2) := HB1.out.trans (hb.mono HB1.out.size)
    have HT2 : Hid (w2.heap[w.heap.size]? = some (tkO tk0)) := by show _ = _; rw [hb.block _ (row_lt HT1.out)]; exact HT1.out
    clear hb HB1 HT1 HRd1
    obtain ⟨hd0, hd1, hd2, hd3, hd4, hd5⟩ := tk_row HT2.out
    obtain ⟨hf0, hf1, hf2, hf3, hf4, hf5⟩ := row_frozen6 HT2.out
    dsimp only [tk0] at hd0 hd1 hd2 hd3 hd4 hd5
    go_wp2
    refine tkEnd rfl w.heap.size ⟨who, dst, epoch, frm, til, ser⟩ rfl (row_set6 HT2.out _ _ _ _ _ _) rfl ?_
    exact ⟨rfl, below_set6 HB2.out (Nat.le_refl _) _ _ _ _ _ _⟩
  · have e1 : tkLookE s.data.toList = Sl.lookE s.data.toList := by unfold tkLookE; rw [if_neg h0]
    rw [e1, okT_no _ _ h0, errV_posS a _ h0]
    have HO2 : Hid (Calls Tryz.prog 47 #[.string s] (w.alloc (tkO tk0)) fun e w' => e = .returned (.tuple #[.slice none 0 0, eV (a (Sl.lookE s.data.toList - 1))]) ∧ Below (w.alloc (tkO tk0)).heap.size (w.alloc (tkO tk0)) w') := HO.out.mono fun e w' ⟨hb, hp⟩ => by
      unfold WordsPost at hp
      rw [if_neg h0, errV_posS a _ h0] at hp
      exact ⟨hp, hb⟩
    generalize a (Sl.lookE s.data.toList - 1) = ad at *
    clear h h0 e1 HO HE
    go_enter Tryz.func10, Tryz.ntmps10
    go_wp2_with fail
    refine HO2.out.mono ?_
    rintro e w1 ⟨rfl, hb⟩
    have HB1 : Hid (Below w.heap.size w w1) := HB0.out.trans (hb.mono HB0.out.size)
    have HT1 : Hid (w1.heap[w.heap.size]? = some (tkO tk0)) := by show _ = _; rw [hb.block _ (by simp)]; exact HR0.out
    clear hb HB0 HO2 HR0
    obtain ⟨hd0, hd1, hd2, hd3, hd4, hd5⟩ := tk_row HT1.out
    obtain ⟨hf0, hf1, hf2, hf3, hf4, hf5⟩ := row_frozen6 HT1.out
    dsimp only [tk0] at hd0 hd1 hd2 hd3 hd4 hd5
    go_wp2
    refine tkEnd rfl w.heap.size tk0 rfl (row_set6 HT1.out _ _ _ _ _ _) rfl ?_
    exact ⟨rfl, below_set6 HB1.out (Nat.le_refl _) _ _ _ _ _ _⟩
end Go.Proofs.YtgagekcjdapkfabGreatDoor

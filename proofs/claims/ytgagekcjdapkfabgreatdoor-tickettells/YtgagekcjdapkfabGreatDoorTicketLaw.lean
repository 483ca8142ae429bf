/-
  What the statements' helpers LongTicket and ticketed give; and that a ticket is opened, and looked at, as it was made.
-/
import Derived.Test.YtgagekcjdapkfabGreatDoorTicketOpen
namespace Go.Proofs.YtgagekcjdapkfabGreatDoor
open Go.RowKit Go.Extern.Stop Go.Stop Go.Extern

/-- A ticket is opened as it was made, and looked at without a key. -/
theorem tk_back (key : Int) (hk : 1 ≤ key ∧ key ≤ 1000000006) (t : Tk) (h : t.err = 0) : tkOpenE key (Sl.sealL key t.words) = 0 ∧ tkLookE (Sl.sealL key t.words) = 0 ∧ tkOf (Sl.lookW (Sl.sealL key t.words)) = t := by
  obtain ⟨h1, _, h3, h4, _⟩ := Sl.seal_look key hk t.words (t.words_ok h)
  obtain ⟨r1, r2⟩ := t.words_read h
  refine ⟨?_, ?_, by rw [h1, r2]⟩
  · unfold tkOpenE; rw [if_pos h4, h1, r1]
  · unfold tkLookE; rw [if_pos h3, h1, r1]
theorem tkOpen_back (a : Nat → Addr) (key : Int) (hk : 1 ≤ key ∧ key ≤ 1000000006) (t : Tk) (h : t.err = 0) (w : World) (hE : Env a w) :
    Calls Tryz.prog 9 #[.int .i64 key, .string (Sl.ofL (Sl.sealL key t.words))] w fun e w' => e = .returned (.tuple #[t.val, .nilIface]) ∧ Below w.heap.size w w' := by
  obtain ⟨h1, _, h3⟩ := tk_back key hk t h
  have := tkOpen_any a key (Sl.ofL (Sl.sealL key t.words)) w hE
  rw [Sl.toL_ofL, h1, h3] at this
  exact this
theorem tkLook_back (a : Nat → Addr) (key : Int) (hk : 1 ≤ key ∧ key ≤ 1000000006) (t : Tk) (h : t.err = 0) (w : World) (hE : Env a w) :
    Calls Tryz.prog 10 #[.string (Sl.ofL (Sl.sealL key t.words))] w fun e w' => e = .returned (.tuple #[t.val, .nilIface]) ∧ Below w.heap.size w w' := by
  obtain ⟨_, h2, h3⟩ := tk_back key hk t h
  have := tkLook_any a (Sl.ofL (Sl.sealL key t.words)) w hE
  rw [Sl.toL_ofL, h2, h3] at this
  exact this

/-- Too long for a statement? -/
def longT (t : Tk) : Int := if 20 < t.who.size ∨ 20 < t.dst.size then 1 else 0
set_option maxRecDepth 100000 in
set_option maxHeartbeats 1000000 in
theorem longTicket_any (t : Tk) (w : World) (hs : t.who.size ≤ maxLen) (hs2 : t.dst.size ≤ maxLen) :
    Calls Tryz.prog 7 #[t.val] w fun e w' => e = .returned (.int .i64 (longT t)) ∧ Below w.heap.size w w' := by
  have hcase : (20 < t.who.size ∧ longT t = 1) ∨ (¬ 20 < t.who.size ∧ 20 < t.dst.size ∧ longT t = 1) ∨ (¬ 20 < t.who.size ∧ ¬ 20 < t.dst.size ∧ longT t = 0) := by
    unfold longT
    by_cases g1 : 20 < t.who.size
    · exact Or.inl ⟨g1, by rw [if_pos (Or.inl g1)]⟩
    · by_cases g2 : 20 < t.dst.size
      · exact Or.inr (Or.inl ⟨g1, g2, by rw [if_pos (Or.inr g2)]⟩)
      · exact Or.inr (Or.inr ⟨g1, g2, by rw [if_neg (fun h => h.elim g1 g2)]⟩)
  generalize longT t = r at hcase ⊢
  have HB0 : Hid (Below w.heap.size w (w.alloc (tkO t))) := (Below.refl _ w).alloc (Nat.le_refl _) _
  rw [tk_val]
  obtain ⟨who, dst, epoch, frm, til, ser⟩ := t
  unfold maxLen at hs hs2
  dsimp only at *
  rcases hcase with ⟨g, rfl⟩ | ⟨g, g2, rfl⟩ | ⟨g, g2, rfl⟩
  all_goals
    go_enter Tryz.func7, Tryz.ntmps7
    go_wp2
    go_ret
    exact ⟨rfl, HB0.out⟩

/-- The ticket of the closed fact. -/
def tkA : Tk := ⟨⟨#[97, 110, 110]⟩, ⟨#[100, 111, 111, 114]⟩, 1, 0, 9, 1⟩
theorem tkA_err : tkA.err = 0 := by decide
theorem tkA_8 : tkA.good 8 = 0 := by decide
theorem tkA_9 : tkA.good 9 = 12 := by decide

set_option maxRecDepth 100000 in
set_option maxHeartbeats 4000000 in
theorem ticketed_any (a : Nat → Addr) (w : World) (h : Env a w) :
    Calls Tryz.prog 6 #[] w fun e w' => e = .returned (.bool true) ∧ Below w.heap.size w w' := by
  have HB0 : Hid (Below w.heap.size w (w.alloc (tkO tkA))) := (Below.refl _ w).alloc (Nat.le_refl _) _
  have HR0 : Hid ((w.alloc (tkO tkA)).heap[w.heap.size]? = some (tkO tkA)) := heap_alloc_new _ _
  have HM := hide (fun w h => tkMake_ok a 5 tkA w h (by decide) (by decide) (by decide) tkA_err)
  have HO := hide (fun w h => tkOpen_back a 5 (by decide) tkA tkA_err w h)
  have HG8 := hide (fun w h => good_any a tkA 8 w h (by decide) (by decide))
  rw [tkA_8, show errV a 0 = Value.nilIface from rfl] at HG8
  have HG9 := hide (fun w h => good_any a tkA 9 w h (by decide) (by decide))
  rw [tkA_9, show errV a 12 = eV (a 11) from rfl] at HG9
  have HE := hide h
  clear h
  generalize Sl.ofL (Sl.sealL 5 tkA.words) = s at *
  rw [tk_val] at HM HO HG8 HG9
  dsimp only [tkA] at *
  go_enter Tryz.func6, Tryz.ntmps6
  go_wp2_with fail
  refine (HM.out _ (HE.out.below HB0.out)).mono ?_
  rintro e w1 ⟨rfl, hb⟩
  have HB1 : Hid (Below w.heap.size w w1) := HB0.out.trans (hb.mono HB0.out.size)
  have HT1 : Hid (w1.heap[w.heap.size]? = some (tkO tkA)) := by show _ = _; rw [hb.block _ (by simp)]; exact HR0.out
  clear hb HB0 HM HR0
  go_wp2_with fail
  refine (HO.out _ (HE.out.below HB1.out)).mono ?_
  rintro e w2 ⟨rfl, hb⟩
  have HB2 : Hid (Below w.heap.size w (w2.alloc (tkO tkA))) := (HB1.out.trans (hb.mono HB1.out.size)).alloc (HB1.out.trans (hb.mono HB1.out.size)).size _
  have HT2 : Hid ((w2.alloc (tkO tkA)).heap[w.heap.size]? = some (tkO tkA)) := (heap_alloc_old _ _ (Nat.lt_of_lt_of_le (row_lt HT1.out) hb.size)).trans ((hb.block _ (row_lt HT1.out)).trans HT1.out)
  have HX2 : Hid ((w2.alloc (tkO tkA)).heap[w2.heap.size]? = some (tkO tkA)) := heap_alloc_new _ _
  obtain ⟨hc0, hc1, hc2, hc3, hc4, hc5⟩ := tk_row HT2.out
  obtain ⟨hd0, hd1, hd2, hd3, hd4, hd5⟩ := tk_row HX2.out
  dsimp only [tkA, tkO] at hc0 hc1 hc2 hc3 hc4 hc5 hd0 hd1 hd2 hd3 hd4 hd5
  clear hb HB1 HO HT1
  go_wp2_with fail
  refine (HG8.out _ (HE.out.below HB2.out).errs).mono ?_
  rintro e w3 ⟨rfl, hb⟩
  have HB3 : Hid (Below w.heap.size w w3) := HB2.out.trans (hb.mono HB2.out.size)
  have HT3 : Hid (w3.heap[w.heap.size]? = some (tkO tkA)) := (hb.block _ (row_lt HT2.out)).trans HT2.out
  clear hb HB2 HG8 HT2 HX2 hc0 hc1 hc2 hc3 hc4 hc5 hd0 hd1 hd2 hd3 hd4 hd5
  obtain ⟨hc0, hc1, hc2, hc3, hc4, hc5⟩ := tk_row HT3.out
  dsimp only [tkA] at hc0 hc1 hc2 hc3 hc4 hc5
  go_wp2_with fail
  refine (HG9.out _ (HE.out.below HB3.out).errs).mono ?_
  rintro e w4 ⟨rfl, hb⟩
  have HB4 : Hid (Below w.heap.size w w4) := HB3.out.trans (hb.mono HB3.out.size)
  clear hb HB3 HG9 HT3 hc0 hc1 hc2 hc3 hc4 hc5
  go_wp2_with fail
  refine (coded_err a 11 (by decide) 12 w4 (HE.out.below HB4.out).errs).mono ?_
  rintro e w5 ⟨rfl, hb⟩
  have HB5 : Hid (Below w.heap.size w w5) := HB4.out.trans (hb.mono HB4.out.size)
  clear hb
  go_wp2
  go_ret
  exact ⟨rfl, HB5.out⟩
end Go.Proofs.YtgagekcjdapkfabGreatDoor

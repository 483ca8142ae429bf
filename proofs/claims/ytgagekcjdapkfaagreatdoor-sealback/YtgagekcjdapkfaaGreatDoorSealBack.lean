/-
  The call of SealBack returns true wherever the sixteen errors, the library's MaxLen and its powers of ten lie as the program lays them, for every key, words, text, place and byte; nothing that was there changes.
-/
import Derived.Test.YtgagekcjdapkfaaGreatDoorSealSame
namespace Go.Proofs.YtgagekcjdapkfaaGreatDoor
open Go.RowKit Go.Extern.Stop Go.Stop Go.Extern

/-- A slice of texts, as it came in. -/
def TextsAt (w : World) (v : Value) (xs : List ByteArray) : Prop := ∃ ad c, v = .slice ad xs.length c ∧ xs.length ≤ c ∧ (xs.length = 0 ∨ ∃ b o, ad = some ⟨b, o, none⟩ ∧ Texts w b o xs)
theorem TextsAt.below {w w' : World} {v : Value} {xs : List ByteArray} (h : TextsAt w v xs) (hb : Below w.heap.size w w') : TextsAt w' v xs := by
  obtain ⟨ad, c, h1, h2, h3⟩ := h
  refine ⟨ad, c, h1, h2, ?_⟩
  rcases h3 with h3 | ⟨b, o, h4, h5⟩
  · exact Or.inl h3
  · exact Or.inr ⟨b, o, h4, h5.below hb⟩

/-- Their bytes. -/
abbrev toLs (xs : List ByteArray) : List (List UInt8) := xs.map (·.data.toList)

theorem make_fail (a : Nat → Addr) (key : Int) (v : Value) (xs : List ByteArray) (w : World) (h : Env a w) (hv : TextsAt w v xs) (hs : ∀ x ∈ xs, x.size ≤ maxLen) (hbad : ¬ ((1 ≤ key ∧ key ≤ 1000000006) ∧ Sl.wordsOk (toLs xs) = true)) :
    Calls Tryz.prog 8 #[.int .i64 key, v] w fun e w' => (∃ T p, e = .returned (.tuple #[.string ⟨#[]⟩, .iface T p])) ∧ Below w.heap.size w w' := by
  by_cases hk : 1 ≤ key ∧ key ≤ 1000000006
  · obtain ⟨ad, c, rfl, hc, hor⟩ := hv
    by_cases hn : 1 ≤ xs.length ∧ xs.length ≤ 10
    · obtain ⟨b, o, rfl, hx⟩ : ∃ b o, ad = some ⟨b, o, none⟩ ∧ Texts w b o xs := by
        rcases hor with g | g
        · omega
        · exact g
      rcases wrongI_cases xs with ⟨_, hall⟩ | ⟨k, hk2, hi, _⟩
      · exfalso
        refine hbad ⟨hk, (Sl.wordsOk_iff _).2 ⟨by rw [List.length_map]; exact hn, fun l hl => ?_⟩⟩
        obtain ⟨x, hx2, rfl⟩ := List.mem_map.1 hl
        exact hall x hx2
      · refine (make_wrong a key b o xs.length c xs w h hk hn hx rfl hs k hi).mono ?_
        rintro e w' ⟨f, _, _, rfl, hb⟩
        exact ⟨⟨_, _, rfl⟩, hb⟩
    · refine (make_count a key ad xs.length c w h hk hn).mono ?_
      rintro e w' ⟨rfl, hb⟩
      exact ⟨⟨_, _, rfl⟩, hb⟩
  · refine (make_key a key v w h hk).mono ?_
    rintro e w' ⟨rfl, hb⟩
    exact ⟨⟨_, _, rfl⟩, hb⟩
theorem make_good (a : Nat → Addr) (key : Int) (v : Value) (xs : List ByteArray) (w : World) (h : Env a w) (hv : TextsAt w v xs) (hk : 1 ≤ key ∧ key ≤ 1000000006) (hw : Sl.wordsOk (toLs xs) = true) :
    Calls Tryz.prog 8 #[.int .i64 key, v] w fun e w' => e = .returned (.tuple #[.string (Sl.ofL (Sl.sealL key (toLs xs))), .nilIface]) ∧ Below w.heap.size w w' := by
  obtain ⟨ad, c, rfl, hc, hor⟩ := hv
  have hn := ((Sl.wordsOk_iff _).1 hw).1
  rw [List.length_map] at hn
  obtain ⟨b, o, rfl, hx⟩ : ∃ b o, ad = some ⟨b, o, none⟩ ∧ Texts w b o xs := by
    rcases hor with g | g
    · omega
    · exact g
  exact make_ok a key b o xs.length c xs w h hk hc hx rfl hw
theorem longWords_any (v : Value) (xs : List ByteArray) (w : World) (hv : TextsAt w v xs) (hs : ∀ x ∈ xs, x.size ≤ maxLen) :
    Calls Tryz.prog 6 #[v] w fun e w' => e = .returned (.bool (longB xs)) ∧ Below w.heap.size w w' := by
  obtain ⟨ad, c, rfl, hc, hor⟩ := hv
  by_cases hn : 15 < xs.length
  · rw [show longB xs = true by unfold longB; rw [decide_eq_true hn]; rfl]
    exact longWords_many ad xs.length c w hn
  · rw [show longB xs = xs.any (fun x => decide (30 < x.size)) by unfold longB; rw [decide_eq_false hn]; rfl]
    rcases hor with g | ⟨b, o, rfl, hx⟩
    · have : xs = [] := List.length_eq_zero_iff.1 g
      subst this
      exact longWords_none ad c w
    · exact longWords_some xs b o xs.length c w rfl (by omega) hx hs
theorem sameTexts_any (v : Value) (xs : List ByteArray) (b : Nat) (w : World) (hn : xs.length ≤ 1000000) (hx : Texts w b 0 xs) (hv : TextsAt w v xs) :
    Calls Tryz.prog 9 #[.slice (some ⟨b, 0, none⟩) xs.length xs.length, v] w fun e w' => e = .returned (.bool true) ∧ Below w.heap.size w w' := by
  obtain ⟨ad, c, rfl, hc, hor⟩ := hv
  rcases hor with g | ⟨b2, o2, rfl, hx2⟩
  · rw [g]
    exact sameTexts_none _ ad _ c w
  · exact sameTexts_eq xs xs.length b 0 _ b2 o2 c w rfl hn hx hx2

/-- What Open says: words, or an error. -/
theorem open_cases (a : Nat → Addr) (key : Int) (s : ByteArray) (w : World) (h : Env a w) :
    Calls Tryz.prog 7 #[.int .i64 key, .string s] w fun e w' => Below w.heap.size w w' ∧
      ((Sl.openE key s.data.toList = 0 ∧ ∃ b, Texts w' b 0 ((Sl.lookW s.data.toList).map Sl.ofL) ∧ e = .returned (.tuple #[.slice (some ⟨b, 0, none⟩) (Sl.lookW s.data.toList).length (Sl.lookW s.data.toList).length, .nilIface])) ∨
       (Sl.openE key s.data.toList ≠ 0 ∧ ∃ p, e = .returned (.tuple #[.slice none 0 0, .iface 160 p]))) := by
  refine (open_any a key s w h).mono ?_
  rintro e w' ⟨hb, hp⟩
  refine ⟨hb, ?_⟩
  unfold WordsPost at hp
  by_cases h0 : Sl.openE key s.data.toList = 0
  · rw [if_pos h0] at hp
    exact Or.inl ⟨h0, hp⟩
  · rw [if_neg h0, errV_posS a _ h0] at hp
    exact Or.inr ⟨h0, _, hp⟩

/-- Opened, and sealed anew: the text as it was. -/
theorem make_back (a : Nat → Addr) (key : Int) (s : ByteArray) (b : Nat) (w : World) (h : Env a w) (h0 : Sl.openE key s.data.toList = 0) (hx : Texts w b 0 ((Sl.lookW s.data.toList).map Sl.ofL)) :
    Calls Tryz.prog 8 #[.int .i64 key, .slice (some ⟨b, 0, none⟩) (Sl.lookW s.data.toList).length (Sl.lookW s.data.toList).length] w fun e w' => e = .returned (.tuple #[.string s, .nilIface]) ∧ Below w.heap.size w w' := by
  obtain ⟨e1, hw⟩ := Sl.open_seal key _ h0
  have hk := ((Sl.openE_iff key _).1 h0).1
  have hmm : toLs ((Sl.lookW s.data.toList).map Sl.ofL) = Sl.lookW s.data.toList := by
    unfold toLs
    rw [List.map_map]
    conv => rhs; rw [← List.map_id (Sl.lookW s.data.toList)]
    exact List.map_congr_left fun l _ => rfl
  have := make_good a key (.slice (some ⟨b, 0, none⟩) (Sl.lookW s.data.toList).length (Sl.lookW s.data.toList).length) ((Sl.lookW s.data.toList).map Sl.ofL) w h ⟨_, _, by rw [List.length_map], by simp, Or.inr ⟨b, 0, rfl, hx⟩⟩ hk (by rw [hmm]; exact hw)
  rw [hmm, e1, Sl.ofL_toL] at this
  exact this

set_option maxRecDepth 100000 in
set_option maxHeartbeats 2000000 in
theorem sealBack_long (a : Nat → Addr) (key : Int) (v : Value) (xs : List ByteArray) (s : ByteArray) (at0 x : Int) (w : World) (h : Env a w) (hv : TextsAt w v xs) (hs : ∀ x ∈ xs, x.size ≤ maxLen) (hz : s.size ≤ maxLen) (hl : longB xs = true ∨ 400 < s.size) :
    Calls Tryz.prog 3 #[.int .i64 key, v, .string s, .int .i64 at0, .int .u8 x] w fun e w' => e = .returned (.bool true) ∧ Below w.heap.size w w' := by
  have HS := hide (sealed_any a w h)
  have HW := hide (fun w hv => longWords_any v xs w hv hs)
  have HV := hide hv
  unfold maxLen at hz
  clear h hv hs
  cases hlb : longB xs with
  | true =>
    rw [hlb] at HW
    clear hl
    go_enter Tryz.func3, Tryz.ntmps3
    go_wp2_with fail
    refine HS.out.mono ?_
    rintro e w1 ⟨rfl, hb⟩
    have HV1 := hide (HV.out.below hb)
    have HB1 := hide hb
    clear hb HV
    go_wp2_with fail
    refine (HW.out _ HV1.out).mono ?_
    rintro e w2 ⟨rfl, hb⟩
    have HB2 : Hid (Below w.heap.size w w2) := HB1.out.trans (hb.mono HB1.out.size)
    clear hb
    go_wp2
    go_ret
    exact ⟨rfl, HB2.out⟩
  | false =>
    rw [hlb] at HW
    have h4 : 400 < s.size := by
      rcases hl with g | g
      · rw [hlb] at g; cases g
      · exact g
    clear hl
    go_enter Tryz.func3, Tryz.ntmps3
    go_wp2_with fail
    refine HS.out.mono ?_
    rintro e w1 ⟨rfl, hb⟩
    have HV1 := hide (HV.out.below hb)
    have HB1 := hide hb
    clear hb HV
    go_wp2_with fail
    refine (HW.out _ HV1.out).mono ?_
    rintro e w2 ⟨rfl, hb⟩
    have HB2 : Hid (Below w.heap.size w w2) := HB1.out.trans (hb.mono HB1.out.size)
    clear hb
    go_wp2
    go_ret
    exact ⟨rfl, HB2.out⟩

set_option maxRecDepth 100000 in
set_option maxHeartbeats 4000000 in
theorem sealBack_fail (a : Nat → Addr) (key : Int) (v : Value) (xs : List ByteArray) (s : ByteArray) (at0 x : Int) (w : World) (h : Env a w) (hv : TextsAt w v xs) (hs : ∀ x ∈ xs, x.size ≤ maxLen) (hl : longB xs = false) (hz : s.size ≤ 400)
    (hbad : ¬ ((1 ≤ key ∧ key ≤ 1000000006) ∧ Sl.wordsOk (toLs xs) = true)) :
    Calls Tryz.prog 3 #[.int .i64 key, v, .string s, .int .i64 at0, .int .u8 x] w fun e w' => e = .returned (.bool true) ∧ Below w.heap.size w w' := by
  have HS := hide (sealed_any a w h)
  have HW := hide (fun w hv => longWords_any v xs w hv hs)
  have HM := hide (fun w h hv => make_fail a key v xs w h hv hs hbad)
  have HO := hide (fun w h => open_cases a key s w h)
  have HK := hide (fun b w h h0 hx => make_back a key s b w h h0 hx)
  have HV := hide hv
  have HE := hide h
  rw [hl] at HW
  clear h hv hs hbad hl
  go_enter Tryz.func3, Tryz.ntmps3
  go_wp2_with fail
  refine HS.out.mono ?_
  rintro e w1 ⟨rfl, hb⟩
  have HV1 := hide (HV.out.below hb)
  have HE1 := hide (HE.out.below hb)
  have HB1 := hide hb
  clear hb HV HE HS
  go_wp2_with fail
  refine (HW.out _ HV1.out).mono ?_
  rintro e w2 ⟨rfl, hb⟩
  have HB2 : Hid (Below w.heap.size w w2) := HB1.out.trans (hb.mono HB1.out.size)
  have HV2 := hide (HV1.out.below hb)
  have HE2 := hide (HE1.out.below hb)
  clear hb HB1 HV1 HE1 HW
  go_wp2_with fail
  refine (HO.out _ HE2.out).mono ?_
  rintro e w3 ⟨hb, ⟨h0, b, hx, rfl⟩ | ⟨h0, p, rfl⟩⟩
  · have HB3 : Hid (Below w.heap.size w w3) := HB2.out.trans (hb.mono HB2.out.size)
    have HV3 := hide (HV2.out.below hb)
    have HE3 := hide (HE2.out.below hb)
    have HKK := hide (HK.out b w3 HE3.out h0 hx)
    clear hb h0 hx HB2 HV2 HE2 HO HK
    generalize (Sl.lookW s.data.toList).length = n at *
    go_wp2_with fail
    refine HKK.out.mono ?_
    rintro e w4 ⟨rfl, hb⟩
    have HB4 : Hid (Below w.heap.size w w4) := HB3.out.trans (hb.mono HB3.out.size)
    have HV4 := hide (HV3.out.below hb)
    have HE4 := hide (HE3.out.below hb)
    clear hb HB3 HV3 HE3 HKK
    go_wp2_with fail
    refine (HM.out _ HE4.out HV4.out).mono ?_
    rintro e w5 ⟨⟨T, q, rfl⟩, hb⟩
    have HB5 : Hid (Below w.heap.size w w5) := HB4.out.trans (hb.mono HB4.out.size)
    clear hb
    go_wp2
    go_ret
    exact ⟨rfl, HB5.out⟩
  · have HB3 : Hid (Below w.heap.size w w3) := HB2.out.trans (hb.mono HB2.out.size)
    have HV3 := hide (HV2.out.below hb)
    have HE3 := hide (HE2.out.below hb)
    clear hb h0 HB2 HV2 HE2 HO HK
    go_wp2_with fail
    refine (HM.out _ HE3.out HV3.out).mono ?_
    rintro e w5 ⟨⟨T, q, rfl⟩, hb⟩
    have HB5 : Hid (Below w.heap.size w w5) := HB3.out.trans (hb.mono HB3.out.size)
    clear hb
    go_wp2
    go_ret
    exact ⟨rfl, HB5.out⟩
end Go.Proofs.YtgagekcjdapkfaaGreatDoor

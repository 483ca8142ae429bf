/-
  The call of SealTells returns true wherever the sixteen errors, the library's MaxLen and its powers of ten lie as the program lays them, for every key, words, text and bound; nothing that was there changes.
-/
import Derived.Test.YtgagekcjdapkfaaGreatDoorSealPair
namespace Go.Proofs.YtgagekcjdapkfaaGreatDoor
open Go.RowKit Go.Extern.Stop Go.Stop Go.Extern

set_option maxRecDepth 100000 in
set_option maxHeartbeats 2000000 in
theorem sealTells_long (a : Nat → Addr) (key : Int) (v : Value) (xs : List ByteArray) (s : ByteArray) (most : Int) (w : World) (h : Env a w) (hv : TextsAt w v xs) (hs : ∀ x ∈ xs, x.size ≤ maxLen) (hz : s.size ≤ maxLen) (hl : longB xs = true ∨ (400 < s.size ∧ s.size ≠ 4001)) :
    Calls Tryz.prog 4 #[.int .i64 key, v, .string s, .int .i64 most] w fun e w' => e = .returned (.bool true) ∧ Below w.heap.size w w' := by
  have HS := hide (sealed_any a w h)
  have HW := hide (fun w hv => longWords_any v xs w hv hs)
  have HV := hide hv
  unfold maxLen at hz
  clear h hv hs
  cases hlb : longB xs with
  | true =>
    rw [hlb] at HW
    clear hl
    go_enter Tryz.func4, Tryz.ntmps4
    go_wp2_with fail
    refine HS.out.mono ?_
    rintro e w1 ⟨rfl, hb⟩
    have HV1 := hide (HV.out.below hb)
    have HB1 := hide hb
    clear hb HV
    go_wp2_with fail
    refine (HW.out _ HV1.out).mono ?_
    rintro e w2 ⟨rfl, hb⟩
    have HB2 : Hid (Below w.heap.size w w2) := HB1.out.trans (hb.mono HB1.out.size)
    clear hb
    go_wp2
    go_ret
    exact ⟨rfl, HB2.out⟩
  | false =>
    rw [hlb] at HW
    obtain ⟨h4, h41⟩ : 400 < s.size ∧ s.size ≠ 4001 := by
      rcases hl with g | g
      · rw [hlb] at g; cases g
      · exact g
    have hq : ((s.size : Int) != 4001) = true := by rw [bne_iff_ne]; omega
    clear hl h41
    go_enter Tryz.func4, Tryz.ntmps4
    go_wp2_with fail
    refine HS.out.mono ?_
    rintro e w1 ⟨rfl, hb⟩
    have HV1 := hide (HV.out.below hb)
    have HB1 := hide hb
    clear hb HV
    go_wp2_with fail
    refine (HW.out _ HV1.out).mono ?_
    rintro e w2 ⟨rfl, hb⟩
    have HB2 : Hid (Below w.heap.size w w2) := HB1.out.trans (hb.mono HB1.out.size)
    clear hb
    go_wp2
    go_ret
    exact ⟨rfl, HB2.out⟩

theorem num_cases (l : List UInt8) (most : Int) : (numB l most = false ∧ numV l most = 0 ∧ numI l most = -1) ∨ (numB l most = true ∧ numV l most = (Sl.valL l : Int) ∧ numI l most = (Sl.valL l : Int) ∧ (0 : Int) ≤ (Sl.valL l : Int)) := by
  cases h : numB l most with
  | false => exact Or.inl ⟨rfl, by unfold numV; rw [h]; rfl, numI_no l most h⟩
  | true => exact Or.inr ⟨rfl, by unfold numV; rw [if_pos h], by unfold numI; rw [if_pos h], by omega⟩

theorem cells_of_texts (xs : List ByteArray) : xs.map Value.string = cellsT (toLs xs) := by
  unfold cellsT toLs
  rw [List.map_map]
  refine List.map_congr_left fun x _ => ?_
  show Value.string x = Value.string (Sl.ofL x.data.toList)
  rw [Sl.ofL_toL]

/-- A copy that append made of texts. -/
theorem copy_texts {w : World} {base : Nat} {v : Value} {n : Nat} {xs : List ByteArray} (hn : xs.length = n) (h : w.ownsRow base 9 1 v n (xs.map Value.string)) : TextsAt w v xs := by
  rw [cells_of_texts] at h
  by_cases h0 : xs = []
  · subst h0
    subst hn
    rcases h.2 with ⟨rfl, _⟩ | ⟨g, cap, cur, rfl, _, _, hc, _⟩
    · exact textsAt_nil w
    · exact ⟨_, cap, rfl, hc, Or.inl rfl⟩
  · obtain ⟨b, cap, rfl, hc, hx⟩ := owns_texts h (by intro e; exact h0 (by simpa [toLs] using e))
    rw [show (toLs xs).map Sl.ofL = xs from Sl.map_ofL xs] at hx
    exact textsAt_of (by simp) hx hc

theorem strs_one (xs : List ByteArray) : ∀ u ∈ xs.map Value.string, u.oneCell' = true := fun u hu => by
  obtain ⟨y, _, rfl⟩ := List.mem_map.1 hu
  rfl
theorem strs_at {w : World} {p : Addr} {xs : List ByteArray} (h : xs.length ≠ 0 → ∃ b o, p = ⟨b, o, none⟩ ∧ Texts w b o xs) : ∀ j u, (xs.map Value.string)[j]? = some u → w.cell? (p.add j) = some u := fun j u hj => by
  rw [List.getElem?_map, Option.map_eq_some_iff] at hj
  obtain ⟨y, hy, rfl⟩ := hj
  obtain ⟨hjl, rfl⟩ := List.getElem?_eq_some_iff.1 hy
  obtain ⟨b, o, rfl, hx⟩ := h (by omega)
  rw [Go.WideShapes.add_plain]
  exact hx j hjl
theorem longB_15 (xs : List ByteArray) (hl : longB xs = false) : xs.length ≤ 15 := by
  rcases Nat.lt_or_ge 15 xs.length with g | g
  · exfalso
    unfold longB at hl
    rw [decide_eq_true g] at hl
    cases hl
  · exact g

set_option maxRecDepth 100000 in
set_option maxHeartbeats 4000000 in
theorem sealTells_none_a (a : Nat → Addr) (key : Int) (xs : List ByteArray) (s : ByteArray) (most : Int) (w : World) (h : Env a w) (hv : TextsAt w (.slice none 0 0) xs) (hs : ∀ x ∈ xs, x.size ≤ maxLen) (hl : longB xs = false) (hz : s.size ≤ 400) :
    Calls Tryz.prog 4 #[.int .i64 key, .slice none 0 0, .string s, .int .i64 most] w fun e w' => e = .returned (.bool true) ∧ Below w.heap.size w w' := by
  have hsm : s.size ≤ maxLen := by unfold maxLen; omega
  have HS := hide (sealed_any a w h)
  have HW := hide (fun w hv => longWords_any (.slice none 0 0) xs w hv hs)
  rw [hl] at HW
  obtain ⟨x, c, at0, hM, hSo⟩ := pair_any a key xs hs
  have HM := hide hM
  have HSo := hide hSo
  have HO := hide (fun w h => open_t a key s w h)
  have HU := hide (fun w => unseal_t key s w hsm)
  have HLk := hide (fun w h => look_t a s w h)
  have HLa := hide (fun w => lookAt_t s w hsm)
  have HST := hide (fun v u w hv hu => sameTexts_both v u (okW (Sl.openE key s.data.toList) (Sl.lookW s.data.toList)) w (okW_len key _).1 hv hu)
  have HSL := hide (fun v u w hv hu => sameTexts_both v u (okW (Sl.lookE s.data.toList) (Sl.lookW s.data.toList)) w (okW_len key _).2 hv hu)
  have HNu := hide (fun w => number_any s most w hsm)
  have HNr := hide (fun w => refNumber_any s most w hsm)
  have HNm := hide (fun w => refName_any s w hsm)
  have HNa := hide (fun w => name_any s w hsm)
  have Hcs := hide (num_cases s.data.toList most)
  generalize Sl.nameL s.data.toList = nm at *
  generalize (Sl.valL s.data.toList : Int) = nv at *
  generalize numB s.data.toList most = nb at *
  generalize numV s.data.toList most = nn at *
  generalize numI s.data.toList most = ni at *
  have HV := hide hv
  have HE := hide h
  clear h hv hM hSo hs hl hsm
  go_enter Tryz.func4, Tryz.ntmps4
  go_wp2_with fail
  refine HS.out.mono ?_
  rintro e w1 ⟨rfl, hb⟩
  have HV1 := hide (HV.out.below hb)
  have HE1 := hide (HE.out.below hb)
  have HB1 := hide hb
  clear hb HV HE HS
  go_wp2_with fail
  refine (HW.out _ HV1.out).mono ?_
  rintro e w4 ⟨rfl, hb⟩
  have HB4 : Hid (Below w.heap.size w w4) := HB1.out.trans (hb.mono HB1.out.size)
  have HV4 := hide (HV1.out.below hb)
  have HE4 := hide (HE1.out.below hb)
  have HC4 : Hid (TextsAt w4 (.slice none 0 0) xs) := HV4.out
  clear hb HW HV1 HE1 HB1
  go_wp2_with fail
  refine (HM.out _ _ HE4.out HC4.out).mono ?_
  rintro e w5 ⟨ev, rfl, hb, hcode⟩
  have HCd := hide hcode
  have HB5 : Hid (Below w.heap.size w w5) := HB4.out.trans (hb.mono HB4.out.size)
  have HV5 := hide (HV4.out.below hb)
  have HE5 := hide (HE4.out.below hb)
  clear hb hcode HM HC4 HB4 HV4 HE4
  go_wp2_with fail
  refine (HSo.out _ _ HV5.out).mono ?_
  rintro e w6 ⟨rfl, hb⟩
  have HB6 : Hid (Below w.heap.size w w6) := HB5.out.trans (hb.mono HB5.out.size)
  have HE6 := hide (HE5.out.below hb)
  have HF6 := hide (faulted_same ev c at0 (w6.alloc (.cells #[.int .i64 c, .int .i64 at0] 35)) (fun w' hw' => HCd.out w' (hb.trans ((((Below.refl _ w6).alloc (Nat.le_refl _) _).trans (hw'.mono (by simp))).mono hb.size))))
  have HB7 : Hid (Below w.heap.size w (w6.alloc (.cells #[.int .i64 c, .int .i64 at0] 35))) := HB6.out.alloc HB6.out.size _
  have HE7 : Hid (Env a (w6.alloc (.cells #[.int .i64 c, .int .i64 at0] 35))) := HE6.out.below ((Below.refl _ w6).alloc (Nat.le_refl _) _)
  clear hb HSo HV5 HB5 HE5 HCd HB6 HE6
  go_wp2_with fail
  refine HF6.out.mono ?_
  rintro e w8 ⟨rfl, hb⟩
  have HB8 : Hid (Below w.heap.size w w8) := HB7.out.trans (hb.mono HB7.out.size)
  have HE8 := hide (HE7.out.below hb)
  clear hb HF6 HB7 HE7
  go_wp2_with fail
  refine (HO.out _ HE8.out).mono ?_
  rintro e w9 ⟨l9, rfl, hx, hb⟩
  have HX9 := hide hx
  have HB9 : Hid (Below w.heap.size w w9) := HB8.out.trans (hb.mono HB8.out.size)
  have HE9 := hide (HE8.out.below hb)
  clear hb hx HO HB8 HE8
  generalize hev : errV a (Sl.openE key s.data.toList) = ev9
  have HEv := hide hev
  clear hev
  go_wp2_with fail
  refine (HU.out _).mono ?_
  rintro e w10 ⟨l10, rfl, hx, hb⟩
  have HX10 := hide hx
  have HX9b := hide (HX9.out.below hb)
  have HB10 : Hid (Below w.heap.size w w10) := HB9.out.trans (hb.mono HB9.out.size)
  have HE10 := hide (HE9.out.below hb)
  clear hb hx HU HB9 HE9 HX9
  have HCo := hide (fun w h => coded_self a (Sl.openE key s.data.toList) (openE_le _ _) w h)
  rw [HEv.out] at HCo
  generalize (Sl.openE key s.data.toList : Int) = c9 at *
  go_wp2_with fail
  refine (HCo.out _ HE10.out.errs).mono ?_
  rintro e w11 ⟨rfl, hb⟩
  have HS11 := hide (HST.out _ _ _ (HX9b.out.below hb) (HX10.out.below hb))
  have HB11 : Hid (Below w.heap.size w w11) := HB10.out.trans (hb.mono HB10.out.size)
  have HE11 := hide (HE10.out.below hb)
  clear hb HCo HEv HB10 HE10 HX9b HX10 HST
  go_wp2_with fail
  refine HS11.out.mono ?_
  rintro e w12 ⟨rfl, hb⟩
  have HB12 : Hid (Below w.heap.size w w12) := HB11.out.trans (hb.mono HB11.out.size)
  have HE12 := hide (HE11.out.below hb)
  clear hb HS11 HB11 HE11
  go_wp2_with fail
  refine (HLk.out _ HE12.out).mono ?_
  rintro e w13 ⟨l13, rfl, hx, hb⟩
  have HX13 := hide hx
  have HB13 : Hid (Below w.heap.size w w13) := HB12.out.trans (hb.mono HB12.out.size)
  have HE13 := hide (HE12.out.below hb)
  clear hb hx HLk HB12 HE12
  generalize hev : errV a (Sl.lookE s.data.toList) = ev13
  have HEv := hide hev
  clear hev
  go_wp2_with fail
  refine (HLa.out _).mono ?_
  rintro e w14 ⟨l14, n14, rfl, hx, hb⟩
  have HX14 := hide hx
  have HX13b := hide (HX13.out.below hb)
  have HB14 : Hid (Below w.heap.size w w14) := HB13.out.trans (hb.mono HB13.out.size)
  have HE14 := hide (HE13.out.below hb)
  clear hb hx HLa HB13 HE13 HX13
  have HCo := hide (fun w h => coded_self a (Sl.lookE s.data.toList) (by have := lookE_le s.data.toList; omega) w h)
  rw [HEv.out] at HCo
  generalize (Sl.lookE s.data.toList : Int) = c14 at *
  go_wp2_with fail
  refine (HCo.out _ HE14.out.errs).mono ?_
  rintro e w15 ⟨rfl, hb⟩
  have HS15 := hide (HSL.out _ _ _ (HX13b.out.below hb) (HX14.out.below hb))
  have HB15 : Hid (Below w.heap.size w w15) := HB14.out.trans (hb.mono HB14.out.size)
  clear hb HCo HEv HB14 HE14 HX13b HX14 HSL
  go_wp2_with fail
  refine HS15.out.mono ?_
  rintro e w16 ⟨rfl, hb⟩
  have HB16 : Hid (Below w.heap.size w w16) := HB15.out.trans (hb.mono HB15.out.size)
  clear hb HS15 HB15
  go_wp2_with fail
  refine (HNu.out _).mono ?_
  rintro e w17 ⟨rfl, hb⟩
  have HB17 : Hid (Below w.heap.size w w17) := HB16.out.trans (hb.mono HB16.out.size)
  clear hb HNu HB16
  go_wp2_with fail
  refine (HNr.out _).mono ?_
  rintro e w18 ⟨rfl, rfl⟩
  go_wp2_with fail
  refine (HNm.out _).mono ?_
  rintro e w19 ⟨rfl, rfl⟩
  clear HNr HNm
  rcases Hcs.out with ⟨hb1, hb2, hb3⟩ | ⟨hb1, hb2, hb3, hb4⟩
  · rw [hb1, hb2, hb3]
    clear Hcs hb1 hb2 hb3
    cases nm with
    | true =>
      go_wp2_with fail
      refine (HNa.out _).mono ?_
      rintro e w20 ⟨rfl, hb⟩
      have HB20 : Hid (Below w.heap.size w w20) := HB17.out.trans (hb.mono HB17.out.size)
      clear hb
      go_wp2
      go_ret
      exact ⟨rfl, HB20.out⟩
    | false =>
      go_wp2_with fail
      refine (HNa.out _).mono ?_
      rintro e w20 ⟨rfl, hb⟩
      have HB20 : Hid (Below w.heap.size w w20) := HB17.out.trans (hb.mono HB17.out.size)
      clear hb
      go_wp2
      go_ret
      exact ⟨rfl, HB20.out⟩
  · rw [hb1, hb2, hb3]
    clear Hcs hb1 hb2 hb3
    have hqq : (nv == nv) = true := by simp
    cases nm with
    | true =>
      go_wp2_with fail
      refine (HNa.out _).mono ?_
      rintro e w20 ⟨rfl, hb⟩
      have HB20 : Hid (Below w.heap.size w w20) := HB17.out.trans (hb.mono HB17.out.size)
      clear hb
      go_wp2
      go_ret
      exact ⟨rfl, HB20.out⟩
    | false =>
      go_wp2_with fail
      refine (HNa.out _).mono ?_
      rintro e w20 ⟨rfl, hb⟩
      have HB20 : Hid (Below w.heap.size w w20) := HB17.out.trans (hb.mono HB17.out.size)
      clear hb
      go_wp2
      go_ret
      exact ⟨rfl, HB20.out⟩

set_option maxRecDepth 100000 in
set_option maxHeartbeats 4000000 in
theorem sealTells_some_a (a : Nat → Addr) (key : Int) (p : Addr) (n cap : Nat) (xs : List ByteArray) (s : ByteArray) (most : Int) (w : World) (h : Env a w) (hn : xs.length = n) (hv : TextsAt w (.slice (some p) n cap) xs) (hs : ∀ x ∈ xs, x.size ≤ maxLen) (hl : longB xs = false) (hz : s.size ≤ 400) :
    Calls Tryz.prog 4 #[.int .i64 key, .slice (some p) n cap, .string s, .int .i64 most] w fun e w' => e = .returned (.bool true) ∧ Below w.heap.size w w' := by
  obtain ⟨i0, hi, hz0, hz1, hz2⟩ := info_parts Tryz.infoString
  have h15 : n ≤ 15 := by have := longB_15 xs hl; omega
  have Hn := hide hn
  have HCells : Hid (∀ w1, Below w.heap.size w w1 → xs.length ≠ 0 → ∃ b o, p = ⟨b, o, none⟩ ∧ Texts w1 b o xs) := fun w1 hb h0 => by
    obtain ⟨ad', c', e, _, hor⟩ := hv
    injection e with e1 e2 e3
    subst e1
    rcases hor with g | ⟨b, o, e, hx⟩
    · exact absurd g h0
    · injection e with e
      exact ⟨b, o, e, hx.below hb⟩
  clear hn
  have hsm : s.size ≤ maxLen := by unfold maxLen; omega
  have HS := hide (sealed_any a w h)
  have HW := hide (fun w hv => longWords_any (.slice (some p) n cap) xs w hv hs)
  rw [hl] at HW
  obtain ⟨x, c, at0, hM, hSo⟩ := pair_any a key xs hs
  have HM := hide hM
  have HSo := hide hSo
  have HO := hide (fun w h => open_t a key s w h)
  have HU := hide (fun w => unseal_t key s w hsm)
  have HLk := hide (fun w h => look_t a s w h)
  have HLa := hide (fun w => lookAt_t s w hsm)
  have HST := hide (fun v u w hv hu => sameTexts_both v u (okW (Sl.openE key s.data.toList) (Sl.lookW s.data.toList)) w (okW_len key _).1 hv hu)
  have HSL := hide (fun v u w hv hu => sameTexts_both v u (okW (Sl.lookE s.data.toList) (Sl.lookW s.data.toList)) w (okW_len key _).2 hv hu)
  have HNu := hide (fun w => number_any s most w hsm)
  have HNr := hide (fun w => refNumber_any s most w hsm)
  have HNm := hide (fun w => refName_any s w hsm)
  have HNa := hide (fun w => name_any s w hsm)
  have Hcs := hide (num_cases s.data.toList most)
  generalize Sl.nameL s.data.toList = nm at *
  generalize (Sl.valL s.data.toList : Int) = nv at *
  generalize numB s.data.toList most = nb at *
  generalize numV s.data.toList most = nn at *
  generalize numI s.data.toList most = ni at *
  have HV := hide hv
  have HE := hide h
  clear h hv hM hSo hs hl hsm
  go_enter Tryz.func4, Tryz.ntmps4
  go_wp2_with fail
  refine HS.out.mono ?_
  rintro e w1 ⟨rfl, hb⟩
  have HV1 := hide (HV.out.below hb)
  have HE1 := hide (HE.out.below hb)
  have HB1 := hide hb
  clear hb HV HE HS
  go_wp2_with fail
  refine (HW.out _ HV1.out).mono ?_
  rintro e w2 ⟨rfl, hb⟩
  have HB2 : Hid (Below w.heap.size w w2) := HB1.out.trans (hb.mono HB1.out.size)
  have HV2 := hide (HV1.out.below hb)
  have HE2 := hide (HE1.out.below hb)
  have H1 := hide (strs_at (HCells.out w2 HB2.out))
  have Hln : Hid ((xs.map Value.string).length = n * 1) := by show _ = _; rw [List.length_map, Nat.mul_one]; exact Hn.out
  have HbB := hide HB2.out.size
  clear hb HW HV1 HE1 HB1 HCells
  go_wp2_with (first
    | (at_builtin; refine wpList_append_own _ rfl _ _ 22 rfl w.heap.size 9 i0 (.string ByteArray.empty) 1 16 Tryz.underlying22 hi hz0 hz1 hz2 rfl (by decide) _ _ _ rfl (World.ownsRow_nil _ _ _ _) p n cap (xs.map Value.string) rfl Hln.out H1.out (strs_one xs) (by unfold maxLen; omega) (by omega) HbB.out ?_; intro v4 w4 hown hgrow hnn))
  rw [List.nil_append, Nat.zero_add] at hown
  have HC4 := hide (copy_texts Hn.out hown)
  have hb : Below w2.heap.size w2 w4 := (Below.refl _ w2).grown hgrow (Nat.le_refl _) (fun k hk => by cases hk)
  have HB4 : Hid (Below w.heap.size w w4) := HB2.out.trans (hb.mono HB2.out.size)
  have HV4 := hide (HV2.out.below hb)
  have HE4 := hide (HE2.out.below hb)
  clear hb hown hgrow hnn HB2 HV2 HE2 H1
  go_wp2_with fail
  refine (HM.out _ _ HE4.out HC4.out).mono ?_
  rintro e w5 ⟨ev, rfl, hb, hcode⟩
  have HCd := hide hcode
  have HB5 : Hid (Below w.heap.size w w5) := HB4.out.trans (hb.mono HB4.out.size)
  have HV5 := hide (HV4.out.below hb)
  have HE5 := hide (HE4.out.below hb)
  clear hb hcode HM HC4 HB4 HV4 HE4
  go_wp2_with fail
  refine (HSo.out _ _ HV5.out).mono ?_
  rintro e w6 ⟨rfl, hb⟩
  have HB6 : Hid (Below w.heap.size w w6) := HB5.out.trans (hb.mono HB5.out.size)
  have HE6 := hide (HE5.out.below hb)
  have HF6 := hide (faulted_same ev c at0 (w6.alloc (.cells #[.int .i64 c, .int .i64 at0] 35)) (fun w' hw' => HCd.out w' (hb.trans ((((Below.refl _ w6).alloc (Nat.le_refl _) _).trans (hw'.mono (by simp))).mono hb.size))))
  have HB7 : Hid (Below w.heap.size w (w6.alloc (.cells #[.int .i64 c, .int .i64 at0] 35))) := HB6.out.alloc HB6.out.size _
  have HE7 : Hid (Env a (w6.alloc (.cells #[.int .i64 c, .int .i64 at0] 35))) := HE6.out.below ((Below.refl _ w6).alloc (Nat.le_refl _) _)
  clear hb HSo HV5 HB5 HE5 HCd HB6 HE6
  go_wp2_with fail
  refine HF6.out.mono ?_
  rintro e w8 ⟨rfl, hb⟩
  have HB8 : Hid (Below w.heap.size w w8) := HB7.out.trans (hb.mono HB7.out.size)
  have HE8 := hide (HE7.out.below hb)
  clear hb HF6 HB7 HE7
  go_wp2_with fail
  refine (HO.out _ HE8.out).mono ?_
  rintro e w9 ⟨l9, rfl, hx, hb⟩
  have HX9 := hide hx
  have HB9 : Hid (Below w.heap.size w w9) := HB8.out.trans (hb.mono HB8.out.size)
  have HE9 := hide (HE8.out.below hb)
  clear hb hx HO HB8 HE8
  generalize hev : errV a (Sl.openE key s.data.toList) = ev9
  have HEv := hide hev
  clear hev
  go_wp2_with fail
  refine (HU.out _).mono ?_
  rintro e w10 ⟨l10, rfl, hx, hb⟩
  have HX10 := hide hx
  have HX9b := hide (HX9.out.below hb)
  have HB10 : Hid (Below w.heap.size w w10) := HB9.out.trans (hb.mono HB9.out.size)
  have HE10 := hide (HE9.out.below hb)
  clear hb hx HU HB9 HE9 HX9
  have HCo := hide (fun w h => coded_self a (Sl.openE key s.data.toList) (openE_le _ _) w h)
  rw [HEv.out] at HCo
  generalize (Sl.openE key s.data.toList : Int) = c9 at *
  go_wp2_with fail
  refine (HCo.out _ HE10.out.errs).mono ?_
  rintro e w11 ⟨rfl, hb⟩
  have HS11 := hide (HST.out _ _ _ (HX9b.out.below hb) (HX10.out.below hb))
  have HB11 : Hid (Below w.heap.size w w11) := HB10.out.trans (hb.mono HB10.out.size)
  have HE11 := hide (HE10.out.below hb)
  clear hb HCo HEv HB10 HE10 HX9b HX10 HST
  go_wp2_with fail
  refine HS11.out.mono ?_
  rintro e w12 ⟨rfl, hb⟩
  have HB12 : Hid (Below w.heap.size w w12) := HB11.out.trans (hb.mono HB11.out.size)
  have HE12 := hide (HE11.out.below hb)
  clear hb HS11 HB11 HE11
  go_wp2_with fail
  refine (HLk.out _ HE12.out).mono ?_
  rintro e w13 ⟨l13, rfl, hx, hb⟩
  have HX13 := hide hx
  have HB13 : Hid (Below w.heap.size w w13) := HB12.out.trans (hb.mono HB12.out.size)
  have HE13 := hide (HE12.out.below hb)
  clear hb hx HLk HB12 HE12
  generalize hev : errV a (Sl.lookE s.data.toList) = ev13
  have HEv := hide hev
  clear hev
  go_wp2_with fail
  refine (HLa.out _).mono ?_
  rintro e w14 ⟨l14, n14, rfl, hx, hb⟩
  have HX14 := hide hx
  have HX13b := hide (HX13.out.below hb)
  have HB14 : Hid (Below w.heap.size w w14) := HB13.out.trans (hb.mono HB13.out.size)
  have HE14 := hide (HE13.out.below hb)
  clear hb hx HLa HB13 HE13 HX13
  have HCo := hide (fun w h => coded_self a (Sl.lookE s.data.toList) (by have := lookE_le s.data.toList; omega) w h)
  rw [HEv.out] at HCo
  generalize (Sl.lookE s.data.toList : Int) = c14 at *
  go_wp2_with fail
  refine (HCo.out _ HE14.out.errs).mono ?_
  rintro e w15 ⟨rfl, hb⟩
  have HS15 := hide (HSL.out _ _ _ (HX13b.out.below hb) (HX14.out.below hb))
  have HB15 : Hid (Below w.heap.size w w15) := HB14.out.trans (hb.mono HB14.out.size)
  clear hb HCo HEv HB14 HE14 HX13b HX14 HSL
  go_wp2_with fail
  refine HS15.out.mono ?_
  rintro e w16 ⟨rfl, hb⟩
  have HB16 : Hid (Below w.heap.size w w16) := HB15.out.trans (hb.mono HB15.out.size)
  clear hb HS15 HB15
  go_wp2_with fail
  refine (HNu.out _).mono ?_
  rintro e w17 ⟨rfl, hb⟩
  have HB17 : Hid (Below w.heap.size w w17) := HB16.out.trans (hb.mono HB16.out.size)
  clear hb HNu HB16
  go_wp2_with fail
  refine (HNr.out _).mono ?_
  rintro e w18 ⟨rfl, rfl⟩
  go_wp2_with fail
  refine (HNm.out _).mono ?_
  rintro e w19 ⟨rfl, rfl⟩
  clear HNr HNm
  rcases Hcs.out with ⟨hb1, hb2, hb3⟩ | ⟨hb1, hb2, hb3, hb4⟩
  · rw [hb1, hb2, hb3]
    clear Hcs hb1 hb2 hb3
    cases nm with
    | true =>
      go_wp2_with fail
      refine (HNa.out _).mono ?_
      rintro e w20 ⟨rfl, hb⟩
      have HB20 : Hid (Below w.heap.size w w20) := HB17.out.trans (hb.mono HB17.out.size)
      clear hb
      go_wp2
      go_ret
      exact ⟨rfl, HB20.out⟩
    | false =>
      go_wp2_with fail
      refine (HNa.out _).mono ?_
      rintro e w20 ⟨rfl, hb⟩
      have HB20 : Hid (Below w.heap.size w w20) := HB17.out.trans (hb.mono HB17.out.size)
      clear hb
      go_wp2
      go_ret
      exact ⟨rfl, HB20.out⟩
  · rw [hb1, hb2, hb3]
    clear Hcs hb1 hb2 hb3
    have hqq : (nv == nv) = true := by simp
    cases nm with
    | true =>
      go_wp2_with fail
      refine (HNa.out _).mono ?_
      rintro e w20 ⟨rfl, hb⟩
      have HB20 : Hid (Below w.heap.size w w20) := HB17.out.trans (hb.mono HB17.out.size)
      clear hb
      go_wp2
      go_ret
      exact ⟨rfl, HB20.out⟩
    | false =>
      go_wp2_with fail
      refine (HNa.out _).mono ?_
      rintro e w20 ⟨rfl, hb⟩
      have HB20 : Hid (Below w.heap.size w w20) := HB17.out.trans (hb.mono HB17.out.size)
      clear hb
      go_wp2
      go_ret
      exact ⟨rfl, HB20.out⟩

set_option maxRecDepth 100000 in
set_option maxHeartbeats 4000000 in
theorem sealTells_none_b (a : Nat → Addr) (key : Int) (xs : List ByteArray) (s : ByteArray) (most : Int) (w : World) (h : Env a w) (hv : TextsAt w (.slice none 0 0) xs) (hs : ∀ x ∈ xs, x.size ≤ maxLen) (hl : longB xs = false) (hz : s.size = 4001) :
    Calls Tryz.prog 4 #[.int .i64 key, .slice none 0 0, .string s, .int .i64 most] w fun e w' => e = .returned (.bool true) ∧ Below w.heap.size w w' := by
  have hsm : s.size ≤ maxLen := by unfold maxLen; omega
  have HS := hide (sealed_any a w h)
  have HW := hide (fun w hv => longWords_any (.slice none 0 0) xs w hv hs)
  rw [hl] at HW
  obtain ⟨x, c, at0, hM, hSo⟩ := pair_any a key xs hs
  have HM := hide hM
  have HSo := hide hSo
  have HO := hide (fun w h => open_t a key s w h)
  have HU := hide (fun w => unseal_t key s w hsm)
  have HLk := hide (fun w h => look_t a s w h)
  have HLa := hide (fun w => lookAt_t s w hsm)
  have HST := hide (fun v u w hv hu => sameTexts_both v u (okW (Sl.openE key s.data.toList) (Sl.lookW s.data.toList)) w (okW_len key _).1 hv hu)
  have HSL := hide (fun v u w hv hu => sameTexts_both v u (okW (Sl.lookE s.data.toList) (Sl.lookW s.data.toList)) w (okW_len key _).2 hv hu)
  have HNu := hide (fun w => number_any s most w hsm)
  have HNr := hide (fun w => refNumber_any s most w hsm)
  have HNm := hide (fun w => refName_any s w hsm)
  have HNa := hide (fun w => name_any s w hsm)
  have Hcs := hide (num_cases s.data.toList most)
  generalize Sl.nameL s.data.toList = nm at *
  generalize (Sl.valL s.data.toList : Int) = nv at *
  generalize numB s.data.toList most = nb at *
  generalize numV s.data.toList most = nn at *
  generalize numI s.data.toList most = ni at *
  have HV := hide hv
  have HE := hide h
  clear h hv hM hSo hs hl hsm
  go_enter Tryz.func4, Tryz.ntmps4
  go_wp2_with fail
  refine HS.out.mono ?_
  rintro e w1 ⟨rfl, hb⟩
  have HV1 := hide (HV.out.below hb)
  have HE1 := hide (HE.out.below hb)
  have HB1 := hide hb
  clear hb HV HE HS
  go_wp2_with fail
  refine (HW.out _ HV1.out).mono ?_
  rintro e w4 ⟨rfl, hb⟩
  have HB4 : Hid (Below w.heap.size w w4) := HB1.out.trans (hb.mono HB1.out.size)
  have HV4 := hide (HV1.out.below hb)
  have HE4 := hide (HE1.out.below hb)
  have HC4 : Hid (TextsAt w4 (.slice none 0 0) xs) := HV4.out
  clear hb HW HV1 HE1 HB1
  go_wp2_with fail
  refine (HM.out _ _ HE4.out HC4.out).mono ?_
  rintro e w5 ⟨ev, rfl, hb, hcode⟩
  have HCd := hide hcode
  have HB5 : Hid (Below w.heap.size w w5) := HB4.out.trans (hb.mono HB4.out.size)
  have HV5 := hide (HV4.out.below hb)
  have HE5 := hide (HE4.out.below hb)
  clear hb hcode HM HC4 HB4 HV4 HE4
  go_wp2_with fail
  refine (HSo.out _ _ HV5.out).mono ?_
  rintro e w6 ⟨rfl, hb⟩
  have HB6 : Hid (Below w.heap.size w w6) := HB5.out.trans (hb.mono HB5.out.size)
  have HE6 := hide (HE5.out.below hb)
  have HF6 := hide (faulted_same ev c at0 (w6.alloc (.cells #[.int .i64 c, .int .i64 at0] 35)) (fun w' hw' => HCd.out w' (hb.trans ((((Below.refl _ w6).alloc (Nat.le_refl _) _).trans (hw'.mono (by simp))).mono hb.size))))
  have HB7 : Hid (Below w.heap.size w (w6.alloc (.cells #[.int .i64 c, .int .i64 at0] 35))) := HB6.out.alloc HB6.out.size _
  have HE7 : Hid (Env a (w6.alloc (.cells #[.int .i64 c, .int .i64 at0] 35))) := HE6.out.below ((Below.refl _ w6).alloc (Nat.le_refl _) _)
  clear hb HSo HV5 HB5 HE5 HCd HB6 HE6
  go_wp2_with fail
  refine HF6.out.mono ?_
  rintro e w8 ⟨rfl, hb⟩
  have HB8 : Hid (Below w.heap.size w w8) := HB7.out.trans (hb.mono HB7.out.size)
  have HE8 := hide (HE7.out.below hb)
  clear hb HF6 HB7 HE7
  go_wp2_with fail
  refine (HO.out _ HE8.out).mono ?_
  rintro e w9 ⟨l9, rfl, hx, hb⟩
  have HX9 := hide hx
  have HB9 : Hid (Below w.heap.size w w9) := HB8.out.trans (hb.mono HB8.out.size)
  have HE9 := hide (HE8.out.below hb)
  clear hb hx HO HB8 HE8
  generalize hev : errV a (Sl.openE key s.data.toList) = ev9
  have HEv := hide hev
  clear hev
  go_wp2_with fail
  refine (HU.out _).mono ?_
  rintro e w10 ⟨l10, rfl, hx, hb⟩
  have HX10 := hide hx
  have HX9b := hide (HX9.out.below hb)
  have HB10 : Hid (Below w.heap.size w w10) := HB9.out.trans (hb.mono HB9.out.size)
  have HE10 := hide (HE9.out.below hb)
  clear hb hx HU HB9 HE9 HX9
  have HCo := hide (fun w h => coded_self a (Sl.openE key s.data.toList) (openE_le _ _) w h)
  rw [HEv.out] at HCo
  generalize (Sl.openE key s.data.toList : Int) = c9 at *
  go_wp2_with fail
  refine (HCo.out _ HE10.out.errs).mono ?_
  rintro e w11 ⟨rfl, hb⟩
  have HS11 := hide (HST.out _ _ _ (HX9b.out.below hb) (HX10.out.below hb))
  have HB11 : Hid (Below w.heap.size w w11) := HB10.out.trans (hb.mono HB10.out.size)
  have HE11 := hide (HE10.out.below hb)
  clear hb HCo HEv HB10 HE10 HX9b HX10 HST
  go_wp2_with fail
  refine HS11.out.mono ?_
  rintro e w12 ⟨rfl, hb⟩
  have HB12 : Hid (Below w.heap.size w w12) := HB11.out.trans (hb.mono HB11.out.size)
  have HE12 := hide (HE11.out.below hb)
  clear hb HS11 HB11 HE11
  go_wp2_with fail
  refine (HLk.out _ HE12.out).mono ?_
  rintro e w13 ⟨l13, rfl, hx, hb⟩
  have HX13 := hide hx
  have HB13 : Hid (Below w.heap.size w w13) := HB12.out.trans (hb.mono HB12.out.size)
  have HE13 := hide (HE12.out.below hb)
  clear hb hx HLk HB12 HE12
  generalize hev : errV a (Sl.lookE s.data.toList) = ev13
  have HEv := hide hev
  clear hev
  go_wp2_with fail
  refine (HLa.out _).mono ?_
  rintro e w14 ⟨l14, n14, rfl, hx, hb⟩
  have HX14 := hide hx
  have HX13b := hide (HX13.out.below hb)
  have HB14 : Hid (Below w.heap.size w w14) := HB13.out.trans (hb.mono HB13.out.size)
  have HE14 := hide (HE13.out.below hb)
  clear hb hx HLa HB13 HE13 HX13
  have HCo := hide (fun w h => coded_self a (Sl.lookE s.data.toList) (by have := lookE_le s.data.toList; omega) w h)
  rw [HEv.out] at HCo
  generalize (Sl.lookE s.data.toList : Int) = c14 at *
  go_wp2_with fail
  refine (HCo.out _ HE14.out.errs).mono ?_
  rintro e w15 ⟨rfl, hb⟩
  have HS15 := hide (HSL.out _ _ _ (HX13b.out.below hb) (HX14.out.below hb))
  have HB15 : Hid (Below w.heap.size w w15) := HB14.out.trans (hb.mono HB14.out.size)
  clear hb HCo HEv HB14 HE14 HX13b HX14 HSL
  go_wp2_with fail
  refine HS15.out.mono ?_
  rintro e w16 ⟨rfl, hb⟩
  have HB16 : Hid (Below w.heap.size w w16) := HB15.out.trans (hb.mono HB15.out.size)
  clear hb HS15 HB15
  go_wp2_with fail
  refine (HNu.out _).mono ?_
  rintro e w17 ⟨rfl, hb⟩
  have HB17 : Hid (Below w.heap.size w w17) := HB16.out.trans (hb.mono HB16.out.size)
  clear hb HNu HB16
  go_wp2_with fail
  refine (HNr.out _).mono ?_
  rintro e w18 ⟨rfl, rfl⟩
  go_wp2_with fail
  refine (HNm.out _).mono ?_
  rintro e w19 ⟨rfl, rfl⟩
  clear HNr HNm
  rcases Hcs.out with ⟨hb1, hb2, hb3⟩ | ⟨hb1, hb2, hb3, hb4⟩
  · rw [hb1, hb2, hb3]
    clear Hcs hb1 hb2 hb3
    cases nm with
    | true =>
      go_wp2_with fail
      refine (HNa.out _).mono ?_
      rintro e w20 ⟨rfl, hb⟩
      have HB20 : Hid (Below w.heap.size w w20) := HB17.out.trans (hb.mono HB17.out.size)
      clear hb
      go_wp2
      go_ret
      exact ⟨rfl, HB20.out⟩
    | false =>
      go_wp2_with fail
      refine (HNa.out _).mono ?_
      rintro e w20 ⟨rfl, hb⟩
      have HB20 : Hid (Below w.heap.size w w20) := HB17.out.trans (hb.mono HB17.out.size)
      clear hb
      go_wp2
      go_ret
      exact ⟨rfl, HB20.out⟩
  · rw [hb1, hb2, hb3]
    clear Hcs hb1 hb2 hb3
    have hqq : (nv == nv) = true := by simp
    cases nm with
    | true =>
      go_wp2_with fail
      refine (HNa.out _).mono ?_
      rintro e w20 ⟨rfl, hb⟩
      have HB20 : Hid (Below w.heap.size w w20) := HB17.out.trans (hb.mono HB17.out.size)
      clear hb
      go_wp2
      go_ret
      exact ⟨rfl, HB20.out⟩
    | false =>
      go_wp2_with fail
      refine (HNa.out _).mono ?_
      rintro e w20 ⟨rfl, hb⟩
      have HB20 : Hid (Below w.heap.size w w20) := HB17.out.trans (hb.mono HB17.out.size)
      clear hb
      go_wp2
      go_ret
      exact ⟨rfl, HB20.out⟩

set_option maxRecDepth 100000 in
set_option maxHeartbeats 4000000 in
theorem sealTells_some_b (a : Nat → Addr) (key : Int) (p : Addr) (n cap : Nat) (xs : List ByteArray) (s : ByteArray) (most : Int) (w : World) (h : Env a w) (hn : xs.length = n) (hv : TextsAt w (.slice (some p) n cap) xs) (hs : ∀ x ∈ xs, x.size ≤ maxLen) (hl : longB xs = false) (hz : s.size = 4001) :
    Calls Tryz.prog 4 #[.int .i64 key, .slice (some p) n cap, .string s, .int .i64 most] w fun e w' => e = .returned (.bool true) ∧ Below w.heap.size w w' := by
  obtain ⟨i0, hi, hz0, hz1, hz2⟩ := info_parts Tryz.infoString
  have h15 : n ≤ 15 := by have := longB_15 xs hl; omega
  have Hn := hide hn
  have HCells : Hid (∀ w1, Below w.heap.size w w1 → xs.length ≠ 0 → ∃ b o, p = ⟨b, o, none⟩ ∧ Texts w1 b o xs) := fun w1 hb h0 => by
    obtain ⟨ad', c', e, _, hor⟩ := hv
    injection e with e1 e2 e3
    subst e1
    rcases hor with g | ⟨b, o, e, hx⟩
    · exact absurd g h0
    · injection e with e
      exact ⟨b, o, e, hx.below hb⟩
  clear hn
  have hsm : s.size ≤ maxLen := by unfold maxLen; omega
  have HS := hide (sealed_any a w h)
  have HW := hide (fun w hv => longWords_any (.slice (some p) n cap) xs w hv hs)
  rw [hl] at HW
  obtain ⟨x, c, at0, hM, hSo⟩ := pair_any a key xs hs
  have HM := hide hM
  have HSo := hide hSo
  have HO := hide (fun w h => open_t a key s w h)
  have HU := hide (fun w => unseal_t key s w hsm)
  have HLk := hide (fun w h => look_t a s w h)
  have HLa := hide (fun w => lookAt_t s w hsm)
  have HST := hide (fun v u w hv hu => sameTexts_both v u (okW (Sl.openE key s.data.toList) (Sl.lookW s.data.toList)) w (okW_len key _).1 hv hu)
  have HSL := hide (fun v u w hv hu => sameTexts_both v u (okW (Sl.lookE s.data.toList) (Sl.lookW s.data.toList)) w (okW_len key _).2 hv hu)
  have HNu := hide (fun w => number_any s most w hsm)
  have HNr := hide (fun w => refNumber_any s most w hsm)
  have HNm := hide (fun w => refName_any s w hsm)
  have HNa := hide (fun w => name_any s w hsm)
  have Hcs := hide (num_cases s.data.toList most)
  generalize Sl.nameL s.data.toList = nm at *
  generalize (Sl.valL s.data.toList : Int) = nv at *
  generalize numB s.data.toList most = nb at *
  generalize numV s.data.toList most = nn at *
  generalize numI s.data.toList most = ni at *
  have HV := hide hv
  have HE := hide h
  clear h hv hM hSo hs hl hsm
  go_enter Tryz.func4, Tryz.ntmps4
  go_wp2_with fail
  refine HS.out.mono ?_
  rintro e w1 ⟨rfl, hb⟩
  have HV1 := hide (HV.out.below hb)
  have HE1 := hide (HE.out.below hb)
  have HB1 := hide hb
  clear hb HV HE HS
  go_wp2_with fail
  refine (HW.out _ HV1.out).mono ?_
  rintro e w2 ⟨rfl, hb⟩
  have HB2 : Hid (Below w.heap.size w w2) := HB1.out.trans (hb.mono HB1.out.size)
  have HV2 := hide (HV1.out.below hb)
  have HE2 := hide (HE1.out.below hb)
  have H1 := hide (strs_at (HCells.out w2 HB2.out))
  have Hln : Hid ((xs.map Value.string).length = n * 1) := by show _ = _; rw [List.length_map, Nat.mul_one]; exact Hn.out
  have HbB := hide HB2.out.size
  clear hb HW HV1 HE1 HB1 HCells
  go_wp2_with (first
    | (at_builtin; refine wpList_append_own _ rfl _ _ 22 rfl w.heap.size 9 i0 (.string ByteArray.empty) 1 16 Tryz.underlying22 hi hz0 hz1 hz2 rfl (by decide) _ _ _ rfl (World.ownsRow_nil _ _ _ _) p n cap (xs.map Value.string) rfl Hln.out H1.out (strs_one xs) (by unfold maxLen; omega) (by omega) HbB.out ?_; intro v4 w4 hown hgrow hnn))
  rw [List.nil_append, Nat.zero_add] at hown
  have HC4 := hide (copy_texts Hn.out hown)
  have hb : Below w2.heap.size w2 w4 := (Below.refl _ w2).grown hgrow (Nat.le_refl _) (fun k hk => by cases hk)
  have HB4 : Hid (Below w.heap.size w w4) := HB2.out.trans (hb.mono HB2.out.size)
  have HV4 := hide (HV2.out.below hb)
  have HE4 := hide (HE2.out.below hb)
  clear hb hown hgrow hnn HB2 HV2 HE2 H1
  go_wp2_with fail
  refine (HM.out _ _ HE4.out HC4.out).mono ?_
  rintro e w5 ⟨ev, rfl, hb, hcode⟩
  have HCd := hide hcode
  have HB5 : Hid (Below w.heap.size w w5) := HB4.out.trans (hb.mono HB4.out.size)
  have HV5 := hide (HV4.out.below hb)
  have HE5 := hide (HE4.out.below hb)
  clear hb hcode HM HC4 HB4 HV4 HE4
  go_wp2_with fail
  refine (HSo.out _ _ HV5.out).mono ?_
  rintro e w6 ⟨rfl, hb⟩
  have HB6 : Hid (Below w.heap.size w w6) := HB5.out.trans (hb.mono HB5.out.size)
  have HE6 := hide (HE5.out.below hb)
  have HF6 := hide (faulted_same ev c at0 (w6.alloc (.cells #[.int .i64 c, .int .i64 at0] 35)) (fun w' hw' => HCd.out w' (hb.trans ((((Below.refl _ w6).alloc (Nat.le_refl _) _).trans (hw'.mono (by simp))).mono hb.size))))
  have HB7 : Hid (Below w.heap.size w (w6.alloc (.cells #[.int .i64 c, .int .i64 at0] 35))) := HB6.out.alloc HB6.out.size _
  have HE7 : Hid (Env a (w6.alloc (.cells #[.int .i64 c, .int .i64 at0] 35))) := HE6.out.below ((Below.refl _ w6).alloc (Nat.le_refl _) _)
  clear hb HSo HV5 HB5 HE5 HCd HB6 HE6
  go_wp2_with fail
  refine HF6.out.mono ?_
  rintro e w8 ⟨rfl, hb⟩
  have HB8 : Hid (Below w.heap.size w w8) := HB7.out.trans (hb.mono HB7.out.size)
  have HE8 := hide (HE7.out.below hb)
  clear hb HF6 HB7 HE7
  go_wp2_with fail
  refine (HO.out _ HE8.out).mono ?_
  rintro e w9 ⟨l9, rfl, hx, hb⟩
  have HX9 := hide hx
  have HB9 : Hid (Below w.heap.size w w9) := HB8.out.trans (hb.mono HB8.out.size)
  have HE9 := hide (HE8.out.below hb)
  clear hb hx HO HB8 HE8
  generalize hev : errV a (Sl.openE key s.data.toList) = ev9
  have HEv := hide hev
  clear hev
  go_wp2_with fail
  refine (HU.out _).mono ?_
  rintro e w10 ⟨l10, rfl, hx, hb⟩
  have HX10 := hide hx
  have HX9b := hide (HX9.out.below hb)
  have HB10 : Hid (Below w.heap.size w w10) := HB9.out.trans (hb.mono HB9.out.size)
  have HE10 := hide (HE9.out.below hb)
  clear hb hx HU HB9 HE9 HX9
  have HCo := hide (fun w h => coded_self a (Sl.openE key s.data.toList) (openE_le _ _) w h)
  rw [HEv.out] at HCo
  generalize (Sl.openE key s.data.toList : Int) = c9 at *
  go_wp2_with fail
  refine (HCo.out _ HE10.out.errs).mono ?_
  rintro e w11 ⟨rfl, hb⟩
  have HS11 := hide (HST.out _ _ _ (HX9b.out.below hb) (HX10.out.below hb))
  have HB11 : Hid (Below w.heap.size w w11) := HB10.out.trans (hb.mono HB10.out.size)
  have HE11 := hide (HE10.out.below hb)
  clear hb HCo HEv HB10 HE10 HX9b HX10 HST
  go_wp2_with fail
  refine HS11.out.mono ?_
  rintro e w12 ⟨rfl, hb⟩
  have HB12 : Hid (Below w.heap.size w w12) := HB11.out.trans (hb.mono HB11.out.size)
  have HE12 := hide (HE11.out.below hb)
  clear hb HS11 HB11 HE11
  go_wp2_with fail
  refine (HLk.out _ HE12.out).mono ?_
  rintro e w13 ⟨l13, rfl, hx, hb⟩
  have HX13 := hide hx
  have HB13 : Hid (Below w.heap.size w w13) := HB12.out.trans (hb.mono HB12.out.size)
  have HE13 := hide (HE12.out.below hb)
  clear hb hx HLk HB12 HE12
  generalize hev : errV a (Sl.lookE s.data.toList) = ev13
  have HEv := hide hev
  clear hev
  go_wp2_with fail
  refine (HLa.out _).mono ?_
  rintro e w14 ⟨l14, n14, rfl, hx, hb⟩
  have HX14 := hide hx
  have HX13b := hide (HX13.out.below hb)
  have HB14 : Hid (Below w.heap.size w w14) := HB13.out.trans (hb.mono HB13.out.size)
  have HE14 := hide (HE13.out.below hb)
  clear hb hx HLa HB13 HE13 HX13
  have HCo := hide (fun w h => coded_self a (Sl.lookE s.data.toList) (by have := lookE_le s.data.toList; omega) w h)
  rw [HEv.out] at HCo
  generalize (Sl.lookE s.data.toList : Int) = c14 at *
  go_wp2_with fail
  refine (HCo.out _ HE14.out.errs).mono ?_
  rintro e w15 ⟨rfl, hb⟩
  have HS15 := hide (HSL.out _ _ _ (HX13b.out.below hb) (HX14.out.below hb))
  have HB15 : Hid (Below w.heap.size w w15) := HB14.out.trans (hb.mono HB14.out.size)
  clear hb HCo HEv HB14 HE14 HX13b HX14 HSL
  go_wp2_with fail
  refine HS15.out.mono ?_
  rintro e w16 ⟨rfl, hb⟩
  have HB16 : Hid (Below w.heap.size w w16) := HB15.out.trans (hb.mono HB15.out.size)
  clear hb HS15 HB15
  go_wp2_with fail
  refine (HNu.out _).mono ?_
  rintro e w17 ⟨rfl, hb⟩
  have HB17 : Hid (Below w.heap.size w w17) := HB16.out.trans (hb.mono HB16.out.size)
  clear hb HNu HB16
  go_wp2_with fail
  refine (HNr.out _).mono ?_
  rintro e w18 ⟨rfl, rfl⟩
  go_wp2_with fail
  refine (HNm.out _).mono ?_
  rintro e w19 ⟨rfl, rfl⟩
  clear HNr HNm
  rcases Hcs.out with ⟨hb1, hb2, hb3⟩ | ⟨hb1, hb2, hb3, hb4⟩
  · rw [hb1, hb2, hb3]
    clear Hcs hb1 hb2 hb3
    cases nm with
    | true =>
      go_wp2_with fail
      refine (HNa.out _).mono ?_
      rintro e w20 ⟨rfl, hb⟩
      have HB20 : Hid (Below w.heap.size w w20) := HB17.out.trans (hb.mono HB17.out.size)
      clear hb
      go_wp2
      go_ret
      exact ⟨rfl, HB20.out⟩
    | false =>
      go_wp2_with fail
      refine (HNa.out _).mono ?_
      rintro e w20 ⟨rfl, hb⟩
      have HB20 : Hid (Below w.heap.size w w20) := HB17.out.trans (hb.mono HB17.out.size)
      clear hb
      go_wp2
      go_ret
      exact ⟨rfl, HB20.out⟩
  · rw [hb1, hb2, hb3]
    clear Hcs hb1 hb2 hb3
    have hqq : (nv == nv) = true := by simp
    cases nm with
    | true =>
      go_wp2_with fail
      refine (HNa.out _).mono ?_
      rintro e w20 ⟨rfl, hb⟩
      have HB20 : Hid (Below w.heap.size w w20) := HB17.out.trans (hb.mono HB17.out.size)
      clear hb
      go_wp2
      go_ret
      exact ⟨rfl, HB20.out⟩
    | false =>
      go_wp2_with fail
      refine (HNa.out _).mono ?_
      rintro e w20 ⟨rfl, hb⟩
      have HB20 : Hid (Below w.heap.size w w20) := HB17.out.trans (hb.mono HB17.out.size)
      clear hb
      go_wp2
      go_ret
      exact ⟨rfl, HB20.out⟩

theorem sealTells_walk (a : Nat → Addr) (key : Int) (v : Value) (xs : List ByteArray) (s : ByteArray) (most : Int) (w : World) (h : Env a w) (_ : I64 key) (hv : TextsAt w v xs) (hnil : ∀ n c, v = .slice none n c → c = 0) (hs : ∀ x ∈ xs, x.size ≤ maxLen) (hz : s.size ≤ maxLen) (_ : I64 most) :
    Calls Tryz.prog 4 #[.int .i64 key, v, .string s, .int .i64 most] w fun e w' => e = .returned (.bool true) ∧ Below w.heap.size w w' := by
  by_cases hl : longB xs = true ∨ (400 < s.size ∧ s.size ≠ 4001)
  · exact sealTells_long a key v xs s most w h hv hs hz hl
  · have h1 : longB xs = false := by
      cases e : longB xs with
      | false => rfl
      | true => exact absurd (Or.inl e) hl
    have h2 : s.size ≤ 400 ∨ s.size = 4001 := by
      by_cases g : s.size ≤ 400
      · exact Or.inl g
      · by_cases g2 : s.size = 4001
        · exact Or.inr g2
        · exact absurd (Or.inr ⟨by omega, g2⟩) hl
    have hv2 := hv
    obtain ⟨ad, c, rfl, _, hor⟩ := hv
    cases ad with
    | none =>
      have h0 : xs.length = 0 := by
        rcases hor with g | ⟨b, o, e, _⟩
        · exact g
        · cases e
      have hc := hnil _ c rfl
      subst hc
      rw [h0] at hv2 ⊢
      rcases h2 with g | g
      · exact sealTells_none_a a key xs s most w h hv2 hs h1 g
      · exact sealTells_none_b a key xs s most w h hv2 hs h1 g
    | some p =>
      rcases h2 with g | g
      · exact sealTells_some_a a key p _ c xs s most w h rfl hv2 hs h1 g
      · exact sealTells_some_b a key p _ c xs s most w h rfl hv2 hs h1 g
end Go.Proofs.YtgagekcjdapkfaaGreatDoor

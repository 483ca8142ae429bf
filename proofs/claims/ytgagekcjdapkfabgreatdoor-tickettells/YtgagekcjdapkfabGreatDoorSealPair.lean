/-
  Package seal's answers held beside the document's: Make beside SealOf, Open beside Unseal, Look beside LookAt: the same texts, and errors of the same number and place; for every key, words and text.
-/
import Derived.Test.YtgagekcjdapkfabGreatDoorSealOf
namespace Go.Proofs.YtgagekcjdapkfabGreatDoor
open Go.RowKit Go.Extern.Stop Go.Stop Go.Extern

theorem wrong_before (xs : List ByteArray) (k : Nat) (h : wrongI xs = (k : Int)) : ∃ hk : k < xs.length, Sl.wordL xs[k].data.toList = false ∧ ∀ j (hj : j < xs.length), j < k → Sl.wordL xs[j].data.toList = true := by
  unfold wrongI at h
  cases hf : xs.findIdx? (fun x => !Sl.wordL x.data.toList) with
  | none =>
    rw [hf] at h
    exact absurd h (by show ¬ ((-1 : Int) = k); omega)
  | some i =>
    rw [hf] at h
    have e : i = k := by
      have : ((i : Nat) : Int) = k := h
      omega
    subst e
    obtain ⟨hk, h2, h3⟩ := List.findIdx?_eq_some_iff_getElem.1 hf
    exact ⟨hk, by simpa using h2, fun j hj hjk => by simpa using h3 j hjk⟩

/-- Make and SealOf: the same text, and an error of the same number and place. -/
theorem pair_any (a : Nat → Addr) (key : Int) (xs : List ByteArray) (hs : ∀ x ∈ xs, x.size ≤ maxLen) : ∃ (x : ByteArray) (c at0 : Int),
    (∀ w v, Env a w → TextsAt w v xs → Calls Tryz.prog 43 #[.int .i64 key, v] w fun e w' => ∃ ev, e = .returned (.tuple #[.string x, ev]) ∧ Below w.heap.size w w' ∧
      ∀ w'', Below w'.heap.size w' w'' → Calls Tryz.prog 53 #[ev] w'' fun e3 w3 => e3 = .returned (.tuple #[.int .i64 c, .int .i64 at0]) ∧ Below w''.heap.size w'' w3) ∧
    (∀ w v, TextsAt w v xs → Calls Tryz.prog 51 #[.int .i64 key, v] w fun e w' => e = .returned (.tuple #[.string x, .agg #[.int .i64 c, .int .i64 at0]]) ∧ Below w.heap.size w w') := by
  by_cases hk : 1 ≤ key ∧ key ≤ 1000000006
  · by_cases hn : 1 ≤ xs.length ∧ xs.length ≤ 10
    · have hsome : ∀ w v, TextsAt w v xs → ∃ b o c, v = .slice (some ⟨b, o, none⟩) xs.length c ∧ xs.length ≤ c ∧ Texts w b o xs := fun w v hv => by
        obtain ⟨ad, c, rfl, hc, hor⟩ := hv
        rcases hor with g | ⟨b, o, rfl, hx⟩
        · omega
        · exact ⟨b, o, c, rfl, hc, hx⟩
      rcases wrongI_cases xs with ⟨_, hall⟩ | ⟨k, _, hi, _⟩
      · have hw : Sl.wordsOk (toLs xs) = true := (Sl.wordsOk_iff _).2 ⟨by rw [List.length_map]; exact hn, fun l hl => by
          obtain ⟨x, hx2, rfl⟩ := List.mem_map.1 hl
          exact hall x hx2⟩
        refine ⟨Sl.ofL (Sl.sealL key (toLs xs)), 0, -1, fun w v hE hv => ?_, fun w v hv => ?_⟩
        · refine (make_good a key v xs w hE hv hk hw).mono ?_
          rintro e w' ⟨rfl, hb⟩
          refine ⟨_, rfl, hb, fun w'' _ => (code_nil w'').mono ?_⟩
          rintro e3 w3 ⟨rfl, rfl⟩
          exact ⟨rfl, Below.refl _ _⟩
        · obtain ⟨b, o, c, rfl, _, hx⟩ := hsome w v hv
          exact sealOf_ok key b o xs.length c xs w hk hx rfl hw
      · obtain ⟨hkl, hw, hbef⟩ := wrong_before xs k hi
        refine ⟨⟨#[]⟩, 1, (k : Int), fun w v hE hv => ?_, fun w v hv => ?_⟩
        · obtain ⟨b, o, c, rfl, _, hx⟩ := hsome w v hv
          refine (make_wrong a key b o xs.length c xs w hE hk hn hx rfl hs k hi).mono ?_
          rintro e w' ⟨f, h0, h1, rfl, hb⟩
          refine ⟨_, rfl, hb, fun w'' hb2 => ?_⟩
          exact code_at a 0 (by decide) f 0 (k : Int) w'' ((hE.errs.below hb).below hb2) (by rw [hb2.cell (p := ⟨f, 0, none⟩) (cell_lt h0)]; exact h0) (by rw [hb2.cell (p := ⟨f, 0 + 1, none⟩) (cell_lt h1)]; exact h1)
        · obtain ⟨b, o, c, rfl, _, hx⟩ := hsome w v hv
          exact sealOf_wrong key b o xs.length c xs w hk hn hx rfl hs k hkl hw hbef
    · refine ⟨⟨#[]⟩, 3, -1, fun w v hE hv => ?_, fun w v hv => ?_⟩
      · obtain ⟨ad, c, rfl, _, _⟩ := hv
        refine (make_count a key ad xs.length c w hE hk hn).mono ?_
        rintro e w' ⟨rfl, hb⟩
        exact ⟨_, rfl, hb, fun w'' hb2 => code_err a 2 (by decide) w'' ((hE.errs.below hb).below hb2)⟩
      · obtain ⟨ad, c, rfl, _, _⟩ := hv
        exact sealOf_count key ad xs.length c w hk hn
  · refine ⟨⟨#[]⟩, 10, -1, fun w v hE _ => ?_, fun w v _ => sealOf_key key v w hk⟩
    refine (make_key a key v w hE hk).mono ?_
    rintro e w' ⟨rfl, hb⟩
    exact ⟨_, rfl, hb, fun w'' hb2 => code_err a 9 (by decide) w'' ((hE.errs.below hb).below hb2)⟩

/-- The texts that go with an error's number. -/
def okW (c : Nat) (ws : List (List UInt8)) : List ByteArray := if c = 0 then ws.map Sl.ofL else []
theorem okW_no (c : Nat) (ws : List (List UInt8)) (h : c ≠ 0) : okW c ws = [] := by unfold okW; rw [if_neg h]
theorem okW_yes (ws : List (List UInt8)) : okW 0 ws = ws.map Sl.ofL := rfl
theorem textsAt_nil (w : World) : TextsAt w (.slice none 0 0) [] := ⟨none, 0, rfl, Nat.le_refl _, Or.inl rfl⟩
theorem textsAt_of {w : World} {b n cap : Nat} {xs : List ByteArray} (hn : xs.length = n) (h : Texts w b 0 xs) (hc : n ≤ cap) : TextsAt w (.slice (some ⟨b, 0, none⟩) n cap) xs := ⟨some ⟨b, 0, none⟩, cap, by rw [hn], by rw [hn]; exact hc, Or.inr ⟨b, 0, rfl, h⟩⟩

theorem words_t {a : Nat → Addr} {c : Nat} {ws : List (List UInt8)} {e : Ending} {w' : World} (h : WordsPost a c ws e w') : ∃ sl, e = .returned (.tuple #[sl, errV a c]) ∧ TextsAt w' sl (okW c ws) := by
  unfold WordsPost at h
  by_cases h0 : c = 0
  · rw [if_pos h0] at h
    obtain ⟨b, hx, rfl⟩ := h
    subst h0
    exact ⟨_, rfl, textsAt_of (by rw [okW_yes, List.length_map]) hx (Nat.le_refl _)⟩
  · rw [if_neg h0] at h
    subst h
    rw [okW_no c ws h0]
    exact ⟨_, rfl, textsAt_nil w'⟩
theorem open_t (a : Nat → Addr) (key : Int) (s : ByteArray) (w : World) (h : Env a w) :
    Calls Tryz.prog 45 #[.int .i64 key, .string s] w fun e w' => ∃ sl, e = .returned (.tuple #[sl, errV a (Sl.openE key s.data.toList)]) ∧ TextsAt w' sl (okW (Sl.openE key s.data.toList) (Sl.lookW s.data.toList)) ∧ Below w.heap.size w w' := by
  refine (open_any a key s w h).mono ?_
  rintro e w' ⟨hb, hp⟩
  obtain ⟨sl, h1, h2⟩ := words_t hp
  exact ⟨sl, h1, h2, hb⟩
theorem look_t (a : Nat → Addr) (s : ByteArray) (w : World) (h : Env a w) :
    Calls Tryz.prog 47 #[.string s] w fun e w' => ∃ sl, e = .returned (.tuple #[sl, errV a (Sl.lookE s.data.toList)]) ∧ TextsAt w' sl (okW (Sl.lookE s.data.toList) (Sl.lookW s.data.toList)) ∧ Below w.heap.size w w' := by
  refine (look_any a s w h).mono ?_
  rintro e w' ⟨hb, hp⟩
  obtain ⟨sl, h1, h2⟩ := words_t hp
  exact ⟨sl, h1, h2, hb⟩
theorem unseal_t (key : Int) (s : ByteArray) (w : World) (hs : s.size ≤ maxLen) :
    Calls Tryz.prog 57 #[.int .i64 key, .string s] w fun e w' => ∃ sl, e = .returned (.tuple #[sl, .int .i64 (Sl.openE key s.data.toList)]) ∧ TextsAt w' sl (okW (Sl.openE key s.data.toList) (Sl.lookW s.data.toList)) ∧ Below w.heap.size w w' := by
  refine (refUnseal_any key s w hs).mono ?_
  rintro e w' ⟨hb, hp⟩
  generalize Sl.openE key s.data.toList = c at *
  unfold UnsealPost at hp
  by_cases h0 : c = 0
  · rw [if_pos h0] at hp
    obtain ⟨b, cap, hx, hc, rfl⟩ := hp
    subst h0
    exact ⟨_, rfl, textsAt_of (by rw [okW_yes, List.length_map]) hx hc, hb⟩
  · rw [if_neg h0] at hp
    subst hp
    rw [okW_no c _ h0]
    exact ⟨_, rfl, textsAt_nil w', hb⟩
theorem lookAt_t (s : ByteArray) (w : World) (hs : s.size ≤ maxLen) :
    Calls Tryz.prog 19 #[.string s] w fun e w' => ∃ sl n, e = .returned (.tuple #[sl, .int .i64 n, .int .i64 (Sl.lookE s.data.toList)]) ∧ TextsAt w' sl (okW (Sl.lookE s.data.toList) (Sl.lookW s.data.toList)) ∧ Below w.heap.size w w' := by
  refine (refLook_any s w hs).mono ?_
  rintro e w' ⟨hb, hp⟩
  unfold LookPost at hp
  by_cases h0 : Sl.lookE s.data.toList = 0
  · rw [if_pos h0] at hp
    obtain ⟨b, cap, hx, hc, rfl⟩ := hp
    rw [h0]
    exact ⟨_, _, rfl, textsAt_of (by rw [okW_yes, List.length_map]) hx hc, hb⟩
  · rw [if_neg h0] at hp
    subst hp
    rw [okW_no _ _ h0]
    exact ⟨_, _, rfl, textsAt_nil w', hb⟩

theorem lookE_le (l : List UInt8) : Sl.lookE l ≤ 2 := by
  unfold Sl.lookE
  split
  · omega
  · split <;> omega
theorem openE_le (key : Int) (l : List UInt8) : Sl.openE key l ≤ 16 := by
  have := lookE_le l
  unfold Sl.openE
  split
  · split
    · split <;> omega
    · omega
  · omega
theorem okW_len (key : Int) (l : List UInt8) : (okW (Sl.openE key l) (Sl.lookW l)).length ≤ 1000000 ∧ (okW (Sl.lookE l) (Sl.lookW l)).length ≤ 1000000 := by
  have h : ∀ c, (c = 0 → Sl.lookE l = 0) → (okW c (Sl.lookW l)).length ≤ 1000000 := fun c hc => by
    unfold okW
    split
    · rw [List.length_map]
      have := (glue_small l (hc (by assumption))).2
      omega
    · simp
  exact ⟨h _ (fun e => ((Sl.openE_iff key l).1 e).2.1), h _ id⟩
theorem coded_self (a : Nat → Addr) (c : Nat) (hc : c ≤ 16) (w : World) (h : Errs a w) :
    Calls Tryz.prog 14 #[errV a c, .int .i64 (c : Int)] w fun e w' => e = .returned (.bool true) ∧ Below w.heap.size w w' := by
  have := coded_errV a c hc (c : Int) w h
  rwa [decide_eq_true rfl] at this
end Go.Proofs.YtgagekcjdapkfabGreatDoor

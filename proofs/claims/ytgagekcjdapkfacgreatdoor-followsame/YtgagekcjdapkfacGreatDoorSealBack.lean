/-
  The call of SealBack returns true wherever the sixteen errors, the library's MaxLen and its powers of ten lie as the program lays them, for every key, words, text, place and byte; nothing that was there changes.
-/
import Derived.Test.YtgagekcjdapkfacGreatDoorSealSame
namespace Go.Proofs.YtgagekcjdapkfacGreatDoor
open Go.RowKit Go.Extern.Stop Go.Stop Go.Extern

/-- A slice of texts, as it came in. -/
def TextsAt (w : World) (v : Value) (xs : List ByteArray) : Prop := ∃ ad c, v = .slice ad xs.length c ∧ xs.length ≤ c ∧ (xs.length = 0 ∨ ∃ b o, ad = some ⟨b, o, none⟩ ∧ Texts w b o xs)
theorem TextsAt.below {w w' : World} {v : Value} {xs : List ByteArray} (h : TextsAt w v xs) (hb : Below w.heap.size w w') : TextsAt w' v xs := by
  obtain ⟨ad, c, h1, h2, h3⟩ := h
  refine ⟨ad, c, h1, h2, ?_⟩
  rcases h3 with h3 | ⟨b, o, h4, h5⟩
  · exact Or.inl h3
  · exact Or.inr ⟨b, o, h4, h5.below hb⟩

/-- Their bytes. -/
abbrev toLs (xs : List ByteArray) : List (List UInt8) := xs.map (·.data.toList)

theorem make_fail (a : Nat → Addr) (key : Int) (v : Value) (xs : List ByteArray) (w : World) (h : Env a w) (hv : TextsAt w v xs) (hs : ∀ x ∈ xs, x.size ≤ maxLen) (hbad : ¬ ((1 ≤ key ∧ key ≤ 1000000006) ∧ Sl.wordsOk (toLs xs) = true)) :
    Calls Tryz.prog 58 #[.int .i64 key, v] w fun e w' => (∃ T p, e = .returned (.tuple #[.string ⟨#[]⟩, .iface T p])) ∧ Below w.heap.size w w' := by
  by_cases hk : 1 ≤ key ∧ key ≤ 1000000006
  · obtain ⟨ad, c, rfl, hc, hor⟩ := hv
    by_cases hn : 1 ≤ xs.length ∧ xs.length ≤ 10
    · obtain ⟨b, o, rfl, hx⟩ : ∃ b o, ad = some ⟨b, o, none⟩ ∧ Texts w b o xs := by
        rcases hor with g | g
        · omega
        · exact g
      rcases wrongI_cases xs with ⟨_, hall⟩ | ⟨k, hk2, hi, _⟩
      · exfalso
        refine hbad ⟨hk, (Sl.wordsOk_iff _).2 ⟨by rw [List.length_map]; exact hn, fun l hl => ?_⟩⟩
        obtain ⟨x, hx2, rfl⟩ := List.mem_map.1 hl
        exact hall x hx2
      · refine (make_wrong a key b o xs.length c xs w h hk hn hx rfl hs k hi).mono ?_
        rintro e w' ⟨f, _, _, rfl, hb⟩
        exact ⟨⟨_, _, rfl⟩, hb⟩
    · refine (make_count a key ad xs.length c w h hk hn).mono ?_
      rintro e w' ⟨rfl, hb⟩
      exact ⟨⟨_, _, rfl⟩, hb⟩
  · refine (make_key a key v w h hk).mono ?_
    rintro e w' ⟨rfl, hb⟩
    exact ⟨⟨_, _, rfl⟩, hb⟩
theorem make_good (a : Nat → Addr) (key : Int) (v : Value) (xs : List ByteArray) (w : World) (h : Env a w) (hv : TextsAt w v xs) (hk : 1 ≤ key ∧ key ≤ 1000000006) (hw : Sl.wordsOk (toLs xs) = true) :
    Calls Tryz.prog 58 #[.int .i64 key, v] w fun e w' => e = .returned (.tuple #[.string (Sl.ofL (Sl.sealL key (toLs xs))), .nilIface]) ∧ Below w.heap.size w w' := by
  obtain ⟨ad, c, rfl, hc, hor⟩ := hv
  have hn := ((Sl.wordsOk_iff _).1 hw).1
  rw [List.length_map] at hn
  obtain ⟨b, o, rfl, hx⟩ : ∃ b o, ad = some ⟨b, o, none⟩ ∧ Texts w b o xs := by
    rcases hor with g | g
    · omega
    · exact g
  exact make_ok a key b o xs.length c xs w h hk hc hx rfl hw
/-- What Open says: words, or an error. -/
theorem open_cases (a : Nat → Addr) (key : Int) (s : ByteArray) (w : World) (h : Env a w) :
    Calls Tryz.prog 60 #[.int .i64 key, .string s] w fun e w' => Below w.heap.size w w' ∧
      ((Sl.openE key s.data.toList = 0 ∧ ∃ b, Texts w' b 0 ((Sl.lookW s.data.toList).map Sl.ofL) ∧ e = .returned (.tuple #[.slice (some ⟨b, 0, none⟩) (Sl.lookW s.data.toList).length (Sl.lookW s.data.toList).length, .nilIface])) ∨
       (Sl.openE key s.data.toList ≠ 0 ∧ ∃ p, e = .returned (.tuple #[.slice none 0 0, .iface 263 p]))) := by
  refine (open_any a key s w h).mono ?_
  rintro e w' ⟨hb, hp⟩
  refine ⟨hb, ?_⟩
  unfold WordsPost at hp
  by_cases h0 : Sl.openE key s.data.toList = 0
  · rw [if_pos h0] at hp
    exact Or.inl ⟨h0, hp⟩
  · rw [if_neg h0, errV_posS a _ h0] at hp
    exact Or.inr ⟨h0, _, hp⟩

/-- Opened, and sealed anew: the text as it was. -/
theorem make_back (a : Nat → Addr) (key : Int) (s : ByteArray) (b : Nat) (w : World) (h : Env a w) (h0 : Sl.openE key s.data.toList = 0) (hx : Texts w b 0 ((Sl.lookW s.data.toList).map Sl.ofL)) :
    Calls Tryz.prog 58 #[.int .i64 key, .slice (some ⟨b, 0, none⟩) (Sl.lookW s.data.toList).length (Sl.lookW s.data.toList).length] w fun e w' => e = .returned (.tuple #[.string s, .nilIface]) ∧ Below w.heap.size w w' := by
  obtain ⟨e1, hw⟩ := Sl.open_seal key _ h0
  have hk := ((Sl.openE_iff key _).1 h0).1
  have hmm : toLs ((Sl.lookW s.data.toList).map Sl.ofL) = Sl.lookW s.data.toList := by
    unfold toLs
    rw [List.map_map]
    conv => rhs; rw [← List.map_id (Sl.lookW s.data.toList)]
    exact List.map_congr_left fun l _ => rfl
  have := make_good a key (.slice (some ⟨b, 0, none⟩) (Sl.lookW s.data.toList).length (Sl.lookW s.data.toList).length) ((Sl.lookW s.data.toList).map Sl.ofL) w h ⟨_, _, by rw [List.length_map], by simp, Or.inr ⟨b, 0, rfl, hx⟩⟩ hk (by rw [hmm]; exact hw)
  rw [hmm, e1, Sl.ofL_toL] at this
  exact this

end Go.Proofs.YtgagekcjdapkfacGreatDoor

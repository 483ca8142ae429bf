/-
  What the statements' helpers answer: SameTexts true of two slices of the same texts; longWords whether there are more than fifteen or one of more than thirty bytes; the closed fact 'sealed' is true.
-/
import Derived.Test.YtgagekcjdapkfaaGreatDoorSealMake
namespace Go.Proofs.YtgagekcjdapkfaaGreatDoor
open Go.RowKit Go.Extern.Stop Go.Stop Go.Extern

set_option maxHeartbeats 1000000 in
theorem sameTexts_eq (xs : List ByteArray) (n ba oa ca bb ob cb : Nat) (w : World) (hl : xs.length = n) (hsz : n ≤ 1000000) (ha : Texts w ba oa xs) (hb : Texts w bb ob xs) :
    Calls Tryz.prog 9 #[.slice (some ⟨ba, oa, none⟩) n ca, .slice (some ⟨bb, ob, none⟩) n cb] w fun e w' => e = .returned (.bool true) ∧ Below w.heap.size w w' := by
  have HA := hide ha
  have HB := hide hb
  have HL := hide hl
  clear ha hb hl
  go_enter Tryz.func9, Tryz.ntmps9
  go_wp2
  go_loopw [5] (fun c wr => ∃ k : Nat, k ≤ n ∧ c = .int .i64 k ∧ Below w.heap.size w wr) (fun c _ => n - (intOf c).toNat)
  case atStart => exact ⟨0, by omega, rfl, Below.refl _ _⟩
  case round =>
    obtain ⟨k, hk, rfl, hbl⟩ := hrel
    by_cases hlt : k < n
    · have hkl : k < xs.length := by rw [HL.out]; exact hlt
      have h1 := HA.out.below hbl k hkl
      have h2 := HB.out.below hbl k hkl
      generalize xs[k] = y at h1 h2
      have HBl : Hid (Below w.heap.size w wr) := hbl
      clear hbl hkl
      go_wp2
      go_region
      go_wp2
      go_roundw
      case rel => exact ⟨k + 1, by omega, by go_num, HBl.out.drew⟩
      case measure => simp [intOf]; omega
    · go_wp2
      go_ret
      exact ⟨rfl, hbl⟩

theorem sameTexts_none (aa ab : Option Addr) (ca cb : Nat) (w : World) :
    Calls Tryz.prog 9 #[.slice aa 0 ca, .slice ab 0 cb] w fun e w' => e = .returned (.bool true) ∧ Below w.heap.size w w' := by
  go_enter Tryz.func9, Tryz.ntmps9
  go_wp2
  go_loopw [5] (fun c wr => c = .int .i64 0 ∧ Below w.heap.size w wr) (fun _ _ => 0)
  case atStart => exact ⟨rfl, Below.refl _ _⟩
  case round =>
    obtain ⟨rfl, hbl⟩ := hrel
    go_wp2
    go_ret
    exact ⟨rfl, hbl⟩

/-- Texts too many, or too long, for a statement. -/
def longB (xs : List ByteArray) : Bool := decide (15 < xs.length) || xs.any (fun x => decide (30 < x.size))

theorem longWords_many (ad : Option Addr) (n c : Nat) (w : World) (hn : 15 < n) :
    Calls Tryz.prog 6 #[.slice ad n c] w fun e w' => e = .returned (.bool true) ∧ Below w.heap.size w w' := by
  go_enter Tryz.func6, Tryz.ntmps6
  go_wp2
  go_ret
  exact ⟨rfl, Below.refl _ _⟩
theorem longWords_none (ad : Option Addr) (c : Nat) (w : World) :
    Calls Tryz.prog 6 #[.slice ad 0 c] w fun e w' => e = .returned (.bool false) ∧ Below w.heap.size w w' := by
  go_enter Tryz.func6, Tryz.ntmps6
  go_wp2
  go_loopw [3] (fun c wr => c = .int .i64 0 ∧ Below w.heap.size w wr) (fun _ _ => 0)
  case atStart => exact ⟨rfl, Below.refl _ _⟩
  case round =>
    obtain ⟨rfl, hbl⟩ := hrel
    go_wp2
    go_ret
    exact ⟨rfl, hbl⟩

set_option maxHeartbeats 1000000 in
theorem longWords_some (xs : List ByteArray) (b o n c : Nat) (w : World) (hl : xs.length = n) (hn : n ≤ 15) (hx : Texts w b o xs) (hs : ∀ x ∈ xs, x.size ≤ maxLen) :
    Calls Tryz.prog 6 #[.slice (some ⟨b, o, none⟩) n c] w fun e w' => e = .returned (.bool (xs.any (fun x => decide (30 < x.size)))) ∧ Below w.heap.size w w' := by
  have HX := hide hx
  have HL := hide hl
  have HS := hide hs
  clear hx hl hs
  go_enter Tryz.func6, Tryz.ntmps6
  go_wp2
  go_loopw [3] (fun c wr => ∃ k : Nat, k ≤ n ∧ c = .int .i64 k ∧ Below w.heap.size w wr ∧ Hid (∀ j (hj : j < xs.length), j < k → xs[j].size ≤ 30)) (fun c _ => n - (intOf c).toNat)
  case atStart => exact ⟨0, by omega, rfl, Below.refl _ _, fun j _ hj => absurd hj (Nat.not_lt_zero _)⟩
  case round =>
    obtain ⟨k, hk, rfl, hbl, A⟩ := hrel
    by_cases hlt : k < n
    · have hkl : k < xs.length := by rw [HL.out]; exact hlt
      have h1 := HX.out.below hbl k hkl
      have hz := HS.out _ (List.getElem_mem hkl)
      unfold maxLen at hz
      have HBl : Hid (Below w.heap.size w wr) := hbl
      by_cases h30 : 30 < xs[k].size
      · have HY : Hid (xs.any (fun x => decide (30 < x.size)) = true) := List.any_eq_true.2 ⟨xs[k], List.getElem_mem _, decide_eq_true h30⟩
        generalize xs[k] = y at h1 hz h30
        clear hbl
        go_wp2
        go_ret
        exact ⟨by rw [HY.out]; rfl, HBl.out⟩
      · have HY : Hid (xs[k].size ≤ 30) := by show _ ≤ _; omega
        generalize xs[k] = y at h1 hz h30
        clear hbl
        go_wp2
        go_roundw
        case rel =>
          refine ⟨k + 1, by omega, by go_num, HBl.out, (show Hid _ from fun j hj hjk => ?_)⟩
          by_cases e : j = k
          · subst e; exact HY.out
          · exact A.out j hj (by omega)
        case measure => simp [intOf]; omega
    · have HY : Hid (xs.any (fun x => decide (30 < x.size)) = false) := by
        show _ = _
        rw [List.any_eq_false]
        intro x hx
        obtain ⟨j, hj, rfl⟩ := List.getElem_of_mem hx
        have := A.out j hj (by rw [HL.out] at hj; omega)
        simp; omega
      have HBl : Hid (Below w.heap.size w wr) := hbl
      clear hbl
      go_wp2
      go_ret
      exact ⟨by rw [HY.out]; rfl, HBl.out⟩

def ws0 : List (List UInt8) := [[97], [98, 45, 49]]
def xs0 : List ByteArray := [⟨#[97]⟩, ⟨#[98, 45, 49]⟩]
theorem ws0_ok : Sl.wordsOk ws0 = true := by decide
theorem mk6_ne : Mk.mk 6 6 (Sl.glue ws0) ≠ (Sl.sealM 5 ws0 : Int) := by
  rw [Sl.sealM_mk 5 (by decide)]
  decide +kernel
theorem open6 : Sl.openE 6 (Sl.sealL 5 ws0) = 9 := by
  obtain ⟨h1, h2, h3, _, _⟩ := Sl.seal_look 5 (by decide) ws0 ws0_ok
  unfold Sl.openE
  rw [if_pos (by decide), if_pos h3, h1, if_neg]
  unfold Sl.lookN
  rw [h2, Sl.dec_val]
  exact mk6_ne

theorem xs0_texts (w : World) : Texts (w.alloc (.cells #[.string ⟨#[97]⟩, .string ⟨#[98, 45, 49]⟩] 9)) w.heap.size 0 xs0 := fun j hj => by
  match j, hj with
  | 0, _ => simp [xs0]
  | 1, _ => simp [xs0]

set_option maxRecDepth 100000 in
set_option maxHeartbeats 2000000 in
theorem sealed_any (a : Nat → Addr) (w : World) (h : Env a w) :
    Calls Tryz.prog 5 #[] w fun e w' => e = .returned (.bool true) ∧ Below w.heap.size w w' := by
  have HE : Hid (Env a (w.alloc (.cells #[.string ⟨#[97]⟩, .string ⟨#[98, 45, 49]⟩] 9))) := h.below ((Below.refl _ _).alloc (Nat.le_refl _) _)
  have HB : Hid (Below w.heap.size w (w.alloc (.cells #[.string ⟨#[97]⟩, .string ⟨#[98, 45, 49]⟩] 9))) := (Below.refl _ _).alloc (Nat.le_refl _) _
  have HM : Hid (Calls Tryz.prog 8 #[.int .i64 5, .slice (some ⟨w.heap.size, 0, none⟩) 2 2] (w.alloc (.cells #[.string ⟨#[97]⟩, .string ⟨#[98, 45, 49]⟩] 9)) fun e w' => e = .returned (.tuple #[.string (Sl.ofL (Sl.sealL 5 ws0)), .nilIface]) ∧ Below (w.alloc (.cells #[.string ⟨#[97]⟩, .string ⟨#[98, 45, 49]⟩] 9)).heap.size (w.alloc (.cells #[.string ⟨#[97]⟩, .string ⟨#[98, 45, 49]⟩] 9)) w') :=
    make_ok a 5 w.heap.size 0 2 2 xs0 _ HE.out (by decide) (by decide) (xs0_texts w) rfl ws0_ok
  obtain ⟨h1, h2, h3, h4, h5⟩ := Sl.seal_look 5 (by decide) ws0 ws0_ok
  have HO5 : Hid (∀ w, Env a w → Calls Tryz.prog 7 #[.int .i64 5, .string (Sl.ofL (Sl.sealL 5 ws0))] w fun e w' => ∃ b, Texts w' b 0 xs0 ∧ e = .returned (.tuple #[.slice (some ⟨b, 0, none⟩) 2 2, .nilIface]) ∧ Below w.heap.size w w') := fun w hw => by
    refine (open_any a 5 (Sl.ofL (Sl.sealL 5 ws0)) w hw).mono ?_
    rintro e w' ⟨hb, hp⟩
    rw [Sl.toL_ofL, h1, h4] at hp
    unfold WordsPost at hp
    rw [if_pos rfl] at hp
    obtain ⟨b, hx, he⟩ := hp
    exact ⟨b, hx, he, hb⟩
  have HO6 : Hid (∀ w, Env a w → Calls Tryz.prog 7 #[.int .i64 6, .string (Sl.ofL (Sl.sealL 5 ws0))] w fun e w' => e = .returned (.tuple #[.slice none 0 0, eV (a 8)]) ∧ Below w.heap.size w w') := fun w hw => by
    refine (open_any a 6 (Sl.ofL (Sl.sealL 5 ws0)) w hw).mono ?_
    rintro e w' ⟨hb, hp⟩
    rw [Sl.toL_ofL, open6] at hp
    unfold WordsPost at hp
    rw [if_neg (by decide)] at hp
    exact ⟨hp, hb⟩
  clear h h1 h2 h3 h4 h5
  generalize Sl.ofL (Sl.sealL 5 ws0) = t at *
  go_enter Tryz.func5, Tryz.ntmps5
  go_wp2_with fail
  refine HM.out.mono ?_
  rintro e w1 ⟨rfl, hb⟩
  have HE1 := hide (HE.out.below hb)
  have HB1 : Hid (Below w.heap.size w w1) := HB.out.trans (hb.mono HB.out.size)
  clear hb HE HB HM
  go_wp2_with fail
  refine (HO5.out _ HE1.out).mono ?_
  rintro e w2 ⟨b, hx, rfl, hb⟩
  have HE2 := hide (HE1.out.below hb)
  have HX2 := hide hx
  have HB2 : Hid (Below w.heap.size w w2) := HB1.out.trans (hb.mono HB1.out.size)
  clear hb hx HE1 HB1 HO5
  go_wp2_with fail
  refine (HO6.out _ HE2.out).mono ?_
  rintro e w3 ⟨rfl, hb⟩
  have HE3 : Hid (Env a (w3.alloc (.cells #[.string ⟨#[97]⟩, .string ⟨#[98, 45, 49]⟩] 9))) := (HE2.out.below hb).below ((Below.refl _ _).alloc (Nat.le_refl _) _)
  have HX3 : Hid (Texts (w3.alloc (.cells #[.string ⟨#[97]⟩, .string ⟨#[98, 45, 49]⟩] 9)) b 0 xs0) := (HX2.out.below hb).below ((Below.refl _ _).alloc (Nat.le_refl _) _)
  have HB3 : Hid (Below w.heap.size w (w3.alloc (.cells #[.string ⟨#[97]⟩, .string ⟨#[98, 45, 49]⟩] 9))) := (HB2.out.trans (hb.mono HB2.out.size)).alloc (HB2.out.trans (hb.mono HB2.out.size)).size _
  clear hb HE2 HB2 HO6 HX2
  go_wp2_with fail
  refine (sameTexts_eq xs0 2 b 0 2 w3.heap.size 0 2 _ rfl (by decide) HX3.out (xs0_texts w3)).mono ?_
  rintro e w4 ⟨rfl, hb⟩
  have HE4 := hide (HE3.out.below hb)
  have HB4 : Hid (Below w.heap.size w w4) := HB3.out.trans (hb.mono HB3.out.size)
  clear hb HE3 HB3 HX3
  go_wp2_with fail
  refine (coded_err a 8 (by decide) 9 w4 HE4.out.errs).mono ?_
  rintro e w5 ⟨rfl, hb⟩
  have HB5 : Hid (Below w.heap.size w w5) := HB4.out.trans (hb.mono HB4.out.size)
  clear hb
  go_wp2
  go_ret
  exact ⟨rfl, HB5.out⟩
end Go.Proofs.YtgagekcjdapkfaaGreatDoor

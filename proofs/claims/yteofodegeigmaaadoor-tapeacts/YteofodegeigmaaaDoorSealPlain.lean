/-
  The plain laws of sealed texts, over lists of bytes: what a word and a name are, digits without needless zeros and their number, pieces between blanks, and that what is glued is cut as it was.
-/
import Derived.Lib.SplitLaws
import Derived.Lib.Join
import Derived.Lib.ItoaNum
import Derived.Lib.ItoaMem
import Derived.Lib.ParseIntBCases
import Derived.Lib.LastIndexByte
import Derived.Lib.LastIndexLaws
namespace Go.Proofs.YteofodegeigmaaaDoor.Sl
open Go

def digB (b : UInt8) : Bool := decide (48 ≤ b.toNat ∧ b.toNat ≤ 57)
def smallB (b : UInt8) : Bool := digB b || decide (97 ≤ b.toNat ∧ b.toNat ≤ 122)
def wordB (b : UInt8) : Bool := smallB b || decide (b.toNat = 45) || decide (b.toNat = 42)
/-- A text of 1 to most bytes of a kind. -/
def madeL (p : UInt8 → Bool) (most : Nat) (l : List UInt8) : Bool := decide (1 ≤ l.length ∧ l.length ≤ most) && l.all p
def nameL (l : List UInt8) : Bool := madeL smallB 8 l
def wordL (l : List UInt8) : Bool := madeL wordB 20 l
/-- Digits without needless zeros, ten at most. -/
def numOk (l : List UInt8) : Bool := madeL digB 10 l && !(decide (1 < l.length) && decide (l.head? = some 48))
/-- Their number, begun with n. -/
def stepV (m : Nat) (b : UInt8) : Nat := 10 * m + (b.toNat - 48)
def valF (n : Nat) (l : List UInt8) : Nat := l.foldl stepV n
def valL (l : List UInt8) : Nat := valF 0 l

theorem valF_cons0 (n : Nat) (b : UInt8) (l : List UInt8) : valF n (b :: l) = valF (stepV n b) l := by unfold valF; rw [List.foldl_cons]
theorem valF_cons (n : Nat) (b : UInt8) (l : List UInt8) : valF n (b :: l) = valF (10 * n + (b.toNat - 48)) l := by rw [valF_cons0]; unfold stepV; exact Eq.refl _
theorem valF_append (a : List UInt8) (n : Nat) (b : List UInt8) : valF n (a ++ b) = valF (valF n a) b := List.foldl_append
theorem valF_snoc (n : Nat) (b : UInt8) (l : List UInt8) : valF n (l ++ [b]) = 10 * valF n l + (b.toNat - 48) := by
  rw [valF_append, valF_cons0]; show stepV _ _ = _; unfold stepV; rfl
theorem valL_snoc (b : UInt8) (l : List UInt8) : valL (l ++ [b]) = 10 * valL l + (b.toNat - 48) := valF_snoc 0 b l

theorem valF_lt : ∀ (l : List UInt8) (n : Nat), l.all digB = true → valF n l < (n + 1) * 10 ^ l.length
  | [], n, _ => by show n < _; simp
  | b :: l, n, h => by
    simp only [List.all_cons, Bool.and_eq_true] at h
    have hb : b.toNat ≤ 57 := by have := h.1; simp [digB] at this; exact this.2
    rw [valF_cons]
    have := valF_lt l (10 * n + (b.toNat - 48)) h.2
    refine Nat.lt_of_lt_of_le this ?_
    rw [List.length_cons, Nat.pow_succ, Nat.mul_comm (10 ^ l.length) 10, ← Nat.mul_assoc]
    exact Nat.mul_le_mul_right _ (by omega)

theorem valL_lt (l : List UInt8) (h : l.all digB = true) (hl : l.length ≤ 10) : valL l < 10000000000 := by
  have := valF_lt l 0 h
  have h2 : 10 ^ l.length ≤ 10 ^ 10 := Nat.pow_le_pow_right (by decide) hl
  have h3 : (10 : Nat) ^ 10 = 10000000000 := by decide
  unfold valL
  omega

/-! ### The numeral of a number -/

theorem dig_ofNat (u : Nat) (h : u < 10) : digB (UInt8.ofNat (48 + u)) = true ∧ (UInt8.ofNat (48 + u)).toNat = 48 + u := by
  have : (UInt8.ofNat (48 + u)).toNat = 48 + u := by rw [UInt8.toNat_ofNat']; omega
  refine ⟨?_, this⟩
  unfold digB
  rw [this]
  simp; omega

theorem dec_all (u : Nat) : (Lib.decDigits u).all digB = true := by
  induction u using Nat.strongRecOn with
  | _ u ih =>
    by_cases h : u < 10
    · rw [Lib.decDigits_one h, List.all_cons, (dig_ofNat u h).1]; rfl
    · rw [Lib.decDigits, dif_neg h, List.all_append, ih (u / 10) (by omega), List.all_cons, (dig_ofNat (u % 10) (by omega)).1]; rfl

theorem dec_val (u : Nat) : valL (Lib.decDigits u) = u := by
  induction u using Nat.strongRecOn with
  | _ u ih =>
    by_cases h : u < 10
    · rw [Lib.decDigits_one h]
      show 10 * 0 + ((UInt8.ofNat (48 + u)).toNat - 48) = u
      rw [(dig_ofNat u h).2]; omega
    · rw [Lib.decDigits, dif_neg h, valL_snoc, ih (u / 10) (by omega), (dig_ofNat (u % 10) (by omega)).2]; omega

theorem dec_ne_nil (u : Nat) : Lib.decDigits u ≠ [] := by
  intro h
  have := Lib.decDigits_length u
  rw [h] at this
  have := Lib.nDigits_pos u
  simp at *
  omega

theorem head_append {α} (a b : List α) (h : a ≠ []) : (a ++ b).head? = a.head? := by
  cases a with
  | nil => exact absurd rfl h
  | cons x a => rfl
theorem dec_head (u : Nat) (hu : 1 ≤ u) : (Lib.decDigits u).head? ≠ some 48 := by
  induction u using Nat.strongRecOn with
  | _ u ih =>
    by_cases h : u < 10
    · rw [Lib.decDigits_one h]
      intro e
      have e : UInt8.ofNat (48 + u) = 48 := by simpa using e
      have := congrArg UInt8.toNat e
      rw [(dig_ofNat u h).2] at this
      have e2 : (48 : UInt8).toNat = 48 := by decide
      omega
    · rw [Lib.decDigits, dif_neg h]
      have := ih (u / 10) (by omega) (by omega)
      rw [head_append _ _ (dec_ne_nil _)]
      exact this

theorem dec_ok (u : Nat) (h : u < 10000000000) : numOk (Lib.decDigits u) = true := by
  unfold numOk madeL
  rw [dec_all, Lib.decDigits_length]
  have h1 := Lib.nDigits_pos u
  have h2 : Lib.nDigits u ≤ 10 := by
    rcases Nat.lt_or_ge (Lib.nDigits u) 11 with g | g
    · omega
    · exfalso
      have hlt : ∀ u : Nat, 1 ≤ u → 10 ^ (Lib.nDigits u - 1) ≤ u := by
        intro u
        induction u using Nat.strongRecOn with
        | _ u ih =>
          intro hu
          by_cases h : u < 10
          · rw [Lib.nDigits_small h]; simpa using hu
          · rw [Lib.nDigits_big h]
            have h0 := ih (u / 10) (by omega) (by omega)
            have hp := Lib.nDigits_pos (u / 10)
            rw [show Lib.nDigits (u / 10) + 1 - 1 = (Lib.nDigits (u / 10) - 1) + 1 by omega, Nat.pow_succ]
            omega
      have hu : 1 ≤ u := by
        rcases Nat.eq_zero_or_pos u with e | e
        · subst e; rw [Lib.nDigits_small (by decide)] at g; omega
        · exact e
      have := hlt u hu
      have h3 : 10 ^ 10 ≤ 10 ^ (Lib.nDigits u - 1) := Nat.pow_le_pow_right (by decide) (by omega)
      have h4 : (10 : Nat) ^ 10 = 10000000000 := by decide
      omega
  have h3 : (decide (1 < Lib.nDigits u) && decide ((Lib.decDigits u).head? = some 48)) = false := by
    by_cases hu : u < 10
    · rw [Lib.nDigits_small hu]; rfl
    · have := dec_head u (by omega)
      simp [this]
  rw [h3]
  simp [h1, h2]

theorem val_dec_aux : ∀ (n : Nat) (l : List UInt8), l.length = n → 1 ≤ n → l.all digB = true → (1 < n → l.head? ≠ some 48) → Lib.decDigits (valL l) = l := by
  intro n
  induction n with
  | zero => intro l _ h; omega
  | succ n ih =>
    intro l hl _ hall hz
    have hne : l ≠ [] := by intro e; subst e; simp at hl
    obtain ⟨a, b, rfl⟩ : ∃ a b, l = a ++ [b] := ⟨l.dropLast, l.getLast hne, (List.dropLast_concat_getLast hne).symm⟩
    simp only [List.all_append, List.all_cons, List.all_nil, Bool.and_true, Bool.and_eq_true] at hall
    have hb : 48 ≤ b.toNat ∧ b.toNat ≤ 57 := by have := hall.2; simpa [digB] using this
    have hbe : UInt8.ofNat (48 + (b.toNat - 48)) = b := by
      rw [show 48 + (b.toNat - 48) = b.toNat by omega]
      exact UInt8.ofNat_toNat
    have hla : a.length = n := by simpa using hl
    rw [valL_snoc]
    rcases Nat.eq_zero_or_pos n with e | e
    · subst e
      have : a = [] := List.length_eq_zero_iff.1 hla
      subst this
      have hv : valL [] = 0 := rfl
      rw [hv, Lib.decDigits_one (by omega)]
      simp [hbe]
    · have hane : a ≠ [] := by intro e2; subst e2; simp at hla; omega
      have ha48 : a.head? ≠ some 48 := by
        have := hz (by omega)
        rwa [head_append _ _ hane] at this
      have hpos : 1 ≤ valL a := by
        rcases Nat.eq_zero_or_pos (valL a) with z | z
        · exfalso
          have := ih a hla e hall.1 (fun _ => ha48)
          rw [z, Lib.decDigits_one (by decide)] at this
          rw [← this] at ha48
          exact ha48 rfl
        · exact z
      rw [Lib.decDigits, dif_neg (by omega), show (10 * valL a + (b.toNat - 48)) / 10 = valL a by omega, show (10 * valL a + (b.toNat - 48)) % 10 = b.toNat - 48 by omega, ih a hla e hall.1 (fun _ => ha48), hbe]

theorem numOk_iff (l : List UInt8) : numOk l = true ↔ (1 ≤ l.length ∧ l.length ≤ 10) ∧ l.all digB = true ∧ (1 < l.length → l.head? ≠ some 48) := by
  unfold numOk madeL
  simp only [Bool.and_eq_true, decide_eq_true_eq, Bool.not_eq_true', Bool.and_eq_false_imp, decide_eq_false_iff_not, and_assoc]

theorem val_dec (l : List UInt8) (h : numOk l = true) : Lib.decDigits (valL l) = l := by
  obtain ⟨h1, h2, h3⟩ := (numOk_iff l).1 h
  exact val_dec_aux l.length l rfl h1.1 h2 h3

theorem val_inj (l m : List UInt8) (hl : numOk l = true) (hm : numOk m = true) (h : valL l = valL m) : l = m := by
  rw [← val_dec l hl, ← val_dec m hm, h]

theorem parseM (M : Nat) : ∀ (l : List UInt8) (acc : Nat), l.all digB = true → valF acc l ≤ M → (acc + 1) * 10 ^ l.length ≤ 18446744073709551616 → Lib.parseUintM M acc l = .ok (valF acc l)
  | [], acc, _, _, _ => rfl
  | b :: l, acc, h, hM, hb => by
    simp only [List.all_cons, Bool.and_eq_true] at h
    have hd : 48 ≤ b.toNat ∧ b.toNat ≤ 57 := by have := h.1; simpa [digB] using this
    have hmono : ∀ (l : List UInt8) (n : Nat), n ≤ valF n l := by
      intro l
      induction l with
      | nil => intro n; exact Nat.le_refl _
      | cons c l ih => intro n; rw [valF_cons]; exact Nat.le_trans (by omega) (ih _)
    rw [valF_cons] at hM ⊢
    rw [List.length_cons, Nat.pow_succ] at hb
    have hp : 1 ≤ 10 ^ l.length := Nat.one_le_pow _ _ (by decide)
    have h10 : (acc + 1) * 10 ≤ 18446744073709551616 := by
      refine Nat.le_trans ?_ hb
      rw [Nat.mul_comm (10 ^ l.length) 10, ← Nat.mul_assoc]
      exact Nat.le_mul_of_pos_right _ hp
    have hle := hmono l (10 * acc + (b.toNat - 48))
    unfold Lib.parseUintM
    rw [if_pos hd, if_neg (by omega), if_neg (by rw [Nat.mul_comm]; omega), Nat.mul_comm acc 10]
    refine parseM M l _ h.2 hM (Nat.le_trans ?_ hb)
    rw [Nat.mul_comm (10 ^ l.length) 10, ← Nat.mul_assoc]
    exact Nat.mul_le_mul_right _ (by omega)

theorem parse_ok (l : List UInt8) (h1 : 1 ≤ l.length) (h10 : l.length ≤ 10) (h : l.all digB = true) : Lib.parseIntB 64 l = .ok (valL l : Int) := by
  match l, h1 with
  | c :: r, _ =>
    have hd : 48 ≤ c.toNat ∧ c.toNat ≤ 57 := by simp only [List.all_cons, Bool.and_eq_true] at h; have := h.1; simpa [digB] using this
    have hlt := valL_lt (c :: r) h h10
    rw [Lib.parseIntB_plain 64 c r (by omega) (by omega)]
    unfold Lib.parseUintB
    rw [if_neg (by simp), parseM _ (c :: r) 0 h (by show valL (c :: r) ≤ _; omega) (by
      have h2 : 10 ^ (c :: r).length ≤ 10 ^ 10 := Nat.pow_le_pow_right (by decide) h10
      have h3 : (10 : Nat) ^ 10 = 10000000000 := by decide
      omega)]
    show (if 2 ^ (64 - 1) ≤ valL (c :: r) then _ else _) = _
    rw [if_neg (by omega)]
    rfl

/-! ### Pieces between blanks -/

def pieces : List UInt8 → List (List UInt8)
  | [] => [[]]
  | b :: l => if b = 32 then [] :: pieces l else (b :: (pieces l).headD []) :: (pieces l).tail

theorem pieces_ne : ∀ l, pieces l ≠ []
  | [] => by simp [pieces]
  | b :: l => by unfold pieces; split <;> simp

theorem headD_append {α} (a b : List α) (d : α) (h : a ≠ []) : (a ++ b).headD d = a.headD d := by
  cases a with
  | nil => exact absurd rfl h
  | cons x a => rfl
theorem tail_append {α} (a b : List α) (h : a ≠ []) : (a ++ b).tail = a.tail ++ b := by
  cases a with
  | nil => exact absurd rfl h
  | cons x a => rfl

theorem pieces_cut (t : List UInt8) : ∀ a, pieces (a ++ 32 :: t) = pieces a ++ pieces t
  | [] => by simp [pieces]
  | b :: a => by
    rw [List.cons_append]
    by_cases h : b = 32
    · simp only [pieces, if_pos h, pieces_cut t a, List.cons_append]
    · simp only [pieces, if_neg h, pieces_cut t a, List.cons_append]
      rw [headD_append _ _ _ (pieces_ne a), tail_append _ _ (pieces_ne a)]

theorem pieces_plain : ∀ l : List UInt8, (32 : UInt8) ∉ l → pieces l = [l]
  | [], _ => rfl
  | b :: l, h => by
    have hb : b ≠ 32 := fun e => h (by simp [e])
    simp only [pieces, if_neg hb, pieces_plain l (fun e => h (by simp [e]))]
    rfl

theorem pieces_snoc (b : UInt8) (hb : b ≠ 32) : ∀ (a : List UInt8) (o : List (List UInt8)) (l : List UInt8), pieces a = o ++ [l] → pieces (a ++ [b]) = o ++ [l ++ [b]]
  | [], o, l, h => by
    have : o = [] ∧ l = [] := by
      cases o with
      | nil => simp [pieces] at h; exact ⟨rfl, h⟩
      | cons x o => simp [pieces] at h
    obtain ⟨rfl, rfl⟩ := this
    simp [pieces, hb]
  | c :: a, o, l, h => by
    rw [List.cons_append]
    have hp : ∃ o' l', pieces a = o' ++ [l'] := ⟨(pieces a).dropLast, (pieces a).getLast (pieces_ne a), (List.dropLast_concat_getLast (pieces_ne a)).symm⟩
    obtain ⟨o', l', hp⟩ := hp
    have ih := pieces_snoc b hb a o' l' hp
    by_cases hc : c = 32
    · simp only [pieces, if_pos hc, hp, ih] at h ⊢
      have h2 : ([] :: o') ++ [l'] = o ++ [l] := by simpa using h
      obtain ⟨rfl, e⟩ := List.append_inj' h2 rfl
      injection e with e
      subst e
      rfl
    · simp only [pieces, if_neg hc, hp, ih] at h ⊢
      cases o' with
      | nil =>
        simp only [List.nil_append, List.headD_cons, List.tail_cons] at h ⊢
        cases o with
        | nil => simp at h; subst h; simp
        | cons x o => simp at h
      | cons x o' =>
        simp only [List.cons_append, List.headD_cons, List.tail_cons] at h ⊢
        have h2 : ((c :: x) :: o') ++ [l'] = o ++ [l] := by simpa using h
        obtain ⟨rfl, e⟩ := List.append_inj' h2 rfl
        injection e with e
        subst e
        rfl

theorem pieces_clean : ∀ (l w : List UInt8), w ∈ pieces l → (32 : UInt8) ∉ w
  | [], w, h => by simp [pieces] at h; subst h; simp
  | b :: l, w, h => by
    by_cases hb : b = 32
    · simp only [pieces, if_pos hb, List.mem_cons] at h
      rcases h with rfl | h
      · simp
      · exact pieces_clean l w h
    · have hp : ∃ x o, pieces l = x :: o := by
        cases hq : pieces l with
        | nil => exact absurd hq (pieces_ne l)
        | cons x o => exact ⟨x, o, rfl⟩
      obtain ⟨x, o, hp⟩ := hp
      simp only [pieces, if_neg hb, hp, List.headD_cons, List.tail_cons, List.mem_cons] at h
      rcases h with rfl | h
      · have := pieces_clean l x (by rw [hp]; simp)
        simp only [List.mem_cons, not_or]
        exact ⟨fun e => hb e.symm, this⟩
      · exact pieces_clean l w (by rw [hp]; simp [h])

theorem join_cons2 (x : List UInt8) (r : List (List UInt8)) (hr : r ≠ []) : Lib.join (x :: r) [32] = x ++ 32 :: Lib.join r [32] := by
  cases r with
  | nil => exact absurd rfl hr
  | cons y r => rw [Lib.join_cons, Lib.join_cons]; simp [Lib.joinTail]
theorem join_snoc (w : List UInt8) : ∀ (r : List (List UInt8)), r ≠ [] → Lib.join (r ++ [w]) [32] = Lib.join r [32] ++ 32 :: w
  | [], h => absurd rfl h
  | x :: r, _ => by
    rw [List.cons_append]
    by_cases hr : r = []
    · subst hr; rw [List.nil_append, join_cons2 _ _ (by simp), Lib.join_one, Lib.join_one]
    · rw [join_cons2 _ _ (by simp), join_snoc w r hr, join_cons2 _ _ hr]; simp

theorem join_pieces : ∀ l : List UInt8, Lib.join (pieces l) [32] = l
  | [] => rfl
  | b :: l => by
    have ih := join_pieces l
    by_cases hb : b = 32
    · simp only [pieces, if_pos hb]
      rw [join_cons2 _ _ (pieces_ne l), ih, hb]
      rfl
    · have hp : ∃ x o, pieces l = x :: o := by
        cases hq : pieces l with
        | nil => exact absurd hq (pieces_ne l)
        | cons x o => exact ⟨x, o, rfl⟩
      obtain ⟨x, o, hp⟩ := hp
      simp only [pieces, if_neg hb, hp, List.headD_cons, List.tail_cons]
      rw [hp] at ih
      by_cases ho : o = []
      · subst ho; rw [Lib.join_one] at ih ⊢; rw [ih]
      · rw [join_cons2 _ _ ho] at ih ⊢; rw [← ih]; rfl

theorem pieces_join : ∀ (ws : List (List UInt8)), ws ≠ [] → (∀ w ∈ ws, (32 : UInt8) ∉ w) → pieces (Lib.join ws [32]) = ws
  | [], h, _ => absurd rfl h
  | [x], _, hc => by rw [Lib.join_one]; exact pieces_plain x (hc x (by simp))
  | x :: y :: r, _, hc => by
    rw [join_cons2 _ _ (by simp), pieces_cut, pieces_plain x (hc x (by simp)), pieces_join (y :: r) (by simp) (fun w hw => hc w (by simp [hw]))]
    rfl

/-! ### What the library's cutting gives -/

theorem index_one_none (c : UInt8) : ∀ l : List UInt8, c ∉ l → Lib.index l [c] = -1
  | [], _ => rfl
  | b :: l, h => by
    have hb : c ≠ b := fun e => h (by simp [e])
    have h0 : [c].isPrefixOf (b :: l) = false := by simp [List.isPrefixOf, hb]
    unfold Lib.index
    rw [h0, index_one_none c l (fun e => h (by simp [e]))]
    rfl
theorem index_one_some (c : UInt8) (t : List UInt8) : ∀ a : List UInt8, c ∉ a → Lib.index (a ++ c :: t) [c] = (a.length : Int)
  | [], _ => by unfold Lib.index; simp [List.isPrefixOf]
  | b :: a, h => by
    have hb : c ≠ b := fun e => h (by simp [e])
    have h0 : [c].isPrefixOf (b :: (a ++ c :: t)) = false := by simp [List.isPrefixOf, hb]
    rw [List.cons_append]
    unfold Lib.index
    rw [h0, index_one_some c t a (fun e => h (by simp [e]))]
    have : (((a.length : Int)) == -1) = false := by rw [beq_eq_false_iff_ne]; omega
    simp [this]

theorem first_blank (c : UInt8) : ∀ l : List UInt8, c ∈ l → ∃ a t, l = a ++ c :: t ∧ c ∉ a
  | [], h => by simp at h
  | b :: l, h => by
    by_cases hb : b = c
    · subst hb; exact ⟨[], l, rfl, by simp⟩
    · have : c ∈ l := by simpa [Ne.symm hb] using h
      obtain ⟨a, t, rfl, ha⟩ := first_blank c l this
      exact ⟨b :: a, t, rfl, by simp [ha, Ne.symm hb]⟩

theorem last_blank (c : UInt8) (l : List UInt8) (h : c ∈ l) : ∃ a t, l = a ++ c :: t ∧ c ∉ t := by
  obtain ⟨a, t, e, ha⟩ := first_blank c l.reverse (by simpa using h)
  refine ⟨t.reverse, a.reverse, ?_, by simpa using ha⟩
  have := congrArg List.reverse e
  simpa using this

theorem splitK_pieces : ∀ (k : Nat) (l : List UInt8), l.count 32 = k → Lib.splitK [32] 0 k l = pieces l
  | 0, l, h => by
    have : (32 : UInt8) ∉ l := List.count_eq_zero.1 h
    rw [pieces_plain l this]; rfl
  | k + 1, l, h => by
    have hm : (32 : UInt8) ∈ l := List.count_pos_iff.1 (by omega)
    obtain ⟨a, t, rfl, ha⟩ := first_blank 32 l hm
    have hi := index_one_some 32 t a ha
    have hk : t.count 32 = k := by
      rw [List.count_append, List.count_cons, List.count_eq_zero.2 ha] at h
      simp at h; exact h
    unfold Lib.splitK
    rw [hi, if_neg (by simp)]
    simp only [Int.toNat_natCast, Nat.add_zero, List.length_singleton]
    rw [List.take_left, show (a ++ 32 :: t).drop (a.length + 1) = t by simp [List.drop_append], splitK_pieces k t hk, pieces_cut, pieces_plain a ha]
    rfl
end Go.Proofs.YteofodegeigmaaaDoor.Sl

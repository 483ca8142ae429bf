/-
  What is read of bytes, plainly: a record at the beginning is its own bytes; reading goes on behind it; what a tape's acts leave.
-/
import Derived.Test.YteofodegeigmaaaDoorTapePlain
import Derived.Test.YteofodegeigmaaaDoorFloorWords
namespace Go.Proofs.YteofodegeigmaaaDoor
open Go

theorem first_colon (l : List UInt8) : ((58 : UInt8) ∉ l) ∨ ∃ a t, l = a ++ 58 :: t ∧ (58 : UInt8) ∉ a := by
  by_cases h : (58 : UInt8) ∈ l
  · exact Or.inr (Sl.first_blank 58 l h)
  · exact Or.inl h
theorem one_none {l : List UInt8} (h : (58 : UInt8) ∉ l) : oneR l = none := by
  unfold oneR
  rw [drop_all fun x hx => by simpa using fun e : x = 58 => h (e ▸ hx)]
theorem one_form {a t : List UInt8} (ha : (58 : UInt8) ∉ a) : oneR (a ++ 58 :: t) =
    if Sl.numOk a = true ∧ Sl.valL a ≤ 4000 ∧ Sl.valL a + 2 ≤ t.length ∧ (t.drop (Sl.valL a)).take 2 = [10, 46] then some (t.take (Sl.valL a), t.drop (Sl.valL a + 2)) else none := by
  obtain ⟨h1, h2⟩ := split_colon (a := a) (t := t) fun x hx => by simpa using fun e : x = 58 => ha (e ▸ hx)
  unfold oneR
  rw [h2, h1]
theorem rec_of {a t : List UInt8} (hn : Sl.numOk a = true) (hv : Sl.valL a ≤ t.length) : recL (t.take (Sl.valL a)) = a ++ 58 :: (t.take (Sl.valL a) ++ [10, 46]) := by
  unfold recL
  rw [List.length_take, Nat.min_eq_left hv, Sl.val_dec a hn]
theorem two_take {l : List UInt8} (h : l.take 2 = [10, 46]) : ∃ r, l = [10, 46] ++ r := ⟨l.drop 2, by rw [← h, List.take_append_drop]⟩
theorem rec_prefix {a t : List UInt8} (hn : Sl.numOk a = true) (hv : Sl.valL a ≤ t.length) :
    (recL (t.take (Sl.valL a)) <+: a ++ 58 :: t) ↔ (Sl.valL a + 2 ≤ t.length ∧ (t.drop (Sl.valL a)).take 2 = [10, 46]) := by
  rw [rec_of hn hv, List.prefix_append_right_inj, List.cons_prefix_cons]
  constructor
  · rintro ⟨_, r, hr⟩
    have hd : t.drop (Sl.valL a) = [10, 46] ++ r := by
      have := congrArg (List.drop (Sl.valL a)) hr
      rw [List.append_assoc, List.drop_append_of_le_length (by simp; omega), List.drop_of_length_le (by simp; omega), List.nil_append] at this
      exact this.symm
    refine ⟨?_, by rw [hd]; rfl⟩
    have := congrArg List.length hd
    simp at this
    omega
  · rintro ⟨_, h2⟩
    obtain ⟨r, hr⟩ := two_take h2
    refine ⟨rfl, r, ?_⟩
    rw [List.append_assoc, ← hr, List.take_append_drop]
theorem one_sound {b s t : List UInt8} (h : oneR b = some (s, t)) : s.length ≤ 4000 ∧ b = recL s ++ t := by
  rcases first_colon b with hc | ⟨a, r, rfl, ha⟩
  · rw [one_none hc] at h; cases h
  · rw [one_form ha] at h
    split at h
    · rename_i hh
      obtain ⟨hn, hv, hl, h2⟩ := hh
      obtain ⟨rfl, rfl⟩ : t = r.drop (Sl.valL a + 2) ∧ s = r.take (Sl.valL a) := by
        injection h with h
        injection h with h1 h2
        exact ⟨h2.symm, h1.symm⟩
      refine ⟨by rw [List.length_take]; omega, ?_⟩
      rw [rec_of hn (by omega)]
      obtain ⟨q, hq⟩ := two_take h2
      have hdd : r.drop (Sl.valL a + 2) = q := by rw [← List.drop_drop, hq]; rfl
      rw [hdd]
      conv => lhs; rw [← List.take_append_drop (Sl.valL a) r, hq]
      simp
    · cases h
theorem rec_len (s : List UInt8) : (recL s).length = Lib.nDigits s.length + s.length + 3 := by
  unfold recL
  simp [Lib.decDigits_length]
  omega
theorem rec_pos (s : List UInt8) : 4 ≤ (recL s).length := by
  have := Lib.nDigits_pos s.length
  rw [rec_len]; omega
/-- What is read of bytes, all of it: records, and how many bytes they have. -/
def readA (b : List UInt8) : List (List UInt8) := (readT b.length b).1
def readN (b : List UInt8) : Nat := b.length - (readT b.length b).2.length
theorem readT_some {b s t : List UInt8} (h : oneR b = some (s, t)) (g : Nat) : readT (g + 1) b = (s :: (readT g t).1, (readT g t).2) := by
  show (match oneR b with | none => ([], b) | some (s, t) => (s :: (readT g t).1, (readT g t).2)) = _
  rw [h]
theorem readT_cat : ∀ (f : Nat) (b : List UInt8), b = (readT f b).1.flatMap recL ++ (readT f b).2
  | 0, b => by simp [readT]
  | f + 1, b => by
    unfold readT
    cases h : oneR b with
    | none => simp
    | some p =>
      obtain ⟨s, t⟩ := p
      show b = (s :: (readT f t).1).flatMap recL ++ (readT f t).2
      rw [List.flatMap_cons, List.append_assoc, ← readT_cat f t]
      exact (one_sound h).2
theorem readT_stop : ∀ (f : Nat) (b : List UInt8), b.length ≤ f → oneR (readT f b).2 = none
  | 0, b, h => by
    have : b = [] := List.eq_nil_of_length_eq_zero (by omega)
    subst this
    rfl
  | f + 1, b, h => by
    unfold readT
    cases h1 : oneR b with
    | none => exact h1
    | some p =>
      obtain ⟨s, t⟩ := p
      refine readT_stop f t ?_
      have := congrArg List.length (one_sound h1).2
      rw [List.length_append] at this
      have := rec_pos s
      omega
theorem readT_small : ∀ (f : Nat) (b : List UInt8), ∀ s ∈ (readT f b).1, s.length ≤ 4000
  | 0, _, s, h => by simp [readT] at h
  | f + 1, b, s, h => by
    unfold readT at h
    cases h1 : oneR b with
    | none => rw [h1] at h; simp at h
    | some p =>
      obtain ⟨s', t⟩ := p
      rw [h1] at h
      rcases List.mem_cons.1 h with rfl | h
      · exact (one_sound h1).1
      · exact readT_small f t s h
theorem read_cat (b : List UInt8) : b.take (readN b) = (readA b).flatMap recL ∧ readN b = ((readA b).flatMap recL).length ∧ readN b ≤ b.length := by
  have h := readT_cat b.length b
  have hl := congrArg List.length h
  rw [List.length_append] at hl
  unfold readN readA
  have e : b.length - (readT b.length b).2.length = ((readT b.length b).1.flatMap recL).length := by omega
  refine ⟨?_, e, by omega⟩
  rw [e]
  generalize (readT b.length b).1.flatMap recL = x at *
  generalize (readT b.length b).2 = y at *
  rw [h]
  exact List.take_left
theorem read_len (b : List UInt8) : (readA b).length ≤ b.length := by
  have h := (read_cat b).2
  have : ∀ l : List (List UInt8), l.length ≤ (l.flatMap recL).length := fun l => by
    induction l with
    | nil => simp
    | cons s l ih => rw [List.flatMap_cons, List.length_append, List.length_cons]; have := rec_pos s; omega
  have := this (readA b)
  omega
/-- While it is read: so much of it is behind, so much is ahead. -/
structure ReadAt (b : List UInt8) (f done : Nat) (L : List (List UInt8)) : Prop where
  le : done ≤ b.length
  fuel : b.length - done ≤ f
  all : (readT b.length b).1 = L ++ (readT f (b.drop done)).1
  rest : (readT b.length b).2 = (readT f (b.drop done)).2
theorem ReadAt.start (b : List UInt8) : ReadAt b b.length 0 [] := ⟨Nat.zero_le _, by omega, by simp, by simp⟩
theorem ReadAt.stop {b : List UInt8} {f done : Nat} {L : List (List UInt8)} (h : ReadAt b f done L) (hn : oneR (b.drop done) = none) : readA b = L ∧ readN b = done := by
  have e : readT f (b.drop done) = ([], b.drop done) := by
    cases f with
    | zero => rfl
    | succ f => unfold readT; rw [hn]
  have h1 := h.all
  have h2 := h.rest
  rw [e] at h1 h2
  refine ⟨by unfold readA; rw [h1]; simp, ?_⟩
  unfold readN
  rw [h2, List.length_drop]
  have := h.le
  omega
theorem ReadAt.more {b s t : List UInt8} {f done : Nat} {L : List (List UInt8)} (h : ReadAt b f done L) (hn : oneR (b.drop done) = some (s, t)) :
    ∃ g, f = g + 1 ∧ ReadAt b g (done + (recL s).length) (L ++ [s]) ∧ done + (recL s).length ≤ b.length ∧ t = b.drop (done + (recL s).length) := by
  have hs := (one_sound hn).2
  have hl := congrArg List.length hs
  rw [List.length_drop, List.length_append] at hl
  have hp := rec_pos s
  have hle := h.le
  have hfu := h.fuel
  obtain ⟨g, rfl⟩ : ∃ g, f = g + 1 := ⟨f - 1, by omega⟩
  have ht : t = b.drop (done + (recL s).length) := by
    rw [← List.drop_drop, hs, List.drop_left]
  refine ⟨g, rfl, ⟨by omega, by omega, ?_, ?_⟩, by omega, ht⟩
  · rw [h.all, readT_some hn, ← ht]
    simp
  · rw [h.rest, readT_some hn, ← ht]
/-- A cut's error, and what it leaves. -/
def Tp.cutC (d : Tp) (n : Int) : Nat := if n < 0 then 2 else if d.off = true then 16 else 0
def Tp.cutR (d : Tp) (n : Int) : Tp := if d.cutC n = 0 then ⟨d.b, d.off, n⟩ else d
def Tp.onR (d : Tp) : Tp := ⟨d.b, false, -1⟩
def Tp.recR (d : Tp) : Tp := ⟨d.b.take (readN d.b), false, -1⟩
def Tp.left (d : Tp) : Int := if 0 ≤ d.cut then d.cut else 0
/-- A tape that is no longer than it may be, its cut a number. -/
structure Tp.Right (d : Tp) : Prop where
  len : d.b.length ≤ 262144
  lo : -1 ≤ d.cut
  hi : d.cut ≤ 9223372036854775807
theorem Tp.appC_small (d : Tp) (s : List UInt8) : d.appC s ≤ 16 := by unfold Tp.appC; (repeat' split) <;> decide
theorem Tp.cutC_small (d : Tp) (n : Int) : d.cutC n ≤ 16 := by unfold Tp.cutC; (repeat' split) <;> decide
theorem Tp.Right.app {d : Tp} (h : d.Right) (s : List UInt8) : (d.appR s).Right := by
  obtain ⟨h1, h2, h3⟩ := h
  unfold Tp.appR
  split
  · exact ⟨h1, h2, h3⟩
  · rename_i hc
    split
    · rename_i hk
      refine ⟨?_, h2, h3⟩
      show (d.b ++ _).length ≤ _
      rw [List.length_append, List.length_take]
      omega
    · rename_i hk
      refine ⟨?_, ?_, ?_⟩
      · show (d.b ++ _).length ≤ _
        rw [List.length_append]
        omega
      · show -1 ≤ (if 0 ≤ d.cut then d.cut - ((recL s).length : Int) else d.cut)
        split <;> omega
      · show (if 0 ≤ d.cut then d.cut - ((recL s).length : Int) else d.cut) ≤ _
        split <;> omega
theorem Tp.Right.cutR {d : Tp} (h : d.Right) {n : Int} (hn : n ≤ 9223372036854775807) : (d.cutR n).Right := by
  obtain ⟨h1, h2, h3⟩ := h
  unfold Tp.cutR
  split
  · rename_i hc
    unfold Tp.cutC at hc
    refine ⟨h1, ?_, hn⟩
    show -1 ≤ n
    split at hc
    · cases hc
    · omega
  · exact ⟨h1, h2, h3⟩
theorem Tp.Right.onR {d : Tp} (h : d.Right) : d.onR.Right := ⟨h.len, by show (-1 : Int) ≤ -1; omega, by show (-1 : Int) ≤ _; omega⟩
theorem Tp.Right.recR {d : Tp} (h : d.Right) : d.recR.Right := ⟨by show (d.b.take _).length ≤ _; rw [List.length_take]; have := h.len; omega, by show (-1 : Int) ≤ -1; omega, by show (-1 : Int) ≤ _; omega⟩
end Go.Proofs.YteofodegeigmaaaDoor

/-
  A tape as the document has it, plainly: a record, what is read of bytes; records behind one another are read, and a record that is cut is none.
-/
import Derived.Test.YteofodegeigmaaaDoorSealPlain
namespace Go.Proofs.YteofodegeigmaaaDoor
open Go

/-- A record's bytes. -/
def recL (s : List UInt8) : List UInt8 := Lib.decDigits s.length ++ 58 :: (s ++ [10, 46])
/-- A record at the beginning of bytes: its text, what is behind it. -/
def oneR (b : List UInt8) : Option (List UInt8 × List UInt8) :=
  match b.dropWhile (fun x => x != 58) with
  | [] => none
  | _ :: t =>
    if Sl.numOk (b.takeWhile (fun x => x != 58)) = true ∧ Sl.valL (b.takeWhile (fun x => x != 58)) ≤ 4000 ∧ Sl.valL (b.takeWhile (fun x => x != 58)) + 2 ≤ t.length ∧ (t.drop (Sl.valL (b.takeWhile (fun x => x != 58)))).take 2 = [10, 46] then
      some (t.take (Sl.valL (b.takeWhile (fun x => x != 58))), t.drop (Sl.valL (b.takeWhile (fun x => x != 58)) + 2))
    else none
theorem dec_nocolon (n : Nat) : ∀ x ∈ Lib.decDigits n, (x != 58) = true := by
  intro x hx
  have h := List.all_eq_true.1 (Sl.dec_all n) x hx
  unfold Sl.digB at h
  simp only [bne_iff_ne, ne_eq]
  rintro rfl
  revert h
  decide
theorem split_colon {a t : List UInt8} (ha : ∀ x ∈ a, (x != 58) = true) : (a ++ 58 :: t).takeWhile (fun x => x != 58) = a ∧ (a ++ 58 :: t).dropWhile (fun x => x != 58) = 58 :: t := by
  induction a with
  | nil => exact ⟨rfl, rfl⟩
  | cons x a ih =>
    have hx := ha x (by simp)
    obtain ⟨h1, h2⟩ := ih fun y hy => ha y (by simp [hy])
    rw [List.cons_append, List.takeWhile_cons, List.dropWhile_cons, hx]
    simp [h1, h2]
theorem drop_all : ∀ {a : List UInt8}, (∀ x ∈ a, (x != 58) = true) → a.dropWhile (fun x => x != 58) = []
  | [], _ => rfl
  | x :: a, h => by
    rw [List.dropWhile_cons, h x (by simp)]
    exact drop_all fun y hy => h y (by simp [hy])
theorem one_rec {s t : List UInt8} (h : s.length ≤ 4000) : oneR (recL s ++ t) = some (s, t) := by
  have e : recL s ++ t = Lib.decDigits s.length ++ 58 :: (s ++ [10, 46] ++ t) := by unfold recL; simp
  obtain ⟨h1, h2⟩ := split_colon (t := s ++ [10, 46] ++ t) (dec_nocolon s.length)
  rw [e]
  unfold oneR
  rw [h2, h1, Sl.dec_val]
  have hd : s ++ [10, 46] ++ t = s ++ ([10, 46] ++ t) := by simp
  show (if _ then _ else _) = _
  rw [if_pos ⟨Sl.dec_ok _ (by omega), h, by simp, by rw [hd, List.drop_left]; rfl⟩]
  rw [hd, List.take_left, ← List.drop_drop, List.drop_left]
  rfl
/-- Of a record that is cut nothing is read. -/
theorem rec_cut {s : List UInt8} {n : Nat} (hn : n < (recL s).length) : oneR ((recL s).take n) = none := by
  have hl : (recL s).length = (Lib.decDigits s.length).length + 1 + s.length + 2 := by unfold recL; simp; omega
  by_cases hc : n ≤ (Lib.decDigits s.length).length
  · have e : (recL s).take n = (Lib.decDigits s.length).take n := by unfold recL; exact List.take_append_of_le_length hc
    unfold oneR
    rw [e]
    rw [drop_all fun x hx => dec_nocolon _ x (List.mem_of_mem_take hx)]
  · obtain ⟨k, rfl⟩ : ∃ k, n = (Lib.decDigits s.length).length + 1 + k := ⟨n - ((Lib.decDigits s.length).length + 1), by omega⟩
    have e : (recL s).take ((Lib.decDigits s.length).length + 1 + k) = Lib.decDigits s.length ++ 58 :: (s ++ [10, 46]).take k := by
      unfold recL
      rw [Nat.add_assoc, List.take_append, List.take_of_length_le (by omega), show (Lib.decDigits s.length).length + (1 + k) - (Lib.decDigits s.length).length = k + 1 by omega, List.take_succ_cons]
    obtain ⟨h1, h2⟩ := split_colon (t := (s ++ [10, 46]).take k) (dec_nocolon s.length)
    unfold oneR
    rw [e, h2, h1, Sl.dec_val]
    show (if _ then _ else _) = _
    rw [if_neg]
    rintro ⟨_, _, h3, _⟩
    rw [List.length_take, List.length_append] at h3
    simp at h3
    omega
/-- What is read of bytes: records, and what is behind them. -/
def readT : Nat → List UInt8 → List (List UInt8) × List UInt8
  | 0, b => ([], b)
  | f + 1, b => match oneR b with
    | none => ([], b)
    | some (s, t) => (s :: (readT f t).1, (readT f t).2)
theorem read_recs : ∀ (l : List (List UInt8)) (f : Nat) (p : List UInt8), (∀ s ∈ l, s.length ≤ 4000) → l.length ≤ f → oneR p = none → readT f (l.flatMap recL ++ p) = (l, p)
  | [], f, p, _, _, hp => by
    cases f with
    | zero => rfl
    | succ f =>
      show readT (f + 1) p = _
      unfold readT
      rw [hp]
  | s :: l, f + 1, p, h, hf, hp => by
    have e : (s :: l).flatMap recL ++ p = recL s ++ (l.flatMap recL ++ p) := by simp
    rw [e]
    unfold readT
    rw [one_rec (h s (by simp))]
    show (s :: (readT f (l.flatMap recL ++ p)).1, (readT f (l.flatMap recL ++ p)).2) = _
    rw [read_recs l f p (fun x hx => h x (by simp [hx])) (by simpa using hf) hp]
  | s :: l, 0, p, _, hf, _ => by simp at hf
/-- A tape: its bytes, is power off, ahead of which byte from now on it fails (below 0: of none). -/
structure Tp where
  b : List UInt8
  off : Bool
  cut : Int
/-- An append's error. -/
def Tp.appC (d : Tp) (s : List UInt8) : Nat :=
  if 4000 < s.length then 2 else if 262144 < d.b.length + (recL s).length then 7 else if d.off = true then 16
  else if 0 ≤ d.cut ∧ d.cut < (recL s).length then 16 else 0
/-- What it leaves. -/
def Tp.appR (d : Tp) (s : List UInt8) : Tp :=
  if 4000 < s.length ∨ 262144 < d.b.length + (recL s).length ∨ d.off = true then d
  else if 0 ≤ d.cut ∧ d.cut < (recL s).length then ⟨d.b ++ (recL s).take d.cut.toNat, true, d.cut⟩
  else ⟨d.b ++ recL s, false, if 0 ≤ d.cut then d.cut - (recL s).length else d.cut⟩
/-- What was appended lies there whole; behind it at most a record that is cut. -/
def Tp.holds (d : Tp) (l : List (List UInt8)) : Prop := (∀ s ∈ l, s.length ≤ 4000) ∧ ∃ p, d.b = l.flatMap recL ++ p ∧ oneR p = none ∧ (d.off = false → p = [])
theorem one_nil : oneR [] = none := rfl
theorem Tp.holds_app {d : Tp} {l : List (List UInt8)} (h : d.holds l) (s : List UInt8) : (d.appR s).holds (if d.appC s = 0 then l ++ [s] else l) := by
  obtain ⟨h1, p, h2, h3, h4⟩ := h
  unfold Tp.appC Tp.appR
  by_cases c1 : 4000 < s.length
  · rw [if_pos c1, if_pos (Or.inl c1)]
    exact ⟨h1, p, h2, h3, h4⟩
  by_cases c2 : 262144 < d.b.length + (recL s).length
  · rw [if_neg c1, if_pos c2, if_pos (Or.inr (Or.inl c2))]
    exact ⟨h1, p, h2, h3, h4⟩
  by_cases c3 : d.off = true
  · rw [if_neg c1, if_neg c2, if_pos c3, if_pos (Or.inr (Or.inr c3))]
    exact ⟨h1, p, h2, h3, h4⟩
  have hp : p = [] := h4 (by simpa using c3)
  subst hp
  rw [List.append_nil] at h2
  rw [if_neg c1, if_neg c2, if_neg c3, if_neg (by simp [c1, c2, c3])]
  by_cases c4 : 0 ≤ d.cut ∧ d.cut < (recL s).length
  · rw [if_pos c4, if_pos c4]
    exact ⟨h1, (recL s).take d.cut.toNat, (show d.b ++ (recL s).take d.cut.toNat = l.flatMap recL ++ (recL s).take d.cut.toNat by rw [h2]), rec_cut (by omega), fun e => by cases e⟩
  · rw [if_neg c4, if_neg c4, if_pos rfl]
    refine ⟨fun x hx => ?_, [], ?_, rfl, fun _ => rfl⟩
    · rcases List.mem_append.1 hx with g | g
      · exact h1 x g
      · rw [List.mem_singleton.1 g]; omega
    · show d.b ++ recL s = _
      rw [h2]
      simp
theorem Tp.holds_read {d : Tp} {l : List (List UInt8)} (h : d.holds l) (f : Nat) (hf : l.length ≤ f) : (readT f d.b).1 = l ∧ d.b = l.flatMap recL ++ (readT f d.b).2 := by
  obtain ⟨h1, p, h2, h3, _⟩ := h
  rw [h2, read_recs l f p h1 hf h3]
  exact ⟨rfl, rfl⟩
end Go.Proofs.YteofodegeigmaaaDoor

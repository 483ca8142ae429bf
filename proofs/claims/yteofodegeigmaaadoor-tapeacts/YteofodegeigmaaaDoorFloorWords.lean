/-
  Floors as a text, plainly: pieces between a byte, one floor's text and what is read of it, and that what is written is read as it was.
-/
import Derived.Test.YteofodegeigmaaaDoorFloorPlain
import Derived.Test.YteofodegeigmaaaDoorSealPlain
namespace Go.Proofs.YteofodegeigmaaaDoor
open Go

/-- Bytes as a text. -/
abbrev txt (l : List UInt8) : ByteArray := ⟨l.toArray⟩
theorem txt_list (l : List UInt8) : (txt l).data.toList = l := rfl
theorem txt_back (s : ByteArray) : txt s.data.toList = s := rfl
theorem txt_size (l : List UInt8) : (txt l).size = l.length := by
  show l.toArray.size = _
  simp

/-- Pieces between a byte. -/
def cutB (c : UInt8) : List UInt8 → List (List UInt8)
  | [] => [[]]
  | b :: l => if b = c then [] :: cutB c l else (b :: (cutB c l).headD []) :: (cutB c l).tail
theorem cutB_ne (c : UInt8) : ∀ l, cutB c l ≠ []
  | [] => by simp [cutB]
  | b :: l => by unfold cutB; split <;> simp
theorem cutB_cut (c : UInt8) (t : List UInt8) : ∀ a, cutB c (a ++ c :: t) = cutB c a ++ cutB c t
  | [] => by simp [cutB]
  | b :: a => by
    rw [List.cons_append]
    by_cases h : b = c
    · simp only [cutB, if_pos h, cutB_cut c t a, List.cons_append]
    · simp only [cutB, if_neg h, cutB_cut c t a, List.cons_append]
      rw [Sl.headD_append _ _ _ (cutB_ne c a), Sl.tail_append _ _ (cutB_ne c a)]
theorem cutB_plain (c : UInt8) : ∀ l : List UInt8, c ∉ l → cutB c l = [l]
  | [], _ => rfl
  | b :: l, h => by
    have hb : b ≠ c := fun e => h (by simp [e])
    simp only [cutB, if_neg hb, cutB_plain c l (fun e => h (by simp [e]))]
    rfl
theorem cutB_snoc (c b : UInt8) (hb : b ≠ c) : ∀ (a : List UInt8) (o : List (List UInt8)) (l : List UInt8), cutB c a = o ++ [l] → cutB c (a ++ [b]) = o ++ [l ++ [b]]
  | [], o, l, h => by
    have : o = [] ∧ l = [] := by
      cases o with
      | nil => simp [cutB] at h; exact ⟨rfl, h⟩
      | cons x o => simp [cutB] at h
    obtain ⟨rfl, rfl⟩ := this
    simp [cutB, hb]
  | e :: a, o, l, h => by
    rw [List.cons_append]
    obtain ⟨o', l', hp⟩ : ∃ o' l', cutB c a = o' ++ [l'] := ⟨(cutB c a).dropLast, (cutB c a).getLast (cutB_ne c a), (List.dropLast_concat_getLast (cutB_ne c a)).symm⟩
    have ih := cutB_snoc c b hb a o' l' hp
    by_cases he : e = c
    · simp only [cutB, if_pos he, hp, ih] at h ⊢
      have h2 : ([] :: o') ++ [l'] = o ++ [l] := by simpa using h
      obtain ⟨rfl, e⟩ := List.append_inj' h2 rfl
      injection e with e
      subst e
      rfl
    · simp only [cutB, if_neg he, hp, ih] at h ⊢
      cases o' with
      | nil =>
        simp only [List.nil_append, List.headD_cons, List.tail_cons] at h ⊢
        cases o with
        | nil => simp at h; subst h; simp
        | cons x o => simp at h
      | cons x o' =>
        simp only [List.cons_append, List.headD_cons, List.tail_cons] at h ⊢
        have h2 : ((e :: x) :: o') ++ [l'] = o ++ [l] := by simpa using h
        obtain ⟨rfl, e2⟩ := List.append_inj' h2 rfl
        injection e2 with e2
        subst e2
        rfl
theorem cutB_len (c : UInt8) : ∀ l, (cutB c l).length ≤ l.length + 1
  | [] => by simp [cutB]
  | b :: l => by
    have := cutB_len c l
    by_cases h : b = c
    · simp only [cutB, if_pos h, List.length_cons]; omega
    · simp only [cutB, if_neg h, List.length_cons, List.length_tail]; omega
theorem join_cons2c (c : UInt8) (x : List UInt8) (r : List (List UInt8)) (hr : r ≠ []) : Lib.join (x :: r) [c] = x ++ c :: Lib.join r [c] := by
  cases r with
  | nil => exact absurd rfl hr
  | cons y r => rw [Lib.join_cons, Lib.join_cons]; simp [Lib.joinTail]
theorem join_snocc (c : UInt8) (w : List UInt8) : ∀ (r : List (List UInt8)), r ≠ [] → Lib.join (r ++ [w]) [c] = Lib.join r [c] ++ c :: w
  | [], h => absurd rfl h
  | x :: r, _ => by
    rw [List.cons_append]
    by_cases hr : r = []
    · subst hr; rw [List.nil_append, join_cons2c c _ _ (by simp), Lib.join_one, Lib.join_one]
    · rw [join_cons2c c _ _ (by simp), join_snocc c w r hr, join_cons2c c _ _ hr]; simp
theorem cutB_join (c : UInt8) : ∀ (ws : List (List UInt8)), ws ≠ [] → (∀ w ∈ ws, c ∉ w) → cutB c (Lib.join ws [c]) = ws
  | [], h, _ => absurd rfl h
  | [x], _, hc => by rw [Lib.join_one]; exact cutB_plain c x (hc x (by simp))
  | x :: y :: r, _, hc => by
    rw [join_cons2c c _ _ (by simp), cutB_cut, cutB_plain c x (hc x (by simp)), cutB_join c (y :: r) (by simp) (fun w hw => hc w (by simp [hw]))]
    rfl
theorem join_len (c : UInt8) (M : Nat) : ∀ (ws : List (List UInt8)), (∀ w ∈ ws, w.length ≤ M) → (Lib.join ws [c]).length ≤ ws.length * (M + 1)
  | [], _ => by rw [Lib.join_nil]; simp
  | [x], h => by rw [Lib.join_one]; have := h x (by simp); simp; omega
  | x :: y :: r, h => by
    have ih := join_len c M (y :: r) (fun w hw => h w (by simp [hw]))
    have hx := h x (by simp)
    rw [join_cons2c c _ _ (by simp), List.length_append, List.length_cons, List.length_cons, Nat.add_mul]
    omega

/-! ### One floor's text -/

def oneT (f : Fl) : List UInt8 := f.nm ++ 58 :: Lib.decDigits f.ep.toNat
def textL (l : List Fl) : List UInt8 := if l = [] then [45] else Lib.join (l.map oneT) [44]
/-- What is ahead of a byte, and behind it. -/
def aheadB (c : UInt8) (l : List UInt8) : List UInt8 := l.takeWhile (fun b => b != c)
def behindB (c : UInt8) (l : List UInt8) : List UInt8 := (l.dropWhile (fun b => b != c)).drop 1
/-- A number, whatever its size. -/
def numAny (l : List UInt8) : Bool := Sl.numOk l
def readOneL (p : List UInt8) : Option Fl := if 58 ∈ p then (if numAny (behindB 58 p) = true then some ⟨txt (aheadB 58 p), (Sl.valL (behindB 58 p) : Nat)⟩ else none) else none
def readAllL : List (List UInt8) → Option (List Fl)
  | [] => some []
  | p :: ps => match readOneL p with
    | none => none
    | some f => match readAllL ps with
      | none => none
      | some l => some (f :: l)
theorem readAllL_cons (p : List UInt8) (ps : List (List UInt8)) : readAllL (p :: ps) = match readOneL p with | none => none | some f => match readAllL ps with | none => none | some l => some (f :: l) := rfl
def readL (s : List UInt8) : Option (List Fl) := if s = [45] then some [] else readAllL (cutB 44 s)
def readC (s : List UInt8) : Nat × Int := match readL s with | none => (1, -1) | some l => checkL l
def readR (s : List UInt8) : List Fl := match readL s with | none => [] | some l => if (checkL l).1 = 0 then l else []

theorem ahead_cut (c : UInt8) (t : List UInt8) : ∀ a : List UInt8, c ∉ a → aheadB c (a ++ c :: t) = a ∧ behindB c (a ++ c :: t) = t
  | [], _ => ⟨by simp [aheadB], by simp [behindB]⟩
  | b :: a, h => by
    have hb : (b != c) = true := bne_iff_ne.2 (fun e => h (by simp [e]))
    obtain ⟨h1, h2⟩ := ahead_cut c t a (fun e => h (by simp [e]))
    constructor
    · show (b :: (a ++ c :: t)).takeWhile _ = _
      rw [List.takeWhile_cons_of_pos (p := fun b => b != c) hb]
      exact congrArg (b :: ·) h1
    · show ((b :: (a ++ c :: t)).dropWhile _).drop 1 = _
      rw [List.dropWhile_cons_of_pos (p := fun b => b != c) hb]
      exact h2
theorem small_not {b : UInt8} (h : Sl.smallB b = true) : b ≠ 44 ∧ b ≠ 58 ∧ b ≠ 45 := by
  unfold Sl.smallB Sl.digB at h
  simp at h
  have e1 : (44 : UInt8).toNat = 44 := by decide
  have e2 : (58 : UInt8).toNat = 58 := by decide
  have e3 : (45 : UInt8).toNat = 45 := by decide
  exact ⟨fun e => by rw [e] at h; omega, fun e => by rw [e] at h; omega, fun e => by rw [e] at h; omega⟩
theorem nm_not {f : Fl} (h : oneE f = 0) : ∀ b ∈ f.nm, b ≠ 44 ∧ b ≠ 58 ∧ b ≠ 45 := by
  intro b hb
  rcases one_name h with e | e
  · rw [e] at hb
    have : b = 42 := by simpa [star] using hb
    subst this
    decide
  · unfold Sl.nameL Sl.madeL at e
    simp only [Bool.and_eq_true, decide_eq_true_eq] at e
    exact small_not (List.all_eq_true.1 e.2 b hb)
theorem nm_len {f : Fl} (h : oneE f = 0) : f.nm.length ≤ 8 := by
  rcases one_name h with e | e
  · rw [e]; decide
  · unfold Sl.nameL Sl.madeL at e
    simp only [Bool.and_eq_true, decide_eq_true_eq] at e
    exact e.1.2
theorem dec_not (u : Nat) : ∀ b ∈ Lib.decDigits u, b ≠ 44 ∧ b ≠ 58 ∧ b ≠ 45 := fun b hb => by
  have := List.all_eq_true.1 (Sl.dec_all u) b hb
  exact small_not (by unfold Sl.smallB; rw [this]; rfl)
theorem one_cut {f : Fl} (h : oneE f = 0) : (44 : UInt8) ∉ oneT f := by
  intro hm
  unfold oneT at hm
  rcases List.mem_append.1 hm with e | e
  · exact (nm_not h _ e).1 rfl
  · rcases List.mem_cons.1 e with e | e
    · exact absurd e (by decide)
    · exact (dec_not _ _ e).1 rfl
theorem one_len {f : Fl} (h : oneE f = 0) : (oneT f).length ≤ 30 := by
  have h1 := nm_len h
  have h2 := one_pos h
  have h3 : (Lib.decDigits f.ep.toNat).length ≤ 10 := by
    have := (Sl.numOk_iff _).1 (Sl.dec_ok f.ep.toNat (by omega))
    exact this.1.2
  unfold oneT
  rw [List.length_append, List.length_cons]
  omega
theorem read_one {f : Fl} (h : oneE f = 0) : readOneL (oneT f) = some f := by
  have h2 := one_pos h
  have hn : (58 : UInt8) ∉ f.nm := fun e => (nm_not h _ e).2.1 rfl
  obtain ⟨e1, e2⟩ := ahead_cut 58 (Lib.decDigits f.ep.toNat) f.nm hn
  unfold readOneL oneT
  rw [if_pos (by simp), e1, e2, if_pos (show numAny _ = true from Sl.dec_ok _ (by omega)), Sl.dec_val]
  congr 1
  refine Fl.same rfl ?_
  show ((f.ep.toNat : Nat) : Int) = f.ep
  omega
theorem read_all : ∀ (l : List Fl), (∀ f ∈ l, oneE f = 0) → readAllL (l.map oneT) = some l
  | [], _ => rfl
  | f :: l, h => by
    rw [List.map_cons, readAllL_cons, read_one (h f (by simp)), read_all l (fun g hg => h g (by simp [hg]))]
/-- What is written is read as it was. -/
theorem read_text {l : List Fl} (h : RightF l) : readL (textL l) = some l := by
  unfold readL textL
  by_cases hl : l = []
  · subst hl; rw [if_pos rfl, if_pos rfl]
  · rw [if_neg hl]
    have hne : l.map oneT ≠ [] := by simpa using hl
    have hc := cutB_join 44 (l.map oneT) hne (fun w hw => by
      obtain ⟨f, hf, rfl⟩ := List.mem_map.1 hw
      exact one_cut (h.one f hf))
    rw [if_neg, hc, read_all l h.one]
    intro e
    rw [e, cutB_plain 44 [45] (by decide)] at hc
    match l, hl, hc with
    | f :: l, _, hc =>
      rw [List.map_cons] at hc
      injection hc with hc _
      have : (58 : UInt8) ∈ oneT f := by unfold oneT; simp
      rw [← hc] at this
      exact absurd this (by decide)
theorem readC_text {l : List Fl} (h : RightF l) (hl : l.length ≤ 21) : (readC (textL l)).1 = 0 ∧ readR (textL l) = l := by
  unfold readC readR
  rw [read_text h]
  have : checkL l = (0, -1) := by rw [check_right h, if_neg (by omega)]
  exact ⟨by show (checkL l).1 = 0; rw [this], by show (if (checkL l).1 = 0 then l else []) = l; rw [this]; rfl⟩
theorem readAll_append : ∀ (a b : List (List UInt8)), readAllL (a ++ b) = match readAllL a with | none => none | some l => (readAllL b).map (l ++ ·)
  | [], b => by show readAllL b = (readAllL b).map _; cases readAllL b <;> rfl
  | p :: a, b => by
    rw [List.cons_append, readAllL_cons, readAllL_cons, readAll_append a b]
    cases readOneL p with
    | none => rfl
    | some f =>
      cases readAllL a with
      | none => rfl
      | some l => cases readAllL b <;> rfl
end Go.Proofs.YteofodegeigmaaaDoor

/-
  A feed as the document has it, plainly: entries, the number of the first error and its place, an entry more, the floors of a feed, its head's words; floors of a feed are right, and an entry only raises them.
-/
import Derived.Test.YtemdnmnbecapbacGreatDoorFloorLaw
import Derived.Test.YtemdnmnbecapbacGreatDoorSealSpec
namespace Go.Proofs.YtemdnmnbecapbacGreatDoor
open Go

structure En where
  seq : Int
  time : Int
  fl : Fl
def En.cells (e : En) : List Value := [.int .i64 e.seq, .int .i64 e.time, .string e.fl.who, .int .i64 e.fl.ep]
def En.val (e : En) : Value := .agg #[.int .i64 e.seq, .int .i64 e.time, .string e.fl.who, .int .i64 e.fl.ep]
/-- The time of the last one, or 0. -/
def newL (l : List En) : Int := match l.getLast? with
  | some e => e.time
  | none => 0
/-- The number of an entry's error, at a place, behind a time. -/
def entE (k : Nat) (was : Int) (e : En) : Nat :=
  if e.seq = (k : Int) + 1 then (if 0 ≤ e.time ∧ e.time ≤ 1000000 then (if e.time < was then 8 else oneE e.fl) else 2) else 15
def badE (l : List En) (i : Nat) : Nat := match l[i]? with
  | some e => entE i (newL (l.take i)) e
  | none => 0
/-- The number of a feed's error, and its place. -/
def feedC (l : List En) : Nat × Int := if 60 < l.length then (7, -1) else match (List.range l.length).find? (fun i => badE l i != 0) with
  | some i => (badE l i, i)
  | none => (0, -1)
theorem feed_full {l : List En} (h : 60 < l.length) : feedC l = (7, -1) := by unfold feedC; rw [if_pos h]
theorem feed_bad {l : List En} {k : Nat} (hl : ¬ 60 < l.length) (hk : k < l.length) (h1 : ∀ j, j < k → badE l j = 0) (h2 : badE l k ≠ 0) : feedC l = (badE l k, (k : Int)) := by
  unfold feedC
  rw [if_neg hl]
  have : (List.range l.length).find? (fun i => badE l i != 0) = some k := by
    rw [List.find?_range_eq_some]
    exact ⟨by simpa using h2, by simpa using hk, fun j hj => by simp [h1 j hj]⟩
  rw [this]
theorem feed_good {l : List En} (hl : ¬ 60 < l.length) (h : ∀ j, j < l.length → badE l j = 0) : feedC l = (0, -1) := by
  unfold feedC
  rw [if_neg hl]
  have : (List.range l.length).find? (fun i => badE l i != 0) = none := by
    rw [List.find?_eq_none]
    intro j hj
    simp [h j (by simpa using hj)]
  rw [this]
theorem feed_zero {l : List En} (h : (feedC l).1 = 0) : l.length ≤ 60 ∧ ∀ i, i < l.length → badE l i = 0 := by
  by_cases hl : 60 < l.length
  · rw [feed_full hl] at h; cases h
  · refine ⟨by omega, fun i hi => ?_⟩
    induction i using Nat.strongRecOn with
    | _ i ih =>
      refine Decidable.byContradiction fun hb => ?_
      rw [feed_bad hl hi (fun j hj => ih j hj (by omega)) hb] at h
      exact hb h
theorem feed_ok {l : List En} (h : (feedC l).1 = 0) : feedC l = (0, -1) := by
  obtain ⟨h1, h2⟩ := feed_zero h
  exact feed_good (by omega) h2
theorem one_le (f : Fl) : oneE f < 16 := by
  unfold oneE
  repeat' split
  all_goals decide
theorem ent_le (k : Nat) (was : Int) (e : En) : entE k was e ≤ 16 := by
  unfold entE
  have := one_le e.fl
  repeat' split
  all_goals omega
theorem feed_le (l : List En) : (feedC l).1 ≤ 16 := by
  have hb : ∀ i, badE l i ≤ 16 := fun i => by
    unfold badE
    split
    · exact ent_le _ _ _
    · omega
  unfold feedC
  split
  · decide
  · split
    · exact hb _
    · decide
theorem ent_zero {k : Nat} {was : Int} {e : En} (h : entE k was e = 0) : e.seq = (k : Int) + 1 ∧ 0 ≤ e.time ∧ e.time ≤ 1000000 ∧ was ≤ e.time ∧ oneE e.fl = 0 := by
  unfold entE at h
  split at h
  · split at h
    · split at h
      · cases h
      · rename_i h1 h2 h3
        exact ⟨h1, h2.1, h2.2, by omega, h⟩
    · cases h
  · cases h
theorem bad_at {l : List En} {i : Nat} (hi : i < l.length) : badE l i = entE i (newL (l.take i)) l[i] := by
  unfold badE
  rw [List.getElem?_eq_getElem hi]
theorem feed_one {l : List En} (h : (feedC l).1 = 0) (e : En) (he : e ∈ l) : oneE e.fl = 0 := by
  obtain ⟨i, hi, rfl⟩ := List.getElem_of_mem he
  have := (feed_zero h).2 i hi
  rw [bad_at hi] at this
  exact (ent_zero this).2.2.2.2
theorem new_nonneg {l : List En} (h : (feedC l).1 = 0) : 0 ≤ newL l := by
  unfold newL
  cases hl : l.getLast? with
  | none => exact Int.le_refl _
  | some e =>
    obtain ⟨i, hi, rfl⟩ := List.getElem_of_mem (List.mem_of_getLast? hl)
    have := (feed_zero h).2 i hi
    rw [bad_at hi] at this
    exact (ent_zero this).2.1

/-- An entry more. -/
def addL (l : List En) (time : Int) (f : Fl) : List En := l ++ [⟨(l.length : Int) + 1, time, f⟩]
theorem addL_len (l : List En) (time : Int) (f : Fl) : (addL l time f).length = l.length + 1 := by unfold addL; simp
def newE (l : List En) (time : Int) (f : Fl) : Nat := if 60 ≤ l.length then 7 else entE l.length (newL l) ⟨(l.length : Int) + 1, time, f⟩
/-- The number of the error of an entry more, and its place; the list. -/
def addC (l : List En) (time : Int) (f : Fl) : Nat × Int := if (feedC l).1 = 0 then (newE l time f, -1) else feedC l
def addR (l : List En) (time : Int) (f : Fl) : List En := if (addC l time f).1 = 0 then addL l time f else []
theorem feed_add {l : List En} (h : (feedC l).1 = 0) (time : Int) (f : Fl) : (feedC (addL l time f)).1 = newE l time f := by
  obtain ⟨h1, h2⟩ := feed_zero h
  unfold newE
  by_cases h60 : 60 ≤ l.length
  · rw [if_pos h60, feed_full (by rw [addL_len]; omega)]
  · rw [if_neg h60]
    have hbef : ∀ j, j < l.length → badE (addL l time f) j = 0 := fun j hj => by
      rw [← h2 j hj]
      unfold badE addL
      rw [List.getElem?_append_left hj, List.take_append_of_le_length (by omega)]
    have hat : badE (addL l time f) l.length = entE l.length (newL l) ⟨(l.length : Int) + 1, time, f⟩ := by
      unfold badE addL
      rw [List.getElem?_append_right (Nat.le_refl _), Nat.sub_self, List.take_append_of_le_length (Nat.le_refl _), List.take_length]
      rfl
    by_cases h0 : badE (addL l time f) l.length = 0
    · rw [← hat, h0, feed_good (by rw [addL_len]; omega) (fun j hj => ?_)]
      rw [addL_len] at hj
      by_cases e : j = l.length
      · rw [e]; exact h0
      · exact hbef j (by omega)
    · rw [feed_bad (k := l.length) (by rw [addL_len]; omega) (by rw [addL_len]; omega) hbef h0, hat]
theorem newE_le (l : List En) (time : Int) (f : Fl) : newE l time f ≤ 16 := by
  unfold newE
  split
  · decide
  · exact ent_le _ _ _
theorem addC_le (l : List En) (time : Int) (f : Fl) : (addC l time f).1 ≤ 16 := by
  unfold addC
  split
  · exact newE_le _ _ _
  · exact feed_le _

/-- The floors of a feed, one raised behind the other; none where one is too many. -/
def stepO (a : Option (List Fl)) (e : En) : Option (List Fl) := match a with
  | none => none
  | some a => if (raiseC a e.fl).1 = 0 then some (raisedL a e.fl) else none
def flsO (l : List En) : Option (List Fl) := l.foldl stepO (some [])
theorem step_none : ∀ l : List En, l.foldl stepO none = none
  | [] => rfl
  | _ :: l => step_none l
theorem fls_snoc (l : List En) (e : En) : flsO (l ++ [e]) = stepO (flsO l) e := by
  unfold flsO
  rw [List.foldl_append]
  rfl
theorem fls_take (l : List En) (k : Nat) (hk : k < l.length) : flsO (l.take (k + 1)) = stepO (flsO (l.take k)) l[k] := by
  rw [List.take_succ_eq_append_getElem hk, fls_snoc]
theorem fls_cut (l : List En) (k : Nat) (h : flsO (l.take k) = none) : flsO l = none := by
  have e := congrArg flsO (List.take_append_drop k l)
  rw [← e]
  unfold flsO at h ⊢
  rw [List.foldl_append, h, step_none]
theorem right_nil : RightF [] where
  one f hf := by cases hf
  rising := List.Pairwise.nil
  above f hf := by cases hf
theorem fls_right : ∀ (l : List En) (a b : List Fl), RightF a → a.length ≤ 21 → l.foldl stepO (some a) = some b → RightF b ∧ b.length ≤ 21
  | [], a, b, h1, h2, h => by
    obtain rfl : a = b := Option.some.inj h
    exact ⟨h1, h2⟩
  | e :: l, a, b, h1, h2, h => by
    by_cases h0 : (raiseC a e.fl).1 = 0
    · obtain ⟨_, _, hr, _, hl, _⟩ := raiseC_zero h0
      refine fls_right l (raisedL a e.fl) b hr hl ?_
      rw [← h, List.foldl_cons]
      show _ = List.foldl stepO (if (raiseC a e.fl).1 = 0 then some (raisedL a e.fl) else none) l
      rw [if_pos h0]
    · exfalso
      rw [List.foldl_cons, show stepO (some a) e = none from if_neg h0, step_none] at h
      cases h
theorem fls_ok {l : List En} {b : List Fl} (h : flsO l = some b) : RightF b ∧ b.length ≤ 21 := fls_right l [] b right_nil (by decide) h
/-- The number of the error of the floors of a feed, and its place; the floors. -/
def floorsC (l : List En) : Nat × Int := if (feedC l).1 = 0 then (match flsO l with
  | some _ => (0, -1)
  | none => (7, -1)) else feedC l
def floorsR (l : List En) : List Fl := if (floorsC l).1 = 0 then (flsO l).getD [] else []
theorem floors_bad {l : List En} (h : (feedC l).1 ≠ 0) : floorsC l = feedC l := if_neg h
theorem floors_none {l : List En} (h : (feedC l).1 = 0) (h2 : flsO l = none) : floorsC l = (7, -1) := by unfold floorsC; rw [if_pos h, h2]
theorem floors_some {l : List En} {b : List Fl} (h : (feedC l).1 = 0) (h2 : flsO l = some b) : floorsC l = (0, -1) ∧ floorsR l = b := by
  have e : floorsC l = (0, -1) := by unfold floorsC; rw [if_pos h, h2]
  refine ⟨e, ?_⟩
  unfold floorsR
  rw [e, if_pos rfl, h2]
  rfl
theorem floors_zero {l : List En} (h : (floorsC l).1 = 0) : (feedC l).1 = 0 ∧ flsO l = some (floorsR l) := by
  by_cases h1 : (feedC l).1 = 0
  · cases h2 : flsO l with
    | none => rw [floors_none h1 h2] at h; cases h
    | some b => exact ⟨h1, by rw [(floors_some h1 h2).2]⟩
  · rw [floors_bad h1] at h; exact absurd h h1
theorem floors_le (l : List En) : (floorsC l).1 ≤ 16 := by
  unfold floorsC
  split
  · split <;> decide
  · exact feed_le _
theorem floors_right (l : List En) : RightF (floorsR l) ∧ (floorsR l).length ≤ 21 := by
  by_cases h : (floorsC l).1 = 0
  · exact fls_ok (floors_zero h).2
  · have : floorsR l = [] := if_neg h
    rw [this]
    exact ⟨right_nil, by decide⟩
/-- What an entry more does to the floors: they only rise. -/
theorem floors_add {l : List En} {time : Int} {f : Fl} (hx : (floorsC (addL l time f)).1 = 0) (ha : (floorsC l).1 = 0) (n : List UInt8) :
    ofL (floorsR l) n ≤ ofL (floorsR (addL l time f)) n ∧ f.ep ≤ ofL (floorsR (addL l time f)) f.nm := by
  obtain ⟨h1, h2⟩ := floors_zero hx
  obtain ⟨h3, h4⟩ := floors_zero ha
  unfold addL at h2
  rw [fls_snoc, h4] at h2
  have h2' : (if (raiseC (floorsR l) f).1 = 0 then some (raisedL (floorsR l) f) else none) = some (floorsR (addL l time f)) := h2
  by_cases h0 : (raiseC (floorsR l) f).1 = 0
  · rw [if_pos h0] at h2'
    obtain ⟨hr, hf, _, _, _, _⟩ := raiseC_zero h0
    rw [← Option.some.inj h2', of_raised hr hf, of_raised hr hf]
    constructor
    · exact up_le f n _
    · unfold upF
      rw [if_pos (Or.inr rfl)]
      omega
  · rw [if_neg h0] at h2'
    cases h2'

/-- Their cells, one behind the other. -/
def cellsE (l : List En) : List Value := l.flatMap En.cells
theorem cellsE_nil : cellsE [] = [] := rfl
theorem cellsE_cons (e : En) (l : List En) : cellsE (e :: l) = .int .i64 e.seq :: .int .i64 e.time :: .string e.fl.who :: .int .i64 e.fl.ep :: cellsE l := rfl
theorem cellsE_append (l m : List En) : cellsE (l ++ m) = cellsE l ++ cellsE m := by simp [cellsE]
theorem cellsE_len : ∀ l : List En, (cellsE l).length = l.length * 4
  | [] => rfl
  | e :: l => by rw [cellsE_cons, List.length_cons, List.length_cons, List.length_cons, List.length_cons, cellsE_len l, List.length_cons]; omega
theorem cellsE_at : ∀ (l : List En) (i j : Nat) (hi : i < l.length), j < 4 → (cellsE l)[i * 4 + j]? = (En.cells l[i])[j]?
  | e :: l, 0, j, _, hj => by
    rw [Nat.zero_mul, Nat.zero_add]
    show (En.cells e ++ cellsE l)[j]? = _
    rw [List.getElem?_append_left (by show j < 4; exact hj)]
    rfl
  | e :: l, i + 1, j, hi, hj => by
    rw [cellsE_cons, show (i + 1) * 4 + j = i * 4 + j + 1 + 1 + 1 + 1 by omega, List.getElem?_cons_succ, List.getElem?_cons_succ, List.getElem?_cons_succ, List.getElem?_cons_succ]
    exact cellsE_at l i j (by simpa using hi) hj
theorem cellsE_one (l : List En) : ∀ u ∈ cellsE l, u.oneCell' = true := by
  intro u hu
  unfold cellsE at hu
  obtain ⟨f, _, hf⟩ := List.mem_flatMap.1 hu
  simp only [En.cells, List.mem_cons, List.not_mem_nil, or_false] at hf
  rcases hf with rfl | rfl | rfl | rfl <;> rfl
theorem cellsE_take (l : List En) (k : Nat) : cellsE (l.take k) = (cellsE l).take (k * 4) := by
  by_cases hk : k ≤ l.length
  · have e := congrArg cellsE (List.take_append_drop k l)
    rw [cellsE_append] at e
    have h2 : (cellsE (l.take k)).length = k * 4 := by rw [cellsE_len, List.length_take]; omega
    rw [← e, ← h2, List.take_left]
  · rw [List.take_of_length_le (by omega), List.take_of_length_le (by rw [cellsE_len]; omega)]
theorem cellsE_drop (l : List En) (k : Nat) : cellsE (l.drop k) = (cellsE l).drop (k * 4) := by
  by_cases hk : k ≤ l.length
  · have e := congrArg cellsE (List.take_append_drop k l)
    rw [cellsE_append] at e
    have h2 : (cellsE (l.take k)).length = k * 4 := by rw [cellsE_len, List.length_take]; omega
    rw [← e, ← h2, List.drop_left]
  · rw [List.drop_of_length_le (by omega), List.drop_of_length_le (by rw [cellsE_len]; omega)]; rfl

/-- Since a number: the error's number and place, and those behind. -/
def sinceC (l : List En) (seq : Int) : Nat × Int := if (feedC l).1 = 0 then (if seq < 0 then (2, -1) else if (l.length : Int) < seq then (15, -1) else (0, -1)) else feedC l
def sinceR (l : List En) (seq : Int) : List En := if (sinceC l seq).1 = 0 then l.drop seq.toNat else []
theorem since_le (l : List En) (seq : Int) : (sinceC l seq).1 ≤ 16 := by
  unfold sinceC
  split
  · repeat' split
    all_goals decide
  · exact feed_le _

theorem numW (l : List UInt8) (h : Sl.numOk l = true) : Sl.wordL l = true := by
  obtain ⟨h1, h2, _⟩ := (Sl.numOk_iff l).1 h
  unfold Sl.wordL Sl.madeL
  rw [Bool.and_eq_true, decide_eq_true_eq]
  refine ⟨by omega, List.all_eq_true.2 fun b hb => ?_⟩
  have hd := List.all_eq_true.1 h2 b hb
  unfold Sl.wordB Sl.smallB
  rw [hd]
  simp
/-- A head's words, and what stands in them. -/
def headL : List UInt8 := [104, 101, 97, 100]
def headW (n t s : Int) : List (List UInt8) := [headL, Lib.decDigits n.toNat, Lib.decDigits t.toNat, Lib.decDigits s.toNat]
theorem headW_ok (n t s : Int) (hn : n.toNat ≤ 1000000006) (ht : t.toNat ≤ 1000000006) (hs : s.toNat ≤ 1000000006) : Sl.wordsOk (headW n t s) = true := by
  have hw : ∀ m : Nat, m ≤ 1000000006 → Sl.wordL (Lib.decDigits m) = true := fun m hm => numW _ (Sl.dec_ok m (by omega))
  rw [Sl.wordsOk_iff]
  refine ⟨⟨by show 1 ≤ 4; decide, by show 4 ≤ 10; decide⟩, fun w hm => ?_⟩
  unfold headW at hm
  simp only [List.mem_cons, List.not_mem_nil, or_false] at hm
  rcases hm with rfl | rfl | rfl | rfl
  · decide
  · exact hw _ hn
  · exact hw _ ht
  · exact hw _ hs
end Go.Proofs.YtemdnmnbecapbacGreatDoor

/-
  A feed as the document has it, plainly: entries, the number of the first error and its place, an entry more, the floors of a feed, its head's words; floors of a feed are right, and an entry only raises them.
  Entries in memory: a slice's value and its list; a row of one's own.
  What the library's contracts ask of this program's own copies of its functions, each laid by the shelf's commands: cloneE.
  The small functions over entries: a clone, those of own memory, entries that are too many or too long, entries that are the same.
-/
import Derived.Test.YtgagekcjdapkfacGreatDoorFloorLaw
import Derived.Test.YtgagekcjdapkfacGreatDoorSealSpec
import Derived.Shelf.SlicesE.Clone
import Derived.Shelf.SlGeneric
import Derived.Test.YtgagekcjdapkfacGreatDoorProg
import Derived.Test.YtgagekcjdapkfacGreatDoorFloorInsert
namespace Go.Proofs.YtgagekcjdapkfacGreatDoor
open Go

structure En where
  seq : Int
  time : Int
  fl : Fl
def En.cells (e : En) : List Value := [.int .i64 e.seq, .int .i64 e.time, .string e.fl.who, .int .i64 e.fl.ep]
def En.val (e : En) : Value := .agg #[.int .i64 e.seq, .int .i64 e.time, .string e.fl.who, .int .i64 e.fl.ep]
/-- The time of the last one, or 0. -/
def newL (l : List En) : Int := match l.getLast? with
  | some e => e.time
  | none => 0
/-- The number of an entry's error, at a place, behind a time. -/
def entE (k : Nat) (was : Int) (e : En) : Nat :=
  if e.seq = (k : Int) + 1 then (if 0 ≤ e.time ∧ e.time ≤ 1000000 then (if e.time < was then 8 else oneE e.fl) else 2) else 15
def badE (l : List En) (i : Nat) : Nat := match l[i]? with
  | some e => entE i (newL (l.take i)) e
  | none => 0
/-- The number of a feed's error, and its place. -/
def feedC (l : List En) : Nat × Int := if 60 < l.length then (7, -1) else match (List.range l.length).find? (fun i => badE l i != 0) with
  | some i => (badE l i, i)
  | none => (0, -1)
theorem feed_full {l : List En} (h : 60 < l.length) : feedC l = (7, -1) := by unfold feedC; rw [if_pos h]
theorem feed_bad {l : List En} {k : Nat} (hl : ¬ 60 < l.length) (hk : k < l.length) (h1 : ∀ j, j < k → badE l j = 0) (h2 : badE l k ≠ 0) : feedC l = (badE l k, (k : Int)) := by
  unfold feedC
  rw [if_neg hl]
  have : (List.range l.length).find? (fun i => badE l i != 0) = some k := by
    rw [List.find?_range_eq_some]
    exact ⟨by simpa using h2, by simpa using hk, fun j hj => by simp [h1 j hj]⟩
  rw [this]
theorem feed_good {l : List En} (hl : ¬ 60 < l.length) (h : ∀ j, j < l.length → badE l j = 0) : feedC l = (0, -1) := by
  unfold feedC
  rw [if_neg hl]
  have : (List.range l.length).find? (fun i => badE l i != 0) = none := by
    rw [List.find?_eq_none]
    intro j hj
    simp [h j (by simpa using hj)]
  rw [this]
theorem feed_zero {l : List En} (h : (feedC l).1 = 0) : l.length ≤ 60 ∧ ∀ i, i < l.length → badE l i = 0 := by
  by_cases hl : 60 < l.length
  · rw [feed_full hl] at h; cases h
  · refine ⟨by omega, fun i hi => ?_⟩
    induction i using Nat.strongRecOn with
    | _ i ih =>
      refine Decidable.byContradiction fun hb => ?_
      rw [feed_bad hl hi (fun j hj => ih j hj (by omega)) hb] at h
      exact hb h
theorem feed_ok {l : List En} (h : (feedC l).1 = 0) : feedC l = (0, -1) := by
  obtain ⟨h1, h2⟩ := feed_zero h
  exact feed_good (by omega) h2
theorem one_le (f : Fl) : oneE f < 16 := by
  unfold oneE
  repeat' split
  all_goals decide
theorem ent_le (k : Nat) (was : Int) (e : En) : entE k was e ≤ 16 := by
  unfold entE
  have := one_le e.fl
  repeat' split
  all_goals omega
theorem feed_le (l : List En) : (feedC l).1 ≤ 16 := by
  have hb : ∀ i, badE l i ≤ 16 := fun i => by
    unfold badE
    split
    · exact ent_le _ _ _
    · omega
  unfold feedC
  split
  · decide
  · split
    · exact hb _
    · decide
theorem ent_zero {k : Nat} {was : Int} {e : En} (h : entE k was e = 0) : e.seq = (k : Int) + 1 ∧ 0 ≤ e.time ∧ e.time ≤ 1000000 ∧ was ≤ e.time ∧ oneE e.fl = 0 := by
  unfold entE at h
  split at h
  · split at h
    · split at h
      · cases h
      · rename_i h1 h2 h3
        exact ⟨h1, h2.1, h2.2, by omega, h⟩
    · cases h
  · cases h
theorem bad_at {l : List En} {i : Nat} (hi : i < l.length) : badE l i = entE i (newL (l.take i)) l[i] := by
  unfold badE
  rw [List.getElem?_eq_getElem hi]
theorem feed_one {l : List En} (h : (feedC l).1 = 0) (e : En) (he : e ∈ l) : oneE e.fl = 0 := by
  obtain ⟨i, hi, rfl⟩ := List.getElem_of_mem he
  have := (feed_zero h).2 i hi
  rw [bad_at hi] at this
  exact (ent_zero this).2.2.2.2
theorem new_nonneg {l : List En} (h : (feedC l).1 = 0) : 0 ≤ newL l := by
  unfold newL
  cases hl : l.getLast? with
  | none => exact Int.le_refl _
  | some e =>
    obtain ⟨i, hi, rfl⟩ := List.getElem_of_mem (List.mem_of_getLast? hl)
    have := (feed_zero h).2 i hi
    rw [bad_at hi] at this
    exact (ent_zero this).2.1

/-- An entry more. -/
def addL (l : List En) (time : Int) (f : Fl) : List En := l ++ [⟨(l.length : Int) + 1, time, f⟩]
theorem addL_len (l : List En) (time : Int) (f : Fl) : (addL l time f).length = l.length + 1 := by unfold addL; simp
def newE (l : List En) (time : Int) (f : Fl) : Nat := if 60 ≤ l.length then 7 else entE l.length (newL l) ⟨(l.length : Int) + 1, time, f⟩
/-- The number of the error of an entry more, and its place; the list. -/
def addC (l : List En) (time : Int) (f : Fl) : Nat × Int := if (feedC l).1 = 0 then (newE l time f, -1) else feedC l
def addR (l : List En) (time : Int) (f : Fl) : List En := if (addC l time f).1 = 0 then addL l time f else []
theorem feed_add {l : List En} (h : (feedC l).1 = 0) (time : Int) (f : Fl) : (feedC (addL l time f)).1 = newE l time f := by
  obtain ⟨h1, h2⟩ := feed_zero h
  unfold newE
  by_cases h60 : 60 ≤ l.length
  · rw [if_pos h60, feed_full (by rw [addL_len]; omega)]
  · rw [if_neg h60]
    have hbef : ∀ j, j < l.length → badE (addL l time f) j = 0 := fun j hj => by
      rw [← h2 j hj]
      unfold badE addL
      rw [List.getElem?_append_left hj, List.take_append_of_le_length (by omega)]
    have hat : badE (addL l time f) l.length = entE l.length (newL l) ⟨(l.length : Int) + 1, time, f⟩ := by
      unfold badE addL
      rw [List.getElem?_append_right (Nat.le_refl _), Nat.sub_self, List.take_append_of_le_length (Nat.le_refl _), List.take_length]
      rfl
    by_cases h0 : badE (addL l time f) l.length = 0
    · rw [← hat, h0, feed_good (by rw [addL_len]; omega) (fun j hj => ?_)]
      rw [addL_len] at hj
      by_cases e : j = l.length
      · rw [e]; exact h0
      · exact hbef j (by omega)
    · rw [feed_bad (k := l.length) (by rw [addL_len]; omega) (by rw [addL_len]; omega) hbef h0, hat]
theorem newE_le (l : List En) (time : Int) (f : Fl) : newE l time f ≤ 16 := by
  unfold newE
  split
  · decide
  · exact ent_le _ _ _
theorem addC_le (l : List En) (time : Int) (f : Fl) : (addC l time f).1 ≤ 16 := by
  unfold addC
  split
  · exact newE_le _ _ _
  · exact feed_le _

/-- The floors of a feed, one raised behind the other; none where one is too many. -/
def stepO (a : Option (List Fl)) (e : En) : Option (List Fl) := match a with
  | none => none
  | some a => if (raiseC a e.fl).1 = 0 then some (raisedL a e.fl) else none
def flsO (l : List En) : Option (List Fl) := l.foldl stepO (some [])
theorem step_none : ∀ l : List En, l.foldl stepO none = none
  | [] => rfl
  | _ :: l => step_none l
theorem fls_snoc (l : List En) (e : En) : flsO (l ++ [e]) = stepO (flsO l) e := by
  unfold flsO
  rw [List.foldl_append]
  rfl
theorem fls_take (l : List En) (k : Nat) (hk : k < l.length) : flsO (l.take (k + 1)) = stepO (flsO (l.take k)) l[k] := by
  rw [List.take_succ_eq_append_getElem hk, fls_snoc]
theorem fls_cut (l : List En) (k : Nat) (h : flsO (l.take k) = none) : flsO l = none := by
  have e := congrArg flsO (List.take_append_drop k l)
  rw [← e]
  unfold flsO at h ⊢
  rw [List.foldl_append, h, step_none]
theorem right_nil : RightF [] where
  one f hf := by cases hf
  rising := List.Pairwise.nil
  above f hf := by cases hf
theorem fls_right : ∀ (l : List En) (a b : List Fl), RightF a → a.length ≤ 21 → l.foldl stepO (some a) = some b → RightF b ∧ b.length ≤ 21
  | [], a, b, h1, h2, h => by
    obtain rfl : a = b := Option.some.inj h
    exact ⟨h1, h2⟩
  | e :: l, a, b, h1, h2, h => by
    by_cases h0 : (raiseC a e.fl).1 = 0
    · obtain ⟨_, _, hr, _, hl, _⟩ := raiseC_zero h0
      refine fls_right l (raisedL a e.fl) b hr hl ?_
      rw [← h, List.foldl_cons]
      show _ = List.foldl stepO (if (raiseC a e.fl).1 = 0 then some (raisedL a e.fl) else none) l
      rw [if_pos h0]
    · exfalso
      rw [List.foldl_cons, show stepO (some a) e = none from if_neg h0, step_none] at h
      cases h
theorem fls_ok {l : List En} {b : List Fl} (h : flsO l = some b) : RightF b ∧ b.length ≤ 21 := fls_right l [] b right_nil (by decide) h
/-- The number of the error of the floors of a feed, and its place; the floors. -/
def floorsC (l : List En) : Nat × Int := if (feedC l).1 = 0 then (match flsO l with
  | some _ => (0, -1)
  | none => (7, -1)) else feedC l
def floorsR (l : List En) : List Fl := if (floorsC l).1 = 0 then (flsO l).getD [] else []
theorem floors_bad {l : List En} (h : (feedC l).1 ≠ 0) : floorsC l = feedC l := if_neg h
theorem floors_none {l : List En} (h : (feedC l).1 = 0) (h2 : flsO l = none) : floorsC l = (7, -1) := by unfold floorsC; rw [if_pos h, h2]
theorem floors_some {l : List En} {b : List Fl} (h : (feedC l).1 = 0) (h2 : flsO l = some b) : floorsC l = (0, -1) ∧ floorsR l = b := by
  have e : floorsC l = (0, -1) := by unfold floorsC; rw [if_pos h, h2]
  refine ⟨e, ?_⟩
  unfold floorsR
  rw [e, if_pos rfl, h2]
  rfl
theorem floors_zero {l : List En} (h : (floorsC l).1 = 0) : (feedC l).1 = 0 ∧ flsO l = some (floorsR l) := by
  by_cases h1 : (feedC l).1 = 0
  · cases h2 : flsO l with
    | none => rw [floors_none h1 h2] at h; cases h
    | some b => exact ⟨h1, by rw [(floors_some h1 h2).2]⟩
  · rw [floors_bad h1] at h; exact absurd h h1
theorem floors_le (l : List En) : (floorsC l).1 ≤ 16 := by
  unfold floorsC
  split
  · split <;> decide
  · exact feed_le _
theorem floors_right (l : List En) : RightF (floorsR l) ∧ (floorsR l).length ≤ 21 := by
  by_cases h : (floorsC l).1 = 0
  · exact fls_ok (floors_zero h).2
  · have : floorsR l = [] := if_neg h
    rw [this]
    exact ⟨right_nil, by decide⟩
/-- What an entry more does to the floors: they only rise. -/
theorem floors_add {l : List En} {time : Int} {f : Fl} (hx : (floorsC (addL l time f)).1 = 0) (ha : (floorsC l).1 = 0) (n : List UInt8) :
    ofL (floorsR l) n ≤ ofL (floorsR (addL l time f)) n ∧ f.ep ≤ ofL (floorsR (addL l time f)) f.nm := by
  obtain ⟨h1, h2⟩ := floors_zero hx
  obtain ⟨h3, h4⟩ := floors_zero ha
  unfold addL at h2
  rw [fls_snoc, h4] at h2
  have h2' : (if (raiseC (floorsR l) f).1 = 0 then some (raisedL (floorsR l) f) else none) = some (floorsR (addL l time f)) := h2
  by_cases h0 : (raiseC (floorsR l) f).1 = 0
  · rw [if_pos h0] at h2'
    obtain ⟨hr, hf, _, _, _, _⟩ := raiseC_zero h0
    rw [← Option.some.inj h2', of_raised hr hf, of_raised hr hf]
    constructor
    · exact up_le f n _
    · unfold upF
      rw [if_pos (Or.inr rfl)]
      omega
  · rw [if_neg h0] at h2'
    cases h2'

/-- Their cells, one behind the other. -/
def cellsE (l : List En) : List Value := l.flatMap En.cells
theorem cellsE_nil : cellsE [] = [] := rfl
theorem cellsE_cons (e : En) (l : List En) : cellsE (e :: l) = .int .i64 e.seq :: .int .i64 e.time :: .string e.fl.who :: .int .i64 e.fl.ep :: cellsE l := rfl
theorem cellsE_append (l m : List En) : cellsE (l ++ m) = cellsE l ++ cellsE m := by simp [cellsE]
theorem cellsE_len : ∀ l : List En, (cellsE l).length = l.length * 4
  | [] => rfl
  | e :: l => by rw [cellsE_cons, List.length_cons, List.length_cons, List.length_cons, List.length_cons, cellsE_len l, List.length_cons]; omega
theorem cellsE_at : ∀ (l : List En) (i j : Nat) (hi : i < l.length), j < 4 → (cellsE l)[i * 4 + j]? = (En.cells l[i])[j]?
  | e :: l, 0, j, _, hj => by
    rw [Nat.zero_mul, Nat.zero_add]
    show (En.cells e ++ cellsE l)[j]? = _
    rw [List.getElem?_append_left (by show j < 4; exact hj)]
    rfl
  | e :: l, i + 1, j, hi, hj => by
    rw [cellsE_cons, show (i + 1) * 4 + j = i * 4 + j + 1 + 1 + 1 + 1 by omega, List.getElem?_cons_succ, List.getElem?_cons_succ, List.getElem?_cons_succ, List.getElem?_cons_succ]
    exact cellsE_at l i j (by simpa using hi) hj
theorem cellsE_one (l : List En) : ∀ u ∈ cellsE l, u.oneCell' = true := by
  intro u hu
  unfold cellsE at hu
  obtain ⟨f, _, hf⟩ := List.mem_flatMap.1 hu
  simp only [En.cells, List.mem_cons, List.not_mem_nil, or_false] at hf
  rcases hf with rfl | rfl | rfl | rfl <;> rfl
theorem cellsE_take (l : List En) (k : Nat) : cellsE (l.take k) = (cellsE l).take (k * 4) := by
  by_cases hk : k ≤ l.length
  · have e := congrArg cellsE (List.take_append_drop k l)
    rw [cellsE_append] at e
    have h2 : (cellsE (l.take k)).length = k * 4 := by rw [cellsE_len, List.length_take]; omega
    rw [← e, ← h2, List.take_left]
  · rw [List.take_of_length_le (by omega), List.take_of_length_le (by rw [cellsE_len]; omega)]
theorem cellsE_drop (l : List En) (k : Nat) : cellsE (l.drop k) = (cellsE l).drop (k * 4) := by
  by_cases hk : k ≤ l.length
  · have e := congrArg cellsE (List.take_append_drop k l)
    rw [cellsE_append] at e
    have h2 : (cellsE (l.take k)).length = k * 4 := by rw [cellsE_len, List.length_take]; omega
    rw [← e, ← h2, List.drop_left]
  · rw [List.drop_of_length_le (by omega), List.drop_of_length_le (by rw [cellsE_len]; omega)]; rfl

/-- Since a number: the error's number and place, and those behind. -/
def sinceC (l : List En) (seq : Int) : Nat × Int := if (feedC l).1 = 0 then (if seq < 0 then (2, -1) else if (l.length : Int) < seq then (15, -1) else (0, -1)) else feedC l
def sinceR (l : List En) (seq : Int) : List En := if (sinceC l seq).1 = 0 then l.drop seq.toNat else []
theorem since_le (l : List En) (seq : Int) : (sinceC l seq).1 ≤ 16 := by
  unfold sinceC
  split
  · repeat' split
    all_goals decide
  · exact feed_le _

theorem numW (l : List UInt8) (h : Sl.numOk l = true) : Sl.wordL l = true := by
  obtain ⟨h1, h2, _⟩ := (Sl.numOk_iff l).1 h
  unfold Sl.wordL Sl.madeL
  rw [Bool.and_eq_true, decide_eq_true_eq]
  refine ⟨by omega, List.all_eq_true.2 fun b hb => ?_⟩
  have hd := List.all_eq_true.1 h2 b hb
  unfold Sl.wordB Sl.smallB
  rw [hd]
  simp
/-- A head's words, and what stands in them. -/
def headL : List UInt8 := [104, 101, 97, 100]
def headW (n t s : Int) : List (List UInt8) := [headL, Lib.decDigits n.toNat, Lib.decDigits t.toNat, Lib.decDigits s.toNat]
theorem headW_ok (n t s : Int) (hn : n.toNat ≤ 1000000006) (ht : t.toNat ≤ 1000000006) (hs : s.toNat ≤ 1000000006) : Sl.wordsOk (headW n t s) = true := by
  have hw : ∀ m : Nat, m ≤ 1000000006 → Sl.wordL (Lib.decDigits m) = true := fun m hm => numW _ (Sl.dec_ok m (by omega))
  rw [Sl.wordsOk_iff]
  refine ⟨⟨by show 1 ≤ 4; decide, by show 4 ≤ 10; decide⟩, fun w hm => ?_⟩
  unfold headW at hm
  simp only [List.mem_cons, List.not_mem_nil, or_false] at hm
  rcases hm with rfl | rfl | rfl | rfl
  · decide
  · exact hw _ hn
  · exact hw _ ht
  · exact hw _ hs
end Go.Proofs.YtgagekcjdapkfacGreatDoor

namespace Go.Proofs.YtgagekcjdapkfacGreatDoor
open Go.RowKit Go.Extern.Stop Go.Stop Go.Extern Go.Proofs

/-- Entries in memory: a slice's value and its list. -/
def EnAt (w : World) (v : Value) (l : List En) : Prop :=
  (∃ ad cap, v = .slice ad 0 cap ∧ l = []) ∨ ∃ b off cap, v = .slice (some ⟨b, off, none⟩) l.length cap ∧ l.length ≤ cap ∧ ∀ j u, (cellsE l)[j]? = some u → w.cell? ⟨b, off + j, none⟩ = some u
theorem EnAt.below {w w' : World} {v : Value} {l : List En} (h : EnAt w v l) (hb : Below w.heap.size w w') : EnAt w' v l := by
  rcases h with h | ⟨b, off, cap, h1, h2, h3⟩
  · exact Or.inl h
  · exact Or.inr ⟨b, off, cap, h1, h2, fun j u hu => by rw [hb.cell (p := ⟨b, off + j, none⟩) (cell_lt (h3 j u hu))]; exact h3 j u hu⟩
theorem EnAt.form {w : World} {v : Value} {l : List En} (h : EnAt w v l) : ∃ ad cap, v = .slice ad l.length cap ∧ l.length ≤ cap := by
  rcases h with ⟨ad, cap, rfl, rfl⟩ | ⟨b, off, cap, h1, h2, h3⟩
  · exact ⟨ad, cap, rfl, Nat.zero_le _⟩
  · exact ⟨_, _, h1, h2⟩
/-- Where there is an entry there is an address, and there are its cells. -/
theorem EnAt.at {w : World} {v : Value} {l : List En} (h : EnAt w v l) (hn : 0 < l.length) : ∃ b off cap, v = .slice (some ⟨b, off, none⟩) l.length cap ∧ l.length ≤ cap ∧ b < w.heap.size ∧ (∀ j u, (cellsE l)[j]? = some u → w.cell? ⟨b, off + j, none⟩ = some u) ∧
    ∀ i (hi : i < l.length), w.cell? ⟨b, off + i * 4, none⟩ = some (.int .i64 l[i].seq) ∧ w.cell? ⟨b, off + i * 4 + 1, none⟩ = some (.int .i64 l[i].time) ∧ w.cell? ⟨b, off + i * 4 + 2, none⟩ = some (.string l[i].fl.who) ∧ w.cell? ⟨b, off + i * 4 + 3, none⟩ = some (.int .i64 l[i].fl.ep) := by
  rcases h with ⟨_, _, _, rfl⟩ | ⟨b, off, cap, h1, h2, h3⟩
  · simp at hn
  · have h0 : ∀ i (_ : i < l.length) (j : Nat) (u : Value), j < 4 → (En.cells l[i])[j]? = some u → w.cell? ⟨b, off + i * 4 + j, none⟩ = some u := fun i hi j u hj hu => by
      rw [Nat.add_assoc]; exact h3 _ _ ((cellsE_at l i j hi hj).trans hu)
    exact ⟨b, off, cap, h1, h2, cell_lt (h3 (0 * 4 + 0) _ ((cellsE_at l 0 0 hn (by decide)).trans rfl)), h3, fun i hi => ⟨h0 i hi 0 _ (by decide) rfl, h0 i hi 1 _ (by decide) rfl, h0 i hi 2 _ (by decide) rfl, h0 i hi 3 _ (by decide) rfl⟩⟩
theorem EnAt.take {w : World} {b off cap : Nat} {l : List En} (h2 : l.length ≤ cap) (h3 : ∀ j u, (cellsE l)[j]? = some u → w.cell? ⟨b, off + j, none⟩ = some u) (k : Nat) (hk : k ≤ l.length) : EnAt w (.slice (some ⟨b, off, none⟩) k cap) (l.take k) := by
  refine Or.inr ⟨b, off, cap, by rw [List.length_take, Nat.min_eq_left hk], by rw [List.length_take]; omega, fun j u hu => h3 j u ?_⟩
  rw [cellsE_take, List.getElem?_take] at hu
  split at hu
  · exact hu
  · cases hu
theorem EnAt.drop {w : World} {b off : Nat} {l : List En} (h3 : ∀ j u, (cellsE l)[j]? = some u → w.cell? ⟨b, off + j, none⟩ = some u) (k n c : Nat) (hn : n = l.length - k) (hc : n ≤ c) : EnAt w (.slice (some ⟨b, off + k * 4, none⟩) n c) (l.drop k) := by
  refine Or.inr ⟨b, off + k * 4, c, by rw [List.length_drop, hn], by rw [List.length_drop]; omega, fun j u hu => ?_⟩
  rw [cellsE_drop, List.getElem?_drop] at hu
  rw [Nat.add_assoc]
  exact h3 _ u hu

/-- A row of entries of one's own, from a block number on. -/
abbrev OwnE (w : World) (B : Nat) (v : Value) (l : List En) : Prop := w.ownsRow B 80 4 v l.length (cellsE l)
theorem OwnE.enAt {w : World} {B : Nat} {v : Value} {l : List En} (h : OwnE w B v l) : EnAt w v l := by
  rcases h.2 with ⟨rfl, h0⟩ | ⟨g, cap, cur, rfl, hb, hg, hc, hm, hs, ht⟩
  · exact Or.inl ⟨none, 0, rfl, List.length_eq_zero_iff.1 h0⟩
  · refine Or.inr ⟨g, 0, cap, rfl, hc, fun j u hu => ?_⟩
    rw [cell_of_row w g (0 + j) cur _ _ hg, Nat.zero_add]
    rw [← ht, List.getElem?_take] at hu
    split at hu
    · simpa using hu
    · cases hu
theorem OwnE.keep {w w' : World} {B : Nat} {v : Value} {l : List En} (h : OwnE w B v l) (hk : ∀ g, v.ownBlock = some g → w'.heap[g]? = w.heap[g]?) : OwnE w' B v l := by
  refine ⟨h.1, ?_⟩
  rcases h.2 with g | ⟨g, cap, cur, rfl, hb, hg, hc, hm, hs, ht⟩
  · exact Or.inl g
  · exact Or.inr ⟨g, cap, cur, rfl, hb, by rw [hk g rfl]; exact hg, hc, hm, hs, ht⟩
theorem OwnE.below {w w' : World} {B : Nat} {v : Value} {l : List En} (h : OwnE w B v l) (hb : Below w.heap.size w w') : OwnE w' B v l :=
  h.keep (fun g hg => hb.block g (h.lt g hg).2)
theorem OwnE.less {w : World} {B B' : Nat} {v : Value} {l : List En} (h : OwnE w B v l) (hb : B' ≤ B) : OwnE w B' v l := by
  refine ⟨h.1, ?_⟩
  rcases h.2 with g | ⟨g, cap, cur, e, h1, h2⟩
  · exact Or.inl g
  · exact Or.inr ⟨g, cap, cur, e, Nat.le_trans hb h1, h2⟩
theorem OwnE.nil (w : World) (B : Nat) : OwnE w B (.slice none 0 0) [] := World.ownsRow_nil _ _ _ _

/-- The errors that the chapter's functions give. -/
def fdS (i : Nat) : Bool := flS i || i == 0 || i == 8 || i == 9 || i == 14
theorem EV.sub {S S' : Nat → Bool} {a : Nat → Addr} {w : World} (h : EV S a w) (hs : ∀ i, i < 16 → S' i = true → S i = true) : EV S' a w := ⟨fun i hi h2 => h.var i hi (hs i hi h2)⟩
theorem EV.fl {a : Nat → Addr} {w : World} (h : EV fdS a w) : EV flS a w := h.sub (by decide)
theorem EV.sl {a : Nat → Addr} {w : World} (h : EV fdS a w) : EV slS a w := h.sub (by decide)
/-- Entries in memory of one's own, and an error, by its number and place. -/
def FeedPost (a : Nat → Addr) (c : Nat × Int) (r : List En) (B : Nat) (e : Ending) (w' : World) : Prop := ∃ v' ev, e = .returned (.tuple #[v', ev]) ∧ OwnE w' B v' r ∧ FlErr a w' c ev ∧ (c.1 ≠ 0 → v' = .slice none 0 0)
end Go.Proofs.YtgagekcjdapkfacGreatDoor

namespace Go.Proofs
open Go.Shelf
def Tryz.cloneE_ren : Go.Shelf.Ren := ⟨fun | 41 => 63 | n => n, fun | 22 => 22 | 23 => 80 | 4 => 4 | n => n, fun | n => n⟩
theorem Tryz.cloneE : Go.Proofs.SlLaysE0.n41 Tryz.prog Tryz.cloneE_ren := {
  mixed := by kernel_rfl
  f41 := ⟨Tryz.f63.name, by decide, Tryz.func63.trans (congrArg some (by kernel_rfl))⟩
  t4 := Tryz.underlying4
  a4 := Tryz.isAgg4
  z4 := Tryz.sizeOf4
  v4 := Tryz.zeroValue4
  t22 := Tryz.underlying22
  a22 := Tryz.isAgg22
  z22 := Tryz.sizeOf22
  v22 := Tryz.zeroValue22 }
end Go.Proofs

namespace Go.Proofs.YtgagekcjdapkfacGreatDoor
open Go.RowKit Go.Extern.Stop Go.Stop Go.Extern Go.Proofs

theorem Tryz.infoEntry : (Tryz.prog.info? 80).map (fun i => (i.zero, i.size, i.bytes)) = some (some (.agg #[.int .i64 0, .int .i64 0, .string ByteArray.empty, .int .i64 0]), 4, 40) := by kernel_rfl
set_option maxRecDepth 100000 in
set_option maxHeartbeats 1000000 in
theorem cloneE_any (v : Value) (l : List En) (w : World) (hv : EnAt w v l) (hl : l.length ≤ 1000000) :
    Calls Tryz.prog 63 #[v] w fun e w' => ∃ v', e = .returned v' ∧ OwnE w' w.heap.size v' l ∧ Below w.heap.size w w' := by
  obtain ⟨i0, hi, hz0, hz1, hz2⟩ := info_parts Tryz.infoEntry
  rcases hv with ⟨ad, cap, rfl, rfl⟩ | ⟨b, off, cap, rfl, hc, hcell⟩
  · cases ad with
    | none => exact (AnyE.slices_Clone_nil Tryz.cloneE 0 cap w).mono fun e w' ⟨h1, h2⟩ => ⟨_, h1, OwnE.nil _ _, by rw [h2]; exact Below.refl _ _⟩
    | some ad =>
      have q22 : ∀ (w : World) (a : Option Addr) (n c n' c' : Nat), (binOp .eql 22 (.slice a n c) (.slice none n' c')).run Tryz.prog w = .ok (.bool a.isNone) w := fun w a n c n' c' => Lib.run_eql_slice_nil w _ _ a n c n' c' Tryz.underlying22
      go_enter Tryz.func63, Tryz.ntmps63
      go_wp2_with (at_builtin; refine wpList_append_own _ rfl _ _ 22 rfl w.heap.size 80 i0 _ 4 40 Tryz.underlying22 hi hz0 hz1 hz2 rfl (by decide) _ _ _ rfl (World.ownsRow_made w #[] 0 (Nat.le_refl _) (Nat.zero_le _) (by simp)) ad 0 cap [] rfl rfl (fun j u hj => by simp at hj) (by simp) (by unfold maxLen; omega) (by omega) (by simp) ?_; intro v' w1 hown hgrow hnil)
      go_wp2
      go_ret
      exact ⟨v', rfl, (by show w1.ownsRow w.heap.size 80 4 v' 0 []; simpa using hown), ((Below.refl _ w).alloc (Nat.le_refl _) _).grown hgrow (by simp) (fun k hk => by have e : w.heap.size = k := Option.some.inj hk; omega)⟩
  · exact (AnyE.slices_Clone Tryz.cloneE i0 _ 4 40 hi hz0 hz1 hz2 rfl (by decide) Tryz.sizeOf80 b off l.length cap (cellsE l) w (cellsE_len l) (by unfold maxLen; omega) (by omega) hcell (cellsE_one l)).mono fun e w' ⟨v', h1, h2, _, h4⟩ => ⟨v', h1, h2, h4⟩

set_option maxRecDepth 100000 in
set_option maxHeartbeats 1000000 in
theorem ownEntries_any (v : Value) (l : List En) (w : World) (hv : EnAt w v l) (hl : l.length ≤ 1000000) :
    Calls Tryz.prog 17 #[v] w fun e w' => ∃ v', e = .returned v' ∧ OwnE w' w.heap.size v' l ∧ Below w.heap.size w w' := by
  obtain ⟨i0, hi, hz0, hz1, hz2⟩ := info_parts Tryz.infoEntry
  have HEnd : Hid (∀ v' w1, w1.ownsRow w.heap.size 80 4 v' (0 + l.length) ([] ++ cellsE l) → w.grownBy w1 (Value.slice none 0 0).ownBlock → OwnE w1 w.heap.size v' l ∧ Below w.heap.size w w1) := fun v' w1 h1 h2 =>
    ⟨by simpa using h1, (Below.refl _ w).grown h2 (Nat.le_refl _) (fun k hk => by cases hk)⟩
  rcases hv with ⟨ad, cap, rfl, rfl⟩ | ⟨b, off, cap, rfl, hc, hcell⟩
  · cases ad with
    | none =>
      have hno : ∀ ty c, (Builtin.append_ #[22, 22] ty #[.slice none 0 0, .slice none 0 c]).run Tryz.prog w = .ok (.slice none 0 0) w := fun ty c => by kernel_rfl
      go_enter Tryz.func17, Tryz.ntmps17
      go_wp2_with (at_builtin; refine Lib.wpList_append_run _ rfl _ _ _ _ rfl _ _ rfl rfl _ _ (hno _ _) ?_)
      go_ret
      exact ⟨_, rfl, OwnE.nil _ _, Below.refl _ _⟩
    | some ad =>
      go_enter Tryz.func17, Tryz.ntmps17
      go_wp2_with (at_builtin; refine wpList_append_own _ rfl _ _ 22 rfl w.heap.size 80 i0 _ 4 40 Tryz.underlying22 hi hz0 hz1 hz2 rfl (by decide) _ _ _ rfl (World.ownsRow_nil _ _ _ _) ad 0 cap [] rfl rfl (fun j u hj => by simp at hj) (by simp) (by unfold maxLen; omega) (by omega) (Nat.le_refl _) ?_; intro v' w1 hown hgrow hnil)
      go_wp2
      go_ret
      exact ⟨v', rfl, HEnd.out v' w1 hown hgrow⟩
  · have HS : Hid (∀ j u, (cellsE l)[j]? = some u → w.cell? ((⟨b, off, none⟩ : Addr).add j) = some u) := fun j u hu => by rw [Addr.add_lit]; exact hcell j u hu
    have HLn := hide (cellsE_len l)
    have HOne := hide (cellsE_one l)
    clear hcell
    generalize cellsE l = cs at *
    generalize hn : l.length = n at *
    go_enter Tryz.func17, Tryz.ntmps17
    go_wp2_with (at_builtin; refine wpList_append_own _ rfl _ _ 22 rfl w.heap.size 80 i0 _ 4 40 Tryz.underlying22 hi hz0 hz1 hz2 rfl (by decide) _ _ _ rfl (World.ownsRow_nil _ _ _ _) ⟨b, off, none⟩ n cap cs rfl HLn.out HS.out HOne.out (by unfold maxLen; omega) (by omega) (Nat.le_refl _) ?_; intro v' w1 hown hgrow hnil)
    go_wp2
    go_ret
    exact ⟨v', rfl, HEnd.out v' w1 hown hgrow⟩

/-- Too many, or too long. -/
def longE (l : List En) : Bool := decide (30 < l.length ∧ l.length ≠ 60 ∧ l.length ≠ 61) || l.any (fun e => decide (20 < e.fl.who.size))
theorem longE_no {l : List En} (h : longE l = false) : l.length ≤ 61 ∧ ∀ e ∈ l, e.fl.who.size ≤ 20 := by
  unfold longE at h
  simp only [Bool.or_eq_false_iff, decide_eq_false_iff_not, List.any_eq_false, decide_eq_true_eq] at h
  exact ⟨by omega, fun e he => by have := h.2 e he; omega⟩

set_option maxRecDepth 100000 in
set_option maxHeartbeats 4000000 in
theorem longEntries_any (v : Value) (l : List En) (w : World) (hv : EnAt w v l) :
    Calls Tryz.prog 10 #[v] w fun e w' => e = .returned (.int .i64 (if longE l = true then 1 else 0)) ∧ w' = w := by
  obtain ⟨ad, cap, rfl, hc⟩ := hv.form
  have HV := hide hv
  by_cases h30 : 30 < l.length ∧ l.length ≠ 60 ∧ l.length ≠ 61
  · rw [if_pos (by unfold longE; rw [decide_eq_true h30]; rfl)]
    obtain ⟨g1, g2, g3⟩ := h30
    generalize l.length = n at *
    have hz : (30 : Int) < (n : Int) := by omega
    have hz2 : ((n : Int) != 60) = true := bne_iff_ne.2 (by omega)
    have hz3 : ((n : Int) != 61) = true := bne_iff_ne.2 (by omega)
    clear hv
    go_enter Tryz.func10, Tryz.ntmps10
    go_wp2
    go_ret
    exact ⟨rfl, rfl⟩
  · have HQ : Hid (longE l = l.any (fun e => decide (20 < e.fl.who.size))) := by show _ = _; unfold longE; rw [decide_eq_false h30]; rfl
    generalize hr : (if longE l = true then (1 : Int) else 0) = r
    have HR := hide hr
    generalize hn : l.length = n at *
    have HN := hide hn
    have hway : (¬ (30 : Int) < (n : Int)) ∨ ((30 : Int) < (n : Int) ∧ ((n : Int) != 60) = false) ∨ ((30 : Int) < (n : Int) ∧ ((n : Int) != 60) = true ∧ ((n : Int) != 61) = false) := by
      by_cases g1 : n ≤ 30
      · exact Or.inl (by omega)
      · by_cases g2 : n = 60
        · exact Or.inr (Or.inl ⟨by omega, bne_eq_false_iff_eq.2 (by omega)⟩)
        · exact Or.inr (Or.inr ⟨by omega, bne_iff_ne.2 (by omega), bne_eq_false_iff_eq.2 (by omega)⟩)
    have hnb : n ≤ 61 := by omega
    clear hv hr hn h30
    rcases hway with hz | ⟨hz, hz2⟩ | ⟨hz, hz2, hz3⟩
    all_goals
      go_enter Tryz.func10, Tryz.ntmps10
      go_wp2
      go_loop [3] (fun i => ∃ k : Nat, k ≤ n ∧ i = .int .i64 k ∧ Hid (∀ j (hj : j < l.length), j < k → l[j].fl.who.size ≤ 20)) (fun i => n - (intOf i).toNat)
      case atStart => exact ⟨0, Nat.zero_le _, rfl, fun j _ hj => absurd hj (Nat.not_lt_zero _)⟩
      case round =>
        obtain ⟨k, hk, rfl, A⟩ := hrel
        by_cases hlt : k < n
        · have hkl : k < l.length := by rw [HN.out]; exact hlt
          have hvr := HV.out
          rw [← HN.out] at hvr
          obtain ⟨b, off, cap', e, hc', hb, _, hcell⟩ := hvr.at (by omega)
          injection e with e1 e2 e3
          subst e1; subst e3
          obtain ⟨_, _, c2, _⟩ := hcell k hkl
          have hltz : (k : Int) < (n : Int) := by omega
          by_cases h20 : 20 < (l[k]'hkl).fl.who.size
          · have hr1 : r = 1 := by
              rw [← HR.out, if_pos]
              rw [HQ.out, List.any_eq_true]
              exact ⟨_, List.getElem_mem hkl, by simpa using h20⟩
            have HR1 := hide hr1
            clear hcell hvr hr1
            generalize (l[k]'hkl).fl.who = who at c2 h20
            have h20z : (20 : Int) < (who.size : Int) := by omega
            go_wp2
            go_ret
            exact ⟨by rw [HR1.out]; rfl, rfl⟩
          · have H20 := hide (Nat.not_lt.1 h20)
            clear hcell hvr
            generalize (l[k]'hkl).fl.who = who at c2 h20
            have h20z : ¬ (20 : Int) < (who.size : Int) := by omega
            go_wp2
            go_round
            case rel =>
              refine ⟨k + 1, by omega, by go_num, (show Hid _ from fun j hj hjk => ?_)⟩
              by_cases e : j = k
              · subst e; exact H20.out
              · exact A.out j hj (by omega)
            case measure => simp [intOf]; omega
        · obtain rfl : k = n := by omega
          have hltz : ¬ (k : Int) < (k : Int) := by omega
          have hr0 : r = 0 := by
            rw [← HR.out, if_neg]
            rw [HQ.out, Bool.not_eq_true, List.any_eq_false]
            intro f hf
            obtain ⟨j, hj, rfl⟩ := List.getElem_of_mem hf
            have := A.out j hj (by rw [← HN.out]; exact hj)
            simp only [decide_eq_true_eq]
            omega
          have HR0 := hide hr0
          clear hr0
          go_wp2
          go_ret
          exact ⟨by rw [HR0.out]; rfl, rfl⟩

set_option maxRecDepth 100000 in
set_option maxHeartbeats 2000000 in
theorem sameEntries_eq (v1 v2 : Value) (l : List En) (w : World) (h1 : EnAt w v1 l) (h2 : EnAt w v2 l) (hl : l.length ≤ 1000000) :
    Calls Tryz.prog 18 #[v1, v2] w fun e w' => e = .returned (.bool true) ∧ Below w.heap.size w w' := by
  obtain ⟨ad1, cap1, rfl, hc1⟩ := h1.form
  obtain ⟨ad2, cap2, rfl, hc2⟩ := h2.form
  have H1 := hide h1
  have H2 := hide h2
  clear h1 h2
  generalize hn : l.length = n at *
  have HN := hide hn
  clear hn
  go_enter Tryz.func18, Tryz.ntmps18
  go_wp2
  go_loopw [5] (fun i wr => ∃ k q : Nat, k ≤ n ∧ i = .int .i64 k ∧ wr = w.drewN q) (fun i _ => n - (intOf i).toNat)
  case atStart => exact ⟨0, 0, Nat.zero_le _, rfl, rfl⟩
  case round =>
    obtain ⟨k, q, hk, rfl, rfl⟩ := hrel
    by_cases hlt : k < n
    · have hkl : k < l.length := by rw [HN.out]; exact hlt
      have hv1 := H1.out
      have hv2 := H2.out
      rw [← HN.out] at hv1 hv2
      obtain ⟨b1, off1, cap1', e, _, _, _, hcell1⟩ := hv1.at (by omega)
      injection e with e1 e2 e3
      subst e1; subst e3
      obtain ⟨b2, off2, cap2', e, _, _, _, hcell2⟩ := hv2.at (by omega)
      injection e with e1 e2 e3
      subst e1; subst e3
      obtain ⟨x0, x1, x2, x3⟩ := hcell1 k hkl
      obtain ⟨y0, y1, y2, y3⟩ := hcell2 k hkl
      clear hcell1 hcell2 hv1 hv2
      generalize (l[k]'hkl).fl.who = who at *
      generalize (l[k]'hkl).fl.ep = ep at *
      generalize (l[k]'hkl).seq = sq at *
      generalize (l[k]'hkl).time = tm at *
      go_wp2
      go_quiet (fail)
      go_wp2
      go_roundw
      case rel => exact ⟨k + 1, q + nq, by omega, by go_num, rfl⟩
      case measure => simp [intOf]; omega
    · go_wp2
      go_ret
      exact ⟨rfl, below_drewN (Below.refl _ _) _⟩
end Go.Proofs.YtgagekcjdapkfacGreatDoor

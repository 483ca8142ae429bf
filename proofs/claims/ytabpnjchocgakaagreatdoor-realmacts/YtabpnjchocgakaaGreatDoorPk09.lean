/-
  What the functions of these parts do, and what holds of their plain forms: FeedPlain, FeedMem, FeedDo, FeedCheck, FeedSmall, FeedSince, FeedAdd.
-/
import Derived.Test.YtabpnjchocgakaaGreatDoorPk08
import Derived.Test.YtabpnjchocgakaaGreatDoorPk00
import Derived.Stop.Asserts
import Derived.Deep.RegionHeld3
import Derived.Test.YtabpnjchocgakaaGreatDoorFloorInsert
import Derived.Deep.AppendLies
namespace Go.Proofs.YtabpnjchocgakaaGreatDoor
open Go
structure En where
 seq : Int
 time : Int
 fl : Fl
def En.cells (e : En) : List Value := [.int .i64 e.seq, .int .i64 e.time, .string e.fl.who, .int .i64 e.fl.ep]
def En.val (e : En) : Value := .agg #[.int .i64 e.seq, .int .i64 e.time, .string e.fl.who, .int .i64 e.fl.ep]
def newL (l : List En) : Int := match l.getLast? with
 | some e => e.time
 | none => 0
def entE (k : Nat) (was : Int) (e : En) : Nat :=
 if e.seq = (k : Int) + 1 then (if 0 ≤ e.time ∧ e.time ≤ 1000000 then (if e.time < was then 8 else oneE e.fl) else 2) else 15
def badE (l : List En) (i : Nat) : Nat := match l[i]? with
 | some e => entE i (newL (l.take i)) e
 | none => 0
def feedC (l : List En) : Nat × Int := if 60 < l.length then (7, -1) else match (List.range l.length).find? (fun i => badE l i != 0) with
 | some i => (badE l i, i)
 | none => (0, -1)
theorem feed_full {l : List En} (h : 60 < l.length) : feedC l = (7, -1) := by unfold feedC; rw [if_pos h]
theorem feed_bad {l : List En} {k : Nat} (hl : ¬ 60 < l.length) (hk : k < l.length) (h1 : ∀ j, j < k → badE l j = 0) (h2 : badE l k ≠ 0) : feedC l = (badE l k, (k : Int)) := by
 unfold feedC
 rw [if_neg hl]
 have : (List.range l.length).find? (fun i => badE l i != 0) = some k := by
  rw [List.find?_range_eq_some]
  exact ⟨by simpa using h2, by simpa using hk, fun j hj => by simp [h1 j hj]⟩
 rw [this]
theorem feed_good {l : List En} (hl : ¬ 60 < l.length) (h : ∀ j, j < l.length → badE l j = 0) : feedC l = (0, -1) := by
 unfold feedC
 rw [if_neg hl]
 have : (List.range l.length).find? (fun i => badE l i != 0) = none := by
  rw [List.find?_eq_none]
  intro j hj
  simp [h j (by simpa using hj)]
 rw [this]
theorem feed_zero {l : List En} (h : (feedC l).1 = 0) : l.length ≤ 60 ∧ ∀ i, i < l.length → badE l i = 0 := by
 by_cases hl : 60 < l.length
 ·
  rw [feed_full hl] at h; cases h
 ·
  refine ⟨by omega, fun i hi => ?_⟩
  induction i using Nat.strongRecOn with
  | _ i ih =>
   refine Decidable.byContradiction fun hb => ?_
   rw [feed_bad hl hi (fun j hj => ih j hj (by omega)) hb] at h
   exact hb h
theorem feed_ok {l : List En} (h : (feedC l).1 = 0) : feedC l = (0, -1) := by
 obtain ⟨h1, h2⟩ := feed_zero h
 exact feed_good (by omega) h2
theorem one_le (f : Fl) : oneE f < 16 := by
 unfold oneE
 repeat' split
 all_goals decide
theorem ent_le (k : Nat) (was : Int) (e : En) : entE k was e ≤ 16 := by
 unfold entE
 have := one_le e.fl
 repeat' split
 all_goals omega
theorem feed_le (l : List En) : (feedC l).1 ≤ 16 := by
 have hb : ∀ i, badE l i ≤ 16 := fun i => by
  unfold badE
  split
  ·
   exact ent_le _ _ _
  ·
   omega
 unfold feedC
 split
 ·
  decide
 ·
  split
  ·
   exact hb _
  ·
   decide
theorem ent_zero {k : Nat} {was : Int} {e : En} (h : entE k was e = 0) : e.seq = (k : Int) + 1 ∧ 0 ≤ e.time ∧ e.time ≤ 1000000 ∧ was ≤ e.time ∧ oneE e.fl = 0 := by
 unfold entE at h
 split at h
 ·
  split at h
  ·
   split at h
   ·
    cases h
   ·
    rename_i h1 h2 h3
    exact ⟨h1, h2.1, h2.2, by omega, h⟩
  ·
   cases h
 ·
  cases h
theorem bad_at {l : List En} {i : Nat} (hi : i < l.length) : badE l i = entE i (newL (l.take i)) l[i] := by
 unfold badE
 rw [List.getElem?_eq_getElem hi]
theorem feed_one {l : List En} (h : (feedC l).1 = 0) (e : En) (he : e ∈ l) : oneE e.fl = 0 := by
 obtain ⟨i, hi, rfl⟩ := List.getElem_of_mem he
 have := (feed_zero h).2 i hi
 rw [bad_at hi] at this
 exact (ent_zero this).2.2.2.2
def addL (l : List En) (time : Int) (f : Fl) : List En := l ++ [⟨(l.length : Int) + 1, time, f⟩]
theorem addL_len (l : List En) (time : Int) (f : Fl) : (addL l time f).length = l.length + 1 := by unfold addL; simp
def newE (l : List En) (time : Int) (f : Fl) : Nat := if 60 ≤ l.length then 7 else entE l.length (newL l) ⟨(l.length : Int) + 1, time, f⟩
def addC (l : List En) (time : Int) (f : Fl) : Nat × Int := if (feedC l).1 = 0 then (newE l time f, -1) else feedC l
def addR (l : List En) (time : Int) (f : Fl) : List En := if (addC l time f).1 = 0 then addL l time f else []
theorem feed_add {l : List En} (h : (feedC l).1 = 0) (time : Int) (f : Fl) : (feedC (addL l time f)).1 = newE l time f := by
 obtain ⟨h1, h2⟩ := feed_zero h
 unfold newE
 by_cases h60 : 60 ≤ l.length
 ·
  rw [if_pos h60, feed_full (by rw [addL_len]; omega)]
 ·
  rw [if_neg h60]
  have hbef : ∀ j, j < l.length → badE (addL l time f) j = 0 := fun j hj => by
   rw [← h2 j hj]
   unfold badE addL
   rw [List.getElem?_append_left hj, List.take_append_of_le_length (by omega)]
  have hat : badE (addL l time f) l.length = entE l.length (newL l) ⟨(l.length : Int) + 1, time, f⟩ := by
   unfold badE addL
   rw [List.getElem?_append_right (Nat.le_refl _), Nat.sub_self, List.take_append_of_le_length (Nat.le_refl _), List.take_length]
   rfl
  by_cases h0 : badE (addL l time f) l.length = 0
  ·
   rw [← hat, h0, feed_good (by rw [addL_len]; omega) (fun j hj => ?_)]
   rw [addL_len] at hj
   by_cases e : j = l.length
   ·
    rw [e]; exact h0
   ·
    exact hbef j (by omega)
  ·
   rw [feed_bad (k := l.length) (by rw [addL_len]; omega) (by rw [addL_len]; omega) hbef h0, hat]
theorem newE_le (l : List En) (time : Int) (f : Fl) : newE l time f ≤ 16 := by
 unfold newE
 split
 ·
  decide
 ·
  exact ent_le _ _ _
theorem addC_le (l : List En) (time : Int) (f : Fl) : (addC l time f).1 ≤ 16 := by
 unfold addC
 split
 ·
  exact newE_le _ _ _
 ·
  exact feed_le _
def stepO (a : Option (List Fl)) (e : En) : Option (List Fl) := match a with
 | none => none
 | some a => if (raiseC a e.fl).1 = 0 then some (raisedL a e.fl) else none
def flsO (l : List En) : Option (List Fl) := l.foldl stepO (some [])
theorem step_none : ∀ l : List En, l.foldl stepO none = none
 | [] => rfl
 | _ :: l => step_none l
theorem fls_snoc (l : List En) (e : En) : flsO (l ++ [e]) = stepO (flsO l) e := by
 unfold flsO
 rw [List.foldl_append]
 rfl
theorem fls_take (l : List En) (k : Nat) (hk : k < l.length) : flsO (l.take (k + 1)) = stepO (flsO (l.take k)) l[k] := by
 rw [List.take_succ_eq_append_getElem hk, fls_snoc]
theorem fls_cut (l : List En) (k : Nat) (h : flsO (l.take k) = none) : flsO l = none := by
 have e := congrArg flsO (List.take_append_drop k l)
 rw [← e]
 unfold flsO at h ⊢
 rw [List.foldl_append, h, step_none]
theorem right_nil : RightF [] where
 one f hf := by cases hf
 rising := List.Pairwise.nil
 above f hf := by cases hf
theorem fls_right : ∀ (l : List En) (a b : List Fl), RightF a → a.length ≤ 21 → l.foldl stepO (some a) = some b → RightF b ∧ b.length ≤ 21
 | [], a, b, h1, h2, h => by
  obtain rfl : a = b := Option.some.inj h
  exact ⟨h1, h2⟩
 | e :: l, a, b, h1, h2, h => by
  by_cases h0 : (raiseC a e.fl).1 = 0
  ·
   obtain ⟨_, _, hr, _, hl, _⟩ := raiseC_zero h0
   refine fls_right l (raisedL a e.fl) b hr hl ?_
   rw [← h, List.foldl_cons]
   show _ = List.foldl stepO (if (raiseC a e.fl).1 = 0 then some (raisedL a e.fl) else none) l
   rw [if_pos h0]
  ·
   exfalso
   rw [List.foldl_cons, show stepO (some a) e = none from if_neg h0, step_none] at h
   cases h
theorem fls_ok {l : List En} {b : List Fl} (h : flsO l = some b) : RightF b ∧ b.length ≤ 21 := fls_right l [] b right_nil (by decide) h
def floorsC (l : List En) : Nat × Int := if (feedC l).1 = 0 then (match flsO l with
 | some _ => (0, -1)
 | none => (7, -1)) else feedC l
def floorsR (l : List En) : List Fl := if (floorsC l).1 = 0 then (flsO l).getD [] else []
theorem floors_bad {l : List En} (h : (feedC l).1 ≠ 0) : floorsC l = feedC l := if_neg h
theorem floors_none {l : List En} (h : (feedC l).1 = 0) (h2 : flsO l = none) : floorsC l = (7, -1) := by unfold floorsC; rw [if_pos h, h2]
theorem floors_some {l : List En} {b : List Fl} (h : (feedC l).1 = 0) (h2 : flsO l = some b) : floorsC l = (0, -1) ∧ floorsR l = b := by
 have e : floorsC l = (0, -1) := by unfold floorsC; rw [if_pos h, h2]
 refine ⟨e, ?_⟩
 unfold floorsR
 rw [e, if_pos rfl, h2]
 rfl
theorem floors_zero {l : List En} (h : (floorsC l).1 = 0) : (feedC l).1 = 0 ∧ flsO l = some (floorsR l) := by
 by_cases h1 : (feedC l).1 = 0
 ·
  cases h2 : flsO l with
  | none => rw [floors_none h1 h2] at h; cases h
  | some b => exact ⟨h1, by rw [(floors_some h1 h2).2]⟩
 ·
  rw [floors_bad h1] at h; exact absurd h h1
theorem floors_right (l : List En) : RightF (floorsR l) ∧ (floorsR l).length ≤ 21 := by
 by_cases h : (floorsC l).1 = 0
 ·
  exact fls_ok (floors_zero h).2
 ·
  have : floorsR l = [] := if_neg h
  rw [this]
  exact ⟨right_nil, by decide⟩
theorem floors_add {l : List En} {time : Int} {f : Fl} (hx : (floorsC (addL l time f)).1 = 0) (ha : (floorsC l).1 = 0) (n : List UInt8) :
  ofL (floorsR l) n ≤ ofL (floorsR (addL l time f)) n ∧ f.ep ≤ ofL (floorsR (addL l time f)) f.nm := by
 obtain ⟨h1, h2⟩ := floors_zero hx
 obtain ⟨h3, h4⟩ := floors_zero ha
 unfold addL at h2
 rw [fls_snoc, h4] at h2
 have h2' : (if (raiseC (floorsR l) f).1 = 0 then some (raisedL (floorsR l) f) else none) = some (floorsR (addL l time f)) := h2
 by_cases h0 : (raiseC (floorsR l) f).1 = 0
 ·
  rw [if_pos h0] at h2'
  obtain ⟨hr, hf, _, _, _, _⟩ := raiseC_zero h0
  rw [← Option.some.inj h2', of_raised hr hf, of_raised hr hf]
  constructor
  ·
   exact up_le f n _
  ·
   unfold upF
   rw [if_pos (Or.inr rfl)]
   omega
 ·
  rw [if_neg h0] at h2'
  cases h2'
def cellsE (l : List En) : List Value := l.flatMap En.cells
theorem cellsE_cons (e : En) (l : List En) : cellsE (e :: l) = .int .i64 e.seq :: .int .i64 e.time :: .string e.fl.who :: .int .i64 e.fl.ep :: cellsE l := rfl
theorem cellsE_append (l m : List En) : cellsE (l ++ m) = cellsE l ++ cellsE m := by simp [cellsE]
theorem cellsE_len : ∀ l : List En, (cellsE l).length = l.length * 4
 | [] => rfl
 | e :: l => by rw [cellsE_cons, List.length_cons, List.length_cons, List.length_cons, List.length_cons, cellsE_len l, List.length_cons]; omega
theorem cellsE_at : ∀ (l : List En) (i j : Nat) (hi : i < l.length), j < 4 → (cellsE l)[i * 4 + j]? = (En.cells l[i])[j]?
 | e :: l, 0, j, _, hj => by
  rw [Nat.zero_mul, Nat.zero_add]
  show (En.cells e ++ cellsE l)[j]? = _
  rw [List.getElem?_append_left (by show j < 4; exact hj)]
  rfl
 | e :: l, i + 1, j, hi, hj => by
  rw [cellsE_cons, show (i + 1) * 4 + j = i * 4 + j + 1 + 1 + 1 + 1 by omega, List.getElem?_cons_succ, List.getElem?_cons_succ, List.getElem?_cons_succ, List.getElem?_cons_succ]
  exact cellsE_at l i j (by simpa using hi) hj
theorem cellsE_one (l : List En) : ∀ u ∈ cellsE l, u.oneCell' = true := by
 intro u hu
 unfold cellsE at hu
 obtain ⟨f, _, hf⟩ := List.mem_flatMap.1 hu
 simp only [En.cells, List.mem_cons, List.not_mem_nil, or_false] at hf
 rcases hf with rfl | rfl | rfl | rfl <;> rfl
theorem cellsE_take (l : List En) (k : Nat) : cellsE (l.take k) = (cellsE l).take (k * 4) := by
 by_cases hk : k ≤ l.length
 ·
  have e := congrArg cellsE (List.take_append_drop k l)
  rw [cellsE_append] at e
  have h2 : (cellsE (l.take k)).length = k * 4 := by rw [cellsE_len, List.length_take]; omega
  rw [← e, ← h2, List.take_left]
 ·
  rw [List.take_of_length_le (by omega), List.take_of_length_le (by rw [cellsE_len]; omega)]
theorem cellsE_drop (l : List En) (k : Nat) : cellsE (l.drop k) = (cellsE l).drop (k * 4) := by
 by_cases hk : k ≤ l.length
 ·
  have e := congrArg cellsE (List.take_append_drop k l)
  rw [cellsE_append] at e
  have h2 : (cellsE (l.take k)).length = k * 4 := by rw [cellsE_len, List.length_take]; omega
  rw [← e, ← h2, List.drop_left]
 ·
  rw [List.drop_of_length_le (by omega), List.drop_of_length_le (by rw [cellsE_len]; omega)]; rfl
theorem numW (l : List UInt8) (h : Sl.numOk l = true) : Sl.wordL l = true := by
 obtain ⟨h1, h2, _⟩ := (Sl.numOk_iff l).1 h
 unfold Sl.wordL Sl.madeL
 rw [Bool.and_eq_true, decide_eq_true_eq]
 refine ⟨by omega, List.all_eq_true.2 fun b hb => ?_⟩
 have hd := List.all_eq_true.1 h2 b hb
 unfold Sl.wordB Sl.smallB
 rw [hd]
 simp
def headL : List UInt8 := [104, 101, 97, 100]
def headW (n t s : Int) : List (List UInt8) := [headL, Lib.decDigits n.toNat, Lib.decDigits t.toNat, Lib.decDigits s.toNat]
theorem headW_ok (n t s : Int) (hn : n.toNat ≤ 1000000006) (ht : t.toNat ≤ 1000000006) (hs : s.toNat ≤ 1000000006) : Sl.wordsOk (headW n t s) = true := by
 have hw : ∀ m : Nat, m ≤ 1000000006 → Sl.wordL (Lib.decDigits m) = true := fun m hm => numW _ (Sl.dec_ok m (by omega))
 rw [Sl.wordsOk_iff]
 refine ⟨⟨by show 1 ≤ 4; decide, by show 4 ≤ 10; decide⟩, fun w hm => ?_⟩
 unfold headW at hm
 simp only [List.mem_cons, List.not_mem_nil, or_false] at hm
 rcases hm with rfl | rfl | rfl | rfl
 ·
  decide
 ·
  exact hw _ hn
 ·
  exact hw _ ht
 ·
  exact hw _ hs
end Go.Proofs.YtabpnjchocgakaaGreatDoor

namespace Go.Proofs.YtabpnjchocgakaaGreatDoor
open Go.RowKit Go.Extern.Stop Go.Stop Go.Extern Go.Proofs
def EnAt (w : World) (v : Value) (l : List En) : Prop :=
 (∃ ad cap, v = .slice ad 0 cap ∧ l = []) ∨ ∃ b off cap, v = .slice (some ⟨b, off, none⟩) l.length cap ∧ l.length ≤ cap ∧ ∀ j u, (cellsE l)[j]? = some u → w.cell? ⟨b, off + j, none⟩ = some u
theorem EnAt.below {w w' : World} {v : Value} {l : List En} (h : EnAt w v l) (hb : Below w.heap.size w w') : EnAt w' v l := by
 rcases h with h | ⟨b, off, cap, h1, h2, h3⟩
 ·
  exact Or.inl h
 ·
  exact Or.inr ⟨b, off, cap, h1, h2, fun j u hu => by rw [hb.cell (p := ⟨b, off + j, none⟩) (cell_lt (h3 j u hu))]; exact h3 j u hu⟩
theorem EnAt.form {w : World} {v : Value} {l : List En} (h : EnAt w v l) : ∃ ad cap, v = .slice ad l.length cap ∧ l.length ≤ cap := by
 rcases h with ⟨ad, cap, rfl, rfl⟩ | ⟨b, off, cap, h1, h2, h3⟩
 ·
  exact ⟨ad, cap, rfl, Nat.zero_le _⟩
 ·
  exact ⟨_, _, h1, h2⟩
theorem EnAt.at {w : World} {v : Value} {l : List En} (h : EnAt w v l) (hn : 0 < l.length) : ∃ b off cap, v = .slice (some ⟨b, off, none⟩) l.length cap ∧ l.length ≤ cap ∧ b < w.heap.size ∧ (∀ j u, (cellsE l)[j]? = some u → w.cell? ⟨b, off + j, none⟩ = some u) ∧
  ∀ i (hi : i < l.length), w.cell? ⟨b, off + i * 4, none⟩ = some (.int .i64 l[i].seq) ∧ w.cell? ⟨b, off + i * 4 + 1, none⟩ = some (.int .i64 l[i].time) ∧ w.cell? ⟨b, off + i * 4 + 2, none⟩ = some (.string l[i].fl.who) ∧ w.cell? ⟨b, off + i * 4 + 3, none⟩ = some (.int .i64 l[i].fl.ep) := by
 rcases h with ⟨_, _, _, rfl⟩ | ⟨b, off, cap, h1, h2, h3⟩
 ·
  simp at hn
 ·
  have h0 : ∀ i (_ : i < l.length) (j : Nat) (u : Value), j < 4 → (En.cells l[i])[j]? = some u → w.cell? ⟨b, off + i * 4 + j, none⟩ = some u := fun i hi j u hj hu => by
   rw [Nat.add_assoc]; exact h3 _ _ ((cellsE_at l i j hi hj).trans hu)
  exact ⟨b, off, cap, h1, h2, cell_lt (h3 (0 * 4 + 0) _ ((cellsE_at l 0 0 hn (by decide)).trans rfl)), h3, fun i hi => ⟨h0 i hi 0 _ (by decide) rfl, h0 i hi 1 _ (by decide) rfl, h0 i hi 2 _ (by decide) rfl, h0 i hi 3 _ (by decide) rfl⟩⟩
theorem EnAt.take {w : World} {b off cap : Nat} {l : List En} (h2 : l.length ≤ cap) (h3 : ∀ j u, (cellsE l)[j]? = some u → w.cell? ⟨b, off + j, none⟩ = some u) (k : Nat) (hk : k ≤ l.length) : EnAt w (.slice (some ⟨b, off, none⟩) k cap) (l.take k) := by
 refine Or.inr ⟨b, off, cap, by rw [List.length_take, Nat.min_eq_left hk], by rw [List.length_take]; omega, fun j u hu => h3 j u ?_⟩
 rw [cellsE_take, List.getElem?_take] at hu
 split at hu
 ·
  exact hu
 ·
  cases hu
theorem EnAt.drop {w : World} {b off : Nat} {l : List En} (h3 : ∀ j u, (cellsE l)[j]? = some u → w.cell? ⟨b, off + j, none⟩ = some u) (k n c : Nat) (hn : n = l.length - k) (hc : n ≤ c) : EnAt w (.slice (some ⟨b, off + k * 4, none⟩) n c) (l.drop k) := by
 refine Or.inr ⟨b, off + k * 4, c, by rw [List.length_drop, hn], by rw [List.length_drop]; omega, fun j u hu => ?_⟩
 rw [cellsE_drop, List.getElem?_drop] at hu
 rw [Nat.add_assoc]
 exact h3 _ u hu
abbrev OwnE (w : World) (B : Nat) (v : Value) (l : List En) : Prop := w.ownsRow B 114 4 v l.length (cellsE l)
theorem OwnE.enAt {w : World} {B : Nat} {v : Value} {l : List En} (h : OwnE w B v l) : EnAt w v l := by
 rcases h.2 with ⟨rfl, h0⟩ | ⟨g, cap, cur, rfl, hb, hg, hc, hm, hs, ht⟩
 ·
  exact Or.inl ⟨none, 0, rfl, List.length_eq_zero_iff.1 h0⟩
 ·
  refine Or.inr ⟨g, 0, cap, rfl, hc, fun j u hu => ?_⟩
  rw [cell_of_row w g (0 + j) cur _ _ hg, Nat.zero_add]
  rw [← ht, List.getElem?_take] at hu
  split at hu
  ·
   simpa using hu
  ·
   cases hu
theorem OwnE.keep {w w' : World} {B : Nat} {v : Value} {l : List En} (h : OwnE w B v l) (hk : ∀ g, v.ownBlock = some g → w'.heap[g]? = w.heap[g]?) : OwnE w' B v l := by
 refine ⟨h.1, ?_⟩
 rcases h.2 with g | ⟨g, cap, cur, rfl, hb, hg, hc, hm, hs, ht⟩
 ·
  exact Or.inl g
 ·
  exact Or.inr ⟨g, cap, cur, rfl, hb, by rw [hk g rfl]; exact hg, hc, hm, hs, ht⟩
theorem OwnE.below {w w' : World} {B : Nat} {v : Value} {l : List En} (h : OwnE w B v l) (hb : Below w.heap.size w w') : OwnE w' B v l :=
 h.keep (fun g hg => hb.block g (h.lt g hg).2)
theorem OwnE.less {w : World} {B B' : Nat} {v : Value} {l : List En} (h : OwnE w B v l) (hb : B' ≤ B) : OwnE w B' v l := by
 refine ⟨h.1, ?_⟩
 rcases h.2 with g | ⟨g, cap, cur, e, h1, h2⟩
 ·
  exact Or.inl g
 ·
  exact Or.inr ⟨g, cap, cur, e, Nat.le_trans hb h1, h2⟩
theorem OwnE.nil (w : World) (B : Nat) : OwnE w B (.slice none 0 0) [] := World.ownsRow_nil _ _ _ _
def fdS (i : Nat) : Bool := flS i || i == 0 || i == 8 || i == 9 || i == 14
theorem EV.sub {S S' : Nat → Bool} {a : Nat → Addr} {w : World} (h : EV S a w) (hs : ∀ i, i < 16 → S' i = true → S i = true) : EV S' a w := ⟨fun i hi h2 => h.var i hi (hs i hi h2)⟩
theorem EV.fl {a : Nat → Addr} {w : World} (h : EV fdS a w) : EV flS a w := h.sub (by decide)
theorem EV.sl {a : Nat → Addr} {w : World} (h : EV fdS a w) : EV slS a w := h.sub (by decide)
def FeedPost (a : Nat → Addr) (c : Nat × Int) (r : List En) (B : Nat) (e : Ending) (w' : World) : Prop := ∃ v' ev, e = .returned (.tuple #[v', ev]) ∧ OwnE w' B v' r ∧ FlErr a w' c ev ∧ (c.1 ≠ 0 → v' = .slice none 0 0)
theorem newL_last {l : List En} {m : Nat} (hm : l.length = m + 1) : newL l = (l[m]'(by omega)).time := by
 have e : l.getLast? = l[m]? := by rw [List.getLast?_eq_getElem?, show l.length - 1 = m by omega]
 unfold newL
 rw [e, List.getElem?_eq_getElem (by omega)]
theorem newL_nil : newL [] = 0 := rfl
set_option maxRecDepth 100000 in
set_option maxHeartbeats 1000000 in
theorem newest_any (v : Value) (l : List En) (w : World) (h : EnAt w v l) (hl : l.length ≤ 1000000) :
  Calls Tryz.prog 136 #[v] w fun e w' => e = .returned (.int .i64 (newL l)) ∧ w' = w := by
 by_cases hn : 0 < l.length
 ·
  obtain ⟨m, hm⟩ : ∃ m, l.length = m + 1 := ⟨l.length - 1, by omega⟩
  obtain ⟨b, off, cap, rfl, hc, hb, _, hcell⟩ := h.at hn
  have c1 := (hcell m (by omega)).2.1
  rw [newL_last hm]
  generalize (l[m]'(by omega)).time = t at *
  rw [hm] at hc hl ⊢
  clear hcell h hn hm
  go_enter Tryz.func136, Tryz.ntmps136
  go_wp2
  go_ret
  exact ⟨rfl, rfl⟩
 ·
  obtain rfl : l = [] := List.length_eq_zero_iff.1 (by omega)
  obtain ⟨ad, cap, rfl, hc⟩ := h.form
  show Calls Tryz.prog 136 #[.slice ad 0 cap] w _
  rw [newL_nil]
  go_enter Tryz.func136, Tryz.ntmps136
  go_wp2
  go_ret
  exact ⟨rfl, rfl⟩
theorem fdTime_any (n : Int) (w : World) :
  Calls Tryz.prog 135 #[.int .i64 n] w fun e w' => e = .returned (.bool (decide (0 ≤ n ∧ n ≤ 1000000))) ∧ w' = w := by
 by_cases h1 : 0 ≤ n
 ·
  by_cases h2 : n ≤ 1000000
  ·
   rw [decide_eq_true ⟨h1, h2⟩]
   go_enter Tryz.func135, Tryz.ntmps135
   go_wp2
   go_ret
   exact ⟨rfl, rfl⟩
  ·
   rw [decide_eq_false (fun h => h2 h.2)]
   go_enter Tryz.func135, Tryz.ntmps135
   go_wp2
   go_ret
   exact ⟨by simp_all, rfl⟩
 ·
  rw [decide_eq_false (fun h => h1 h.1)]
  go_enter Tryz.func135, Tryz.ntmps135
  go_wp2
  go_ret
  exact ⟨rfl, rfl⟩
theorem Tryz.asFaultN (xT : TypeId) (w : World) : (Instr.typeAssert .nilIface xT 157 true).run Tryz.prog w = .ok (.tuple #[.pointer none, .bool false]) w := by kernel_rfl
theorem Tryz.asFaultE (v : Value) (xT : TypeId) (w : World) : (Instr.typeAssert (.iface 328 v) xT 157 true).run Tryz.prog w = .ok (.tuple #[.pointer none, .bool false]) w := by kernel_rfl
theorem Tryz.asFaultF (v : Value) (xT : TypeId) (w : World) : (Instr.typeAssert (.iface 157 v) xT 157 true).run Tryz.prog w = .ok (.tuple #[v, .bool true]) w := by kernel_rfl
set_option maxRecDepth 100000 in
theorem fdBare_any (a : Nat → Addr) (c : Nat × Int) (ev : Value) (w : World) (h : FlErr a w c ev) :
  Calls Tryz.prog 58 #[ev] w fun e w' => e = .returned (errV a c.1) ∧ w' = w := by
 have q0 := Tryz.asFaultN
 have q1 := Tryz.asFaultE
 have q2 := Tryz.asFaultF
 rcases h with ⟨h0, rfl⟩ | ⟨h0, _, rfl⟩ | ⟨h0, b, rfl, hrow⟩
 ·
  rw [h0, errV_zero]
  clear h0
  go_enter Tryz.func58, Tryz.ntmps58
  go_wp2
  go_ret
  exact ⟨rfl, rfl⟩
 ·
  rw [errV_pos a h0]
  generalize a (c.1 - 1) = p at *
  clear h0
  go_enter Tryz.func58, Tryz.ntmps58
  go_wp2
  go_ret
  exact ⟨rfl, rfl⟩
 ·
  rw [errV_pos a h0]
  generalize a (c.1 - 1) = p at *
  have c1 : w.cell? ⟨b, 1, none⟩ = some (eV p) := cell_of_row w b 1 _ _ _ hrow
  clear h0 hrow
  go_enter Tryz.func58, Tryz.ntmps58
  go_wp2
  go_ret
  exact ⟨rfl, rfl⟩
theorem check_single (f : Fl) : (checkL [f]).1 = oneE f := by
 have hb : badAt [f] 0 = oneE f := by
  show behindE [] f = oneE f
  unfold behindE
  by_cases h : oneE f = 0
  ·
   have hp := (one_pos h).1
   rw [if_pos h, if_neg (by rintro ⟨g, hg, _⟩; cases hg), if_neg (by show ¬ f.ep ≤ 0; omega), h]
  ·
   rw [if_neg h]
 by_cases h : oneE f = 0
 ·
  rw [check_good (by simp) (fun j hj => by
   obtain rfl : j = 0 := by simpa using hj
   rw [hb, h]), h]
 ·
  rw [check_bad (k := 0) (by simp) (by simp) (fun j hj => absurd hj (Nat.not_lt_zero _)) (by rw [hb]; exact h), hb]
theorem en_row {w : World} {g : Nat} {s t ep : Int} {who : ByteArray} (h : w.heap[g]? = some (.cells #[.int .i64 s, .int .i64 t, .string who, .int .i64 ep] 114 (0, 0))) :
  w.cell? ⟨g, 0, none⟩ = some (.int .i64 s) ∧ w.cell? ⟨g, 1, none⟩ = some (.int .i64 t) ∧ w.cell? ⟨g, 2, none⟩ = some (.string who) ∧ w.cell? ⟨g, 3, none⟩ = some (.int .i64 ep) :=
 ⟨cell_of_row w g 0 _ _ _ h, cell_of_row w g 1 _ _ _ h, cell_of_row w g 2 _ _ _ h, cell_of_row w g 3 _ _ _ h⟩
theorem fl_alone (w : World) (who : ByteArray) (ep : Int) : FlAt (w.alloc (.cells #[.string who, .int .i64 ep] 112)) (.slice (some ⟨w.heap.size, 0, none⟩) 1 1) [⟨who, ep⟩] :=
 Or.inr ⟨w.heap.size, 0, 1, rfl, Nat.le_refl _, fun j u hu => by
  rw [Nat.zero_add, cell_of_row _ _ j _ _ _ (heap_alloc_new w (.cells #[.string who, .int .i64 ep] 112))]
  rw [show cellsF [⟨who, ep⟩] = (#[.string who, .int .i64 ep] : Array Value).toList from rfl, Array.getElem?_toList] at hu
  exact hu⟩
set_option maxRecDepth 100000 in
set_option maxHeartbeats 4000000 in
theorem fdBehind_any (a : Nat → Addr) (v : Value) (l : List En) (e : En) (w : World) (h : EV fdS a w) (hs : e.fl.who.size ≤ maxLen) (hv : EnAt w v l) (hl : l.length ≤ 1000000) :
  Calls Tryz.prog 106 #[v, e.val] w fun r w' => r = .returned (errV a (entE l.length (newL l) e)) ∧ Below w.heap.size w w' := by
 have HNw := hide (fun w h => newest_any v l w h hl)
 have HTm := hide (fun w => fdTime_any e.time w)
 have HCk := hide (fun v1 w h h1 => check_any a v1 [e.fl] w h h1 (fun f hf => by rw [List.mem_singleton.1 hf]; exact hs) (by simp))
 have hck1 := check_single e.fl
 have HE := hide h
 have HV := hide hv
 obtain ⟨ad, cap, rfl, hcap⟩ := hv.form
 have hcase : (e.seq ≠ (l.length : Int) + 1 ∧ entE l.length (newL l) e = 15) ∨ (e.seq = (l.length : Int) + 1 ∧ ¬ (0 ≤ e.time ∧ e.time ≤ 1000000) ∧ entE l.length (newL l) e = 2) ∨
   (e.seq = (l.length : Int) + 1 ∧ (0 ≤ e.time ∧ e.time ≤ 1000000) ∧ e.time < newL l ∧ entE l.length (newL l) e = 8) ∨ (e.seq = (l.length : Int) + 1 ∧ (0 ≤ e.time ∧ e.time ≤ 1000000) ∧ ¬ e.time < newL l ∧ entE l.length (newL l) e = oneE e.fl) := by
  unfold entE
  by_cases h1 : e.seq = (l.length : Int) + 1
  ·
   by_cases h2 : 0 ≤ e.time ∧ e.time ≤ 1000000
   ·
    by_cases h3 : e.time < newL l
    ·
     exact Or.inr (Or.inr (Or.inl ⟨h1, h2, h3, by rw [if_pos h1, if_pos h2, if_pos h3]⟩))
    ·
     exact Or.inr (Or.inr (Or.inr ⟨h1, h2, h3, by rw [if_pos h1, if_pos h2, if_neg h3]⟩))
   ·
    exact Or.inr (Or.inl ⟨h1, h2, by rw [if_pos h1, if_neg h2]⟩)
  ·
   exact Or.inl ⟨h1, by rw [if_neg h1]⟩
 have HB0 : Hid (Below w.heap.size w (w.alloc (.cells #[.int .i64 e.seq, .int .i64 e.time, .string e.fl.who, .int .i64 e.fl.ep] 114))) := (Below.refl _ _).alloc (Nat.le_refl _) _
 have HC0 : Hid ((w.alloc (.cells #[.int .i64 e.seq, .int .i64 e.time, .string e.fl.who, .int .i64 e.fl.ep] 114)).heap[w.heap.size]? = some (.cells #[.int .i64 e.seq, .int .i64 e.time, .string e.fl.who, .int .i64 e.fl.ep] 114 (0, 0))) := heap_alloc_new _ _
 show Calls Tryz.prog 106 #[.slice ad l.length cap, .agg #[.int .i64 e.seq, .int .i64 e.time, .string e.fl.who, .int .i64 e.fl.ep]] w _
 clear h hv hs
 generalize entE l.length (newL l) e = c at *
 generalize newL l = nw at *
 have hfe : e.fl = ⟨e.fl.who, e.fl.ep⟩ := rfl
 rw [hfe] at HCk hck1
 have HCs := hide hck1
 clear hfe hck1
 generalize hn : l.length = n at *
 clear hn
 generalize e.seq = sq at *
 generalize e.time = tm at *
 generalize oneE _ = one at *
 generalize checkL _ = ck at *
 generalize e.fl.who = who at *
 generalize e.fl.ep = ep at *
 rcases hcase with ⟨h1, rfl⟩ | ⟨h1, h2, rfl⟩ | ⟨h1, h2, h3, rfl⟩ | ⟨h1, h2, h3, rfl⟩
 ·
  have hq : (sq == (n : Int) + 1) = false := beq_eq_false_iff_ne.2 h1
  have hvv : (w.alloc (.cells #[.int .i64 sq, .int .i64 tm, .string who, .int .i64 ep] 114)).cell? ⟨15, 0, none⟩ = some (eV (a 14)) := (HE.out.below HB0.out).var 14 (by decide) rfl
  clear h1
  go_enter Tryz.func106, Tryz.ntmps106
  go_wp2
  go_ret
  exact ⟨rfl, HB0.out⟩
 ·
  have hq : (sq == (n : Int) + 1) = true := beq_iff_eq.2 h1
  have hvv : (w.alloc (.cells #[.int .i64 sq, .int .i64 tm, .string who, .int .i64 ep] 114)).cell? ⟨0, 0, none⟩ = some (eV (a 1)) := (HE.out.below HB0.out).var 1 (by decide) rfl
  rw [decide_eq_false h2] at HTm
  clear h1 h2
  go_enter Tryz.func106, Tryz.ntmps106
  go_wp2_with fail
  refine (HTm.out _).mono ?_
  rintro e1 w1 ⟨rfl, rfl⟩
  go_wp2
  go_ret
  exact ⟨rfl, HB0.out⟩
 all_goals
  have hq : (sq == (n : Int) + 1) = true := beq_iff_eq.2 h1
  rw [decide_eq_true h2] at HTm
  clear h1 h2
  go_enter Tryz.func106, Tryz.ntmps106
  go_wp2_with fail
  refine (HTm.out _).mono ?_
  rintro e1 w1 ⟨rfl, rfl⟩
  go_wp2
  generalize hw2 : w.alloc (.cells #[.int .i64 sq, .int .i64 tm, .string who, .int .i64 ep] 114) = w2 at *
  obtain ⟨_, hc1, hc2, hc3⟩ := en_row HC0.out
  have hgl : w.heap.size < w2.heap.size := row_lt HC0.out
  have z1 := fun p : BelowAt w2 => p.cell hc1 hgl
  have HTq : Hid (∀ p : BelowAt w2, Calls Tryz.prog 136 #[.slice ad n cap] p.to fun e w'' => e = .returned (.int .i64 nw) ∧ ∃ q : BelowAt w2, w'' = q.to) := fun p => (HNw.out p.to ((HV.out.below HB0.out).below p.below)).mono fun _ _ ⟨e1, e2⟩ => ⟨e1, p, e2⟩
  have any1 : Nonempty (BelowAt w2) := BelowAt.any w2
  have HK2 := hide hc2
  have HK3 := hide hc3
  clear hc1 hc2 hc3
  refine wp_region_below (by kernel_rfl) (by kernel_rfl) ?_
  repeat (go_big_quiet_step (exact HTq.out _))
  refine wpQuiet_nil ?_
  intro _ hw'
  obtain ⟨pq, hw''⟩ := hw'
  subst hw''
  have HB3 : Hid (Below w.heap.size w pq.to) := HB0.out.trans (pq.below.mono HB0.out.size)
  have hvv : pq.to.cell? ⟨10, 0, none⟩ = some (eV (a 7)) := (HE.out.below HB3.out).var 7 (by decide) rfl
  have hk2 : pq.to.cell? ⟨w.heap.size, 2, none⟩ = some (.string who) := pq.cell HK2.out hgl
  have hk3 : pq.to.cell? ⟨w.heap.size, 3, none⟩ = some (.int .i64 ep) := pq.cell HK3.out hgl
  clear z1 HTq HK2 HK3
  generalize pq.to = w3 at *
  clear any1 hgl hw2 pq
 ·
  go_wp2
  go_ret
  exact ⟨rfl, HB3.out⟩
 ·
  have HB4 : Hid (Below w.heap.size w (w3.alloc (.cells #[.string who, .int .i64 ep] 112))) := HB3.out.alloc HB3.out.size _
  have HF4 := hide (fl_alone w3 who ep)
  go_wp2_with fail
  refine (HCk.out _ _ (HE.out.below HB4.out).fl HF4.out).mono ?_
  rintro e1 w4 ⟨ev, rfl, he, hb⟩
  have HB5 : Hid (Below w.heap.size w w4) := HB4.out.trans (hb.mono HB4.out.size)
  have HBa := hide (fdBare_any a ck ev w4 he)
  rw [HCs.out] at HBa
  clear hb he hk2 hk3 hvv
  generalize her : errV a c = er at HBa
  have HER := hide her
  clear her
  go_wp2_with fail
  refine HBa.out.mono ?_
  rintro e1 w5 ⟨rfl, rfl⟩
  go_wp2
  go_ret
  exact ⟨by rw [HER.out]; rfl, HB5.out⟩
set_option maxRecDepth 100000 in
set_option maxHeartbeats 4000000 in
theorem fdCheck_any (a : Nat → Addr) (v : Value) (l : List En) (w : World) (h : EV fdS a w) (hv : EnAt w v l) (hs : ∀ e ∈ l, e.fl.who.size ≤ maxLen) (hl : l.length ≤ 1000000) :
  Calls Tryz.prog 56 #[v] w fun e w' => ∃ ev, e = .returned ev ∧ FlErr a w' (feedC l) ev ∧ Below w.heap.size w w' := by
 by_cases h60 : 60 < l.length
 ·
  obtain ⟨ad, cap, rfl, hc⟩ := hv.form
  rw [feed_full h60]
  have hvv : w.cell? ⟨7, 0, none⟩ = some (eV (a 6)) := h.var 6 (by decide) rfl
  clear h hv hs
  generalize l.length = n at *
  have hz : (60 : Int) < (n : Int) := by omega
  go_enter Tryz.func56, Tryz.ntmps56
  go_wp2
  go_ret
  exact ⟨_, rfl, Or.inr (Or.inl ⟨by decide, rfl, rfl⟩), Below.refl _ _⟩
 ·
  obtain ⟨ad, cap, rfl, hc⟩ := hv.form
  have HV := hide hv
  have HE := hide h
  have HS := hide hs
  have HL := hide h60
  generalize hn : l.length = n at *
  have HN := hide hn
  have hz : ¬ (60 : Int) < (n : Int) := by omega
  clear h hv hs hn
  go_enter Tryz.func56, Tryz.ntmps56
  go_wp2
  go_loopg [3, 4, 5, 12] n (fun gg _ _ _ s12 wr => ∃ k : Nat, k ≤ n ∧ n - k ≤ gg ∧ s12 = .int .i64 k ∧ Hid (Below w.heap.size w wr) ∧ Hid (∀ j, j < k → badE l j = 0))
  case atStart => exact ⟨0, Nat.zero_le _, by omega, rfl, Below.refl _ _, fun j hj => absurd hj (Nat.not_lt_zero _)⟩
  case round =>
   obtain ⟨k, hk, hg, rfl, HB, A⟩ := hrel
   by_cases hlt : k < n
   ·
    have hltz : (k : Int) < (n : Int) := by omega
    have hkl : k < l.length := by rw [HN.out]; exact hlt
    have hvr := HV.out.below HB.out
    rw [← HN.out] at hvr
    obtain ⟨b, off, cap', e, hc', hb, hcl, hcell⟩ := hvr.at (by omega)
    injection e with e1 e2 e3
    subst e1; subst e3
    obtain ⟨c0, c1, c2, c3⟩ := hcell k hkl
    obtain ⟨f, hf⟩ : ∃ f, f = l[k] := ⟨_, rfl⟩
    have hbad : badE l k = entE (l.take k).length (newL (l.take k)) f := by rw [bad_at hkl, hf, List.length_take, Nat.min_eq_left (Nat.le_of_lt hkl)]
    have hfs : f.fl.who.size ≤ maxLen := HS.out f (by rw [hf]; exact List.getElem_mem _)
    rw [← hf] at c0 c1 c2 c3
    have HT : Hid (EnAt wr (.slice (some ⟨b, off, none⟩) k cap) (l.take k)) := EnAt.take hc' hcl k (by omega)
    have HCk := hide (fun w h hv => fdBehind_any a (.slice (some ⟨b, off, none⟩) k cap) (l.take k) f w h hfs hv (by rw [List.length_take]; omega))
    rw [← hbad] at HCk
    have HEr := hide (HE.out.below HB.out)
    have HA : Hid (Below wr.heap.size wr (wr.alloc (.cells #[.int .i64 f.seq, .int .i64 f.time, .string f.fl.who, .int .i64 f.fl.ep] 114))) := (Below.refl _ _).alloc (Nat.le_refl _) _
    have HR : Hid ((wr.alloc (.cells #[.int .i64 f.seq, .int .i64 f.time, .string f.fl.who, .int .i64 f.fl.ep] 114)).heap[wr.heap.size]? = some (.cells #[.int .i64 f.seq, .int .i64 f.time, .string f.fl.who, .int .i64 f.fl.ep] 114 (0, 0))) := heap_alloc_new _ _
    have HCa : Hid (∀ p : BelowAt (wr.alloc (.cells #[.int .i64 f.seq, .int .i64 f.time, .string f.fl.who, .int .i64 f.fl.ep] 114)), Calls Tryz.prog 106 #[.slice (some ⟨b, off, none⟩) k cap, .agg #[.int .i64 f.seq, .int .i64 f.time, .string f.fl.who, .int .i64 f.fl.ep]] p.to fun e w'' => e = .returned (errV a (badE l k)) ∧ ∃ q : BelowAt (wr.alloc (.cells #[.int .i64 f.seq, .int .i64 f.time, .string f.fl.who, .int .i64 f.fl.ep] 114)), w'' = q.to) :=
     fun p => BelowAt.calls (HCk.out p.to ((HEr.out.below HA.out).below p.below) ((HT.out.below HA.out).below p.below))
    clear hcell hcl hvr hf hbad hfs HT HCk HEr hb
    generalize f.seq = sq at *
    generalize f.time = tm at *
    generalize f.fl.who = who at *
    generalize f.fl.ep = ep at *
    clear f
    have hco : k ≤ cap := by omega
    go_wp2_with fail
    generalize hw2 : wr.alloc (.cells #[.int .i64 sq, .int .i64 tm, .string who, .int .i64 ep] 114) = w2 at *
    obtain ⟨hd0, hd1, hd2, hd3⟩ := en_row HR.out
    have hgl : wr.heap.size < w2.heap.size := row_lt HR.out
    have z0 := fun p : BelowAt w2 => p.cell hd0 hgl
    have z1 := fun p : BelowAt w2 => p.cell hd1 hgl
    have z2 := fun p : BelowAt w2 => p.cell hd2 hgl
    have z3 := fun p : BelowAt w2 => p.cell hd3 hgl
    have any1 : Nonempty (BelowAt w2) := BelowAt.any w2
    have HB2 : Hid (Below w.heap.size w w2) := HB.out.trans (HA.out.mono HB.out.size)
    clear c0 c1 c2 c3 hd0 hd1 hd2 hd3
    by_cases hb0 : badE l k = 0
    ·
     rw [hb0, errV_zero] at HCa
     refine wp_region_below (by kernel_rfl) (by kernel_rfl) ?_
     repeat (go_big_quiet_step (exact HCa.out _))
     refine wpQuiet_nil ?_
     intro _ hw'
     obtain ⟨pq, hw''⟩ := hw'
     subst hw''
     have HB3 : Hid (Below w.heap.size w pq.to) := HB2.out.trans (pq.below.mono HB2.out.size)
     clear z0 z1 z2 z3 HCa HA HR
     go_wp2
     go_roundg (n - (k + 1))
     case measure => omega
     case rel =>
      refine ⟨k + 1, by omega, by omega, by go_num, HB3, (show Hid _ from fun j hj => ?_)⟩
      by_cases e : j = k
      ·
       subst e; exact hb0
      ·
       exact A.out j (by omega)
    ·
     rw [errV_pos a hb0] at HCa
     have HK := hide (feed_bad (l := l) (by rw [HN.out]; exact HL.out) hkl A.out hb0)
     have HBa := hide hb0
     generalize badE l k = c at *
     refine wp_region_below (by kernel_rfl) (by kernel_rfl) ?_
     repeat (go_big_quiet_step (exact HCa.out _))
     refine wpQuiet_nil ?_
     intro _ hw'
     obtain ⟨pq, hw''⟩ := hw'
     subst hw''
     have HB3 : Hid (Below w.heap.size w pq.to) := HB2.out.trans (pq.below.mono HB2.out.size)
     clear z0 z1 z2 z3 HCa HA HR hb0
     generalize hea : a (c - 1) = ea at *
     have HEa := hide hea
     clear hea
     go_wp2
     go_ret
     exact ⟨_, rfl, by rw [HK.out]; exact Or.inr (Or.inr ⟨HBa.out, _, rfl, by rw [HEa.out]; exact heap_alloc_new _ _⟩), HB3.out.alloc HB3.out.size _⟩
   ·
    have : k = n := by omega
    subst this
    have HK := hide (feed_good (l := l) (by rw [HN.out]; exact HL.out) (by rw [HN.out]; exact A.out))
    have hltz : ¬ (k : Int) < (k : Int) := by omega
    go_wp2
    go_ret
    exact ⟨_, rfl, by rw [HK.out]; exact Or.inl ⟨rfl, rfl⟩, HB.out⟩
theorem Tryz.infoEntry : (Tryz.prog.info? 114).map (fun i => (i.zero, i.size, i.bytes)) = some (some (.agg #[.int .i64 0, .int .i64 0, .string ByteArray.empty, .int .i64 0]), 4, 40) := by kernel_rfl
set_option maxRecDepth 100000 in
set_option maxHeartbeats 1000000 in
theorem cloneE_any (v : Value) (l : List En) (w : World) (hv : EnAt w v l) (hl : l.length ≤ 1000000) :
  Calls Tryz.prog 59 #[v] w fun e w' => ∃ v', e = .returned v' ∧ OwnE w' w.heap.size v' l ∧ Below w.heap.size w w' := by
 obtain ⟨i0, hi, hz0, hz1, hz2⟩ := info_parts Tryz.infoEntry
 rcases hv with ⟨ad, cap, rfl, rfl⟩ | ⟨b, off, cap, rfl, hc, hcell⟩
 ·
  cases ad with
  | none => exact (AnyE.slices_Clone_nil Tryz.cloneE 0 cap w).mono fun e w' ⟨h1, h2⟩ => ⟨_, h1, OwnE.nil _ _, by rw [h2]; exact Below.refl _ _⟩
  | some ad =>
   have q22 : ∀ (w : World) (a : Option Addr) (n c n' c' : Nat), (binOp .eql 38 (.slice a n c) (.slice none n' c')).run Tryz.prog w = .ok (.bool a.isNone) w := fun w a n c n' c' => Lib.run_eql_slice_nil w _ _ a n c n' c' Tryz.underlying38
   go_enter Tryz.func59, Tryz.ntmps59
   go_wp2_with (at_builtin; refine wpList_append_own _ rfl _ _ 38 rfl w.heap.size 114 i0 _ 4 40 Tryz.underlying38 hi hz0 hz1 hz2 rfl (by decide) _ _ _ rfl (World.ownsRow_made w #[] 0 (Nat.le_refl _) (Nat.zero_le _) (by simp)) ad 0 cap [] rfl rfl (fun j u hj => by simp at hj) (by simp) (by unfold maxLen; omega) (by omega) (by simp) ?_; intro v' w1 hown hgrow hnil)
   go_wp2
   go_ret
   exact ⟨v', rfl, (by show w1.ownsRow w.heap.size 114 4 v' 0 []; simpa using hown), ((Below.refl _ w).alloc (Nat.le_refl _) _).grown hgrow (by simp) (fun k hk => by have e : w.heap.size = k := Option.some.inj hk; omega)⟩
 ·
  exact (AnyE.slices_Clone Tryz.cloneE i0 _ 4 40 hi hz0 hz1 hz2 rfl (by decide) Tryz.sizeOf114 b off l.length cap (cellsE l) w (cellsE_len l) (by unfold maxLen; omega) (by omega) hcell (cellsE_one l)).mono fun e w' ⟨v', h1, h2, _, h4⟩ => ⟨v', h1, h2, h4⟩
theorem small_fls : ∀ (l : List En) (x b : List Fl), (∀ e ∈ l, e.fl.who.size ≤ maxLen) → (∀ f ∈ x, f.who.size ≤ maxLen) → l.foldl stepO (some x) = some b → ∀ f ∈ b, f.who.size ≤ maxLen
 | [], x, b, _, h2, h => by
  obtain rfl : x = b := Option.some.inj h
  exact h2
 | e :: l, x, b, h1, h2, h => by
  by_cases h0 : (raiseC x e.fl).1 = 0
  ·
   refine small_fls l (raisedL x e.fl) b (fun e' he' => h1 e' (by simp [he'])) (small_raised h2 (h1 e (by simp))) ?_
   rw [← h, List.foldl_cons, show stepO (some x) e = some (raisedL x e.fl) from if_pos h0]
  ·
   exfalso
   rw [List.foldl_cons, show stepO (some x) e = none from if_neg h0, step_none] at h
   cases h
theorem small_floors {l : List En} (hs : ∀ e ∈ l, e.fl.who.size ≤ maxLen) : ∀ f ∈ floorsR l, f.who.size ≤ maxLen := by
 by_cases h : (floorsC l).1 = 0
 ·
  exact small_fls l [] _ hs (fun f hf => by cases hf) (floors_zero h).2
 ·
  have : floorsR l = [] := if_neg h
  rw [this]
  intro f hf; cases hf
set_option maxRecDepth 100000 in
set_option maxHeartbeats 4000000 in
theorem floors_any (a : Nat → Addr) (v : Value) (l : List En) (w : World) (h : EV fdS a w) (hv : EnAt w v l) (hs : ∀ e ∈ l, e.fl.who.size ≤ maxLen) (hl : l.length ≤ 1000000) :
  Calls Tryz.prog 15 #[v] w fun e w' => ListPost a (floorsC l) (floorsR l) w.heap.size e w' ∧ Below w.heap.size w w' := by
 have HC := hide (fdCheck_any a v l w h hv hs hl)
 have HE := hide h
 have HV := hide hv
 have HS := hide hs
 clear h hs
 by_cases h0 : (feedC l).1 = 0
 ·
  have HOne := hide (feed_one h0)
  have HNo := hide (fun h2 => floors_none h0 h2)
  have HYes := hide (fun b h2 => floors_some (b := b) h0 h2)
  have HBad : Hid ((floorsC l).1 ≠ 0 → floorsR l = []) := fun h => if_neg h
  obtain ⟨ad, cap, rfl, hcap⟩ := hv.form
  generalize hc : feedC l = c at *
  generalize hn : l.length = n at *
  have HN := hide hn
  clear hv hn hc
  generalize floorsC l = fc at *
  generalize floorsR l = fr at *
  go_enter Tryz.func15, Tryz.ntmps15
  go_wp2_with fail
  refine HC.out.mono ?_
  rintro e w1 ⟨ev, rfl, he, hb⟩
  obtain rfl := he.none h0
  have HB1 := hide hb
  clear he hb h0
  go_wp2
  go_loopg [5, 7, 8, 9, 17] n (fun gg s5 _ _ _ s17 wr => ∃ k : Nat, k ≤ n ∧ n - k ≤ gg ∧ s17 = .int .i64 k ∧ Hid (Below w.heap.size w wr) ∧ ∃ x, Hid (flsO (l.take k) = some x) ∧ Hid (OwnF wr w.heap.size s5 x))
  case atStart => exact ⟨0, Nat.zero_le _, by omega, rfl, HB1.out, [], rfl, OwnF.nil _ _⟩
  case round =>
   clear HB1
   obtain ⟨k, hk, hgg, rfl, HB, x, HX, HO⟩ := hrel
   by_cases hlt : k < n
   ·
    have hltz : (k : Int) < (n : Int) := by omega
    have hkl : k < l.length := by rw [HN.out]; exact hlt
    have hvr := HV.out.below HB.out
    rw [← HN.out] at hvr
    obtain ⟨b, off, cap', e, hc', hb, _, hcell⟩ := hvr.at (by omega)
    injection e with e1 e2 e3
    subst e1; subst e3
    obtain ⟨c0, c1, c2, c3⟩ := hcell k hkl
    obtain ⟨hr, hx21⟩ := fls_ok HX.out
    have hx1 := small_fls (l.take k) [] x (fun e he => HS.out e (List.mem_of_mem_take he)) (fun f hf => by cases hf) HX.out
    have hfs : (l[k]).fl.who.size ≤ maxLen := HS.out _ (List.getElem_mem _)
    have HRc := hide (raiseC_right hr hx21 (HOne.out _ (List.getElem_mem hkl)))
    have HBa : Hid (Below w.heap.size w (wr.alloc (.cells #[.int .i64 l[k].seq, .int .i64 l[k].time, .string l[k].fl.who, .int .i64 l[k].fl.ep] 114))) := HB.out.alloc HB.out.size _
    have HRa := hide (raise_any a u5 x l[k].fl (wr.alloc (.cells #[.int .i64 l[k].seq, .int .i64 l[k].time, .string l[k].fl.who, .int .i64 l[k].fl.ep] 114)) (HE.out.below HBa.out).fl (HO.out.flAt.below ((Below.refl _ _).alloc (Nat.le_refl _) _)) hx1 hfs (by omega))
    unfold Fl.val at HRa
    have HSt : Hid (flsO (l.take (k + 1)) = if (raiseC x l[k].fl).1 = 0 then some (raisedL x l[k].fl) else none) := by
     show _ = _
     rw [fls_take l k hkl, HX.out]
     rfl
    have HZ : Hid ((raiseC x l[k].fl).1 = 0 → raiseR x l[k].fl = raisedL x l[k].fl) := fun h => (raiseC_zero h).2.2.2.2.2
    have HCut := hide (fls_cut l (k + 1))
    clear hcell hvr hr hx21 hx1 hfs
    generalize raiseC x l[k].fl = rc at *
    generalize raiseR x l[k].fl = rr at *
    generalize raisedL x l[k].fl = rd at *
    generalize l[k].seq = sq at *
    generalize l[k].time = tm at *
    generalize l[k].fl.who = who at *
    generalize l[k].fl.ep = ep at *
    go_wp2_with fail
    refine HRa.out.mono ?_
    rintro e w4 ⟨⟨v4, ev4, rfl, hown, herr, hnil⟩, hb4⟩
    have HB4 : Hid (Below w.heap.size w w4) := HBa.out.trans (hb4.mono HBa.out.size)
    have HEr := hide herr
    rcases herr.cases with ⟨z0, rfl⟩ | ⟨z0, tt, pp, rfl⟩
    ·
     have HO4 : Hid (OwnF w4 w.heap.size v4 rd) := by
      rw [HZ.out z0] at hown
      exact OwnF.less hown HBa.out.size
     have HX4 : Hid (flsO (l.take (k + 1)) = some rd) := by show _ = _; rw [HSt.out, if_pos z0]
     clear hown herr hnil hb4 z0 HRa HEr HRc HSt HZ HCut
     go_wp2
     go_roundg (n - (k + 1))
     case measure => omega
     case rel => exact ⟨k + 1, by omega, by omega, by go_num, HB4, rd, HX4, HO4⟩
    ·
     have hfc : fc = (7, -1) := HNo.out (HCut.out (by rw [HSt.out, if_neg z0]))
     have hrc : rc = (7, -1) := by
      have := HRc.out
      split at this
      ·
       exact this
      ·
       rw [this] at z0; exact absurd rfl z0
     have HFr := hide (HBad.out (by rw [hfc]; decide))
     have HFc := hide hfc
     have HBr := hide (fdBare_any a rc (.iface tt pp) w4 HEr.out)
     rw [hrc, show errV a (7, (-1 : Int)).1 = eV (a 6) from rfl] at HBr
     clear hown herr hnil hb4 z0 HRa HEr HRc HSt HZ HCut hfc hrc
     go_wp2_with fail
     refine HBr.out.mono ?_
     rintro e w5 ⟨rfl, rfl⟩
     go_wp2
     go_ret2
     exact ⟨⟨_, _, rfl, by rw [HFr.out]; exact OwnF.nil _ _, by rw [HFc.out]; exact Or.inr (Or.inl ⟨by decide, rfl, rfl⟩), fun _ => rfl⟩, HB4.out⟩
   ·
    obtain rfl : k = n := by omega
    have hltz : ¬ (k : Int) < (k : Int) := by omega
    have hx : flsO l = some x := by
     have := HX.out
     rwa [List.take_of_length_le (Nat.le_of_eq HN.out)] at this
    have HY := hide (HYes.out x hx)
    clear hx
    go_wp2
    go_ret2
    exact ⟨⟨_, _, rfl, by rw [HY.out.2]; exact HO.out, by rw [HY.out.1]; exact Or.inl ⟨rfl, rfl⟩, fun h => absurd (by rw [HY.out.1]) h⟩, HB.out⟩
 ·
  have hR : floorsC l = feedC l := if_neg h0
  have hRR : floorsR l = [] := by unfold floorsR; rw [hR, if_neg h0]
  rw [hR, hRR]
  clear hR hRR hv
  generalize feedC l = c at *
  have HH := hide h0
  go_enter Tryz.func15, Tryz.ntmps15
  go_wp2_with fail
  refine HC.out.mono ?_
  rintro e w1 ⟨ev, rfl, he, hb⟩
  have HEr := hide he
  have HB1 := hide hb
  rcases he.cases with ⟨e0, _⟩ | ⟨_, tt, pp, rfl⟩
  ·
   exact absurd e0 HH.out
  ·
   clear he hb h0
   go_wp2
   go_ret2
   exact ⟨⟨_, _, rfl, OwnF.nil _ _, HEr.out, fun _ => rfl⟩, HB1.out⟩
theorem small_add {l : List En} {time : Int} {f : Fl} (hs : ∀ e ∈ l, e.fl.who.size ≤ maxLen) (hf : f.who.size ≤ maxLen) : ∀ e ∈ addL l time f, e.fl.who.size ≤ maxLen := by
 intro e he
 unfold addL at he
 rcases List.mem_append.1 he with g | g
 ·
  exact hs e g
 ·
  rw [List.mem_singleton.1 g]; exact hf
theorem own_add {w : World} {B : Nat} {v : Value} {l : List En} {time : Int} {f : Fl} {n : Nat} (hn : l.length = n) (h : w.ownsRow B 114 4 v (n + 1) (cellsE l ++ [.int .i64 ((n : Int) + 1), .int .i64 time, .string f.who, .int .i64 f.ep])) : OwnE w B v (addL l time f) := by
 show w.ownsRow B _ 4 v (addL l time f).length (cellsE (addL l time f))
 rw [addL_len, hn]
 unfold addL
 rw [cellsE_append, hn]
 exact h
set_option maxRecDepth 100000 in
set_option maxHeartbeats 8000000 in
theorem fdAdd_any (a : Nat → Addr) (v : Value) (l : List En) (time : Int) (f : Fl) (w : World) (h : EV fdS a w) (hv : EnAt w v l) (hs : ∀ e ∈ l, e.fl.who.size ≤ maxLen) (hfs : f.who.size ≤ maxLen) (hl : l.length ≤ 100000) :
  Calls Tryz.prog 113 #[v, .int .i64 time, f.val] w fun e w' => FeedPost a (addC l time f) (addR l time f) w.heap.size e w' ∧ Below w.heap.size w w' := by
 have HB0 : Hid (Below w.heap.size w (w.alloc (.cells #[.string f.who, .int .i64 f.ep] 112))) := (Below.refl _ _).alloc (Nat.le_refl _) _
 have HC0 : Hid ((w.alloc (.cells #[.string f.who, .int .i64 f.ep] 112)).heap[w.heap.size]? = some (.cells #[.string f.who, .int .i64 f.ep] 112 (0, 0))) := heap_alloc_new _ _
 have HC := hide (fun w h hv => fdCheck_any a v l w h hv hs (by omega))
 have HC2 := hide (fun v w h hv => fdCheck_any a v (addL l time f) w h hv (small_add hs hfs) (by rw [addL_len]; omega))
 have HCl := hide (fun w h => cloneE_any v l w h (by omega))
 have HE := hide h
 have HV := hide hv
 obtain ⟨i0, hi, hz0, hz1, hz2⟩ := info_parts Tryz.infoEntry
 unfold Fl.val
 obtain ⟨ad, cap, rfl, hcap⟩ := hv.form
 by_cases h0 : (feedC l).1 = 0
 ·
  have hR : addC l time f = (newE l time f, -1) := if_pos h0
  have hRR : addR l time f = if newE l time f = 0 then addL l time f else [] := by unfold addR; rw [hR]
  have hF := feed_add h0 time f
  rw [hR, hRR]
  have HOw : Hid (∀ {w : World} {B : Nat} {v : Value}, w.ownsRow B 114 4 v (l.length + 1) (cellsE l ++ [.int .i64 ((l.length : Int) + 1), .int .i64 time, .string f.who, .int .i64 f.ep]) → OwnE w B v (addL l time f)) := fun h => own_add rfl h
  have HF := hide hF
  clear hR hRR h hv hs hfs hF
  generalize newE l time f = ne at *
  generalize addL l time f = al at *
  generalize feedC al = c2 at *
  generalize feedC l = c at *
  generalize hn : l.length = n at *
  have HN := hide hn
  generalize f.who = who at *
  generalize f.ep = ep at *
  clear hn
  go_enter Tryz.func113, Tryz.ntmps113
  go_wp2_with fail
  refine (HC.out _ (HE.out.below HB0.out) (HV.out.below HB0.out)).mono ?_
  rintro e w1 ⟨ev, rfl, he, hb⟩
  obtain rfl := he.none h0
  have HB1 : Hid (Below w.heap.size w w1) := HB0.out.trans (hb.mono HB0.out.size)
  have HRo1 : Hid (w1.heap[w.heap.size]? = some (.cells #[.string who, .int .i64 ep] 112 (0, 0))) := by show _ = _; rw [hb.block _ (by simp)]; exact HC0.out
  have HLt : Hid (w.heap.size < w1.heap.size) := row_lt HRo1.out
  have hc0 : w1.cell? ⟨w.heap.size, 0, none⟩ = some (.string who) := cell_of_row w1 _ 0 _ _ _ HRo1.out
  have hc1 : w1.cell? ⟨w.heap.size, 1, none⟩ = some (.int .i64 ep) := cell_of_row w1 _ 1 _ _ _ HRo1.out
  have HEA : Hid (EnAt w1.drew (.slice ad n cap) l) := HV.out.below HB1.out.drew
  have HBA : Hid (Below w.heap.size w w1.drew) := HB1.out.drew
  have HBB : Hid (Below w.heap.size w (w1.alloc (.cells #[.int .i64 ((n : Int) + 1), .int .i64 time, .string who, .int .i64 ep] 114)).drew) := (HB1.out.alloc HB1.out.size _).drew
  have HEB : Hid (EnAt (w1.alloc (.cells #[.int .i64 ((n : Int) + 1), .int .i64 time, .string who, .int .i64 ep] 114)).drew (.slice ad n cap) l) := HV.out.below HBB.out
  have HRB : Hid ((w1.alloc (.cells #[.int .i64 ((n : Int) + 1), .int .i64 time, .string who, .int .i64 ep] 114)).drew.heap[w1.heap.size]? = some (.cells #[.int .i64 ((n : Int) + 1), .int .i64 time, .string who, .int .i64 ep] 114 (0, 0))) := heap_alloc_new _ _
  have hw1 : IntKind.i64.wrap ((n : Int) + 1) = (n : Int) + 1 := by rw [IntKind.wrap_i64]; omega
  clear he hb h0 HC0 HB0 HC
  go_wp2_with fail
  have HRoB : Hid ((w1.alloc (.cells #[.int .i64 ((n : Int) + 1), .int .i64 time, .string who, .int .i64 ep] 114)).drew.heap[w.heap.size]? = some (.cells #[.string who, .int .i64 ep] 112 (0, 0))) := (heap_alloc_old w1 (.cells #[.int .i64 ((n : Int) + 1), .int .i64 time, .string who, .int .i64 ep] 114) HLt.out).trans HRo1.out
  have HLtB : Hid (w.heap.size < (w1.alloc (.cells #[.int .i64 ((n : Int) + 1), .int .i64 time, .string who, .int .i64 ep] 114)).drew.heap.size) := row_lt HRoB.out
  have HLe : Hid (w1.heap.size ≤ (w1.alloc (.cells #[.int .i64 ((n : Int) + 1), .int .i64 time, .string who, .int .i64 ep] 114)).drew.heap.size) := Nat.le_of_lt (row_lt HRB.out)
  go_region_held3 (fun w' => w'.cell? ⟨w.heap.size, 0, none⟩ = some (.string who) ∧ w'.cell? ⟨w.heap.size, 1, none⟩ = some (.int .i64 ep)) (first | go_keep | assumption | (go_split_ands; refine ⟨?_, ?_⟩ <;> assumption))
   (first
    | (go_at_call 59; refine (HCl.out _ HEA.out).mono ?_; rintro e w6 ⟨v6, rfl, hown, hb⟩; have HB6 : Hid (Below w.heap.size w w6) := HBA.out.trans (hb.mono HBA.out.size); have HO6 : Hid (w6.ownsRow w1.heap.size 114 4 v6 n (cellsE l)) := (by show World.ownsRow _ _ _ _ _ _ _; rw [← HN.out]; exact hown); have HG6 : Hid (w1.heap.size ≤ w6.heap.size) := hb.size; have HW6 : Hid (w6.heap[w.heap.size]? = some (.cells #[.string who, .int .i64 ep] 112 (0, 0))) := (hb.block _ HLt.out).trans HRo1.out; have e1 : w6.cell? ⟨w.heap.size, 0, none⟩ = some (.string who) := cell_of_row w6 _ 0 _ _ _ HW6.out; have e2 : w6.cell? ⟨w.heap.size, 1, none⟩ = some (.int .i64 ep) := cell_of_row w6 _ 1 _ _ _ HW6.out; clear hown hb)
    | (go_at_call 59; refine (HCl.out _ HEB.out).mono ?_; rintro e w6 ⟨v6, rfl, hown, hb⟩; have HB6 : Hid (Below w.heap.size w w6) := HBB.out.trans (hb.mono HBB.out.size); have HO6 : Hid (w6.ownsRow w1.heap.size 114 4 v6 n (cellsE l)) := (by show World.ownsRow _ _ _ _ _ _ _; rw [← HN.out]; exact OwnE.less hown HLe.out); have HG6 : Hid (w1.heap.size ≤ w6.heap.size) := Nat.le_trans HLe.out hb.size; have HW6 : Hid (w6.heap[w.heap.size]? = some (.cells #[.string who, .int .i64 ep] 112 (0, 0))) := (hb.block _ HLtB.out).trans HRoB.out; have HS6 : Hid (w6.heap[w1.heap.size]? = some (.cells #[.int .i64 ((n : Int) + 1), .int .i64 time, .string who, .int .i64 ep] 114 (0, 0))) := (hb.block _ (row_lt HRB.out)).trans HRB.out; have e1 : w6.cell? ⟨w.heap.size, 0, none⟩ = some (.string who) := cell_of_row w6 _ 0 _ _ _ HW6.out; have e2 : w6.cell? ⟨w.heap.size, 1, none⟩ = some (.int .i64 ep) := cell_of_row w6 _ 1 _ _ _ HW6.out; clear hown hb)
    | (refine step_append_lies _ (by rfl) _ _ _ (by rfl) w1.heap.size 114 i0 _ 4 40 Tryz.underlying38 hi hz0 hz1 hz2 rfl (by omega) v6 n (cellsE l) (by rfl) (HO6.out.alloc _) ⟨w6.heap.size, 0, none⟩ 1 1 [.int .i64 ((n : Int) + 1), .int .i64 time, .string who, .int .i64 ep] (by rfl) (by rfl) (World.news_of_block (cs := #[.int .i64 ((n : Int) + 1), .int .i64 time, .string who, .int .i64 ep]) (t := 114) (fr := (0, 0)) (heap_alloc_new w6 _)) (by simp [Value.oneCell']) (by omega) (by unfold maxLen; omega) (by omega) (Nat.le_trans HG6.out (by simp)) (w6.heap.size + 1) (by simp) ?_; intro gg cp w7 hown1 hgrow hat hlt; have HB7 : Hid (Below w.heap.size w w7) := (HB6.out.alloc HB6.out.size _).grown hgrow (Nat.le_trans HB6.out.size (by simp)) (fun q hq => Nat.le_trans HB1.out.size (HO6.out.lt q hq).1); have HO7 := hide (HOw.out hown1); have hne : v6.ownBlock ≠ some w.heap.size := (fun e => absurd (HO6.out.lt _ e).1 (Nat.not_le.2 HLt.out)); have e3 : w7.cell? ⟨w.heap.size, 0, none⟩ = some (.string who) := (hgrow.cell_far ⟨w.heap.size, 0, none⟩ (Nat.lt_of_lt_of_le HLt.out (Nat.le_trans HG6.out (by simp))) (Ne.symm hne)).trans (((Below.refl _ w6).alloc (Nat.le_refl _) _).cell (p := ⟨w.heap.size, 0, none⟩) (row_lt HW6.out) |>.trans e1); have e4 : w7.cell? ⟨w.heap.size, 1, none⟩ = some (.int .i64 ep) := (hgrow.cell_far ⟨w.heap.size, 1, none⟩ (Nat.lt_of_lt_of_le HLt.out (Nat.le_trans HG6.out (by simp))) (Ne.symm hne)).trans (((Below.refl _ w6).alloc (Nat.le_refl _) _).cell (p := ⟨w.heap.size, 1, none⟩) (row_lt HW6.out) |>.trans e2); clear hne hown1 hgrow hat hlt)
    | (refine step_append_lies _ (by rfl) _ _ _ (by rfl) w1.heap.size 114 i0 _ 4 40 Tryz.underlying38 hi hz0 hz1 hz2 rfl (by omega) v6 n (cellsE l) (by rfl) HO6.out ⟨w1.heap.size, 0, none⟩ 1 1 [.int .i64 ((n : Int) + 1), .int .i64 time, .string who, .int .i64 ep] (by rfl) (by rfl) (World.news_of_block (cs := #[.int .i64 ((n : Int) + 1), .int .i64 time, .string who, .int .i64 ep]) (t := 114) (fr := (0, 0)) HS6.out) (by simp [Value.oneCell']) (by omega) (by unfold maxLen; omega) (by omega) HG6.out w6.heap.size rfl ?_; intro gg cp w7 hown1 hgrow hat hlt; have HB7 : Hid (Below w.heap.size w w7) := HB6.out.grown hgrow HB6.out.size (fun q hq => Nat.le_trans HB1.out.size (HO6.out.lt q hq).1); have HO7 := hide (HOw.out hown1); have hne : v6.ownBlock ≠ some w.heap.size := (fun e => absurd (HO6.out.lt _ e).1 (Nat.not_le.2 HLt.out)); have e3 : w7.cell? ⟨w.heap.size, 0, none⟩ = some (.string who) := (hgrow.cell_far ⟨w.heap.size, 0, none⟩ (row_lt HW6.out) (Ne.symm hne)).trans e1; have e4 : w7.cell? ⟨w.heap.size, 1, none⟩ = some (.int .i64 ep) := (hgrow.cell_far ⟨w.heap.size, 1, none⟩ (row_lt HW6.out) (Ne.symm hne)).trans e2; clear hne hown1 hgrow hat hlt))
  all_goals
   clear e1 e2 e3 e4 HO6 HB6 HG6 HW6 HRB HRoB HLe HLtB HEA HEB HBA HBB hc0 hc1 HRo1 HOw HCl
   have HE7 := hide (HE.out.below HB7.out)
   go_wp2_with fail
   refine (HC2.out _ _ HE7.out HO7.out.enAt).mono ?_
   rintro e w8 ⟨ev, rfl, he, hb⟩
   have HB8 : Hid (Below w.heap.size w w8) := HB7.out.trans (hb.mono HB7.out.size)
   have HO8 := hide (OwnE.below (OwnE.less HO7.out HB1.out.size) hb)
   have HEr := hide he
   clear HE7 HC2 HE
   rcases he.cases with ⟨z0, rfl⟩ | ⟨z0, tt, pp, rfl⟩
   ·
    have HNz : Hid (ne = 0) := HF.out.symm.trans z0
    clear he hb z0
    go_wp2
    go_ret2
    exact ⟨⟨_, _, rfl, by first | exact HO8.out | (rw [if_pos HNz.out]; exact HO8.out), Or.inl ⟨by first | rfl | exact HNz.out, rfl⟩, fun h => absurd (by first | rfl | exact HNz.out) h⟩, HB8.out⟩
   ·
    have HNz : Hid (ne ≠ 0) := fun e => z0 (HF.out.trans e)
    have HBr := hide (fdBare_any a c2 (.iface tt pp) w8 HEr.out)
    rw [HF.out, errV_pos a HNz.out] at HBr
    clear he hb z0
    generalize hea : a (ne - 1) = ea at HBr
    have HEa := hide hea
    clear hea
    go_wp2_with fail
    refine HBr.out.mono ?_
    rintro e w9 ⟨rfl, rfl⟩
    go_wp2
    go_ret2
    exact ⟨⟨_, _, rfl, by first | exact OwnE.nil _ _ | (rw [if_neg HNz.out]; exact OwnE.nil _ _), Or.inr (Or.inl ⟨HNz.out, rfl, by rw [HEa.out]; rfl⟩), fun _ => rfl⟩, HB8.out⟩
 ·
  have hR : addC l time f = feedC l := if_neg h0
  have hRR : addR l time f = [] := by unfold addR; rw [hR, if_neg h0]
  rw [hR, hRR]
  clear hR hRR hv hs hfs h HC2 HCl
  generalize feedC l = c at *
  generalize f.who = who at *
  generalize f.ep = ep at *
  have HH := hide h0
  go_enter Tryz.func113, Tryz.ntmps113
  go_wp2_with fail
  refine (HC.out _ (HE.out.below HB0.out) (HV.out.below HB0.out)).mono ?_
  rintro e w1 ⟨ev, rfl, he, hb⟩
  have HEr := hide he
  have HB1 : Hid (Below w.heap.size w w1) := HB0.out.trans (hb.mono HB0.out.size)
  rcases he.cases with ⟨e0, _⟩ | ⟨_, tt, pp, rfl⟩
  ·
   exact absurd e0 HH.out
  ·
   clear he hb h0
   go_wp2
   go_ret2
   exact ⟨⟨_, _, rfl, OwnE.nil _ _, HEr.out, fun _ => rfl⟩, HB1.out⟩
end Go.Proofs.YtabpnjchocgakaaGreatDoor

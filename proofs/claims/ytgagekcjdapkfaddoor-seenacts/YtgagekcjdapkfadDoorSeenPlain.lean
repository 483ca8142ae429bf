/-
  Words that were seen, with their times, plainly: as a map holds them, in the order of the words; what goes by a time, a look-up, one more; and what asking for a word answers and leaves: that a word of one time passes once, as long as now only rises.
-/
import Derived.Test.YtgagekcjdapkfadDoorSealPlain
import Derived.Test.YtgagekcjdapkfadDoorBase
import Derived.Maps.OwnSet
import Derived.Lib.SlMapFilter
namespace Go.Proofs.YtgagekcjdapkfadDoor
open Go

/-- A word and its time. -/
structure Wd where
  s : ByteArray
  t : Int
/-- A word's bytes. -/
abbrev Wd.nm (p : Wd) : List UInt8 := p.s.data.toList
/-- What a time in a map reads as. -/
def wdD (p : Wd) : DataW Unit := .lit (.int .i64 p.t)
def wdR : Value → Option (DataW Unit × List MemPlace)
  | .int .i64 t => some (.lit (.int .i64 t), [])
  | _ => none
theorem wdR_val (t : Int) : wdR (.int .i64 t) = some (.lit (.int .i64 t), []) := rfl
theorem wdR_inv {v : Value} {z : DataW Unit × List MemPlace} (h : wdR v = some z) : ∃ t : Int, v = .int .i64 t ∧ z = (.lit (.int .i64 t), []) := by
  unfold wdR at h
  split at h
  · rename_i t
    exact ⟨t, rfl, by cases h; rfl⟩
  · cases h
theorem wd_lit {t u : Int} (h : (DataW.lit (.int .i64 t) : DataW Unit) = .lit (.int .i64 u)) : t = u := by
  simpa using h

/-- The datum of a map that holds words. -/
def entW (p : Wd) : Lit × DataW Unit := (.string p.nm, wdD p)
def dOfW (L : List Wd) : DataW Unit := .map (L.map entW)
def getW (L : List Wd) (s : ByteArray) : Option Wd := L.find? (fun p => decide (p.s = s))
theorem same_word (p : Wd) (s : ByteArray) : (entW p).1.sameKey (.string s.data.toList) = decide (p.s = s) := by
  show (p.s.data.toList == s.data.toList) = _
  by_cases h : p.s = s
  · subst h; simp
  · rw [decide_eq_false h]
    exact beq_eq_false_iff_ne.2 fun e => h (Go.WideShapes.bytes_inj e)
theorem find_entW : ∀ (L : List Wd) (s : ByteArray), (L.map entW).find? (fun p => p.1.sameKey (.string s.data.toList)) = (getW L s).map entW
  | [], _ => rfl
  | p :: L, s => by
    have ih := find_entW L s
    unfold getW at ih ⊢
    rw [List.map_cons, List.find?_cons, List.find?_cons, same_word]
    cases decide (p.s = s)
    · exact ih
    · rfl
theorem dOfW_at (L : List Wd) (s : ByteArray) (z : DataW Unit) : (dOfW L).atKey (.string s.data.toList) z = match getW L s with | some p => wdD p | none => z := by
  unfold dOfW DataW.atKey
  simp only []
  rw [find_entW]
  cases getW L s <;> rfl
theorem dOfW_has (L : List Wd) (s : ByteArray) : Maps.has (dOfW L) (.string s.data.toList) = (getW L s).isSome := by
  show (L.map entW).any (fun p => p.1.sameKey (.string s.data.toList)) = _
  have h : (L.map entW).any (fun p => p.1.sameKey (.string s.data.toList)) = ((L.map entW).find? (fun p => p.1.sameKey (.string s.data.toList))).isSome := by
    induction L.map entW with
    | nil => rfl
    | cons x l ih =>
      rw [List.any_cons, List.find?_cons]
      cases x.1.sameKey (.string s.data.toList)
      · simpa using ih
      · rfl
  rw [h, find_entW]
  cases getW L s <;> rfl
theorem dOfW_size (L : List Wd) : Maps.size (dOfW L) = L.length := by
  show (L.map entW).length = _
  simp

/-- Words in their order: each ahead of the next. -/
def RisingW (L : List Wd) : Prop := L.Pairwise (fun p q => p.nm < q.nm)
theorem before_eqW : ∀ (x y : List UInt8), bytesBefore x y = decide (x < y)
  | [], [] => by simp [bytesBefore]
  | _ :: _, [] => by simp [bytesBefore]
  | [], _ :: _ => by simp [bytesBefore]
  | a :: x, b :: y => by
    rw [bytesBefore, before_eqW x y]
    simp only [List.cons_lt_cons_iff]
    by_cases h1 : a < b <;> by_cases h2 : a = b <;> by_cases h3 : x < y <;> simp [h1, h2, h3]
/-- One more, in its order; and in the place of whatever has that word. -/
def insW (p : Wd) : List Wd → List Wd
  | [] => [p]
  | q :: r => if p.nm < q.nm then p :: q :: r else q :: insW p r
def putW (L : List Wd) (p : Wd) : List Wd := insW p (L.filter (fun q => !decide (q.s = p.s)))
theorem ins_entW (p : Wd) : ∀ L : List Wd, DataW.insert (entW p) (L.map entW) = (insW p L).map entW
  | [] => rfl
  | q :: r => by
    rw [List.map_cons]
    unfold DataW.insert insW
    have hb : (entW p).1.before (entW q).1 = decide (p.nm < q.nm) := before_eqW _ _
    rw [hb, ins_entW p r]
    by_cases h : p.nm < q.nm
    · simp [h]
    · simp [h]
theorem dOfW_put (L : List Wd) (p : Wd) : (dOfW L).put (.string p.s.data.toList) (wdD p) = dOfW (putW L p) := by
  show DataW.map (DataW.insert (entW p) ((L.map entW).filter fun q => !q.1.sameKey (.string p.s.data.toList))) = _
  have : (L.map entW).filter (fun q => !q.1.sameKey (.string p.s.data.toList)) = (L.filter (fun q => !decide (q.s = p.s))).map entW := by
    rw [List.filter_map]
    congr 1
    apply List.filter_congr
    intro q _
    show (!(entW q).1.sameKey (.string p.s.data.toList)) = _
    rw [same_word]
  rw [this, ins_entW]
  rfl
/-- Those whose time is too long ago by now are gone. -/
def lateB (long now t : Int) : Bool := decide (t < now - long)
def keepW (long now : Int) (L : List Wd) : List Wd := L.filter (fun p => !lateB long now p.t)
/-- The same of a key and what stands at it. -/
def lateD (long now : Int) : Lit → DataW Unit → Bool
  | _, .lit (.int .i64 t) => lateB long now t
  | _, _ => false
theorem dOfW_keep (long now : Int) (L : List Wd) : Lib.deleteFuncD (lateD long now) (dOfW L) = dOfW (keepW long now L) := by
  show DataW.map ((L.map entW).filter fun p => !lateD long now p.1 p.2) = DataW.map ((L.filter fun p => !lateB long now p.t).map entW)
  rw [List.filter_map]
  rfl

theorem word_eq {p q : Wd} (h : p.nm = q.nm) : p.s = q.s := Go.WideShapes.bytes_inj h
theorem filter_neW {A : List Wd} {p : Wd} (h : ∀ x ∈ A, x.s ≠ p.s) : A.filter (fun q => !decide (q.s = p.s)) = A :=
  List.filter_eq_self.2 fun x hx => by simp [h x hx]
theorem putW_new {L : List Wd} {p : Wd} (h : ∀ q ∈ L, q.s ≠ p.s) : putW L p = insW p L := by
  unfold putW
  rw [filter_neW h]
theorem getW_none {L : List Wd} {s : ByteArray} (h : getW L s = none) : ∀ q ∈ L, q.s ≠ s := fun q hq e => by
  have := List.find?_eq_none.1 h q hq
  simp [e] at this
theorem getW_some {L : List Wd} {s : ByteArray} {p : Wd} (h : getW L s = some p) : p ∈ L ∧ p.s = s :=
  ⟨List.mem_of_find?_eq_some h, by simpa using List.find?_some h⟩
theorem insW_perm (p : Wd) : ∀ L : List Wd, (insW p L).Perm (p :: L)
  | [] => List.Perm.refl _
  | q :: r => by
    unfold insW
    split
    · exact List.Perm.refl _
    · exact ((insW_perm p r).cons q).trans (List.Perm.swap p q r)
theorem insW_rising (p : Wd) : ∀ L : List Wd, RisingW L → (∀ q ∈ L, q.s ≠ p.s) → RisingW (insW p L)
  | [], _, _ => List.pairwise_singleton _ _
  | q :: r, h, hne => by
    obtain ⟨h1, h2⟩ := List.pairwise_cons.1 h
    unfold insW
    split
    · rename_i hlt
      exact List.pairwise_cons.2 ⟨fun x hx => by
        rcases List.mem_cons.1 hx with rfl | hx
        · exact hlt
        · exact List.lt_trans hlt (h1 x hx), h⟩
    · rename_i hlt
      have hqp : q.nm < p.nm := by
        refine Decidable.byContradiction fun g => hne q (by simp) (word_eq ?_)
        exact List.le_antisymm (List.not_lt.1 hlt) (List.not_lt.1 g)
      refine List.pairwise_cons.2 ⟨fun x hx => ?_, insW_rising p r h2 (fun x hx => hne x (by simp [hx]))⟩
      rcases List.mem_cons.1 ((insW_perm p r).mem_iff.1 hx) with rfl | hx
      · exact hqp
      · exact h1 x hx
/-- Behind the first k, that are all ahead of it, and ahead of the rest, it stands at k. -/
theorem insW_at (p : Wd) : ∀ (L : List Wd) (k : Nat), k ≤ L.length → (∀ j (hj : j < L.length), j < k → L[j].nm < p.nm) → (∀ h : k < L.length, ¬ L[k].nm < p.nm) → (∀ q ∈ L, q.s ≠ p.s) → insW p L = L.take k ++ p :: L.drop k
  | [], k, hk, _, _, _ => by
    have : k = 0 := by simpa using hk
    subst this; rfl
  | q :: r, 0, _, _, h2, hne => by
    have h := h2 (by simp)
    have hpq : p.nm < q.nm := by
      refine Decidable.byContradiction fun g => hne q (by simp) (word_eq ?_)
      exact List.le_antisymm (List.not_lt.1 g) (List.not_lt.1 h)
    unfold insW
    rw [if_pos hpq]
    rfl
  | q :: r, k + 1, hk, h1, h2, hne => by
    have hq : q.nm < p.nm := h1 0 (by simp) (by omega)
    unfold insW
    rw [if_neg (fun e => List.lt_irrefl _ (List.lt_trans e hq)), insW_at p r k (by simpa using hk) (fun j hj hjk => h1 (j + 1) (by simpa using hj) (by omega)) (fun h => h2 (by simpa using h)) (fun x hx => hne x (by simp [hx]))]
    rfl

/-- What holds of the words at any time. -/
structure GoodW (L : List Wd) : Prop where
  rising : RisingW L
  few : L.length ≤ 40
  small : ∀ p ∈ L, p.s.size ≤ 20
theorem GoodW.nil : GoodW [] := ⟨List.Pairwise.nil, by simp, by simp⟩
theorem GoodW.keep {L : List Wd} (h : GoodW L) (long now : Int) : GoodW (keepW long now L) :=
  ⟨List.Pairwise.filter _ h.rising, Nat.le_trans (List.length_filter_le _ _) h.few, fun p hp => h.small p (List.mem_filter.1 hp).1⟩
theorem GoodW.put {L : List Wd} (h : GoodW L) {p : Wd} (hs : p.s.size ≤ 20) (hg : getW L p.s = none) (hn : ¬ 40 ≤ L.length) : GoodW (putW L p) ∧ putW L p = insW p L := by
  have e := putW_new (getW_none hg)
  rw [e]
  refine ⟨⟨insW_rising p L h.rising (getW_none hg), ?_, fun q hq => ?_⟩, rfl⟩
  · rw [(insW_perm p L).length_eq]
    simp; omega
  · rcases List.mem_cons.1 ((insW_perm p L).mem_iff.1 hq) with rfl | hq
    · exact hs
    · exact h.small q hq

/-- What asking for a word answers ahead of all that is there. -/
def seenE (long t now : Int) (s : ByteArray) : Nat :=
  if Sl.wordL s.data.toList = false then 1
  else if ¬ (0 ≤ t ∧ t ≤ 1000000) ∨ ¬ (0 ≤ now ∧ now ≤ 1000000) then 2
  else if now + long < t then 11
  else if t < now - long then 12
  else 0
/-- What asking answers, and what is there behind it. -/
def seenC (long : Int) (L : List Wd) (s : ByteArray) (t now : Int) : Nat :=
  if seenE long t now s ≠ 0 then seenE long t now s
  else if (getW (keepW long now L) s).isSome then 6
  else if 40 ≤ (keepW long now L).length then 7
  else 0
def seenL (long : Int) (L : List Wd) (s : ByteArray) (t now : Int) : List Wd :=
  if seenE long t now s ≠ 0 then L
  else if (getW (keepW long now L) s).isSome then keepW long now L
  else if 40 ≤ (keepW long now L).length then keepW long now L
  else putW (keepW long now L) ⟨s, t⟩
theorem word_small {s : ByteArray} (h : Sl.wordL s.data.toList = true) : s.size ≤ 20 := by
  unfold Sl.wordL Sl.madeL at h
  simp only [Bool.and_eq_true, decide_eq_true_eq] at h
  have e : s.data.toList.length = s.size := Array.length_toList
  omega
theorem seen_word {long t now : Int} {s : ByteArray} (h : seenE long t now s = 0) : Sl.wordL s.data.toList = true ∧ (0 ≤ t ∧ t ≤ 1000000) ∧ (0 ≤ now ∧ now ≤ 1000000) ∧ t ≤ now + long ∧ now - long ≤ t := by
  unfold seenE at h
  split at h
  · cases h
  · rename_i h1
    split at h
    · cases h
    · rename_i h2
      split at h
      · cases h
      · split at h
        · cases h
        · refine ⟨by simpa using h1, ?_, ?_, by omega, by omega⟩ <;> omega
theorem seenL_good {long : Int} {L : List Wd} (h : GoodW L) (s : ByteArray) (t now : Int) : GoodW (seenL long L s t now) := by
  unfold seenL
  split
  · exact h
  · rename_i h1
    split
    · exact h.keep _ _
    · rename_i h2
      split
      · exact h.keep _ _
      · rename_i h3
        exact ((h.keep long now).put (word_small (seen_word (by simpa using h1)).1) (by simpa using h2) h3).1
/-- The four ways of asking. -/
theorem seen_err {long : Int} {L : List Wd} {s : ByteArray} {t now : Int} (h : seenE long t now s ≠ 0) : seenC long L s t now = seenE long t now s ∧ seenL long L s t now = L := by
  unfold seenC seenL; exact ⟨if_pos h, if_pos h⟩
theorem seen_is {long : Int} {L : List Wd} {s : ByteArray} {t now : Int} (h : seenE long t now s = 0) {p : Wd} (hg : getW (keepW long now L) s = some p) : seenC long L s t now = 6 ∧ seenL long L s t now = keepW long now L := by
  have h1 : ¬ seenE long t now s ≠ 0 := fun e => e h
  have h2 : (getW (keepW long now L) s).isSome = true := by rw [hg]; rfl
  unfold seenC seenL; exact ⟨(if_neg h1).trans (if_pos h2), (if_neg h1).trans (if_pos h2)⟩
theorem seen_full {long : Int} {L : List Wd} {s : ByteArray} {t now : Int} (h : seenE long t now s = 0) (hg : getW (keepW long now L) s = none) (hn : 40 ≤ (keepW long now L).length) : seenC long L s t now = 7 ∧ seenL long L s t now = keepW long now L := by
  have h1 : ¬ seenE long t now s ≠ 0 := fun e => e h
  have h2 : ¬ (getW (keepW long now L) s).isSome = true := by rw [hg]; simp
  unfold seenC seenL; exact ⟨(if_neg h1).trans ((if_neg h2).trans (if_pos hn)), (if_neg h1).trans ((if_neg h2).trans (if_pos hn))⟩
theorem seen_ok {long : Int} {L : List Wd} {s : ByteArray} {t now : Int} (h : seenE long t now s = 0) (hg : getW (keepW long now L) s = none) (hn : ¬ 40 ≤ (keepW long now L).length) : seenC long L s t now = 0 ∧ seenL long L s t now = putW (keepW long now L) ⟨s, t⟩ := by
  have h1 : ¬ seenE long t now s ≠ 0 := fun e => e h
  have h2 : ¬ (getW (keepW long now L) s).isSome = true := by rw [hg]; simp
  unfold seenC seenL; exact ⟨(if_neg h1).trans ((if_neg h2).trans (if_neg hn)), (if_neg h1).trans ((if_neg h2).trans (if_neg hn))⟩
theorem seen_zero {long : Int} {L : List Wd} {s : ByteArray} {t now : Int} (h : seenC long L s t now = 0) : seenE long t now s = 0 ∧ getW (keepW long now L) s = none ∧ ¬ 40 ≤ (keepW long now L).length := by
  unfold seenC at h
  split at h
  · rename_i h1; exact absurd h h1
  · rename_i h1
    split at h
    · cases h
    · rename_i h2
      split at h
      · cases h
      · rename_i h3
        exact ⟨by simpa using h1, by simpa using h2, h3⟩

/-- Each word that passed is there, or too long ago: as long as now only rises. -/
def PastW (long now : Int) (L H : List Wd) : Prop := ∀ h ∈ H, h ∈ L ∨ h.t < now - long
theorem pastW_step {long now now' : Int} {L H : List Wd} (hP : PastW long now L H) (hn : now ≤ now') (s : ByteArray) (t : Int) : PastW long now' (seenL long L s t now') H := fun h hh => by
  have hk : h ∈ L → h ∈ keepW long now' L ∨ h.t < now' - long := fun hm => by
    by_cases g : h.t < now' - long
    · exact Or.inr g
    · exact Or.inl (List.mem_filter.2 ⟨hm, by simp [lateB, g]⟩)
  rcases hP h hh with hm | hl
  · unfold seenL
    split
    · exact Or.inl hm
    · split
      · exact hk hm
      · rename_i h2
        split
        · exact hk hm
        · rcases hk hm with g | g
          · refine Or.inl ?_
            rw [putW_new (getW_none (by simpa using h2))]
            exact (insW_perm _ _).mem_iff.2 (List.mem_cons_of_mem _ g)
          · exact Or.inr g
  · exact Or.inr (by omega)
theorem pastW_pass {long now now' : Int} {L H : List Wd} (hP : PastW long now L H) (hn : now ≤ now') {s : ByteArray} {t : Int} (h0 : seenC long L s t now' = 0) : (∀ h ∈ H, h.s = s → h.t = t → False) ∧ PastW long now' (seenL long L s t now') (H ++ [⟨s, t⟩]) := by
  obtain ⟨hc, hg, hf⟩ := seen_zero h0
  have hw := seen_word hc
  refine ⟨fun h hh e1 e2 => ?_, fun h hh => ?_⟩
  · rcases hP h hh with hm | hl
    · refine getW_none hg h (List.mem_filter.2 ⟨hm, ?_⟩) e1
      have : ¬ h.t < now' - long := by omega
      simp [lateB, this]
    · omega
  · rcases List.mem_append.1 hh with hh | hh
    · exact pastW_step hP hn s t h hh
    · refine Or.inl ?_
      rw [List.mem_singleton.1 hh, (seen_ok hc hg hf).2, putW_new (getW_none hg)]
      exact (insW_perm _ _).mem_iff.2 (List.mem_cons_self ..)
end Go.Proofs.YtgagekcjdapkfadDoor

/-
  A desk's open sessions as its map holds them, plainly: they are the map's entries by their numbers; a look-up, a store, a deletion and the number of entries in terms of the sessions; and what a sweep of the map has left, as a function of which entries are still to come.
-/
import Derived.Test.YteabincmopeljaeGreatDoorSessPlain
import Derived.Maps.RangeWalk
import Derived.Maps.OwnSet
namespace Go.Proofs.YteabincmopeljaeGreatDoor
open Go

/-- What a ticket in a map reads as. -/
def tkD (t : Tk) : DataW Unit := .agg [.lit (.string t.who.data.toList), .lit (.string t.dst.data.toList), .lit (.int .i64 t.epoch), .lit (.int .i64 t.frm), .lit (.int .i64 t.til), .lit (.int .i64 t.ser)]
def tkR : Value → Option (DataW Unit × List MemPlace)
  | .agg cs => match cs.toList with
    | [.string a, .string b, .int .i64 c, .int .i64 d, .int .i64 e, .int .i64 f] => some (tkD ⟨a, b, c, d, e, f⟩, [])
    | _ => none
  | _ => none
theorem tkR_val (t : Tk) : tkR t.val = some (tkD t, []) := rfl
theorem tkR_inv {v : Value} {z : DataW Unit × List MemPlace} (h : tkR v = some z) : ∃ t : Tk, v = t.val ∧ z = (tkD t, []) := by
  unfold tkR at h
  split at h
  · rename_i cs
    split at h
    · rename_i a b c d e f hl
      refine ⟨⟨a, b, c, d, e, f⟩, ?_, by cases h; rfl⟩
      unfold Tk.val Tk.cells
      congr 1
      exact Array.ext' (by rw [hl])
    · cases h
  · cases h
theorem tkD_inj {p q : Tk} (h : tkD p = tkD q) : p = q := by
  obtain ⟨a, b, c, d, e, f⟩ := p
  obtain ⟨a', b', c', d', e', f'⟩ := q
  simp only [tkD, DataW.agg.injEq, List.cons.injEq, DataW.lit.injEq, Lit.string.injEq, Lit.int.injEq, true_and, and_true] at h
  obtain ⟨h1, h2, rfl, rfl, rfl, rfl⟩ := h
  obtain rfl : a = a' := Go.WideShapes.bytes_inj h1
  obtain rfl : b = b' := Go.WideShapes.bytes_inj h2
  rfl

/-- The datum of a map that holds sessions. -/
def entT (o : Os) : Lit × DataW Unit := (.int .i64 o.n, tkD o.tk)
def dOfT (L : List Os) : DataW Unit := .map (L.map entT)
theorem same_num (o : Os) (n : Int) : (entT o).1.sameKey (.int .i64 n) = decide (o.n = n) := by simp [entT, Lit.sameKey]
theorem find_entT : ∀ (L : List Os) (n : Int), (L.map entT).find? (fun p => p.1.sameKey (.int .i64 n)) = (findO L n).map entT
  | [], _ => rfl
  | o :: L, n => by
    have ih := find_entT L n
    unfold findO at ih ⊢
    rw [List.map_cons, List.find?_cons, List.find?_cons, same_num]
    cases decide (o.n = n)
    · exact ih
    · rfl
theorem dOfT_at (L : List Os) (n : Int) (z : DataW Unit) : (dOfT L).atKey (.int .i64 n) z = match findO L n with | some o => tkD o.tk | none => z := by
  unfold dOfT DataW.atKey
  simp only []
  rw [find_entT]
  cases findO L n <;> rfl
theorem dOfT_has (L : List Os) (n : Int) : Maps.has (dOfT L) (.int .i64 n) = (findO L n).isSome := by
  show (L.map entT).any (fun p => p.1.sameKey (.int .i64 n)) = _
  have h : (L.map entT).any (fun p => p.1.sameKey (.int .i64 n)) = ((L.map entT).find? (fun p => p.1.sameKey (.int .i64 n))).isSome := by
    induction L.map entT with
    | nil => rfl
    | cons x l ih =>
      rw [List.any_cons, List.find?_cons]
      cases x.1.sameKey (.int .i64 n)
      · simpa using ih
      · rfl
  rw [h, find_entT]
  cases findO L n <;> rfl
theorem dOfT_size (L : List Os) : Maps.size (dOfT L) = L.length := by
  show (L.map entT).length = _
  simp
theorem dOfT_del (L : List Os) (n : Int) : (dOfT L).del (.int .i64 n) = dOfT (closeL L n) := by
  show DataW.map ((L.map entT).filter fun p => !p.1.sameKey (.int .i64 n)) = _
  unfold dOfT closeL
  rw [List.filter_map]
  congr 2
  exact List.filter_congr fun o _ => by show (!(entT o).1.sameKey (.int .i64 n)) = _; rw [same_num]
theorem insT_end (x : Os) : ∀ L : List Os, (∀ o ∈ L, o.n < x.n) → DataW.insert (entT x) (L.map entT) = (L ++ [x]).map entT
  | [], _ => rfl
  | o :: L, h => by
    have h1 := h o (by simp)
    rw [List.map_cons]
    unfold DataW.insert
    have hb : (entT x).1.before (entT o).1 = false := by
      show decide (x.n < o.n) = false
      exact decide_eq_false (by omega)
    rw [hb, insT_end x L (fun q hq => h q (by simp [hq]))]
    rfl
theorem dOfT_put (L : List Os) (x : Os) (h : ∀ o ∈ L, o.n < x.n) : (dOfT L).put (.int .i64 x.n) (tkD x.tk) = dOfT (L ++ [x]) := by
  show DataW.map (DataW.insert (entT x) ((L.map entT).filter fun p => !p.1.sameKey (.int .i64 x.n))) = _
  have e : (L.map entT).filter (fun p => !p.1.sameKey (.int .i64 x.n)) = L.map entT := by
    refine List.filter_eq_self.2 fun p hp => ?_
    obtain ⟨o, ho, rfl⟩ := List.mem_map.1 hp
    rw [same_num]
    have := h o ho
    simp
    omega
  rw [e, insT_end x L h]
  rfl

/-- What stands at a number. -/
theorem at_open {L : List Os} {n : Int} {yd : DataW Unit} (hat : ∀ zd, (dOfT L).atKey (.int .i64 n) zd = yd) : ∃ o ∈ L, o.n = n ∧ yd = tkD o.tk := by
  cases hg : findO L n with
  | none =>
    have h1 := hat (.lit (.bool true))
    have h2 := hat (.lit (.bool false))
    rw [dOfT_at, hg] at h1 h2
    simp only [] at h1 h2
    rw [← h2] at h1
    cases h1
  | some o =>
    obtain ⟨h1, h2⟩ := findO_some hg
    have h3 := hat (.lit (.bool true))
    rw [dOfT_at, hg] at h3
    exact ⟨o, h1, h2, h3.symm⟩

/-- Those of a list that stay, or are still to come. -/
def leftO (P : Os → Bool) (L : List Os) (left : Lit → Bool) : List Os := L.filter fun o => P o || left (.int .i64 o.n)
/-- Those that have come and did not stay. -/
def goneO (P : Os → Bool) (L : List Os) (left : Lit → Bool) : List Os := L.filter fun o => !P o && !left (.int .i64 o.n)
theorem leftO_start (P : Os → Bool) (L : List Os) : leftO P L (Maps.has (dOfT L)) = L :=
  List.filter_eq_self.2 fun o ho => by
    have h : (findO L o.n).isSome = true := by
      cases hf : findO L o.n with
      | none => exact absurd rfl (findO_none hf o ho)
      | some q => rfl
    rw [dOfT_has, h, Bool.or_true]
theorem goneO_start (P : Os → Bool) (L : List Os) : goneO P L (Maps.has (dOfT L)) = [] :=
  List.filter_eq_nil_iff.2 fun o ho => by
    have h : (findO L o.n).isSome = true := by
      cases hf : findO L o.n with
      | none => exact absurd rfl (findO_none hf o ho)
      | some q => rfl
    rw [dOfT_has, h]
    simp
theorem leftO_end {P : Os → Bool} {L : List Os} {left : Lit → Bool} (hl : ∀ kl, left kl = false) : leftO P L left = L.filter P :=
  List.filter_congr fun o _ => by rw [hl, Bool.or_false]
theorem goneO_end {P : Os → Bool} {L : List Os} {left : Lit → Bool} (hl : ∀ kl, left kl = false) : goneO P L left = L.filter fun o => !P o :=
  List.filter_congr fun o _ => by rw [hl]; simp
theorem key_num (o : Os) (n : Int) : (Lit.int IntKind.i64 o.n).sameKey (.int .i64 n) = decide (o.n = n) := same_num o n
/-- One has come, and goes. -/
theorem leftO_struck {P : Os → Bool} {L : List Os} (hr : L.Pairwise (fun x y => x.n < y.n)) {left : Lit → Bool} {o : Os} (ho : o ∈ L) (hP : P o = false) : closeL (leftO P L left) o.n = leftO P L (fun z => left z && !z.sameKey (.int .i64 o.n)) := by
  unfold closeL leftO
  rw [List.filter_filter]
  refine List.filter_congr fun q hq => ?_
  dsimp only
  rw [key_num]
  by_cases e : q.n = o.n
  · have : q = o := by
      have h1 := findO_mem hr hq
      have h2 := findO_mem hr ho
      rw [e, h2] at h1
      exact (Option.some.inj h1).symm
    subst this
    simp [hP]
  · simp [e]
theorem leftO_stays {P : Os → Bool} {L : List Os} (hr : L.Pairwise (fun x y => x.n < y.n)) {left : Lit → Bool} {o : Os} (ho : o ∈ L) (hP : P o = true) : leftO P L left = leftO P L (fun z => left z && !z.sameKey (.int .i64 o.n)) := by
  unfold leftO
  refine List.filter_congr fun q hq => ?_
  dsimp only
  rw [key_num]
  by_cases e : q.n = o.n
  · have : q = o := by
      have h1 := findO_mem hr hq
      have h2 := findO_mem hr ho
      rw [e, h2] at h1
      exact (Option.some.inj h1).symm
    subst this
    simp [hP]
  · simp [e]
theorem goneO_stays {P : Os → Bool} {L : List Os} (hr : L.Pairwise (fun x y => x.n < y.n)) {left : Lit → Bool} {o : Os} (ho : o ∈ L) (hP : P o = true) : goneO P L (fun z => left z && !z.sameKey (.int .i64 o.n)) = goneO P L left := by
  unfold goneO
  refine List.filter_congr fun q hq => ?_
  dsimp only
  rw [key_num]
  by_cases e : q.n = o.n
  · have : q = o := by
      have h1 := findO_mem hr hq
      have h2 := findO_mem hr ho
      rw [e, h2] at h1
      exact (Option.some.inj h1).symm
    subst this
    simp [hP]
  · simp [e]
theorem filter_one_more {p q : Os → Bool} : ∀ {L : List Os} {o : Os}, L.Pairwise (fun x y => x.n < y.n) → o ∈ L → p o = false → q o = true → (∀ x ∈ L, x.n ≠ o.n → q x = p x) → (L.filter q).Perm (o :: L.filter p)
  | [], _, _, ho, _, _, _ => by cases ho
  | x :: L, o, hr, ho, hp, hq, he => by
    obtain ⟨h1, h2⟩ := List.pairwise_cons.1 hr
    rcases List.mem_cons.1 ho with rfl | ho
    · rw [List.filter_cons_of_pos hq, List.filter_cons_of_neg (by simp [hp]), List.filter_congr (q := p) fun y hy => he y (by simp [hy]) (by have := h1 y hy; omega)]
    · have hne : x.n ≠ o.n := by have := h1 o ho; omega
      have ih := filter_one_more h2 ho hp hq (fun y hy => he y (by simp [hy]))
      have hx := he x (by simp) hne
      cases hpx : p x
      · rw [List.filter_cons_of_neg (by simp [hx, hpx]), List.filter_cons_of_neg (by simp [hpx])]
        exact ih
      · rw [List.filter_cons_of_pos (by rw [hx, hpx]), List.filter_cons_of_pos hpx]
        exact (ih.cons x).trans (List.Perm.swap o x _)
theorem goneO_struck {P : Os → Bool} {L : List Os} (hr : L.Pairwise (fun x y => x.n < y.n)) {left : Lit → Bool} {o : Os} (ho : o ∈ L) (hl : left (.int .i64 o.n) = true) (hP : P o = false) : (goneO P L (fun z => left z && !z.sameKey (.int .i64 o.n))).Perm (o :: goneO P L left) := by
  unfold goneO
  refine filter_one_more hr ho ?_ ?_ fun x _ hx => ?_
  · simp [hl]
  · simp [hP, key_num]
  · dsimp only
    rw [key_num, decide_eq_false hx]
    simp
/-- Numbers by their order are one list. -/
theorem nums_unique {l m : List Int} (h1 : l.Pairwise (· < ·)) (h2 : m.Pairwise (· < ·)) (hp : l.Perm m) : l = m :=
  List.Perm.eq_of_pairwise (le := fun x y : Int => x < y) (fun x y _ _ g1 g2 => absurd g1 (by omega)) h1 h2 hp
theorem nums_rising {L : List Os} (hr : L.Pairwise (fun x y => x.n < y.n)) : (L.map Os.n).Pairwise (· < ·) := List.pairwise_map.2 hr
theorem GoodD.len {d : Dk} (h : GoodD d) : ∀ o ∈ d.l, o.tk.who.size ≤ maxLen ∧ o.tk.dst.size ≤ maxLen := fun o ho => by
  have h1 := ((Tk.err_iff o.tk).1 (h.fine o ho)).1
  unfold Tk.names at h1
  rw [Bool.and_eq_true] at h1
  exact ⟨name_small h1.1, name_small h1.2⟩
end Go.Proofs.YteabincmopeljaeGreatDoor

/-
  A book of people as a map holds it, plainly: people by names are the map's entries in their order; a look-up, a store and the number of entries, in terms of the people.
-/
import Derived.Test.YtkkjalokgaaniaaDoorPersonPlain
import Derived.Maps.OwnSet
namespace Go.Proofs.YtkkjalokgaaniaaDoor
open Go

/-- A name's bytes. -/
abbrev Per.nm (p : Per) : List UInt8 := p.name.data.toList
/-- What a person in a map reads as. -/
def perD (p : Per) : DataW Unit := .agg [.lit (.string p.nm), .lit (.int .i64 p.key), .lit (.int .i64 p.epoch), .lit (.bool p.off)]
def perR : Value → Option (DataW Unit × List MemPlace)
  | .agg cs => match cs.toList with
    | [.string n, .int .i64 k, .int .i64 e, .bool o] => some (perD ⟨n, k, e, o⟩, [])
    | _ => none
  | _ => none
theorem perR_val (p : Per) : perR p.val = some (perD p, []) := rfl
theorem perR_inv {v : Value} {z : DataW Unit × List MemPlace} (h : perR v = some z) : ∃ p : Per, v = p.val ∧ z = (perD p, []) := by
  unfold perR at h
  split at h
  · rename_i cs
    split at h
    · rename_i n k e o hl
      refine ⟨⟨n, k, e, o⟩, ?_, by cases h; rfl⟩
      unfold Per.val
      congr 1
      exact Array.ext' (by rw [hl])
    · cases h
  · cases h
theorem perD_inj {p q : Per} (h : perD p = perD q) : p = q := by
  obtain ⟨n, k, e, o⟩ := p
  obtain ⟨n', k', e', o'⟩ := q
  simp only [perD, DataW.agg.injEq, List.cons.injEq, DataW.lit.injEq, Lit.string.injEq, Lit.int.injEq, Lit.bool.injEq, true_and, and_true] at h
  obtain ⟨h1, rfl, rfl, rfl⟩ := h
  obtain rfl : n = n' := Go.WideShapes.bytes_inj h1
  rfl

/-- The datum of a map that holds people. -/
def entP (p : Per) : Lit × DataW Unit := (.string p.nm, perD p)
def dOf (L : List Per) : DataW Unit := .map (L.map entP)
/-- Whoever bears a name. -/
def getP (L : List Per) (name : ByteArray) : Option Per := L.find? (fun p => decide (p.name = name))
theorem same_name (p : Per) (name : ByteArray) : (entP p).1.sameKey (.string name.data.toList) = decide (p.name = name) := by
  show (p.name.data.toList == name.data.toList) = _
  by_cases h : p.name = name
  · subst h; simp
  · rw [decide_eq_false h]
    exact beq_eq_false_iff_ne.2 fun e => h (Go.WideShapes.bytes_inj e)
theorem find_ent : ∀ (L : List Per) (name : ByteArray), (L.map entP).find? (fun p => p.1.sameKey (.string name.data.toList)) = (getP L name).map entP
  | [], _ => rfl
  | p :: L, name => by
    have ih := find_ent L name
    unfold getP at ih ⊢
    rw [List.map_cons, List.find?_cons, List.find?_cons, same_name]
    cases decide (p.name = name)
    · exact ih
    · rfl
theorem dOf_at (L : List Per) (name : ByteArray) (z : DataW Unit) : (dOf L).atKey (.string name.data.toList) z = match getP L name with | some p => perD p | none => z := by
  unfold dOf DataW.atKey
  simp only []
  rw [find_ent]
  cases getP L name <;> rfl
theorem dOf_has (L : List Per) (name : ByteArray) : Maps.has (dOf L) (.string name.data.toList) = (getP L name).isSome := by
  show (L.map entP).any (fun p => p.1.sameKey (.string name.data.toList)) = _
  have h : (L.map entP).any (fun p => p.1.sameKey (.string name.data.toList)) = ((L.map entP).find? (fun p => p.1.sameKey (.string name.data.toList))).isSome := by
    induction L.map entP with
    | nil => rfl
    | cons x l ih =>
      rw [List.any_cons, List.find?_cons]
      cases x.1.sameKey (.string name.data.toList)
      · simpa using ih
      · rfl
  rw [h, find_ent]
  cases getP L name <;> rfl
theorem dOf_size (L : List Per) : Maps.size (dOf L) = L.length := by
  show (L.map entP).length = _
  simp

/-- People by names: each ahead of the next. -/
def Rising (L : List Per) : Prop := L.Pairwise (fun p q => p.nm < q.nm)
theorem before_eq : ∀ (x y : List UInt8), bytesBefore x y = decide (x < y)
  | [], [] => by simp [bytesBefore]
  | _ :: _, [] => by simp [bytesBefore]
  | [], _ :: _ => by simp [bytesBefore]
  | a :: x, b :: y => by
    rw [bytesBefore, before_eq x y]
    simp only [List.cons_lt_cons_iff]
    by_cases h1 : a < b <;> by_cases h2 : a = b <;> by_cases h3 : x < y <;> simp [h1, h2, h3]

/-- One more by names, and one in the place of whoever has that name. -/
def insL (p : Per) : List Per → List Per
  | [] => [p]
  | q :: r => if p.nm < q.nm then p :: q :: r else q :: insL p r
def putP (L : List Per) (p : Per) : List Per := insL p (L.filter (fun q => !decide (q.name = p.name)))
theorem ins_ent (p : Per) : ∀ L : List Per, DataW.insert (entP p) (L.map entP) = (insL p L).map entP
  | [] => rfl
  | q :: r => by
    rw [List.map_cons]
    unfold DataW.insert insL
    have hb : (entP p).1.before (entP q).1 = decide (p.nm < q.nm) := before_eq _ _
    rw [hb, ins_ent p r]
    by_cases h : p.nm < q.nm
    · simp [h]
    · simp [h]
theorem dOf_put (L : List Per) (p : Per) : (dOf L).put (.string p.name.data.toList) (perD p) = dOf (putP L p) := by
  show DataW.map (DataW.insert (entP p) ((L.map entP).filter fun q => !q.1.sameKey (.string p.name.data.toList))) = _
  have : (L.map entP).filter (fun q => !q.1.sameKey (.string p.name.data.toList)) = (L.filter (fun q => !decide (q.name = p.name))).map entP := by
    rw [List.filter_map]
    congr 1
    apply List.filter_congr
    intro q _
    show (!(entP q).1.sameKey (.string p.name.data.toList)) = _
    rw [same_name]
  rw [this, ins_ent]
  rfl

theorem name_eq {p q : Per} (h : p.nm = q.nm) : p.name = q.name := Go.WideShapes.bytes_inj h
theorem Rising.ne {L : List Per} (h : Rising L) {i j : Nat} (hi : i < L.length) (hj : j < L.length) (hij : i ≠ j) : L[i].name ≠ L[j].name := fun e => by
  rcases Nat.lt_or_gt_of_ne hij with g | g
  · have := List.pairwise_iff_getElem.1 h i j hi hj g
    unfold Per.nm at this
    rw [e] at this
    exact List.lt_irrefl _ this
  · have := List.pairwise_iff_getElem.1 h j i hj hi g
    unfold Per.nm at this
    rw [e] at this
    exact List.lt_irrefl _ this
theorem insL_end (p : Per) : ∀ L : List Per, (∀ q ∈ L, q.nm < p.nm) → insL p L = L ++ [p]
  | [], _ => rfl
  | q :: r, h => by
    have hq := h q (by simp)
    unfold insL
    rw [if_neg (fun e => List.lt_irrefl _ (List.lt_trans e hq)), insL_end p r (fun x hx => h x (by simp [hx]))]
    rfl
theorem insL_mid (p : Per) : ∀ (A B : List Per), (∀ q ∈ A, q.nm < p.nm) → (∀ q ∈ B, p.nm < q.nm) → insL p (A ++ B) = A ++ p :: B
  | [], [], _, _ => rfl
  | [], b :: B, _, h => by
    have hb := h b (by simp)
    show insL p (b :: B) = _
    unfold insL
    rw [if_pos hb]
    rfl
  | a :: A, B, h1, h2 => by
    have ha := h1 a (by simp)
    rw [List.cons_append]
    unfold insL
    rw [if_neg (fun e => List.lt_irrefl _ (List.lt_trans e ha)), insL_mid p A B (fun x hx => h1 x (by simp [hx])) h2]
    rfl
theorem Rising.split {A B : List Per} {q : Per} (h : Rising (A ++ q :: B)) : (∀ x ∈ A, x.nm < q.nm) ∧ (∀ x ∈ B, q.nm < x.nm) ∧ Rising A ∧ Rising B := by
  obtain ⟨h1, h2, h3⟩ := List.pairwise_append.1 h
  obtain ⟨h4, h5⟩ := List.pairwise_cons.1 h2
  exact ⟨fun x hx => h3 x hx q (by simp), h4, h1, h5⟩
theorem filter_ne {A : List Per} {p : Per} (h : ∀ x ∈ A, x.name ≠ p.name) : A.filter (fun q => !decide (q.name = p.name)) = A :=
  List.filter_eq_self.2 fun x hx => by simp [h x hx]
/-- A store in the place of somebody: that place alone is another. -/
theorem putP_set {L : List Per} (h : Rising L) (k : Nat) (hk : k < L.length) (p : Per) (hp : L[k].name = p.name) : putP L p = L.set k p := by
  have e : L = L.take k ++ L[k] :: L.drop (k + 1) := by rw [List.getElem_cons_drop, List.take_append_drop]
  have hr : Rising (L.take k ++ L[k] :: L.drop (k + 1)) := by rw [← e]; exact h
  obtain ⟨h1, h2, h3, h4⟩ := hr.split
  have hn : L[k].nm = p.nm := by unfold Per.nm; rw [hp]
  have e2 : L.filter (fun q => !decide (q.name = p.name)) = L.take k ++ L.drop (k + 1) := by
    rw [congrArg (List.filter fun q : Per => !decide (q.name = p.name)) e, List.filter_append, List.filter_cons_of_neg (by simp [hp]), filter_ne, filter_ne]
    · intro x hx hxe
      have := h2 x hx
      unfold Per.nm at this
      rw [hxe, hp] at this
      exact List.lt_irrefl _ this
    · intro x hx hxe
      have := h1 x hx
      unfold Per.nm at this
      rw [hxe, hp] at this
      exact List.lt_irrefl _ this
  unfold putP
  rw [e2, insL_mid p _ _ (fun q hq => by rw [← hn]; exact h1 q hq) (fun q hq => by rw [← hn]; exact h2 q hq), List.set_eq_take_append_cons_drop, if_pos hk]
theorem insL_perm (p : Per) : ∀ L : List Per, (insL p L).Perm (p :: L)
  | [] => List.Perm.refl _
  | q :: r => by
    unfold insL
    split
    · exact List.Perm.refl _
    · exact ((insL_perm p r).cons q).trans (List.Perm.swap p q r)
theorem insL_rising (p : Per) : ∀ L : List Per, Rising L → (∀ q ∈ L, q.name ≠ p.name) → Rising (insL p L)
  | [], _, _ => List.pairwise_singleton _ _
  | q :: r, h, hne => by
    obtain ⟨h1, h2⟩ := List.pairwise_cons.1 h
    unfold insL
    split
    · rename_i hlt
      exact List.pairwise_cons.2 ⟨fun x hx => by
        rcases List.mem_cons.1 hx with rfl | hx
        · exact hlt
        · exact List.lt_trans hlt (h1 x hx), h⟩
    · rename_i hlt
      have hqp : q.nm < p.nm := by
        refine Decidable.byContradiction fun g => hne q (by simp) (name_eq ?_)
        exact List.le_antisymm (List.not_lt.1 hlt) (List.not_lt.1 g)
      refine List.pairwise_cons.2 ⟨fun x hx => ?_, insL_rising p r h2 (fun x hx => hne x (by simp [hx]))⟩
      rcases List.mem_cons.1 ((insL_perm p r).mem_iff.1 hx) with rfl | hx
      · exact hqp
      · exact h1 x hx
theorem putP_new {L : List Per} {p : Per} (h : ∀ q ∈ L, q.name ≠ p.name) : putP L p = insL p L := by
  unfold putP
  rw [filter_ne h]
theorem set_rising {L : List Per} (h : Rising L) (k : Nat) (hk : k < L.length) (p : Per) (hp : L[k].name = p.name) : Rising (L.set k p) := by
  have hnm : ∀ i (hi : i < (L.set k p).length), (L.set k p)[i].nm = (L[i]'(by simpa using hi)).nm := fun i hi => by
    rw [List.getElem_set]
    split
    · rename_i e; subst e; unfold Per.nm; rw [hp]
    · rfl
  refine List.pairwise_iff_getElem.2 fun i j hi hj hij => ?_
  rw [hnm i hi, hnm j hj]
  exact List.pairwise_iff_getElem.1 h i j _ _ hij
/-- Whoever holds the same people by names holds the same list. -/
theorem rising_unique {L M : List Per} (h1 : Rising L) (h2 : Rising M) (hp : L.Perm M) : L = M :=
  List.Perm.eq_of_pairwise (le := fun p q : Per => p.nm < q.nm) (fun _ _ _ _ g1 g2 => absurd (List.lt_trans g1 g2) (List.lt_irrefl _)) h1 h2 hp
end Go.Proofs.YtkkjalokgaaniaaDoor

/-
  What the functions of these parts do, and what holds of their plain forms: FloorLaw, FloorJoin, FloorMerge.
-/
import Derived.Test.YtabpnjchocgakaaGreatDoorFloorRaise
namespace Go.Proofs.YtabpnjchocgakaaGreatDoor
open Go.RowKit Go.Extern.Stop Go.Stop Go.Extern Go.Proofs
theorem raiseC_right {l : List Fl} {f : Fl} (h : RightF l) (hl : l.length ≤ 21) (hf : oneE f = 0) : raiseC l f = if 21 < (raisedL l f).length then (7, -1) else (0, -1) := by
 have h0 : checkL l = (0, -1) := by rw [check_right h, if_neg (by omega)]
 unfold raiseC
 rw [h0, if_pos rfl, if_pos hf, check_right (right_raised h hf)]
theorem raiseC_zero {l : List Fl} {f : Fl} (h : (raiseC l f).1 = 0) : RightF l ∧ oneE f = 0 ∧ RightF (raisedL l f) ∧ l.length ≤ 21 ∧ (raisedL l f).length ≤ 21 ∧ raiseR l f = raisedL l f := by
 have hR : raiseR l f = raisedL l f := if_pos h
 unfold raiseC at h
 split at h
 ·
  rename_i h1
  split at h
  ·
   rename_i h2
   exact ⟨(right_of_check h1).1, h2, (right_of_check h).1, (right_of_check h1).2, (right_of_check h).2, hR⟩
  ·
   rename_i h2; exact absurd h h2
 ·
  rename_i h1; exact absurd h h1
end Go.Proofs.YtabpnjchocgakaaGreatDoor

namespace Go.Proofs.YtabpnjchocgakaaGreatDoor
open Go Go.RowKit Go.Extern.Stop Go.Stop Go.Extern Go.Proofs
def putStep (f : Fl) (s : List Fl × Bool) (x : Fl) : List Fl × Bool :=
 ((if f.nm < x.nm ∧ s.2 = false then s.1 ++ [f] else s.1) ++ (if goesF f x = true then [] else [x]), s.2 || decide (f.nm < x.nm))
def putEnd (f : Fl) (s : List Fl × Bool) : List Fl := if s.2 = true then s.1 else s.1 ++ [f]
theorem kept_snoc (a : List Fl) (f x : Fl) : keptF (a ++ [x]) f = keptF a f ++ (if goesF f x = true then [] else [x]) := by
 unfold keptF
 rw [List.filter_append]
 congr 1
 cases h : goesF f x <;> simp [h]
theorem place_all {k : List Fl} {n : List UInt8} (h : ∀ g ∈ k, g.nm < n) : placeF k n = k.length :=
 placeF_eq k n k.length (Nat.le_refl _) (fun _ hj _ => h _ (List.getElem_mem hj)) (fun hk => absurd hk (Nat.lt_irrefl _))
theorem put_all {k : List Fl} {f : Fl} (h : ∀ g ∈ k, g.nm < f.nm) : putF k f = k ++ [f] := by
 unfold putF
 rw [place_all h, List.take_length, List.drop_length]
theorem place_snoc (n : List UInt8) (x : Fl) (hx : ¬ x.nm < n) : ∀ k : List Fl, placeF (k ++ [x]) n = placeF k n
 | [] => by
  unfold placeF
  rw [List.nil_append, List.takeWhile_cons, if_neg (by simpa using hx)]
  rfl
 | g :: k => by
  have ih := place_snoc n x hx k
  unfold placeF at ih ⊢
  rw [List.cons_append, List.takeWhile_cons, List.takeWhile_cons]
  split
  ·
   rw [List.length_cons, List.length_cons, ih]
  ·
   rfl
theorem put_snoc {k : List Fl} {f x : Fl} (hx : ¬ x.nm < f.nm) : putF (k ++ [x]) f = putF k f ++ [x] := by
 have hp := place_le k f.nm
 unfold putF
 rw [place_snoc f.nm x hx, List.take_append_of_le_length hp, List.drop_append_of_le_length hp]
 simp
theorem snoc_ind {α : Type} {P : List α → Prop} (h0 : P []) (h1 : ∀ a x, P a → P (a ++ [x])) (l : List α) : P l := by
 have h : ∀ l : List α, P l.reverse := fun l => by
  induction l with
  | nil => exact h0
  | cons x l ih => rw [List.reverse_cons]; exact h1 _ _ ih
 have := h l.reverse
 rwa [List.reverse_reverse] at this
theorem put_fold (f : Fl) : ∀ (l : List Fl), RisingF l → l.foldl (putStep f) ([], false) = (if l.any (fun x => decide (f.nm < x.nm)) = true then putF (keptF l f) f else keptF l f, l.any (fun x => decide (f.nm < x.nm))) := by
 intro l
 refine snoc_ind (P := fun l => RisingF l → l.foldl (putStep f) ([], false) = (if l.any (fun x => decide (f.nm < x.nm)) = true then putF (keptF l f) f else keptF l f, l.any (fun x => decide (f.nm < x.nm)))) (fun _ => rfl) ?_ l
 ·
  intro a x ih hr
  have hra := (List.pairwise_append.1 hr).1
  have hax : ∀ g ∈ a, g.nm < x.nm := fun g hg => (List.pairwise_append.1 hr).2.2 g hg x (by simp)
  rw [List.foldl_append, ih hra, List.foldl_cons, List.foldl_nil, kept_snoc]
  have hany : (a ++ [x]).any (fun x => decide (f.nm < x.nm)) = (a.any (fun x => decide (f.nm < x.nm)) || decide (f.nm < x.nm)) := by simp
  rw [hany]
  unfold putStep
  -- kept floors below the new one, while it is not laid
  have hbelow : a.any (fun x => decide (f.nm < x.nm)) = false → ∀ g ∈ keptF a f, g.nm < f.nm := fun hn g hg => by
   obtain ⟨h1, h2, _⟩ := mem_keptF.1 hg
   have h3 := List.any_eq_false.1 hn g h1
   simp only [decide_eq_true_eq] at h3
   exact Decidable.byContradiction fun h4 => h2 (List.le_antisymm (List.not_lt.1 h3) (List.not_lt.1 h4))
  cases hp : a.any (fun x => decide (f.nm < x.nm)) with
  | true =>
   obtain ⟨g, hg, hlt⟩ := List.any_eq_true.1 hp
   have hfx : f.nm < x.nm := List.lt_trans (of_decide_eq_true hlt) (hax g hg)
   have hxf : ¬ x.nm < f.nm := fun e => List.lt_irrefl _ (List.lt_trans hfx e)
   simp only [Bool.true_or, if_true, Bool.true_eq_false, and_false, if_false]
   cases goesF f x with
   | true => simp
   | false => simp [put_snoc hxf]
  | false =>
   by_cases hfx : f.nm < x.nm
   ·
    have hxf : ¬ x.nm < f.nm := fun e => List.lt_irrefl _ (List.lt_trans hfx e)
    have hpa := put_all (hbelow hp)
    simp only [hfx, decide_true, Bool.or_true, if_true, and_self]
    simp only [Bool.false_eq_true, if_false]
    cases goesF f x with
    | true => simp [hpa]
    | false => simp [put_snoc hxf, hpa]
   ·
    simp [hfx]
theorem put_end {l : List Fl} (f : Fl) (hr : RisingF l) : putEnd f (l.foldl (putStep f) ([], false)) = putF (keptF l f) f := by
 rw [put_fold f l hr]
 unfold putEnd
 cases hp : l.any (fun x => decide (f.nm < x.nm)) with
 | true => simp
 | false =>
  simp only [Bool.false_eq_true, if_false]
  refine (put_all (fun g hg => ?_)).symm
  obtain ⟨h1, h2, _⟩ := mem_keptF.1 hg
  have h3 := List.any_eq_false.1 hp g h1
  simp only [decide_eq_true_eq] at h3
  exact Decidable.byContradiction fun h4 => h2 (List.le_antisymm (List.not_lt.1 h3) (List.not_lt.1 h4))
theorem put_len (f : Fl) : ∀ (l : List Fl) (s : List Fl × Bool), (l.foldl (putStep f) s).1.length ≤ s.1.length + 2 * l.length
 | [], s => by simp
 | x :: l, s => by
  have := put_len f l (putStep f s x)
  rw [List.foldl_cons, List.length_cons]
  have h2 : (putStep f s x).1.length ≤ s.1.length + 2 := by
   unfold putStep
   split <;> split <;> simp
  omega
end Go.Proofs.YtabpnjchocgakaaGreatDoor

/-
  How the document's answer raises a floor, plainly: floor by floor, the new one at its place; it is the same list.
  How the document's answer joins floors, plainly: name by name, of each the greater; it is the same list.
-/
import Derived.Test.YtgkkffcbneabkabGreatDoorFloorRaise
import Derived.Test.YtgkkffcbneabkabGreatDoorFloorJoin
namespace Go.Proofs.YtgkkffcbneabkabGreatDoor
open Go Go.RowKit Go.Extern.Stop Go.Stop Go.Extern Go.Proofs

/-- One floor more: is the new one laid already, and what is there. -/
def putStep (f : Fl) (s : List Fl × Bool) (x : Fl) : List Fl × Bool :=
  ((if f.nm < x.nm ∧ s.2 = false then s.1 ++ [f] else s.1) ++ (if goesF f x = true then [] else [x]), s.2 || decide (f.nm < x.nm))
def putEnd (f : Fl) (s : List Fl × Bool) : List Fl := if s.2 = true then s.1 else s.1 ++ [f]

theorem kept_snoc (a : List Fl) (f x : Fl) : keptF (a ++ [x]) f = keptF a f ++ (if goesF f x = true then [] else [x]) := by
  unfold keptF
  rw [List.filter_append]
  congr 1
  cases h : goesF f x <;> simp [h]
theorem place_all {k : List Fl} {n : List UInt8} (h : ∀ g ∈ k, g.nm < n) : placeF k n = k.length :=
  placeF_eq k n k.length (Nat.le_refl _) (fun _ hj _ => h _ (List.getElem_mem hj)) (fun hk => absurd hk (Nat.lt_irrefl _))
theorem put_all {k : List Fl} {f : Fl} (h : ∀ g ∈ k, g.nm < f.nm) : putF k f = k ++ [f] := by
  unfold putF
  rw [place_all h, List.take_length, List.drop_length]
theorem place_snoc (n : List UInt8) (x : Fl) (hx : ¬ x.nm < n) : ∀ k : List Fl, placeF (k ++ [x]) n = placeF k n
  | [] => by
    unfold placeF
    rw [List.nil_append, List.takeWhile_cons, if_neg (by simpa using hx)]
    rfl
  | g :: k => by
    have ih := place_snoc n x hx k
    unfold placeF at ih ⊢
    rw [List.cons_append, List.takeWhile_cons, List.takeWhile_cons]
    split
    · rw [List.length_cons, List.length_cons, ih]
    · rfl
theorem put_snoc {k : List Fl} {f x : Fl} (hx : ¬ x.nm < f.nm) : putF (k ++ [x]) f = putF k f ++ [x] := by
  have hp := place_le k f.nm
  unfold putF
  rw [place_snoc f.nm x hx, List.take_append_of_le_length hp, List.drop_append_of_le_length hp]
  simp

theorem snoc_ind {α : Type} {P : List α → Prop} (h0 : P []) (h1 : ∀ a x, P a → P (a ++ [x])) (l : List α) : P l := by
  have h : ∀ l : List α, P l.reverse := fun l => by
    induction l with
    | nil => exact h0
    | cons x l ih => rw [List.reverse_cons]; exact h1 _ _ ih
  have := h l.reverse
  rwa [List.reverse_reverse] at this
theorem put_fold (f : Fl) : ∀ (l : List Fl), RisingF l → l.foldl (putStep f) ([], false) = (if l.any (fun x => decide (f.nm < x.nm)) = true then putF (keptF l f) f else keptF l f, l.any (fun x => decide (f.nm < x.nm))) := by
  intro l
  refine snoc_ind (P := fun l => RisingF l → l.foldl (putStep f) ([], false) = (if l.any (fun x => decide (f.nm < x.nm)) = true then putF (keptF l f) f else keptF l f, l.any (fun x => decide (f.nm < x.nm)))) (fun _ => rfl) ?_ l
  · intro a x ih hr
    have hra := (List.pairwise_append.1 hr).1
    have hax : ∀ g ∈ a, g.nm < x.nm := fun g hg => (List.pairwise_append.1 hr).2.2 g hg x (by simp)
    rw [List.foldl_append, ih hra, List.foldl_cons, List.foldl_nil, kept_snoc]
    have hany : (a ++ [x]).any (fun x => decide (f.nm < x.nm)) = (a.any (fun x => decide (f.nm < x.nm)) || decide (f.nm < x.nm)) := by simp
    rw [hany]
    unfold putStep
    -- kept floors below the new one, while it is not laid
    have hbelow : a.any (fun x => decide (f.nm < x.nm)) = false → ∀ g ∈ keptF a f, g.nm < f.nm := fun hn g hg => by
      obtain ⟨h1, h2, _⟩ := mem_keptF.1 hg
      have h3 := List.any_eq_false.1 hn g h1
      simp only [decide_eq_true_eq] at h3
      exact Decidable.byContradiction fun h4 => h2 (List.le_antisymm (List.not_lt.1 h3) (List.not_lt.1 h4))
    cases hp : a.any (fun x => decide (f.nm < x.nm)) with
    | true =>
      obtain ⟨g, hg, hlt⟩ := List.any_eq_true.1 hp
      have hfx : f.nm < x.nm := List.lt_trans (of_decide_eq_true hlt) (hax g hg)
      have hxf : ¬ x.nm < f.nm := fun e => List.lt_irrefl _ (List.lt_trans hfx e)
      simp only [Bool.true_or, if_true, Bool.true_eq_false, and_false, if_false]
      cases goesF f x with
      | true => simp
      | false => simp [put_snoc hxf]
    | false =>
      by_cases hfx : f.nm < x.nm
      · have hxf : ¬ x.nm < f.nm := fun e => List.lt_irrefl _ (List.lt_trans hfx e)
        have hpa := put_all (hbelow hp)
        simp only [hfx, decide_true, Bool.or_true, if_true, and_self]
        simp only [Bool.false_eq_true, if_false]
        cases goesF f x with
        | true => simp [hpa]
        | false => simp [put_snoc hxf, hpa]
      · simp [hfx]
theorem put_end {l : List Fl} (f : Fl) (hr : RisingF l) : putEnd f (l.foldl (putStep f) ([], false)) = putF (keptF l f) f := by
  rw [put_fold f l hr]
  unfold putEnd
  cases hp : l.any (fun x => decide (f.nm < x.nm)) with
  | true => simp
  | false =>
    simp only [Bool.false_eq_true, if_false]
    refine (put_all (fun g hg => ?_)).symm
    obtain ⟨h1, h2, _⟩ := mem_keptF.1 hg
    have h3 := List.any_eq_false.1 hp g h1
    simp only [decide_eq_true_eq] at h3
    exact Decidable.byContradiction fun h4 => h2 (List.le_antisymm (List.not_lt.1 h3) (List.not_lt.1 h4))
theorem put_len (f : Fl) : ∀ (l : List Fl) (s : List Fl × Bool), (l.foldl (putStep f) s).1.length ≤ s.1.length + 2 * l.length
  | [], s => by simp
  | x :: l, s => by
    have := put_len f l (putStep f s x)
    rw [List.foldl_cons, List.length_cons]
    have h2 : (putStep f s x).1.length ≤ s.1.length + 2 := by
      unfold putStep
      split <;> split <;> simp
    omega
end Go.Proofs.YtgkkffcbneabkabGreatDoor

namespace Go.Proofs.YtgkkffcbneabkabGreatDoor
open Go Go.RowKit Go.Extern.Stop Go.Stop Go.Extern Go.Proofs

/-- The greater of a name's two floors. -/
def mxF (A B : List Fl) (n : List UInt8) : Int := max (ofL A n) (ofL B n)
/-- One name's floor, where it is one. -/
def mjOne (A B : List Fl) (top : Int) (who : ByteArray) : List Fl := if top < mxF A B who.data.toList ∨ who.data.toList = star then [⟨who, mxF A B who.data.toList⟩] else []
def mj (A B : List Fl) (top : Int) : List Fl → List Fl → List Fl
  | [], [] => []
  | x :: a, [] => mjOne A B top x.who ++ mj A B top a []
  | [], y :: b => mjOne A B top y.who ++ mj A B top [] b
  | x :: a, y :: b => if y.nm < x.nm then mjOne A B top y.who ++ mj A B top (x :: a) b else if x.nm < y.nm then mjOne A B top x.who ++ mj A B top a (y :: b) else mjOne A B top x.who ++ mj A B top a b
termination_by a b => a.length + b.length

theorem mem_one {A B : List Fl} {top : Int} {who : ByteArray} {f : Fl} : f ∈ mjOne A B top who ↔ f.nm = who.data.toList ∧ f.ep = mxF A B f.nm ∧ (top < f.ep ∨ f.nm = star) := by
  unfold mjOne
  constructor
  · intro h
    split at h
    · rename_i hc
      rw [List.mem_singleton.1 h]
      exact ⟨rfl, rfl, hc⟩
    · cases h
  · rintro ⟨h1, h2, h3⟩
    rw [h1] at h2 h3
    rw [h2] at h3
    rw [if_pos h3, List.mem_singleton]
    exact Fl.same h1 h2
theorem nm_eq_lists {x y : Fl} (h1 : ¬ y.nm < x.nm) (h2 : ¬ x.nm < y.nm) : x.nm = y.nm := List.le_antisymm (List.not_lt.1 h1) (List.not_lt.1 h2)

theorem mem_mj (A B : List Fl) (top : Int) (f : Fl) : ∀ (a b : List Fl), f ∈ mj A B top a b ↔ (∃ x, (x ∈ a ∨ x ∈ b) ∧ x.nm = f.nm) ∧ f.ep = mxF A B f.nm ∧ (top < f.ep ∨ f.nm = star)
  | [], [] => by
    rw [mj]
    constructor
    · intro h; cases h
    · rintro ⟨⟨x, h | h, _⟩, _⟩ <;> cases h
  | x :: a, [] => by
    rw [mj, List.mem_append, mem_one, mem_mj A B top f a []]
    constructor
    · rintro (⟨h1, h2⟩ | ⟨⟨z, hz, h1⟩, h2⟩)
      · exact ⟨⟨x, Or.inl (by simp), h1.symm⟩, h2⟩
      · rcases hz with hz | hz
        · exact ⟨⟨z, Or.inl (by simp [hz]), h1⟩, h2⟩
        · cases hz
    · rintro ⟨⟨z, hz | hz, h1⟩, h2⟩
      · rcases List.mem_cons.1 hz with rfl | hz
        · exact Or.inl ⟨h1.symm, h2⟩
        · exact Or.inr ⟨⟨z, Or.inl hz, h1⟩, h2⟩
      · cases hz
  | [], y :: b => by
    rw [mj, List.mem_append, mem_one, mem_mj A B top f [] b]
    constructor
    · rintro (⟨h1, h2⟩ | ⟨⟨z, hz, h1⟩, h2⟩)
      · exact ⟨⟨y, Or.inr (by simp), h1.symm⟩, h2⟩
      · rcases hz with hz | hz
        · cases hz
        · exact ⟨⟨z, Or.inr (by simp [hz]), h1⟩, h2⟩
    · rintro ⟨⟨z, hz | hz, h1⟩, h2⟩
      · cases hz
      · rcases List.mem_cons.1 hz with rfl | hz
        · exact Or.inl ⟨h1.symm, h2⟩
        · exact Or.inr ⟨⟨z, Or.inr hz, h1⟩, h2⟩
  | x :: a, y :: b => by
    rw [mj]
    split
    · rw [List.mem_append, mem_one, mem_mj A B top f (x :: a) b]
      constructor
      · rintro (⟨h1, h2⟩ | ⟨⟨z, hz, h1⟩, h2⟩)
        · exact ⟨⟨y, Or.inr (by simp), h1.symm⟩, h2⟩
        · exact ⟨⟨z, hz.imp id (fun h => by simp [h]), h1⟩, h2⟩
      · rintro ⟨⟨z, hz | hz, h1⟩, h2⟩
        · exact Or.inr ⟨⟨z, Or.inl hz, h1⟩, h2⟩
        · rcases List.mem_cons.1 hz with rfl | hz
          · exact Or.inl ⟨h1.symm, h2⟩
          · exact Or.inr ⟨⟨z, Or.inr hz, h1⟩, h2⟩
    · rename_i hyx
      split
      · rw [List.mem_append, mem_one, mem_mj A B top f a (y :: b)]
        constructor
        · rintro (⟨h1, h2⟩ | ⟨⟨z, hz, h1⟩, h2⟩)
          · exact ⟨⟨x, Or.inl (by simp), h1.symm⟩, h2⟩
          · exact ⟨⟨z, hz.imp (fun h => by simp [h]) id, h1⟩, h2⟩
        · rintro ⟨⟨z, hz | hz, h1⟩, h2⟩
          · rcases List.mem_cons.1 hz with rfl | hz
            · exact Or.inl ⟨h1.symm, h2⟩
            · exact Or.inr ⟨⟨z, Or.inl hz, h1⟩, h2⟩
          · exact Or.inr ⟨⟨z, Or.inr hz, h1⟩, h2⟩
      · rename_i hxy
        have he := nm_eq_lists hyx hxy
        rw [List.mem_append, mem_one, mem_mj A B top f a b]
        constructor
        · rintro (⟨h1, h2⟩ | ⟨⟨z, hz, h1⟩, h2⟩)
          · exact ⟨⟨x, Or.inl (by simp), h1.symm⟩, h2⟩
          · exact ⟨⟨z, hz.imp (fun h => by simp [h]) (fun h => by simp [h]), h1⟩, h2⟩
        · rintro ⟨⟨z, hz | hz, h1⟩, h2⟩
          · rcases List.mem_cons.1 hz with rfl | hz
            · exact Or.inl ⟨h1.symm, h2⟩
            · exact Or.inr ⟨⟨z, Or.inl hz, h1⟩, h2⟩
          · rcases List.mem_cons.1 hz with rfl | hz
            · exact Or.inl ⟨(he.trans h1).symm, h2⟩
            · exact Or.inr ⟨⟨z, Or.inr hz, h1⟩, h2⟩
termination_by a b => a.length + b.length

theorem rising_one {A B : List Fl} {top : Int} {who : ByteArray} {r : List Fl} (hr : RisingF r) (h : ∀ g ∈ r, who.data.toList < g.nm) : RisingF (mjOne A B top who ++ r) := by
  unfold mjOne
  split
  · exact List.pairwise_cons.2 ⟨fun g hg => h g hg, hr⟩
  · exact hr
theorem rising_mj (A B : List Fl) (top : Int) : ∀ (a b : List Fl), RisingF a → RisingF b → RisingF (mj A B top a b)
  | [], [], _, _ => by rw [mj]; exact List.Pairwise.nil
  | x :: a, [], ha, hb => by
    rw [mj]
    have h1 := List.pairwise_cons.1 ha
    refine rising_one (rising_mj A B top a [] h1.2 hb) (fun g hg => ?_)
    obtain ⟨⟨z, hz | hz, he⟩, _⟩ := (mem_mj A B top g a []).1 hg
    · rw [← he]; exact h1.1 z hz
    · cases hz
  | [], y :: b, ha, hb => by
    rw [mj]
    have h1 := List.pairwise_cons.1 hb
    refine rising_one (rising_mj A B top [] b ha h1.2) (fun g hg => ?_)
    obtain ⟨⟨z, hz | hz, he⟩, _⟩ := (mem_mj A B top g [] b).1 hg
    · cases hz
    · rw [← he]; exact h1.1 z hz
  | x :: a, y :: b, ha, hb => by
    have h1 := List.pairwise_cons.1 ha
    have h2 := List.pairwise_cons.1 hb
    rw [mj]
    split
    · rename_i hyx
      refine rising_one (rising_mj A B top (x :: a) b ha h2.2) (fun g hg => ?_)
      obtain ⟨⟨z, hz | hz, he⟩, _⟩ := (mem_mj A B top g (x :: a) b).1 hg
      · rw [← he]
        rcases List.mem_cons.1 hz with rfl | hz
        · exact hyx
        · exact List.lt_trans hyx (h1.1 z hz)
      · rw [← he]; exact h2.1 z hz
    · rename_i hyx
      split
      · rename_i hxy
        refine rising_one (rising_mj A B top a (y :: b) h1.2 hb) (fun g hg => ?_)
        obtain ⟨⟨z, hz | hz, he⟩, _⟩ := (mem_mj A B top g a (y :: b)).1 hg
        · rw [← he]; exact h1.1 z hz
        · rw [← he]
          rcases List.mem_cons.1 hz with rfl | hz
          · exact hxy
          · exact List.lt_trans hxy (h2.1 z hz)
      · rename_i hxy
        have hxe := nm_eq_lists hyx hxy
        refine rising_one (rising_mj A B top a b h1.2 h2.2) (fun g hg => ?_)
        obtain ⟨⟨z, hz | hz, he⟩, _⟩ := (mem_mj A B top g a b).1 hg
        · rw [← he]; exact h1.1 z hz
        · rw [← he]
          show x.nm < z.nm
          rw [hxe]
          exact h2.1 z hz
termination_by a b => a.length + b.length

theorem mj_join {A B : List Fl} (ha : RightF A) (hb : RightF B) : mj A B (max (topL A) (topL B)) A B = joinL A B := by
  have hj := right_join ha hb
  refine rising_ext (rising_mj A B _ A B ha.rising hb.rising) hj.rising (fun f => ?_)
  rw [mem_mj, mem_iff hj, of_join ha hb, of_join ha hb, of_star ha, of_star hb]
  unfold mxF
  constructor
  · rintro ⟨⟨x, hx, hn⟩, h2, h3⟩
    refine ⟨h2.symm, fun hs => ?_, fun hs => ?_⟩
    · rcases hx with hx | hx
      · have h4 := (one_pos (ha.one x hx)).1
        have h5 := of_mem ha.rising hx
        rw [hn] at h5
        omega
      · have h4 := (one_pos (hb.one x hx)).1
        have h5 := of_mem hb.rising hx
        rw [hn] at h5
        omega
    · rcases h3 with h3 | h3
      · exact h3
      · exact absurd h3 hs
  · rintro ⟨h1, h2, h3⟩
    refine ⟨?_, h1.symm, ?_⟩
    · rcases of_cases A f.nm with ⟨x, hx, hn, _⟩ | ⟨_, ea⟩
      · exact ⟨x, Or.inl hx, hn⟩
      · rcases of_cases B f.nm with ⟨x, hx, hn, _⟩ | ⟨_, eb⟩
        · exact ⟨x, Or.inr hx, hn⟩
        · by_cases hs : f.nm = star
          · have h4 := h2 hs
            rcases top_cases A with ⟨x, hx, hn, _⟩ | h5
            · exact ⟨x, Or.inl hx, hn.trans hs.symm⟩
            · rcases top_cases B with ⟨x, hx, hn, _⟩ | h6
              · exact ⟨x, Or.inr hx, hn.trans hs.symm⟩
              · omega
          · have := h3 hs
            omega
    · by_cases hs : f.nm = star
      · exact Or.inr hs
      · exact Or.inl (h3 hs)
theorem mj_len (A B : List Fl) (top : Int) : ∀ (a b : List Fl), (mj A B top a b).length ≤ a.length + b.length
  | [], [] => by rw [mj]; simp
  | x :: a, [] => by
    have := mj_len A B top a []
    rw [List.length_nil] at this
    rw [mj, List.length_append]
    unfold mjOne
    split <;> simp <;> omega
  | [], y :: b => by
    have := mj_len A B top [] b
    rw [List.length_nil] at this
    rw [mj, List.length_append]
    unfold mjOne
    split <;> simp <;> omega
  | x :: a, y :: b => by
    have h1 := mj_len A B top (x :: a) b
    have h2 := mj_len A B top a (y :: b)
    have h3 := mj_len A B top a b
    have ho : ∀ who, (mjOne A B top who).length ≤ 1 := fun who => by unfold mjOne; split <;> simp
    have ho1 := ho x.who
    have ho2 := ho y.who
    rw [mj]
    simp only [List.length_cons] at *
    split
    · rw [List.length_append]; omega
    · split
      · rw [List.length_append]; omega
      · rw [List.length_append]; omega
termination_by a b => a.length + b.length
end Go.Proofs.YtgkkffcbneabkabGreatDoor

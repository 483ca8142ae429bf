/-
  What package floor's Join gives: of each the greater, in new memory, or an error; for any two lists. And floors of own memory.
  How the document's answer raises a floor, plainly: floor by floor, the new one at its place; it is the same list. How the document's answer joins floors, plainly: name by name, of each the greater; it is the same list.
  What the document's answer gives on bytes and words: small, IsWord, IsName, NumberOf, Decimal and Glue, for every text, number and slice of texts (a number up to 1000000006 for Decimal; texts of at most 6000 bytes together for Glue).
  What the document's answer gives on one floor and on the floor of a name: FloorOne for every floor, TopOf for every list, FloorOf for right ones.
  What package floor's readOne answers of a piece of a text: its floor and true, or false; for every text.
  What the document's answer's FloorsFault gives: the fault of any list; and that an error of the program with that number and place is faulted.
  What the document's answer's RaiseOf gives, for any list and any floor: the same list and the same fault as the program's Raise.
-/
import Derived.Test.YtgagekcjdapkfadGreatDoorFloorLaw
import Derived.Test.YtgagekcjdapkfadGreatDoorFloorRaise
import Derived.Test.YtgagekcjdapkfadGreatDoorSealWords
import Derived.Test.YtgagekcjdapkfadGreatDoorFloorDo
import Derived.Test.YtgagekcjdapkfadGreatDoorFeedPb
import Derived.Laws.ResultCell
import Derived.Laws.NewBlocks
import Derived.Test.YtgagekcjdapkfadGreatDoorFloorCheck
import Derived.Test.YtgagekcjdapkfadGreatDoorCoded
import Derived.Test.YtgagekcjdapkfadGreatDoorFloorInsert
import Derived.WalkKit
import Derived.OwnWalk
namespace Go.Proofs.YtgagekcjdapkfadGreatDoor
open Go.RowKit Go.Extern.Stop Go.Stop Go.Extern Go.Proofs

def joinC (a b : List Fl) : Nat × Int := if (checkL a).1 = 0 then (if (checkL b).1 = 0 then checkL (joinL a b) else checkL b) else checkL a
def joinR (a b : List Fl) : List Fl := if (joinC a b).1 = 0 then joinL a b else []
theorem len_fold : ∀ (b a : List Fl), (b.foldl raisedL a).length ≤ a.length + b.length
  | [], a => by simp
  | f :: b, a => by
    have h1 := len_fold b (raisedL a f)
    have h2 := len_raised a f
    rw [List.foldl_cons, List.length_cons]
    omega
theorem small_fold : ∀ (b a : List Fl), (∀ g ∈ a, g.who.size ≤ maxLen) → (∀ g ∈ b, g.who.size ≤ maxLen) → ∀ g ∈ b.foldl raisedL a, g.who.size ≤ maxLen
  | [], _, h, _ => h
  | f :: b, a, h, hb => small_fold b (raisedL a f) (small_raised h (hb f (by simp))) (fun g hg => hb g (by simp [hg]))
theorem fold_snoc (b a : List Fl) (k : Nat) (hk : k < b.length) : (b.take (k + 1)).foldl raisedL a = raisedL ((b.take k).foldl raisedL a) b[k] := by
  rw [List.take_succ_eq_append_getElem hk, List.foldl_append]
  rfl

end Go.Proofs.YtgagekcjdapkfadGreatDoor

namespace Go.Proofs.YtgagekcjdapkfadGreatDoor
open Go Go.RowKit Go.Extern.Stop Go.Stop Go.Extern Go.Proofs

/-- One floor more: is the new one laid already, and what is there. -/
def putStep (f : Fl) (s : List Fl × Bool) (x : Fl) : List Fl × Bool :=
  ((if f.nm < x.nm ∧ s.2 = false then s.1 ++ [f] else s.1) ++ (if goesF f x = true then [] else [x]), s.2 || decide (f.nm < x.nm))
def putEnd (f : Fl) (s : List Fl × Bool) : List Fl := if s.2 = true then s.1 else s.1 ++ [f]

theorem kept_snoc (a : List Fl) (f x : Fl) : keptF (a ++ [x]) f = keptF a f ++ (if goesF f x = true then [] else [x]) := by
  unfold keptF
  rw [List.filter_append]
  congr 1
  cases h : goesF f x <;> simp [h]
theorem place_all {k : List Fl} {n : List UInt8} (h : ∀ g ∈ k, g.nm < n) : placeF k n = k.length :=
  placeF_eq k n k.length (Nat.le_refl _) (fun _ hj _ => h _ (List.getElem_mem hj)) (fun hk => absurd hk (Nat.lt_irrefl _))
theorem put_all {k : List Fl} {f : Fl} (h : ∀ g ∈ k, g.nm < f.nm) : putF k f = k ++ [f] := by
  unfold putF
  rw [place_all h, List.take_length, List.drop_length]
theorem place_snoc (n : List UInt8) (x : Fl) (hx : ¬ x.nm < n) : ∀ k : List Fl, placeF (k ++ [x]) n = placeF k n
  | [] => by
    unfold placeF
    rw [List.nil_append, List.takeWhile_cons, if_neg (by simpa using hx)]
    rfl
  | g :: k => by
    have ih := place_snoc n x hx k
    unfold placeF at ih ⊢
    rw [List.cons_append, List.takeWhile_cons, List.takeWhile_cons]
    split
    · rw [List.length_cons, List.length_cons, ih]
    · rfl
theorem put_snoc {k : List Fl} {f x : Fl} (hx : ¬ x.nm < f.nm) : putF (k ++ [x]) f = putF k f ++ [x] := by
  have hp := place_le k f.nm
  unfold putF
  rw [place_snoc f.nm x hx, List.take_append_of_le_length hp, List.drop_append_of_le_length hp]
  simp

theorem snoc_ind {α : Type} {P : List α → Prop} (h0 : P []) (h1 : ∀ a x, P a → P (a ++ [x])) (l : List α) : P l := by
  have h : ∀ l : List α, P l.reverse := fun l => by
    induction l with
    | nil => exact h0
    | cons x l ih => rw [List.reverse_cons]; exact h1 _ _ ih
  have := h l.reverse
  rwa [List.reverse_reverse] at this
theorem put_fold (f : Fl) : ∀ (l : List Fl), RisingF l → l.foldl (putStep f) ([], false) = (if l.any (fun x => decide (f.nm < x.nm)) = true then putF (keptF l f) f else keptF l f, l.any (fun x => decide (f.nm < x.nm))) := by
  intro l
  refine snoc_ind (P := fun l => RisingF l → l.foldl (putStep f) ([], false) = (if l.any (fun x => decide (f.nm < x.nm)) = true then putF (keptF l f) f else keptF l f, l.any (fun x => decide (f.nm < x.nm)))) (fun _ => rfl) ?_ l
  · intro a x ih hr
    have hra := (List.pairwise_append.1 hr).1
    have hax : ∀ g ∈ a, g.nm < x.nm := fun g hg => (List.pairwise_append.1 hr).2.2 g hg x (by simp)
    rw [List.foldl_append, ih hra, List.foldl_cons, List.foldl_nil, kept_snoc]
    have hany : (a ++ [x]).any (fun x => decide (f.nm < x.nm)) = (a.any (fun x => decide (f.nm < x.nm)) || decide (f.nm < x.nm)) := by simp
    rw [hany]
    unfold putStep
    -- kept floors below the new one, while it is not laid
    have hbelow : a.any (fun x => decide (f.nm < x.nm)) = false → ∀ g ∈ keptF a f, g.nm < f.nm := fun hn g hg => by
      obtain ⟨h1, h2, _⟩ := mem_keptF.1 hg
      have h3 := List.any_eq_false.1 hn g h1
      simp only [decide_eq_true_eq] at h3
      exact Decidable.byContradiction fun h4 => h2 (List.le_antisymm (List.not_lt.1 h3) (List.not_lt.1 h4))
    cases hp : a.any (fun x => decide (f.nm < x.nm)) with
    | true =>
      obtain ⟨g, hg, hlt⟩ := List.any_eq_true.1 hp
      have hfx : f.nm < x.nm := List.lt_trans (of_decide_eq_true hlt) (hax g hg)
      have hxf : ¬ x.nm < f.nm := fun e => List.lt_irrefl _ (List.lt_trans hfx e)
      simp only [Bool.true_or, if_true, Bool.true_eq_false, and_false, if_false]
      cases goesF f x with
      | true => simp
      | false => simp [put_snoc hxf]
    | false =>
      by_cases hfx : f.nm < x.nm
      · have hxf : ¬ x.nm < f.nm := fun e => List.lt_irrefl _ (List.lt_trans hfx e)
        have hpa := put_all (hbelow hp)
        simp only [hfx, decide_true, Bool.or_true, if_true, and_self]
        simp only [Bool.false_eq_true, if_false]
        cases goesF f x with
        | true => simp [hpa]
        | false => simp [put_snoc hxf, hpa]
      · simp [hfx]
theorem put_end {l : List Fl} (f : Fl) (hr : RisingF l) : putEnd f (l.foldl (putStep f) ([], false)) = putF (keptF l f) f := by
  rw [put_fold f l hr]
  unfold putEnd
  cases hp : l.any (fun x => decide (f.nm < x.nm)) with
  | true => simp
  | false =>
    simp only [Bool.false_eq_true, if_false]
    refine (put_all (fun g hg => ?_)).symm
    obtain ⟨h1, h2, _⟩ := mem_keptF.1 hg
    have h3 := List.any_eq_false.1 hp g h1
    simp only [decide_eq_true_eq] at h3
    exact Decidable.byContradiction fun h4 => h2 (List.le_antisymm (List.not_lt.1 h3) (List.not_lt.1 h4))
theorem put_len (f : Fl) : ∀ (l : List Fl) (s : List Fl × Bool), (l.foldl (putStep f) s).1.length ≤ s.1.length + 2 * l.length
  | [], s => by simp
  | x :: l, s => by
    have := put_len f l (putStep f s x)
    rw [List.foldl_cons, List.length_cons]
    have h2 : (putStep f s x).1.length ≤ s.1.length + 2 := by
      unfold putStep
      split <;> split <;> simp
    omega
end Go.Proofs.YtgagekcjdapkfadGreatDoor

namespace Go.Proofs.YtgagekcjdapkfadGreatDoor
open Go Go.RowKit Go.Extern.Stop Go.Stop Go.Extern Go.Proofs

/-- The greater of a name's two floors. -/
def mxF (A B : List Fl) (n : List UInt8) : Int := max (ofL A n) (ofL B n)
/-- One name's floor, where it is one. -/
def mjOne (A B : List Fl) (top : Int) (who : ByteArray) : List Fl := if top < mxF A B who.data.toList ∨ who.data.toList = star then [⟨who, mxF A B who.data.toList⟩] else []
def mj (A B : List Fl) (top : Int) : List Fl → List Fl → List Fl
  | [], [] => []
  | x :: a, [] => mjOne A B top x.who ++ mj A B top a []
  | [], y :: b => mjOne A B top y.who ++ mj A B top [] b
  | x :: a, y :: b => if y.nm < x.nm then mjOne A B top y.who ++ mj A B top (x :: a) b else if x.nm < y.nm then mjOne A B top x.who ++ mj A B top a (y :: b) else mjOne A B top x.who ++ mj A B top a b
termination_by a b => a.length + b.length

theorem mem_one {A B : List Fl} {top : Int} {who : ByteArray} {f : Fl} : f ∈ mjOne A B top who ↔ f.nm = who.data.toList ∧ f.ep = mxF A B f.nm ∧ (top < f.ep ∨ f.nm = star) := by
  unfold mjOne
  constructor
  · intro h
    split at h
    · rename_i hc
      rw [List.mem_singleton.1 h]
      exact ⟨rfl, rfl, hc⟩
    · cases h
  · rintro ⟨h1, h2, h3⟩
    rw [h1] at h2 h3
    rw [h2] at h3
    rw [if_pos h3, List.mem_singleton]
    exact Fl.same h1 h2
theorem nm_eq_lists {x y : Fl} (h1 : ¬ y.nm < x.nm) (h2 : ¬ x.nm < y.nm) : x.nm = y.nm := List.le_antisymm (List.not_lt.1 h1) (List.not_lt.1 h2)

theorem mem_mj (A B : List Fl) (top : Int) (f : Fl) : ∀ (a b : List Fl), f ∈ mj A B top a b ↔ (∃ x, (x ∈ a ∨ x ∈ b) ∧ x.nm = f.nm) ∧ f.ep = mxF A B f.nm ∧ (top < f.ep ∨ f.nm = star)
  | [], [] => by
    rw [mj]
    constructor
    · intro h; cases h
    · rintro ⟨⟨x, h | h, _⟩, _⟩ <;> cases h
  | x :: a, [] => by
    rw [mj, List.mem_append, mem_one, mem_mj A B top f a []]
    constructor
    · rintro (⟨h1, h2⟩ | ⟨⟨z, hz, h1⟩, h2⟩)
      · exact ⟨⟨x, Or.inl (by simp), h1.symm⟩, h2⟩
      · rcases hz with hz | hz
        · exact ⟨⟨z, Or.inl (by simp [hz]), h1⟩, h2⟩
        · cases hz
    · rintro ⟨⟨z, hz | hz, h1⟩, h2⟩
      · rcases List.mem_cons.1 hz with rfl | hz
        · exact Or.inl ⟨h1.symm, h2⟩
        · exact Or.inr ⟨⟨z, Or.inl hz, h1⟩, h2⟩
      · cases hz
  | [], y :: b => by
    rw [mj, List.mem_append, mem_one, mem_mj A B top f [] b]
    constructor
    · rintro (⟨h1, h2⟩ | ⟨⟨z, hz, h1⟩, h2⟩)
      · exact ⟨⟨y, Or.inr (by simp), h1.symm⟩, h2⟩
      · rcases hz with hz | hz
        · cases hz
        · exact ⟨⟨z, Or.inr (by simp [hz]), h1⟩, h2⟩
    · rintro ⟨⟨z, hz | hz, h1⟩, h2⟩
      · cases hz
      · rcases List.mem_cons.1 hz with rfl | hz
        · exact Or.inl ⟨h1.symm, h2⟩
        · exact Or.inr ⟨⟨z, Or.inr hz, h1⟩, h2⟩
  | x :: a, y :: b => by
    rw [mj]
    split
    · rw [List.mem_append, mem_one, mem_mj A B top f (x :: a) b]
      constructor
      · rintro (⟨h1, h2⟩ | ⟨⟨z, hz, h1⟩, h2⟩)
        · exact ⟨⟨y, Or.inr (by simp), h1.symm⟩, h2⟩
        · exact ⟨⟨z, hz.imp id (fun h => by simp [h]), h1⟩, h2⟩
      · rintro ⟨⟨z, hz | hz, h1⟩, h2⟩
        · exact Or.inr ⟨⟨z, Or.inl hz, h1⟩, h2⟩
        · rcases List.mem_cons.1 hz with rfl | hz
          · exact Or.inl ⟨h1.symm, h2⟩
          · exact Or.inr ⟨⟨z, Or.inr hz, h1⟩, h2⟩
    · rename_i hyx
      split
      · rw [List.mem_append, mem_one, mem_mj A B top f a (y :: b)]
        constructor
        · rintro (⟨h1, h2⟩ | ⟨⟨z, hz, h1⟩, h2⟩)
          · exact ⟨⟨x, Or.inl (by simp), h1.symm⟩, h2⟩
          · exact ⟨⟨z, hz.imp (fun h => by simp [h]) id, h1⟩, h2⟩
        · rintro ⟨⟨z, hz | hz, h1⟩, h2⟩
          · rcases List.mem_cons.1 hz with rfl | hz
            · exact Or.inl ⟨h1.symm, h2⟩
            · exact Or.inr ⟨⟨z, Or.inl hz, h1⟩, h2⟩
          · exact Or.inr ⟨⟨z, Or.inr hz, h1⟩, h2⟩
      · rename_i hxy
        have he := nm_eq_lists hyx hxy
        rw [List.mem_append, mem_one, mem_mj A B top f a b]
        constructor
        · rintro (⟨h1, h2⟩ | ⟨⟨z, hz, h1⟩, h2⟩)
          · exact ⟨⟨x, Or.inl (by simp), h1.symm⟩, h2⟩
          · exact ⟨⟨z, hz.imp (fun h => by simp [h]) (fun h => by simp [h]), h1⟩, h2⟩
        · rintro ⟨⟨z, hz | hz, h1⟩, h2⟩
          · rcases List.mem_cons.1 hz with rfl | hz
            · exact Or.inl ⟨h1.symm, h2⟩
            · exact Or.inr ⟨⟨z, Or.inl hz, h1⟩, h2⟩
          · rcases List.mem_cons.1 hz with rfl | hz
            · exact Or.inl ⟨(he.trans h1).symm, h2⟩
            · exact Or.inr ⟨⟨z, Or.inr hz, h1⟩, h2⟩
termination_by a b => a.length + b.length

theorem rising_one {A B : List Fl} {top : Int} {who : ByteArray} {r : List Fl} (hr : RisingF r) (h : ∀ g ∈ r, who.data.toList < g.nm) : RisingF (mjOne A B top who ++ r) := by
  unfold mjOne
  split
  · exact List.pairwise_cons.2 ⟨fun g hg => h g hg, hr⟩
  · exact hr
theorem rising_mj (A B : List Fl) (top : Int) : ∀ (a b : List Fl), RisingF a → RisingF b → RisingF (mj A B top a b)
  | [], [], _, _ => by rw [mj]; exact List.Pairwise.nil
  | x :: a, [], ha, hb => by
    rw [mj]
    have h1 := List.pairwise_cons.1 ha
    refine rising_one (rising_mj A B top a [] h1.2 hb) (fun g hg => ?_)
    obtain ⟨⟨z, hz | hz, he⟩, _⟩ := (mem_mj A B top g a []).1 hg
    · rw [← he]; exact h1.1 z hz
    · cases hz
  | [], y :: b, ha, hb => by
    rw [mj]
    have h1 := List.pairwise_cons.1 hb
    refine rising_one (rising_mj A B top [] b ha h1.2) (fun g hg => ?_)
    obtain ⟨⟨z, hz | hz, he⟩, _⟩ := (mem_mj A B top g [] b).1 hg
    · cases hz
    · rw [← he]; exact h1.1 z hz
  | x :: a, y :: b, ha, hb => by
    have h1 := List.pairwise_cons.1 ha
    have h2 := List.pairwise_cons.1 hb
    rw [mj]
    split
    · rename_i hyx
      refine rising_one (rising_mj A B top (x :: a) b ha h2.2) (fun g hg => ?_)
      obtain ⟨⟨z, hz | hz, he⟩, _⟩ := (mem_mj A B top g (x :: a) b).1 hg
      · rw [← he]
        rcases List.mem_cons.1 hz with rfl | hz
        · exact hyx
        · exact List.lt_trans hyx (h1.1 z hz)
      · rw [← he]; exact h2.1 z hz
    · rename_i hyx
      split
      · rename_i hxy
        refine rising_one (rising_mj A B top a (y :: b) h1.2 hb) (fun g hg => ?_)
        obtain ⟨⟨z, hz | hz, he⟩, _⟩ := (mem_mj A B top g a (y :: b)).1 hg
        · rw [← he]; exact h1.1 z hz
        · rw [← he]
          rcases List.mem_cons.1 hz with rfl | hz
          · exact hxy
          · exact List.lt_trans hxy (h2.1 z hz)
      · rename_i hxy
        have hxe := nm_eq_lists hyx hxy
        refine rising_one (rising_mj A B top a b h1.2 h2.2) (fun g hg => ?_)
        obtain ⟨⟨z, hz | hz, he⟩, _⟩ := (mem_mj A B top g a b).1 hg
        · rw [← he]; exact h1.1 z hz
        · rw [← he]
          show x.nm < z.nm
          rw [hxe]
          exact h2.1 z hz
termination_by a b => a.length + b.length

theorem mj_join {A B : List Fl} (ha : RightF A) (hb : RightF B) : mj A B (max (topL A) (topL B)) A B = joinL A B := by
  have hj := right_join ha hb
  refine rising_ext (rising_mj A B _ A B ha.rising hb.rising) hj.rising (fun f => ?_)
  rw [mem_mj, mem_iff hj, of_join ha hb, of_join ha hb, of_star ha, of_star hb]
  unfold mxF
  constructor
  · rintro ⟨⟨x, hx, hn⟩, h2, h3⟩
    refine ⟨h2.symm, fun hs => ?_, fun hs => ?_⟩
    · rcases hx with hx | hx
      · have h4 := (one_pos (ha.one x hx)).1
        have h5 := of_mem ha.rising hx
        rw [hn] at h5
        omega
      · have h4 := (one_pos (hb.one x hx)).1
        have h5 := of_mem hb.rising hx
        rw [hn] at h5
        omega
    · rcases h3 with h3 | h3
      · exact h3
      · exact absurd h3 hs
  · rintro ⟨h1, h2, h3⟩
    refine ⟨?_, h1.symm, ?_⟩
    · rcases of_cases A f.nm with ⟨x, hx, hn, _⟩ | ⟨_, ea⟩
      · exact ⟨x, Or.inl hx, hn⟩
      · rcases of_cases B f.nm with ⟨x, hx, hn, _⟩ | ⟨_, eb⟩
        · exact ⟨x, Or.inr hx, hn⟩
        · by_cases hs : f.nm = star
          · have h4 := h2 hs
            rcases top_cases A with ⟨x, hx, hn, _⟩ | h5
            · exact ⟨x, Or.inl hx, hn.trans hs.symm⟩
            · rcases top_cases B with ⟨x, hx, hn, _⟩ | h6
              · exact ⟨x, Or.inr hx, hn.trans hs.symm⟩
              · omega
          · have := h3 hs
            omega
    · by_cases hs : f.nm = star
      · exact Or.inr hs
      · exact Or.inl (h3 hs)
theorem mj_len (A B : List Fl) (top : Int) : ∀ (a b : List Fl), (mj A B top a b).length ≤ a.length + b.length
  | [], [] => by rw [mj]; simp
  | x :: a, [] => by
    have := mj_len A B top a []
    rw [List.length_nil] at this
    rw [mj, List.length_append]
    unfold mjOne
    split <;> simp <;> omega
  | [], y :: b => by
    have := mj_len A B top [] b
    rw [List.length_nil] at this
    rw [mj, List.length_append]
    unfold mjOne
    split <;> simp <;> omega
  | x :: a, y :: b => by
    have h1 := mj_len A B top (x :: a) b
    have h2 := mj_len A B top a (y :: b)
    have h3 := mj_len A B top a b
    have ho : ∀ who, (mjOne A B top who).length ≤ 1 := fun who => by unfold mjOne; split <;> simp
    have ho1 := ho x.who
    have ho2 := ho y.who
    rw [mj]
    simp only [List.length_cons] at *
    split
    · rw [List.length_append]; omega
    · split
      · rw [List.length_append]; omega
      · rw [List.length_append]; omega
termination_by a b => a.length + b.length
end Go.Proofs.YtgagekcjdapkfadGreatDoor

namespace Go.Proofs.YtgagekcjdapkfadGreatDoor
open Go.RowKit Go.Extern.Stop Go.Stop Go.Extern

theorem refSmall_int (x : Int) (w : World) :
    Calls Tryz.prog 118 #[.int .u8 x] w fun e w' => e = .returned (.bool (decide (48 ≤ x ∧ x ≤ 57) || decide (97 ≤ x ∧ x ≤ 122))) ∧ w' = w := by
  by_cases h : 97 ≤ x ∧ x ≤ 122
  · obtain ⟨h1, h2⟩ := h
    rw [decide_eq_false (show ¬ (48 ≤ x ∧ x ≤ 57) by omega), decide_eq_true ⟨h1, h2⟩]
    go_enter Tryz.func118, Tryz.ntmps118
    go_wp2
    go_ret
    exact ⟨rfl, rfl⟩
  · rw [decide_eq_false h]
    by_cases h3 : 48 ≤ x
    · by_cases h4 : x ≤ 57
      · rw [decide_eq_true ⟨h3, h4⟩]
        have h5 : ¬ 97 ≤ x := by omega
        clear h
        go_enter Tryz.func118, Tryz.ntmps118
        go_wp2
        go_ret
        exact ⟨rfl, rfl⟩
      · rw [decide_eq_false (fun g => h4 g.2)]
        by_cases h5 : 97 ≤ x
        · have h6 : ¬ x ≤ 122 := fun g => h ⟨h5, g⟩
          clear h
          go_enter Tryz.func118, Tryz.ntmps118
          go_wp2
          go_ret
          exact ⟨by simp_all, rfl⟩
        · clear h
          go_enter Tryz.func118, Tryz.ntmps118
          go_wp2
          go_ret
          exact ⟨by simp_all, rfl⟩
    · rw [decide_eq_false (fun g => h3 g.1)]
      have h5 : ¬ 97 ≤ x := by omega
      clear h
      go_enter Tryz.func118, Tryz.ntmps118
      go_wp2
      go_ret
      exact ⟨rfl, rfl⟩

theorem refSmall_any (b : UInt8) (w : World) :
    Calls Tryz.prog 118 #[.int .u8 (b.toNat : Int)] w fun e w' => e = .returned (.bool (Sl.smallB b)) ∧ w' = w := by
  have := refSmall_int (b.toNat : Int) w
  rwa [show (decide (48 ≤ (b.toNat : Int) ∧ (b.toNat : Int) ≤ 57) || decide (97 ≤ (b.toNat : Int) ∧ (b.toNat : Int) ≤ 122)) = Sl.smallB b by
    unfold Sl.smallB Sl.digB
    congr 1 <;> (rw [decide_eq_decide]; omega)] at this

/-- Of all bytes, by places. -/
theorem all_at (p : UInt8 → Bool) (s : ByteArray) (h : ∀ j (hj : j < s.size), p s[j] = true) : s.data.toList.all p = true := by
  rw [List.all_eq_true]
  intro x hx
  obtain ⟨j, hj, rfl⟩ := List.getElem_of_mem hx
  exact h j (by rw [size_list] at hj; exact hj)
theorem all_no (p : UInt8 → Bool) (s : ByteArray) (j : Nat) (hj : j < s.size) (h : p s[j] = false) : s.data.toList.all p = false := by
  rw [List.all_eq_false]
  refine ⟨s[j], ?_, by rw [h]; decide⟩
  have : s.data.toList[j]? = some s[j] := by
    rw [List.getElem?_eq_getElem (by rw [size_list]; exact hj)]
    rfl
  exact List.mem_of_getElem? this

set_option maxHeartbeats 1000000 in
theorem refName_any (s : ByteArray) (w : World) (hs : s.size ≤ maxLen) :
    Calls Tryz.prog 77 #[.string s] w fun e w' => e = .returned (.bool (Sl.nameL s.data.toList)) ∧ w' = w := by
  have el := size_list s
  unfold maxLen at hs
  go_enter Tryz.func77, Tryz.ntmps77
  go_wp2
  go_loop [3] (fun i => ∃ k : Nat, k ≤ s.size ∧ i = .int .i64 k ∧ Hid (∀ j (hj : j < s.size), j < k → Sl.smallB s[j] = true)) (fun i => s.size - (intOf i).toNat)
  case atStart => exact ⟨0, Nat.zero_le _, rfl, fun j _ hj => absurd hj (Nat.not_lt_zero _)⟩
  case round =>
    obtain ⟨k, hk, rfl, A⟩ := hrel
    by_cases hlt : k < s.size
    · have HC := hide (refSmall_any s[k] w)
      cases hb : Sl.smallB s[k] with
      | true =>
        rw [hb] at HC
        have HBt := hide hb
        clear hb
        go_wp2_with fail
        refine HC.out.mono ?_
        rintro e w1 ⟨rfl, rfl⟩
        go_wp2
        go_round
        case rel =>
          refine ⟨k + 1, by omega, by go_num, (show Hid _ from fun j hj hjk => ?_)⟩
          by_cases e : j = k
          · subst e; exact HBt.out
          · exact A.out j hj (by omega)
        case measure => simp [intOf]; omega
      | false =>
        rw [hb] at HC
        have HR : Hid (Sl.nameL s.data.toList = false) := by
          show _ = _
          unfold Sl.nameL Sl.madeL
          rw [all_no Sl.smallB s k hlt hb, Bool.and_false]
        clear hb
        go_wp2_with fail
        refine HC.out.mono ?_
        rintro e w1 ⟨rfl, rfl⟩
        go_wp2
        go_ret
        exact ⟨by rw [HR.out]; rfl, rfl⟩
    · have HR : Hid (Sl.nameL s.data.toList = decide (1 ≤ s.size ∧ s.size ≤ 8)) := by
        show _ = _
        unfold Sl.nameL Sl.madeL
        rw [all_at Sl.smallB s (fun j hj => A.out j hj (by omega)), el, Bool.and_true]
      by_cases h1 : 1 ≤ s.size
      · by_cases h2 : s.size ≤ 8
        · have h2z : (s.size : Int) ≤ 8 := by omega
          go_wp2
          go_ret
          exact ⟨by rw [HR.out, decide_eq_true (And.intro h1 h2)]; first | rfl | simp_all, rfl⟩
        · have h2z : ¬ (s.size : Int) ≤ 8 := by omega
          go_wp2
          go_ret
          exact ⟨by rw [HR.out, decide_eq_false (show ¬ (1 ≤ s.size ∧ s.size ≤ 8) from fun g => h2 g.2)]; simp_all, rfl⟩
      · go_wp2
        go_ret
        exact ⟨by rw [HR.out, decide_eq_false (show ¬ (1 ≤ s.size ∧ s.size ≤ 8) from fun g => h1 g.1)]; rfl, rfl⟩

set_option maxHeartbeats 1000000 in
theorem refWord_any (s : ByteArray) (w : World) (hs : s.size ≤ maxLen) :
    Calls Tryz.prog 130 #[.string s] w fun e w' => e = .returned (.bool (Sl.wordL s.data.toList)) ∧ w' = w := by
  have el := size_list s
  unfold maxLen at hs
  go_enter Tryz.func130, Tryz.ntmps130
  go_wp2
  go_loop [3] (fun i => ∃ k : Nat, k ≤ s.size ∧ i = .int .i64 k ∧ Hid (∀ j (hj : j < s.size), j < k → Sl.wordB s[j] = true)) (fun i => s.size - (intOf i).toNat)
  case atStart => exact ⟨0, Nat.zero_le _, rfl, fun j _ hj => absurd hj (Nat.not_lt_zero _)⟩
  case round =>
    obtain ⟨k, hk, rfl, A⟩ := hrel
    by_cases hlt : k < s.size
    · have HC := hide (refSmall_any s[k] w)
      cases hb : Sl.smallB s[k] with
      | true =>
        rw [hb] at HC
        have HBt : Hid (Sl.wordB s[k] = true) := by show _ = _; unfold Sl.wordB; rw [hb]; rfl
        clear hb
        go_wp2_with fail
        refine HC.out.mono ?_
        rintro e w1 ⟨rfl, rfl⟩
        go_wp2
        go_round
        case rel =>
          refine ⟨k + 1, by omega, by go_num, (show Hid _ from fun j hj hjk => ?_)⟩
          by_cases e : j = k
          · subst e; exact HBt.out
          · exact A.out j hj (by omega)
        case measure => simp [intOf]; omega
      | false =>
        rw [hb] at HC
        by_cases h45 : s[k].toNat = 45
        · have HBt : Hid (Sl.wordB s[k] = true) := by show _ = _; unfold Sl.wordB; rw [hb, decide_eq_true h45]; rfl
          have hq : ((s[k].toNat : Int) != 45) = false := by rw [h45]; decide
          clear hb h45
          go_wp2_with fail
          refine HC.out.mono ?_
          rintro e w1 ⟨rfl, rfl⟩
          go_wp2
          go_round
          case rel =>
            refine ⟨k + 1, by omega, by go_num, (show Hid _ from fun j hj hjk => ?_)⟩
            by_cases e : j = k
            · subst e; exact HBt.out
            · exact A.out j hj (by omega)
          case measure => simp [intOf]; omega
        · have hq : ((s[k].toNat : Int) != 45) = true := by rw [bne_iff_ne]; omega
          by_cases h42 : s[k].toNat = 42
          · have HBt : Hid (Sl.wordB s[k] = true) := by show _ = _; unfold Sl.wordB; rw [hb, decide_eq_true h42, Bool.or_true]
            have hq2 : ((s[k].toNat : Int) != 42) = false := by rw [h42]; decide
            clear hb h45 h42
            go_wp2_with fail
            refine HC.out.mono ?_
            rintro e w1 ⟨rfl, rfl⟩
            go_wp2
            go_round
            case rel =>
              refine ⟨k + 1, by omega, by go_num, (show Hid _ from fun j hj hjk => ?_)⟩
              by_cases e : j = k
              · subst e; exact HBt.out
              · exact A.out j hj (by omega)
            case measure => simp [intOf]; omega
          · have hq2 : ((s[k].toNat : Int) != 42) = true := by rw [bne_iff_ne]; omega
            have HR : Hid (Sl.wordL s.data.toList = false) := by
              show _ = _
              unfold Sl.wordL Sl.madeL
              rw [all_no Sl.wordB s k hlt (by unfold Sl.wordB; rw [hb, decide_eq_false h45, decide_eq_false h42]; rfl), Bool.and_false]
            clear hb h45 h42
            go_wp2_with fail
            refine HC.out.mono ?_
            rintro e w1 ⟨rfl, rfl⟩
            go_wp2
            go_ret
            exact ⟨by rw [HR.out]; rfl, rfl⟩
    · have HR : Hid (Sl.wordL s.data.toList = decide (1 ≤ s.size ∧ s.size ≤ 20)) := by
        show _ = _
        unfold Sl.wordL Sl.madeL
        rw [all_at Sl.wordB s (fun j hj => A.out j hj (by omega)), el, Bool.and_true]
      by_cases h1 : 1 ≤ s.size
      · by_cases h2 : s.size ≤ 20
        · have h2z : (s.size : Int) ≤ 20 := by omega
          go_wp2
          go_ret
          exact ⟨by rw [HR.out, decide_eq_true (And.intro h1 h2)]; first | rfl | simp_all, rfl⟩
        · have h2z : ¬ (s.size : Int) ≤ 20 := by omega
          go_wp2
          go_ret
          exact ⟨by rw [HR.out, decide_eq_false (show ¬ (1 ≤ s.size ∧ s.size ≤ 20) from fun g => h2 g.2)]; simp_all, rfl⟩
      · go_wp2
        go_ret
        exact ⟨by rw [HR.out, decide_eq_false (show ¬ (1 ≤ s.size ∧ s.size ≤ 20) from fun g => h1 g.1)]; rfl, rfl⟩
end Go.Proofs.YtgagekcjdapkfadGreatDoor

namespace Go.Proofs.YtgagekcjdapkfadGreatDoor
open Go.RowKit Go.Extern.Stop Go.Stop Go.Extern Go.Proofs

/-- A fault of the document's answer. -/
abbrev fltV (c : Nat × Int) : Value := .agg #[.int .i64 (c.1 : Int), .int .i64 c.2]
theorem bare_any (c : Nat) (w : World) :
    Calls Tryz.prog 50 #[.int .i64 (c : Int)] w fun e w' => e = .returned (fltV (c, -1)) ∧ Below w.heap.size w w' := by
  unfold fltV
  generalize (c : Int) = z at *
  go_enter Tryz.func50, Tryz.ntmps50
  go_wp2
  refine bodyPost_ret (results_cell_row rfl _ _ w.heap.size _ _ _ _ rfl (heap_alloc_new _ _) Tryz.underlying35 rfl (by kernel_rfl)) rfl ?_
  exact ⟨rfl, (Below.refl _ _).alloc (Nat.le_refl _) _⟩
theorem fine_any (w : World) :
    Calls Tryz.prog 51 #[] w fun e w' => e = .returned (fltV (0, -1)) ∧ Below w.heap.size w w' := by
  go_enter Tryz.func51, Tryz.ntmps51
  go_wp2
  refine bodyPost_ret (results_cell_row rfl _ _ w.heap.size _ _ _ _ rfl (heap_alloc_new _ _) Tryz.underlying35 rfl (by kernel_rfl)) rfl ?_
  exact ⟨rfl, (Below.refl _ _).alloc (Nat.le_refl _) _⟩

set_option maxRecDepth 100000 in
set_option maxHeartbeats 1000000 in
theorem refOne_any (f : Fl) (w : World) (hs : f.who.size ≤ maxLen) :
    Calls Tryz.prog 138 #[f.val] w fun e w' => e = .returned (.int .i64 (oneE f : Int)) ∧ Below w.heap.size w w' := by
  obtain ⟨who, ep⟩ := f
  have HB : Hid (Below w.heap.size w (w.alloc (.cells #[.string who, .int .i64 ep] 98))) := (Below.refl _ _).alloc (Nat.le_refl _) _
  have HN := hide (fun w => refName_any who w hs)
  have hq := star_who ⟨who, ep⟩
  have H1 : Hid (oneE ⟨who, ep⟩ = if (Fl.mk who ep).nm = star ∨ Sl.nameL (Fl.mk who ep).nm = true then (if 1 ≤ ep ∧ ep ≤ 1073741824 then 0 else 2) else 4) := rfl
  have HR : Hid (∀ c, oneE ⟨who, ep⟩ = c → Calls Tryz.prog 138 #[.agg #[.string who, .int .i64 ep]] w (fun e w' => e = .returned (.int .i64 (c : Int)) ∧ Below w.heap.size w w') → Calls Tryz.prog 138 #[.agg #[.string who, .int .i64 ep]] w (fun e w' => e = .returned (.int .i64 (oneE ⟨who, ep⟩ : Int)) ∧ Below w.heap.size w w')) := fun c hc h => by rw [hc]; exact h
  show Calls Tryz.prog 138 #[.agg #[.string who, .int .i64 ep]] w _
  have hep : (1 ≤ ep ∧ ep ≤ 1073741824) ∨ ep < 1 ∨ (1 ≤ ep ∧ 1073741824 < ep) := by omega
  change (who.toList == [42]) = _ at hq
  by_cases hst : (Fl.mk who ep).nm = star
  · rw [decide_eq_true hst] at hq
    have HH := hide (fun c (h : (if 1 ≤ ep ∧ ep ≤ 1073741824 then 0 else 2) = c) => HR.out c (by rw [H1.out, if_pos (Or.inl hst)]; exact h))
    generalize Sl.nameL who.data.toList = nb at *
    rcases hep with ⟨g, g2⟩ | g | ⟨g, g2⟩
    · refine HH.out 0 (if_pos ⟨g, g2⟩) ?_
      clear HH HR H1 hst
      go_enter Tryz.func138, Tryz.ntmps138
      go_wp2_with fail
      refine (HN.out _).mono ?_
      rintro e w1 ⟨rfl, rfl⟩
      go_wp2
      go_ret
      exact ⟨rfl, HB.out⟩
    all_goals
      refine HH.out 2 (if_neg (by omega)) ?_
      clear HH HR H1 hst
      go_enter Tryz.func138, Tryz.ntmps138
      go_wp2_with fail
      refine (HN.out _).mono ?_
      rintro e w1 ⟨rfl, rfl⟩
      go_wp2
      go_ret
      exact ⟨rfl, HB.out⟩
  · rw [decide_eq_false hst] at hq
    have hnm : (Fl.mk who ep).nm = who.data.toList := rfl
    cases hn : Sl.nameL who.data.toList with
    | false =>
      refine HR.out 4 (by rw [H1.out, if_neg]; rw [hnm, hn]; rintro (e | e); exact hst e; cases e) ?_
      rw [hn] at HN
      clear HR H1 hst hn hnm
      go_enter Tryz.func138, Tryz.ntmps138
      go_wp2_with fail
      refine (HN.out _).mono ?_
      rintro e w1 ⟨rfl, rfl⟩
      go_wp2
      go_ret
      exact ⟨rfl, HB.out⟩
    | true =>
      rw [hn] at HN
      have HH := hide (fun c (h : (if 1 ≤ ep ∧ ep ≤ 1073741824 then 0 else 2) = c) => HR.out c (by rw [H1.out, if_pos (Or.inr (by rw [hnm]; exact hn))]; exact h))
      rcases hep with ⟨g, g2⟩ | g | ⟨g, g2⟩
      · refine HH.out 0 (if_pos ⟨g, g2⟩) ?_
        clear HH HR H1 hst hn hnm
        go_enter Tryz.func138, Tryz.ntmps138
        go_wp2_with fail
        refine (HN.out _).mono ?_
        rintro e w1 ⟨rfl, rfl⟩
        go_wp2
        go_ret
        exact ⟨rfl, HB.out⟩
      all_goals
        refine HH.out 2 (if_neg (by omega)) ?_
        clear HH HR H1 hst hn hnm
        go_enter Tryz.func138, Tryz.ntmps138
        go_wp2_with fail
        refine (HN.out _).mono ?_
        rintro e w1 ⟨rfl, rfl⟩
        go_wp2
        go_ret
        exact ⟨rfl, HB.out⟩

set_option maxRecDepth 100000 in
set_option maxHeartbeats 1000000 in
theorem refTop_any (v : Value) (l : List Fl) (w : World) (h : FlAt w v l) (hl : l.length ≤ 1000000) :
    Calls Tryz.prog 121 #[v] w fun e w' => e = .returned (.int .i64 (topL l)) ∧ w' = w := by
  match l with
  | [] =>
    obtain ⟨ad, cap, rfl, hc⟩ := h.form
    show Calls Tryz.prog 121 #[.slice ad 0 cap] w _
    go_enter Tryz.func121, Tryz.ntmps121
    go_wp2
    go_ret
    exact ⟨rfl, rfl⟩
  | f :: l =>
    obtain ⟨b, off, cap, rfl, hc, hb, hcell⟩ := h.at (by simp)
    obtain ⟨c0, c1⟩ := hcell 0 (by simp)
    simp only [List.getElem_cons_zero, Nat.zero_mul, Nat.add_zero] at c0 c1
    have hq := star_who f
    rw [topL_cons]
    have hn : ∃ n, (f :: l).length = n + 1 := ⟨l.length, rfl⟩
    clear hcell h
    obtain ⟨n, hn⟩ := hn
    rw [hn] at hc hl ⊢
    by_cases hs : f.nm = star
    · rw [if_pos hs]
      rw [decide_eq_true hs] at hq
      clear hs hn
      generalize f.who = who at *
      generalize f.ep = ep at *
      go_enter Tryz.func121, Tryz.ntmps121
      go_wp2
      go_ret
      exact ⟨rfl, rfl⟩
    · rw [if_neg hs]
      rw [decide_eq_false hs] at hq
      clear hs hn
      generalize f.who = who at *
      generalize f.ep = ep at *
      go_enter Tryz.func121, Tryz.ntmps121
      go_wp2
      go_ret
      exact ⟨rfl, rfl⟩

/-- How FloorOf goes through the floors. -/
def ofStep (name : List UInt8) (n : Int) (f : Fl) : Int := if f.nm = name ∧ n < f.ep then f.ep else n
theorem ofFold_skip (name : List UInt8) : ∀ (l : List Fl) (n : Int), (∀ f ∈ l, f.nm ≠ name) → l.foldl (ofStep name) n = n
  | [], _, _ => rfl
  | f :: l, n, h => by
    rw [List.foldl_cons, show ofStep name n f = n from if_neg (fun e => h f (by simp) e.1)]
    exact ofFold_skip name l n (fun g hg => h g (by simp [hg]))
theorem ofFold_right {l : List Fl} (h : RightF l) (name : List UInt8) : l.foldl (ofStep name) (topL l) = ofL l name := by
  rcases of_cases l name with ⟨f, hf, hn, he⟩ | ⟨hn, he⟩
  · obtain ⟨a, b, rfl⟩ := List.append_of_mem hf
    have hr := h.rising
    have hd : ∀ g ∈ a ++ f :: b, g.nm = name → g = f := fun g hg e => hr.inj hg hf (by rw [e, hn])
    have ha : ∀ g ∈ a, g.nm ≠ name := fun g hg e => by
      have e2 := hd g (by simp [hg]) e
      subst e2
      have := (List.pairwise_append.1 hr).2.2 g hg g (by simp)
      exact List.lt_irrefl _ this
    have hb : ∀ g ∈ b, g.nm ≠ name := fun g hg e => by
      have e2 := hd g (by simp [hg]) e
      subst e2
      have := (List.pairwise_cons.1 (List.pairwise_append.1 hr).2.1).1 g hg
      exact List.lt_irrefl _ this
    rw [he, List.foldl_append, ofFold_skip name a _ ha, List.foldl_cons, ofFold_skip name b _ hb]
    have := h.top_le hf
    unfold ofStep
    split
    · rfl
    · rename_i g
      have g2 : ¬ topL (a ++ f :: b) < f.ep := fun e => g ⟨hn, e⟩
      omega
  · rw [he, ofFold_skip name l _ hn]

set_option maxRecDepth 100000 in
set_option maxHeartbeats 2000000 in
theorem refFloorOf_any (v : Value) (l : List Fl) (name : ByteArray) (w : World) (hv : FlAt w v l) (hr : RightF l) (hl : l.length ≤ 1000000) :
    Calls Tryz.prog 80 #[v, .string name] w fun e w' => e = .returned (.int .i64 (ofL l name.data.toList)) ∧ w' = w := by
  have HT := hide (refTop_any v l w hv hl)
  have HR := hide (ofFold_right hr name.data.toList)
  have HV := hide hv
  obtain ⟨ad, cap, rfl, hc⟩ := hv.form
  generalize hn : l.length = n at *
  have HN := hide hn
  generalize ofL l name.data.toList = res at *
  clear hv hn hr
  go_enter Tryz.func80, Tryz.ntmps80
  go_wp2_with fail
  refine HT.out.mono ?_
  rintro e w1 ⟨rfl, rfl⟩
  go_wp2
  go_loop [5, 6] (fun nv i => ∃ (k : Nat) (m : Int), k ≤ n ∧ i = .int .i64 k ∧ nv = .int .i64 m ∧ Hid ((l.take k).foldl (ofStep name.data.toList) (topL l) = m)) (fun _ i => n - (intOf i).toNat)
  case atStart => exact ⟨0, topL l, Nat.zero_le _, rfl, rfl, (show Hid _ from rfl)⟩
  case round =>
    obtain ⟨k, m, hk, rfl, rfl, HM⟩ := hrel
    by_cases hlt : k < n
    · have hkl : k < l.length := by rw [HN.out]; exact hlt
      have hvr := HV.out
      rw [← HN.out] at hvr
      obtain ⟨b, off, cap', e, hc', hb, hcell⟩ := hvr.at (by omega)
      injection e with e1 e2 e3
      subst e1; subst e3
      obtain ⟨c0, c1⟩ := hcell k hkl
      have hltz : (k : Int) < (n : Int) := by omega
      have HM2 : Hid ((l.take (k + 1)).foldl (ofStep name.data.toList) (topL l) = ofStep name.data.toList m (l[k]'hkl)) := by
        show _ = _
        rw [List.take_succ_eq_append_getElem hkl, List.foldl_append, HM.out]
        rfl
      have hq := same_names (l[k]'hkl).who name
      have HQ : Hid (ofStep name.data.toList m (l[k]'hkl) = if (l[k]'hkl).who.data.toList = name.data.toList ∧ m < (l[k]'hkl).ep then (l[k]'hkl).ep else m) := rfl
      clear hcell hvr
      generalize ofStep name.data.toList m (l[k]'hkl) = m2 at *
      generalize (l[k]'hkl).who = who at *
      generalize (l[k]'hkl).ep = ep at *
      by_cases h1 : who.data.toList = name.data.toList
      · rw [decide_eq_true h1] at hq
        by_cases h2 : m < ep
        · have HQ2 : Hid (m2 = ep) := by show _ = _; rw [HQ.out, if_pos ⟨h1, h2⟩]
          clear h1 HQ
          go_wp2
          go_round
          case rel => exact ⟨k + 1, ep, by omega, by go_num, rfl, (show Hid _ from by show _ = _; rw [HM2.out, HQ2.out])⟩
          case measure => simp [intOf]; omega
        · have HQ2 : Hid (m2 = m) := by show _ = _; rw [HQ.out, if_neg (fun e => h2 e.2)]
          clear h1 HQ
          go_wp2
          go_round
          case rel => exact ⟨k + 1, m, by omega, by go_num, rfl, (show Hid _ from by show _ = _; rw [HM2.out, HQ2.out])⟩
          case measure => simp [intOf]; omega
      · rw [decide_eq_false h1] at hq
        have HQ2 : Hid (m2 = m) := by show _ = _; rw [HQ.out, if_neg (fun e => h1 e.1)]
        clear h1 HQ
        go_wp2
        go_round
        case rel => exact ⟨k + 1, m, by omega, by go_num, rfl, (show Hid _ from by show _ = _; rw [HM2.out, HQ2.out])⟩
        case measure => simp [intOf]; omega
    · obtain rfl : k = n := by omega
      have hltz : ¬ (k : Int) < (k : Int) := by omega
      have hm : m = res := by
        rw [← HM.out, List.take_of_length_le (by rw [HN.out]; exact Nat.le_refl _)]
        exact HR.out
      subst hm
      go_wp2
      go_ret
      exact ⟨rfl, rfl⟩
end Go.Proofs.YtgagekcjdapkfadGreatDoor

namespace Go.Proofs.YtgagekcjdapkfadGreatDoor
open Go.RowKit Go.Extern.Stop Go.Stop Go.Extern Go.Proofs

theorem indexB_none (c : UInt8) : ∀ l : List UInt8, c ∉ l → Lib.indexByte l c = -1
  | [], _ => rfl
  | b :: l, h => by
    have hb : (b == c) = false := beq_eq_false_iff_ne.2 (fun e => h (by simp [e]))
    unfold Lib.indexByte
    rw [hb, indexB_none c l (fun e => h (by simp [e]))]
    rfl
theorem indexB_some (c : UInt8) (t : List UInt8) : ∀ a : List UInt8, c ∉ a → Lib.indexByte (a ++ c :: t) c = (a.length : Int)
  | [], _ => by unfold Lib.indexByte; simp
  | b :: a, h => by
    have hb : (b == c) = false := beq_eq_false_iff_ne.2 (fun e => h (by simp [e]))
    rw [List.cons_append]
    unfold Lib.indexByte
    rw [hb, indexB_some c t a (fun e => h (by simp [e]))]
    have : (((a.length : Int)) == -1) = false := by rw [beq_eq_false_iff_ne]; omega
    simp [this]
theorem extract_ahead (s : ByteArray) (a t : List UInt8) (c : UInt8) (h : s.data.toList = a ++ c :: t) : s.extract 0 a.length = txt a ∧ s.extract (a.length + 1) s.size = txt t := by
  have hl := congrArg List.length h
  rw [size_list] at hl
  constructor
  · refine Go.WideShapes.bytes_inj ?_
    rw [Lib.extract_data, h]
    simp
  · refine Go.WideShapes.bytes_inj ?_
    rw [Lib.extract_data, h, hl]
    simp
    exact List.take_of_length_le (by omega)
theorem first_cut (c : UInt8) (l : List UInt8) : (c ∉ l) ∨ ∃ a t, l = a ++ c :: t ∧ c ∉ a := by
  by_cases h : c ∈ l
  · exact Or.inr (Sl.first_blank c l h)
  · exact Or.inl h

/-- What Cut gives at one byte. -/
def cutV (c : UInt8) (s : ByteArray) : Array Value := if c ∈ s.data.toList then #[.string (txt (aheadB c s.data.toList)), .string (txt (behindB c s.data.toList)), .bool true] else #[.string s, .string ⟨#[]⟩, .bool false]
theorem cutV_no {c : UInt8} {s : ByteArray} (h : c ∉ s.data.toList) : cutV c s = #[.string s, .string ⟨#[]⟩, .bool false] := if_neg h
theorem cutV_yes {c : UInt8} {s : ByteArray} (h : c ∈ s.data.toList) : cutV c s = #[.string (txt (aheadB c s.data.toList)), .string (txt (behindB c s.data.toList)), .bool true] := if_pos h

theorem num_big (l : List UInt8) : numB l 9223372036854775807 = numAny l := by
  unfold numB numAny
  cases h : Sl.numOk l with
  | false => rfl
  | true =>
    obtain ⟨h1, h2, _⟩ := (Sl.numOk_iff l).1 h
    have := Sl.valL_lt l h2 h1.2
    rw [decide_eq_true (by omega)]
    rfl
theorem numV_big {l : List UInt8} (h : numAny l = true) : numV l 9223372036854775807 = (Sl.valL l : Int) := by
  unfold numV
  rw [num_big, if_pos h]
theorem ahead_le (c : UInt8) (l : List UInt8) : (aheadB c l).length ≤ l.length := (List.takeWhile_sublist _).length_le
theorem behind_le (c : UInt8) (l : List UInt8) : (behindB c l).length ≤ l.length := by
  unfold behindB
  rw [List.length_drop]
  have := (List.dropWhile_sublist (fun b => b != c) (l := l)).length_le
  omega

theorem res_cell_tmp {P : Program} {fn : Func} {p u : Tmp} {ty : TypeId} (h : fn.results = #[.cell p ty, .tmp u]) (tmps : Array Value) (w : World) (g : Nat) (t : TypeId) (cs : Array Value) (fr : Nat × Nat) (d : TypeDesc)
    (hp : tmps.getD p undef = .pointer (some ⟨g, 0, none⟩)) (hg : w.heap[g]? = some (.cells cs t fr))
    (hu : P.underlying ty = some d) (hd : (match d with | .struct _ | .array _ _ => true | _ => false) = true) (hi : (P.info? ty).map (·.size) = some cs.size) :
    (results fn tmps).run P w = .ok (.tuple #[.agg cs, tmps.getD u undef]) w := by
  rw [results_cell_tmp h, hp]
  simp [asAddr, run_loadVar_row w g t ty cs fr d hg hu hd hi, Result.andThen]
/-- What readOne gives. -/
def rdV : Option Fl → Array Value
  | some f => #[.agg #[.string f.who, .int .i64 f.ep], .bool true]
  | none => #[.agg #[.string ByteArray.empty, .int .i64 0], .bool false]
theorem set2_row {w : World} {b : Nat} {x y : Value} {t : TypeId} (h : w.heap[b]? = some (.cells #[x, y] t (0, 0))) (u v : Value) : ((w.setCell ⟨b, 0, none⟩ u).setCell ⟨b, 0 + 1, none⟩ v).heap[b]? = some (.cells #[u, v] t (0, 0)) :=
  heap_setCell_same _ b 1 _ _ _ (heap_setCell_same w b 0 _ _ _ h)

end Go.Proofs.YtgagekcjdapkfadGreatDoor

namespace Go.Proofs.YtgagekcjdapkfadGreatDoor
open Go.RowKit Go.Extern.Stop Go.Stop Go.Extern Go.Proofs

theorem faulted2_same (ev : Value) (c at0 : Int) (w : World)
    (hc : ∀ w', Below w.heap.size w w' → Calls Tryz.prog 52 #[ev] w' fun e w'' => e = .returned (.tuple #[.int .i64 c, .int .i64 at0]) ∧ Below w'.heap.size w' w'') :
    Calls Tryz.prog 11 #[ev, .agg #[.int .i64 c, .int .i64 at0]] w fun e w' => e = .returned (.bool true) ∧ Below w.heap.size w w' := by
  have HB0 : Hid (Below w.heap.size w (w.alloc (.cells #[.int .i64 c, .int .i64 at0] 35))) := (Below.refl _ _).alloc (Nat.le_refl _) _
  have HC := hide (hc _ HB0.out)
  have hq1 : (c == c) = true := by simp
  have hq2 : (at0 == at0) = true := by simp
  clear hc
  by_cases h0 : c = 0
  · have hq : (c == 0) = true := by simpa using h0
    clear h0
    go_enter Tryz.func11, Tryz.ntmps11
    go_wp2_with fail
    refine HC.out.mono ?_
    rintro e w1 ⟨rfl, hb⟩
    have h1 : w1.cell? ⟨w.heap.size, 0, none⟩ = some (.int .i64 c) := by rw [hb.cell (p := ⟨w.heap.size, 0, none⟩) (by simp)]; simp
    have HB1 : Hid (Below w.heap.size w w1) := HB0.out.trans (hb.mono HB0.out.size)
    clear hb HC
    go_wp2
    go_ret
    exact ⟨rfl, HB1.out⟩
  · have hq : (c == 0) = false := by simpa using h0
    clear h0
    go_enter Tryz.func11, Tryz.ntmps11
    go_wp2_with fail
    refine HC.out.mono ?_
    rintro e w1 ⟨rfl, hb⟩
    have h1 : w1.cell? ⟨w.heap.size, 0, none⟩ = some (.int .i64 c) := by rw [hb.cell (p := ⟨w.heap.size, 0, none⟩) (by simp)]; simp
    have h2 : w1.cell? ⟨w.heap.size, 1, none⟩ = some (.int .i64 at0) := by rw [hb.cell (p := ⟨w.heap.size, 1, none⟩) (by simp)]; simp
    have HB1 : Hid (Below w.heap.size w w1) := HB0.out.trans (hb.mono HB0.out.size)
    clear hb HC
    go_wp2
    go_ret
    exact ⟨rfl, HB1.out⟩
/-- An error of package floor's, and the document's own. -/
theorem faulted_fl {a : Nat → Addr} {c : Nat × Int} {ev : Value} {w : World} (h : Errs a w) (he : FlErr a w c ev) (h16 : c.1 < 16) (h0 : c.1 = 0 → c.2 = -1) :
    Calls Tryz.prog 11 #[ev, fltV c] w fun e w' => e = .returned (.bool true) ∧ Below w.heap.size w w' := by
  refine faulted2_same ev (c.1 : Int) c.2 w (fun w' hb => ?_)
  rcases he with ⟨hz, rfl⟩ | ⟨hz, hn, rfl⟩ | ⟨hz, b, rfl, hrow⟩
  · rw [h0 hz, hz]
    exact (code_nil w').mono (by rintro e w'' ⟨rfl, rfl⟩; exact ⟨rfl, Below.refl _ _⟩)
  · have := code_err a (c.1 - 1) (by omega) w' (h.below hb)
    rw [hn]
    rwa [show ((c.1 - 1 : Nat) : Int) + 1 = (c.1 : Int) by omega] at this
  · have hr : w'.heap[b]? = some (.cells #[.int .i64 c.2, eV (a (c.1 - 1))] 150 (0, 0)) := (hb.block _ (row_lt hrow)).trans hrow
    have := code_at a (c.1 - 1) (by omega) b 0 c.2 w' (h.below hb) (cell_of_row w' b 0 _ _ _ hr) (cell_of_row w' b 1 _ _ _ hr)
    rwa [show ((c.1 - 1 : Nat) : Int) + 1 = (c.1 : Int) by omega] at this

/-! ### The fault of a list -/
theorem shape_first {l : List Fl} {k : Nat} (hk : k < l.length) (h0 : k = 0) (h1 : oneE l[k] = 0) : badAt l k = 0 ∧ (l[k].nm ≠ star → topL l < l[k].ep) := by
  subst h0
  match l, hk with
  | f :: l, _ =>
    change oneE f = 0 at h1
    have h2 := one_pos h1
    show behindE [] f = 0 ∧ (f.nm ≠ star → topL (f :: l) < f.ep)
    refine ⟨?_, fun hn => ?_⟩
    · unfold behindE
      rw [if_pos h1, if_neg (by rintro ⟨g, hg, _⟩; cases hg), if_neg (by have : topL [] = 0 := rfl; omega)]
    · rw [topL_cons, if_neg hn]
      omega
theorem top_take {l : List Fl} {k : Nat} (hk : 0 < k) : topL (l.take k) = topL l := by
  match l, k, hk with
  | [], k + 1, _ => rfl
  | f :: l, k + 1, _ => rfl
theorem last_take {l : List Fl} {m : Nat} (hm : m + 1 < l.length) : (l.take (m + 1)).getLast? = some (l[m]'(by omega)) := by
  rw [List.take_succ_eq_append_getElem (by omega), List.getLast?_concat]
theorem bad_next {l : List Fl} {m : Nat} (hm : m + 1 < l.length) (h1 : oneE l[m + 1] = 0) : badAt l (m + 1) = if (l[m]'(by omega)).nm < l[m + 1].nm then (if l[m + 1].ep ≤ topL l then 3 else 0) else 8 := by
  unfold badAt
  rw [List.getElem?_eq_getElem hm]
  show behindE (l.take (m + 1)) l[m + 1] = _
  unfold behindE
  rw [if_pos h1, last_take hm, top_take (by omega)]
  by_cases h : (l[m]'(by omega)).nm < l[m + 1].nm
  · rw [if_pos h, if_neg (by rintro ⟨g, hg, hn⟩; injection hg with hg; subst hg; exact hn h)]
  · rw [if_neg h, if_pos ⟨_, rfl, h⟩]
theorem bad_one {l : List Fl} {k : Nat} (hk : k < l.length) (h1 : oneE l[k] ≠ 0) : badAt l k = oneE l[k] := by
  unfold badAt
  rw [List.getElem?_eq_getElem hk]
  show behindE (l.take k) l[k] = _
  unfold behindE
  rw [if_neg h1]
theorem faultEnd {a : Act} {w : World} {R : Ending → World → Prop} (g : Nat) (cs : Array Value) (hp : a.tmps.getD 2 undef = .pointer (some ⟨g, 0, none⟩)) (hg : w.heap[g]? = some (.cells cs 35 (0, 0))) (hn : cs.size = 2) (hd : a.defers = [])
    (hR : R (.returned (.agg cs)) w) : bodyPost Tryz.prog Tryz.f100 R .ret a w :=
  bodyPost_ret (results_cell_row rfl a.tmps w g _ cs (0, 0) _ hp hg Tryz.underlying35 rfl (by rw [hn]; kernel_rfl)) hd hR

set_option maxRecDepth 100000 in
set_option maxHeartbeats 8000000 in
theorem refFault_any (v : Value) (l : List Fl) (w : World) (hv : FlAt w v l) (hs : ∀ f ∈ l, f.who.size ≤ maxLen) (hl : l.length ≤ 1000000) :
    Calls Tryz.prog 100 #[v] w fun e w' => e = .returned (fltV (checkL l)) ∧ Below w.heap.size w w' := by
  have HB0 : Hid (Below w.heap.size w (w.alloc (.cells #[.int .i64 0, .int .i64 0] 35))) := (Below.refl _ _).alloc (Nat.le_refl _) _
  have HR0 : Hid ((w.alloc (.cells #[.int .i64 0, .int .i64 0] 35)).heap[w.heap.size]? = some (.cells #[.int .i64 0, .int .i64 0] 35 (0, 0))) := heap_alloc_new _ _
  -- a fault laid down, and given
  have HEnd : Hid (∀ (W : World) (x y : Value), Below w.heap.size w W → W.heap[w.heap.size]? = some (.cells #[.int .i64 0, .int .i64 0] 35 (0, 0)) → ((W.setCell ⟨w.heap.size, 0, none⟩ x).setCell ⟨w.heap.size, 0 + 1, none⟩ y).heap[w.heap.size]? = some (.cells #[x, y] 35 (0, 0)) ∧ Below w.heap.size w ((W.setCell ⟨w.heap.size, 0, none⟩ x).setCell ⟨w.heap.size, 0 + 1, none⟩ y)) := fun W x y hb hr =>
    ⟨set2_row hr _ _, (hb.setCell (p := ⟨w.heap.size, 0, none⟩) (Nat.le_refl _) _).setCell (p := ⟨w.heap.size, 0 + 1, none⟩) (Nat.le_refl _) _⟩
  have HCl : Hid (∀ (W : World), W.heap[w.heap.size]? = some (.cells #[.int .i64 0, .int .i64 0] 35 (0, 0)) → W.cell? ⟨w.heap.size, 0, none⟩ = some (.int .i64 0) ∧ W.cell? ⟨w.heap.size, 1, none⟩ = some (.int .i64 0) ∧ W.frozen? ⟨w.heap.size, 0, none⟩ = false ∧ W.frozen? ⟨w.heap.size, 1, none⟩ = false) := fun W h =>
    ⟨cell_of_row W _ 0 _ _ _ h, cell_of_row W _ 1 _ _ _ h, frozen_of_row W _ 0 _ _ h, frozen_of_row W _ 1 _ _ h⟩
  obtain ⟨ad, cap, rfl, hc⟩ := hv.form
  have HV := hide hv
  have HS := hide hs
  by_cases h21 : 21 < l.length
  · rw [check_full h21]
    have HBa := hide (fun w => bare_any 7 w)
    generalize l.length = n at *
    have hz : (21 : Int) < (n : Int) := by omega
    clear hv hs
    go_enter Tryz.func100, Tryz.ntmps100
    go_wp2_with fail
    refine (HBa.out _).mono ?_
    rintro e w1 ⟨rfl, hb⟩
    have HR1 : Hid (w1.heap[w.heap.size]? = some (.cells #[.int .i64 0, .int .i64 0] 35 (0, 0))) := (hb.block _ (row_lt HR0.out)).trans HR0.out
    have HB1 : Hid (Below w.heap.size w w1) := HB0.out.trans (hb.mono HB0.out.size)
    obtain ⟨c0, c1, z0, z1⟩ := HCl.out w1 HR1.out
    clear hb
    go_wp2
    obtain ⟨e1, e2⟩ := HEnd.out w1 _ _ HB1.out HR1.out
    refine faultEnd w.heap.size _ rfl e1 rfl rfl ?_
    exact ⟨rfl, e2⟩
  · have HG : Hid ((∀ j, j < l.length → badAt l j = 0) → checkL l = (0, -1)) := fun h => check_good h21 h
    have HBd : Hid (∀ k, k < l.length → (∀ j, j < k → badAt l j = 0) → badAt l k ≠ 0 → checkL l = (badAt l k, (k : Int))) := fun k hk h1 h2 => check_bad h21 hk h1 h2
    have HT := hide (fun w h => refTop_any (.slice ad l.length cap) l w h hl)
    have HF := hide (fun w => fine_any w)
    generalize checkL l = res at *
    generalize hn : l.length = n at *
    have HN := hide hn
    have hz : ¬ (21 : Int) < (n : Int) := by omega
    clear hv hs hn
    go_enter Tryz.func100, Tryz.ntmps100
    go_wp2
    go_loopw [3] (fun i wr => ∃ k : Nat, k ≤ n ∧ i = .int .i64 k ∧ Hid (∀ j, j < k → badAt l j = 0) ∧ Hid (Below w.heap.size w wr ∧ wr.heap[w.heap.size]? = some (.cells #[.int .i64 0, .int .i64 0] 35 (0, 0)))) (fun i _ => n - (intOf i).toNat)
    case atStart => exact ⟨0, Nat.zero_le _, rfl, (show Hid _ from fun j hj => absurd hj (Nat.not_lt_zero _)), (show Hid _ from ⟨HB0.out, HR0.out⟩)⟩
    case round =>
      obtain ⟨k, hk, rfl, HP, HW⟩ := hrel
      clear HB0 HR0
      by_cases hlt : k < n
      · have hkl : k < l.length := by rw [HN.out]; exact hlt
        have hvr := HV.out.below HW.out.1
        rw [← HN.out] at hvr
        obtain ⟨b, off, cap', e, hc', hb, hcell⟩ := hvr.at (by omega)
        injection e with e1 e2 e3
        subst e1; subst e3
        obtain ⟨c0, c1⟩ := hcell k hkl
        have hltz : (k : Int) < (n : Int) := by omega
        have HCells : Hid (∀ W, Below wr.heap.size wr W → W.cell? ⟨b, off + k * 2, none⟩ = some (.string (l[k]'hkl).who) ∧ W.cell? ⟨b, off + k * 2 + 1, none⟩ = some (.int .i64 (l[k]'hkl).ep)) := fun W hbW => ⟨by rw [hbW.cell (p := ⟨b, off + k * 2, none⟩) hb]; exact (hcell k hkl).1, by rw [hbW.cell (p := ⟨b, off + k * 2 + 1, none⟩) hb]; exact (hcell k hkl).2⟩
        have HO := hide (refOne_any (l[k]'hkl) wr (HS.out _ (List.getElem_mem hkl)))
        unfold Fl.val at HO
        have HNx : Hid (∀ W, Below wr.heap.size wr W → Below w.heap.size w W ∧ W.heap[w.heap.size]? = some (.cells #[.int .i64 0, .int .i64 0] 35 (0, 0))) := fun W hbW => ⟨HW.out.1.trans (hbW.mono HW.out.1.size), (hbW.block _ (row_lt HW.out.2)).trans HW.out.2⟩
        by_cases h1 : oneE (l[k]'hkl) = 0
        · by_cases hk0 : k = 0
          · obtain ⟨hbad, hsh⟩ := shape_first hkl hk0 h1
            have HBad := hide hbad
            have hq := star_who (l[k]'hkl)
            rw [h1] at HO
            have hk0n : ¬ (0 : Int) < (k : Int) := by omega
            clear hcell hvr h1 hbad hk0
            by_cases hst : (l[k]'hkl).nm = star
            · rw [decide_eq_true hst] at hq
              clear hst hsh
              generalize (l[k]'hkl).who = who at *
              generalize (l[k]'hkl).ep = ep at *
              go_wp2_with fail
              refine HO.out.mono ?_
              rintro e w1 ⟨rfl, hb1⟩
              have HBw := hide hb1
              clear c0 c1
              obtain ⟨c0, c1⟩ := HCells.out w1 hb1
              clear hb1
              go_wp2
              go_quiet (fail)
              go_wp2
              go_roundw
              case rel =>
                refine ⟨k + 1, by omega, by go_num, (show Hid _ from fun j hj => ?_), (show Hid _ from HNx.out _ (below_drewN HBw.out nq))⟩
                by_cases e : j = k
                · rw [e]; exact HBad.out
                · exact HP.out j (by omega)
              case measure => simp [intOf]; omega
            · have hd : decide ((l[k]'hkl).ep ≤ topL l) = false := decide_eq_false (by have := hsh hst; omega)
              rw [decide_eq_false hst] at hq
              clear hst hsh
              generalize (l[k]'hkl).who = who at *
              generalize (l[k]'hkl).ep = ep at *
              go_wp2_with fail
              refine HO.out.mono ?_
              rintro e w1 ⟨rfl, hb1⟩
              have HBw := hide hb1
              clear c0 c1
              obtain ⟨c0, c1⟩ := HCells.out w1 hb1
              clear hb1
              go_wp2
              go_quiet (first | (go_at_call 121; exact Calls.quiet_of_same (HT.out _ ((HV.out.below HW.out.1).below (below_drewN HBw.out _)))))
              go_wp2
              go_roundw
              case rel =>
                refine ⟨k + 1, by omega, by go_num, (show Hid _ from fun j hj => ?_), (show Hid _ from HNx.out _ (below_drewN HBw.out nq))⟩
                by_cases e : j = k
                · rw [e]; exact HBad.out
                · exact HP.out j (by omega)
              case measure => simp [intOf]; omega
          · obtain ⟨m, rfl⟩ : ∃ m, k = m + 1 := ⟨k - 1, by omega⟩
            have hml : m < l.length := by omega
            have HPrev : Hid (∀ W, Below wr.heap.size wr W → W.cell? ⟨b, off + m * 2, none⟩ = some (.string (l[m]'hml).who)) := fun W hbW => by rw [hbW.cell (p := ⟨b, off + m * 2, none⟩) hb]; exact (hcell m hml).1
            have hbn := bad_next hkl h1
            have hrk : (m + 1 : Int) - 1 = (m : Int) := by omega
            have hmz : (m : Int) < (n : Int) := by omega
            have h1p : oneE (l[m]'hml) = 0 := by
              have := bad_zero hml (HP.out m (by omega))
              exact behind_one this
            have hq := star_who (l[m + 1]'hkl)
            rw [h1] at HO
            have hk0z : (0 : Int) < (m : Int) + 1 := by omega
            rcases names_cases (l[m + 1]'hkl).who (l[m]'hml).who with ⟨hlt1, hq1, hq2⟩ | ⟨hlt1, hq1, hq2⟩ | ⟨hlt1, hq1, hq2⟩
            · have hno : ¬ (l[m]'hml).nm < (l[m + 1]'hkl).nm := fun e => List.lt_irrefl _ (List.lt_trans hlt1 e)
              have HRes := hide (HBd.out (m + 1) (by omega) HP.out (by rw [hbn, if_neg hno]; decide))
              rw [hbn, if_neg hno] at HRes
              clear hcell hvr h1 hk0 hbn hlt1 h1p hno
              generalize (l[m]'hml).who = pw at *
              generalize (l[m + 1]'hkl).who = who at *
              generalize (l[m + 1]'hkl).ep = ep at *
              go_wp2_with fail
              refine HO.out.mono ?_
              rintro e w1 ⟨rfl, hb1⟩
              have d0 : w1.cell? ⟨b, off + m * 2, none⟩ = some (.string pw) := HPrev.out w1 hb1
              have HBw := hide hb1
              clear c0 c1
              obtain ⟨c0, c1⟩ := HCells.out w1 hb1
              clear hb1
              go_wp2
              go_quiet (fail)
              obtain ⟨w2, hw2⟩ : ∃ w2, w1.drewN nq = w2 := ⟨_, rfl⟩
              rw [hw2]
              have HBw2 : Hid (Below wr.heap.size wr w2) := by rw [← hw2]; exact below_drewN HBw.out nq
              clear c0 c1 d0 HBw
              obtain ⟨c0, c1⟩ := HCells.out w2 HBw2.out
              clear hw2 nq
              go_wp2
              go_quiet (fail)
              obtain ⟨HB3, HR3⟩ := HNx.out _ (below_drewN HBw2.out nq)
              obtain ⟨x0, x1, z0, z1⟩ := HCl.out _ HR3
              clear HB3 HR3
              go_wp2
              obtain ⟨HB3, HR3⟩ := HNx.out _ (below_drewN HBw2.out nq)
              obtain ⟨e1, e2⟩ := HEnd.out _ _ _ HB3 HR3
              refine faultEnd w.heap.size _ rfl e1 rfl rfl ?_
              exact ⟨by rw [HRes.out]; rfl, e2⟩
            · have hno : ¬ (l[m]'hml).nm < (l[m + 1]'hkl).nm := fun e => by unfold Fl.nm at e; rw [hlt1] at e; exact List.lt_irrefl _ e
              have HRes := hide (HBd.out (m + 1) (by omega) HP.out (by rw [hbn, if_neg hno]; decide))
              rw [hbn, if_neg hno] at HRes
              clear hcell hvr h1 hk0 hbn hlt1 h1p hno
              generalize (l[m]'hml).who = pw at *
              generalize (l[m + 1]'hkl).who = who at *
              generalize (l[m + 1]'hkl).ep = ep at *
              go_wp2_with fail
              refine HO.out.mono ?_
              rintro e w1 ⟨rfl, hb1⟩
              have d0 : w1.cell? ⟨b, off + m * 2, none⟩ = some (.string pw) := HPrev.out w1 hb1
              have HBw := hide hb1
              clear c0 c1
              obtain ⟨c0, c1⟩ := HCells.out w1 hb1
              clear hb1
              go_wp2
              go_quiet (fail)
              obtain ⟨w2, hw2⟩ : ∃ w2, w1.drewN nq = w2 := ⟨_, rfl⟩
              rw [hw2]
              have HBw2 : Hid (Below wr.heap.size wr w2) := by rw [← hw2]; exact below_drewN HBw.out nq
              clear c0 c1 d0 HBw
              obtain ⟨c0, c1⟩ := HCells.out w2 HBw2.out
              clear hw2 nq
              go_wp2
              go_quiet (fail)
              obtain ⟨HB3, HR3⟩ := HNx.out _ (below_drewN HBw2.out nq)
              obtain ⟨x0, x1, z0, z1⟩ := HCl.out _ HR3
              clear HB3 HR3
              go_wp2
              obtain ⟨HB3, HR3⟩ := HNx.out _ (below_drewN HBw2.out nq)
              obtain ⟨e1, e2⟩ := HEnd.out _ _ _ HB3 HR3
              refine faultEnd w.heap.size _ rfl e1 rfl rfl ?_
              exact ⟨by rw [HRes.out]; rfl, e2⟩
            · rw [if_pos (show (l[m]'hml).nm < (l[m + 1]'hkl).nm from hlt1)] at hbn
              have hst : (l[m + 1]'hkl).nm ≠ star := fun e => not_below_star h1p (by rw [← e]; exact hlt1)
              rw [decide_eq_false hst] at hq
              by_cases hsh : (l[m + 1]'hkl).ep ≤ topL l
              · rw [if_pos hsh] at hbn
                have HRes := hide (HBd.out (m + 1) (by omega) HP.out (by rw [hbn]; decide))
                rw [hbn] at HRes
                have hd := decide_eq_true hsh
                clear hcell hvr h1 hk0 hbn hlt1 h1p hst hsh
                generalize (l[m]'hml).who = pw at *
                generalize (l[m + 1]'hkl).who = who at *
                generalize (l[m + 1]'hkl).ep = ep at *
                go_wp2_with fail
                refine HO.out.mono ?_
                rintro e w1 ⟨rfl, hb1⟩
                have d0 : w1.cell? ⟨b, off + m * 2, none⟩ = some (.string pw) := HPrev.out w1 hb1
                have HBw := hide hb1
                clear c0 c1
                obtain ⟨c0, c1⟩ := HCells.out w1 hb1
                clear hb1
                go_wp2
                go_quiet (fail)
                obtain ⟨w2, hw2⟩ : ∃ w2, w1.drewN nq = w2 := ⟨_, rfl⟩
                rw [hw2]
                have HBw2 : Hid (Below wr.heap.size wr w2) := by rw [← hw2]; exact below_drewN HBw.out nq
                clear c0 c1 d0 HBw
                obtain ⟨c0, c1⟩ := HCells.out w2 HBw2.out
                clear hw2 nq
                go_wp2
                go_quiet (first | (go_at_call 121; exact Calls.quiet_of_same (HT.out _ ((HV.out.below HW.out.1).below (below_drewN HBw2.out _)))))
                obtain ⟨HB3, HR3⟩ := HNx.out _ (below_drewN HBw2.out nq)
                obtain ⟨x0, x1, z0, z1⟩ := HCl.out _ HR3
                clear HB3 HR3
                go_wp2
                obtain ⟨HB3, HR3⟩ := HNx.out _ (below_drewN HBw2.out nq)
                obtain ⟨e1, e2⟩ := HEnd.out _ _ _ HB3 HR3
                refine faultEnd w.heap.size _ rfl e1 rfl rfl ?_
                exact ⟨by rw [HRes.out]; rfl, e2⟩
              · rw [if_neg hsh] at hbn
                have HBad := hide hbn
                have hd := decide_eq_false hsh
                clear hcell hvr h1 hk0 hbn hlt1 h1p hst hsh
                generalize (l[m]'hml).who = pw at *
                generalize (l[m + 1]'hkl).who = who at *
                generalize (l[m + 1]'hkl).ep = ep at *
                go_wp2_with fail
                refine HO.out.mono ?_
                rintro e w1 ⟨rfl, hb1⟩
                have d0 : w1.cell? ⟨b, off + m * 2, none⟩ = some (.string pw) := HPrev.out w1 hb1
                have HBw := hide hb1
                clear c0 c1
                obtain ⟨c0, c1⟩ := HCells.out w1 hb1
                clear hb1
                go_wp2
                go_quiet (fail)
                obtain ⟨w2, hw2⟩ : ∃ w2, w1.drewN nq = w2 := ⟨_, rfl⟩
                rw [hw2]
                have HBw2 : Hid (Below wr.heap.size wr w2) := by rw [← hw2]; exact below_drewN HBw.out nq
                clear c0 c1 d0 HBw
                obtain ⟨c0, c1⟩ := HCells.out w2 HBw2.out
                clear hw2 nq
                go_wp2
                go_quiet (first | (go_at_call 121; exact Calls.quiet_of_same (HT.out _ ((HV.out.below HW.out.1).below (below_drewN HBw2.out _)))))
                go_wp2
                go_roundw
                case rel =>
                  refine ⟨m + 1 + 1, by omega, by go_num, (show Hid _ from fun j hj => ?_), (show Hid _ from HNx.out _ (below_drewN HBw2.out nq))⟩
                  by_cases e : j = m + 1
                  · rw [e]; exact HBad.out
                  · exact HP.out j (by omega)
                case measure => simp [intOf]; omega
        · -- it is no floor
          have HRes := hide (HBd.out k (by omega) HP.out (by rw [bad_one hkl h1]; exact h1))
          rw [bad_one hkl h1] at HRes
          have hq : ((oneE (l[k]'hkl) : Int) == 0) = false := by rw [beq_eq_false_iff_ne]; omega
          have hq2 : (0 : Int) < (oneE (l[k]'hkl) : Int) := by omega
          clear h1 hcell hvr
          generalize oneE (l[k]'hkl) = c at *
          generalize (l[k]'hkl).who = who at *
          generalize (l[k]'hkl).ep = ep at *
          go_wp2_with fail
          refine HO.out.mono ?_
          rintro e w1 ⟨rfl, hb1⟩
          obtain ⟨HB1, HR1⟩ := HNx.out w1 hb1
          replace HB1 := hide HB1
          replace HR1 := hide HR1
          clear hb1 c0 c1 HCells
          go_wp2
          go_quiet (fail)
          obtain ⟨d0, d1, z0, z1⟩ := HCl.out (w1.drewN nq) HR1.out
          go_wp2
          obtain ⟨e1, e2⟩ := HEnd.out (w1.drewN nq) _ _ (below_drewN HB1.out nq) HR1.out
          refine faultEnd w.heap.size _ rfl e1 rfl rfl ?_
          exact ⟨by rw [HRes.out], e2⟩
      · have hkn : k = n := by omega
        subst hkn
        have hltz : ¬ (k : Int) < (k : Int) := by omega
        have HRes := hide (HG.out HP.out)
        go_wp2_with fail
        refine (HF.out _).mono ?_
        rintro e w1 ⟨rfl, hb⟩
        have HB1 : Hid (Below w.heap.size w w1) := HW.out.1.trans (hb.mono HW.out.1.size)
        have HR1 : Hid (w1.heap[w.heap.size]? = some (.cells #[.int .i64 0, .int .i64 0] 35 (0, 0))) := (hb.block _ (row_lt HW.out.2)).trans HW.out.2
        obtain ⟨c0, c1, z0, z1⟩ := HCl.out w1 HR1.out
        clear hb
        go_wp2
        obtain ⟨e1, e2⟩ := HEnd.out w1 _ _ HB1.out HR1.out
        refine faultEnd w.heap.size _ rfl e1 rfl rfl ?_
        exact ⟨by rw [HRes.out]; rfl, e2⟩
end Go.Proofs.YtgagekcjdapkfadGreatDoor

namespace Go.Proofs.YtgagekcjdapkfadGreatDoor
open Go Go.RowKit Go.Extern.Stop Go.Stop Go.Extern Go.Proofs

theorem res_tmp_cell {P : Program} {fn : Func} {p u : Tmp} {ty : TypeId} (h : fn.results = #[.tmp u, .cell p ty]) (tmps : Array Value) (w : World) (g : Nat) (t : TypeId) (cs : Array Value) (fr : Nat × Nat) (d : TypeDesc)
    (hp : tmps.getD p undef = .pointer (some ⟨g, 0, none⟩)) (hg : w.heap[g]? = some (.cells cs t fr))
    (hu : P.underlying ty = some d) (hd : (match d with | .struct _ | .array _ _ => true | _ => false) = true) (hi : (P.info? ty).map (·.size) = some cs.size) :
    (results fn tmps).run P w = .ok (.tuple #[tmps.getD u undef, .agg cs]) w := by
  have hp2 : tmps[p]?.getD undef = .pointer (some ⟨g, 0, none⟩) := by simpa using hp
  simp only [results, h]
  simp [Result.andThen, hp2, asAddr, run_loadVar_row w g t ty cs fr d hg hu hd hi]
theorem raiseEnd {a : Act} {w : World} {R : Ending → World → Prop} (g : Nat) (cs : Array Value) (hp : a.tmps.getD 5 undef = .pointer (some ⟨g, 0, none⟩)) (hg : w.heap[g]? = some (.cells cs 35 (0, 0))) (hn : cs.size = 2) (hd : a.defers = [])
    (hR : R (.returned (.tuple #[a.tmps.getD 4 undef, .agg cs])) w) : bodyPost Tryz.prog Tryz.f99 R .ret a w :=
  bodyPost_ret (res_tmp_cell rfl a.tmps w g _ cs (0, 0) _ hp hg Tryz.underlying35 rfl (by rw [hn]; kernel_rfl)) hd hR

/-- A list somewhere, and a fault. -/
def FltPost (c : Nat × Int) (r : List Fl) (w w' : World) (e : Ending) : Prop := (∃ v', e = .returned (.tuple #[v', fltV c]) ∧ FlAt w' v' r) ∧ Below w.heap.size w w'

theorem own_snoc {w : World} {B : Nat} {v : Value} {o : List Fl} {f : Fl} (h : w.ownsRow B 98 2 v (o.length + 1) (cellsF o ++ f.cells)) : OwnF w B v (o ++ [f]) := by
  have e1 : (o ++ [f]).length = o.length + 1 := by simp
  have e2 : cellsF (o ++ [f]) = cellsF o ++ f.cells := by rw [cellsF_append]; simp [cellsF]
  unfold OwnF
  rw [e1, e2]
  exact h
theorem OwnF.form {w : World} {B : Nat} {v : Value} {l : List Fl} (h : OwnF w B v l) : ∃ ad cap, v = .slice ad l.length cap ∧ l.length ≤ cap := h.flAt.form

abbrev flt0 : Obj := .cells #[.int .i64 0, .int .i64 0] 35 (0, 0)

attribute [local go_sem] Oper.semAt_some

set_option maxRecDepth 100000 in
set_option maxHeartbeats 8000000 in
theorem refRaise_any (v : Value) (l : List Fl) (f : Fl) (w : World) (hv : FlAt w v l) (hs : ∀ g ∈ l, g.who.size ≤ maxLen) (hfs : f.who.size ≤ maxLen) (hl : l.length ≤ 100000) :
    Calls Tryz.prog 99 #[v, f.val] w fun e w' => FltPost (raiseC l f) (raiseR l f) w w' e := by
  have HFF := hide (fun w h => refFault_any v l w h hs (by omega))
  have HOne := hide (fun w => refOne_any f w hfs)
  have HBare := hide (fun c w => bare_any c w)
  have HFine := hide (fun w => fine_any w)
  have HOf : Hid ((checkL l).1 = 0 → ∀ w (h : FlAt w v l), Calls Tryz.prog 80 #[v, .string f.who] w fun e w' => e = .returned (.int .i64 (ofL l f.nm)) ∧ w' = w) := fun h0 w h => refFloorOf_any v l f.who w h (right_of_check h0).1 (by omega)
  have HW0 : Hid (Below w.heap.size w ((w.alloc (.cells #[.string f.who, .int .i64 f.ep] 98)).alloc flt0) ∧ ((w.alloc (.cells #[.string f.who, .int .i64 f.ep] 98)).alloc flt0).heap[w.heap.size]? = some (.cells #[.string f.who, .int .i64 f.ep] 98 (0, 0)) ∧ ((w.alloc (.cells #[.string f.who, .int .i64 f.ep] 98)).alloc flt0).heap[w.heap.size + 1]? = some flt0) := by
    refine ⟨((Below.refl _ _).alloc (Nat.le_refl _) _).alloc (by simp) _, ?_, ?_⟩
    · rw [Below.heap_alloc _ _ _ (by simp)]
      exact heap_alloc_new _ _
    · have := heap_alloc_new (w.alloc (.cells #[.string f.who, .int .i64 f.ep] 98)) flt0
      rwa [World.size_alloc] at this
  have HR : Hid (raiseC l f = if (checkL l).1 = 0 then (if oneE f = 0 then checkL (raisedL l f) else (oneE f, -1)) else checkL l) := rfl
  have HRR : Hid (raiseR l f = if (raiseC l f).1 = 0 then raisedL l f else []) := rfl
  have HV := hide hv
  unfold Fl.val at HOne ⊢
  clear hv hs
  by_cases h1 : (checkL l).1 = 0
  · obtain ⟨hright, h21⟩ := right_of_check h1
    have hck : checkL l = (0, -1) := by rw [check_right hright, if_neg (by omega)]
    have HOf2 := hide (HOf.out h1)
    rw [if_pos h1] at HR
    rw [hck] at HFF
    have HRi := hide hright
    clear HOf h1 hck
    generalize hone : oneE f = c1 at *
    by_cases h2 : c1 = 0
    · rw [if_pos h2] at HR
      subst h2
      have HO1 := hide hone
      clear hone
      generalize hww : f.who = who at *
      generalize hee : f.ep = ep at *
      have HWw := hide hww
      have HEe := hide hee
      clear hww hee
      go_enter Tryz.func99, Tryz.ntmps99
      go_wp2_with fail
      refine (HFF.out _ (HV.out.below HW0.out.1)).mono ?_
      rintro e w1 ⟨rfl, hb⟩
      have HB1 : Hid (Below w.heap.size w w1) := HW0.out.1.trans (hb.mono HW0.out.1.size)
      have HF1 : Hid (w1.heap[w.heap.size]? = some (.cells #[.string who, .int .i64 ep] 98 (0, 0))) := (hb.block _ (row_lt HW0.out.2.1)).trans HW0.out.2.1
      have HR1 : Hid (w1.heap[w.heap.size + 1]? = some flt0) := (hb.block _ (row_lt HW0.out.2.2)).trans HW0.out.2.2
      have c0 : w1.cell? ⟨w.heap.size, 0, none⟩ = some (.string who) := cell_of_row w1 _ 0 _ _ _ HF1.out
      have c1' : w1.cell? ⟨w.heap.size, 1, none⟩ = some (.int .i64 ep) := cell_of_row w1 _ 1 _ _ _ HF1.out
      have HLt : Hid (w.heap.size < w1.heap.size) := row_lt HF1.out
      have hlt := HLt.out
      clear hb HFF HW0
      go_wp2_with fail
      refine (HOne.out _).mono ?_
      rintro e w3 ⟨rfl, hb3⟩
      have HB3 := hide hb3
      clear hb3 HOne
      go_wp2_with fail
      refine (HBare.out _ _).mono ?_
      rintro e w4 ⟨rfl, hb4⟩
      have HB4 : Hid (Below (w1.heap.size + 1) (w1.alloc (.cells #[.int .i64 0, .int .i64 (-1)] 35)) w4) := by
        have h3 := HB3.out
        rw [World.size_alloc] at h3
        exact h3.trans (hb4.mono (by have := h3.size; rw [World.size_alloc] at this; exact this))
      have HG4 : Hid (w4.heap[w1.heap.size]? = some (.cells #[.int .i64 0, .int .i64 (-1)] 35 (0, 0))) := (HB4.out.block _ (by omega)).trans (heap_alloc_new _ _)
      have HO4 : Hid (∀ k, k < w1.heap.size → w4.heap[k]? = w1.heap[k]?) := fun k hk => (HB4.out.block k (by omega)).trans (Below.heap_alloc _ _ _ hk)
      clear hb4 HB3 c0 c1' hlt
      have g0 : w4.cell? ⟨w1.heap.size, 0, none⟩ = some (.int .i64 0) := cell_of_row w4 _ 0 _ _ _ HG4.out
      have g1 : w4.cell? ⟨w1.heap.size, 1, none⟩ = some (.int .i64 (-1)) := cell_of_row w4 _ 1 _ _ _ HG4.out
      have gz0 : w4.frozen? ⟨w1.heap.size, 0, none⟩ = false := frozen_of_row w4 _ 0 _ _ HG4.out
      have gz1 : w4.frozen? ⟨w1.heap.size, 1, none⟩ = false := frozen_of_row w4 _ 1 _ _ HG4.out
      go_wp2
      obtain ⟨X, hX⟩ : ∃ X, (w4.setCell ⟨w1.heap.size, 0, none⟩ (.int .i64 0)).setCell ⟨w1.heap.size, 0 + 1, none⟩ (.int .i64 (-1)) = X := ⟨_, rfl⟩
      have HG : Hid (X.heap[w1.heap.size]? = some (.cells #[.int .i64 0, .int .i64 (-1)] 35 (0, 0))) := by rw [← hX]; exact set2_row HG4.out _ _
      have HOX : Hid (∀ k, k < w1.heap.size → X.heap[k]? = w1.heap[k]?) := fun k hk => by
        rw [← hX, heap_setCell_other _ ⟨w1.heap.size, 0 + 1, none⟩ k _ (by show k ≠ w1.heap.size; omega), heap_setCell_other _ ⟨w1.heap.size, 0, none⟩ k _ (by show k ≠ w1.heap.size; omega)]
        exact HO4.out k hk
      have HBX : Hid (Below w.heap.size w X) := by
        rw [← hX]
        have hs := HB1.out.size
        have hb5 : Below w.heap.size w w4 := (HB1.out.alloc hs (.cells #[.int .i64 0, .int .i64 (-1)] 35)).trans (HB4.out.mono (by omega))
        exact (hb5.setCell (p := ⟨w1.heap.size, 0, none⟩) hs _).setCell (p := ⟨w1.heap.size, 0 + 1, none⟩) hs _
      have HRX : Hid (X.heap[w.heap.size + 1]? = some flt0) := (HOX.out _ (row_lt HR1.out)).trans HR1.out
      rw [hX]
      have b0 : X.cell? ⟨w.heap.size, 0, none⟩ = some (.string who) := cell_of_row X _ 0 _ _ _ ((HOX.out _ HLt.out).trans HF1.out)
      have b1 : X.cell? ⟨w.heap.size, 1, none⟩ = some (.int .i64 ep) := cell_of_row X _ 1 _ _ _ ((HOX.out _ HLt.out).trans HF1.out)
      have HVX := hide (HV.out.below HBX.out)
      clear hX g0 g1 gz0 gz1 HG4 HO4 HB4
      by_cases h3 : ep ≤ ofL l f.nm
      · have hd := decide_eq_true h3
        have HRl : Hid (raisedL l f = l) := by show _ = _; unfold raisedL; rw [HEe.out, if_pos h3]
        have HFi : Hid (FltPost (raiseC l f) (raiseR l f) = FltPost (0, -1) l) := by
          show _ = _
          rw [HR.out] at HRR ⊢
          rw [HRR.out, HRl.out, check_right HRi.out, if_neg (by omega)]
          rfl
        generalize ofL l f.nm = ol at *
        go_quiet (first | (go_at_call 80; exact Calls.quiet_of_same (HOf2.out _ (HVX.out.below (below_drewN (Below.refl _ _) _)))))
        go_wp2_with fail
        refine (HFine.out _).mono ?_
        rintro e w5 ⟨rfl, hb5⟩
        have HB5 : Hid (Below w.heap.size w w5) := (below_drewN HBX.out nq).trans (hb5.mono (below_drewN HBX.out nq).size)
        have HR5 : Hid (w5.heap[w.heap.size + 1]? = some flt0) := (hb5.block _ (row_lt HRX.out)).trans HRX.out
        have r0 : w5.cell? ⟨w.heap.size + 1, 0, none⟩ = some (.int .i64 0) := cell_of_row w5 _ 0 _ _ _ HR5.out
        have r1 : w5.cell? ⟨w.heap.size + 1, 1, none⟩ = some (.int .i64 0) := cell_of_row w5 _ 1 _ _ _ HR5.out
        have z0 : w5.frozen? ⟨w.heap.size + 1, 0, none⟩ = false := frozen_of_row w5 _ 0 _ _ HR5.out
        have z1 : w5.frozen? ⟨w.heap.size + 1, 1, none⟩ = false := frozen_of_row w5 _ 1 _ _ HR5.out
        clear hb5
        go_wp2
        refine raiseEnd (w.heap.size + 1) _ rfl (set2_row HR5.out _ _) rfl rfl ?_
        rw [HFi.out]
        have hbe : Below w.heap.size w ((w5.setCell ⟨w.heap.size + 1, 0, none⟩ (.int .i64 0)).setCell ⟨w.heap.size + 1, 0 + 1, none⟩ (.int .i64 (-1))) := (HB5.out.setCell (p := ⟨w.heap.size + 1, 0, none⟩) (Nat.le_succ _) _).setCell (p := ⟨w.heap.size + 1, 0 + 1, none⟩) (Nat.le_succ _) _
        exact ⟨⟨_, rfl, HV.out.below hbe⟩, hbe⟩
      · have hd := decide_eq_false h3
        have HRl : Hid (raisedL l f = putEnd f (l.foldl (putStep f) ([], false))) := by show _ = _; rw [put_end f HRi.out.rising]; unfold raisedL; rw [HEe.out, if_neg h3]
        have HRt : Hid (RightF (raisedL l f)) := right_raised HRi.out HO1.out
        obtain ⟨i0, hi, hi0, hi1, hi2⟩ := info_parts Tryz.infoFloor
        obtain ⟨ad, cap, rfl, hc⟩ := HV.out.form
        generalize hn : l.length = n at *
        have HN := hide hn
        have HLn : Hid (∀ k, ((l.take k).foldl (putStep f) ([], false)).1.length ≤ 200000) := fun k => by
          have := put_len f (l.take k) ([], false)
          rw [List.length_take, HN.out] at this
          simp only [List.length_nil] at this
          omega
        clear hn
        generalize hol : ofL l f.nm = ol at *
        clear hol
        go_quiet (first | (go_at_call 80; exact Calls.quiet_of_same (HOf2.out _ (HVX.out.below (below_drewN (Below.refl _ _) _)))))
        go_wp2_with fail
        obtain ⟨Y, hY⟩ : ∃ Y, X.drewN nq = Y := ⟨_, rfl⟩
        rw [hY]
        have HBY : Hid (Below w.heap.size w Y) := by rw [← hY]; exact below_drewN HBX.out nq
        have HRY : Hid (Y.heap[w.heap.size + 1]? = some flt0) := by rw [← hY]; exact HRX.out
        have HFY : Hid (Y.heap[w.heap.size]? = some (.cells #[.string who, .int .i64 ep] 98 (0, 0))) := by rw [← hY]; exact (HOX.out _ HLt.out).trans HF1.out
        clear hY b0 b1 HVX HOX HG HRX HBX HOf2 hd h3 HLt HF1 HR1 HB1
        go_loopw [7, 8, 9] (fun OV pv iv wr => ∃ (k : Nat) (o : List Fl) (b : Bool), k ≤ n ∧ iv = .int .i64 k ∧ pv = .bool b ∧ Hid (OwnF wr Y.heap.size OV o) ∧ Hid ((l.take k).foldl (putStep f) ([], false) = (o, b)) ∧ Hid (Below Y.heap.size Y wr)) (fun _ _ iv _ => n - (intOf iv).toNat)
        case atStart => exact ⟨0, [], false, Nat.zero_le _, rfl, rfl, (show Hid _ from OwnF.nil _ _), (show Hid _ from rfl), (show Hid _ from Below.refl _ _)⟩
        case round =>
          obtain ⟨k, o, b, hk, rfl, rfl, HOwn, HFo, HBr⟩ := hrel
          by_cases hlt : k < n
          · have hkl : k < l.length := by rw [HN.out]; exact hlt
            have hvr := (HV.out.below HBY.out).below HBr.out
            rw [← HN.out] at hvr
            obtain ⟨bb, off, cap', e, hc', hb, hcell⟩ := hvr.at (by omega)
            injection e with e1 e2 e3
            subst e1; subst e3
            have hltz : (k : Int) < (n : Int) := by omega
            have HCk : Hid (∀ W, Below Y.heap.size Y W → W.cell? ⟨bb, off + k * 2, none⟩ = some (.string (l[k]'hkl).who) ∧ W.cell? ⟨bb, off + k * 2 + 1, none⟩ = some (.int .i64 (l[k]'hkl).ep) ∧ W.cell? ⟨w.heap.size, 0, none⟩ = some (.string who) ∧ W.cell? ⟨w.heap.size, 1, none⟩ = some (.int .i64 ep)) := fun W hbW => by
              have hvY := (HV.out.below HBY.out).below hbW
              rw [← HN.out] at hvY
              obtain ⟨bb', off', cap'', e, _, _, hcell'⟩ := hvY.at (by omega)
              injection e with e1 e2 e3
              injection e1 with e1
              injection e1 with e1 e4
              subst e1; subst e4
              obtain ⟨q0, q1⟩ := hcell' k hkl
              have hrow := (hbW.block _ (row_lt HFY.out)).trans HFY.out
              exact ⟨q0, q1, cell_of_row W _ 0 _ _ _ hrow, cell_of_row W _ 1 _ _ _ hrow⟩
            have HSt : Hid ((l.take (k + 1)).foldl (putStep f) ([], false) = putStep f (o, b) (l[k]'hkl)) := by
              show _ = _
              rw [List.take_succ_eq_append_getElem hkl, List.foldl_append, HFo.out]
              rfl
            have HLo : Hid (o.length ≤ 200000) := by have := HLn.out k; rw [HFo.out] at this; exact this
            have hst := star_who f
            rw [HWw.out] at hst
            have hfw : f.nm = who.data.toList := by unfold Fl.nm; rw [HWw.out]
            have HGo : Hid (goesF f (l[k]'hkl) = (decide ((l[k]'hkl).who.data.toList = who.data.toList) || (decide (f.nm = star) && decide ((l[k]'hkl).ep ≤ ep)))) := by show _ = _; unfold goesF; rw [hfw, HEe.out]; rfl
            have HSp : Hid (putStep f (o, b) (l[k]'hkl) = ((if who.data.toList < (l[k]'hkl).who.data.toList ∧ b = false then o ++ [f] else o) ++ (if goesF f (l[k]'hkl) = true then [] else [l[k]'hkl]), b || decide (who.data.toList < (l[k]'hkl).who.data.toList))) := by show _ = _; unfold putStep; rw [hfw]; rfl
            have HFe : Hid (f = ⟨who, ep⟩) := by show _ = _; rw [← HWw.out, ← HEe.out]
            have HXe : Hid ((l[k]'hkl) = ⟨(l[k]'hkl).who, (l[k]'hkl).ep⟩) := rfl
            have hst1 : Hid (f.nm = star → ¬ (l[k]'hkl).who.data.toList < who.data.toList) := fun e => by
              rw [← hfw, e]
              exact not_below_star (HRi.out.one _ (List.getElem_mem hkl))
            obtain ⟨c0, c1, b0, b1⟩ := HCk.out _ HBr.out
            have hl1 := less_names who (l[k]'hkl).who
            have hl2 := less_names (l[k]'hkl).who who
            have he1 := same_names (l[k]'hkl).who who
            clear hcell hvr hb hc' HFo
            generalize hgo : goesF f (l[k]'hkl) = go at *
            generalize putStep f (o, b) (l[k]'hkl) = sp at *
            generalize (l[k]'hkl) = x at *
            generalize x.who = xw at *
            generalize x.ep = xe at *
            clear hgo
            rcases names_cases who xw with ⟨hn1, hq1, hq2⟩ | ⟨hn1, hq1, hq2⟩ | ⟨hn1, hq1, hq2⟩
            · rw [decide_eq_true hn1] at hl1
              rw [decide_eq_false (fun e => List.lt_irrefl _ (List.lt_trans hn1 e))] at hl2
              have hne : xw.data.toList ≠ who.data.toList := fun e => by rw [e] at hn1; exact List.lt_irrefl _ hn1
              rw [decide_eq_false hne] at he1 HGo
              clear hne
              cases b with
              | false =>
                by_cases hs1 : f.nm = star
                · rw [decide_eq_true hs1] at hst HGo
                  by_cases hs2 : xe ≤ ep
                  · have hd := decide_eq_true hs2
                    rw [hd] at HGo
                    clear hs1 hs2 hst1
                    have HSv : Hid (sp = (o ++ [f], true)) := by
                      show _ = _
                      rw [HSp.out, if_pos ⟨hn1, rfl⟩, HGo.out]
                      simp [hn1]
                    clear HSp HGo hn1
                    rw [HFe.out] at HSv
                    go_wp2
                    go_quiet (fail)
                    obtain ⟨Wq, hW⟩ : ∃ W, wr.drewN nq = W := ⟨_, rfl⟩
                    rw [hW]
                    have HBq : Hid (Below Y.heap.size Y Wq) := by rw [← hW]; exact below_drewN HBr.out nq
                    have HOq := hide (HOwn.out.keep (w' := Wq) (fun _ _ => by rw [← hW]; rfl))
                    clear hW nq HBr HOwn c0 c1 b0 b1
                    obtain ⟨c0, c1, b0, b1⟩ := HCk.out _ HBq.out
                    go_wp2_with (first
                      | (at_builtin; refine wpList_append_own _ rfl _ _ 80 rfl Y.heap.size 98 i0 _ 2 24 Tryz.underlying80 hi hi0 hi1 hi2 rfl (by decide) _ _ _ rfl (HOq.out.alloc _) ⟨Wq.heap.size, 0, none⟩ 1 1 (Fl.cells ⟨who, ep⟩) rfl rfl (fun j u hj => cells_src (heap_alloc_new _ _) j u hj) (cells_oneF ⟨who, ep⟩) (by have := HLo.out; unfold maxLen; omega) (by have := HLo.out; omega) (by have := HBq.out.size; simp; omega) ?_; intro v5 W5 hown' hg5 hnil5))
                    have HB5 : Hid (Below Y.heap.size Y W5) := (HBq.out.alloc HBq.out.size _).grown hg5 (by have := HBq.out.size; simp; omega) (fun g hg => (HOq.out.lt g hg).1)
                    have HO5 := hide (own_snoc hown')
                    clear hown' hg5 hnil5 HOq HBq
                    clear c0 c1 b0 b1
                    obtain ⟨c0, c1, b0, b1⟩ := HCk.out _ HB5.out
                    have HLt : Hid ((o ++ [Fl.mk who ep]).length ≤ 200001) := by have := HLo.out; show _ ≤ _; simp; omega
                    go_wp2
                    go_quiet (fail)
                    obtain ⟨Wt, hW⟩ : ∃ W, W5.drewN nq = W := ⟨_, rfl⟩
                    rw [hW]
                    have HBt : Hid (Below Y.heap.size Y Wt) := by rw [← hW]; exact below_drewN HB5.out nq
                    have HOt := hide (HO5.out.keep (w' := Wt) (fun _ _ => by rw [← hW]; rfl))
                    clear hW nq HB5 HO5 c0 c1 b0 b1
                    obtain ⟨c0, c1, b0, b1⟩ := HCk.out _ HBt.out
                    go_wp2
                    go_roundw
                    case rel => exact ⟨k + 1, _, _, by omega, by go_num, rfl, HOt, (show Hid _ from by show _ = _; rw [HSt.out]; exact HSv.out), HBt⟩
                    case measure => simp [intOf]; omega
                  · have hd := decide_eq_false hs2
                    rw [hd] at HGo
                    clear hs1 hs2 hst1
                    have HSv : Hid (sp = (o ++ [f] ++ [x], true)) := by
                      show _ = _
                      rw [HSp.out, if_pos ⟨hn1, rfl⟩, HGo.out]
                      simp [hn1]
                    clear HSp HGo hn1
                    rw [HFe.out, HXe.out] at HSv
                    go_wp2
                    go_quiet (fail)
                    obtain ⟨Wq, hW⟩ : ∃ W, wr.drewN nq = W := ⟨_, rfl⟩
                    rw [hW]
                    have HBq : Hid (Below Y.heap.size Y Wq) := by rw [← hW]; exact below_drewN HBr.out nq
                    have HOq := hide (HOwn.out.keep (w' := Wq) (fun _ _ => by rw [← hW]; rfl))
                    clear hW nq HBr HOwn c0 c1 b0 b1
                    obtain ⟨c0, c1, b0, b1⟩ := HCk.out _ HBq.out
                    go_wp2_with (first
                      | (at_builtin; refine wpList_append_own _ rfl _ _ 80 rfl Y.heap.size 98 i0 _ 2 24 Tryz.underlying80 hi hi0 hi1 hi2 rfl (by decide) _ _ _ rfl (HOq.out.alloc _) ⟨Wq.heap.size, 0, none⟩ 1 1 (Fl.cells ⟨who, ep⟩) rfl rfl (fun j u hj => cells_src (heap_alloc_new _ _) j u hj) (cells_oneF ⟨who, ep⟩) (by have := HLo.out; unfold maxLen; omega) (by have := HLo.out; omega) (by have := HBq.out.size; simp; omega) ?_; intro v5 W5 hown' hg5 hnil5))
                    have HB5 : Hid (Below Y.heap.size Y W5) := (HBq.out.alloc HBq.out.size _).grown hg5 (by have := HBq.out.size; simp; omega) (fun g hg => (HOq.out.lt g hg).1)
                    have HO5 := hide (own_snoc hown')
                    clear hown' hg5 hnil5 HOq HBq
                    clear c0 c1 b0 b1
                    obtain ⟨c0, c1, b0, b1⟩ := HCk.out _ HB5.out
                    have HLt : Hid ((o ++ [Fl.mk who ep]).length ≤ 200001) := by have := HLo.out; show _ ≤ _; simp; omega
                    go_wp2
                    go_quiet (fail)
                    obtain ⟨Wt, hW⟩ : ∃ W, W5.drewN nq = W := ⟨_, rfl⟩
                    rw [hW]
                    have HBt : Hid (Below Y.heap.size Y Wt) := by rw [← hW]; exact below_drewN HB5.out nq
                    have HOt := hide (HO5.out.keep (w' := Wt) (fun _ _ => by rw [← hW]; rfl))
                    clear hW nq HB5 HO5 c0 c1 b0 b1
                    obtain ⟨c0, c1, b0, b1⟩ := HCk.out _ HBt.out
                    go_wp2_with (first
                      | (at_builtin; refine wpList_append_own _ rfl _ _ 80 rfl Y.heap.size 98 i0 _ 2 24 Tryz.underlying80 hi hi0 hi1 hi2 rfl (by decide) _ _ _ rfl (HOt.out.alloc _) ⟨Wt.heap.size, 0, none⟩ 1 1 (Fl.cells ⟨xw, xe⟩) rfl rfl (fun j u hj => cells_src (heap_alloc_new _ _) j u hj) (cells_oneF ⟨xw, xe⟩) (by have := HLt.out; unfold maxLen; omega) (by have := HLt.out; omega) (by have := HBt.out.size; simp; omega) ?_; intro v9 W9 hown' hg5 hnil5))
                    have HB9 : Hid (Below Y.heap.size Y W9) := (HBt.out.alloc HBt.out.size _).grown hg5 (by have := HBt.out.size; simp; omega) (fun g hg => (HOt.out.lt g hg).1)
                    have HO9 := hide (own_snoc hown')
                    clear hown' hg5 hnil5 HOt HBt
                    clear c0 c1 b0 b1
                    go_wp2
                    go_roundw
                    case rel => exact ⟨k + 1, _, _, by omega, by go_num, rfl, HO9, (show Hid _ from by show _ = _; rw [HSt.out]; exact HSv.out), HB9⟩
                    case measure => simp [intOf]; omega
                · rw [decide_eq_false hs1] at hst HGo
                  clear hs1 hst1
                  have HSv : Hid (sp = (o ++ [f] ++ [x], true)) := by
                    show _ = _
                    rw [HSp.out, if_pos ⟨hn1, rfl⟩, HGo.out]
                    simp [hn1]
                  clear HSp HGo hn1
                  rw [HFe.out, HXe.out] at HSv
                  go_wp2
                  go_quiet (fail)
                  obtain ⟨Wq, hW⟩ : ∃ W, wr.drewN nq = W := ⟨_, rfl⟩
                  rw [hW]
                  have HBq : Hid (Below Y.heap.size Y Wq) := by rw [← hW]; exact below_drewN HBr.out nq
                  have HOq := hide (HOwn.out.keep (w' := Wq) (fun _ _ => by rw [← hW]; rfl))
                  clear hW nq HBr HOwn c0 c1 b0 b1
                  obtain ⟨c0, c1, b0, b1⟩ := HCk.out _ HBq.out
                  go_wp2_with (first
                    | (at_builtin; refine wpList_append_own _ rfl _ _ 80 rfl Y.heap.size 98 i0 _ 2 24 Tryz.underlying80 hi hi0 hi1 hi2 rfl (by decide) _ _ _ rfl (HOq.out.alloc _) ⟨Wq.heap.size, 0, none⟩ 1 1 (Fl.cells ⟨who, ep⟩) rfl rfl (fun j u hj => cells_src (heap_alloc_new _ _) j u hj) (cells_oneF ⟨who, ep⟩) (by have := HLo.out; unfold maxLen; omega) (by have := HLo.out; omega) (by have := HBq.out.size; simp; omega) ?_; intro v5 W5 hown' hg5 hnil5))
                  have HB5 : Hid (Below Y.heap.size Y W5) := (HBq.out.alloc HBq.out.size _).grown hg5 (by have := HBq.out.size; simp; omega) (fun g hg => (HOq.out.lt g hg).1)
                  have HO5 := hide (own_snoc hown')
                  clear hown' hg5 hnil5 HOq HBq
                  clear c0 c1 b0 b1
                  obtain ⟨c0, c1, b0, b1⟩ := HCk.out _ HB5.out
                  have HLt : Hid ((o ++ [Fl.mk who ep]).length ≤ 200001) := by have := HLo.out; show _ ≤ _; simp; omega
                  go_wp2
                  go_quiet (fail)
                  obtain ⟨Wt, hW⟩ : ∃ W, W5.drewN nq = W := ⟨_, rfl⟩
                  rw [hW]
                  have HBt : Hid (Below Y.heap.size Y Wt) := by rw [← hW]; exact below_drewN HB5.out nq
                  have HOt := hide (HO5.out.keep (w' := Wt) (fun _ _ => by rw [← hW]; rfl))
                  clear hW nq HB5 HO5 c0 c1 b0 b1
                  obtain ⟨c0, c1, b0, b1⟩ := HCk.out _ HBt.out
                  go_wp2_with (first
                    | (at_builtin; refine wpList_append_own _ rfl _ _ 80 rfl Y.heap.size 98 i0 _ 2 24 Tryz.underlying80 hi hi0 hi1 hi2 rfl (by decide) _ _ _ rfl (HOt.out.alloc _) ⟨Wt.heap.size, 0, none⟩ 1 1 (Fl.cells ⟨xw, xe⟩) rfl rfl (fun j u hj => cells_src (heap_alloc_new _ _) j u hj) (cells_oneF ⟨xw, xe⟩) (by have := HLt.out; unfold maxLen; omega) (by have := HLt.out; omega) (by have := HBt.out.size; simp; omega) ?_; intro v9 W9 hown' hg5 hnil5))
                  have HB9 : Hid (Below Y.heap.size Y W9) := (HBt.out.alloc HBt.out.size _).grown hg5 (by have := HBt.out.size; simp; omega) (fun g hg => (HOt.out.lt g hg).1)
                  have HO9 := hide (own_snoc hown')
                  clear hown' hg5 hnil5 HOt HBt
                  clear c0 c1 b0 b1
                  go_wp2
                  go_roundw
                  case rel => exact ⟨k + 1, _, _, by omega, by go_num, rfl, HO9, (show Hid _ from by show _ = _; rw [HSt.out]; exact HSv.out), HB9⟩
                  case measure => simp [intOf]; omega
              | true =>
                by_cases hs1 : f.nm = star
                · rw [decide_eq_true hs1] at hst HGo
                  by_cases hs2 : xe ≤ ep
                  · have hd := decide_eq_true hs2
                    rw [hd] at HGo
                    clear hs1 hs2 hst1
                    have HSv : Hid (sp = (o, true)) := by
                      show _ = _
                      rw [HSp.out, if_neg (fun e => by cases e.2), HGo.out]
                      simp [hn1]
                    clear HSp HGo hn1
                    go_wp2
                    go_quiet (fail)
                    obtain ⟨Wq, hW⟩ : ∃ W, wr.drewN nq = W := ⟨_, rfl⟩
                    rw [hW]
                    have HBq : Hid (Below Y.heap.size Y Wq) := by rw [← hW]; exact below_drewN HBr.out nq
                    have HOq := hide (HOwn.out.keep (w' := Wq) (fun _ _ => by rw [← hW]; rfl))
                    clear hW nq HBr HOwn c0 c1 b0 b1
                    obtain ⟨c0, c1, b0, b1⟩ := HCk.out _ HBq.out
                    have HLt : Hid (o.length ≤ 200001) := by have := HLo.out; show _ ≤ _; omega
                    go_wp2
                    go_quiet (fail)
                    obtain ⟨Wt, hW⟩ : ∃ W, Wq.drewN nq = W := ⟨_, rfl⟩
                    rw [hW]
                    have HBt : Hid (Below Y.heap.size Y Wt) := by rw [← hW]; exact below_drewN HBq.out nq
                    have HOt := hide (HOq.out.keep (w' := Wt) (fun _ _ => by rw [← hW]; rfl))
                    clear hW nq HBq HOq c0 c1 b0 b1
                    obtain ⟨c0, c1, b0, b1⟩ := HCk.out _ HBt.out
                    go_wp2
                    go_roundw
                    case rel => exact ⟨k + 1, _, _, by omega, by go_num, rfl, HOt, (show Hid _ from by show _ = _; rw [HSt.out]; exact HSv.out), HBt⟩
                    case measure => simp [intOf]; omega
                  · have hd := decide_eq_false hs2
                    rw [hd] at HGo
                    clear hs1 hs2 hst1
                    have HSv : Hid (sp = (o ++ [x], true)) := by
                      show _ = _
                      rw [HSp.out, if_neg (fun e => by cases e.2), HGo.out]
                      simp [hn1]
                    clear HSp HGo hn1
                    rw [HXe.out] at HSv
                    go_wp2
                    go_quiet (fail)
                    obtain ⟨Wq, hW⟩ : ∃ W, wr.drewN nq = W := ⟨_, rfl⟩
                    rw [hW]
                    have HBq : Hid (Below Y.heap.size Y Wq) := by rw [← hW]; exact below_drewN HBr.out nq
                    have HOq := hide (HOwn.out.keep (w' := Wq) (fun _ _ => by rw [← hW]; rfl))
                    clear hW nq HBr HOwn c0 c1 b0 b1
                    obtain ⟨c0, c1, b0, b1⟩ := HCk.out _ HBq.out
                    have HLt : Hid (o.length ≤ 200001) := by have := HLo.out; show _ ≤ _; omega
                    go_wp2
                    go_quiet (fail)
                    obtain ⟨Wt, hW⟩ : ∃ W, Wq.drewN nq = W := ⟨_, rfl⟩
                    rw [hW]
                    have HBt : Hid (Below Y.heap.size Y Wt) := by rw [← hW]; exact below_drewN HBq.out nq
                    have HOt := hide (HOq.out.keep (w' := Wt) (fun _ _ => by rw [← hW]; rfl))
                    clear hW nq HBq HOq c0 c1 b0 b1
                    obtain ⟨c0, c1, b0, b1⟩ := HCk.out _ HBt.out
                    go_wp2_with (first
                      | (at_builtin; refine wpList_append_own _ rfl _ _ 80 rfl Y.heap.size 98 i0 _ 2 24 Tryz.underlying80 hi hi0 hi1 hi2 rfl (by decide) _ _ _ rfl (HOt.out.alloc _) ⟨Wt.heap.size, 0, none⟩ 1 1 (Fl.cells ⟨xw, xe⟩) rfl rfl (fun j u hj => cells_src (heap_alloc_new _ _) j u hj) (cells_oneF ⟨xw, xe⟩) (by have := HLt.out; unfold maxLen; omega) (by have := HLt.out; omega) (by have := HBt.out.size; simp; omega) ?_; intro v9 W9 hown' hg5 hnil5))
                    have HB9 : Hid (Below Y.heap.size Y W9) := (HBt.out.alloc HBt.out.size _).grown hg5 (by have := HBt.out.size; simp; omega) (fun g hg => (HOt.out.lt g hg).1)
                    have HO9 := hide (own_snoc hown')
                    clear hown' hg5 hnil5 HOt HBt
                    clear c0 c1 b0 b1
                    go_wp2
                    go_roundw
                    case rel => exact ⟨k + 1, _, _, by omega, by go_num, rfl, HO9, (show Hid _ from by show _ = _; rw [HSt.out]; exact HSv.out), HB9⟩
                    case measure => simp [intOf]; omega
                · rw [decide_eq_false hs1] at hst HGo
                  clear hs1 hst1
                  have HSv : Hid (sp = (o ++ [x], true)) := by
                    show _ = _
                    rw [HSp.out, if_neg (fun e => by cases e.2), HGo.out]
                    simp [hn1]
                  clear HSp HGo hn1
                  rw [HXe.out] at HSv
                  go_wp2
                  go_quiet (fail)
                  obtain ⟨Wq, hW⟩ : ∃ W, wr.drewN nq = W := ⟨_, rfl⟩
                  rw [hW]
                  have HBq : Hid (Below Y.heap.size Y Wq) := by rw [← hW]; exact below_drewN HBr.out nq
                  have HOq := hide (HOwn.out.keep (w' := Wq) (fun _ _ => by rw [← hW]; rfl))
                  clear hW nq HBr HOwn c0 c1 b0 b1
                  obtain ⟨c0, c1, b0, b1⟩ := HCk.out _ HBq.out
                  have HLt : Hid (o.length ≤ 200001) := by have := HLo.out; show _ ≤ _; omega
                  go_wp2
                  go_quiet (fail)
                  obtain ⟨Wt, hW⟩ : ∃ W, Wq.drewN nq = W := ⟨_, rfl⟩
                  rw [hW]
                  have HBt : Hid (Below Y.heap.size Y Wt) := by rw [← hW]; exact below_drewN HBq.out nq
                  have HOt := hide (HOq.out.keep (w' := Wt) (fun _ _ => by rw [← hW]; rfl))
                  clear hW nq HBq HOq c0 c1 b0 b1
                  obtain ⟨c0, c1, b0, b1⟩ := HCk.out _ HBt.out
                  go_wp2_with (first
                    | (at_builtin; refine wpList_append_own _ rfl _ _ 80 rfl Y.heap.size 98 i0 _ 2 24 Tryz.underlying80 hi hi0 hi1 hi2 rfl (by decide) _ _ _ rfl (HOt.out.alloc _) ⟨Wt.heap.size, 0, none⟩ 1 1 (Fl.cells ⟨xw, xe⟩) rfl rfl (fun j u hj => cells_src (heap_alloc_new _ _) j u hj) (cells_oneF ⟨xw, xe⟩) (by have := HLt.out; unfold maxLen; omega) (by have := HLt.out; omega) (by have := HBt.out.size; simp; omega) ?_; intro v9 W9 hown' hg5 hnil5))
                  have HB9 : Hid (Below Y.heap.size Y W9) := (HBt.out.alloc HBt.out.size _).grown hg5 (by have := HBt.out.size; simp; omega) (fun g hg => (HOt.out.lt g hg).1)
                  have HO9 := hide (own_snoc hown')
                  clear hown' hg5 hnil5 HOt HBt
                  clear c0 c1 b0 b1
                  go_wp2
                  go_roundw
                  case rel => exact ⟨k + 1, _, _, by omega, by go_num, rfl, HO9, (show Hid _ from by show _ = _; rw [HSt.out]; exact HSv.out), HB9⟩
                  case measure => simp [intOf]; omega
            · have hnl : ¬ who.data.toList < xw.data.toList := fun e => by rw [hn1] at e; exact List.lt_irrefl _ e
              rw [decide_eq_false (fun e => by rw [hn1] at e; exact List.lt_irrefl _ e)] at hl2
              rw [decide_eq_false hnl] at hl1
              rw [decide_eq_true hn1.symm] at he1 HGo
              have HSv : Hid (sp = (o, b)) := by
                show _ = _
                rw [HSp.out, if_neg (fun e => hnl e.1), HGo.out]
                simp [hnl]
              clear HSp HGo hn1 hnl hst hst1
              go_wp2
              go_quiet (fail)
              obtain ⟨Wq, hW⟩ : ∃ W, wr.drewN nq = W := ⟨_, rfl⟩
              rw [hW]
              have HBq : Hid (Below Y.heap.size Y Wq) := by rw [← hW]; exact below_drewN HBr.out nq
              have HOq := hide (HOwn.out.keep (w' := Wq) (fun _ _ => by rw [← hW]; rfl))
              clear hW nq HBr HOwn c0 c1 b0 b1
              obtain ⟨c0, c1, b0, b1⟩ := HCk.out _ HBq.out
              go_wp2
              go_quiet (fail)
              obtain ⟨Wt, hW⟩ : ∃ W, Wq.drewN nq = W := ⟨_, rfl⟩
              rw [hW]
              have HBt : Hid (Below Y.heap.size Y Wt) := by rw [← hW]; exact below_drewN HBq.out nq
              have HOt := hide (HOq.out.keep (w' := Wt) (fun _ _ => by rw [← hW]; rfl))
              clear hW nq HBq HOq c0 c1 b0 b1
              obtain ⟨c0, c1, b0, b1⟩ := HCk.out _ HBt.out
              go_wp2
              go_roundw
              case rel => exact ⟨k + 1, _, _, by omega, by go_num, rfl, HOt, (show Hid _ from by show _ = _; rw [HSt.out]; exact HSv.out), HBt⟩
              case measure => simp [intOf]; omega
            · have hnl : ¬ who.data.toList < xw.data.toList := fun e => List.lt_irrefl _ (List.lt_trans hn1 e)
              have hne : xw.data.toList ≠ who.data.toList := fun e => by rw [e] at hn1; exact List.lt_irrefl _ hn1
              have hs1 : ¬ f.nm = star := fun e => hst1.out e hn1
              rw [decide_eq_true hn1] at hl2
              rw [decide_eq_false hnl] at hl1
              rw [decide_eq_false hne] at he1 HGo
              rw [decide_eq_false hs1] at hst HGo
              have HSv : Hid (sp = (o ++ [x], b)) := by
                show _ = _
                rw [HSp.out, if_neg (fun e => hnl e.1), HGo.out]
                simp [hnl]
              rw [HXe.out] at HSv
              have HLt : Hid (o.length ≤ 200001) := by have := HLo.out; show _ ≤ _; omega
              clear HSp HGo hn1 hnl hne hs1 hst1
              go_wp2
              go_quiet (fail)
              obtain ⟨Wq, hW⟩ : ∃ W, wr.drewN nq = W := ⟨_, rfl⟩
              rw [hW]
              have HBq : Hid (Below Y.heap.size Y Wq) := by rw [← hW]; exact below_drewN HBr.out nq
              have HOq := hide (HOwn.out.keep (w' := Wq) (fun _ _ => by rw [← hW]; rfl))
              clear hW nq HBr HOwn c0 c1 b0 b1
              obtain ⟨c0, c1, b0, b1⟩ := HCk.out _ HBq.out
              go_wp2
              go_quiet (fail)
              obtain ⟨Wt, hW⟩ : ∃ W, Wq.drewN nq = W := ⟨_, rfl⟩
              rw [hW]
              have HBt : Hid (Below Y.heap.size Y Wt) := by rw [← hW]; exact below_drewN HBq.out nq
              have HOt := hide (HOq.out.keep (w' := Wt) (fun _ _ => by rw [← hW]; rfl))
              clear hW nq HBq HOq c0 c1 b0 b1
              obtain ⟨c0, c1, b0, b1⟩ := HCk.out _ HBt.out
              go_wp2_with (first
                | (at_builtin; refine wpList_append_own _ rfl _ _ 80 rfl Y.heap.size 98 i0 _ 2 24 Tryz.underlying80 hi hi0 hi1 hi2 rfl (by decide) _ _ _ rfl (HOt.out.alloc _) ⟨Wt.heap.size, 0, none⟩ 1 1 (Fl.cells ⟨xw, xe⟩) rfl rfl (fun j u hj => cells_src (heap_alloc_new _ _) j u hj) (cells_oneF ⟨xw, xe⟩) (by have := HLt.out; unfold maxLen; omega) (by have := HLt.out; omega) (by have := HBt.out.size; simp; omega) ?_; intro v9 W9 hown' hg5 hnil5))
              have HB9 : Hid (Below Y.heap.size Y W9) := (HBt.out.alloc HBt.out.size _).grown hg5 (by have := HBt.out.size; simp; omega) (fun g hg => (HOt.out.lt g hg).1)
              have HO9 := hide (own_snoc hown')
              clear hown' hg5 hnil5 HOt HBt
              clear c0 c1 b0 b1
              go_wp2
              go_roundw
              case rel => exact ⟨k + 1, _, _, by omega, by go_num, rfl, HO9, (show Hid _ from by show _ = _; rw [HSt.out]; exact HSv.out), HB9⟩
              case measure => simp [intOf]; omega
          · obtain rfl : k = n := by omega
            have hltz : ¬ (k : Int) < (k : Int) := by omega
            have HFo2 : Hid (l.foldl (putStep f) ([], false) = (o, b)) := by
              have := HFo.out
              rwa [List.take_of_length_le (by rw [HN.out]; exact Nat.le_refl _)] at this
            have HLo : Hid (o.length ≤ 200000) := by have := HLn.out k; rw [HFo.out] at this; exact this
            rw [HFo2.out] at HRl
            cases b with
            | true =>
              obtain ⟨r, hr⟩ : ∃ r, o = r := ⟨_, rfl⟩
              have HRl2 : Hid (raisedL l f = r) := by show _ = _; rw [HRl.out, ← hr]; rfl
              have HRt2 : Hid (RightF r) := by have := HRt.out; rwa [HRl2.out] at this
              subst hr
              obtain ⟨ad2, cap2, hu, hc2⟩ := HOwn.out.form
              subst hu
              by_cases hm : 21 < o.length
              · have HPo : Hid (FltPost (raiseC l f) (raiseR l f) = FltPost (7, -1) []) := by
                  show _ = _
                  rw [HR.out] at HRR ⊢
                  rw [HRR.out, HRl2.out, check_right HRt2.out, if_pos hm]
                  rfl
                generalize o.length = m at *
                have hmz : (21 : Int) < (m : Int) := by omega
                go_wp2_with fail
                refine (HBare.out 7 _).mono ?_
                rintro e w5 ⟨rfl, hb5⟩
                have HB5 : Hid (Below w.heap.size w w5) := (HBY.out.trans (HBr.out.mono HBY.out.size)).trans (hb5.mono (HBY.out.trans (HBr.out.mono HBY.out.size)).size)
                have HR5 : Hid (w5.heap[w.heap.size + 1]? = some flt0) := (hb5.block _ (Nat.lt_of_lt_of_le (row_lt HRY.out) HBr.out.size)).trans ((HBr.out.block _ (row_lt HRY.out)).trans HRY.out)
                have r0 : w5.cell? ⟨w.heap.size + 1, 0, none⟩ = some (.int .i64 0) := cell_of_row w5 _ 0 _ _ _ HR5.out
                have r1 : w5.cell? ⟨w.heap.size + 1, 1, none⟩ = some (.int .i64 0) := cell_of_row w5 _ 1 _ _ _ HR5.out
                have z0 : w5.frozen? ⟨w.heap.size + 1, 0, none⟩ = false := frozen_of_row w5 _ 0 _ _ HR5.out
                have z1 : w5.frozen? ⟨w.heap.size + 1, 1, none⟩ = false := frozen_of_row w5 _ 1 _ _ HR5.out
                clear hb5
                go_wp2
                refine raiseEnd (w.heap.size + 1) _ rfl (set2_row HR5.out _ _) rfl rfl ?_
                rw [HPo.out]
                exact ⟨⟨_, rfl, Or.inl ⟨none, 0, rfl, rfl⟩⟩, (HB5.out.setCell (p := ⟨w.heap.size + 1, 0, none⟩) (Nat.le_succ _) _).setCell (p := ⟨w.heap.size + 1, 0 + 1, none⟩) (Nat.le_succ _) _⟩
              · have HPo : Hid (FltPost (raiseC l f) (raiseR l f) = FltPost (0, -1) o) := by
                  show _ = _
                  rw [HR.out] at HRR ⊢
                  rw [HRR.out, HRl2.out, check_right HRt2.out, if_neg hm]
                  rfl
                have HZ := hide HOwn.out
                generalize o.length = m at *
                have hmz : ¬ (21 : Int) < (m : Int) := by omega
                go_wp2_with fail
                refine (HFine.out _).mono ?_
                rintro e w5 ⟨rfl, hb5⟩
                have HB5 : Hid (Below w.heap.size w w5) := (HBY.out.trans (HBr.out.mono HBY.out.size)).trans (hb5.mono (HBY.out.trans (HBr.out.mono HBY.out.size)).size)
                have HR5 : Hid (w5.heap[w.heap.size + 1]? = some flt0) := (hb5.block _ (Nat.lt_of_lt_of_le (row_lt HRY.out) HBr.out.size)).trans ((HBr.out.block _ (row_lt HRY.out)).trans HRY.out)
                have HZ5 := hide (HZ.out.below hb5)
                have HLy : Hid (w.heap.size + 1 < Y.heap.size) := row_lt HRY.out
                have r0 : w5.cell? ⟨w.heap.size + 1, 0, none⟩ = some (.int .i64 0) := cell_of_row w5 _ 0 _ _ _ HR5.out
                have r1 : w5.cell? ⟨w.heap.size + 1, 1, none⟩ = some (.int .i64 0) := cell_of_row w5 _ 1 _ _ _ HR5.out
                have z0 : w5.frozen? ⟨w.heap.size + 1, 0, none⟩ = false := frozen_of_row w5 _ 0 _ _ HR5.out
                have z1 : w5.frozen? ⟨w.heap.size + 1, 1, none⟩ = false := frozen_of_row w5 _ 1 _ _ HR5.out
                clear hb5
                go_wp2
                refine raiseEnd (w.heap.size + 1) _ rfl (set2_row HR5.out _ _) rfl rfl ?_
                rw [HPo.out]
                refine ⟨⟨_, rfl, (HZ5.out.keep (fun g hg => ?_)).flAt⟩, (HB5.out.setCell (p := ⟨w.heap.size + 1, 0, none⟩) (Nat.le_succ _) _).setCell (p := ⟨w.heap.size + 1, 0 + 1, none⟩) (Nat.le_succ _) _⟩
                have hgl := (HZ5.out.lt g hg).1
                have := HLy.out
                rw [heap_setCell_other _ ⟨w.heap.size + 1, 0 + 1, none⟩ g _ (by show g ≠ w.heap.size + 1; omega), heap_setCell_other _ ⟨w.heap.size + 1, 0, none⟩ g _ (by show g ≠ w.heap.size + 1; omega)]
            | false =>
              have b0 : wr.cell? ⟨w.heap.size, 0, none⟩ = some (.string who) := cell_of_row wr _ 0 _ _ _ ((HBr.out.block _ (row_lt HFY.out)).trans HFY.out)
              have b1 : wr.cell? ⟨w.heap.size, 1, none⟩ = some (.int .i64 ep) := cell_of_row wr _ 1 _ _ _ ((HBr.out.block _ (row_lt HFY.out)).trans HFY.out)
              go_wp2_with (first
                | (at_builtin; refine wpList_append_own _ rfl _ _ 80 rfl Y.heap.size 98 i0 _ 2 24 Tryz.underlying80 hi hi0 hi1 hi2 rfl (by decide) _ _ _ rfl (HOwn.out.alloc _) ⟨wr.heap.size, 0, none⟩ 1 1 (Fl.cells ⟨who, ep⟩) rfl rfl (fun j u hj => cells_src (heap_alloc_new _ _) j u hj) (cells_oneF ⟨who, ep⟩) (by have := HLo.out; unfold maxLen; omega) (by have := HLo.out; omega) (by have := HBr.out.size; simp; omega) ?_; intro v5 W5 hown' hg5 hnil5))
              have HB6 : Hid (Below Y.heap.size Y W5) := (HBr.out.alloc HBr.out.size _).grown hg5 (by have := HBr.out.size; simp; omega) (fun g hg => (HOwn.out.lt g hg).1)
              have HO5 := hide (own_snoc hown')
              clear hown' hg5 hnil5 HOwn HBr
              clear b0 b1
              have HFe : Hid (f = ⟨who, ep⟩) := by show _ = _; rw [← HWw.out, ← HEe.out]
              have HRl2 : Hid (raisedL l f = o ++ [⟨who, ep⟩]) := by show _ = _; rw [HRl.out, ← HFe.out]; rfl
              have HRt2 : Hid (RightF (o ++ [⟨who, ep⟩])) := by have := HRt.out; rwa [HRl2.out] at this
              have hlr : (o ++ [Fl.mk who ep]).length ≤ 200001 := by have := HLo.out; simp; omega
              clear HFe
              generalize o ++ [⟨who, ep⟩] = r at *
              obtain ⟨ad2, cap2, hu, hc2⟩ := HO5.out.form
              subst hu
              by_cases hm : 21 < r.length
              · have HPo : Hid (FltPost (raiseC l f) (raiseR l f) = FltPost (7, -1) []) := by
                  show _ = _
                  rw [HR.out] at HRR ⊢
                  rw [HRR.out, HRl2.out, check_right HRt2.out, if_pos hm]
                  rfl
                generalize r.length = m at *
                have hmz : (21 : Int) < (m : Int) := by omega
                have hmb : (m : Int) ≤ 200001 := by omega
                have hlen : (Builtin.len_ #[80] 3 #[.slice ad2 m cap2]).run Tryz.prog W5 = .ok (.int .i64 (m : Int)) W5 := by simp [Builtin.len_, run_underlying Tryz.underlying80, goInt]
                go_wp2_with fail
                simp only [hlen, Result.andThen]
                go_wp2_with fail
                refine (HBare.out 7 _).mono ?_
                rintro e w5 ⟨rfl, hb5⟩
                have HB5 : Hid (Below w.heap.size w w5) := (HBY.out.trans (HB6.out.mono HBY.out.size)).trans (hb5.mono (HBY.out.trans (HB6.out.mono HBY.out.size)).size)
                have HR5 : Hid (w5.heap[w.heap.size + 1]? = some flt0) := (hb5.block _ (Nat.lt_of_lt_of_le (row_lt HRY.out) HB6.out.size)).trans ((HB6.out.block _ (row_lt HRY.out)).trans HRY.out)
                have r0 : w5.cell? ⟨w.heap.size + 1, 0, none⟩ = some (.int .i64 0) := cell_of_row w5 _ 0 _ _ _ HR5.out
                have r1 : w5.cell? ⟨w.heap.size + 1, 1, none⟩ = some (.int .i64 0) := cell_of_row w5 _ 1 _ _ _ HR5.out
                have z0 : w5.frozen? ⟨w.heap.size + 1, 0, none⟩ = false := frozen_of_row w5 _ 0 _ _ HR5.out
                have z1 : w5.frozen? ⟨w.heap.size + 1, 1, none⟩ = false := frozen_of_row w5 _ 1 _ _ HR5.out
                clear hb5
                go_wp2
                refine raiseEnd (w.heap.size + 1) _ rfl (set2_row HR5.out _ _) rfl rfl ?_
                rw [HPo.out]
                exact ⟨⟨_, rfl, Or.inl ⟨none, 0, rfl, rfl⟩⟩, (HB5.out.setCell (p := ⟨w.heap.size + 1, 0, none⟩) (Nat.le_succ _) _).setCell (p := ⟨w.heap.size + 1, 0 + 1, none⟩) (Nat.le_succ _) _⟩
              · have HPo : Hid (FltPost (raiseC l f) (raiseR l f) = FltPost (0, -1) r) := by
                  show _ = _
                  rw [HR.out] at HRR ⊢
                  rw [HRR.out, HRl2.out, check_right HRt2.out, if_neg hm]
                  rfl
                have HZ := hide HO5.out
                generalize r.length = m at *
                have hmz : ¬ (21 : Int) < (m : Int) := by omega
                go_wp2_with fail
                refine (HFine.out _).mono ?_
                rintro e w5 ⟨rfl, hb5⟩
                have HB5 : Hid (Below w.heap.size w w5) := (HBY.out.trans (HB6.out.mono HBY.out.size)).trans (hb5.mono (HBY.out.trans (HB6.out.mono HBY.out.size)).size)
                have HR5 : Hid (w5.heap[w.heap.size + 1]? = some flt0) := (hb5.block _ (Nat.lt_of_lt_of_le (row_lt HRY.out) HB6.out.size)).trans ((HB6.out.block _ (row_lt HRY.out)).trans HRY.out)
                have HZ5 := hide (HZ.out.below hb5)
                have HLy : Hid (w.heap.size + 1 < Y.heap.size) := row_lt HRY.out
                have r0 : w5.cell? ⟨w.heap.size + 1, 0, none⟩ = some (.int .i64 0) := cell_of_row w5 _ 0 _ _ _ HR5.out
                have r1 : w5.cell? ⟨w.heap.size + 1, 1, none⟩ = some (.int .i64 0) := cell_of_row w5 _ 1 _ _ _ HR5.out
                have z0 : w5.frozen? ⟨w.heap.size + 1, 0, none⟩ = false := frozen_of_row w5 _ 0 _ _ HR5.out
                have z1 : w5.frozen? ⟨w.heap.size + 1, 1, none⟩ = false := frozen_of_row w5 _ 1 _ _ HR5.out
                clear hb5
                go_wp2
                refine raiseEnd (w.heap.size + 1) _ rfl (set2_row HR5.out _ _) rfl rfl ?_
                rw [HPo.out]
                refine ⟨⟨_, rfl, (HZ5.out.keep (fun g hg => ?_)).flAt⟩, (HB5.out.setCell (p := ⟨w.heap.size + 1, 0, none⟩) (Nat.le_succ _) _).setCell (p := ⟨w.heap.size + 1, 0 + 1, none⟩) (Nat.le_succ _) _⟩
                have hgl := (HZ5.out.lt g hg).1
                have := HLy.out
                rw [heap_setCell_other _ ⟨w.heap.size + 1, 0 + 1, none⟩ g _ (by show g ≠ w.heap.size + 1; omega), heap_setCell_other _ ⟨w.heap.size + 1, 0, none⟩ g _ (by show g ≠ w.heap.size + 1; omega)]
    · rw [if_neg h2] at HR
      rw [HR.out, if_neg (show ¬ ((c1, (-1 : Int)).1 = 0) from h2)] at HRR
      rw [HR.out, HRR.out]
      have hq : ((c1 : Int) == 0) = false := by rw [beq_eq_false_iff_ne]; omega
      have hq2 : (0 : Int) < (c1 : Int) := by omega
      clear HR HRR HOf2 hone h2 HRi hright h21
      generalize f.who = who at *
      generalize f.ep = ep at *
      go_enter Tryz.func99, Tryz.ntmps99
      go_wp2_with fail
      refine (HFF.out _ (HV.out.below HW0.out.1)).mono ?_
      rintro e w1 ⟨rfl, hb⟩
      have HB1 : Hid (Below w.heap.size w w1) := HW0.out.1.trans (hb.mono HW0.out.1.size)
      have HF1 : Hid (w1.heap[w.heap.size]? = some (.cells #[.string who, .int .i64 ep] 98 (0, 0))) := (hb.block _ (row_lt HW0.out.2.1)).trans HW0.out.2.1
      have HR1 : Hid (w1.heap[w.heap.size + 1]? = some flt0) := (hb.block _ (row_lt HW0.out.2.2)).trans HW0.out.2.2
      have c0 : w1.cell? ⟨w.heap.size, 0, none⟩ = some (.string who) := cell_of_row w1 _ 0 _ _ _ HF1.out
      have c1' : w1.cell? ⟨w.heap.size, 1, none⟩ = some (.int .i64 ep) := cell_of_row w1 _ 1 _ _ _ HF1.out
      have HLt : Hid (w.heap.size < w1.heap.size) := row_lt HF1.out
      have hlt := HLt.out
      clear hb HFF HW0
      go_wp2_with fail
      refine (HOne.out _).mono ?_
      rintro e w3 ⟨rfl, hb3⟩
      have HB3 := hide hb3
      clear hb3 HOne
      go_wp2_with fail
      refine (HBare.out _ _).mono ?_
      rintro e w4 ⟨rfl, hb4⟩
      have HB4 : Hid (Below (w1.heap.size + 1) (w1.alloc (.cells #[.int .i64 0, .int .i64 (-1)] 35)) w4) := by
        have h3 := HB3.out
        rw [World.size_alloc] at h3
        exact h3.trans (hb4.mono (by have := h3.size; rw [World.size_alloc] at this; exact this))
      have HG4 : Hid (w4.heap[w1.heap.size]? = some (.cells #[.int .i64 0, .int .i64 (-1)] 35 (0, 0))) := (HB4.out.block _ (by omega)).trans (heap_alloc_new _ _)
      have HO4 : Hid (∀ k, k < w1.heap.size → w4.heap[k]? = w1.heap[k]?) := fun k hk => (HB4.out.block k (by omega)).trans (Below.heap_alloc _ _ _ hk)
      clear hb4 HB3 c0 c1' hlt
      have g0 : w4.cell? ⟨w1.heap.size, 0, none⟩ = some (.int .i64 0) := cell_of_row w4 _ 0 _ _ _ HG4.out
      have g1 : w4.cell? ⟨w1.heap.size, 1, none⟩ = some (.int .i64 (-1)) := cell_of_row w4 _ 1 _ _ _ HG4.out
      have gz0 : w4.frozen? ⟨w1.heap.size, 0, none⟩ = false := frozen_of_row w4 _ 0 _ _ HG4.out
      have gz1 : w4.frozen? ⟨w1.heap.size, 1, none⟩ = false := frozen_of_row w4 _ 1 _ _ HG4.out
      go_wp2
      obtain ⟨X, hX⟩ : ∃ X, (w4.setCell ⟨w1.heap.size, 0, none⟩ (.int .i64 (c1 : Int))).setCell ⟨w1.heap.size, 0 + 1, none⟩ (.int .i64 (-1)) = X := ⟨_, rfl⟩
      have HG : Hid (X.heap[w1.heap.size]? = some (.cells #[.int .i64 (c1 : Int), .int .i64 (-1)] 35 (0, 0))) := by rw [← hX]; exact set2_row HG4.out _ _
      have HOX : Hid (∀ k, k < w1.heap.size → X.heap[k]? = w1.heap[k]?) := fun k hk => by
        rw [← hX, heap_setCell_other _ ⟨w1.heap.size, 0 + 1, none⟩ k _ (by show k ≠ w1.heap.size; omega), heap_setCell_other _ ⟨w1.heap.size, 0, none⟩ k _ (by show k ≠ w1.heap.size; omega)]
        exact HO4.out k hk
      have HBX : Hid (Below w.heap.size w X) := by
        rw [← hX]
        have hs := HB1.out.size
        have hb5 : Below w.heap.size w w4 := (HB1.out.alloc hs (.cells #[.int .i64 0, .int .i64 (-1)] 35)).trans (HB4.out.mono (by omega))
        exact (hb5.setCell (p := ⟨w1.heap.size, 0, none⟩) hs _).setCell (p := ⟨w1.heap.size, 0 + 1, none⟩) hs _
      have HRX : Hid (X.heap[w.heap.size + 1]? = some flt0) := (HOX.out _ (row_lt HR1.out)).trans HR1.out
      clear g0 g1 gz0 gz1
      rw [hX]
      clear hX
      have x0 : X.cell? ⟨w1.heap.size, 0, none⟩ = some (.int .i64 (c1 : Int)) := cell_of_row X _ 0 _ _ _ HG.out
      have x1 : X.cell? ⟨w1.heap.size, 1, none⟩ = some (.int .i64 (-1)) := cell_of_row X _ 1 _ _ _ HG.out
      have y0 : X.drew.cell? ⟨w1.heap.size, 0, none⟩ = some (.int .i64 (c1 : Int)) := x0
      have y1 : X.drew.cell? ⟨w1.heap.size, 1, none⟩ = some (.int .i64 (-1)) := x1
      have r0 : X.cell? ⟨w.heap.size + 1, 0, none⟩ = some (.int .i64 0) := cell_of_row X _ 0 _ _ _ HRX.out
      have r1 : X.cell? ⟨w.heap.size + 1, 1, none⟩ = some (.int .i64 0) := cell_of_row X _ 1 _ _ _ HRX.out
      have s0 : X.drew.cell? ⟨w.heap.size + 1, 0, none⟩ = some (.int .i64 0) := r0
      have s1 : X.drew.cell? ⟨w.heap.size + 1, 1, none⟩ = some (.int .i64 0) := r1
      have z0 : X.frozen? ⟨w.heap.size + 1, 0, none⟩ = false := frozen_of_row X _ 0 _ _ HRX.out
      have z1 : X.frozen? ⟨w.heap.size + 1, 1, none⟩ = false := frozen_of_row X _ 1 _ _ HRX.out
      have q0 : X.drew.frozen? ⟨w.heap.size + 1, 0, none⟩ = false := z0
      have q1 : X.drew.frozen? ⟨w.heap.size + 1, 1, none⟩ = false := z1
      go_region
      all_goals
        go_wp2
        refine raiseEnd (w.heap.size + 1) _ rfl (set2_row (w := X.drew) HRX.out _ _) rfl rfl ?_
        exact ⟨⟨_, rfl, Or.inl ⟨none, 0, rfl, rfl⟩⟩, (HBX.out.drew.setCell (p := ⟨w.heap.size + 1, 0, none⟩) (Nat.le_succ _) _).setCell (p := ⟨w.heap.size + 1, 0 + 1, none⟩) (Nat.le_succ _) _⟩
  · rw [if_neg h1] at HR
    rw [HR.out, if_neg h1] at HRR
    rw [HR.out, HRR.out]
    clear HR HRR HOf
    have hz : ((checkL l).1 : Int) ≠ 0 := by omega
    have hq : (((checkL l).1 : Int) == 0) = false := by rw [beq_eq_false_iff_ne]; exact hz
    have hq2 : (0 : Int) < ((checkL l).1 : Int) := by omega
    generalize checkL l = c at *
    generalize f.who = who at *
    generalize f.ep = ep at *
    clear h1 hz
    go_enter Tryz.func99, Tryz.ntmps99
    go_wp2_with fail
    refine (HFF.out _ (HV.out.below HW0.out.1)).mono ?_
    rintro e w1 ⟨rfl, hb⟩
    have HB1 : Hid (Below w.heap.size w w1) := HW0.out.1.trans (hb.mono HW0.out.1.size)
    have HR1 : Hid (w1.heap[w.heap.size + 1]? = some flt0) := (hb.block _ (row_lt HW0.out.2.2)).trans HW0.out.2.2
    clear hb HFF
    go_wp2
    obtain ⟨X, hX⟩ : ∃ X, w1.alloc (.cells #[.int .i64 (c.1 : Int), .int .i64 c.2] 35) = X := ⟨_, rfl⟩
    have HBX : Hid (Below w.heap.size w X) := by rw [← hX]; exact HB1.out.alloc HB1.out.size _
    have HG : Hid (X.heap[w1.heap.size]? = some (.cells #[.int .i64 (c.1 : Int), .int .i64 c.2] 35 (0, 0))) := by rw [← hX]; exact heap_alloc_new _ _
    have HRX : Hid (X.heap[w.heap.size + 1]? = some flt0) := by rw [← hX]; exact (Below.heap_alloc _ _ _ (row_lt HR1.out)).trans HR1.out
    rw [hX]
    clear hX
    have x0 : X.cell? ⟨w1.heap.size, 0, none⟩ = some (.int .i64 (c.1 : Int)) := cell_of_row X _ 0 _ _ _ HG.out
    have x1 : X.cell? ⟨w1.heap.size, 1, none⟩ = some (.int .i64 c.2) := cell_of_row X _ 1 _ _ _ HG.out
    have y0 : X.drew.cell? ⟨w1.heap.size, 0, none⟩ = some (.int .i64 (c.1 : Int)) := x0
    have y1 : X.drew.cell? ⟨w1.heap.size, 1, none⟩ = some (.int .i64 c.2) := x1
    have r0 : X.cell? ⟨w.heap.size + 1, 0, none⟩ = some (.int .i64 0) := cell_of_row X _ 0 _ _ _ HRX.out
    have r1 : X.cell? ⟨w.heap.size + 1, 1, none⟩ = some (.int .i64 0) := cell_of_row X _ 1 _ _ _ HRX.out
    have s0 : X.drew.cell? ⟨w.heap.size + 1, 0, none⟩ = some (.int .i64 0) := r0
    have s1 : X.drew.cell? ⟨w.heap.size + 1, 1, none⟩ = some (.int .i64 0) := r1
    have z0 : X.frozen? ⟨w.heap.size + 1, 0, none⟩ = false := frozen_of_row X _ 0 _ _ HRX.out
    have z1 : X.frozen? ⟨w.heap.size + 1, 1, none⟩ = false := frozen_of_row X _ 1 _ _ HRX.out
    have q0 : X.drew.frozen? ⟨w.heap.size + 1, 0, none⟩ = false := z0
    have q1 : X.drew.frozen? ⟨w.heap.size + 1, 1, none⟩ = false := z1
    go_region
    all_goals
      go_wp2
      refine raiseEnd (w.heap.size + 1) _ rfl (set2_row (w := X.drew) HRX.out _ _) rfl rfl ?_
      exact ⟨⟨_, rfl, Or.inl ⟨none, 0, rfl, rfl⟩⟩, (HBX.out.drew.setCell (p := ⟨w.heap.size + 1, 0, none⟩) (Nat.le_succ _) _).setCell (p := ⟨w.heap.size + 1, 0 + 1, none⟩) (Nat.le_succ _) _⟩
end Go.Proofs.YtgagekcjdapkfadGreatDoor

/-
  Floors that came in, opened: a slice's list, and a floor by value, each text no longer than one can be.
  Entries that came in, opened: a slice's list, each text no longer than one can be.
  A struct of one-cell fields that came in by value, opened field by field: what the claim's reading says of each of its cells.
  Numbers, and news, that came in, opened: a slice's list.
  A ticket that came in by value, opened: the value written out, and how long its two texts may be.
  Knocks that came in, opened: a slice's list.
-/
import Derived.Test.YtgagekcjdapkfadGreatDoorFloorDo
import Derived.Deep.Slices
import Derived.Lib.SmallJoins
import Derived.ChangeArms
import Derived.ProofKit
import Derived.WideShapes
import Derived.OpenShut
import Derived.Test.YtgagekcjdapkfadGreatDoorFeedPa
import Derived.Deep.Strs
import Derived.Deep.Fields
import Derived.Test.YtgagekcjdapkfadGreatDoorBase
import Derived.Test.YtgagekcjdapkfadGreatDoorFollowNews
import Derived.ChangeSlices
import Derived.Test.YtgagekcjdapkfadGreatDoorTicketPa
import Derived.Test.YtgagekcjdapkfadGreatDoorLaidBase
import Derived.Test.YtgagekcjdapkfadGreatDoorGatePa
namespace Go.Proofs.YtgagekcjdapkfadGreatDoor
open Go Go.ChangeShapes Go.WideShapes Go.ChangeAt Go.RowKit

theorem Tryz.floorCells : Tryz.prog.cellsOf 98 = 2 := by kernel_rfl
theorem cells_join : ∀ (l : List Fl) (j : Nat) (u : Value), (cellsF l)[j]? = some u → ∃ (i : Nat) (hi : i < l.length), (j = i * 2 ∧ u = .string l[i].who) ∨ (j = i * 2 + 1 ∧ u = .int .i64 l[i].ep)
  | [], j, u, h => by simp [cellsF] at h
  | f :: l, 0, u, h => ⟨0, by simp, Or.inl ⟨rfl, by rw [cellsF_cons] at h; simpa using h.symm⟩⟩
  | f :: l, 1, u, h => ⟨0, by simp, Or.inr ⟨rfl, by rw [cellsF_cons] at h; simpa using h.symm⟩⟩
  | f :: l, j + 2, u, h => by
    rw [cellsF_cons, List.getElem?_cons_succ, List.getElem?_cons_succ] at h
    obtain ⟨i, hi, e⟩ := cells_join l j u h
    refine ⟨i + 1, by simpa using hi, ?_⟩
    rcases e with ⟨e1, e2⟩ | ⟨e1, e2⟩
    · exact Or.inl ⟨by omega, by simpa using e2⟩
    · exact Or.inr ⟨by omega, by simpa using e2⟩

set_option maxRecDepth 100000 in
theorem floors_open {H : Type} {enc : TypeId × Value → H} {W : World} {base : Nat} {spare : Nat → Bool} {held : Bool} {a0 : Option Addr} {len cap : Nat} {d : DataW H} {p : List MemPlace}
    (h : DataW.Trod enc Tryz.prog W base spare held 80 (.slice a0 len cap) d p) : ∃ l : List Fl, FlAt W (.slice a0 len cap) l ∧ ∀ f ∈ l, f.who.size ≤ maxLen := by
  obtain ⟨fuel, hf⟩ := h
  rcases Go.Deep.open_slice Tryz.underlying80 hf with ⟨hcs, _⟩ | ⟨a, len', cap', m, n, D, Pl, hcs, _, hl, hm, hmm, _, hx⟩
  · have e : a0 = none ∧ len = 0 ∧ cap = 0 := by simpa [Value.cells] using hcs
    obtain ⟨rfl, rfl, rfl⟩ := e
    exact ⟨[], Or.inl ⟨none, 0, rfl, rfl⟩, fun x hx => by cases hx⟩
  · have e : a0 = some a ∧ len = len' ∧ cap = cap' := by simpa [Value.cells] using hcs
    obtain ⟨rfl, rfl, rfl⟩ := e
    have hlm : len ≤ m := by rw [hmm]; split <;> omega
    have each : ∀ i, i < len → ∃ x : Fl, (W.cell? (a.add (i * 2)) = some (.string x.who) ∧ W.cell? (a.add (i * 2 + 1)) = some (.int .i64 x.ep)) ∧ x.who.size ≤ maxLen := by
      intro i hi
      obtain ⟨cs', h1, h2⟩ := hx i (by omega)
      rw [Tryz.floorCells] at h1
      obtain ⟨_, hlen, hcell⟩ := World.cells?_some h1
      obtain ⟨y0, y1, k, _, _, g0, g1⟩ := trod_struct2 Tryz.underlying98 h2
      match cs', hlen with
      | [v0, v1], _ =>
        have q0 : DataW.trod enc Tryz.prog W base spare held k 9 [v0] = some y0 := g0
        have q1 : DataW.trod enc Tryz.prog W base spare held k 3 [v1] = some y1 := g1
        obtain ⟨s0, e0, _, z0⟩ := DataW.trod_string Tryz.underlying9 q0
        obtain ⟨n1, e1, _, _⟩ := DataW.trod_int Tryz.underlying3 q1
        cases e0; cases e1
        have c0 := hcell 0 (by omega)
        have c1 := hcell 1 (by omega)
        rw [Go.Deep.add_add] at c0 c1
        exact ⟨⟨s0, n1⟩, ⟨c0, c1⟩, z0⟩
    have inst : Inhabited Fl := ⟨⟨ByteArray.empty, 0⟩⟩
    obtain ⟨f, hfx⟩ := Go.Deep.choose_lt (α := Fl) each
    have hlen : ((List.range len).map f).length = len := by simp
    refine ⟨(List.range len).map f, ?_, fun x hxm => ?_⟩
    · by_cases h0 : 0 < len
      · obtain ⟨b, off, spot⟩ := a
        have hspot : spot = none := by
          have := (hfx 0 h0).1.1
          simpa [Addr.add] using World.cell?_spot this
        subst hspot
        refine Or.inr ⟨b, off, cap, by rw [hlen], by rw [hlen]; exact hl, fun j u hu => ?_⟩
        obtain ⟨i, hi, e⟩ := cells_join _ j u hu
        have hil : i < len := by rw [hlen] at hi; exact hi
        have hg : ((List.range len).map f)[i] = f i := by simp
        rw [hg] at e
        obtain ⟨c0, c1⟩ := (hfx i hil).1
        rw [Go.WideShapes.add_plain] at c0 c1
        rcases e with ⟨rfl, rfl⟩ | ⟨rfl, rfl⟩
        · exact c0
        · exact c1
      · obtain rfl : len = 0 := by omega
        exact Or.inl ⟨some a, cap, rfl, rfl⟩
    · obtain ⟨i, hi, rfl⟩ := List.getElem_of_mem hxm
      have hil : i < len := by rw [hlen] at hi; exact hi
      have := (hfx i hil).2
      simpa using this

set_option maxRecDepth 100000 in
theorem fl_open {H : Type} {enc : TypeId × Value → H} {W : World} {base b0 : Nat} {spare : Nat → Bool} {held : Bool} {v : Value} {d : DataW H} {p : List MemPlace} (hv : Value.okWide Tryz.prog W .any b0 98 v)
    (h : DataW.Trod enc Tryz.prog W base spare held 98 v d p) : ∃ q : Fl, v = q.val ∧ q.who.size ≤ maxLen := by
  obtain ⟨v0, v1, y0, y1, n, rfl, _, _, g0, g1⟩ := Go.Joins.open_agg2 Tryz.underlying98 (by kernel_rfl) Tryz.floorCells hv h
  obtain ⟨s0, e0, _, z0⟩ := DataW.trod_string Tryz.underlying9 g0
  obtain ⟨n1, e1, _, _⟩ := DataW.trod_int Tryz.underlying3 g1
  cases e0; cases e1
  exact ⟨⟨s0, n1⟩, rfl, z0⟩
end Go.Proofs.YtgagekcjdapkfadGreatDoor

namespace Go.Proofs.YtgagekcjdapkfadGreatDoor
open Go Go.ChangeShapes Go.WideShapes Go.ChangeAt Go.RowKit

theorem Tryz.entryCells : Tryz.prog.cellsOf 101 = 4 := by kernel_rfl
theorem cells_joinE : ∀ (l : List En) (j : Nat) (u : Value), (cellsE l)[j]? = some u → ∃ (i : Nat) (hi : i < l.length) (k : Nat), k < 4 ∧ j = i * 4 + k ∧ (En.cells l[i])[k]? = some u
  | [], j, u, h => by simp [cellsE] at h
  | e :: l, j, u, h => by
    by_cases hj : j < 4
    · refine ⟨0, by simp, j, hj, by omega, ?_⟩
      have : (En.cells e ++ cellsE l)[j]? = some u := h
      rw [List.getElem?_append_left (by show j < 4; exact hj)] at this
      exact this
    · obtain ⟨m, rfl⟩ : ∃ m, j = m + 4 := ⟨j - 4, by omega⟩
      rw [cellsE_cons, List.getElem?_cons_succ, List.getElem?_cons_succ, List.getElem?_cons_succ, List.getElem?_cons_succ] at h
      obtain ⟨i, hi, k, hk, e1, e2⟩ := cells_joinE l m u h
      exact ⟨i + 1, by simpa using hi, k, hk, by omega, by simpa using e2⟩

set_option maxRecDepth 100000 in
theorem entries_open {H : Type} {enc : TypeId × Value → H} {W : World} {base : Nat} {spare : Nat → Bool} {held : Bool} {a0 : Option Addr} {len cap : Nat} {d : DataW H} {p : List MemPlace}
    (h : DataW.Trod enc Tryz.prog W base spare held 23 (.slice a0 len cap) d p) : ∃ l : List En, EnAt W (.slice a0 len cap) l ∧ ∀ e ∈ l, e.fl.who.size ≤ maxLen := by
  obtain ⟨fuel, hf⟩ := h
  rcases Go.Deep.open_slice Tryz.underlying23 hf with ⟨hcs, _⟩ | ⟨a, len', cap', m, n, D, Pl, hcs, _, hl, hm, hmm, _, hx⟩
  · have e : a0 = none ∧ len = 0 ∧ cap = 0 := by simpa [Value.cells] using hcs
    obtain ⟨rfl, rfl, rfl⟩ := e
    exact ⟨[], Or.inl ⟨none, 0, rfl, rfl⟩, fun x hx => by cases hx⟩
  · have e : a0 = some a ∧ len = len' ∧ cap = cap' := by simpa [Value.cells] using hcs
    obtain ⟨rfl, rfl, rfl⟩ := e
    have hlm : len ≤ m := by rw [hmm]; split <;> omega
    have each : ∀ i, i < len → ∃ x : En, (∀ k u, k < 4 → (En.cells x)[k]? = some u → W.cell? (a.add (i * 4 + k)) = some u) ∧ x.fl.who.size ≤ maxLen := by
      intro i hi
      obtain ⟨cs', h1, h2⟩ := hx i (by omega)
      rw [Tryz.entryCells] at h1
      obtain ⟨_, hlen, hcell⟩ := World.cells?_some h1
      obtain ⟨y0, y1, y2, k, _, _, g0, g1, g2⟩ := Go.Deep.trod_struct3 Tryz.underlying101 h2
      match cs', hlen with
      | [v0, v1, v2, v3], _ =>
        have q0 : DataW.trod enc Tryz.prog W base spare held k 3 [v0] = some y0 := g0
        have q1 : DataW.trod enc Tryz.prog W base spare held k 3 [v1] = some y1 := g1
        have q2 : DataW.trod enc Tryz.prog W base spare held k 98 [v2, v3] = some y2 := g2
        obtain ⟨z0, z1, k2, _, _, p0, p1⟩ := trod_struct2 Tryz.underlying98 q2
        have r0 : DataW.trod enc Tryz.prog W base spare held k2 9 [v2] = some z0 := p0
        have r1 : DataW.trod enc Tryz.prog W base spare held k2 3 [v3] = some z1 := p1
        obtain ⟨n0, e0, _, _⟩ := DataW.trod_int Tryz.underlying3 q0
        obtain ⟨n1, e1, _, _⟩ := DataW.trod_int Tryz.underlying3 q1
        obtain ⟨s2, e2, _, zz⟩ := DataW.trod_string Tryz.underlying9 r0
        obtain ⟨n3, e3, _, _⟩ := DataW.trod_int Tryz.underlying3 r1
        cases e0; cases e1; cases e2; cases e3
        refine ⟨⟨n0, n1, ⟨s2, n3⟩⟩, fun j u hj hu => ?_, zz⟩
        have c := hcell j (by show j < 4; exact hj)
        rw [Go.Deep.add_add] at c
        rw [c]
        exact hu
    have inst : Inhabited En := ⟨⟨0, 0, ⟨ByteArray.empty, 0⟩⟩⟩
    obtain ⟨f, hfx⟩ := Go.Deep.choose_lt (α := En) each
    have hlen : ((List.range len).map f).length = len := by simp
    refine ⟨(List.range len).map f, ?_, fun x hxm => ?_⟩
    · by_cases h0 : 0 < len
      · obtain ⟨b, off, spot⟩ := a
        have hspot : spot = none := by
          have := (hfx 0 h0).1 0 _ (by decide) rfl
          simpa [Addr.add] using World.cell?_spot this
        subst hspot
        refine Or.inr ⟨b, off, cap, by rw [hlen], by rw [hlen]; exact hl, fun j u hu => ?_⟩
        obtain ⟨i, hi, k, hk, rfl, e⟩ := cells_joinE _ j u hu
        have hil : i < len := by rw [hlen] at hi; exact hi
        have hg : ((List.range len).map f)[i] = f i := by simp
        rw [hg] at e
        have c := (hfx i hil).1 k u hk e
        rw [Go.WideShapes.add_plain] at c
        exact c
      · obtain rfl : len = 0 := by omega
        exact Or.inl ⟨some a, cap, rfl, rfl⟩
    · obtain ⟨i, hi, rfl⟩ := List.getElem_of_mem hxm
      have hil : i < len := by rw [hlen] at hi; exact hi
      have := (hfx i hil).2
      simpa using this
end Go.Proofs.YtgagekcjdapkfadGreatDoor

namespace Go.Proofs.YtgagekcjdapkfadGreatDoor
open Go Go.ChangeShapes Go.WideShapes Go.RowKit Go.Deep

theorem drop_take_one {l : List Value} {i : Nat} {v : Value} (h : l[i]? = some v) : (l.drop i).take 1 = [v] := by
  obtain ⟨hi, rfl⟩ := List.getElem?_eq_some_iff.1 h
  rw [List.drop_eq_getElem_cons hi]
  rfl
theorem field_trod {H : Type} {enc : TypeId × Value → H} {P : Program} {w : World} {base : Nat} {spare : Nat → Bool} {held : Bool} {t : TypeId} {fs : Array Field} (ht : P.underlying t = some (.struct fs)) (hone : oneCellFields P fs = true)
    {cs : Array Value} {d : DataW H} {p : List MemPlace} (h : DataW.Trod enc P w base spare held t (.agg cs) d p) (i : Nat) (f : Field) (hi : fs[i]? = some f) (v : Value) (hv : cs[i]? = some v) :
    ∃ n y, DataW.trod enc P w base spare held n f.type [v] = some y := by
  obtain ⟨fuel, hf⟩ := h
  obtain ⟨xs, n, _, _, _, hlen, hx⟩ := DataW.trod_struct ht hf
  have hlt : i < xs.length := by rw [hlen]; exact (Array.getElem?_eq_some_iff.1 hi).1
  obtain ⟨o, k⟩ := hone_of hone i f hi
  have := hx i f hi
  rw [o, k, List.getElem?_eq_getElem hlt] at this
  refine ⟨n, xs[i], ?_⟩
  rw [← this]
  congr 1
  exact (drop_take_one (by simpa [Value.cells] using hv)).symm
end Go.Proofs.YtgagekcjdapkfadGreatDoor

namespace Go.Proofs.YtgagekcjdapkfadGreatDoor
open Go Go.ChangeShapes Go.WideShapes Go.ChangeAt Go.RowKit Go.Deep

theorem Tryz.intCells : Tryz.prog.cellsOf 3 = 1 := by kernel_rfl
theorem Tryz.newsCells : Tryz.prog.cellsOf 44 = 5 := by kernel_rfl
theorem cell_trod {H : Type} {enc : TypeId × Value → H} {P : Program} {w : World} {base : Nat} {spare : Nat → Bool} {held : Bool} {t : TypeId} {fs : Array Field} (ht : P.underlying t = some (.struct fs)) (hone : oneCellFields P fs = true)
    {fuel : Nat} {cs : List Value} {x : DataW H × List MemPlace} (h : DataW.trod enc P w base spare held fuel t cs = some x) (i : Nat) (f : Field) (hi : fs[i]? = some f) (v : Value) (hv : cs[i]? = some v) :
    ∃ n y, DataW.trod enc P w base spare held n f.type [v] = some y := by
  obtain ⟨xs, n, _, _, _, hlen, hx⟩ := DataW.trod_struct ht h
  have hlt : i < xs.length := by rw [hlen]; exact (Array.getElem?_eq_some_iff.1 hi).1
  obtain ⟨o, k⟩ := hone_of hone i f hi
  have := hx i f hi
  rw [o, k, List.getElem?_eq_getElem hlt] at this
  refine ⟨n, xs[i], ?_⟩
  rw [← this]
  congr 1
  exact (drop_take_one hv).symm

theorem ints_open {H : Type} {enc : TypeId × Value → H} {W : World} {base : Nat} {spare : Nat → Bool} {held : Bool} {a0 : Option Addr} {len cap : Nat} {d : DataW H} {p : List MemPlace}
    (h : DataW.Trod enc Tryz.prog W base spare held 22 (.slice a0 len cap) d p) : ∃ st, IntsIn W (.slice a0 len cap) st := by
  obtain ⟨fuel, hf⟩ := h
  rcases open_ints Tryz.underlying22 Tryz.underlying3 Tryz.intCells hf with ⟨hcs, _⟩ | ⟨a, len', cap', zs, hcs, _, hl, _, hz, _, hcell, _⟩
  · have e : a0 = none ∧ len = 0 ∧ cap = 0 := by simpa [Value.cells] using hcs
    obtain ⟨rfl, rfl, rfl⟩ := e
    exact ⟨[], none, 0, rfl, Nat.le_refl _, fun h => absurd h (by simp)⟩
  · have e : a0 = some a ∧ len = len' ∧ cap = cap' := by simpa [Value.cells] using hcs
    obtain ⟨rfl, rfl, rfl⟩ := e
    have hle : len ≤ zs.length := by rw [hz]; split <;> omega
    have hlen : (zs.take len).length = len := by rw [List.length_take]; omega
    refine ⟨zs.take len, some a, cap, by rw [hlen], by omega, fun h0 => ?_⟩
    rw [hlen] at h0
    obtain ⟨b, off, spot⟩ := a
    have hspot : spot = none := by simpa [Addr.add] using World.cell?_spot (hcell 0 (by omega))
    subst hspot
    refine ⟨b, off, rfl, ?_, fun i x hx => ?_⟩
    · have := hcell 0 (by omega)
      rw [Go.WideShapes.add_plain] at this
      exact cell_lt this
    · obtain ⟨hi, e⟩ := List.getElem?_eq_some_iff.1 hx
      rw [hlen] at hi
      have hj : i < zs.length := by omega
      have := hcell i hj
      rw [Go.WideShapes.add_plain] at this
      rw [this, List.getD_eq_getElem?_getD, List.getElem?_eq_getElem hj, ← e, List.getElem_take]
      rfl

end Go.Proofs.YtgagekcjdapkfadGreatDoor

namespace Go.Proofs.YtgagekcjdapkfadGreatDoor
open Go Go.ChangeShapes Go.WideShapes Go.RowKit Go.Deep

theorem array6 {α : Type} {cs : Array α} (h : cs.size = 6) : ∃ c0 c1 c2 c3 c4 c5, cs = #[c0, c1, c2, c3, c4, c5] := by
  obtain ⟨l⟩ := cs
  match l, h with
  | [c0, c1, c2, c3, c4, c5], _ => exact ⟨c0, c1, c2, c3, c4, c5, rfl⟩
theorem str_of {H : Type} {enc : TypeId × Value → H} {W : World} {base : Nat} {spare : Nat → Bool} {held : Bool} {v : Value} (h : ∃ n y, DataW.trod enc Tryz.prog W base spare held n 9 [v] = some y) : ∃ s, v = .string s ∧ s.size ≤ maxLen := by
  obtain ⟨n, y, h⟩ := h
  obtain ⟨s, e, _, z⟩ := DataW.trod_string Tryz.underlying9 h
  cases e
  exact ⟨s, rfl, z⟩
theorem int_of {H : Type} {enc : TypeId × Value → H} {W : World} {base : Nat} {spare : Nat → Bool} {held : Bool} {v : Value} (h : ∃ n y, DataW.trod enc Tryz.prog W base spare held n 3 [v] = some y) : ∃ n, v = .int .i64 n := by
  obtain ⟨n, y, h⟩ := h
  obtain ⟨s, e, _, _⟩ := DataW.trod_int Tryz.underlying3 h
  cases e
  exact ⟨s, rfl⟩
set_option maxRecDepth 100000 in
theorem tk_open {H : Type} {enc : TypeId × Value → H} {W : World} {base b0 : Nat} {spare : Nat → Bool} {held : Bool} {v : Value} {d : DataW H} {p : List MemPlace} (hv : Value.okWide Tryz.prog W .any b0 64 v)
    (h : DataW.Trod enc Tryz.prog W base spare held 64 v d p) : ∃ q : Tk, v = q.val ∧ q.who.size ≤ maxLen ∧ q.dst.size ≤ maxLen := by
  obtain ⟨cs, rfl, hsz⟩ := okWide_struct Tryz.underlying64 hv
  obtain ⟨c0, c1, c2, c3, c4, c5, rfl⟩ := array6 (hsz.trans (by kernel_rfl))
  have g := field_trod Tryz.underlying64 (by kernel_rfl) h
  obtain ⟨s0, rfl, z0⟩ := str_of (g 0 _ rfl c0 rfl)
  obtain ⟨s1, rfl, z1⟩ := str_of (g 1 _ rfl c1 rfl)
  obtain ⟨n2, rfl⟩ := int_of (g 2 _ rfl c2 rfl)
  obtain ⟨n3, rfl⟩ := int_of (g 3 _ rfl c3 rfl)
  obtain ⟨n4, rfl⟩ := int_of (g 4 _ rfl c4 rfl)
  obtain ⟨n5, rfl⟩ := int_of (g 5 _ rfl c5 rfl)
  exact ⟨⟨s0, s1, n2, n3, n4, n5⟩, rfl, z0, z1⟩
end Go.Proofs.YtgagekcjdapkfadGreatDoor

namespace Go.Proofs.YtgagekcjdapkfadGreatDoor
open Go Go.ChangeShapes Go.WideShapes Go.ChangeAt Go.RowKit Go.Deep

theorem Tryz.knockCells : Tryz.prog.cellsOf 73 = 8 := by kernel_rfl
set_option maxRecDepth 100000 in
theorem knocks_open {H : Type} {enc : TypeId × Value → H} {W : World} {base : Nat} {spare : Nat → Bool} {held : Bool} {a0 : Option Addr} {len cap : Nat} {d : DataW H} {p : List MemPlace}
    (h : DataW.Trod enc Tryz.prog W base spare held 62 (.slice a0 len cap) d p) : ∃ l : List Kn, KnIn W (.slice a0 len cap) l := by
  obtain ⟨fuel, hf⟩ := h
  rcases Go.Deep.open_slice Tryz.underlying62 hf with ⟨hcs, _⟩ | ⟨a, len', cap', m, n, D, Pl, hcs, _, hl, hm, hmm, _, hx⟩
  · have e : a0 = none ∧ len = 0 ∧ cap = 0 := by simpa [Value.cells] using hcs
    obtain ⟨rfl, rfl, rfl⟩ := e
    exact ⟨[], none, 0, rfl, Nat.le_refl _, fun h => absurd h (by simp)⟩
  · have e : a0 = some a ∧ len = len' ∧ cap = cap' := by simpa [Value.cells] using hcs
    obtain ⟨rfl, rfl, rfl⟩ := e
    have hlm : len ≤ m := by rw [hmm]; split <;> omega
    have each : ∀ i, i < len → ∃ x : Kn, W.cell? (a.add (i * 8)) = some (.string x.kind) ∧ W.cell? (a.add (i * 8 + 1)) = some (.string x.s) ∧ W.cell? (a.add (i * 8 + 2)) = some (.int .i64 x.n) ∧ W.cell? (a.add (i * 8 + 3)) = some (.int .i64 x.w.many) ∧ W.cell? (a.add (i * 8 + 4)) = some (.int .i64 x.w.from') ∧ W.cell? (a.add (i * 8 + 5)) = some (.int .i64 x.w.time) ∧ W.cell? (a.add (i * 8 + 6)) = some (.int .i64 x.w.key) ∧ W.cell? (a.add (i * 8 + 7)) = some (.string x.w.text) := by
      intro i hi
      obtain ⟨cs', h1, h2⟩ := hx i (by omega)
      rw [Tryz.knockCells] at h1
      obtain ⟨_, hlen, hcell⟩ := World.cells?_some h1
      obtain ⟨y0, y1, y2, y3, k, _, _, g0, g1, g2, g3⟩ := Go.Joins.trod_struct4 Tryz.underlying73 h2
      match cs', hlen with
      | [v0, v1, v2, v3, v4, v5, v6, v7], _ =>
        have q0 : DataW.trod enc Tryz.prog W base spare held k 9 [v0] = some y0 := g0
        have q1 : DataW.trod enc Tryz.prog W base spare held k 9 [v1] = some y1 := g1
        have q2 : DataW.trod enc Tryz.prog W base spare held k 3 [v2] = some y2 := g2
        have q3 : DataW.trod enc Tryz.prog W base spare held k 44 [v3, v4, v5, v6, v7] = some y3 := g3
        have fld := fun (j : Nat) (f : Field) hj v hv => cell_trod Tryz.underlying44 (by kernel_rfl) q3 j f hj v hv
        obtain ⟨_, _, r0⟩ := fld 0 _ rfl v3 rfl
        obtain ⟨_, _, r1⟩ := fld 1 _ rfl v4 rfl
        obtain ⟨_, _, r2⟩ := fld 2 _ rfl v5 rfl
        obtain ⟨_, _, r3⟩ := fld 3 _ rfl v6 rfl
        obtain ⟨_, _, r4⟩ := fld 4 _ rfl v7 rfl
        obtain ⟨s0, e0, _, _⟩ := DataW.trod_string Tryz.underlying9 q0
        obtain ⟨s1, e1, _, _⟩ := DataW.trod_string Tryz.underlying9 q1
        obtain ⟨n1, e2, _, _⟩ := DataW.trod_int Tryz.underlying3 q2
        obtain ⟨n2, e3, _, _⟩ := DataW.trod_int Tryz.underlying3 r0
        obtain ⟨n3, e4, _, _⟩ := DataW.trod_int Tryz.underlying3 r1
        obtain ⟨n4, e5, _, _⟩ := DataW.trod_int Tryz.underlying3 r2
        obtain ⟨n5, e6, _, _⟩ := DataW.trod_int Tryz.underlying3 r3
        obtain ⟨s6, e7, _, _⟩ := DataW.trod_string Tryz.underlying9 r4
        cases e0; cases e1; cases e2; cases e3; cases e4; cases e5; cases e6; cases e7
        have c0 := hcell 0 (by omega)
        have c1 := hcell 1 (by omega)
        have c2 := hcell 2 (by omega)
        have c3 := hcell 3 (by omega)
        have c4 := hcell 4 (by omega)
        have c5 := hcell 5 (by omega)
        have c6 := hcell 6 (by omega)
        have c7 := hcell 7 (by omega)
        rw [Go.Deep.add_add] at c0 c1 c2 c3 c4 c5 c6 c7
        exact ⟨⟨s0, s1, n1, ⟨n2, n3, n4, n5, s6⟩⟩, c0, c1, c2, c3, c4, c5, c6, c7⟩
    have inst : Inhabited Kn := ⟨⟨ByteArray.empty, ByteArray.empty, 0, ⟨0, 0, 0, 0, ByteArray.empty⟩⟩⟩
    obtain ⟨f, hfx⟩ := Go.Deep.choose_lt (α := Kn) each
    have hlen : ((List.range len).map f).length = len := by simp
    refine ⟨(List.range len).map f, some a, cap, by rw [hlen], by omega, fun h0 => ?_⟩
    rw [hlen] at h0
    obtain ⟨b, off, spot⟩ := a
    have hspot : spot = none := by
      have := (hfx 0 h0).1
      simpa [Addr.add] using World.cell?_spot this
    subst hspot
    refine ⟨b, off, rfl, ?_, fun i x hx => ?_⟩
    · have := (hfx 0 h0).1
      rw [Go.WideShapes.add_plain] at this
      exact cell_lt this
    · obtain ⟨hi, e⟩ := List.getElem?_eq_some_iff.1 hx
      rw [hlen] at hi
      have hg : ((List.range len).map f)[i]'(by rw [hlen]; exact hi) = f i := by simp
      have e2 : x = f i := e.symm.trans hg
      obtain ⟨c0, c1, c2, c3, c4, c5, c6, c7⟩ := hfx i hi
      rw [Go.WideShapes.add_plain] at c0 c1 c2 c3 c4 c5 c6 c7
      rw [e2]
      exact ⟨c0, c1, c2, c3, c4, c5, c6, c7⟩
end Go.Proofs.YtgagekcjdapkfadGreatDoor

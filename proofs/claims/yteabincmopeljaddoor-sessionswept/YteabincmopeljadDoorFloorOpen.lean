/-
  Floors that came in, opened: a slice's list, and a floor by value, each text no longer than one can be.
-/
import Derived.Test.YteabincmopeljadDoorFloorDo
import Derived.Deep.Slices
import Derived.Lib.SmallJoins
import Derived.ChangeArms
import Derived.ProofKit
import Derived.WideShapes
import Derived.OpenShut
namespace Go.Proofs.YteabincmopeljadDoor
open Go Go.ChangeShapes Go.WideShapes Go.ChangeAt Go.RowKit

theorem Tryd.floorCells : Tryd.prog.cellsOf 83 = 2 := by kernel_rfl
theorem cells_join : ∀ (l : List Fl) (j : Nat) (u : Value), (cellsF l)[j]? = some u → ∃ (i : Nat) (hi : i < l.length), (j = i * 2 ∧ u = .string l[i].who) ∨ (j = i * 2 + 1 ∧ u = .int .i64 l[i].ep)
  | [], j, u, h => by simp [cellsF] at h
  | f :: l, 0, u, h => ⟨0, by simp, Or.inl ⟨rfl, by rw [cellsF_cons] at h; simpa using h.symm⟩⟩
  | f :: l, 1, u, h => ⟨0, by simp, Or.inr ⟨rfl, by rw [cellsF_cons] at h; simpa using h.symm⟩⟩
  | f :: l, j + 2, u, h => by
    rw [cellsF_cons, List.getElem?_cons_succ, List.getElem?_cons_succ] at h
    obtain ⟨i, hi, e⟩ := cells_join l j u h
    refine ⟨i + 1, by simpa using hi, ?_⟩
    rcases e with ⟨e1, e2⟩ | ⟨e1, e2⟩
    · exact Or.inl ⟨by omega, by simpa using e2⟩
    · exact Or.inr ⟨by omega, by simpa using e2⟩

set_option maxRecDepth 100000 in
theorem floors_open {H : Type} {enc : TypeId × Value → H} {W : World} {base : Nat} {spare : Nat → Bool} {held : Bool} {a0 : Option Addr} {len cap : Nat} {d : DataW H} {p : List MemPlace}
    (h : DataW.Trod enc Tryd.prog W base spare held 46 (.slice a0 len cap) d p) : ∃ l : List Fl, FlAt W (.slice a0 len cap) l ∧ ∀ f ∈ l, f.who.size ≤ maxLen := by
  obtain ⟨fuel, hf⟩ := h
  rcases Go.Deep.open_slice Tryd.underlying46 hf with ⟨hcs, _⟩ | ⟨a, len', cap', m, n, D, Pl, hcs, _, hl, hm, hmm, _, hx⟩
  · have e : a0 = none ∧ len = 0 ∧ cap = 0 := by simpa [Value.cells] using hcs
    obtain ⟨rfl, rfl, rfl⟩ := e
    exact ⟨[], Or.inl ⟨none, 0, rfl, rfl⟩, fun x hx => by cases hx⟩
  · have e : a0 = some a ∧ len = len' ∧ cap = cap' := by simpa [Value.cells] using hcs
    obtain ⟨rfl, rfl, rfl⟩ := e
    have hlm : len ≤ m := by rw [hmm]; split <;> omega
    have each : ∀ i, i < len → ∃ x : Fl, (W.cell? (a.add (i * 2)) = some (.string x.who) ∧ W.cell? (a.add (i * 2 + 1)) = some (.int .i64 x.ep)) ∧ x.who.size ≤ maxLen := by
      intro i hi
      obtain ⟨cs', h1, h2⟩ := hx i (by omega)
      rw [Tryd.floorCells] at h1
      obtain ⟨_, hlen, hcell⟩ := World.cells?_some h1
      obtain ⟨y0, y1, k, _, _, g0, g1⟩ := trod_struct2 Tryd.underlying83 h2
      match cs', hlen with
      | [v0, v1], _ =>
        have q0 : DataW.trod enc Tryd.prog W base spare held k 9 [v0] = some y0 := g0
        have q1 : DataW.trod enc Tryd.prog W base spare held k 3 [v1] = some y1 := g1
        obtain ⟨s0, e0, _, z0⟩ := DataW.trod_string Tryd.underlying9 q0
        obtain ⟨n1, e1, _, _⟩ := DataW.trod_int Tryd.underlying3 q1
        cases e0; cases e1
        have c0 := hcell 0 (by omega)
        have c1 := hcell 1 (by omega)
        rw [Go.Deep.add_add] at c0 c1
        exact ⟨⟨s0, n1⟩, ⟨c0, c1⟩, z0⟩
    have inst : Inhabited Fl := ⟨⟨ByteArray.empty, 0⟩⟩
    obtain ⟨f, hfx⟩ := Go.Deep.choose_lt (α := Fl) each
    have hlen : ((List.range len).map f).length = len := by simp
    refine ⟨(List.range len).map f, ?_, fun x hxm => ?_⟩
    · by_cases h0 : 0 < len
      · obtain ⟨b, off, spot⟩ := a
        have hspot : spot = none := by
          have := (hfx 0 h0).1.1
          simpa [Addr.add] using World.cell?_spot this
        subst hspot
        refine Or.inr ⟨b, off, cap, by rw [hlen], by rw [hlen]; exact hl, fun j u hu => ?_⟩
        obtain ⟨i, hi, e⟩ := cells_join _ j u hu
        have hil : i < len := by rw [hlen] at hi; exact hi
        have hg : ((List.range len).map f)[i] = f i := by simp
        rw [hg] at e
        obtain ⟨c0, c1⟩ := (hfx i hil).1
        rw [Go.WideShapes.add_plain] at c0 c1
        rcases e with ⟨rfl, rfl⟩ | ⟨rfl, rfl⟩
        · exact c0
        · exact c1
      · obtain rfl : len = 0 := by omega
        exact Or.inl ⟨some a, cap, rfl, rfl⟩
    · obtain ⟨i, hi, rfl⟩ := List.getElem_of_mem hxm
      have hil : i < len := by rw [hlen] at hi; exact hi
      have := (hfx i hil).2
      simpa using this

set_option maxRecDepth 100000 in
theorem fl_open {H : Type} {enc : TypeId × Value → H} {W : World} {base b0 : Nat} {spare : Nat → Bool} {held : Bool} {v : Value} {d : DataW H} {p : List MemPlace} (hv : Value.okWide Tryd.prog W .any b0 83 v)
    (h : DataW.Trod enc Tryd.prog W base spare held 83 v d p) : ∃ q : Fl, v = q.val ∧ q.who.size ≤ maxLen := by
  obtain ⟨v0, v1, y0, y1, n, rfl, _, _, g0, g1⟩ := Go.Joins.open_agg2 Tryd.underlying83 (by kernel_rfl) Tryd.floorCells hv h
  obtain ⟨s0, e0, _, z0⟩ := DataW.trod_string Tryd.underlying9 g0
  obtain ⟨n1, e1, _, _⟩ := DataW.trod_int Tryd.underlying3 g1
  cases e0; cases e1
  exact ⟨⟨s0, n1⟩, rfl, z0⟩
end Go.Proofs.YteabincmopeljadDoor

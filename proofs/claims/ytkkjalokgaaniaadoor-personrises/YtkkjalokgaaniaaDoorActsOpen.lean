/-
  A slice of acts that came in, opened: acts as the walk has them, each text no longer than one can be.
-/
import Derived.Test.YtkkjalokgaaniaaDoorBookLaw
import Derived.Deep.Slices
import Derived.Lib.SmallJoins
import Derived.ChangeArms
import Derived.ProofKit
namespace Go.Proofs.YtkkjalokgaaniaaDoor
open Go Go.ChangeShapes Go.WideShapes Go.ChangeAt Go.RowKit

theorem Tryd.actCells : Tryd.prog.cellsOf 50 = 4 := by kernel_rfl
set_option maxRecDepth 100000 in
theorem acts_open {H : Type} {enc : TypeId × Value → H} {W : World} {base : Nat} {spare : Nat → Bool} {held : Bool} {a0 : Option Addr} {len cap : Nat} {d : DataW H} {p : List MemPlace}
    (h : DataW.Trod enc Tryd.prog W base spare held 45 (.slice a0 len cap) d p) : ∃ l : List ActD, ActsAt W (.slice a0 len cap) l ∧ l.length ≤ maxLen ∧ ∀ x ∈ l, x.kind.size ≤ maxLen ∧ x.name.size ≤ maxLen := by
  obtain ⟨fuel, hf⟩ := h
  rcases Go.Deep.open_slice Tryd.underlying45 hf with ⟨hcs, _⟩ | ⟨a, len', cap', m, n, D, Pl, hcs, _, hl, hm, hmm, _, hx⟩
  · have e : a0 = none ∧ len = 0 ∧ cap = 0 := by simpa [Value.cells] using hcs
    obtain ⟨rfl, rfl, rfl⟩ := e
    exact ⟨[], ⟨none, 0, rfl, Nat.le_refl _, fun h => absurd h (by simp)⟩, by simp, fun x hx => by cases hx⟩
  · have e : a0 = some a ∧ len = len' ∧ cap = cap' := by simpa [Value.cells] using hcs
    obtain ⟨rfl, rfl, rfl⟩ := e
    have hlm : len ≤ m := by rw [hmm]; split <;> omega
    have each : ∀ i, i < len → ∃ x : ActD, (W.cell? (a.add (i * 4)) = some (.string x.kind) ∧ W.cell? (a.add (i * 4 + 1)) = some (.string x.name) ∧ W.cell? (a.add (i * 4 + 2)) = some (.int .i64 x.key) ∧ W.cell? (a.add (i * 4 + 3)) = some (.bool x.is)) ∧ x.kind.size ≤ maxLen ∧ x.name.size ≤ maxLen := by
      intro i hi
      obtain ⟨cs', h1, h2⟩ := hx i (by omega)
      rw [Tryd.actCells] at h1
      obtain ⟨_, hlen, hcell⟩ := World.cells?_some h1
      obtain ⟨y0, y1, y2, y3, k, _, _, g0, g1, g2, g3⟩ := Go.Joins.trod_struct4 Tryd.underlying50 h2
      match cs', hlen with
      | [v0, v1, v2, v3], _ =>
        have q0 : DataW.trod enc Tryd.prog W base spare held k 9 [v0] = some y0 := g0
        have q1 : DataW.trod enc Tryd.prog W base spare held k 9 [v1] = some y1 := g1
        have q2 : DataW.trod enc Tryd.prog W base spare held k 3 [v2] = some y2 := g2
        have q3 : DataW.trod enc Tryd.prog W base spare held k 4 [v3] = some y3 := g3
        obtain ⟨s0, e0, _, z0⟩ := DataW.trod_string Tryd.underlying9 q0
        obtain ⟨s1, e1, _, z1⟩ := DataW.trod_string Tryd.underlying9 q1
        obtain ⟨n2, e2, _, _⟩ := DataW.trod_int Tryd.underlying3 q2
        obtain ⟨b3, e3, _⟩ := DataW.trod_bool Tryd.underlying4 q3
        cases e0; cases e1; cases e2; cases e3
        have c0 := hcell 0 (by omega)
        have c1 := hcell 1 (by omega)
        have c2 := hcell 2 (by omega)
        have c3 := hcell 3 (by omega)
        rw [Go.Deep.add_add] at c0 c1 c2 c3
        exact ⟨⟨s0, s1, n2, b3⟩, ⟨c0, c1, c2, c3⟩, z0, z1⟩
    have inst : Inhabited ActD := ⟨⟨ByteArray.empty, ByteArray.empty, 0, false⟩⟩
    obtain ⟨f, hfx⟩ := Go.Deep.choose_lt (α := ActD) each
    have hget : ∀ i x, ((List.range len).map f)[i]? = some x → i < len ∧ x = f i := fun i x hi => by
      rw [List.getElem?_map] at hi
      by_cases hil : i < len
      · rw [List.getElem?_range hil] at hi
        exact ⟨hil, (Option.some.inj hi).symm⟩
      · rw [List.getElem?_eq_none (by simp; omega)] at hi
        cases hi
    refine ⟨(List.range len).map f, ⟨some a, cap, by simp, by simpa using hl, fun hn => ?_⟩, by simp; omega, fun x hxm => ?_⟩
    · have h0 : 0 < len := by simpa using hn
      obtain ⟨b, off, spot⟩ := a
      have hspot : spot = none := by
        have := (hfx 0 h0).1.1
        simpa [Addr.add] using World.cell?_spot this
      subst hspot
      refine ⟨b, off, rfl, ?_, fun i x hi => ?_⟩
      · have := cell_lt (hfx 0 h0).1.1
        rw [Go.WideShapes.add_plain] at this
        exact this
      · obtain ⟨hil, rfl⟩ := hget i x hi
        obtain ⟨c0, c1, c2, c3⟩ := (hfx i hil).1
        rw [Go.WideShapes.add_plain] at c0 c1 c2 c3
        exact ⟨c0, by rw [Nat.add_assoc]; exact c1, by rw [Nat.add_assoc]; exact c2, by rw [Nat.add_assoc]; exact c3⟩
    · obtain ⟨i, hi, rfl⟩ := List.getElem_of_mem hxm
      have hil : i < len := by simpa using hi
      have := (hfx i hil).2
      simpa using this
end Go.Proofs.YtkkjalokgaaniaaDoor

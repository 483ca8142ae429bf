/-
  Words that came in, opened: a slice's list.
-/
import Derived.Test.YtgagekcjdapkfadDoorSeenLaw
import Derived.Deep.Fields
import Derived.Deep.Slices
import Derived.Lib.SmallJoins
import Derived.ChangeArms
import Derived.ProofKit
namespace Go.Proofs.YtgagekcjdapkfadDoor
open Go Go.ChangeShapes Go.WideShapes Go.ChangeAt Go.RowKit

theorem Tryd.wordCells : Tryd.prog.cellsOf 33 = 3 := by kernel_rfl
set_option maxRecDepth 100000 in
theorem words_open {H : Type} {enc : TypeId × Value → H} {W : World} {base : Nat} {spare : Nat → Bool} {held : Bool} {a0 : Option Addr} {len cap : Nat} {d : DataW H} {p : List MemPlace}
    (h : DataW.Trod enc Tryd.prog W base spare held 22 (.slice a0 len cap) d p) : ∃ l : List Wq, WqIn W (.slice a0 len cap) l := by
  obtain ⟨fuel, hf⟩ := h
  rcases Go.Deep.open_slice Tryd.underlying22 hf with ⟨hcs, _⟩ | ⟨a, len', cap', m, n, D, Pl, hcs, _, hl, hm, hmm, _, hx⟩
  · have e : a0 = none ∧ len = 0 ∧ cap = 0 := by simpa [Value.cells] using hcs
    obtain ⟨rfl, rfl, rfl⟩ := e
    exact ⟨[], none, 0, rfl, Nat.le_refl _, fun h => absurd h (by simp)⟩
  · have e : a0 = some a ∧ len = len' ∧ cap = cap' := by simpa [Value.cells] using hcs
    obtain ⟨rfl, rfl, rfl⟩ := e
    have hlm : len ≤ m := by rw [hmm]; split <;> omega
    have each : ∀ i, i < len → ∃ x : Wq, W.cell? (a.add (i * 3)) = some (.string x.s) ∧ W.cell? (a.add (i * 3 + 1)) = some (.int .i64 x.t) ∧ W.cell? (a.add (i * 3 + 2)) = some (.int .i64 x.now) := by
      intro i hi
      obtain ⟨cs', h1, h2⟩ := hx i (by omega)
      rw [Tryd.wordCells] at h1
      obtain ⟨_, hlen, hcell⟩ := World.cells?_some h1
      obtain ⟨y0, y1, y2, k, _, _, g0, g1, g2⟩ := Go.Deep.trod_struct3 Tryd.underlying33 h2
      match cs', hlen with
      | [v0, v1, v2], _ =>
        have q0 : DataW.trod enc Tryd.prog W base spare held k 9 [v0] = some y0 := g0
        have q1 : DataW.trod enc Tryd.prog W base spare held k 3 [v1] = some y1 := g1
        have q2 : DataW.trod enc Tryd.prog W base spare held k 3 [v2] = some y2 := g2
        obtain ⟨s0, e0, _, _⟩ := DataW.trod_string Tryd.underlying9 q0
        obtain ⟨n1, e1, _, _⟩ := DataW.trod_int Tryd.underlying3 q1
        obtain ⟨n2, e2, _, _⟩ := DataW.trod_int Tryd.underlying3 q2
        cases e0; cases e1; cases e2
        have c0 := hcell 0 (by omega)
        have c1 := hcell 1 (by omega)
        have c2 := hcell 2 (by omega)
        rw [Go.Deep.add_add] at c0 c1 c2
        exact ⟨⟨s0, n1, n2⟩, c0, c1, c2⟩
    have inst : Inhabited Wq := ⟨⟨ByteArray.empty, 0, 0⟩⟩
    obtain ⟨f, hfx⟩ := Go.Deep.choose_lt (α := Wq) each
    have hget : ∀ i x, ((List.range len).map f)[i]? = some x → i < len ∧ x = f i := fun i x hi => by
      rw [List.getElem?_map] at hi
      by_cases hil : i < len
      · rw [List.getElem?_range hil] at hi
        exact ⟨hil, (Option.some.inj hi).symm⟩
      · rw [List.getElem?_eq_none (by simp; omega)] at hi
        cases hi
    refine ⟨(List.range len).map f, some a, cap, by simp, by simpa using hl, fun hn => ?_⟩
    have h0 : 0 < len := by simpa using hn
    obtain ⟨b, off, spot⟩ := a
    have hspot : spot = none := by
      have := (hfx 0 h0).1
      simpa [Addr.add] using World.cell?_spot this
    subst hspot
    refine ⟨b, off, rfl, ?_, fun i x hi => ?_⟩
    · have := cell_lt (hfx 0 h0).1
      rw [Go.WideShapes.add_plain] at this
      exact this
    · obtain ⟨hil, rfl⟩ := hget i x hi
      obtain ⟨c0, c1, c2⟩ := hfx i hil
      rw [Go.WideShapes.add_plain] at c0 c1 c2
      exact ⟨c0, by rw [Nat.add_assoc]; exact c1, by rw [Nat.add_assoc]; exact c2⟩
end Go.Proofs.YtgagekcjdapkfadDoor

/-
  Deals that came in, opened: a slice's list, each deal with its ticket and its floors.
-/
import Derived.Test.YteabincmopeljaeGreatDoorSessLaw
import Derived.Test.YteabincmopeljaeGreatDoorFloorOpen
import Derived.Deep.Fields
namespace Go.Proofs.YteabincmopeljaeGreatDoor
open Go Go.ChangeShapes Go.WideShapes Go.ChangeAt Go.RowKit Go.Deep

section
variable {H : Type} {P : Program} {w : World} {base : Nat} {enc : TypeId × Value → H} {spare : Nat → Bool} {held : Bool}
theorem trod_five {t : TypeId} {f0 f1 f2 f3 f4 : Field} {fuel : Nat} {cs : List Value} {x : DataW H × List MemPlace} (ht : P.underlying t = some (.struct #[f0, f1, f2, f3, f4])) (h : DataW.trod enc P w base spare held fuel t cs = some x) :
    ∃ y0 y1 y2 y3 y4 n, DataW.trod enc P w base spare held n f0.type ((cs.drop f0.offset).take (P.cellsOf f0.type)) = some y0 ∧
      DataW.trod enc P w base spare held n f1.type ((cs.drop f1.offset).take (P.cellsOf f1.type)) = some y1 ∧ DataW.trod enc P w base spare held n f2.type ((cs.drop f2.offset).take (P.cellsOf f2.type)) = some y2 ∧
      DataW.trod enc P w base spare held n f3.type ((cs.drop f3.offset).take (P.cellsOf f3.type)) = some y3 ∧ DataW.trod enc P w base spare held n f4.type ((cs.drop f4.offset).take (P.cellsOf f4.type)) = some y4 := by
  obtain ⟨xs, n, _, rfl, _, hlen, hf⟩ := DataW.trod_struct ht h
  match xs, hlen with
  | [y0, y1, y2, y3, y4], _ => exact ⟨y0, y1, y2, y3, y4, n, by simpa using hf 0 f0 rfl, by simpa using hf 1 f1 rfl, by simpa using hf 2 f2 rfl, by simpa using hf 3 f3 rfl, by simpa using hf 4 f4 rfl⟩
theorem trod_six {t : TypeId} {f0 f1 f2 f3 f4 f5 : Field} {fuel : Nat} {cs : List Value} {x : DataW H × List MemPlace} (ht : P.underlying t = some (.struct #[f0, f1, f2, f3, f4, f5])) (h : DataW.trod enc P w base spare held fuel t cs = some x) :
    ∃ y0 y1 y2 y3 y4 y5 n, DataW.trod enc P w base spare held n f0.type ((cs.drop f0.offset).take (P.cellsOf f0.type)) = some y0 ∧
      DataW.trod enc P w base spare held n f1.type ((cs.drop f1.offset).take (P.cellsOf f1.type)) = some y1 ∧ DataW.trod enc P w base spare held n f2.type ((cs.drop f2.offset).take (P.cellsOf f2.type)) = some y2 ∧
      DataW.trod enc P w base spare held n f3.type ((cs.drop f3.offset).take (P.cellsOf f3.type)) = some y3 ∧ DataW.trod enc P w base spare held n f4.type ((cs.drop f4.offset).take (P.cellsOf f4.type)) = some y4 ∧
      DataW.trod enc P w base spare held n f5.type ((cs.drop f5.offset).take (P.cellsOf f5.type)) = some y5 := by
  obtain ⟨xs, n, _, rfl, _, hlen, hf⟩ := DataW.trod_struct ht h
  match xs, hlen with
  | [y0, y1, y2, y3, y4, y5], _ => exact ⟨y0, y1, y2, y3, y4, y5, n, by simpa using hf 0 f0 rfl, by simpa using hf 1 f1 rfl, by simpa using hf 2 f2 rfl, by simpa using hf 3 f3 rfl, by simpa using hf 4 f4 rfl, by simpa using hf 5 f5 rfl⟩
end

theorem Tryz.dealCells : Tryz.prog.cellsOf 35 = 10 := by kernel_rfl
set_option maxRecDepth 100000 in
set_option maxHeartbeats 1000000 in
theorem deals_open {H : Type} {enc : TypeId × Value → H} {W : World} {base : Nat} {spare : Nat → Bool} {held : Bool} {a0 : Option Addr} {len cap : Nat} {d : DataW H} {p : List MemPlace}
    (h : DataW.Trod enc Tryz.prog W base spare held 22 (.slice a0 len cap) d p) : ∃ l : List Dl, DlIn W (.slice a0 len cap) l ∧ ∀ m ∈ l, (m.t.who.size ≤ maxLen ∧ m.t.dst.size ≤ maxLen) ∧ (∀ f ∈ m.f, f.who.size ≤ maxLen) ∧ (Lit.int IntKind.i64 m.n).wf = true := by
  obtain ⟨fuel, hf⟩ := h
  rcases Go.Deep.open_slice Tryz.underlying22 hf with ⟨hcs, _⟩ | ⟨a, len', cap', m, n, D, Pl, hcs, _, hl, hm, hmm, _, hx⟩
  · have e : a0 = none ∧ len = 0 ∧ cap = 0 := by simpa [Value.cells] using hcs
    obtain ⟨rfl, rfl, rfl⟩ := e
    exact ⟨[], ⟨none, 0, rfl, Nat.le_refl _, fun h => absurd h (by simp)⟩, fun x hx => by cases hx⟩
  · have e : a0 = some a ∧ len = len' ∧ cap = cap' := by simpa [Value.cells] using hcs
    obtain ⟨rfl, rfl, rfl⟩ := e
    have hlm : len ≤ m := by rw [hmm]; split <;> omega
    have each : ∀ i, i < len → ∃ x : Dl, ((W.cell? (a.add (i * 10)) = some (.string x.kind) ∧ W.cell? (a.add (i * 10 + 1)) = some (.string x.t.who) ∧ W.cell? (a.add (i * 10 + 2)) = some (.string x.t.dst) ∧ W.cell? (a.add (i * 10 + 3)) = some (.int .i64 x.t.epoch) ∧ W.cell? (a.add (i * 10 + 4)) = some (.int .i64 x.t.frm) ∧ W.cell? (a.add (i * 10 + 5)) = some (.int .i64 x.t.til) ∧ W.cell? (a.add (i * 10 + 6)) = some (.int .i64 x.t.ser) ∧ W.cell? (a.add (i * 10 + 7)) = some (.int .i64 x.n) ∧ W.cell? (a.add (i * 10 + 8)) = some (.int .i64 x.now)) ∧ ∃ vf, W.cell? (a.add (i * 10 + 9)) = some vf ∧ FlAt W vf x.f) ∧
        (x.t.who.size ≤ maxLen ∧ x.t.dst.size ≤ maxLen) ∧ (∀ f ∈ x.f, f.who.size ≤ maxLen) ∧ (Lit.int IntKind.i64 x.n).wf = true := by
      intro i hi
      obtain ⟨cs', h1, h2⟩ := hx i (by omega)
      rw [Tryz.dealCells] at h1
      obtain ⟨_, hlen, hcell⟩ := World.cells?_some h1
      obtain ⟨y0, y1, y2, y3, y4, k, g0, g1, g2, g3, g4⟩ := trod_five Tryz.underlying35 h2
      match cs', hlen with
      | [v0, v1, v2, v3, v4, v5, v6, v7, v8, v9], _ =>
        have q0 : DataW.trod enc Tryz.prog W base spare held k 9 [v0] = some y0 := g0
        have q1 : DataW.trod enc Tryz.prog W base spare held k 32 [v1, v2, v3, v4, v5, v6] = some y1 := g1
        have q2 : DataW.trod enc Tryz.prog W base spare held k 3 [v7] = some y2 := g2
        have q3 : DataW.trod enc Tryz.prog W base spare held k 3 [v8] = some y3 := g3
        have q4 : DataW.trod enc Tryz.prog W base spare held k 33 [v9] = some y4 := g4
        obtain ⟨z0, z1, z2, z3, z4, z5, k2, r0, r1, r2, r3, r4, r5⟩ := trod_six Tryz.underlying32 q1
        have t0 : DataW.trod enc Tryz.prog W base spare held k2 9 [v1] = some z0 := r0
        have t1 : DataW.trod enc Tryz.prog W base spare held k2 9 [v2] = some z1 := r1
        have t2 : DataW.trod enc Tryz.prog W base spare held k2 3 [v3] = some z2 := r2
        have t3 : DataW.trod enc Tryz.prog W base spare held k2 3 [v4] = some z3 := r3
        have t4 : DataW.trod enc Tryz.prog W base spare held k2 3 [v5] = some z4 := r4
        have t5 : DataW.trod enc Tryz.prog W base spare held k2 3 [v6] = some z5 := r5
        obtain ⟨s0, e0, _, _⟩ := DataW.trod_string Tryz.underlying9 q0
        obtain ⟨s1, e1, _, b1⟩ := DataW.trod_string Tryz.underlying9 t0
        obtain ⟨s2, e2, _, b2⟩ := DataW.trod_string Tryz.underlying9 t1
        obtain ⟨n3, e3, _, _⟩ := DataW.trod_int Tryz.underlying3 t2
        obtain ⟨n4, e4, _, _⟩ := DataW.trod_int Tryz.underlying3 t3
        obtain ⟨n5, e5, _, _⟩ := DataW.trod_int Tryz.underlying3 t4
        obtain ⟨n6, e6, _, _⟩ := DataW.trod_int Tryz.underlying3 t5
        obtain ⟨n7, e7, _, b7⟩ := DataW.trod_int Tryz.underlying3 q2
        obtain ⟨n8, e8, _, _⟩ := DataW.trod_int Tryz.underlying3 q3
        have hform : ∃ ad ln cp, v9 = .slice ad ln cp := by
          rcases Go.Deep.open_slice Tryz.underlying33 q4 with ⟨hcs9, _⟩ | ⟨a9, len9, cap9, _, _, _, _, hcs9, _⟩
          · exact ⟨none, 0, 0, by simpa using hcs9⟩
          · exact ⟨some a9, len9, cap9, by simpa using hcs9⟩
        obtain ⟨ad9, ln9, cp9, rfl⟩ := hform
        obtain ⟨fl, hfl, hfs⟩ := floors_open (d := y4.1) (p := y4.2) ⟨k, q4⟩
        cases e0; cases e1; cases e2; cases e3; cases e4; cases e5; cases e6; cases e7; cases e8
        have c0 := hcell 0 (by omega)
        have c1 := hcell 1 (by omega)
        have c2 := hcell 2 (by omega)
        have c3 := hcell 3 (by omega)
        have c4 := hcell 4 (by omega)
        have c5 := hcell 5 (by omega)
        have c6 := hcell 6 (by omega)
        have c7 := hcell 7 (by omega)
        have c8 := hcell 8 (by omega)
        have c9 := hcell 9 (by omega)
        rw [Go.Deep.add_add] at c0 c1 c2 c3 c4 c5 c6 c7 c8 c9
        exact ⟨⟨s0, ⟨s1, s2, n3, n4, n5, n6⟩, n7, n8, fl⟩, ⟨⟨c0, c1, c2, c3, c4, c5, c6, c7, c8⟩, _, c9, hfl⟩, ⟨b1, b2⟩, hfs, b7⟩
    have inst : Inhabited Dl := ⟨⟨ByteArray.empty, tk0, 0, 0, []⟩⟩
    obtain ⟨f, hfx⟩ := Go.Deep.choose_lt (α := Dl) each
    have hget : ∀ i x, ((List.range len).map f)[i]? = some x → i < len ∧ x = f i := fun i x hi => by
      rw [List.getElem?_map] at hi
      by_cases hil : i < len
      · rw [List.getElem?_range hil] at hi
        exact ⟨hil, (Option.some.inj hi).symm⟩
      · rw [List.getElem?_eq_none (by simp; omega)] at hi
        cases hi
    refine ⟨(List.range len).map f, ⟨some a, cap, by simp, by simpa using hl, fun hn => ?_⟩, fun x hxm => ?_⟩
    · have h0 : 0 < len := by simpa using hn
      obtain ⟨b, off, spot⟩ := a
      have hspot : spot = none := by
        have := (hfx 0 h0).1.1.1
        simpa [Addr.add] using World.cell?_spot this
      subst hspot
      refine ⟨b, off, rfl, ?_, fun i x hi => ?_⟩
      · have := cell_lt (hfx 0 h0).1.1.1
        rw [Go.WideShapes.add_plain] at this
        exact this
      · obtain ⟨hil, rfl⟩ := hget i x hi
        obtain ⟨⟨c0, c1, c2, c3, c4, c5, c6, c7, c8⟩, vf, c9, hfl⟩ := (hfx i hil).1
        rw [Go.WideShapes.add_plain] at c0 c1 c2 c3 c4 c5 c6 c7 c8 c9
        exact ⟨⟨c0, by rw [Nat.add_assoc]; exact c1, by rw [Nat.add_assoc]; exact c2, by rw [Nat.add_assoc]; exact c3, by rw [Nat.add_assoc]; exact c4, by rw [Nat.add_assoc]; exact c5, by rw [Nat.add_assoc]; exact c6, by rw [Nat.add_assoc]; exact c7, by rw [Nat.add_assoc]; exact c8⟩, vf, by rw [Nat.add_assoc]; exact c9, hfl⟩
    · obtain ⟨i, hi, rfl⟩ := List.getElem_of_mem hxm
      have hil : i < len := by simpa using hi
      have := (hfx i hil).2
      simpa using this
end Go.Proofs.YteabincmopeljaeGreatDoor

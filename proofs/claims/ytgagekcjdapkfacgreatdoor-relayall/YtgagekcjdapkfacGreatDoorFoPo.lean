/-
  A struct of one-cell fields that came in by value, opened field by field: what the claim's reading says of each of its cells.
  Numbers, and news, that came in, opened: a slice's list.
-/
import Derived.Deep.Fields
import Derived.ChangeArms
import Derived.WideShapes
import Derived.OpenShut
import Derived.Test.YtgagekcjdapkfacGreatDoorBase
import Derived.Test.YtgagekcjdapkfacGreatDoorFollowNews
import Derived.Test.YtgagekcjdapkfacGreatDoorFlPo
import Derived.ChangeSlices
namespace Go.Proofs.YtgagekcjdapkfacGreatDoor
open Go Go.ChangeShapes Go.WideShapes Go.RowKit Go.Deep

theorem drop_take_one {l : List Value} {i : Nat} {v : Value} (h : l[i]? = some v) : (l.drop i).take 1 = [v] := by
  obtain ⟨hi, rfl⟩ := List.getElem?_eq_some_iff.1 h
  rw [List.drop_eq_getElem_cons hi]
  rfl
theorem field_trod {H : Type} {enc : TypeId × Value → H} {P : Program} {w : World} {base : Nat} {spare : Nat → Bool} {held : Bool} {t : TypeId} {fs : Array Field} (ht : P.underlying t = some (.struct fs)) (hone : oneCellFields P fs = true)
    {cs : Array Value} {d : DataW H} {p : List MemPlace} (h : DataW.Trod enc P w base spare held t (.agg cs) d p) (i : Nat) (f : Field) (hi : fs[i]? = some f) (v : Value) (hv : cs[i]? = some v) :
    ∃ n y, DataW.trod enc P w base spare held n f.type [v] = some y := by
  obtain ⟨fuel, hf⟩ := h
  obtain ⟨xs, n, _, _, _, hlen, hx⟩ := DataW.trod_struct ht hf
  have hlt : i < xs.length := by rw [hlen]; exact (Array.getElem?_eq_some_iff.1 hi).1
  obtain ⟨o, k⟩ := hone_of hone i f hi
  have := hx i f hi
  rw [o, k, List.getElem?_eq_getElem hlt] at this
  refine ⟨n, xs[i], ?_⟩
  rw [← this]
  congr 1
  exact (drop_take_one (by simpa [Value.cells] using hv)).symm
end Go.Proofs.YtgagekcjdapkfacGreatDoor

namespace Go.Proofs.YtgagekcjdapkfacGreatDoor
open Go Go.ChangeShapes Go.WideShapes Go.ChangeAt Go.RowKit Go.Deep

theorem Tryz.intCells : Tryz.prog.cellsOf 3 = 1 := by kernel_rfl
theorem Tryz.newsCells : Tryz.prog.cellsOf 69 = 5 := by kernel_rfl
theorem cell_trod {H : Type} {enc : TypeId × Value → H} {P : Program} {w : World} {base : Nat} {spare : Nat → Bool} {held : Bool} {t : TypeId} {fs : Array Field} (ht : P.underlying t = some (.struct fs)) (hone : oneCellFields P fs = true)
    {fuel : Nat} {cs : List Value} {x : DataW H × List MemPlace} (h : DataW.trod enc P w base spare held fuel t cs = some x) (i : Nat) (f : Field) (hi : fs[i]? = some f) (v : Value) (hv : cs[i]? = some v) :
    ∃ n y, DataW.trod enc P w base spare held n f.type [v] = some y := by
  obtain ⟨xs, n, _, _, _, hlen, hx⟩ := DataW.trod_struct ht h
  have hlt : i < xs.length := by rw [hlen]; exact (Array.getElem?_eq_some_iff.1 hi).1
  obtain ⟨o, k⟩ := hone_of hone i f hi
  have := hx i f hi
  rw [o, k, List.getElem?_eq_getElem hlt] at this
  refine ⟨n, xs[i], ?_⟩
  rw [← this]
  congr 1
  exact (drop_take_one hv).symm

theorem ints_open {H : Type} {enc : TypeId × Value → H} {W : World} {base : Nat} {spare : Nat → Bool} {held : Bool} {a0 : Option Addr} {len cap : Nat} {d : DataW H} {p : List MemPlace}
    (h : DataW.Trod enc Tryz.prog W base spare held 78 (.slice a0 len cap) d p) : ∃ st, IntsIn W (.slice a0 len cap) st := by
  obtain ⟨fuel, hf⟩ := h
  rcases open_ints Tryz.underlying78 Tryz.underlying3 Tryz.intCells hf with ⟨hcs, _⟩ | ⟨a, len', cap', zs, hcs, _, hl, _, hz, _, hcell, _⟩
  · have e : a0 = none ∧ len = 0 ∧ cap = 0 := by simpa [Value.cells] using hcs
    obtain ⟨rfl, rfl, rfl⟩ := e
    exact ⟨[], none, 0, rfl, Nat.le_refl _, fun h => absurd h (by simp)⟩
  · have e : a0 = some a ∧ len = len' ∧ cap = cap' := by simpa [Value.cells] using hcs
    obtain ⟨rfl, rfl, rfl⟩ := e
    have hle : len ≤ zs.length := by rw [hz]; split <;> omega
    have hlen : (zs.take len).length = len := by rw [List.length_take]; omega
    refine ⟨zs.take len, some a, cap, by rw [hlen], by omega, fun h0 => ?_⟩
    rw [hlen] at h0
    obtain ⟨b, off, spot⟩ := a
    have hspot : spot = none := by simpa [Addr.add] using World.cell?_spot (hcell 0 (by omega))
    subst hspot
    refine ⟨b, off, rfl, ?_, fun i x hx => ?_⟩
    · have := hcell 0 (by omega)
      rw [Go.WideShapes.add_plain] at this
      exact cell_lt this
    · obtain ⟨hi, e⟩ := List.getElem?_eq_some_iff.1 hx
      rw [hlen] at hi
      have hj : i < zs.length := by omega
      have := hcell i hj
      rw [Go.WideShapes.add_plain] at this
      rw [this, List.getD_eq_getElem?_getD, List.getElem?_eq_getElem hj, ← e, List.getElem_take]
      rfl

set_option maxRecDepth 100000 in
theorem news_open {H : Type} {enc : TypeId × Value → H} {W : World} {base : Nat} {spare : Nat → Bool} {held : Bool} {a0 : Option Addr} {len cap : Nat} {d : DataW H} {p : List MemPlace}
    (h : DataW.Trod enc Tryz.prog W base spare held 63 (.slice a0 len cap) d p) : ∃ l : List Ns, NsIn W (.slice a0 len cap) l := by
  obtain ⟨fuel, hf⟩ := h
  rcases Go.Deep.open_slice Tryz.underlying63 hf with ⟨hcs, _⟩ | ⟨a, len', cap', m, n, D, Pl, hcs, _, hl, hm, hmm, _, hx⟩
  · have e : a0 = none ∧ len = 0 ∧ cap = 0 := by simpa [Value.cells] using hcs
    obtain ⟨rfl, rfl, rfl⟩ := e
    exact ⟨[], none, 0, rfl, Nat.le_refl _, fun h => absurd h (by simp)⟩
  · have e : a0 = some a ∧ len = len' ∧ cap = cap' := by simpa [Value.cells] using hcs
    obtain ⟨rfl, rfl, rfl⟩ := e
    have hlm : len ≤ m := by rw [hmm]; split <;> omega
    have each : ∀ i, i < len → ∃ x : Ns, W.cell? (a.add (i * 5)) = some (.int .i64 x.many) ∧ W.cell? (a.add (i * 5 + 1)) = some (.int .i64 x.from') ∧ W.cell? (a.add (i * 5 + 2)) = some (.int .i64 x.time) ∧ W.cell? (a.add (i * 5 + 3)) = some (.int .i64 x.key) ∧ W.cell? (a.add (i * 5 + 4)) = some (.string x.text) := by
      intro i hi
      obtain ⟨cs', h1, h2⟩ := hx i (by omega)
      rw [Tryz.newsCells] at h1
      obtain ⟨_, hlen, hcell⟩ := World.cells?_some h1
      match cs', hlen with
      | [v0, v1, v2, v3, v4], _ =>
        have fld := fun (j : Nat) (f : Field) hj v hv => cell_trod Tryz.underlying69 (by kernel_rfl) h2 j f hj v hv
        obtain ⟨_, _, q0⟩ := fld 0 _ rfl v0 rfl
        obtain ⟨_, _, q1⟩ := fld 1 _ rfl v1 rfl
        obtain ⟨_, _, q2⟩ := fld 2 _ rfl v2 rfl
        obtain ⟨_, _, q3⟩ := fld 3 _ rfl v3 rfl
        obtain ⟨_, _, q4⟩ := fld 4 _ rfl v4 rfl
        obtain ⟨n0, e0, _, _⟩ := DataW.trod_int Tryz.underlying3 q0
        obtain ⟨n1, e1, _, _⟩ := DataW.trod_int Tryz.underlying3 q1
        obtain ⟨n2, e2, _, _⟩ := DataW.trod_int Tryz.underlying3 q2
        obtain ⟨n3, e3, _, _⟩ := DataW.trod_int Tryz.underlying3 q3
        obtain ⟨s4, e4, _, _⟩ := DataW.trod_string Tryz.underlying9 q4
        cases e0; cases e1; cases e2; cases e3; cases e4
        have c0 := hcell 0 (by omega)
        have c1 := hcell 1 (by omega)
        have c2 := hcell 2 (by omega)
        have c3 := hcell 3 (by omega)
        have c4 := hcell 4 (by omega)
        rw [Go.Deep.add_add] at c0 c1 c2 c3 c4
        exact ⟨⟨n0, n1, n2, n3, s4⟩, c0, c1, c2, c3, c4⟩
    have inst : Inhabited Ns := ⟨⟨0, 0, 0, 0, ByteArray.empty⟩⟩
    obtain ⟨f, hfx⟩ := Go.Deep.choose_lt (α := Ns) each
    have hlen : ((List.range len).map f).length = len := by simp
    refine ⟨(List.range len).map f, some a, cap, by rw [hlen], by omega, fun h0 => ?_⟩
    rw [hlen] at h0
    obtain ⟨b, off, spot⟩ := a
    have hspot : spot = none := by
      have := (hfx 0 h0).1
      simpa [Addr.add] using World.cell?_spot this
    subst hspot
    refine ⟨b, off, rfl, ?_, fun i x hx => ?_⟩
    · have := (hfx 0 h0).1
      rw [Go.WideShapes.add_plain] at this
      exact cell_lt this
    · obtain ⟨hi, e⟩ := List.getElem?_eq_some_iff.1 hx
      rw [hlen] at hi
      have hg : ((List.range len).map f)[i]'(by rw [hlen]; exact hi) = f i := by simp
      have e2 : x = f i := e.symm.trans hg
      obtain ⟨c0, c1, c2, c3, c4⟩ := hfx i hi
      rw [Go.WideShapes.add_plain] at c0 c1 c2 c3 c4
      rw [e2]
      exact ⟨c0, c1, c2, c3, c4⟩
end Go.Proofs.YtgagekcjdapkfacGreatDoor

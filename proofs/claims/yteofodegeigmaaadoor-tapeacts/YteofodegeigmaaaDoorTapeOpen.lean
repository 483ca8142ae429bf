/-
  Acts on a tape that came in, opened; and what TapeActs' own list of package-level variables gives: the sixteen errors, the powers of ten; the world that the program's start lays meets the list.
-/
import Derived.Test.YteofodegeigmaaaDoorTapePair
import Derived.Test.YteofodegeigmaaaDoorLaidBase
import Derived.Deep.Fields
import Derived.Deep.Slices
import Derived.Deep.Strs
import Derived.Lib.SmallJoins
import Derived.Lib.LaidTab
import Derived.Lib.LaidIn
import Derived.Lay
import Derived.ChangeArms
import Derived.ProofKit
import Derived.Carry
import Derived.OpenShut
namespace Go.Proofs.YteofodegeigmaaaDoor
open Go Go.ChangeShapes Go.WideShapes Go.ChangeAt Go.RowKit

theorem Tryd.writeCells : Tryd.prog.cellsOf 43 = 3 := by kernel_rfl
set_option maxRecDepth 100000 in
theorem writes_open {H : Type} {enc : TypeId × Value → H} {W : World} {base : Nat} {spare : Nat → Bool} {held : Bool} {a0 : Option Addr} {len cap : Nat} {d : DataW H} {p : List MemPlace}
    (h : DataW.Trod enc Tryd.prog W base spare held 38 (.slice a0 len cap) d p) : ∃ l : List Tw, TwIn W (.slice a0 len cap) l := by
  obtain ⟨fuel, hf⟩ := h
  rcases Go.Deep.open_slice Tryd.underlying38 hf with ⟨hcs, _⟩ | ⟨a, len', cap', m, n, D, Pl, hcs, _, hl, hm, hmm, _, hx⟩
  · have e : a0 = none ∧ len = 0 ∧ cap = 0 := by simpa [Value.cells] using hcs
    obtain ⟨rfl, rfl, rfl⟩ := e
    exact ⟨[], none, 0, rfl, Nat.le_refl _, fun h => absurd h (by simp)⟩
  · have e : a0 = some a ∧ len = len' ∧ cap = cap' := by simpa [Value.cells] using hcs
    obtain ⟨rfl, rfl, rfl⟩ := e
    have hlm : len ≤ m := by rw [hmm]; split <;> omega
    have each : ∀ i, i < len → ∃ x : Tw, (W.cell? (a.add (i * 3)) = some (.string x.kind) ∧ W.cell? (a.add (i * 3 + 1)) = some (.string x.s) ∧ W.cell? (a.add (i * 3 + 2)) = some (.int .i64 x.n)) ∧ x.n ≤ 9223372036854775807 := by
      intro i hi
      obtain ⟨cs', h1, h2⟩ := hx i (by omega)
      rw [Tryd.writeCells] at h1
      obtain ⟨_, hlen, hcell⟩ := World.cells?_some h1
      obtain ⟨y0, y1, y2, k, _, _, g0, g1, g2⟩ := Go.Deep.trod_struct3 Tryd.underlying43 h2
      match cs', hlen with
      | [v0, v1, v2], _ =>
        have q0 : DataW.trod enc Tryd.prog W base spare held k 9 [v0] = some y0 := g0
        have q1 : DataW.trod enc Tryd.prog W base spare held k 9 [v1] = some y1 := g1
        have q2 : DataW.trod enc Tryd.prog W base spare held k 3 [v2] = some y2 := g2
        obtain ⟨s0, e0, _, _⟩ := DataW.trod_string Tryd.underlying9 q0
        obtain ⟨s1, e1, _, _⟩ := DataW.trod_string Tryd.underlying9 q1
        obtain ⟨n2, e2, _, w2⟩ := DataW.trod_int Tryd.underlying3 q2
        cases e0; cases e1; cases e2
        have c0 := hcell 0 (by omega)
        have c1 := hcell 1 (by omega)
        have c2 := hcell 2 (by omega)
        rw [Go.Deep.add_add] at c0 c1 c2
        exact ⟨⟨s0, s1, n2⟩, ⟨c0, c1, c2⟩, (bounds_i64 w2).2⟩
    have inst : Inhabited Tw := ⟨⟨ByteArray.empty, ByteArray.empty, 0⟩⟩
    obtain ⟨f, hfx⟩ := Go.Deep.choose_lt (α := Tw) each
    have hget : ∀ i x, ((List.range len).map f)[i]? = some x → i < len ∧ x = f i := fun i x hi => by
      rw [List.getElem?_map] at hi
      by_cases hil : i < len
      · rw [List.getElem?_range hil] at hi
        exact ⟨hil, (Option.some.inj hi).symm⟩
      · rw [List.getElem?_eq_none (by simp; omega)] at hi
        cases hi
    refine ⟨(List.range len).map f, some a, cap, by simp, by simpa using hl, fun hn => ?_⟩
    have h0 : 0 < len := by simpa using hn
    obtain ⟨b, off, spot⟩ := a
    have hspot : spot = none := by
      have := (hfx 0 h0).1.1
      simpa [Addr.add] using World.cell?_spot this
    subst hspot
    refine ⟨b, off, rfl, ?_, fun i x hi => ?_⟩
    · have := cell_lt (hfx 0 h0).1.1
      rw [Go.WideShapes.add_plain] at this
      exact this
    · obtain ⟨hil, rfl⟩ := hget i x hi
      obtain ⟨⟨c0, c1, c2⟩, hb⟩ := hfx i hil
      rw [Go.WideShapes.add_plain] at c0 c1 c2
      exact ⟨⟨c0, by rw [Nat.add_assoc]; exact c1, by rw [Nat.add_assoc]; exact c2⟩, hb⟩
/-- The row's own list. -/
def laidA : List (String × DataW Unit) := Rows.tapeActsRow.laid
theorem laid_tail {P : Program} {W : World} {x : String × DataW Unit} {r : List (String × DataW Unit)} (h : laidMet P (x :: r) W) : laidMet P r W := by
  obtain ⟨ps, ⟨g, t, cs, fuel, p, q, _, _, _, _, hr, rfl⟩, hnd, hrows⟩ := h
  exact ⟨q, hr, (List.nodup_append.1 hnd).2.1, fun b off hb => hrows b off (by simp [hb])⟩
theorem pow10_data : Rows.laid_internal_strconv_uint64pow10 (H := Unit) = Lib.tabData .u64 Lib.pow10Tab := by kernel_rfl
theorem errs_of_laidA {W : World} (h : laidMetH Tryd.prog laidA W) : (∃ a, Errs a W) ∧ Tab10 W := by
  have h1 : laidMet Tryd.prog (("math/bits.deBruijn32tab", Rows.laid_math_bits_deBruijn32tab) :: ("math/bits.deBruijn64tab", Rows.laid_math_bits_deBruijn64tab) :: ("internal/strconv.uint64pow10", Rows.laid_internal_strconv_uint64pow10) ::
      (errL.map (sentD "*errors.errorString") ++ [("strconv.ErrRange", Rows.laid_strconv_ErrRange), ("strconv.ErrSyntax", Rows.laid_strconv_ErrSyntax)])) W := h.1
  have h3 := laid_tail (laid_tail h1)
  have h4 := laid_tail h3
  obtain ⟨a, hE⟩ := errs_of_vars h4 (handle_of (hs := []) h.2)
  rw [pow10_data] at h3
  exact ⟨⟨a, hE⟩, Lib.tabIs_of_head (g := 18) Tryd.pow10F (by kernel_rfl) Tryd.underlying125 Tryd.underlying110 (by kernel_rfl) (by kernel_rfl) h3⟩
theorem doorA_met (os : Os) (args : Array Value) : laidMetH Tryd.prog laidA ((World.doorLaid Tryd.prog 2000 os).forCall (fun _ _ => 0) ⟨#[], args, []⟩).memory :=
  laidMetH_of_parts3 (fuel := 8) (laidMet_of_run' 8 (by kernel_rfl) (by kernel_rfl)) (by kernel_rfl) (by kernel_rfl)
theorem Tryd.laidOut : laidOutB Tryd.prog = true := by kernel_rfl
end Go.Proofs.YteofodegeigmaaaDoor

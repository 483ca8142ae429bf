/-
  What TapeCuts' own list of package-level variables gives: four errors in their variables, and the powers of ten; the world that the program's start lays meets the list; texts that came in, opened.
-/
import Derived.Test.YteofodegeigmaaaDoorLaidBase
import Derived.Test.YteofodegeigmaaaDoorTapeApp
import Derived.Test.YteofodegeigmaaaDoorTapeWords
import Derived.Lib.LaidTab
import Derived.Lib.LaidIn
import Derived.Lay
import Derived.SliceStrings
import Derived.Carry
import Derived.OpenShut
namespace Go.Proofs.YteofodegeigmaaaDoor
open Go.ChangeShapes Go.WideShapes Go.ChangeAt Go.RowKit

/-- The row's own list. -/
def laidC : List (String × DataW Unit) := Rows.tapeCutsRow.laid
def four : List Nat := [1, 2, 6, 15]
def errL4 : List (String × List UInt8) := four.map fun i => errL.getD (errPos.getD i 0) ("", [])
theorem errL4_ok : (errL4.all fun x => match Tryd.prog.globalNamed x.1 with | some g => (Tryd.prog.globals[g]?).map (·.type) == some 26 | none => false) = true := by kernel_rfl
theorem errL4_at : ((List.range 4).all fun k => match errL4[k]? with | some x => Tryd.prog.globalNamed x.1 == some (errG.getD (four.getD k 0) 0) | none => false) = true := by kernel_rfl
theorem errL4_len : errL4.length = 4 := rfl
theorem laid_tail {P : Program} {W : World} {x : String × DataW Unit} {r : List (String × DataW Unit)} (h : laidMet P (x :: r) W) : laidMet P r W := by
  obtain ⟨ps, ⟨g, t, cs, fuel, p, q, _, _, _, _, hr, rfl⟩, hnd, hrows⟩ := h
  exact ⟨q, hr, (List.nodup_append.1 hnd).2.1, fun b off hb => hrows b off (by simp [hb])⟩
theorem pow10_data : Rows.laid_internal_strconv_uint64pow10 (H := Unit) = Lib.tabData .u64 Lib.pow10Tab := by kernel_rfl
theorem ev_of_laidC {W : World} (h : laidMetH Tryd.prog laidC W) : (∃ a, EV tpS a W) ∧ Tab10 W := by
  have h1 : laidMet Tryd.prog (("math/bits.deBruijn32tab", Rows.laid_math_bits_deBruijn32tab) :: ("math/bits.deBruijn64tab", Rows.laid_math_bits_deBruijn64tab) :: ("internal/strconv.uint64pow10", Rows.laid_internal_strconv_uint64pow10) ::
      (errL4.map (sentD "*errors.errorString") ++ [("strconv.ErrRange", Rows.laid_strconv_ErrRange), ("strconv.ErrSyntax", Rows.laid_strconv_ErrSyntax)])) W := h
  have h3 := laid_tail (laid_tail h1)
  have h4 := laid_tail h3
  rw [pow10_data] at h3
  refine ⟨?_, Lib.tabIs_of_head (g := 18) Tryd.pow10F (by kernel_rfl) Tryd.underlying125 Tryd.underlying110 (by kernel_rfl) (by kernel_rfl) h3⟩
  obtain ⟨ps, hl, hnd, hrows⟩ := h4
  obtain ⟨al, hlen, hn, hm, hvs⟩ := sents_of_laid (nm := "*errors.errorString") Tryd.underlying26 Tryd.errRow Tryd.underlying138 Tryd.underlying140 rfl rfl Tryd.underlying9 Tryd.errCells Tryd.strCells _ errL4 ps hl hnd hrows (fun x hx => by
    have := List.all_eq_true.1 errL4_ok x hx
    cases hg : Tryd.prog.globalNamed x.1 with
    | none => simp [hg] at this
    | some g => exact ⟨g, rfl, by simpa [hg] using this⟩)
  rw [errL4_len] at hlen
  have hat : ∀ k, k < 4 → W.cell? ⟨errG.getD (four.getD k 0) 0, 0, none⟩ = some (eV (al.getD k ⟨0, 0, none⟩)) := fun k hk => by
    have h2 := List.all_eq_true.1 errL4_at k (List.mem_range.2 hk)
    cases hx : errL4[k]? with
    | none => simp only [hx] at h2; cases h2
    | some x =>
      simp only [hx, beq_iff_eq] at h2
      have hb : al[k]? = some (al.getD k ⟨0, 0, none⟩) := by
        rw [List.getD_eq_getElem?_getD, List.getElem?_eq_getElem (by omega)]
        rfl
      simpa using World.var?_cell h2 (hvs k x _ hx hb) 0
  refine ⟨fun i => al.getD (four.idxOf i) ⟨0, 0, none⟩, ⟨fun i _ hs => ?_⟩⟩
  have hi : i = 1 ∨ i = 2 ∨ i = 6 ∨ i = 15 := by
    unfold tpS at hs
    simp only [Bool.or_eq_true, beq_iff_eq] at hs
    omega
  rcases hi with rfl | rfl | rfl | rfl
  · exact hat 0 (by decide)
  · exact hat 1 (by decide)
  · exact hat 2 (by decide)
  · exact hat 3 (by decide)
theorem doorC_met (os : Os) (args : Array Value) : laidMetH Tryd.prog laidC ((World.doorLaid Tryd.prog 2000 os).forCall (fun _ _ => 0) ⟨#[], args, []⟩).memory :=
  laidMetH_of_parts3 (fuel := 8) (laidMet_of_run' 8 (by kernel_rfl) (by kernel_rfl)) (by kernel_rfl) (by kernel_rfl)
theorem Tryd.laidOut : laidOutB Tryd.prog = true := by kernel_rfl
/-- A slice of texts that came in, opened. -/
theorem words_open {H : Type} {enc : TypeId × Value → H} {W : World} {base : Nat} {spare : Nat → Bool} {held : Bool} {a0 : Option Addr} {len cap : Nat} {d : DataW H} {p : List MemPlace}
    (h : DataW.Trod enc Tryd.prog W base spare held 22 (.slice a0 len cap) d p) : ∃ xs, WordsAt W (.slice a0 len cap) xs := by
  obtain ⟨fuel, hf⟩ := h
  rcases open_strings Tryd.underlying22 Tryd.underlying9 Tryd.strCells hf with ⟨hcs, _⟩ | ⟨a, len', cap', ss, hcs, _, hl, _, hz, _, hcell, hws⟩
  · have e : a0 = none ∧ len = 0 ∧ cap = 0 := by simpa [Value.cells] using hcs
    obtain ⟨rfl, rfl, rfl⟩ := e
    exact ⟨[], none, 0, rfl, Nat.le_refl _, Or.inl rfl⟩
  · have e : a0 = some a ∧ len = len' ∧ cap = cap' := by simpa [Value.cells] using hcs
    obtain ⟨rfl, rfl, rfl⟩ := e
    have hle : len ≤ ss.length := by rw [hz]; split <;> omega
    have hlen : (ss.take len).length = len := by rw [List.length_take]; omega
    refine ⟨ss.take len, some a, cap, by rw [hlen], by omega, ?_⟩
    rcases Nat.eq_zero_or_pos len with e0 | e0
    · exact Or.inl (by omega)
    · right
      obtain ⟨b, off, spot⟩ := a
      have hspot : spot = none := by simpa [Addr.add] using World.cell?_spot (hcell 0 (by omega))
      subst hspot
      refine ⟨b, off, rfl, fun j hj => ?_⟩
      have hj2 : j < ss.length := by omega
      have := hcell j hj2
      rw [Go.WideShapes.add_plain] at this
      rw [this, List.getD_eq_getElem?_getD, List.getElem?_eq_getElem hj2, List.getElem_take]
      rfl
end Go.Proofs.YteofodegeigmaaaDoor

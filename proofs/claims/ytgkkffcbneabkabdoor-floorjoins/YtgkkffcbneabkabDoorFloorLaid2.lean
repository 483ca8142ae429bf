/-
  What FloorJoins' own list of package-level variables gives: six errors in their variables, and the powers of ten; and the world that the program's start lays meets the list.
-/
import Derived.Test.YtgkkffcbneabkabDoorFloorLaid
import Derived.Test.YtgkkffcbneabkabDoorFloorText
import Derived.Test.YtgkkffcbneabkabDoorFloorRead
import Derived.Lib.LaidTab
import Derived.Lib.LaidIn
import Derived.Lay
import Derived.Shelf.Vars
namespace Go.Proofs.YtgkkffcbneabkabDoor
open Go.ChangeShapes Go.WideShapes Go.ChangeAt Go.RowKit

/-- The row's own list. -/
def laidJ : List (String × DataW Unit) := Rows.floorJoinsRow.laid
def six : List Nat := [0, 1, 2, 3, 6, 7]
def errL6 : List (String × List UInt8) := six.map fun i => errL.getD (errPos.getD i 0) ("", [])
theorem errL6_ok : (errL6.all fun x => match Tryd.prog.globalNamed x.1 with | some g => (Tryd.prog.globals[g]?).map (·.type) == some 29 | none => false) = true := by kernel_rfl
theorem errL6_at : ((List.range 6).all fun k => match errL6[k]? with | some x => Tryd.prog.globalNamed x.1 == some (errG.getD (six.getD k 0) 0) | none => false) = true := by kernel_rfl
theorem errL6_len : errL6.length = 6 := rfl
theorem laid_tail {P : Program} {W : World} {x : String × DataW Unit} {r : List (String × DataW Unit)} (h : laidMet P (x :: r) W) : laidMet P r W := by
  obtain ⟨ps, ⟨g, t, cs, fuel, p, q, _, _, _, _, hr, rfl⟩, hnd, hrows⟩ := h
  exact ⟨q, hr, (List.nodup_append.1 hnd).2.1, fun b off hb => hrows b off (by simp [hb])⟩
theorem pow10_data : Rows.laid_internal_strconv_uint64pow10 (H := Unit) = Lib.tabData .u64 Lib.pow10Tab := by kernel_rfl
theorem ev_of_laidJ {W : World} (h : laidMetH Tryd.prog laidJ W) : (∃ a, EV flR a W) ∧ Tab10 W := by
  have h1 : laidMet Tryd.prog (("math/bits.deBruijn32tab", Rows.laid_math_bits_deBruijn32tab) :: ("math/bits.deBruijn64tab", Rows.laid_math_bits_deBruijn64tab) :: ("internal/strconv.uint64pow10", Rows.laid_internal_strconv_uint64pow10) :: ("unicode/utf8.acceptRanges", Rows.laid_unicode_utf8_acceptRanges) ::
      (errL6.map (sentD "*errors.errorString") ++ [("strconv.ErrRange", Rows.laid_strconv_ErrRange), ("strconv.ErrSyntax", Rows.laid_strconv_ErrSyntax), ("unicode/utf8.first", Rows.laid_unicode_utf8_first)])) W := h
  have h3 := laid_tail (laid_tail h1)
  have h4 := laid_tail (laid_tail h3)
  rw [pow10_data] at h3
  refine ⟨?_, Lib.tabIs_of_head (g := 18) Tryd.pow10F (by kernel_rfl) Tryd.underlying197 Tryd.underlying181 (by kernel_rfl) (by kernel_rfl) h3⟩
  obtain ⟨ps, hl, hnd, hrows⟩ := h4
  obtain ⟨al, hlen, hn, hm, hvs⟩ := sents_of_laid (nm := "*errors.errorString") Tryd.underlying29 Tryd.errRow Tryd.underlying222 Tryd.underlying224 rfl rfl Tryd.underlying9 Tryd.errCells Tryd.strCells _ errL6 ps hl hnd hrows (fun x hx => by
    have := List.all_eq_true.1 errL6_ok x hx
    cases hg : Tryd.prog.globalNamed x.1 with
    | none => simp [hg] at this
    | some g => exact ⟨g, rfl, by simpa [hg] using this⟩)
  rw [errL6_len] at hlen
  have hat : ∀ k, k < 6 → W.cell? ⟨errG.getD (six.getD k 0) 0, 0, none⟩ = some (eV (al.getD k ⟨0, 0, none⟩)) := fun k hk => by
    have h2 := List.all_eq_true.1 errL6_at k (List.mem_range.2 hk)
    cases hx : errL6[k]? with
    | none => simp only [hx] at h2; cases h2
    | some x =>
      simp only [hx, beq_iff_eq] at h2
      have hb : al[k]? = some (al.getD k ⟨0, 0, none⟩) := by
        rw [List.getD_eq_getElem?_getD, List.getElem?_eq_getElem (by omega)]
        rfl
      simpa using World.var?_cell h2 (hvs k x _ hx hb) 0
  refine ⟨fun i => al.getD (six.idxOf i) ⟨0, 0, none⟩, ⟨fun i _ hs => ?_⟩⟩
  have hi : i = 0 ∨ i = 1 ∨ i = 2 ∨ i = 3 ∨ i = 6 ∨ i = 7 := by
    unfold flR flS at hs
    simp only [Bool.or_eq_true, beq_iff_eq] at hs
    omega
  rcases hi with rfl | rfl | rfl | rfl | rfl | rfl
  · exact hat 0 (by decide)
  · exact hat 1 (by decide)
  · exact hat 2 (by decide)
  · exact hat 3 (by decide)
  · exact hat 4 (by decide)
  · exact hat 5 (by decide)
theorem wit_os (os : Os) : ((World.doorLaid Tryd.prog 2000 os).layVars Tryd.prog [("unicode/utf8.first", Rows.laid_unicode_utf8_first)]).os = os := World.layVars_os _ _ _
theorem doorJ_met (os : Os) (args : Array Value) : laidMetH Tryd.prog laidJ (((World.doorLaid Tryd.prog 2000 os).layVars Tryd.prog [("unicode/utf8.first", Rows.laid_unicode_utf8_first)]).forCall (fun _ _ => 0) ⟨#[], args, []⟩).memory :=
  laidMetH_of_parts3 (fuel := 8)
    (laidMet_layVars (w0 := World.doorLaid Tryd.prog 2000 os) ["unicode/utf8.first"] ((List.range (World.doorLaid Tryd.prog 2000 os).heap.size).filter (· != 19)) (by kernel_rfl) (by kernel_rfl) (by kernel_rfl) (LaidIn.of_run ((List.range (World.doorLaid Tryd.prog 2000 os).heap.size).filter (· != 19)) 8 (by kernel_rfl) (by kernel_rfl) (by kernel_rfl) (by kernel_rfl)))
    (by kernel_rfl) (by kernel_rfl)
end Go.Proofs.YtgkkffcbneabkabDoor

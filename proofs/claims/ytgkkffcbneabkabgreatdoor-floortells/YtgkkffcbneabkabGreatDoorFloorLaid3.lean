/-
  What FloorTells' own list of package-level variables gives: the sixteen errors in their variables, and the powers of ten; and the world that the program's start lays meets the list.
-/
import Derived.Test.YtgkkffcbneabkabGreatDoorLaidBase
import Derived.Test.YtgkkffcbneabkabGreatDoorFloorText
import Derived.Lib.LaidTab
import Derived.Lib.LaidIn
import Derived.Lay
import Derived.Shelf.Vars
namespace Go.Proofs.YtgkkffcbneabkabGreatDoor
open Go.ChangeShapes Go.WideShapes Go.ChangeAt Go.RowKit

/-- The row's own list. -/
def laidT : List (String × DataW Unit) := Rows.floorTellsRow.laid
theorem laid_tail {P : Program} {W : World} {x : String × DataW Unit} {r : List (String × DataW Unit)} (h : laidMet P (x :: r) W) : laidMet P r W := by
  obtain ⟨ps, ⟨g, t, cs, fuel, p, q, _, _, _, _, hr, rfl⟩, hnd, hrows⟩ := h
  exact ⟨q, hr, (List.nodup_append.1 hnd).2.1, fun b off hb => hrows b off (by simp [hb])⟩
theorem pow10_data : Rows.laid_internal_strconv_uint64pow10 (H := Unit) = Lib.tabData .u64 Lib.pow10Tab := by kernel_rfl
theorem errs_of_laidT {W : World} (h : laidMetH Tryz.prog laidT W) : (∃ a, Errs a W) ∧ Tab10 W := by
  have h1 : laidMet Tryz.prog (("math/bits.deBruijn32tab", Rows.laid_math_bits_deBruijn32tab) :: ("math/bits.deBruijn64tab", Rows.laid_math_bits_deBruijn64tab) :: ("internal/strconv.uint64pow10", Rows.laid_internal_strconv_uint64pow10) :: ("unicode/utf8.acceptRanges", Rows.laid_unicode_utf8_acceptRanges) ::
      (errL.map (sentD "*errors.errorString") ++ [("strconv.ErrRange", Rows.laid_strconv_ErrRange), ("strconv.ErrSyntax", Rows.laid_strconv_ErrSyntax), ("unicode/utf8.first", Rows.laid_unicode_utf8_first)])) W := h.1
  have h3 := laid_tail (laid_tail h1)
  have h4 := laid_tail (laid_tail h3)
  obtain ⟨a, hE⟩ := errs_of_vars h4 (handle_of (hs := []) h.2)
  rw [pow10_data] at h3
  exact ⟨⟨a, hE⟩, Lib.tabIs_of_head (g := 18) Tryz.pow10F (by kernel_rfl) Tryz.underlying213 Tryz.underlying194 (by kernel_rfl) (by kernel_rfl) h3⟩
theorem wit_os (os : Os) : ((World.doorLaid Tryz.prog 2000 os).layVars Tryz.prog [("unicode/utf8.first", Rows.laid_unicode_utf8_first)]).os = os := World.layVars_os _ _ _
theorem doorT_met (os : Os) (args : Array Value) : laidMetH Tryz.prog laidT (((World.doorLaid Tryz.prog 2000 os).layVars Tryz.prog [("unicode/utf8.first", Rows.laid_unicode_utf8_first)]).forCall (fun _ _ => 0) ⟨#[], args, []⟩).memory :=
  laidMetH_of_parts3 (fuel := 8)
    (laidMet_layVars (w0 := World.doorLaid Tryz.prog 2000 os) ["unicode/utf8.first"] ((List.range (World.doorLaid Tryz.prog 2000 os).heap.size).filter (· != 19)) (by kernel_rfl) (by kernel_rfl) (by kernel_rfl) (LaidIn.of_run ((List.range (World.doorLaid Tryz.prog 2000 os).heap.size).filter (· != 19)) 8 (by kernel_rfl) (by kernel_rfl) (by kernel_rfl) (by kernel_rfl)))
    (by kernel_rfl) (by kernel_rfl)
end Go.Proofs.YtgkkffcbneabkabGreatDoor

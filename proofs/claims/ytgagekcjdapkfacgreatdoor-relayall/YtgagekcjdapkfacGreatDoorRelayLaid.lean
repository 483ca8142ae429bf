/-
  What the list of package-level variables of RelayAll gives, in a world of the program's shape: eleven errors in their variables, the powers of ten, the handle of 'error', and some int in the library's MaxLen; and the world that the program's start lays meets the list.
-/
import Derived.Test.YtgagekcjdapkfacGreatDoorLaidLib
import Derived.Test.YtgagekcjdapkfacGreatDoorRelayPa
import Derived.Test.YtgagekcjdapkfacGreatDoorRows
import Derived.ProofKit
import Derived.LaidMore
import Derived.OpenShut
namespace Go.Proofs.YtgagekcjdapkfacGreatDoor
open Go.ChangeShapes Go.WideShapes Go.ChangeAt Go.RowKit

/-- The row's own list. -/
def laidR : List (String × DataW Unit) := Rows.relayAllRow.laid
def elv : List Nat := [0, 1, 2, 3, 4, 6, 7, 8, 9, 11, 14]
def errL11 : List (String × List UInt8) := elv.map fun i => errL.getD (errPos.getD i 0) ("", [])
theorem errL11_ok : (errL11.all fun x => match Tryz.prog.globalNamed x.1 with | some g => (Tryz.prog.globals[g]?).map (·.type) == some 28 | none => false) = true := by kernel_rfl
theorem errL11_at : ((List.range 11).all fun k => match errL11[k]? with | some x => Tryz.prog.globalNamed x.1 == some (errG.getD (elv.getD k 0) 0) | none => false) = true := by kernel_rfl
theorem errL11_len : errL11.length = 11 := rfl
theorem env_of_laidR {W : World} (h : laidMetH Tryz.prog laidR W) (hsh : W.ShapedOpen Tryz.prog) : ∃ a, EnvR a W := by
  have h1 : laidMet Tryz.prog (("math/bits.deBruijn32tab", Rows.laid_math_bits_deBruijn32tab) :: ("math/bits.deBruijn64tab", Rows.laid_math_bits_deBruijn64tab) :: ("internal/strconv.uint64pow10", Rows.laid_internal_strconv_uint64pow10) :: ("unicode/utf8.acceptRanges", Rows.laid_unicode_utf8_acceptRanges) ::
      (errL11.map (sentD "*errors.errorString") ++ [("strconv.ErrRange", Rows.laid_strconv_ErrRange), ("strconv.ErrSyntax", Rows.laid_strconv_ErrSyntax), ("unicode/utf8.first", Rows.laid_unicode_utf8_first)])) W := h.1
  have h3 := laid_tail (laid_tail h1)
  have h4 := laid_tail (laid_tail h3)
  rw [pow10_data] at h3
  have htab : Lib.TabIs Tryz.prog W "internal/strconv.uint64pow10" .u64 Lib.pow10Tab := Lib.tabIs_of_head (g := 18) Tryz.pow10 (by kernel_rfl) Tryz.underlying251 Tryz.underlying232 (by kernel_rfl) (by kernel_rfl) h3
  have hlenM : ∃ m, W.cell? ⟨17, 0, none⟩ = some (.int .i64 m) := cell_of_shapedOpen_int (t := 3) (zero := #[.int .i64 0]) hsh (of_decide_eq_true (by kernel_rfl)) (by kernel_rfl) rfl (by kernel_rfl) (by kernel_rfl) Tryz.underlying3
  obtain ⟨ps, hl, hnd, hrows⟩ := h4
  obtain ⟨al, hlen, hn, hm, hvs⟩ := sents_of_laid (nm := "*errors.errorString") Tryz.underlying28 Tryz.errRow Tryz.underlying263 Tryz.underlying265 rfl rfl Tryz.underlying9 Tryz.errCells Tryz.strCells _ errL11 ps hl hnd hrows (fun x hx => by
    have := List.all_eq_true.1 errL11_ok x hx
    cases hg : Tryz.prog.globalNamed x.1 with
    | none => simp [hg] at this
    | some g => exact ⟨g, rfl, by simpa [hg] using this⟩)
  rw [errL11_len] at hlen
  have hat : ∀ k, k < 11 → W.cell? ⟨errG.getD (elv.getD k 0) 0, 0, none⟩ = some (eV (al.getD k ⟨0, 0, none⟩)) := fun k hk => by
    have h2 := List.all_eq_true.1 errL11_at k (List.mem_range.2 hk)
    cases hx : errL11[k]? with
    | none => simp only [hx] at h2; cases h2
    | some x =>
      simp only [hx, beq_iff_eq] at h2
      have hb : al[k]? = some (al.getD k ⟨0, 0, none⟩) := by
        rw [List.getD_eq_getElem?_getD, List.getElem?_eq_getElem (by omega)]
        rfl
      simpa using World.var?_cell h2 (hvs k x _ hx hb) 0
  refine ⟨fun i => al.getD (elv.idxOf i) ⟨0, 0, none⟩, ⟨⟨fun i _ hs => ?_⟩, hlenM, htab, handle_of (hs := []) h.2⟩, hat 4 (by decide)⟩
  have hi : i = 0 ∨ i = 1 ∨ i = 2 ∨ i = 3 ∨ i = 6 ∨ i = 7 ∨ i = 8 ∨ i = 9 ∨ i = 11 ∨ i = 14 := by
    unfold foS fdS flS at hs
    simp only [Bool.or_eq_true, beq_iff_eq] at hs
    omega
  rcases hi with rfl | rfl | rfl | rfl | rfl | rfl | rfl | rfl | rfl | rfl
  · exact hat 0 (by decide)
  · exact hat 1 (by decide)
  · exact hat 2 (by decide)
  · exact hat 3 (by decide)
  · exact hat 5 (by decide)
  · exact hat 6 (by decide)
  · exact hat 7 (by decide)
  · exact hat 8 (by decide)
  · exact hat 9 (by decide)
  · exact hat 10 (by decide)
theorem doorR_met (os : Os) (args : Array Value) : laidMetH Tryz.prog laidR (((World.doorLaid Tryz.prog 2000 os).layVars Tryz.prog [("unicode/utf8.first", Rows.laid_unicode_utf8_first)]).forCall (fun _ _ => 0) ⟨#[], args, []⟩).memory :=
  laidMetH_of_parts3 (fuel := 8)
    (laidMet_layVars (w0 := World.doorLaid Tryz.prog 2000 os) ["unicode/utf8.first"] ((List.range (World.doorLaid Tryz.prog 2000 os).heap.size).filter (· != 23)) (by kernel_rfl) (by kernel_rfl) (by kernel_rfl) (LaidIn.of_run ((List.range (World.doorLaid Tryz.prog 2000 os).heap.size).filter (· != 23)) 8 (by kernel_rfl) (by kernel_rfl) (by kernel_rfl) (by kernel_rfl)))
    (by kernel_rfl) (by kernel_rfl)
end Go.Proofs.YtgagekcjdapkfacGreatDoor

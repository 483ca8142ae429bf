/-
  What the row's own list of package-level variables gives: the six errors of the chapter in their variables; and the world that the program's start lays meets the list.
-/
import Derived.Test.YtkkjalokgaaniaaDoorLaidBase
import Derived.Test.YtkkjalokgaaniaaDoorBookDo
namespace Go.Proofs.YtkkjalokgaaniaaDoor
open Go.ChangeShapes Go.WideShapes Go.ChangeAt Go.RowKit

/-- The row's own list. -/
def laidP : List (String × DataW Unit) := Rows.personRisesRow.laid
def six : List Nat := [1, 3, 4, 5, 6, 9]
def errL6 : List (String × List UInt8) := six.map fun i => errL.getD (errPos.getD i 0) ("", [])
theorem errL6_ok : (errL6.all fun x => match Tryd.prog.globalNamed x.1 with | some g => (Tryd.prog.globals[g]?).map (·.type) == some 25 | none => false) = true := by kernel_rfl
theorem errL6_at : ((List.range 6).all fun k => match errL6[k]? with | some x => Tryd.prog.globalNamed x.1 == some (errG.getD (six.getD k 0) 0) | none => false) = true := by kernel_rfl
theorem errL6_len : errL6.length = 6 := rfl
theorem ev_of_laid {W : World} (h : laidMetH Tryd.prog laidP W) : ∃ a, EV perS a W := by
  have h1 : laidMet Tryd.prog (errL6.map (sentD "*errors.errorString") ++ []) W := h
  obtain ⟨ps, hl, hnd, hrows⟩ := h1
  obtain ⟨al, hlen, hn, hm, hvs⟩ := sents_of_laid (nm := "*errors.errorString") Tryd.underlying25 Tryd.errRow Tryd.underlying65 Tryd.underlying67 rfl rfl Tryd.underlying9 Tryd.errCells Tryd.strCells [] errL6 ps hl hnd hrows (fun x hx => by
    have := List.all_eq_true.1 errL6_ok x hx
    cases hg : Tryd.prog.globalNamed x.1 with
    | none => simp [hg] at this
    | some g => exact ⟨g, rfl, by simpa [hg] using this⟩)
  rw [errL6_len] at hlen
  have hat : ∀ k, k < 6 → W.cell? ⟨errG.getD (six.getD k 0) 0, 0, none⟩ = some (eV (al.getD k ⟨0, 0, none⟩)) := fun k hk => by
    have h2 := List.all_eq_true.1 errL6_at k (List.mem_range.2 hk)
    cases hx : errL6[k]? with
    | none => simp only [hx] at h2; cases h2
    | some x =>
      simp only [hx, beq_iff_eq] at h2
      have hb : al[k]? = some (al.getD k ⟨0, 0, none⟩) := by
        rw [List.getD_eq_getElem?_getD, List.getElem?_eq_getElem (by omega)]
        rfl
      simpa using World.var?_cell h2 (hvs k x _ hx hb) 0
  refine ⟨fun i => al.getD (six.idxOf i) ⟨0, 0, none⟩, ⟨fun i _ hs => ?_⟩⟩
  have hi : i = 1 ∨ i = 3 ∨ i = 4 ∨ i = 5 ∨ i = 6 ∨ i = 9 := by
    unfold perS at hs
    simp only [Bool.or_eq_true, beq_iff_eq] at hs
    omega
  rcases hi with rfl | rfl | rfl | rfl | rfl | rfl
  · exact hat 0 (by decide)
  · exact hat 1 (by decide)
  · exact hat 2 (by decide)
  · exact hat 3 (by decide)
  · exact hat 4 (by decide)
  · exact hat 5 (by decide)
theorem doorP_met (os : Os) (args : Array Value) : laidMetH Tryd.prog laidP ((World.doorLaid Tryd.prog 400 os).forCall (fun _ _ => 0) ⟨#[], args, []⟩).memory :=
  laidMetH_of_parts3 (fuel := 8) (laidMet_of_run' 8 (by kernel_rfl) (by kernel_rfl)) (by kernel_rfl) (by kernel_rfl)
end Go.Proofs.YtkkjalokgaaniaaDoor

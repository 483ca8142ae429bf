/-
  A struct of one-cell fields that came in by value, opened field by field: what the claim's reading says of each of its cells.
-/
import Derived.Deep.Fields
import Derived.ChangeArms
import Derived.WideShapes
import Derived.OpenShut
import Derived.Test.YtgagekcjdapkfabGreatDoorBase
namespace Go.Proofs.YtgagekcjdapkfabGreatDoor
open Go Go.ChangeShapes Go.WideShapes Go.RowKit Go.Deep

theorem drop_take_one {l : List Value} {i : Nat} {v : Value} (h : l[i]? = some v) : (l.drop i).take 1 = [v] := by
  obtain ⟨hi, rfl⟩ := List.getElem?_eq_some_iff.1 h
  rw [List.drop_eq_getElem_cons hi]
  rfl
theorem field_trod {H : Type} {enc : TypeId × Value → H} {P : Program} {w : World} {base : Nat} {spare : Nat → Bool} {held : Bool} {t : TypeId} {fs : Array Field} (ht : P.underlying t = some (.struct fs)) (hone : oneCellFields P fs = true)
    {cs : Array Value} {d : DataW H} {p : List MemPlace} (h : DataW.Trod enc P w base spare held t (.agg cs) d p) (i : Nat) (f : Field) (hi : fs[i]? = some f) (v : Value) (hv : cs[i]? = some v) :
    ∃ n y, DataW.trod enc P w base spare held n f.type [v] = some y := by
  obtain ⟨fuel, hf⟩ := h
  obtain ⟨xs, n, _, _, _, hlen, hx⟩ := DataW.trod_struct ht hf
  have hlt : i < xs.length := by rw [hlen]; exact (Array.getElem?_eq_some_iff.1 hi).1
  obtain ⟨o, k⟩ := hone_of hone i f hi
  have := hx i f hi
  rw [o, k, List.getElem?_eq_getElem hlt] at this
  refine ⟨n, xs[i], ?_⟩
  rw [← this]
  congr 1
  exact (drop_take_one (by simpa [Value.cells] using hv)).symm
end Go.Proofs.YtgagekcjdapkfabGreatDoor

/-
  What seal.Number answers: the number of digits without needless zeros, ten at most, up to most, and true; else 0 and false; for every text and every most.
-/
import Derived.Test.YteabincmopeljaeGreatDoorSealWords
import Derived.Test.YteabincmopeljaeGreatDoorShelf
import Derived.Lib.AtoiErrMem
namespace Go.Proofs.YteabincmopeljaeGreatDoor
open Go.RowKit Go.Extern.Stop Go.Stop Go.Extern

/-- Is it a number up to most? -/
def numB (l : List UInt8) (most : Int) : Bool := Sl.numOk l && decide ((Sl.valL l : Int) ≤ most)
/-- Number's number. -/
def numV (l : List UInt8) (most : Int) : Int := if numB l most = true then (Sl.valL l : Int) else 0
theorem head_at (s : ByteArray) (h : 0 < s.size) : s.data.toList.head? = some s[0] := by
  have : s.data.toList[0]? = some s[0] := by
    rw [List.getElem?_eq_getElem (by rw [size_list]; exact h)]
    rfl
  rw [← this, List.head?_eq_getElem?]
theorem below_bytes (w : World) (t : ByteArray) : Below w.heap.size w (Lib.bytesWorld w 5 t) := Lib.bytesWorld_below w _ t

end Go.Proofs.YteabincmopeljaeGreatDoor

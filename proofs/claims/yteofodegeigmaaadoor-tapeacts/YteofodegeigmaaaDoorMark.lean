/-
  What package mark's functions answer: More and Of the mark as the document reckons it, ErrKey and ErrBound as it says; Right nil, ErrKey or ErrMark; for every key, number and text up to the longest that can be.
-/
import Derived.Test.YteofodegeigmaaaDoorCoded
import Derived.Test.YteofodegeigmaaaDoorMarkPlain
import Derived.Laws.IdiomStrings
import Derived.Deep.QuietTactic
import Derived.BigQuiet
import Derived.WalkSmall
namespace Go.Proofs.YteofodegeigmaaaDoor
open Go.RowKit Go.Extern.Stop Go.Stop Go.Extern

/-- What '[]byte(s)' lays, named. -/
theorem bytes_of (s : ByteArray) (w : World) : ∃ (C : Array Value) (cap : Nat), (convert 9 49 (.string s)).run Tryd.prog w = .ok (.slice (some ⟨w.heap.size, 0, none⟩) s.size cap) (w.drew.alloc (.cells C 5 (C.size, C.size + 1))) ∧
    ∀ j (hj : j < s.size), C[j]? = some (.int .u8 (s[j].toNat : Int)) :=
  ⟨_, _, run_bytes_of_string (P := Tryd.prog) w 9 49 5 s Tryd.underlying9 Tryd.underlying49 Tryd.underlying5, fun j hj => bytesRow_at s _ j hj⟩

theorem take_snoc (s : ByteArray) (k : Nat) (h : k < s.size) : s.data.toList.take (k + 1) = s.data.toList.take k ++ [s[k]] := by
  rw [List.take_succ_eq_append_getElem (by simpa using h)]; rfl
theorem ret_int {k : IntKind} {a b : Int} (h : a = b) : Ending.returned (.int k a) = .returned (.int k b) := by rw [h]

/-- An error by its number: 0 is nil. -/
def errV (a : Nat → Addr) (c : Nat) : Value := if c = 0 then .nilIface else eV (a (c - 1))
theorem errV_zero (a : Nat → Addr) : errV a 0 = .nilIface := rfl
theorem errV_pos (a : Nat → Addr) {c : Nat} (h : c ≠ 0) : errV a c = eV (a (c - 1)) := by unfold errV; rw [if_neg h]
theorem coded_errV (a : Nat → Addr) (c : Nat) (hc : c ≤ 16) (c' : Int) (w : World) (h : Errs a w) :
    Calls Tryd.prog 14 #[errV a c, .int .i64 c'] w fun e w' => e = .returned (.bool (decide ((c : Int) = c'))) ∧ Below w.heap.size w w' := by
  unfold errV
  by_cases h0 : c = 0
  · subst h0
    exact coded_nil c' w
  · rw [if_neg h0]
    have := coded_err a (c - 1) (by omega) c' w h
    rwa [show (((c - 1 : Nat) : Int) + 1) = (c : Int) by omega] at this

/-- The number of More's error. -/
def moreE (key n : Int) : Nat := if 1 ≤ key ∧ key ≤ 1000000006 then (if 0 ≤ n ∧ n ≤ 1000000006 then 0 else 2) else 10
/-- More's number. -/
def moreN (key n : Int) (l : List UInt8) : Int := if moreE key n = 0 then Mk.mk key n l else 0
/-- The number of Right's error. -/
def rightE (key : Int) (l : List UInt8) (n : Int) : Nat := if 1 ≤ key ∧ key ≤ 1000000006 then (if Mk.mk key key l = n then 0 else 9) else 10
theorem moreE_le (key n : Int) : moreE key n ≤ 16 := by unfold moreE; split <;> (try split) <;> omega
theorem rightE_le (key : Int) (l : List UInt8) (n : Int) : rightE key l n ≤ 16 := by unfold rightE; split <;> (try split) <;> omega

end Go.Proofs.YteofodegeigmaaaDoor

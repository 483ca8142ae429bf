/-
  People as the document has them, plainly: a person, the number of a person's error, a list of people by names.
-/
import Derived.Test.YtkkjalokgaaniabDoorSealPlain
import Derived.Below
namespace Go.Proofs.YtkkjalokgaaniabDoor
open Go

structure Per where
  name : ByteArray
  key : Int
  epoch : Int
  off : Bool
/-- A person's four cells, and the value. -/
def Per.cells (p : Per) : List Value := [.string p.name, .int .i64 p.key, .int .i64 p.epoch, .bool p.off]
def Per.val (p : Per) : Value := .agg #[.string p.name, .int .i64 p.key, .int .i64 p.epoch, .bool p.off]
/-- The number of a person's error. -/
def Per.err (p : Per) : Nat := if Sl.nameL p.name.data.toList = true then (if 1 ≤ p.key ∧ p.key ≤ 1000000006 then (if 1 ≤ p.epoch ∧ p.epoch ≤ 1073741824 then 0 else 2) else 10) else 4
/-- People's cells, one behind the other. -/
def cellsP (L : List Per) : List Value := L.flatMap Per.cells
theorem cellsP_len : ∀ L : List Per, (cellsP L).length = L.length * 4
  | [] => rfl
  | p :: L => by
    have := cellsP_len L
    simp only [cellsP, List.flatMap_cons, List.length_append, List.length_cons] at this ⊢
    rw [this]
    show 4 + _ = _
    omega
theorem cellsP_append (L M : List Per) : cellsP (L ++ M) = cellsP L ++ cellsP M := by simp [cellsP]
theorem cellsP_at : ∀ (L : List Per) (i j : Nat) (hi : i < L.length), j < 4 → (cellsP L)[i * 4 + j]? = (L[i].cells)[j]?
  | p :: L, 0, j, _, hj => by
    simp only [cellsP, List.flatMap_cons, Nat.zero_mul, Nat.zero_add, List.getElem_cons_zero]
    rw [List.getElem?_append_left (by show j < 4; exact hj)]
  | p :: L, i + 1, j, hi, hj => by
    have ih := cellsP_at L i j (by simpa using hi) hj
    simp only [cellsP, List.flatMap_cons, List.getElem_cons_succ] at ih ⊢
    rw [List.getElem?_append_right (by show 4 ≤ _; omega), show (i + 1) * 4 + j - p.cells.length = i * 4 + j by show (i + 1) * 4 + j - 4 = _; omega]
    exact ih

theorem cellsP_set : ∀ (L : List Per) (i j : Nat) (hi : i < L.length) (u : Value) (q : Per), j < 4 → q.cells = (L[i].cells).set j u → (cellsP L).set (i * 4 + j) u = cellsP (L.set i q)
  | p :: L, 0, j, _, u, q, hj, hq => by
    simp only [cellsP, List.flatMap_cons, Nat.zero_mul, Nat.zero_add, List.getElem_cons_zero, List.set_cons_zero] at hq ⊢
    rw [List.set_append_left _ _ (by show j < 4; exact hj), hq]
  | p :: L, i + 1, j, hi, u, q, hj, hq => by
    have ih := cellsP_set L i j (by simpa using hi) u q hj (by simpa using hq)
    simp only [cellsP, List.flatMap_cons, List.set_cons_succ] at ih ⊢
    rw [List.set_append_right _ _ (by show 4 ≤ _; omega), show (i + 1) * 4 + j - p.cells.length = i * 4 + j by show (i + 1) * 4 + j - 4 = _; omega, ih]

/-- What the acts of the chapter do to people: the number of the error, and the people behind it. -/
def raiseP (L : List Per) (name : ByteArray) : Int × Nat × List Per := match L.findIdx? (fun p => decide (p.name = name)) with
  | none => (0, 5, L)
  | some k => match L[k]? with
    | none => (0, 5, L)
    | some p => if 1073741824 ≤ p.epoch then (0, 2, L) else (p.epoch + 1, 0, L.set k { p with epoch := p.epoch + 1 })
def offP (L : List Per) (name : ByteArray) (off : Bool) : Nat × List Per := match L.findIdx? (fun p => decide (p.name = name)) with
  | none => (5, L)
  | some k => match L[k]? with
    | none => (5, L)
    | some p => if p.off = off then (6, L) else (0, L.set k { p with off := off })
def rekeyP (L : List Per) (name : ByteArray) (key : Int) : Nat × List Per := match L.findIdx? (fun p => decide (p.name = name)) with
  | none => (5, L)
  | some k => match L[k]? with
    | none => (5, L)
    | some p => if 1 ≤ key ∧ key ≤ 1000000006 then (if p.key = key then (6, L) else if 1073741824 ≤ p.epoch then (2, L) else (0, L.set k { p with key := key, epoch := p.epoch + 1 })) else (10, L)

/-- Where a name is among people (-1: nowhere). -/
def findP (L : List Per) (name : ByteArray) : Int := match L.findIdx? (fun p => decide (p.name = name)) with | some i => (i : Int) | none => -1
theorem findP_some (L : List Per) (name : ByteArray) (k : Nat) (hk : k < L.length) (h : L[k].name = name) (hb : ∀ j (hj : j < L.length), j < k → L[j].name ≠ name) : findP L name = k := by
  have : L.findIdx? (fun p => decide (p.name = name)) = some k := by
    rw [List.findIdx?_eq_some_iff_getElem]
    exact ⟨hk, by simp [h], fun j hj => by simp [hb j (by omega) hj]⟩
  unfold findP
  rw [this]
theorem findP_none (L : List Per) (name : ByteArray) (h : ∀ j (hj : j < L.length), L[j].name ≠ name) : findP L name = -1 := by
  have : L.findIdx? (fun p => decide (p.name = name)) = none := by
    rw [List.findIdx?_eq_none_iff]
    intro x hx
    obtain ⟨j, hj, rfl⟩ := List.getElem_of_mem hx
    simp [h j hj]
  unfold findP
  rw [this]
theorem findP_cases (L : List Per) (name : ByteArray) : (findP L name = -1 ∧ ∀ j (hj : j < L.length), L[j].name ≠ name) ∨ (∃ k : Nat, ∃ hk : k < L.length, findP L name = k ∧ L[k].name = name ∧ ∀ j (hj : j < L.length), j < k → L[j].name ≠ name) := by
  unfold findP
  cases h : L.findIdx? (fun p => decide (p.name = name)) with
  | none =>
    refine Or.inl ⟨rfl, fun j hj => ?_⟩
    have := List.findIdx?_eq_none_iff.1 h L[j] (List.getElem_mem _)
    simpa using this
  | some k =>
    obtain ⟨hk, h2, h3⟩ := List.findIdx?_eq_some_iff_getElem.1 h
    exact Or.inr ⟨k, hk, rfl, by simpa using h2, fun j hj hjk => by simpa using h3 j hjk⟩
end Go.Proofs.YtkkjalokgaaniabDoor

/-
  Sessions at a desk, plainly: open ones by their numbers, each with its ticket; what opening, asking, closing and sweeping answer and leave; and what holds of a desk at any time.
-/
import Derived.Test.YteabincmopeljadDoorTicketPlain
import Derived.Test.YteabincmopeljadDoorFloorPlain
namespace Go.Proofs.YteabincmopeljadDoor
open Go

/-- An open session. -/
structure Os where
  n : Int
  tk : Tk
/-- A desk: how many were opened, and those that are open. -/
structure Dk where
  many : Int
  l : List Os
def findO (L : List Os) (n : Int) : Option Os := L.find? (fun o => decide (o.n = n))
def openO (L : List Os) (t : Tk) (now : Int) : Nat := if t.good now ≠ 0 then t.good now else if 40 ≤ L.length then 7 else 0
def Dk.opens (d : Dk) (t : Tk) (now : Int) : Dk := if openO d.l t now = 0 then ⟨d.many + 1, d.l ++ [⟨d.many + 1, t⟩]⟩ else d
def askO (L : List Os) (n now : Int) : Nat := match findO L n with | some o => o.tk.good now | none => 5
def askK (L : List Os) (n now : Int) : Tk := match findO L n with | some o => okT (o.tk.good now) o.tk | none => tk0
def closeO (L : List Os) (n : Int) : Nat := if (findO L n).isSome then 0 else 5
def closeL (L : List Os) (n : Int) : List Os := L.filter (fun o => !decide (o.n = n))
/-- Does it stay behind a sweep? -/
def staysO (fl : List Fl) (now : Int) (o : Os) : Bool := decide (o.tk.good now = 0) && decide (ofL fl o.tk.who.data.toList ≤ o.tk.epoch)
def sweepC (fl : List Fl) (now : Int) : Nat × Int := if (checkL fl).1 ≠ 0 then checkL fl else if 0 ≤ now ∧ now ≤ 1000000 then checkL fl else (2, -1)
def sweepL (fl : List Fl) (now : Int) (L : List Os) : List Os := L.filter (staysO fl now)
def sweepN (fl : List Fl) (now : Int) (L : List Os) : List Int := (L.filter fun o => !staysO fl now o).map Os.n

/-- What holds of a desk at any time. -/
structure GoodD (d : Dk) : Prop where
  rising : d.l.Pairwise (fun x y => x.n < y.n)
  few : d.l.length ≤ 40
  upto : ∀ o ∈ d.l, 1 ≤ o.n ∧ o.n ≤ d.many
  many : 0 ≤ d.many
  fine : ∀ o ∈ d.l, o.tk.err = 0
theorem GoodD.zero : GoodD ⟨0, []⟩ := ⟨List.Pairwise.nil, by simp, by simp, by simp, by simp⟩
theorem openO_zero {L : List Os} {t : Tk} {now : Int} (h : openO L t now = 0) : t.good now = 0 ∧ L.length < 40 := by
  unfold openO at h
  split at h
  · rename_i h1; exact absurd h h1
  · rename_i h1
    split at h
    · cases h
    · exact ⟨by simpa using h1, by omega⟩
theorem GoodD.opens {d : Dk} (h : GoodD d) (t : Tk) (now : Int) : GoodD (d.opens t now) := by
  unfold Dk.opens
  split
  · rename_i h0
    obtain ⟨h1, h2⟩ := openO_zero h0
    refine ⟨List.pairwise_append.2 ⟨h.rising, List.pairwise_singleton _ _, fun x hx y hy => ?_⟩, ?_, fun o ho => ?_, by have := h.many; show 0 ≤ d.many + 1; omega, fun o ho => ?_⟩
    · rw [List.mem_singleton.1 hy]
      have := (h.upto x hx).2
      show x.n < d.many + 1
      omega
    · rw [List.length_append, List.length_singleton]; omega
    · rcases List.mem_append.1 ho with ho | ho
      · have := h.upto o ho
        exact ⟨this.1, by show o.n ≤ d.many + 1; omega⟩
      · rw [List.mem_singleton.1 ho]
        have := h.many
        exact ⟨by show 1 ≤ d.many + 1; omega, Int.le_refl _⟩
    · rcases List.mem_append.1 ho with ho | ho
      · exact h.fine o ho
      · rw [List.mem_singleton.1 ho]
        exact ((Tk.good_iff t now).1 h1).1
  · exact h
theorem GoodD.part {d : Dk} (h : GoodD d) (p : Os → Bool) : GoodD ⟨d.many, d.l.filter p⟩ :=
  ⟨List.Pairwise.filter _ h.rising, Nat.le_trans (List.length_filter_le _ _) h.few, fun o ho => h.upto o (List.mem_filter.1 ho).1, h.many, fun o ho => h.fine o (List.mem_filter.1 ho).1⟩
theorem findO_some {L : List Os} {n : Int} {o : Os} (h : findO L n = some o) : o ∈ L ∧ o.n = n := ⟨List.mem_of_find?_eq_some h, by simpa using List.find?_some h⟩
theorem findO_none {L : List Os} {n : Int} (h : findO L n = none) : ∀ o ∈ L, o.n ≠ n := fun o ho e => by
  have := List.find?_eq_none.1 h o ho
  simp [e] at this
/-- By numbers one alone bears each. -/
theorem findO_mem {L : List Os} (hr : L.Pairwise (fun x y => x.n < y.n)) {o : Os} (ho : o ∈ L) : findO L o.n = some o := by
  cases h : findO L o.n with
  | none => exact absurd rfl (findO_none h o ho)
  | some q =>
    obtain ⟨hq, hn⟩ := findO_some h
    obtain ⟨i, hi, rfl⟩ := List.getElem_of_mem ho
    obtain ⟨j, hj, rfl⟩ := List.getElem_of_mem hq
    rcases Nat.lt_trichotomy i j with g | g | g
    · have := List.pairwise_iff_getElem.1 hr i j hi hj g; omega
    · subst g; rfl
    · have := List.pairwise_iff_getElem.1 hr j i hj hi g; omega
/-- At a place of the list. -/
theorem findO_at (L : List Os) (n : Int) (k : Nat) (hk : k < L.length) (h : L[k].n = n) (hb : ∀ j (hj : j < L.length), j < k → L[j].n ≠ n) : findO L n = some L[k] := by
  unfold findO
  rw [List.find?_eq_some_iff_getElem]
  exact ⟨by simpa using h, k, hk, rfl, fun j hj => by simpa using hb j (by omega) hj⟩
theorem findO_no (L : List Os) (n : Int) (h : ∀ j (hj : j < L.length), L[j].n ≠ n) : findO L n = none := by
  unfold findO
  rw [List.find?_eq_none]
  intro x hx
  obtain ⟨j, hj, rfl⟩ := List.getElem_of_mem hx
  simpa using h j hj
theorem closeL_len {L : List Os} {n : Int} : (closeL L n).length = L.length ↔ findO L n = none := by
  unfold closeL
  rw [List.length_filter_eq_length_iff]
  constructor
  · intro h
    unfold findO
    rw [List.find?_eq_none]
    intro x hx
    simpa using h x hx
  · intro h x hx
    simpa using findO_none h x hx
theorem closeL_none {L : List Os} {n : Int} (h : findO L n = none) : closeL L n = L :=
  List.filter_eq_self.2 fun x hx => by simpa using findO_none h x hx
/-- Behind a sweep all that are open are good, and pass; what went, and what stays. -/
theorem sweep_stays {fl : List Fl} {now : Int} {L : List Os} : ∀ o ∈ sweepL fl now L, o.tk.good now = 0 ∧ ofL fl o.tk.who.data.toList ≤ o.tk.epoch := fun o ho => by
  have := (List.mem_filter.1 ho).2
  unfold staysO at this
  simpa using this
theorem sweep_again (fl : List Fl) (now : Int) (L : List Os) : sweepL fl now (sweepL fl now L) = sweepL fl now L ∧ sweepN fl now (sweepL fl now L) = [] := by
  constructor
  · exact List.filter_eq_self.2 fun x hx => (List.mem_filter.1 hx).2
  · have e : ((sweepL fl now L).filter fun o => !staysO fl now o) = [] := by
      rw [List.filter_eq_nil_iff]
      intro x hx
      simp [(List.mem_filter.1 hx).2]
    unfold sweepN
    rw [e]
    rfl
end Go.Proofs.YteabincmopeljadDoor

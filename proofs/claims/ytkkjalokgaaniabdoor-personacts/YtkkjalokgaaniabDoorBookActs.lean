/-
  The acts on a book, plainly: what each answers and leaves; that people stay by names and in order, that nobody goes, that epochs only rise.
-/
import Derived.Test.YtkkjalokgaaniabDoorBookPlain
namespace Go.Proofs.YtkkjalokgaaniabDoor
open Go

/-- A new person. -/
def newP (name : ByteArray) (key : Int) : Per := ⟨name, key, 1, false⟩
/-- What Add answers and leaves. -/
def addP (L : List Per) (name : ByteArray) (key : Int) : Nat × List Per :=
  if (newP name key).err ≠ 0 then ((newP name key).err, L) else if (getP L name).isSome = true then (6, L) else if 20 ≤ L.length then (7, L) else (0, putP L (newP name key))

/-- A book that is in order. -/
structure Good (L : List Per) : Prop where
  rise : Rising L
  fine : ∀ p ∈ L, p.err = 0
  few : L.length ≤ 20
theorem Good.nil : Good [] := ⟨List.Pairwise.nil, (fun _ h => by cases h), by decide⟩

theorem getP_none {L : List Per} {name : ByteArray} (h : getP L name = none) : ∀ q ∈ L, q.name ≠ name := fun q hq => by
  have := List.find?_eq_none.1 h q hq
  simpa using this
theorem getP_some {L : List Per} {name : ByteArray} {p : Per} (h : getP L name = some p) : p.name = name ∧ p ∈ L :=
  ⟨by simpa using List.find?_some h, List.mem_of_find?_eq_some h⟩
theorem getP_idx {L : List Per} {name : ByteArray} {p : Per} (h : getP L name = some p) : ∃ k, ∃ hk : k < L.length, L[k] = p ∧ L.findIdx? (fun p => decide (p.name = name)) = some k := by
  unfold getP at h
  rw [List.find?_eq_some_iff_getElem] at h
  obtain ⟨h1, k, hk, rfl, h2⟩ := h
  refine ⟨k, hk, rfl, ?_⟩
  rw [List.findIdx?_eq_some_iff_getElem]
  exact ⟨hk, h1, fun j hj => by simpa using h2 j hj⟩
theorem getP_no_idx {L : List Per} {name : ByteArray} (h : getP L name = none) : L.findIdx? (fun p => decide (p.name = name)) = none := by
  rw [List.findIdx?_eq_none_iff]
  intro x hx
  simp [getP_none h x hx]
/-- Whoever is there is found. -/
theorem getP_of_mem {L : List Per} (h : Rising L) {p : Per} (hp : p ∈ L) : getP L p.name = some p := by
  cases hg : getP L p.name with
  | none => exact absurd rfl (getP_none hg p hp)
  | some q =>
    obtain ⟨h1, h2⟩ := getP_some hg
    obtain ⟨i, hi, rfl⟩ := List.getElem_of_mem hp
    obtain ⟨j, hj, rfl⟩ := List.getElem_of_mem h2
    by_cases e : i = j
    · subst e; rfl
    · exact absurd h1.symm (h.ne hi hj e)

theorem raise_none {L : List Per} {name : ByteArray} (h : getP L name = none) : raiseP L name = (0, 5, L) := by unfold raiseP; rw [getP_no_idx h]
theorem off_none {L : List Per} {name : ByteArray} (off : Bool) (h : getP L name = none) : offP L name off = (5, L) := by unfold offP; rw [getP_no_idx h]
theorem rekey_none {L : List Per} {name : ByteArray} (key : Int) (h : getP L name = none) : rekeyP L name key = (5, L) := by unfold rekeyP; rw [getP_no_idx h]
theorem raise_some {L : List Per} {name : ByteArray} {p : Per} (hr : Rising L) (h : getP L name = some p) : raiseP L name = if 1073741824 ≤ p.epoch then (0, 2, L) else (p.epoch + 1, 0, putP L { p with epoch := p.epoch + 1 }) := by
  obtain ⟨k, hk, rfl, hi⟩ := getP_idx h
  unfold raiseP
  rw [hi]
  simp only [List.getElem?_eq_getElem hk]
  rw [putP_set hr k hk { L[k] with epoch := L[k].epoch + 1 } rfl]
theorem off_some {L : List Per} {name : ByteArray} {p : Per} (off : Bool) (hr : Rising L) (h : getP L name = some p) : offP L name off = if p.off = off then (6, L) else (0, putP L { p with off := off }) := by
  obtain ⟨k, hk, rfl, hi⟩ := getP_idx h
  unfold offP
  rw [hi]
  simp only [List.getElem?_eq_getElem hk]
  rw [putP_set hr k hk { L[k] with off := off } rfl]
theorem rekey_some {L : List Per} {name : ByteArray} {p : Per} (key : Int) (hr : Rising L) (h : getP L name = some p) : rekeyP L name key = if 1 ≤ key ∧ key ≤ 1000000006 then (if p.key = key then (6, L) else if 1073741824 ≤ p.epoch then (2, L) else (0, putP L { p with key := key, epoch := p.epoch + 1 })) else (10, L) := by
  obtain ⟨k, hk, rfl, hi⟩ := getP_idx h
  unfold rekeyP
  rw [hi]
  simp only [List.getElem?_eq_getElem hk]
  rw [putP_set hr k hk { L[k] with key := key, epoch := L[k].epoch + 1 } rfl]

theorem err_zero {p : Per} : p.err = 0 ↔ Sl.nameL p.nm = true ∧ (1 ≤ p.key ∧ p.key ≤ 1000000006) ∧ (1 ≤ p.epoch ∧ p.epoch ≤ 1073741824) := by
  unfold Per.err Per.nm
  by_cases h1 : Sl.nameL p.name.data.toList = true
  · by_cases h2 : 1 ≤ p.key ∧ p.key ≤ 1000000006
    · by_cases h3 : 1 ≤ p.epoch ∧ p.epoch ≤ 1073741824
      · rw [if_pos h1, if_pos h2, if_pos h3]; exact ⟨fun _ => ⟨h1, h2, h3⟩, fun _ => rfl⟩
      · rw [if_pos h1, if_pos h2, if_neg h3]; exact ⟨fun h => absurd h (by decide), fun h => absurd h.2.2 h3⟩
    · rw [if_pos h1, if_neg h2]; exact ⟨fun h => absurd h (by decide), fun h => absurd h.2.1 h2⟩
  · rw [if_neg h1]; exact ⟨fun h => absurd h (by decide), fun h => absurd h.1 h1⟩

/-- Nobody goes, and epochs only rise: another key is another epoch. -/
def Risen (L L' : List Per) : Prop := ∀ q ∈ L, ∃ p, getP L' q.name = some p ∧ q.epoch ≤ p.epoch ∧ (p.key = q.key ∨ p.epoch ≠ q.epoch)
theorem Risen.refl {L : List Per} (h : Rising L) : Risen L L := fun q hq => ⟨q, getP_of_mem h hq, Int.le_refl _, Or.inl rfl⟩

theorem put_new_good {L : List Per} (h : Good L) {p : Per} (hp : p.err = 0) (hn : getP L p.name = none) (hl : L.length < 20) : Good (putP L p) ∧ Risen L (putP L p) := by
  have hne := getP_none hn
  rw [putP_new hne]
  have hr := insL_rising p L h.rise hne
  have hperm := insL_perm p L
  refine ⟨⟨hr, fun q hq => ?_, by rw [hperm.length_eq]; simp; omega⟩, fun q hq => ⟨q, getP_of_mem hr (hperm.mem_iff.2 (by simp [hq])), Int.le_refl _, Or.inl rfl⟩⟩
  rcases List.mem_cons.1 (hperm.mem_iff.1 hq) with rfl | hq
  · exact hp
  · exact h.fine q hq
theorem put_set_good {L : List Per} (h : Good L) {p p' : Per} (hg : getP L p'.name = some p) (hp : p'.err = 0) (he : p.epoch ≤ p'.epoch) (hk : p'.key = p.key ∨ p'.epoch ≠ p.epoch) : Good (putP L p') ∧ Risen L (putP L p') := by
  obtain ⟨k, hkl, rfl, _⟩ := getP_idx hg
  have hn := (getP_some hg).1
  rw [putP_set h.rise k hkl p' hn]
  have hr := set_rising h.rise k hkl p' hn
  refine ⟨⟨hr, fun q hq => ?_, by simpa using h.few⟩, fun q hq => ?_⟩
  · rcases List.mem_or_eq_of_mem_set hq with g | rfl
    · exact h.fine q g
    · exact hp
  · obtain ⟨i, hi, rfl⟩ := List.getElem_of_mem hq
    by_cases e : i = k
    · subst e
      refine ⟨p', ?_, he, hk⟩
      rw [hn]
      exact getP_of_mem hr (List.mem_set hi p')
    · refine ⟨L[i], getP_of_mem hr ?_, Int.le_refl _, Or.inl rfl⟩
      rw [show L[i] = (L.set k p')[i]'(by simpa using hi) by rw [List.getElem_set_ne (Ne.symm e)]]
      exact List.getElem_mem _

/-- What an act does: the number of the error (0: none), the people behind it. -/
structure Acted (L : List Per) (r : Nat × List Per) : Prop where
  good : Good r.2
  risen : Risen L r.2
  same : r.1 ≠ 0 → r.2 = L
theorem Acted.no {L : List Per} (h : Good L) (c : Nat) : Acted L (c, L) := ⟨h, Risen.refl h.rise, fun _ => rfl⟩
theorem Acted.yes {L M : List Per} (h : Good M ∧ Risen L M) : Acted L (0, M) := ⟨h.1, h.2, fun g => absurd rfl g⟩
theorem add_acted {L : List Per} (h : Good L) (name : ByteArray) (key : Int) : Acted L (addP L name key) := by
  unfold addP
  by_cases h1 : (newP name key).err = 0
  · rw [if_neg (by simpa using h1)]
    cases hg : getP L name with
    | some p => exact Acted.no h 6
    | none =>
      by_cases h3 : 20 ≤ L.length
      · simp only [Option.isSome_none, Bool.false_eq_true, if_false, if_pos h3]
        exact Acted.no h 7
      · simp only [Option.isSome_none, Bool.false_eq_true, if_false, if_neg h3]
        exact Acted.yes (put_new_good h h1 hg (by omega))
  · rw [if_pos h1]
    exact Acted.no h _
theorem raise_acted {L : List Per} (h : Good L) (name : ByteArray) : Acted L (raiseP L name).2 := by
  cases hg : getP L name with
  | none => rw [raise_none hg]; exact Acted.no h 5
  | some p =>
    rw [raise_some h.rise hg]
    by_cases he : 1073741824 ≤ p.epoch
    · rw [if_pos he]; exact Acted.no h 2
    · rw [if_neg he]
      obtain ⟨hn, hm⟩ := getP_some hg
      subst hn
      obtain ⟨f1, f2, f3⟩ := err_zero.1 (h.fine p hm)
      exact Acted.yes (put_set_good h (p' := { p with epoch := p.epoch + 1 }) hg (err_zero.2 ⟨f1, f2, by show 1 ≤ p.epoch + 1 ∧ p.epoch + 1 ≤ _; omega⟩) (by show p.epoch ≤ p.epoch + 1; omega) (Or.inl rfl))
theorem off_acted {L : List Per} (h : Good L) (name : ByteArray) (off : Bool) : Acted L (offP L name off) := by
  cases hg : getP L name with
  | none => rw [off_none off hg]; exact Acted.no h 5
  | some p =>
    rw [off_some off h.rise hg]
    by_cases he : p.off = off
    · rw [if_pos he]; exact Acted.no h 6
    · rw [if_neg he]
      obtain ⟨hn, hm⟩ := getP_some hg
      subst hn
      obtain ⟨f1, f2, f3⟩ := err_zero.1 (h.fine p hm)
      exact Acted.yes (put_set_good h (p' := { p with off := off }) hg (err_zero.2 ⟨f1, f2, f3⟩) (Int.le_refl _) (Or.inl rfl))
theorem rekey_acted {L : List Per} (h : Good L) (name : ByteArray) (key : Int) : Acted L (rekeyP L name key) := by
  cases hg : getP L name with
  | none => rw [rekey_none key hg]; exact Acted.no h 5
  | some p =>
    rw [rekey_some key h.rise hg]
    by_cases hk : 1 ≤ key ∧ key ≤ 1000000006
    · rw [if_pos hk]
      by_cases hq : p.key = key
      · rw [if_pos hq]; exact Acted.no h 6
      · rw [if_neg hq]
        by_cases he : 1073741824 ≤ p.epoch
        · rw [if_pos he]; exact Acted.no h 2
        · rw [if_neg he]
          obtain ⟨hn, hm⟩ := getP_some hg
          subst hn
          obtain ⟨f1, f2, f3⟩ := err_zero.1 (h.fine p hm)
          exact Acted.yes (put_set_good h (p' := { p with key := key, epoch := p.epoch + 1 }) hg (err_zero.2 ⟨f1, hk, by show 1 ≤ p.epoch + 1 ∧ p.epoch + 1 ≤ _; omega⟩) (by show p.epoch ≤ p.epoch + 1; omega) (Or.inr (by show p.epoch + 1 ≠ p.epoch; omega)))
    · rw [if_neg hk]; exact Acted.no h 10
theorem add_err {L : List Per} {name : ByteArray} {key : Int} (h : (newP name key).err ≠ 0) : addP L name key = ((newP name key).err, L) := by unfold addP; rw [if_pos h]
theorem add_is {L : List Per} {name : ByteArray} {key : Int} {p : Per} (h : (newP name key).err = 0) (hg : getP L name = some p) : addP L name key = (6, L) := by
  unfold addP; rw [if_neg (by simpa using h), hg]; rfl
theorem add_full {L : List Per} {name : ByteArray} {key : Int} (h : (newP name key).err = 0) (hg : getP L name = none) (hn : 20 ≤ L.length) : addP L name key = (7, L) := by
  unfold addP; rw [if_neg (by simpa using h), hg, if_neg (by simp), if_pos hn]
theorem add_ok {L : List Per} {name : ByteArray} {key : Int} (h : (newP name key).err = 0) (hg : getP L name = none) (hn : ¬ 20 ≤ L.length) : addP L name key = (0, putP L (newP name key)) := by
  unfold addP; rw [if_neg (by simpa using h), hg, if_neg (by simp), if_neg hn]
end Go.Proofs.YtkkjalokgaaniabDoor

/-
  The document's answer's acts on a book, each in one form.
-/
import Derived.Test.YtkkjalokgaaniabDoorBookActs
import Derived.Test.YtkkjalokgaaniabDoorPersonAdd3
import Derived.Sort.Walk0
namespace Go.Proofs.YtkkjalokgaaniabDoor
open Go.RowKit Go.Extern.Stop Go.Stop Go.Extern Go.Maps

theorem insert_ins (p : Per) : ∀ L : List Per, Rising L → (∀ q ∈ L, q.name ≠ p.name) → insertP L p = insL p L
  | [], _, _ => rfl
  | q :: r, h, hne => by
    obtain ⟨h1, h2⟩ := List.pairwise_cons.1 h
    have hl : lessP p.name q = decide (q.nm < p.nm) := by
      unfold lessP Per.nm
      rw [bytesLess_eq, Lib.toList_data, Lib.toList_data]
    have ih := insert_ins p r h2 (fun x hx => hne x (by simp [hx]))
    unfold insL
    by_cases hlt : p.nm < q.nm
    · rw [if_pos hlt]
      have : lessP p.name q = false := by rw [hl]; exact decide_eq_false fun e => List.lt_irrefl _ (List.lt_trans e hlt)
      unfold insertP placeP
      rw [List.takeWhile_cons_of_neg (by simpa using this)]
      rfl
    · rw [if_neg hlt]
      have hqp : q.nm < p.nm := by
        refine Decidable.byContradiction fun g => hne q (by simp) (name_eq ?_)
        exact List.le_antisymm (List.not_lt.1 hlt) (List.not_lt.1 g)
      have : lessP p.name q = true := by rw [hl]; exact decide_eq_true hqp
      rw [← ih]
      unfold insertP placeP
      rw [List.takeWhile_cons_of_pos (by simpa using this), List.length_cons, List.take_succ_cons, List.drop_succ_cons]
      rfl
theorem insert_ne (L : List Per) (p : Per) : insertP L p ≠ [] := by unfold insertP; simp
theorem insert_put {L : List Per} {p : Per} (h : Rising L) (hn : getP L p.name = none) : insertP L p = putP L p := by
  rw [putP_new (getP_none hn), insert_ins p L h (getP_none hn)]

theorem Kept.mono {S S' : Nat → Prop} {w w' : World} (h : Kept S w w') (hs : ∀ k, S k → S' k) : Kept S' w w' := ⟨h.os, h.tape, h.output, h.size, fun k hk hn => h.block k hk (fun e => hn (hs k e))⟩
/-- What an act of the document's answer leaves. -/
def RefPostB (B : Nat) (w : World) (bb : Nat) (v : Value) (L' : List Per) (w' : World) : Prop := ∃ v', RefBookB B w' bb v' L' ∧ (L' = [] → v' = .slice none 0 0) ∧ Kept (fun k => k = bb ∨ v.ownBlock = some k) w w' ∧ ∀ g, v'.ownBlock = some g → v.ownBlock = some g ∨ w.heap.size ≤ g
abbrev RefPost (w : World) (bb : Nat) (v : Value) (L' : List Per) (w' : World) : Prop := RefPostB (bb + 1) w bb v L' w'
theorem find_of_get {L : List Per} {name : ByteArray} (h : getP L name = none) : findP L name = -1 := by unfold findP; rw [getP_no_idx h]
theorem find_of_some {L : List Per} {name : ByteArray} {p : Per} (h : getP L name = some p) : ∃ k : Nat, ∃ hk : k < L.length, L[k] = p ∧ findP L name = k := by
  obtain ⟨k, hk, e, hi⟩ := getP_idx h
  exact ⟨k, hk, e, by unfold findP; rw [hi]⟩
theorem Good.epoch {L : List Per} (h : Good L) (i : Nat) (hi : i < L.length) : 1 ≤ L[i].epoch := (err_zero.1 (h.fine _ (List.getElem_mem hi))).2.2.1

theorem refAdd_p {B : Nat} (bb : Nat) (v : Value) (L : List Per) (name : ByteArray) (key : Int) (w : World) (hBw : B ≤ w.heap.size) (h : RefBookB B w bb v L) (hv : L = [] → v = .slice none 0 0) (hg : Good L) (hs : name.size ≤ maxLen) :
    Calls Tryd.prog 13 #[.pointer (some ⟨bb, 0, none⟩), .string name, .int .i64 key] w fun e w' => e = .returned (.int .i64 ((addP L name key).1 : Int)) ∧ RefPostB B w bb v (addP L name key).2 w' := by
  have hn : L.length ≤ 1000 := Nat.le_trans hg.few (by decide)
  by_cases he : (newP name key).err = 0
  · cases hgp : getP L name with
    | some p =>
      obtain ⟨k, hk, _, hf⟩ := find_of_some hgp
      rw [add_is he hgp]
      exact (refAdd_no bb v L name key w h hn hs he 6 (Or.inl ⟨by rw [hf]; omega, rfl⟩)).mono fun _ _ ⟨h1, h2, h3⟩ => ⟨h1, v, h2, hv, Kept.of_below _ h3, fun _ e => Or.inl e⟩
    | none =>
      have hf := find_of_get hgp
      by_cases h20 : 20 ≤ L.length
      · rw [add_full he hgp h20]
        exact (refAdd_no bb v L name key w h hn hs he 7 (Or.inr ⟨by rw [hf]; decide, h20, rfl⟩)).mono fun _ _ ⟨h1, h2, h3⟩ => ⟨h1, v, h2, hv, Kept.of_below _ h3, fun _ e => Or.inl e⟩
      · rw [add_ok he hgp h20, ← insert_put hg.rise (p := newP name key) hgp]
        cases L with
        | nil =>
          obtain rfl := hv rfl
          exact (refAdd_first bb name key w hBw h hs he).mono fun _ _ ⟨h1, v', h2, h4, h3⟩ => ⟨h1, v', h2, (fun e => absurd e (insert_ne _ _)), h3.mono (fun _ e => Or.inl e), fun g e => Or.inr (h4 g e)⟩
        | cons q r =>
          rcases h.2.2 with ⟨_, h0⟩ | ⟨g, cap, cur, rfl, _⟩
          · cases h0
          · exact (refAdd_some bb g cap _ (q :: r) name key w hBw h rfl (by simp) (by omega) hs he hf).mono fun _ _ ⟨h1, v', h2, h4, h3⟩ => ⟨h1, v', h2, (fun e => absurd e (insert_ne _ _)), h3.mono (fun _ e => Or.inl e), fun g e => Or.inr (h4 g e)⟩
  · rw [add_err he]
    exact (refAdd_err bb v L name key w h hs he).mono fun _ _ ⟨h1, h2, h3⟩ => ⟨h1, v, h2, hv, Kept.of_below _ h3, fun _ e => Or.inl e⟩

theorem nil_of_len {L L' : List Per} {v : Value} (hl : L'.length = L.length) (hv : L = [] → v = .slice none 0 0) : L' = [] → v = .slice none 0 0 := fun e => by
  subst e
  exact hv (List.eq_nil_of_length_eq_zero hl.symm)
theorem raise_len (L : List Per) (name : ByteArray) : (raiseP L name).2.2.length = L.length := by
  unfold raiseP
  split
  · rfl
  · split
    · rfl
    · split
      · rfl
      · simp
theorem off_len (L : List Per) (name : ByteArray) (off : Bool) : (offP L name off).2.length = L.length := by
  unfold offP
  split
  · rfl
  · split
    · rfl
    · split
      · rfl
      · simp
theorem rekey_len (L : List Per) (name : ByteArray) (key : Int) : (rekeyP L name key).2.length = L.length := by
  unfold rekeyP
  split
  · rfl
  · split
    · rfl
    · split
      · split
        · rfl
        · split
          · rfl
          · simp
      · rfl
theorem refRaise_p {B : Nat} (bb : Nat) (v : Value) (L : List Per) (name : ByteArray) (w : World) (h : RefBookB B w bb v L) (hv : L = [] → v = .slice none 0 0) (hg : Good L) :
    Calls Tryd.prog 17 #[.pointer (some ⟨bb, 0, none⟩), .string name] w fun e w' => e = .returned (.tuple #[.int .i64 (raiseP L name).1, .int .i64 ((raiseP L name).2.1 : Int)]) ∧ RefPostB B w bb v (raiseP L name).2.2 w' :=
  (refRaiseB_any bb v L name w h (Nat.le_trans hg.few (by decide)) hg.epoch).mono fun _ _ ⟨h1, h2, h3⟩ => ⟨h1, v, h2, nil_of_len (raise_len L name) hv, h3.mono (fun _ e => Or.inr e), fun _ e => Or.inl e⟩
theorem refOff_p {B : Nat} (bb : Nat) (v : Value) (L : List Per) (name : ByteArray) (off : Bool) (w : World) (h : RefBookB B w bb v L) (hv : L = [] → v = .slice none 0 0) (hg : Good L) :
    Calls Tryd.prog 19 #[.pointer (some ⟨bb, 0, none⟩), .string name, .bool off] w fun e w' => e = .returned (.int .i64 ((offP L name off).1 : Int)) ∧ RefPostB B w bb v (offP L name off).2 w' :=
  (refOff_any bb v L name off w h (Nat.le_trans hg.few (by decide))).mono fun _ _ ⟨h1, h2, h3⟩ => ⟨h1, v, h2, nil_of_len (off_len L name off) hv, h3.mono (fun _ e => Or.inr e), fun _ e => Or.inl e⟩
theorem refRekey_p {B : Nat} (bb : Nat) (v : Value) (L : List Per) (name : ByteArray) (key : Int) (w : World) (h : RefBookB B w bb v L) (hv : L = [] → v = .slice none 0 0) (hg : Good L) :
    Calls Tryd.prog 15 #[.pointer (some ⟨bb, 0, none⟩), .string name, .int .i64 key] w fun e w' => e = .returned (.int .i64 ((rekeyP L name key).1 : Int)) ∧ RefPostB B w bb v (rekeyP L name key).2 w' :=
  (refRekey_any bb v L name key w h (Nat.le_trans hg.few (by decide)) hg.epoch).mono fun _ _ ⟨h1, h2, h3⟩ => ⟨h1, v, h2, nil_of_len (rekey_len L name key) hv, h3.mono (fun _ e => Or.inr e), fun _ e => Or.inl e⟩
end Go.Proofs.YtkkjalokgaaniabDoor

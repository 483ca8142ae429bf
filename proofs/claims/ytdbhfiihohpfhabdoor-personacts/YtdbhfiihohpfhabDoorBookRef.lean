/-
  The document's answer's acts on a book, each in one form; a book and the document's answer's book side by side in memory; what Copy gives.
-/
import Derived.Test.YtdbhfiihohpfhabDoorBookDo4
import Derived.Test.YtdbhfiihohpfhabDoorPersonAdd3
import Derived.Test.YtdbhfiihohpfhabDoorLays
import Derived.Shelf.SlMaps.Clone
namespace Go.Proofs.YtdbhfiihohpfhabDoor
open Go.RowKit Go.Extern.Stop Go.Stop Go.Extern Go.Maps

theorem insert_ins (p : Per) : ∀ L : List Per, Rising L → (∀ q ∈ L, q.name ≠ p.name) → insertP L p = insL p L
  | [], _, _ => rfl
  | q :: r, h, hne => by
    obtain ⟨h1, h2⟩ := List.pairwise_cons.1 h
    have hl : lessP p.name q = decide (q.nm < p.nm) := by
      unfold lessP Per.nm
      rw [bytesLess_eq, Lib.toList_data, Lib.toList_data]
    have ih := insert_ins p r h2 (fun x hx => hne x (by simp [hx]))
    unfold insL
    by_cases hlt : p.nm < q.nm
    · rw [if_pos hlt]
      have : lessP p.name q = false := by rw [hl]; exact decide_eq_false fun e => List.lt_irrefl _ (List.lt_trans e hlt)
      unfold insertP placeP
      rw [List.takeWhile_cons_of_neg (by simpa using this)]
      rfl
    · rw [if_neg hlt]
      have hqp : q.nm < p.nm := by
        refine Decidable.byContradiction fun g => hne q (by simp) (name_eq ?_)
        exact List.le_antisymm (List.not_lt.1 hlt) (List.not_lt.1 g)
      have : lessP p.name q = true := by rw [hl]; exact decide_eq_true hqp
      rw [← ih]
      unfold insertP placeP
      rw [List.takeWhile_cons_of_pos (by simpa using this), List.length_cons, List.take_succ_cons, List.drop_succ_cons]
      rfl
theorem insert_ne (L : List Per) (p : Per) : insertP L p ≠ [] := by unfold insertP; simp
theorem insert_put {L : List Per} {p : Per} (h : Rising L) (hn : getP L p.name = none) : insertP L p = putP L p := by
  rw [putP_new (getP_none hn), insert_ins p L h (getP_none hn)]

theorem Kept.mono {S S' : Nat → Prop} {w w' : World} (h : Kept S w w') (hs : ∀ k, S k → S' k) : Kept S' w w' := ⟨h.os, h.tape, h.output, h.size, fun k hk hn => h.block k hk (fun e => hn (hs k e))⟩
/-- What an act of the document's answer leaves. -/
def RefPost (w : World) (bb : Nat) (v : Value) (L' : List Per) (w' : World) : Prop := ∃ v', RefBookV w' bb v' L' ∧ (L' = [] → v' = .slice none 0 0) ∧ Kept (fun k => k = bb ∨ v.ownBlock = some k) w w'
theorem find_of_get {L : List Per} {name : ByteArray} (h : getP L name = none) : findP L name = -1 := by unfold findP; rw [getP_no_idx h]
theorem find_of_some {L : List Per} {name : ByteArray} {p : Per} (h : getP L name = some p) : ∃ k : Nat, ∃ hk : k < L.length, L[k] = p ∧ findP L name = k := by
  obtain ⟨k, hk, e, hi⟩ := getP_idx h
  exact ⟨k, hk, e, by unfold findP; rw [hi]⟩
theorem Good.epoch {L : List Per} (h : Good L) (i : Nat) (hi : i < L.length) : 1 ≤ L[i].epoch := (err_zero.1 (h.fine _ (List.getElem_mem hi))).2.2.1

theorem refAdd_p (bb : Nat) (v : Value) (L : List Per) (name : ByteArray) (key : Int) (w : World) (h : RefBookV w bb v L) (hv : L = [] → v = .slice none 0 0) (hg : Good L) (hs : name.size ≤ maxLen) :
    Calls Tryd.prog 11 #[.pointer (some ⟨bb, 0, none⟩), .string name, .int .i64 key] w fun e w' => e = .returned (.int .i64 ((addP L name key).1 : Int)) ∧ RefPost w bb v (addP L name key).2 w' := by
  have hn : L.length ≤ 1000 := Nat.le_trans hg.few (by decide)
  by_cases he : (newP name key).err = 0
  · cases hgp : getP L name with
    | some p =>
      obtain ⟨k, hk, _, hf⟩ := find_of_some hgp
      rw [add_is he hgp]
      exact (refAdd_no bb v L name key w h hn hs he 6 (Or.inl ⟨by rw [hf]; omega, rfl⟩)).mono fun _ _ ⟨h1, h2, h3⟩ => ⟨h1, v, h2, hv, Kept.of_below _ h3⟩
    | none =>
      have hf := find_of_get hgp
      by_cases h20 : 20 ≤ L.length
      · rw [add_full he hgp h20]
        exact (refAdd_no bb v L name key w h hn hs he 7 (Or.inr ⟨by rw [hf]; decide, h20, rfl⟩)).mono fun _ _ ⟨h1, h2, h3⟩ => ⟨h1, v, h2, hv, Kept.of_below _ h3⟩
      · rw [add_ok he hgp h20, ← insert_put hg.rise (p := newP name key) hgp]
        cases L with
        | nil =>
          obtain rfl := hv rfl
          exact (refAdd_first bb name key w h hs he).mono fun _ _ ⟨h1, v', h2, _, h3⟩ => ⟨h1, v', h2, (fun e => absurd e (insert_ne _ _)), h3.mono fun _ e => Or.inl e⟩
        | cons q r =>
          rcases h.2.2 with ⟨_, h0⟩ | ⟨g, cap, cur, rfl, _⟩
          · cases h0
          · exact (refAdd_some bb g cap _ (q :: r) name key w h rfl (by simp) (by omega) hs he hf).mono fun _ _ ⟨h1, v', h2, _, h3⟩ => ⟨h1, v', h2, (fun e => absurd e (insert_ne _ _)), h3.mono fun _ e => Or.inl e⟩
  · rw [add_err he]
    exact (refAdd_err bb v L name key w h hs he).mono fun _ _ ⟨h1, h2, h3⟩ => ⟨h1, v, h2, hv, Kept.of_below _ h3⟩

theorem nil_of_len {L L' : List Per} {v : Value} (hl : L'.length = L.length) (hv : L = [] → v = .slice none 0 0) : L' = [] → v = .slice none 0 0 := fun e => by
  subst e
  exact hv (List.eq_nil_of_length_eq_zero hl.symm)
theorem raise_len (L : List Per) (name : ByteArray) : (raiseP L name).2.2.length = L.length := by
  unfold raiseP
  split
  · rfl
  · split
    · rfl
    · split
      · rfl
      · simp
theorem off_len (L : List Per) (name : ByteArray) (off : Bool) : (offP L name off).2.length = L.length := by
  unfold offP
  split
  · rfl
  · split
    · rfl
    · split
      · rfl
      · simp
theorem rekey_len (L : List Per) (name : ByteArray) (key : Int) : (rekeyP L name key).2.length = L.length := by
  unfold rekeyP
  split
  · rfl
  · split
    · rfl
    · split
      · split
        · rfl
        · split
          · rfl
          · simp
      · rfl
theorem refRaise_p (bb : Nat) (v : Value) (L : List Per) (name : ByteArray) (w : World) (h : RefBookV w bb v L) (hv : L = [] → v = .slice none 0 0) (hg : Good L) :
    Calls Tryd.prog 15 #[.pointer (some ⟨bb, 0, none⟩), .string name] w fun e w' => e = .returned (.tuple #[.int .i64 (raiseP L name).1, .int .i64 ((raiseP L name).2.1 : Int)]) ∧ RefPost w bb v (raiseP L name).2.2 w' :=
  (refRaise_any bb v L name w h (Nat.le_trans hg.few (by decide)) hg.epoch).mono fun _ _ ⟨h1, h2, h3⟩ => ⟨h1, v, h2, nil_of_len (raise_len L name) hv, h3.mono fun _ e => Or.inr e⟩
theorem refOff_p (bb : Nat) (v : Value) (L : List Per) (name : ByteArray) (off : Bool) (w : World) (h : RefBookV w bb v L) (hv : L = [] → v = .slice none 0 0) (hg : Good L) :
    Calls Tryd.prog 17 #[.pointer (some ⟨bb, 0, none⟩), .string name, .bool off] w fun e w' => e = .returned (.int .i64 ((offP L name off).1 : Int)) ∧ RefPost w bb v (offP L name off).2 w' :=
  (refOff_any bb v L name off w h (Nat.le_trans hg.few (by decide))).mono fun _ _ ⟨h1, h2, h3⟩ => ⟨h1, v, h2, nil_of_len (off_len L name off) hv, h3.mono fun _ e => Or.inr e⟩
theorem refRekey_p (bb : Nat) (v : Value) (L : List Per) (name : ByteArray) (key : Int) (w : World) (h : RefBookV w bb v L) (hv : L = [] → v = .slice none 0 0) (hg : Good L) :
    Calls Tryd.prog 13 #[.pointer (some ⟨bb, 0, none⟩), .string name, .int .i64 key] w fun e w' => e = .returned (.int .i64 ((rekeyP L name key).1 : Int)) ∧ RefPost w bb v (rekeyP L name key).2 w' :=
  (refRekey_any bb v L name key w h (Nat.le_trans hg.few (by decide)) hg.epoch).mono fun _ _ ⟨h1, h2, h3⟩ => ⟨h1, v, h2, nil_of_len (rekey_len L name key) hv, h3.mono fun _ e => Or.inr e⟩

/-- A book, the document's answer's book and an act's block side by side, over a world of before. -/
structure St (W : World) (bp mb bb ab : Nat) (cs : Array Value) (L L1 : List Per) (w : World) : Prop where
  book : BookAt w bp mb L1
  ref : ∃ v, RefBookV w bb v L ∧ (L = [] → v = .slice none 0 0)
  act : w.heap[ab]? = some (.cells cs 39 (0, 0))
  below : Below W.heap.size W w
  old : W.heap.size ≤ mb ∧ W.heap.size ≤ bb
  good : Good L
theorem tags_ne {w : World} {i j : Nat} {c c' : Array Value} {t t' : TypeId} (h : w.heap[i]? = some (.cells c t (0, 0))) (h' : w.heap[j]? = some (.cells c' t' (0, 0))) (ht : t ≠ t') : i ≠ j := fun e => by
  subst e
  rw [h] at h'
  exact ht (Obj.cells.inj (Option.some.inj h')).2.1
theorem own_tag {w : World} {base : Nat} {e : TypeId} {size : Nat} {v : Value} {n : Nat} {xs : List Value} (h : w.ownsRow base e size v n xs) {g : Nat} (hg : v.ownBlock = some g) : ∃ c, w.heap[g]? = some (.cells c e (0, 0)) := by
  rcases h.2 with ⟨rfl, _⟩ | ⟨g', cap, cur, rfl, _, hb, _⟩
  · simp [Value.ownBlock] at hg
  · have : g' = g := by simpa [Value.ownBlock] using hg
    subst this
    exact ⟨_, hb⟩
theorem BookAt.map_ne {w : World} {bp mb : Nat} {L : List Per} (h : BookAt w bp mb L) {i : Nat} {c : Array Value} {t : TypeId} (hi : w.heap[i]? = some (.cells c t (0, 0))) : i ≠ mb := fun e => by
  obtain ⟨es, clock, hb, _⟩ := h.own
  rw [← e, hi] at hb
  cases hb
/-- Nothing but new blocks, and draws. -/
theorem St.less {W : World} {bp mb bb ab : Nat} {cs : Array Value} {L L1 : List Per} {w w' : World} (h : St W bp mb bb ab cs L L1 w) (hb : Below w.heap.size w w') : St W bp mb bb ab cs L L1 w' := by
  obtain ⟨v, hr, hv⟩ := h.ref
  exact ⟨h.book.below hb, ⟨v, hr.below hb, hv⟩, (hb.block _ (row_lt h.act)).trans h.act, h.below.trans (hb.mono h.below.size), h.old, h.good⟩
/-- The book's map is written. -/
theorem St.wrote {W : World} {bp mb bb ab : Nat} {cs : Array Value} {L L1 L2 : List Per} {w w' : World} (h : St W bp mb bb ab cs L L1 w) (hk : BookAt w' bp mb L2) (hg : w.grownBy w' (some mb)) : St W bp mb bb ab cs L L2 w' := by
  obtain ⟨v, hr, hv⟩ := h.ref
  refine ⟨hk, ⟨v, ⟨?_, own_block hr.2 (fun g hgo => ?_)⟩, hv⟩, ?_, h.below.grown hg h.below.size (fun j hj => by cases hj; exact h.old.1), h.old, h.good⟩
  · exact (hg.block bb (row_lt hr.1) (by have := h.book.map_ne hr.1; simpa using this)).trans hr.1
  · obtain ⟨c, hc⟩ := own_tag hr.2 hgo
    exact hg.block g (row_lt hc) (by have := h.book.map_ne hc; simpa using this)
  · exact (hg.block ab (row_lt h.act) (by have := h.book.map_ne h.act; simpa using this)).trans h.act
/-- The document's answer's book is written. -/
theorem St.reft {W : World} {bp mb bb ab : Nat} {cs : Array Value} {L L1 : List Per} {w w' : World} (h : St W bp mb bb ab cs L L1 w) {v : Value} (hr : RefBookV w bb v L) (hp : RefPost w bb v L1 w') : St W bp mb bb ab cs L1 L1 w' := by
  obtain ⟨v', hr', hv', hk⟩ := hp
  have hno : ∀ (i : Nat) (c : Array Value) (t : TypeId), w.heap[i]? = some (.cells c t (0, 0)) → t ≠ 37 → t ≠ 24 → w'.heap[i]? = w.heap[i]? := fun i c t hi h1 h2 => by
    refine hk.block i (row_lt hi) fun e => ?_
    rcases e with e | e
    · exact tags_ne hi hr.1 h1 e
    · obtain ⟨c', hc'⟩ := own_tag hr.2 e
      exact tags_ne hi hc' h2 rfl
  have hmap : w'.heap[mb]? = w.heap[mb]? := by
    refine hk.block mb h.book.own.lt fun e => ?_
    rcases e with e | e
    · exact h.book.map_ne hr.1 e.symm
    · obtain ⟨c', hc'⟩ := own_tag hr.2 e
      exact h.book.map_ne hc' rfl
  refine ⟨h.book.same (hno bp _ _ h.book.row (by decide) (by decide)) hmap, ⟨v', hr', hv'⟩, (hno ab _ _ h.act (by decide) (by decide)).trans h.act, ?_, h.old, h.book.good⟩
  have hb := h.below
  refine ⟨hk.os.trans hb.os, hk.tape.trans hb.tape, hk.output.trans hb.output, Nat.le_trans hb.size hk.size, fun j hj => ?_⟩
  refine (hk.block j (Nat.lt_of_lt_of_le hj hb.size) fun e => ?_).trans (hb.block j hj)
  rcases e with e | e
  · have := h.old.2
    omega
  · have h1 := (hr.2.lt j e).1
    have := h.old.2
    omega

set_option maxRecDepth 100000 in
set_option maxHeartbeats 1000000 in
theorem copy_any (bp mb : Nat) (L : List Per) (w : World) (h : BookAt w bp mb L) :
    Calls Tryd.prog 20 #[.pointer (some ⟨bp, 0, none⟩)] w fun e w' => ∃ b m, e = .returned (.pointer (some ⟨b, 0, none⟩)) ∧ BookAt w' b m L ∧ Below w.heap.size w w' := by
  have hc := h.cell
  have HC := AnyW.maps_Clone_owns Tryd.cloneP 9 perR mb L.length (dOf L) w h.own
  change Calls Tryd.prog 28 _ _ _ at HC
  have HG := hide h.good
  have HCl := hide HC
  clear h HC
  go_enter Tryd.func20, Tryd.ntmps20
  go_wp2_with fail
  refine HCl.out.mono ?_
  rintro e w1 ⟨rfl, ho, _, hb⟩
  have HW : Hid (∃ b m, BookAt (w1.alloc (.cells #[.map (some w.heap.size)] 59)) b m L ∧ b = w1.heap.size ∧ Below w.heap.size w (w1.alloc (.cells #[.map (some w.heap.size)] 59))) :=
    ⟨w1.heap.size, w.heap.size, ⟨heap_alloc_new _ _, ho.alloc _, HG.out⟩, rfl, hb.alloc hb.size _⟩
  clear ho hb
  go_wp2
  go_ret
  obtain ⟨b, m, h1, rfl, h2⟩ := HW.out
  exact ⟨_, m, rfl, h1, h2⟩
end Go.Proofs.YtdbhfiihohpfhabDoor

/-
  What the document's answer's Raise, Off and Rekey give, and what they do to the book: the row of its people is written, and nothing else; for every book, name, key and bool.
-/
import Derived.Test.YtkkjalokgaaniabDoorPersonRef
namespace Go.Proofs.YtkkjalokgaaniabDoor
open Go.RowKit Go.Extern.Stop Go.Stop Go.Extern

/-- All blocks but those of S read as they did. -/
structure Kept (S : Nat → Prop) (w w' : World) : Prop where
  os : w'.os = w.os
  tape : w'.tape = w.tape
  output : w'.output = w.output
  size : w.heap.size ≤ w'.heap.size
  block : ∀ k, k < w.heap.size → ¬ S k → w'.heap[k]? = w.heap[k]?
theorem Kept.refl (S : Nat → Prop) (w : World) : Kept S w w := ⟨rfl, rfl, rfl, Nat.le_refl _, fun _ _ _ => rfl⟩
theorem Kept.trans {S : Nat → Prop} {a b c : World} (h : Kept S a b) (k : Kept S b c) : Kept S a c :=
  ⟨k.os.trans h.os, k.tape.trans h.tape, k.output.trans h.output, Nat.le_trans h.size k.size, fun j hj hs => (k.block j (Nat.lt_of_lt_of_le hj h.size) hs).trans (h.block j hj hs)⟩
theorem Kept.of_below (S : Nat → Prop) {w w' : World} (h : Below w.heap.size w w') : Kept S w w' := ⟨h.os, h.tape, h.output, h.size, fun k hk _ => h.block k hk⟩
theorem Kept.setCell {S : Nat → Prop} {a w : World} (h : Kept S a w) {p : Addr} (hp : S p.block) (u : Value) : Kept S a (w.setCell p u) :=
  ⟨h.os, h.tape, h.output, by have := h.size; simpa [World.setCell] using this, fun k hk hs => by
    rw [heap_setCell_other w p k u (fun e => hs (e ▸ hp))]; exact h.block k hk hs⟩

/-- A cell of a person written. -/
theorem own_set {w : World} {base g cap : Nat} {L : List Per} (h : w.ownsRow base 24 4 (.slice (some ⟨g, 0, none⟩) L.length cap) L.length (cellsP L)) (i j : Nat) (hi : i < L.length) (hj : j < 4) (u : Value) (q : Per) (hq : q.cells = (L[i].cells).set j u) :
    (w.setCell ⟨g, i * 4 + j, none⟩ u).ownsRow base 24 4 (.slice (some ⟨g, 0, none⟩) L.length cap) L.length (cellsP (L.set i q)) := by
  rcases h.2 with ⟨e, _⟩ | ⟨g', cap', cur, e, hb, hg, hc, hm, hs, ht⟩
  · cases e
  · injection e with e1 e2 e3
    injection e1 with e1
    injection e1 with e1
    subst e1; subst e3
    refine ⟨by rw [cellsP_len, List.length_set], Or.inr ⟨g, cap, cur.setIfInBounds (i * 4 + j) u, rfl, hb, heap_setCell_same w g _ cur _ u hg, hc, hm, by rw [Array.size_setIfInBounds]; exact hs, ?_⟩⟩
    rw [Array.toList_setIfInBounds, List.take_set, ht]
    exact cellsP_set L i j hi u q hj hq
theorem own_frozen {w : World} {base g cap n : Nat} {xs : List Value} (h : w.ownsRow base 24 4 (.slice (some ⟨g, 0, none⟩) n cap) n xs) (o : Nat) : w.frozen? ⟨g, o, none⟩ = false := by
  rcases h.2 with ⟨e, _⟩ | ⟨g', cap', cur, e, _, hg, _⟩
  · cases e
  · injection e with e1 e2 e3
    injection e1 with e1
    injection e1 with e1
    subst e1
    exact frozen_of_row w g o cur _ hg

theorem idx_some (L : List Per) (name : ByteArray) (k : Nat) (hk : k < L.length) (h : L[k].name = name) (hb : ∀ j (hj : j < L.length), j < k → L[j].name ≠ name) : L.findIdx? (fun p => decide (p.name = name)) = some k := by
  rw [List.findIdx?_eq_some_iff_getElem]
  exact ⟨hk, by simp [h], fun j hj => by simp [hb j (by omega) hj]⟩
theorem idx_none (L : List Per) (name : ByteArray) (h : ∀ j (hj : j < L.length), L[j].name ≠ name) : L.findIdx? (fun p => decide (p.name = name)) = none := by
  rw [List.findIdx?_eq_none_iff]
  intro x hx
  obtain ⟨j, hj, rfl⟩ := List.getElem_of_mem hx
  simp [h j hj]

theorem kept_row (w : World) (g o n cap : Nat) (u : Value) : Kept (fun k => (Value.slice (some ⟨g, 0, none⟩) n cap).ownBlock = some k) w (w.setCell ⟨g, o, none⟩ u) :=
  Kept.setCell (S := fun k => (Value.slice (some ⟨g, 0, none⟩) n cap).ownBlock = some k) (Kept.refl _ w) (p := ⟨g, o, none⟩) (show (Value.slice (some ⟨g, 0, none⟩) n cap).ownBlock = some g from rfl) u

theorem tags_ne {w : World} {i j : Nat} {c c' : Array Value} {t t' : TypeId} (h : w.heap[i]? = some (.cells c t (0, 0))) (h' : w.heap[j]? = some (.cells c' t' (0, 0))) (ht : t ≠ t') : i ≠ j := fun e => by
  subst e
  rw [h] at h'
  exact ht (Obj.cells.inj (Option.some.inj h')).2.1
theorem own_tag {w : World} {base : Nat} {e : TypeId} {size : Nat} {v : Value} {n : Nat} {xs : List Value} (h : w.ownsRow base e size v n xs) {g : Nat} (hg : v.ownBlock = some g) : ∃ c, w.heap[g]? = some (.cells c e (0, 0)) := by
  rcases h.2 with ⟨rfl, _⟩ | ⟨g', cap, cur, rfl, _, hb, _⟩
  · simp [Value.ownBlock] at hg
  · have : g' = g := by simpa [Value.ownBlock] using hg
    subst this
    exact ⟨_, hb⟩
theorem book_ne {w : World} {B bb g n cap : Nat} {xs : List Value} {cs : Array Value} (h : w.heap[bb]? = some (.cells cs 37 (0, 0))) (hr : w.ownsRow B 24 4 (.slice (some ⟨g, 0, none⟩) n cap) n xs) : bb ≠ g := by
  obtain ⟨c, hc⟩ := own_tag hr (g := g) rfl
  exact tags_ne h hc (by decide)

/-- A book with its row's value; the row lies from a block number on. -/
def RefBookB (B : Nat) (w : World) (bb : Nat) (v : Value) (L : List Per) : Prop := w.heap[bb]? = some (.cells #[v] 37 (0, 0)) ∧ w.ownsRow B 24 4 v L.length (cellsP L)
abbrev RefBookV (w : World) (bb : Nat) (v : Value) (L : List Per) : Prop := RefBookB (bb + 1) w bb v L
theorem RefBookB.book {B : Nat} {w : World} {bb : Nat} {v : Value} {L : List Per} (h : RefBookB B w bb v L) : RefBook w bb L := ⟨v, B, h.1, h.2⟩

set_option maxRecDepth 100000 in
set_option maxHeartbeats 2000000 in
theorem refRaiseB_any {B : Nat} (bb : Nat) (v : Value) (L : List Per) (name : ByteArray) (w : World) (h : RefBookB B w bb v L) (hn : L.length ≤ 1000) (hep : ∀ i (hi : i < L.length), 1 ≤ L[i].epoch) :
    Calls Tryd.prog 17 #[.pointer (some ⟨bb, 0, none⟩), .string name] w fun e w' => e = .returned (.tuple #[.int .i64 (raiseP L name).1, .int .i64 ((raiseP L name).2.1 : Int)]) ∧ RefBookB B w' bb v (raiseP L name).2.2 ∧ Kept (fun k => v.ownBlock = some k) w w' := by
  have HF := hide (fun w h => refFind_any bb L name w h hn)
  have HB := hide h
  have hcb : w.cell? ⟨bb, 0, none⟩ = some v := cell_of_row w bb 0 _ _ _ h.1
  rcases findP_cases L name with ⟨hf, hno⟩ | ⟨k, hk, hf, hk1, hk2⟩
  · have HR : Hid (raiseP L name = (0, 5, L)) := by show _ = _; unfold raiseP; rw [idx_none L name hno]
    rw [HR.out]
    rw [hf] at HF
    clear h hno hf
    go_enter Tryd.func17, Tryd.ntmps17
    go_wp2_with fail
    refine (HF.out _ HB.out.book).mono ?_
    rintro e w1 ⟨rfl, rfl⟩
    go_wp2
    go_ret2
    exact ⟨rfl, HB.out, Kept.refl _ _⟩
  · have h0 : L ≠ [] := by intro e; subst e; simp at hk
    obtain ⟨g, cap, rfl, hcap, hgb, hcells⟩ := owned_at h.2 h0
    have hc2 := (hcells k hk).2.2.1
    have hfr := own_frozen h.2 (k * 4 + 2)
    rw [hf] at HF
    by_cases he : 1073741824 ≤ L[k].epoch
    · have HR : Hid (raiseP L name = (0, 2, L)) := by
        show _ = _
        unfold raiseP
        rw [idx_some L name k hk hk1 hk2]
        simp only [List.getElem?_eq_getElem hk]
        rw [if_pos he]
      rw [HR.out]
      clear h hf hcells hk1 hk2 h0
      generalize L[k].epoch = ep at *
      have hkn : k < L.length := hk
      clear hk
      generalize hlen : L.length = n at hn hcb hcap hkn
      have HLn := hide hlen
      clear hlen
      go_enter Tryd.func17, Tryd.ntmps17
      go_wp2_with fail
      refine (HF.out _ HB.out.book).mono ?_
      rintro e w1 ⟨rfl, rfl⟩
      go_wp2
      go_ret2
      exact ⟨rfl, by rw [← HLn.out]; exact HB.out, Kept.refl _ _⟩
    · have HR : Hid (raiseP L name = (L[k].epoch + 1, 0, L.set k { L[k] with epoch := L[k].epoch + 1 })) := by
        show _ = _
        unfold raiseP
        rw [idx_some L name k hk hk1 hk2]
        simp only [List.getElem?_eq_getElem hk]
        rw [if_neg he]
      rw [HR.out]
      have he1 := hep k hk
      have HS := hide (own_set h.2 k 2 hk (by decide) (.int .i64 (L[k].epoch + 1)) { L[k] with epoch := L[k].epoch + 1 } rfl)
      have HH : Hid ((w.setCell ⟨g, k * 4 + 2, none⟩ (.int .i64 (L[k].epoch + 1))).heap[bb]? = some (.cells #[.slice (some ⟨g, 0, none⟩) L.length cap] 37 (0, 0))) := by
        show _ = _
        rw [heap_setCell_other w _ bb _ (book_ne h.1 h.2)]
        exact h.1
      have hcb2 : (w.setCell ⟨g, k * 4 + 2, none⟩ (.int .i64 (L[k].epoch + 1))).cell? ⟨bb, 0, none⟩ = some (.slice (some ⟨g, 0, none⟩) L.length cap) := cell_of_row _ bb 0 _ _ _ HH.out
      have hc3 : (w.setCell ⟨g, k * 4 + 2, none⟩ (.int .i64 (L[k].epoch + 1))).cell? ⟨g, k * 4 + 2, none⟩ = some (.int .i64 (L[k].epoch + 1)) := World.cell?_setCell_same _ _ _ hc2
      have HLs : Hid ((L.set k { L[k] with epoch := L[k].epoch + 1 }).length = L.length) := List.length_set
      clear h hf hcells hk1 hk2 h0 hep
      generalize L.set k { L[k] with epoch := L[k].epoch + 1 } = L2 at *
      generalize L[k].epoch = ep at *
      have hkn : k < L.length := hk
      clear hk
      generalize hlen : L.length = n at hn hcb hcap HS HH hcb2 HLs hkn
      have HLn := hide hlen
      clear hlen
      go_enter Tryd.func17, Tryd.ntmps17
      go_wp2_with fail
      refine (HF.out _ HB.out.book).mono ?_
      rintro e w1 ⟨rfl, rfl⟩
      go_wp2
      go_ret2
      exact ⟨rfl, ⟨HH.out, by rw [HLs.out]; exact HS.out⟩, kept_row _ _ _ _ _ _⟩

set_option maxRecDepth 100000 in
set_option maxHeartbeats 2000000 in
theorem refOff_any {B : Nat} (bb : Nat) (v : Value) (L : List Per) (name : ByteArray) (off : Bool) (w : World) (h : RefBookB B w bb v L) (hn : L.length ≤ 1000) :
    Calls Tryd.prog 19 #[.pointer (some ⟨bb, 0, none⟩), .string name, .bool off] w fun e w' => e = .returned (.int .i64 ((offP L name off).1 : Int)) ∧ RefBookB B w' bb v (offP L name off).2 ∧ Kept (fun k => v.ownBlock = some k) w w' := by
  have HF := hide (fun w h => refFind_any bb L name w h hn)
  have HB := hide h
  have hcb : w.cell? ⟨bb, 0, none⟩ = some v := cell_of_row w bb 0 _ _ _ h.1
  rcases findP_cases L name with ⟨hf, hno⟩ | ⟨k, hk, hf, hk1, hk2⟩
  · have HR : Hid (offP L name off = (5, L)) := by show _ = _; unfold offP; rw [idx_none L name hno]
    rw [HR.out]
    rw [hf] at HF
    clear h hno hf
    go_enter Tryd.func19, Tryd.ntmps19
    go_wp2_with fail
    refine (HF.out _ HB.out.book).mono ?_
    rintro e w1 ⟨rfl, rfl⟩
    go_wp2
    go_ret
    exact ⟨rfl, HB.out, Kept.refl _ _⟩
  · have h0 : L ≠ [] := by intro e; subst e; simp at hk
    obtain ⟨g, cap, rfl, hcap, hgb, hcells⟩ := owned_at h.2 h0
    have hc3 := (hcells k hk).2.2.2
    have hfr := own_frozen h.2 (k * 4 + 3)
    rw [hf] at HF
    by_cases he : L[k].off = off
    · have HR : Hid (offP L name off = (6, L)) := by
        show _ = _
        unfold offP
        rw [idx_some L name k hk hk1 hk2]
        simp only [List.getElem?_eq_getElem hk]
        rw [if_pos he]
      rw [HR.out]
      rw [he] at hc3
      clear h hf hcells hk1 hk2 h0 he
      have hkn : k < L.length := hk
      clear hk
      generalize hlen : L.length = n at hn hcb hcap hkn
      have HLn := hide hlen
      clear hlen
      cases off
      all_goals
        go_enter Tryd.func19, Tryd.ntmps19
        go_wp2_with fail
        refine (HF.out _ HB.out.book).mono ?_
        rintro e w1 ⟨rfl, rfl⟩
        go_wp2
        go_ret
        exact ⟨rfl, by rw [← HLn.out]; exact HB.out, Kept.refl _ _⟩
    · have HR : Hid (offP L name off = (0, L.set k { L[k] with off := off })) := by
        show _ = _
        unfold offP
        rw [idx_some L name k hk hk1 hk2]
        simp only [List.getElem?_eq_getElem hk]
        rw [if_neg he]
      rw [HR.out]
      have HS := hide (own_set h.2 k 3 hk (by decide) (.bool off) { L[k] with off := off } rfl)
      have HH : Hid ((w.setCell ⟨g, k * 4 + 3, none⟩ (.bool off)).heap[bb]? = some (.cells #[.slice (some ⟨g, 0, none⟩) L.length cap] 37 (0, 0))) := by
        show _ = _
        rw [heap_setCell_other w _ bb _ (book_ne h.1 h.2)]
        exact h.1
      have HLs : Hid ((L.set k { L[k] with off := off }).length = L.length) := List.length_set
      have hoff : L[k].off = !off := by
        revert he
        cases L[k].off <;> cases off <;> simp
      rw [hoff] at hc3
      clear h hf hcells hk1 hk2 h0 he hoff
      generalize L.set k { L[k] with off := off } = L2 at *
      have hkn : k < L.length := hk
      clear hk
      generalize hlen : L.length = n at hn hcb hcap HS HH HLs hkn
      have HLn := hide hlen
      clear hlen
      cases off
      all_goals
        go_enter Tryd.func19, Tryd.ntmps19
        go_wp2_with fail
        refine (HF.out _ HB.out.book).mono ?_
        rintro e w1 ⟨rfl, rfl⟩
        go_wp2
        go_ret
        exact ⟨rfl, ⟨HH.out, by rw [HLs.out]; exact HS.out⟩, kept_row _ _ _ _ _ _⟩

set_option maxRecDepth 100000 in
set_option maxHeartbeats 2000000 in
theorem refRekey_any {B : Nat} (bb : Nat) (v : Value) (L : List Per) (name : ByteArray) (key : Int) (w : World) (h : RefBookB B w bb v L) (hn : L.length ≤ 1000) (hep : ∀ i (hi : i < L.length), 1 ≤ L[i].epoch) :
    Calls Tryd.prog 15 #[.pointer (some ⟨bb, 0, none⟩), .string name, .int .i64 key] w fun e w' => e = .returned (.int .i64 ((rekeyP L name key).1 : Int)) ∧ RefBookB B w' bb v (rekeyP L name key).2 ∧ Kept (fun k => v.ownBlock = some k) w w' := by
  have HF := hide (fun w h => refFind_any bb L name w h hn)
  have HK := hide (fun w => refKey_any key w)
  have HB := hide h
  have hcb : w.cell? ⟨bb, 0, none⟩ = some v := cell_of_row w bb 0 _ _ _ h.1
  rcases findP_cases L name with ⟨hf, hno⟩ | ⟨k, hk, hf, hk1, hk2⟩
  · have HR : Hid (rekeyP L name key = (5, L)) := by show _ = _; unfold rekeyP; rw [idx_none L name hno]
    rw [HR.out]
    rw [hf] at HF
    clear h hno hf
    go_enter Tryd.func15, Tryd.ntmps15
    go_wp2_with fail
    refine (HF.out _ HB.out.book).mono ?_
    rintro e w1 ⟨rfl, rfl⟩
    go_wp2
    go_ret
    exact ⟨rfl, HB.out, Kept.refl _ _⟩
  · have h0 : L ≠ [] := by intro e; subst e; simp at hk
    obtain ⟨g, cap, rfl, hcap, hgb, hcells⟩ := owned_at h.2 h0
    have hc1 := (hcells k hk).2.1
    have hc2 := (hcells k hk).2.2.1
    have hf1 := own_frozen h.2 (k * 4 + 1)
    have he1 := hep k hk
    rw [hf] at HF
    have hrk : rekeyP L name key = if 1 ≤ key ∧ key ≤ 1000000006 then (if L[k].key = key then (6, L) else if 1073741824 ≤ L[k].epoch then (2, L) else (0, L.set k { L[k] with key := key, epoch := L[k].epoch + 1 })) else (10, L) := by
      unfold rekeyP
      rw [idx_some L name k hk hk1 hk2]
      simp only [List.getElem?_eq_getElem hk]
    rw [hrk]
    by_cases hkey : 1 ≤ key ∧ key ≤ 1000000006
    · rw [if_pos hkey]
      rw [decide_eq_true hkey] at HK
      by_cases hsame : L[k].key = key
      · rw [if_pos hsame]
        rw [hsame] at hc1
        have hq : (key == key) = true := by simp
        clear h hf hcells hk1 hk2 h0 hsame hkey hrk hep
        generalize L[k].epoch = ep at *
        have hkn : k < L.length := hk
        clear hk
        generalize hlen : L.length = n at hn hcb hcap hkn
        have HLn := hide hlen
        clear hlen
        go_enter Tryd.func15, Tryd.ntmps15
        go_wp2_with fail
        refine (HF.out _ HB.out.book).mono ?_
        rintro e w1 ⟨rfl, rfl⟩
        go_wp2_with fail
        refine (HK.out _).mono ?_
        rintro e w2 ⟨rfl, rfl⟩
        go_wp2
        go_ret
        exact ⟨rfl, by rw [← HLn.out]; exact HB.out, Kept.refl _ _⟩
      · rw [if_neg hsame]
        have hq : (L[k].key == key) = false := by rw [beq_eq_false_iff_ne]; exact hsame
        by_cases hfull : 1073741824 ≤ L[k].epoch
        · rw [if_pos hfull]
          clear h hf hcells hk1 hk2 h0 hsame hkey hrk hep
          generalize L[k].epoch = ep at *
          generalize L[k].key = ky at *
          have hkn : k < L.length := hk
          clear hk
          generalize hlen : L.length = n at hn hcb hcap hkn
          have HLn := hide hlen
          clear hlen
          go_enter Tryd.func15, Tryd.ntmps15
          go_wp2_with fail
          refine (HF.out _ HB.out.book).mono ?_
          rintro e w1 ⟨rfl, rfl⟩
          go_wp2_with fail
          refine (HK.out _).mono ?_
          rintro e w2 ⟨rfl, rfl⟩
          go_wp2
          go_ret
          exact ⟨rfl, by rw [← HLn.out]; exact HB.out, Kept.refl _ _⟩
        · rw [if_neg hfull]
          have S1 := own_set h.2 k 1 hk (by decide) (.int .i64 key) { L[k] with key := key } rfl
          have hl1 : (L.set k { L[k] with key := key }).length = L.length := List.length_set
          have S2 := own_set (L := L.set k { L[k] with key := key }) (by rw [hl1]; exact S1) k 2 (by rw [hl1]; exact hk) (by decide) (.int .i64 (L[k].epoch + 1)) { L[k] with key := key, epoch := L[k].epoch + 1 } (by rw [List.getElem_set_self]; rfl)
          rw [hl1, List.set_set] at S2
          have HS := hide S2
          have H1 : (w.setCell ⟨g, k * 4 + 1, none⟩ (.int .i64 key)).heap[bb]? = some (.cells #[.slice (some ⟨g, 0, none⟩) L.length cap] 37 (0, 0)) := by
            rw [heap_setCell_other w _ bb _ (book_ne h.1 h.2)]
            exact h.1
          have hcb2 : (w.setCell ⟨g, k * 4 + 1, none⟩ (.int .i64 key)).cell? ⟨bb, 0, none⟩ = some (.slice (some ⟨g, 0, none⟩) L.length cap) := cell_of_row _ bb 0 _ _ _ H1
          have hc3 : (w.setCell ⟨g, k * 4 + 1, none⟩ (.int .i64 key)).cell? ⟨g, k * 4 + 2, none⟩ = some (.int .i64 L[k].epoch) := by
            rw [World.cell?_setCell_other _ _ _ _ (fun e => by have := (Addr.mk.inj e).2.1; omega)]; exact hc2
          have hf2 := own_frozen S1 (k * 4 + 2)
          have HH : Hid (((w.setCell ⟨g, k * 4 + 1, none⟩ (.int .i64 key)).setCell ⟨g, k * 4 + 2, none⟩ (.int .i64 (L[k].epoch + 1))).heap[bb]? = some (.cells #[.slice (some ⟨g, 0, none⟩) L.length cap] 37 (0, 0))) := by
            show _ = _
            rw [heap_setCell_other _ _ bb _ (book_ne h.1 h.2)]
            exact H1
          have HLs : Hid ((L.set k { L[k] with key := key, epoch := L[k].epoch + 1 }).length = L.length) := List.length_set
          clear h hf hcells hk1 hk2 h0 hsame hkey hrk hep S1 S2 hl1 H1
          generalize L.set k { L[k] with key := key, epoch := L[k].epoch + 1 } = L2 at *
          generalize L[k].epoch = ep at *
          generalize L[k].key = ky at *
          have hkn : k < L.length := hk
          clear hk
          generalize hlen : L.length = n at hn hcb hcap HS HH hcb2 HLs hkn
          have HLn := hide hlen
          clear hlen
          go_enter Tryd.func15, Tryd.ntmps15
          go_wp2_with fail
          refine (HF.out _ HB.out.book).mono ?_
          rintro e w1 ⟨rfl, rfl⟩
          go_wp2_with fail
          refine (HK.out _).mono ?_
          rintro e w2 ⟨rfl, rfl⟩
          go_wp2
          go_ret
          exact ⟨rfl, ⟨HH.out, by rw [HLs.out]; exact HS.out⟩, (kept_row _ _ _ _ _ _).setCell (p := ⟨g, k * 4 + 2, none⟩) rfl _⟩
    · rw [if_neg hkey]
      rw [decide_eq_false hkey] at HK
      clear h hf hcells hk1 hk2 h0 hkey hrk hep he1 hc1 hc2
      have hkn : k < L.length := hk
      clear hk
      generalize hlen : L.length = n at hn hcb hcap hkn
      have HLn := hide hlen
      clear hlen
      go_enter Tryd.func15, Tryd.ntmps15
      go_wp2_with fail
      refine (HF.out _ HB.out.book).mono ?_
      rintro e w1 ⟨rfl, rfl⟩
      go_wp2_with fail
      refine (HK.out _).mono ?_
      rintro e w2 ⟨rfl, rfl⟩
      go_wp2
      go_ret
      exact ⟨rfl, by rw [← HLn.out]; exact HB.out, Kept.refl _ _⟩
end Go.Proofs.YtkkjalokgaaniabDoor

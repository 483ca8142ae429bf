/-
  A book and the document's answer's book side by side in memory; what Copy gives.
-/
import Derived.Test.YtkkjalokgaaniabDoorBookDo4
import Derived.Test.YtkkjalokgaaniabDoorBookRefs
import Derived.Test.YtkkjalokgaaniabDoorLays
import Derived.Shelf.SlMaps.Clone
namespace Go.Proofs.YtkkjalokgaaniabDoor
open Go.RowKit Go.Extern.Stop Go.Stop Go.Extern Go.Maps

/-- A book, the document's answer's book and an act's block side by side, over a world of before. -/
structure St (W : World) (bp mb bb ab : Nat) (cs : Array Value) (L L1 : List Per) (w : World) : Prop where
  book : BookAt w bp mb L1
  ref : ∃ v, RefBookV w bb v L ∧ (L = [] → v = .slice none 0 0)
  act : w.heap[ab]? = some (.cells cs 39 (0, 0))
  below : Below W.heap.size W w
  old : W.heap.size ≤ mb ∧ W.heap.size ≤ bb
  good : Good L
theorem BookAt.map_ne {w : World} {bp mb : Nat} {L : List Per} (h : BookAt w bp mb L) {i : Nat} {c : Array Value} {t : TypeId} (hi : w.heap[i]? = some (.cells c t (0, 0))) : i ≠ mb := fun e => by
  obtain ⟨es, clock, hb, _⟩ := h.own
  rw [← e, hi] at hb
  cases hb
/-- Nothing but new blocks, and draws. -/
theorem St.less {W : World} {bp mb bb ab : Nat} {cs : Array Value} {L L1 : List Per} {w w' : World} (h : St W bp mb bb ab cs L L1 w) (hb : Below w.heap.size w w') : St W bp mb bb ab cs L L1 w' := by
  obtain ⟨v, hr, hv⟩ := h.ref
  exact ⟨h.book.below hb, ⟨v, hr.below hb, hv⟩, (hb.block _ (row_lt h.act)).trans h.act, h.below.trans (hb.mono h.below.size), h.old, h.good⟩
/-- The book's map is written. -/
theorem St.wrote {W : World} {bp mb bb ab : Nat} {cs : Array Value} {L L1 L2 : List Per} {w w' : World} (h : St W bp mb bb ab cs L L1 w) (hk : BookAt w' bp mb L2) (hg : w.grownBy w' (some mb)) : St W bp mb bb ab cs L L2 w' := by
  obtain ⟨v, hr, hv⟩ := h.ref
  refine ⟨hk, ⟨v, ⟨?_, own_block hr.2 (fun g hgo => ?_)⟩, hv⟩, ?_, h.below.grown hg h.below.size (fun j hj => by cases hj; exact h.old.1), h.old, h.good⟩
  · exact (hg.block bb (row_lt hr.1) (by have := h.book.map_ne hr.1; simpa using this)).trans hr.1
  · obtain ⟨c, hc⟩ := own_tag hr.2 hgo
    exact hg.block g (row_lt hc) (by have := h.book.map_ne hc; simpa using this)
  · exact (hg.block ab (row_lt h.act) (by have := h.book.map_ne h.act; simpa using this)).trans h.act
/-- The document's answer's book is written. -/
theorem St.reft {W : World} {bp mb bb ab : Nat} {cs : Array Value} {L L1 : List Per} {w w' : World} (h : St W bp mb bb ab cs L L1 w) {v : Value} (hr : RefBookV w bb v L) (hp : RefPost w bb v L1 w') : St W bp mb bb ab cs L1 L1 w' := by
  obtain ⟨v', hr', hv', hk, _⟩ := hp
  have hno : ∀ (i : Nat) (c : Array Value) (t : TypeId), w.heap[i]? = some (.cells c t (0, 0)) → t ≠ 37 → t ≠ 24 → w'.heap[i]? = w.heap[i]? := fun i c t hi h1 h2 => by
    refine hk.block i (row_lt hi) fun e => ?_
    rcases e with e | e
    · exact tags_ne hi hr.1 h1 e
    · obtain ⟨c', hc'⟩ := own_tag hr.2 e
      exact tags_ne hi hc' h2 rfl
  have hmap : w'.heap[mb]? = w.heap[mb]? := by
    refine hk.block mb h.book.own.lt fun e => ?_
    rcases e with e | e
    · exact h.book.map_ne hr.1 e.symm
    · obtain ⟨c', hc'⟩ := own_tag hr.2 e
      exact h.book.map_ne hc' rfl
  refine ⟨h.book.same (hno bp _ _ h.book.row (by decide) (by decide)) hmap, ⟨v', hr', hv'⟩, (hno ab _ _ h.act (by decide) (by decide)).trans h.act, ?_, h.old, h.book.good⟩
  have hb := h.below
  refine ⟨hk.os.trans hb.os, hk.tape.trans hb.tape, hk.output.trans hb.output, Nat.le_trans hb.size hk.size, fun j hj => ?_⟩
  refine (hk.block j (Nat.lt_of_lt_of_le hj hb.size) fun e => ?_).trans (hb.block j hj)
  rcases e with e | e
  · have := h.old.2
    omega
  · have h1 := (hr.2.lt j e).1
    have := h.old.2
    omega

set_option maxRecDepth 100000 in
set_option maxHeartbeats 1000000 in
theorem copy_any (bp mb : Nat) (L : List Per) (w : World) (h : BookAt w bp mb L) :
    Calls Tryd.prog 22 #[.pointer (some ⟨bp, 0, none⟩)] w fun e w' => ∃ b m, e = .returned (.pointer (some ⟨b, 0, none⟩)) ∧ BookAt w' b m L ∧ Below w.heap.size w w' := by
  have hc := h.cell
  have HC := AnyW.maps_Clone_owns Tryd.cloneP 9 perR mb L.length (dOf L) w h.own
  change Calls Tryd.prog 41 _ _ _ at HC
  have HG := hide h.good
  have HCl := hide HC
  clear h HC
  go_enter Tryd.func22, Tryd.ntmps22
  go_wp2_with fail
  refine HCl.out.mono ?_
  rintro e w1 ⟨rfl, ho, _, hb⟩
  have HW : Hid (∃ b m, BookAt (w1.alloc (.cells #[.map (some w.heap.size)] 76)) b m L ∧ b = w1.heap.size ∧ Below w.heap.size w (w1.alloc (.cells #[.map (some w.heap.size)] 76))) :=
    ⟨w1.heap.size, w.heap.size, ⟨heap_alloc_new _ _, ho.alloc _, HG.out⟩, rfl, hb.alloc hb.size _⟩
  clear ho hb
  go_wp2
  go_ret
  obtain ⟨b, m, h1, rfl, h2⟩ := HW.out
  exact ⟨_, m, rfl, h1, h2⟩
end Go.Proofs.YtkkjalokgaaniabDoor

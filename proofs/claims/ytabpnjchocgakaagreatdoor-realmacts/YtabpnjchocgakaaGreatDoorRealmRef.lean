/-
  A realm as the document's answer holds it, in memory: its block, the book's block and the row of its people, the row of its entries; a book's copy; Next, and what makes a realm; what an entry more of it does.
-/
import Derived.Test.YtabpnjchocgakaaGreatDoorPk10
import Derived.Test.YtabpnjchocgakaaGreatDoorPk02
import Derived.Test.YtabpnjchocgakaaGreatDoorFeedRefNew
import Derived.Laws.AppendOwnNone
namespace Go.Proofs.YtabpnjchocgakaaGreatDoor
open Go.RowKit Go.Extern.Stop Go.Stop Go.Extern Go.Proofs Go.Maps
theorem one_small {f : Fl} (h : oneE f = 0) : f.who.size ≤ maxLen := by
 rcases one_name h with g | g
 ·
  have := size_list f.who
  have g' : f.who.data.toList = [42] := g
  rw [g'] at this
  unfold maxLen
  simp at this
  omega
 ·
  exact name_small g
theorem GoodR.small {r : Rm} (h : GoodR r) : ∀ e ∈ r.l, e.fl.who.size ≤ maxLen := fun e he => one_small (feed_one h.feed e he)
abbrev rmC6 (r : Rm) (bb : Nat) (lv : Value) : Array Value := #[.int .i64 r.key, .int .i64 r.long, .int .i64 r.time, .int .i64 r.ser, .pointer (some ⟨bb, 0, none⟩), lv]
abbrev rmO (r : Rm) (bb : Nat) (lv : Value) : Obj := .cells (rmC6 r bb lv) 40 (0, 0)
structure RefRm (B : Nat) (w : World) (rb bb : Nat) (v lv : Value) (r : Rm) : Prop where
 row : w.heap[rb]? = some (rmO r bb lv)
 book : RefBookB B w bb v r.b
 nil : r.b = [] → v = .slice none 0 0
 feed : OwnE w B lv r.l
 old : B ≤ rb ∧ B ≤ bb
theorem RefRm.below {B : Nat} {w w' : World} {rb bb : Nat} {v lv : Value} {r : Rm} (h : RefRm B w rb bb v lv r) (hb : Below w.heap.size w w') : RefRm B w' rb bb v lv r :=
 ⟨(hb.block rb (row_lt h.row)).trans h.row, h.book.below hb, h.nil, h.feed.below hb, h.old⟩
theorem RefRm.base {B : Nat} {w : World} {rb bb : Nat} {v lv : Value} {r : Rm} (h : RefRm B w rb bb v lv r) : B ≤ w.heap.size := Nat.le_of_lt (Nat.lt_of_le_of_lt h.old.1 (row_lt h.row))
theorem RefRm.ne_book {B : Nat} {w : World} {rb bb : Nat} {v lv : Value} {r : Rm} (h : RefRm B w rb bb v lv r) : rb ≠ bb := tags_ne h.row h.book.1 (by decide)
theorem RefRm.ne_people {B : Nat} {w : World} {rb bb : Nat} {v lv : Value} {r : Rm} (h : RefRm B w rb bb v lv r) {g : Nat} (hg : v.ownBlock = some g) : rb ≠ g := by
 obtain ⟨c, hc⟩ := own_tag h.book.2 hg
 exact tags_ne h.row hc (by decide)
theorem RefRm.ne_feed {B : Nat} {w : World} {rb bb : Nat} {v lv : Value} {r : Rm} (h : RefRm B w rb bb v lv r) {g : Nat} (hg : lv.ownBlock = some g) : rb ≠ g ∧ bb ≠ g ∧ v.ownBlock ≠ some g := by
 obtain ⟨c, hc⟩ := own_tag h.feed hg
 refine ⟨tags_ne h.row hc (by decide), tags_ne h.book.1 hc (by decide), fun e => ?_⟩
 obtain ⟨c2, hc2⟩ := own_tag h.book.2 e
 exact tags_ne hc2 hc (by decide) rfl
theorem RefRm.rowed {B : Nat} {w w' : World} {rb bb : Nat} {v lv : Value} {r r' : Rm} (h : RefRm B w rb bb v lv r) (hrow : w'.heap[rb]? = some (rmO r' bb lv)) (hk : ∀ k, k < w.heap.size → k ≠ rb → w'.heap[k]? = w.heap[k]?) (hb : r'.b = r.b) (hl : r'.l = r.l) : RefRm B w' rb bb v lv r' := by
 refine ⟨hrow, ?_, by rw [hb]; exact h.nil, ?_, h.old⟩
 ·
  rw [hb]
  exact ⟨(hk bb (row_lt h.book.1) (Ne.symm h.ne_book)).trans h.book.1, own_block h.book.2 fun g hg => hk g (h.book.2.lt g hg).2 (Ne.symm (h.ne_people hg))⟩
 ·
  rw [hl]
  exact h.feed.keep fun g hg => hk g (h.feed.lt g hg).2 (Ne.symm (h.ne_feed hg).1)
theorem RefRm.booked {B : Nat} {w w' : World} {rb bb : Nat} {v v' lv : Value} {r : Rm} {L : List Per} (h : RefRm B w rb bb v lv r) (hp : RefBookB B w' bb v' L) (hn : L = [] → v' = .slice none 0 0) (hk : Kept (fun k => k = bb ∨ v.ownBlock = some k) w w') : RefRm B w' rb bb v' lv { r with b := L } :=
 ⟨(hk.block rb (row_lt h.row) fun e => by
  rcases e with e | e
  ·
   exact h.ne_book e
  ·
   exact h.ne_people e rfl).trans h.row, hp, hn, h.feed.keep fun g hg => hk.block g (h.feed.lt g hg).2 fun e => by
  rcases e with e | e
  ·
   exact (h.ne_feed hg).2.1 e.symm
  ·
   exact (h.ne_feed hg).2.2 e, h.old⟩
def NewFeed (w : World) (rb : Nat) (lv' : Value) : Prop := w.cell? ⟨rb, 5, none⟩ = some lv' ∨ ∀ g, lv'.ownBlock = some g → w.heap.size ≤ g
theorem RefRm.held {B : Nat} {w : World} {rb bb : Nat} {v lv : Value} {r : Rm} (h : RefRm B w rb bb v lv r) : NewFeed w rb lv := Or.inl (cell_of_row w rb 5 _ _ _ h.row)
def RmPost (B : Nat) (w : World) (rb bb : Nat) (v : Value) (r' : Rm) (w' : World) : Prop := ∃ bb' v' lv', RefRm B w' rb bb' v' lv' r' ∧ Kept (fun k => k = rb ∨ k = bb ∨ v.ownBlock = some k) w w' ∧ NewFeed w rb lv'
theorem RmPost.same {B : Nat} {w w' : World} {rb bb : Nat} {v lv : Value} {r : Rm} (h : RefRm B w rb bb v lv r) (hb : Below w.heap.size w w') : RmPost B w rb bb v r w' := ⟨bb, v, lv, h.below hb, Kept.of_below _ hb, h.held⟩
theorem rm_cells {w : World} {rb bb : Nat} {lv : Value} {r : Rm} (h : w.heap[rb]? = some (rmO r bb lv)) :
  w.cell? ⟨rb, 0, none⟩ = some (.int .i64 r.key) ∧ w.cell? ⟨rb, 1, none⟩ = some (.int .i64 r.long) ∧ w.cell? ⟨rb, 2, none⟩ = some (.int .i64 r.time) ∧ w.cell? ⟨rb, 3, none⟩ = some (.int .i64 r.ser) ∧ w.cell? ⟨rb, 4, none⟩ = some (.pointer (some ⟨bb, 0, none⟩)) ∧ w.cell? ⟨rb, 5, none⟩ = some lv :=
 ⟨cell_of_row w rb 0 _ _ _ h, cell_of_row w rb 1 _ _ _ h, cell_of_row w rb 2 _ _ _ h, cell_of_row w rb 3 _ _ _ h, cell_of_row w rb 4 _ _ _ h, cell_of_row w rb 5 _ _ _ h⟩
theorem rm_frozen {w : World} {rb bb : Nat} {lv : Value} {r : Rm} (h : w.heap[rb]? = some (rmO r bb lv)) :
  w.frozen? ⟨rb, 2, none⟩ = false ∧ w.frozen? ⟨rb, 3, none⟩ = false ∧ w.frozen? ⟨rb, 4, none⟩ = false ∧ w.frozen? ⟨rb, 5, none⟩ = false :=
 ⟨frozen_of_row w rb 2 _ _ h, frozen_of_row w rb 3 _ _ h, frozen_of_row w rb 4 _ _ h, frozen_of_row w rb 5 _ _ h⟩
theorem rm_set {w : World} {rb : Nat} {bb : Nat} {lv : Value} {r r' : Rm} (h : w.heap[rb]? = some (rmO r bb lv)) (j : Nat) (u : Value) (bb' : Nat) (lv' : Value) (hu : (rmC6 r bb lv).setIfInBounds j u = rmC6 r' bb' lv') : (w.setCell ⟨rb, j, none⟩ u).heap[rb]? = some (rmO r' bb' lv') := by
 rw [heap_setCell_same w rb j _ _ u h, hu]
set_option maxRecDepth 100000 in
set_option maxHeartbeats 2000000 in
theorem refNext_any {B : Nat} (rb bb : Nat) (v lv : Value) (r : Rm) (n : Int) (w : World) (h : RefRm B w rb bb v lv r) (ht : 0 ≤ r.time ∧ r.time ≤ 1000000) :
  Calls Tryz.prog 45 #[.pointer (some ⟨rb, 0, none⟩), .int .i64 n] w fun e w' => e = .returned (.tuple #[.int .i64 (numC (r.nexC n) (r.time + n)), .int .i64 (r.nexC n : Int)]) ∧ RmPost B w rb bb v (r.nexR n) w' := by
 obtain ⟨_, _, c2, _, _, _⟩ := rm_cells h.row
 obtain ⟨z2, _, _, _⟩ := rm_frozen h.row
 have HH := hide h
 have hw1 : IntKind.i64.wrap (1000000 - r.time) = 1000000 - r.time := by rw [IntKind.wrap_i64]; omega
 by_cases h0 : 0 ≤ n ∧ n ≤ 1000000 - r.time
 ·
  have e1 : r.nexC n = 0 := if_pos h0
  have e2 : r.nexR n = { r with time := r.time + n } := by unfold Rm.nexR; rw [if_pos e1]
  rw [e1, e2]
  have hw2 : IntKind.i64.wrap (r.time + n) = r.time + n := by rw [IntKind.wrap_i64]; omega
  have HS := hide (rm_set (r' := { r with time := r.time + n }) h.row 2 (.int .i64 (r.time + n)) bb lv rfl)
  have HR := hide (h.rowed HS.out (fun k _ hk => heap_setCell_other w ⟨rb, 2, none⟩ k _ hk) rfl rfl)
  obtain ⟨_, _, d2, _, _, _⟩ := rm_cells HS.out
  have hn0 : ¬ n < 0 := by omega
  have hn1 : ¬ 1000000 - r.time < n := by omega
  dsimp only at d2
  clear h h0 e1 e2 ht
  generalize { r with time := r.time + n } = r2 at *
  generalize r.time = t at *
  go_enter Tryz.func45, Tryz.ntmps45
  go_wp2
  go_ret2
  exact ⟨rfl, bb, v, lv, HR.out, Kept.setCell (S := fun k => k = rb ∨ k = bb ∨ v.ownBlock = some k) (Kept.refl _ w) (p := ⟨rb, 2, none⟩) (Or.inl rfl) _, HH.out.held⟩
 ·
  have e1 : r.nexC n = 2 := if_neg h0
  have e2 : r.nexR n = r := by unfold Rm.nexR; rw [e1]; rfl
  rw [e1, e2]
  clear e1 e2
  by_cases hn0 : n < 0
  ·
   clear h h0
   go_enter Tryz.func45, Tryz.ntmps45
   go_wp2
   go_ret2
   exact ⟨rfl, RmPost.same HH.out (Below.refl _ _)⟩
  ·
   have hn1 : 1000000 - r.time < n := by omega
   clear h h0 ht
   generalize htt : r.time = t at *
   clear htt
   go_enter Tryz.func45, Tryz.ntmps45
   go_wp2
   go_ret2
   exact ⟨rfl, RmPost.same HH.out (Below.refl _ _)⟩
end Go.Proofs.YtabpnjchocgakaaGreatDoor

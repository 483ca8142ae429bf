/-
  What the functions of these parts do, and what holds of their plain forms: Lays, RealmApart, RealmMem, RealmCopy, RealmTry, RealmTell, RealmDo.
-/
import Derived.Test.YtabpnjchocgakaaGreatDoorPk00
import Derived.Shelf.SlSortCmp.WholeK
import Derived.Shelf.SlMaps.Clone
import Derived.Shelf.SlGeneric
import Derived.Test.YtabpnjchocgakaaGreatDoorProg
import Derived.Test.YtabpnjchocgakaaGreatDoorRealmRef
import Derived.Test.YtabpnjchocgakaaGreatDoorPk04
import Derived.Test.YtabpnjchocgakaaGreatDoorPk10
import Derived.Test.YtabpnjchocgakaaGreatDoorPk09
import Derived.Deep.RegionHeld3
import Derived.Deep.CutBlock
import Derived.Deep.DeepCutAuto
import Derived.Test.YtabpnjchocgakaaGreatDoorMarkKey
import Derived.BigQuiet
namespace Go.Proofs
open Go.Shelf
def Tryz.sortP_ren : Go.Shelf.Ren := ⟨fun | 6 => 173 | 15 => 209 | 14 => 208 | 28 => 239 | 29 => 215 | 20 => 231 | 21 => 232 | 22 => 233 | 23 => 234 | 24 => 235 | 25 => 236 | 26 => 237 | 27 => 238 | 46 => 253 | 47 => 254 | 48 => 255 | 49 => 256 | 50 => 257 | 57 => 265 | n => n, fun | 22 => 47 | 24 => 46 | 25 => 186 | 3 => 3 | 39 => 221 | 0 => 0 | 53 => 289 | 55 => 249 | 4 => 4 | 46 => 303 | 45 => 302 | 50 => 120 | 5 => 5 | 9 => 9 | 66 => 318 | 70 => 322 | 76 => 331 | 77 => 67 | n => n, fun | n => n⟩
theorem Tryz.sortP : Go.Proofs.SlLaysF0.n6 Tryz.prog Tryz.sortP_ren := {
 mixed := by kernel_rfl
 f6 := ⟨Tryz.f173.name, by decide, Tryz.func173.trans (congrArg some (by kernel_rfl))⟩
 f14 := ⟨Tryz.f208.name, by decide, Tryz.func208.trans (congrArg some (by kernel_rfl))⟩
 f15 := Tryz.func209.trans (congrArg some (by kernel_rfl))
 f20 := ⟨Tryz.f231.name, by decide, Tryz.func231.trans (congrArg some (by kernel_rfl))⟩
 f21 := ⟨Tryz.f232.name, by decide, Tryz.func232.trans (congrArg some (by kernel_rfl))⟩
 f22 := ⟨Tryz.f233.name, by decide, Tryz.func233.trans (congrArg some (by kernel_rfl))⟩
 f23 := ⟨Tryz.f234.name, by decide, Tryz.func234.trans (congrArg some (by kernel_rfl))⟩
 f24 := ⟨Tryz.f235.name, by decide, Tryz.func235.trans (congrArg some (by kernel_rfl))⟩
 f25 := ⟨Tryz.f236.name, by decide, Tryz.func236.trans (congrArg some (by kernel_rfl))⟩
 f26 := ⟨Tryz.f237.name, by decide, Tryz.func237.trans (congrArg some (by kernel_rfl))⟩
 f27 := ⟨Tryz.f238.name, by decide, Tryz.func238.trans (congrArg some (by kernel_rfl))⟩
 f28 := Tryz.func239.trans (congrArg some (by kernel_rfl))
 f29 := Tryz.func215.trans (congrArg some (by kernel_rfl))
 f46 := ⟨Tryz.f253.name, by decide, Tryz.func253.trans (congrArg some (by kernel_rfl))⟩
 f47 := Tryz.func254.trans (congrArg some (by kernel_rfl))
 f48 := Tryz.func255.trans (congrArg some (by kernel_rfl))
 f49 := ⟨Tryz.f256.name, by decide, Tryz.func256.trans (congrArg some (by kernel_rfl))⟩
 f50 := ⟨Tryz.f257.name, by decide, Tryz.func257.trans (congrArg some (by kernel_rfl))⟩
 f57 := ⟨Tryz.f265.name, by decide, Tryz.func265.trans (congrArg some (by kernel_rfl))⟩
 t0 := Tryz.underlying0
 a0 := Tryz.isAgg0
 z0 := Tryz.sizeOf0
 v0 := Tryz.zeroValue0
 t3 := Tryz.underlying3
 a3 := Tryz.isAgg3
 z3 := Tryz.sizeOf3
 v3 := Tryz.zeroValue3
 t4 := Tryz.underlying4
 a4 := Tryz.isAgg4
 z4 := Tryz.sizeOf4
 v4 := Tryz.zeroValue4
 t5 := Tryz.underlying5
 a5 := Tryz.isAgg5
 z5 := Tryz.sizeOf5
 v5 := Tryz.zeroValue5
 t9 := Tryz.underlying9
 a9 := Tryz.isAgg9
 z9 := Tryz.sizeOf9
 v9 := Tryz.zeroValue9
 t22 := Tryz.underlying47
 a22 := Tryz.isAgg47
 z22 := Tryz.sizeOf47
 v22 := Tryz.zeroValue47
 t25 := Tryz.underlying186
 a25 := Tryz.isAgg186
 z25 := Tryz.sizeOf186
 v25 := Tryz.zeroValue186
 t39 := Tryz.underlying221
 a39 := Tryz.isAgg221
 z39 := Tryz.sizeOf221
 v39 := Tryz.zeroValue221
 t45 := Tryz.underlying302
 a45 := Tryz.isAgg302
 z45 := Tryz.sizeOf302
 v45 := Tryz.zeroValue302
 t46 := Tryz.underlying303
 a46 := Tryz.isAgg303
 z46 := Tryz.sizeOf303
 v46 := Tryz.zeroValue303
 t50 := Tryz.underlying120
 a50 := Tryz.isAgg120
 z50 := Tryz.sizeOf120
 v50 := Tryz.zeroValue120
 t53 := Tryz.underlying289
 a53 := Tryz.isAgg289
 z53 := Tryz.sizeOf289
 v53 := Tryz.zeroValue289
 t55 := Tryz.underlying249
 a55 := Tryz.isAgg249
 z55 := Tryz.sizeOf249
 v55 := Tryz.zeroValue249
 t66 := Tryz.underlying318
 a66 := Tryz.isAgg318
 z66 := Tryz.sizeOf318
 v66 := Tryz.zeroValue318
 t70 := Tryz.underlying322
 a70 := Tryz.isAgg322
 z70 := Tryz.sizeOf322
 v70 := Tryz.zeroValue322
 t76 := Tryz.underlying331
 a76 := Tryz.isAgg331
 z76 := Tryz.sizeOf331
 v76 := Tryz.zeroValue331
 t77 := Tryz.underlying67
 a77 := Tryz.isAgg67
 z77 := Tryz.sizeOf67
 v77 := Tryz.zeroValue67 }
def Tryz.cloneP_ren : Go.Shelf.Ren := ⟨fun | 5 => 123 | 7 => 171 | n => n, fun | 23 => 132 | 25 => 9 | 3 => 46 | 4 => 4 | 20 => 20 | n => n, fun | n => n⟩
theorem Tryz.cloneP : Go.Proofs.SlLaysW.n5 Tryz.prog Tryz.cloneP_ren := {
 mixed := by kernel_rfl
 f5 := ⟨Tryz.f123.name, by decide, Tryz.func123.trans (congrArg some (by kernel_rfl))⟩
 f7 := Tryz.func171.trans (congrArg some (by kernel_rfl))
 t4 := Tryz.underlying4
 a4 := Tryz.isAgg4
 z4 := Tryz.sizeOf4
 v4 := Tryz.zeroValue4
 t20 := Tryz.underlying20
 a20 := Tryz.isAgg20
 z20 := Tryz.sizeOf20
 v20 := Tryz.zeroValue20
 t23 := Tryz.underlying132
 a23 := Tryz.isAgg132
 z23 := Tryz.sizeOf132
 v23 := Tryz.zeroValue132 }
end Go.Proofs

namespace Go.Proofs.YtabpnjchocgakaaGreatDoor
open Go.RowKit Go.Extern.Stop Go.Stop Go.Extern Go.Proofs Go.Maps
structure Else (w : World) (rb : Nat) (lv : Value) (k : Nat) : Prop where
 lt : k < w.heap.size
 row : k ≠ rb
 feed : lv.ownBlock ≠ some k
 tags : ∀ c, w.heap[k]? ≠ some (.cells c 49 (0, 0)) ∧ w.heap[k]? ≠ some (.cells c 46 (0, 0))
theorem RefRm.own_not {B : Nat} {w : World} {rb bb : Nat} {v lv : Value} {r : Rm} (h : RefRm B w rb bb v lv r) {k : Nat} (hk : k = rb ∨ k = bb ∨ v.ownBlock = some k ∨ lv.ownBlock = some k) : ¬ Else w rb lv k := fun e => by
 rcases hk with x | x | x | x
 ·
  exact e.row x
 ·
  exact (e.tags _).1 (x ▸ h.book.1)
 ·
  obtain ⟨c, hc⟩ := own_tag h.book.2 x
  exact (e.tags c).2 hc
 ·
  exact e.feed x
theorem RmPost.apart {B : Nat} {w w' : World} {rb bb : Nat} {v lv : Value} {r r' : Rm} (h : RefRm B w rb bb v lv r) (hp : RmPost B w rb bb v r' w') :
  ∃ bb' v' lv', RefRm B w' rb bb' v' lv' r' ∧ Kept (fun k => k = rb ∨ k = bb ∨ v.ownBlock = some k) w w' ∧ ∀ k, Else w rb lv k → w'.heap[k]? = w.heap[k]? ∧ Else w' rb lv' k := by
 obtain ⟨bb', v', lv', h1, h2, h3⟩ := hp
 refine ⟨bb', v', lv', h1, h2, fun k e => ?_⟩
 have hk : w'.heap[k]? = w.heap[k]? := h2.block k e.lt fun x => h.own_not (by
  rcases x with x | x | x
  ·
   exact Or.inl x
  ·
   exact Or.inr (Or.inl x)
  ·
   exact Or.inr (Or.inr (Or.inl x))) e
 refine ⟨hk, Nat.lt_of_lt_of_le e.lt h2.size, e.row, fun x => ?_, by rw [hk]; exact e.tags⟩
 rcases h3 with h3 | h3
 ·
  rw [cell_of_row w rb 5 _ _ _ h.row] at h3
  have e5 : lv = lv' := Option.some.inj h3
  exact e.feed (by rw [e5]; exact x)
 ·
  have := h3 k x
  have := e.lt
  omega
theorem RefRm.stays {B : Nat} {w w' : World} {rb bb : Nat} {v lv : Value} {r : Rm} (h : RefRm B w rb bb v lv r) {S : Nat → Prop} (hk : ∀ k, k < w.heap.size → ¬ S k → w'.heap[k]? = w.heap[k]?) (hS : ∀ k, S k → Else w rb lv k ∨ w.heap.size ≤ k) : RefRm B w' rb bb v lv r := by
 have hx : ∀ k, k < w.heap.size → (k = rb ∨ k = bb ∨ v.ownBlock = some k ∨ lv.ownBlock = some k) → w'.heap[k]? = w.heap[k]? := fun k hl ho => hk k hl fun e => by
  rcases hS k e with g | g
  ·
   exact h.own_not ho g
  ·
   omega
 exact ⟨(hx rb (row_lt h.row) (Or.inl rfl)).trans h.row, ⟨(hx bb (row_lt h.book.1) (Or.inr (Or.inl rfl))).trans h.book.1, own_block h.book.2 fun g hg => hx g (h.book.2.lt g hg).2 (Or.inr (Or.inr (Or.inl hg)))⟩, h.nil, h.feed.keep fun g hg => hx g (h.feed.lt g hg).2 (Or.inr (Or.inr (Or.inr hg))), h.old⟩
theorem Else.kept {w w' : World} {rb : Nat} {lv : Value} {k : Nat} (e : Else w rb lv k) (hs : w.heap.size ≤ w'.heap.size) (hk : w'.heap[k]? = w.heap[k]?) : Else w' rb lv k := ⟨Nat.lt_of_lt_of_le e.lt hs, e.row, e.feed, by rw [hk]; exact e.tags⟩
theorem tag_else {w : World} {k : Nat} {c : Array Value} {t : TypeId} (h : w.heap[k]? = some (.cells c t (0, 0))) (h1 : t ≠ 49) (h2 : t ≠ 46) : ∀ c, w.heap[k]? ≠ some (.cells c 49 (0, 0)) ∧ w.heap[k]? ≠ some (.cells c 46 (0, 0)) := fun c => by
 rw [h]
 exact ⟨fun e => h1 (Obj.cells.inj (Option.some.inj e)).2.1, fun e => h2 (Obj.cells.inj (Option.some.inj e)).2.1⟩
abbrev rpO (r : Rm) (bp : Nat) (v : Value) : Obj := .cells (rmC6 r bp v) 82 (0, 0)
structure RmAt (w : World) (rp bp mb : Nat) (v : Value) (r : Rm) : Prop where
 row : w.heap[rp]? = some (rpO r bp v)
 book : BookAt w bp mb r.b
 feed : OwnE w 0 v r.l
def Mine (rp bp mb : Nat) (v : Value) (k : Nat) : Prop := k = rp ∨ k = bp ∨ k = mb ∨ v.ownBlock = some k
theorem RmAt.lt {w : World} {rp bp mb : Nat} {v : Value} {r : Rm} (h : RmAt w rp bp mb v r) {k : Nat} (hk : Mine rp bp mb v k) : k < w.heap.size := by
 rcases hk with rfl | rfl | rfl | hk
 ·
  exact row_lt h.row
 ·
  exact row_lt h.book.row
 ·
  exact h.book.own.lt
 ·
  exact (h.feed.lt k hk).2
theorem BookAt.map {w : World} {bp mb : Nat} {L : List Per} (h : BookAt w bp mb L) : ∃ es c, w.heap[mb]? = some (.map es c) := by
 obtain ⟨es, clock, hb, _⟩ := h.own
 exact ⟨es, clock, hb⟩
theorem RmAt.tags {w : World} {rp bp mb : Nat} {v : Value} {r : Rm} (h : RmAt w rp bp mb v r) {k : Nat} (hk : Mine rp bp mb v k) : ∀ c, w.heap[k]? ≠ some (.cells c 49 (0, 0)) ∧ w.heap[k]? ≠ some (.cells c 46 (0, 0)) := by
 rcases hk with rfl | rfl | rfl | hk
 ·
  exact tag_else h.row (by decide) (by decide)
 ·
  exact tag_else h.book.row (by decide) (by decide)
 ·
  obtain ⟨es, c, hm⟩ := h.book.map
  intro c'
  rw [hm]
  exact ⟨fun e => (by cases e), fun e => (by cases e)⟩
 ·
  obtain ⟨c, hc⟩ := own_tag h.feed hk
  exact tag_else hc (by decide) (by decide)
theorem RmAt.same {w w' : World} {rp bp mb : Nat} {v : Value} {r : Rm} (h : RmAt w rp bp mb v r) (hk : ∀ k, Mine rp bp mb v k → w'.heap[k]? = w.heap[k]?) : RmAt w' rp bp mb v r :=
 ⟨(hk rp (Or.inl rfl)).trans h.row, h.book.same (hk bp (Or.inr (Or.inl rfl))) (hk mb (Or.inr (Or.inr (Or.inl rfl)))), h.feed.keep fun g hg => hk g (Or.inr (Or.inr (Or.inr hg)))⟩
theorem RmAt.below {w w' : World} {rp bp mb : Nat} {v : Value} {r : Rm} (h : RmAt w rp bp mb v r) (hb : Below w.heap.size w w') : RmAt w' rp bp mb v r :=
 h.same fun k hk => hb.block k (h.lt hk)
theorem RmAt.ne_book {w : World} {rp bp mb : Nat} {v : Value} {r : Rm} (h : RmAt w rp bp mb v r) : rp ≠ bp := tags_ne h.row h.book.row (by decide)
theorem RmAt.ne_map {w : World} {rp bp mb : Nat} {v : Value} {r : Rm} (h : RmAt w rp bp mb v r) : rp ≠ mb := fun e => by
 obtain ⟨es, c, hm⟩ := h.book.map
 rw [← e, h.row] at hm
 cases hm
theorem RmAt.ne_feed {w : World} {rp bp mb : Nat} {v : Value} {r : Rm} (h : RmAt w rp bp mb v r) {g : Nat} (hg : v.ownBlock = some g) : rp ≠ g ∧ bp ≠ g ∧ mb ≠ g := by
 obtain ⟨c, hc⟩ := own_tag h.feed hg
 refine ⟨tags_ne h.row hc (by decide), tags_ne h.book.row hc (by decide), fun e => ?_⟩
 obtain ⟨es, c2, hm⟩ := h.book.map
 rw [e, hc] at hm
 cases hm
theorem RmAt.enAt {w : World} {rp bp mb : Nat} {v : Value} {r : Rm} (h : RmAt w rp bp mb v r) : EnAt w v r.l := h.feed.enAt
theorem rp_cells {w : World} {rp bb : Nat} {lv : Value} {r : Rm} (h : w.heap[rp]? = some (rpO r bb lv)) :
  w.cell? ⟨rp, 0, none⟩ = some (.int .i64 r.key) ∧ w.cell? ⟨rp, 1, none⟩ = some (.int .i64 r.long) ∧ w.cell? ⟨rp, 2, none⟩ = some (.int .i64 r.time) ∧ w.cell? ⟨rp, 3, none⟩ = some (.int .i64 r.ser) ∧ w.cell? ⟨rp, 4, none⟩ = some (.pointer (some ⟨bb, 0, none⟩)) ∧ w.cell? ⟨rp, 5, none⟩ = some lv :=
 ⟨cell_of_row w rp 0 _ _ _ h, cell_of_row w rp 1 _ _ _ h, cell_of_row w rp 2 _ _ _ h, cell_of_row w rp 3 _ _ _ h, cell_of_row w rp 4 _ _ _ h, cell_of_row w rp 5 _ _ _ h⟩
theorem rp_frozen {w : World} {rp bb : Nat} {lv : Value} {r : Rm} (h : w.heap[rp]? = some (rpO r bb lv)) :
  w.frozen? ⟨rp, 2, none⟩ = false ∧ w.frozen? ⟨rp, 3, none⟩ = false ∧ w.frozen? ⟨rp, 4, none⟩ = false ∧ w.frozen? ⟨rp, 5, none⟩ = false :=
 ⟨frozen_of_row w rp 2 _ _ h, frozen_of_row w rp 3 _ _ h, frozen_of_row w rp 4 _ _ h, frozen_of_row w rp 5 _ _ h⟩
theorem rp_set {w : World} {rp : Nat} {bb : Nat} {lv : Value} {r r' : Rm} (h : w.heap[rp]? = some (rpO r bb lv)) (j : Nat) (u : Value) (bb' : Nat) (lv' : Value) (hu : (rmC6 r bb lv).setIfInBounds j u = rmC6 r' bb' lv') : (w.setCell ⟨rp, j, none⟩ u).heap[rp]? = some (rpO r' bb' lv') := by
 rw [heap_setCell_same w rp j _ _ u h, hu]
def PPost (w : World) (rp bp mb : Nat) (v : Value) (r' : Rm) (w' : World) : Prop :=
 ∃ bp' mb' v', RmAt w' rp bp' mb' v' r' ∧ Kept (fun k => k = rp ∨ k = mb) w w' ∧ ∀ k, Mine rp bp' mb' v' k → Mine rp bp mb v k ∨ w.heap.size ≤ k
theorem PPost.same {w w' : World} {rp bp mb : Nat} {v : Value} {r : Rm} (h : RmAt w rp bp mb v r) (hb : Below w.heap.size w w') : PPost w rp bp mb v r w' :=
 ⟨bp, mb, v, h.below hb, Kept.of_below _ hb, fun _ hk => Or.inl hk⟩
theorem PPost.from {w w1 w2 : World} {rp bp mb : Nat} {v : Value} {r' : Rm} (hb : Below w.heap.size w w1) (hp : PPost w1 rp bp mb v r' w2) : PPost w rp bp mb v r' w2 := by
 obtain ⟨bp', mb', v', h1, h2, h3⟩ := hp
 exact ⟨bp', mb', v', h1, (Kept.of_below _ hb).trans h2, fun k hk => (h3 k hk).imp id fun g => Nat.le_trans hb.size g⟩
theorem PPost.then {w w1 w2 : World} {rp bp mb : Nat} {v : Value} {r' : Rm} (hp : PPost w rp bp mb v r' w1) (hb : Below w1.heap.size w1 w2) : PPost w rp bp mb v r' w2 := by
 obtain ⟨bp', mb', v', h1, h2, h3⟩ := hp
 exact ⟨bp', mb', v', h1.below hb, h2.trans (Kept.of_below _ hb), h3⟩
theorem RmAt.rowed {w w' : World} {rp bp mb : Nat} {v : Value} {r r' : Rm} (h : RmAt w rp bp mb v r) (hrow : w'.heap[rp]? = some (rpO r' bp v)) (hk : ∀ k, k < w.heap.size → k ≠ rp → w'.heap[k]? = w.heap[k]?) (hb : r'.b = r.b) (hl : r'.l = r.l) : RmAt w' rp bp mb v r' :=
 ⟨hrow, by rw [hb]; exact h.book.same (hk bp (row_lt h.book.row) (Ne.symm h.ne_book)) (hk mb h.book.own.lt (Ne.symm h.ne_map)), by rw [hl]; exact h.feed.keep fun g hg => hk g (h.feed.lt g hg).2 (Ne.symm (h.ne_feed hg).1)⟩
theorem RmAt.booked {w w' : World} {rp bp mb : Nat} {v : Value} {r : Rm} {L : List Per} (h : RmAt w rp bp mb v r) (hb : BookAt w' bp mb L) (hg : w.grownBy w' (some mb)) : RmAt w' rp bp mb v { r with b := L } :=
 ⟨(hg.block rp (row_lt h.row) (by have := h.ne_map; simpa using this)).trans h.row, hb, h.feed.keep fun g hg' => hg.block g (h.feed.lt g hg').2 (by have := (h.ne_feed hg').2.2; simpa using Ne.symm this)⟩
theorem Kept.of_grown {S : Nat → Prop} {w w' : World} {b : Nat} (h : w.grownBy w' (some b)) (hb : S b) : Kept S w w' :=
 ⟨h.os, h.tape, h.output, h.size, fun k hk hs => h.block k hk fun e => hs (by cases e; exact hb)⟩
theorem RmAt.bookPost {w w' : World} {rp bp mb : Nat} {v : Value} {r : Rm} {L : List Per} (h : RmAt w rp bp mb v r) (hb : BookAt w' bp mb L) (hg : w.grownBy w' (some mb)) : PPost w rp bp mb v { r with b := L } w' :=
 ⟨bp, mb, v, h.booked hb hg, Kept.of_grown hg (Or.inr rfl), fun _ hk => Or.inl hk⟩
theorem below_keptR {W w w' : World} {S : Nat → Prop} (h : Below W.heap.size W w) (k : Kept S w w') (hS : ∀ j, S j → W.heap.size ≤ j) : Below W.heap.size W w' :=
 ⟨k.os.trans h.os, k.tape.trans h.tape, k.output.trans h.output, Nat.le_trans h.size k.size, fun j hj => (k.block j (Nat.lt_of_lt_of_le hj h.size) (fun e => absurd (hS j e) (by omega))).trans (h.block j hj)⟩
structure Two (w0 w : World) (rp bp mb : Nat) (v : Value) (rb bb : Nat) (mv lv : Value) (r m : Rm) : Prop where
 past : Below w0.heap.size w0 w
 mine : RmAt w rp bp mb v r
 ref : RefRm w0.heap.size w rb bb mv lv m
 apart : ∀ k, Mine rp bp mb v k → k ≠ rb ∧ lv.ownBlock ≠ some k
 old : ∀ k, Mine rp bp mb v k → w0.heap.size ≤ k
theorem Two.else {w0 w : World} {rp bp mb : Nat} {v : Value} {rb bb : Nat} {mv lv : Value} {r m : Rm} (h : Two w0 w rp bp mb v rb bb mv lv r m) {k : Nat} (hk : Mine rp bp mb v k) : Else w rb lv k :=
 ⟨h.mine.lt hk, (h.apart k hk).1, (h.apart k hk).2, h.mine.tags hk⟩
def Both (w0 w : World) (rp rb : Nat) (r m : Rm) : Prop := ∃ bp mb v bb mv lv, Two w0 w rp bp mb v rb bb mv lv r m
theorem Both.below {w0 w w' : World} {rp rb : Nat} {r m : Rm} (h : Both w0 w rp rb r m) (hb : Below w.heap.size w w') : Both w0 w' rp rb r m := by
 obtain ⟨bp, mb, v, bb, mv, lv, h⟩ := h
 exact ⟨bp, mb, v, bb, mv, lv, h.past.trans (hb.mono h.past.size), h.mine.below hb, h.ref.below hb, h.apart, h.old⟩
theorem Both.past {w0 w : World} {rp rb : Nat} {r m : Rm} (h : Both w0 w rp rb r m) : Below w0.heap.size w0 w := by
 obtain ⟨_, _, _, _, _, _, h⟩ := h
 exact h.past
theorem Two.prog {w0 w w' : World} {rp bp mb : Nat} {v : Value} {rb bb : Nat} {mv lv : Value} {r r' m : Rm} (h : Two w0 w rp bp mb v rb bb mv lv r m) (hp : PPost w rp bp mb v r' w') : Both w0 w' rp rb r' m := by
 obtain ⟨bp', mb', v', h1, h2, h3⟩ := hp
 have hS : ∀ k, (k = rp ∨ k = mb) → Mine rp bp mb v k := fun k hk => hk.imp id fun e => Or.inr (Or.inl e)
 have hn : ∀ k, Mine rp bp' mb' v' k → k ≠ rb ∧ lv.ownBlock ≠ some k := fun k hk => by
  rcases h3 k hk with g | g
  ·
   exact h.apart k g
  ·
   have h4 := row_lt h.ref.row
   refine ⟨by omega, fun e => ?_⟩
   have := (h.ref.feed.lt k e).2
   omega
 refine ⟨bp', mb', v', bb, mv, lv, below_keptR h.past h2 (fun k hk => h.old k (hS k hk)), h1, h.ref.stays (S := fun k => k = rp ∨ k = mb) h2.block (fun k hk => Or.inl (h.else (hS k hk))), hn, fun k hk => ?_⟩
 rcases h3 k hk with g | g
 ·
  exact h.old k g
 ·
  exact Nat.le_trans h.past.size g
theorem Two.refs {w0 w w' : World} {rp bp mb : Nat} {v : Value} {rb bb : Nat} {mv lv : Value} {r m m' : Rm} (h : Two w0 w rp bp mb v rb bb mv lv r m) (hp : RmPost w0.heap.size w rb bb mv m' w') : Both w0 w' rp rb r m' := by
 obtain ⟨bb', mv', lv', h1, h2, h3⟩ := RmPost.apart h.ref hp
 refine ⟨bp, mb, v, bb', mv', lv', below_keptR h.past h2 (fun k hk => ?_), h.mine.same fun k hk => (h3 k (h.else hk)).1, h1, fun k hk => ⟨(h3 k (h.else hk)).2.row, (h3 k (h.else hk)).2.feed⟩, h.old⟩
 rcases hk with rfl | rfl | hk
 ·
  exact h.ref.old.1
 ·
  exact h.ref.old.2
 ·
  exact (h.ref.book.2.lt k hk).1
theorem Both.act {w0 w : World} {rp rb : Nat} {r r' m : Rm} {f : Nat} {args : Array Value} {E : Ending → World → Prop} (h : Both w0 w rp rb r m)
  (hc : ∀ bp mb v, RmAt w rp bp mb v r → Calls Tryz.prog f args w fun e w' => E e w' ∧ PPost w rp bp mb v r' w') : Calls Tryz.prog f args w fun e w' => E e w' ∧ Both w0 w' rp rb r' m := by
 obtain ⟨bp, mb, v, bb, mv, lv, h⟩ := h
 exact (hc bp mb v h.mine).mono fun e w' ⟨h1, h2⟩ => ⟨h1, h.prog h2⟩
theorem Both.ref {w0 w : World} {rp rb : Nat} {r m m' : Rm} {f : Nat} {args : Array Value} {E : Ending → World → Prop} (h : Both w0 w rp rb r m)
  (hc : ∀ bb mv lv, RefRm w0.heap.size w rb bb mv lv m → Calls Tryz.prog f args w fun e w' => E e w' ∧ RmPost w0.heap.size w rb bb mv m' w') : Calls Tryz.prog f args w fun e w' => E e w' ∧ Both w0 w' rp rb r m' := by
 obtain ⟨bp, mb, v, bb, mv, lv, h⟩ := h
 exact (hc bb mv lv h.ref).mono fun e w' ⟨h1, h2⟩ => ⟨h1, h.refs h2⟩
end Go.Proofs.YtabpnjchocgakaaGreatDoor

namespace Go.Proofs.YtabpnjchocgakaaGreatDoor
open Go.RowKit Go.Extern.Stop Go.Stop Go.Extern Go.Proofs Go.Maps Go.Shelf
set_option maxRecDepth 100000 in
set_option maxHeartbeats 1000000 in
theorem bookCopy_any (bp mb : Nat) (L : List Per) (w : World) (h : BookAt w bp mb L) :
  Calls Tryz.prog 77 #[.pointer (some ⟨bp, 0, none⟩)] w fun e w' => ∃ b m, e = .returned (.pointer (some ⟨b, 0, none⟩)) ∧ BookAt w' b m L ∧ w.heap.size ≤ b ∧ w.heap.size ≤ m ∧ Below w.heap.size w w' := by
 have hc := h.cell
 have HC := AnyW.maps_Clone_owns Tryz.cloneP 9 perR mb L.length (dOf L) w h.own
 change Calls Tryz.prog 123 _ _ _ at HC
 have HG := hide h.good
 have HCl := hide HC
 clear h HC
 go_enter Tryz.func77, Tryz.ntmps77
 go_wp2_with fail
 refine HCl.out.mono ?_
 rintro e w1 ⟨rfl, ho, _, hb⟩
 have HW : Hid (∃ b m, BookAt (w1.alloc (.cells #[.map (some w.heap.size)] 134)) b m L ∧ b = w1.heap.size ∧ w.heap.size ≤ b ∧ w.heap.size ≤ m ∧ Below w.heap.size w (w1.alloc (.cells #[.map (some w.heap.size)] 134))) :=
  ⟨w1.heap.size, w.heap.size, ⟨heap_alloc_new _ _, ho.alloc _, HG.out⟩, rfl, hb.size, Nat.le_refl _, hb.alloc hb.size _⟩
 clear ho hb
 go_wp2
 go_ret
 obtain ⟨b, m, h1, rfl, h2, h3, h4⟩ := HW.out
 exact ⟨_, m, rfl, h1, h2, h3, h4⟩
set_option maxRecDepth 100000 in
set_option maxHeartbeats 2000000 in
theorem rpFeed_any (rp bp mb : Nat) (v : Value) (r : Rm) (w : World) (h : RmAt w rp bp mb v r) (hl : r.l.length ≤ 1000000) :
  Calls Tryz.prog 16 #[.pointer (some ⟨rp, 0, none⟩)] w fun e w' => ∃ v', e = .returned v' ∧ OwnE w' w.heap.size v' r.l ∧ Below w.heap.size w w' := by
 obtain ⟨_, _, _, _, _, c5⟩ := rp_cells h.row
 have HC := hide (cloneE_any v r.l w h.enAt hl)
 clear h hl
 go_enter Tryz.func16, Tryz.ntmps16
 go_wp2_with fail
 refine HC.out.mono ?_
 rintro e w1 ⟨v', rfl, ho, hb⟩
 have HO := hide ho
 have HB := hide hb
 clear ho hb
 go_wp2
 go_ret
 exact ⟨v', rfl, HO.out, HB.out⟩
def CopyOf (w : World) (r : Rm) (cp : Nat) (w' : World) : Prop := ∃ bp mb v, RmAt w' cp bp mb v r ∧ (∀ k, Mine cp bp mb v k → w.heap.size ≤ k) ∧ Below w.heap.size w w'
set_option maxRecDepth 100000 in
set_option maxHeartbeats 2000000 in
theorem rpCopy_any (rp bp mb : Nat) (v : Value) (r : Rm) (w : World) (h : RmAt w rp bp mb v r) (hl : r.l.length ≤ 1000000) :
  Calls Tryz.prog 27 #[.pointer (some ⟨rp, 0, none⟩)] w fun e w' => ∃ cp, e = .returned (.pointer (some ⟨cp, 0, none⟩)) ∧ CopyOf w r cp w' := by
 obtain ⟨ad, cap, rfl, _⟩ := h.enAt.form
 obtain ⟨c0, c1, c2, c3, c4, c5⟩ := rp_cells h.row
 have hB0 : Below w.heap.size w (w.alloc (rpO r bp (.slice ad r.l.length cap))) := (Below.refl _ _).alloc (Nat.le_refl _) _
 have HB0 := hide hB0
 have HBk := hide (bookCopy_any bp mb r.b (w.alloc (rpO r bp (.slice ad r.l.length cap))) (h.book.below hB0))
 have HN : Hid ((w.alloc (rpO r bp (.slice ad r.l.length cap))).heap[w.heap.size]? = some (rpO r bp (.slice ad r.l.length cap))) := heap_alloc_new _ _
 have H0 : Hid (RmAt (w.alloc (rpO r bp (.slice ad r.l.length cap))) rp bp mb (.slice ad r.l.length cap) r) := h.below hB0
 have HF := hide (fun w1 (hb : Below (w.alloc (rpO r bp (.slice ad r.l.length cap))).heap.size (w.alloc (rpO r bp (.slice ad r.l.length cap))) w1) => rpFeed_any rp bp mb (.slice ad r.l.length cap) r w1 ((h.below hB0).below hb) hl)
 have d4 := (rp_cells (h.below hB0).row).2.2.2.2.1
 clear h hl hB0 
 go_enter Tryz.func27, Tryz.ntmps27
 go_wp2_with fail
 refine HBk.out.mono ?_
 rintro e w1 ⟨b, m, rfl, hbk, hb1, hb2, hb⟩
 have HB1 := hide hb
 have HK1 := hide hbk
 have HZ1 : Hid (w.heap.size < b ∧ w.heap.size < m) := by
  rw [World.size_alloc] at hb1 hb2
  exact ⟨by omega, by omega⟩
 clear hb hbk hb1 hb2 HBk
 go_wp2_with fail
 refine (HF.out w1 HB1.out).mono ?_
 rintro e w2 ⟨v2, rfl, ho, hb⟩
 obtain ⟨ad2, cap2, rfl, _⟩ := ho.enAt.form
 generalize hv2 : Value.slice ad2 r.l.length cap2 = v2 at *
 have HX : Hid (∀ w3, w3 = (w2.setCell ⟨w.heap.size, 4, none⟩ (.pointer (some ⟨b, 0, none⟩))).setCell ⟨w.heap.size, 5, none⟩ v2 → CopyOf w r w.heap.size w3) := fun w3 e => by
  subst e
  have hz := HZ1.out
  have hr1 : w1.heap[w.heap.size]? = some (rpO r bp (.slice ad r.l.length cap)) := (HB1.out.block _ (by simp)).trans HN.out
  have hr2 : w2.heap[w.heap.size]? = some (rpO r bp (.slice ad r.l.length cap)) := (hb.block _ (row_lt hr1)).trans hr1
  have hr3 := rp_set (r' := r) hr2 4 (.pointer (some ⟨b, 0, none⟩)) b (.slice ad r.l.length cap) rfl
  have hr4 := rp_set (r' := r) hr3 5 v2 b v2 rfl
  have hk : ∀ k, k ≠ w.heap.size → ((w2.setCell ⟨w.heap.size, 4, none⟩ (.pointer (some ⟨b, 0, none⟩))).setCell ⟨w.heap.size, 5, none⟩ v2).heap[k]? = w2.heap[k]? := fun k hk =>
   (heap_setCell_other _ ⟨w.heap.size, 5, none⟩ k _ hk).trans (heap_setCell_other _ ⟨w.heap.size, 4, none⟩ k _ hk)
  have hB2 : Below w.heap.size w w2 := (HB0.out.trans (HB1.out.mono HB0.out.size)).trans (hb.mono (HB0.out.trans (HB1.out.mono HB0.out.size)).size)
  refine ⟨b, m, v2, ⟨hr4, (HK1.out.below hb).same (hk b (by omega)) (hk m (by omega)), (ho.less (Nat.zero_le _)).keep fun g hg => hk g ?_⟩, fun k hkk => ?_, ?_⟩
  ·
   have := (ho.lt g hg).1
   have := row_lt hr1
   omega
  ·
   rcases hkk with rfl | rfl | rfl | hkk
   ·
    exact Nat.le_refl _
   ·
    omega
   ·
    omega
   ·
    have := (ho.lt k hkk).1
    have := row_lt hr1
    omega
  ·
   exact (hB2.setCell (by exact Nat.le_refl _) _).setCell (by exact Nat.le_refl _) _
 have hr2 : w2.heap[w.heap.size]? = some (rpO r bp (.slice ad r.l.length cap)) := by
  have hr1 : w1.heap[w.heap.size]? = some (rpO r bp (.slice ad r.l.length cap)) := (HB1.out.block _ (by simp)).trans HN.out
  exact (hb.block _ (row_lt hr1)).trans hr1
 obtain ⟨_, _, _, _, f4, f5⟩ := rp_cells hr2
 obtain ⟨_, _, z4, z5⟩ := rp_frozen hr2
 clear ho hb hr2
 subst hv2
 go_wp2
 go_ret
 exact ⟨_, rfl, HX.out _ rfl⟩
def Change (a : Nat → Addr) (g : Nat) (lb : Array Value) (r r' : Rm) (n : Int) (c : Nat) (w : World) : Prop :=
 ∀ w1 cp, CopyOf w r cp w1 → Calls Tryz.prog g (#[.pointer (some ⟨cp, 0, none⟩)] ++ lb) w1 fun e w2 => ∃ n' ev, e = .returned (.tuple #[.int .i64 n', ev]) ∧ EvP a w2 c ev ∧ (c = 0 → n' = n ∧ CopyOf w r' cp w2) ∧ Below w.heap.size w w2
def TryPost (a : Nat → Addr) (rp bp mb : Nat) (v : Value) (w : World) (n : Int) (c : Nat) (r : Rm) (e : Ending) (w' : World) : Prop :=
 (∃ ev, e = .returned (.tuple #[.int .i64 (numC c n), ev]) ∧ EvP a w' c ev) ∧ PPost w rp bp mb v r w'
theorem RmAt.moved {w w2 w3 : World} {rp bp mb cp bp2 mb2 : Nat} {v v2 : Value} {r r' : Rm} (h : RmAt w rp bp mb v r) (hc : RmAt w2 cp bp2 mb2 v2 r') (hm : ∀ k, Mine cp bp2 mb2 v2 k → w.heap.size ≤ k) (hb : Below w.heap.size w w2) (hrow : w3.heap[rp]? = some (rpO r' bp2 v2)) (hk : Kept (fun k => k = rp) w2 w3) : PPost w rp bp mb v r' w3 := by
 have hne : ∀ k, Mine cp bp2 mb2 v2 k → k ≠ rp := fun k hkk e => by
  have := hm k hkk
  have := row_lt h.row
  omega
 have hs : ∀ k, Mine cp bp2 mb2 v2 k → w3.heap[k]? = w2.heap[k]? := fun k hkk => hk.block k (hc.lt hkk) (hne k hkk)
 refine ⟨bp2, mb2, v2, ⟨hrow, (hc.book.same (hs _ (Or.inr (Or.inl rfl))) (hs _ (Or.inr (Or.inr (Or.inl rfl))))), hc.feed.keep fun g hg => hs g (Or.inr (Or.inr (Or.inr hg)))⟩, (Kept.of_below _ hb).trans (hk.mono fun k e => Or.inl e), fun k hkk => ?_⟩
 rcases hkk with rfl | hkk
 ·
  exact Or.inl (Or.inl rfl)
 ·
  exact Or.inr (hm k (Or.inr hkk))
abbrev six (w : World) (rp : Nat) (u0 u1 u2 u3 u4 u5 : Value) : World := (((((w.setCell ⟨rp, 0, none⟩ u0).setCell ⟨rp, 1, none⟩ u1).setCell ⟨rp, 2, none⟩ u2).setCell ⟨rp, 3, none⟩ u3).setCell ⟨rp, 4, none⟩ u4).setCell ⟨rp, 5, none⟩ u5
theorem six_row {w : World} {rp : Nat} {t : TypeId} {a0 a1 a2 a3 a4 a5 : Value} (h : w.heap[rp]? = some (.cells #[a0, a1, a2, a3, a4, a5] t (0, 0))) (u0 u1 u2 u3 u4 u5 : Value) : (six w rp u0 u1 u2 u3 u4 u5).heap[rp]? = some (.cells #[u0, u1, u2, u3, u4, u5] t (0, 0)) := by
 have h0 := heap_setCell_same w rp 0 _ _ u0 h
 have h1 := heap_setCell_same _ rp 1 _ _ u1 h0
 have h2 := heap_setCell_same _ rp 2 _ _ u2 h1
 have h3 := heap_setCell_same _ rp 3 _ _ u3 h2
 have h4 := heap_setCell_same _ rp 4 _ _ u4 h3
 exact heap_setCell_same _ rp 5 _ _ u5 h4
theorem six_kept (w : World) (rp : Nat) (u0 u1 u2 u3 u4 u5 : Value) : Kept (fun k => k = rp) w (six w rp u0 u1 u2 u3 u4 u5) :=
 ((((((Kept.refl (fun k => k = rp) w).setCell (p := ⟨rp, 0, none⟩) (Eq.refl rp) _).setCell (p := ⟨rp, 1, none⟩) (Eq.refl rp) _).setCell (p := ⟨rp, 2, none⟩) (Eq.refl rp) _).setCell (p := ⟨rp, 3, none⟩) (Eq.refl rp) _).setCell (p := ⟨rp, 4, none⟩) (Eq.refl rp) _).setCell (p := ⟨rp, 5, none⟩) (Eq.refl rp) _
set_option maxRecDepth 100000 in
set_option maxHeartbeats 4000000 in
theorem try_any (a : Nat → Addr) (g : Nat) (lb : Array Value) (eg : ∀ args w, (callFunc g args).run Tryz.prog w = .ok (.enter g args) w) (rp bp mb : Nat) (v : Value) (r r' : Rm) (n : Int) (c : Nat) (w : World) (h : RmAt w rp bp mb v r) (hl : r.l.length ≤ 1000000) (hc : Change a g lb r r' n c w) :
  Calls Tryz.prog 60 #[.pointer (some ⟨rp, 0, none⟩), .func (.func g) #[] lb] w (TryPost a rp bp mb v w n c (if c = 0 then r' else r)) := by
 have HC := hide (rpCopy_any rp bp mb v r w h hl)
 have HH := hide h
 have HCh := hide hc
 by_cases h0 : c = 0
 ·
  subst h0
  rw [if_pos rfl]
  show Calls _ _ _ _ fun e w' => (∃ ev, e = .returned (.tuple #[.int .i64 n, ev]) ∧ EvP a w' 0 ev) ∧ PPost w rp bp mb v r' w'
  clear h hl hc
  go_enter Tryz.func60, Tryz.ntmps60
  go_wp2_with fail
  refine HC.out.mono ?_
  rintro e w1 ⟨cp, rfl, hcp⟩
  have HX := hide (HCh.out w1 cp hcp)
  clear hcp
  go_wp2_with fail
  refine HX.out.mono ?_
  rintro e w2 ⟨n', ev, rfl, hev, hz, hb⟩
  obtain ⟨rfl, bp2, mb2, v2, hc2, hm2, hb2⟩ := hz (by trivial)
  obtain ⟨ad2, cap2, rfl, _⟩ := hc2.enAt.form
  obtain rfl : ev = .nilIface := hev.none rfl
  have HC2 := hide hc2
  have HM2 := hide hm2
  have HB2 := hide hb2
  have hr2 := hc2.row
  obtain ⟨c0, c1, c2, c3, c4, c5⟩ := rp_cells hr2
  have hrp : w2.heap[rp]? = some (rpO r bp v) := (hb2.block rp (row_lt HH.out.row)).trans HH.out.row
  obtain ⟨d0, d1, d2, d3, d4, d5⟩ := rp_cells hrp
  have z : ∀ j, w2.frozen? ⟨rp, j, none⟩ = false := fun j => frozen_of_row w2 rp j _ _ hrp
  have z0 := z 0
  have z1 := z 1
  have z2 := z 2
  have z3 := z 3
  have z4 := z 4
  have z5 := z 5
  have HZ : Hid (PPost w rp bp mb v r' (six w2 rp (.int .i64 r'.key) (.int .i64 r'.long) (.int .i64 r'.time) (.int .i64 r'.ser) (.pointer (some ⟨bp2, 0, none⟩)) (.slice ad2 r'.l.length cap2))) :=
   HH.out.moved hc2 hm2 hb2 (six_row hrp _ _ _ _ _ _) (six_kept _ _ _ _ _ _ _ _)
  clear z hev hz hb hc2 hm2 hb2
  go_wp2
  go_ret2
  exact ⟨⟨_, rfl, Or.inl ⟨rfl, rfl⟩⟩, HZ.out⟩
 ·
  have hn : numC c n = 0 := if_neg h0
  rw [if_neg h0]
  have HN : Hid (numC c n = 0) := hn
  have HC0 : Hid (c ≠ 0) := h0
  clear h hl hc h0 hn
  go_enter Tryz.func60, Tryz.ntmps60
  go_wp2_with fail
  refine HC.out.mono ?_
  rintro e w1 ⟨cp, rfl, hcp⟩
  have HX := hide (HCh.out w1 cp hcp)
  clear hcp
  go_wp2_with fail
  refine HX.out.mono ?_
  rintro e w2 ⟨n', ev, rfl, hev, _, hb⟩
  have HEv := hide hev
  have HB := hide hb
  obtain ⟨_, t, p, rfl⟩ : c ≠ 0 ∧ ∃ t p, ev = .iface t p := by
   rcases hev.cases with ⟨g, _⟩ | g
   ·
    exact absurd g HC0.out
   ·
    exact g
  clear hev hb
  go_wp2
  go_ret2
  exact ⟨⟨_, by rw [HN.out]; rfl, HEv.out⟩, PPost.same HH.out HB.out⟩
theorem copy_booked {w w1 w2 : World} {r : Rm} {cp bp mb : Nat} {v : Value} {L : List Per} (h : RmAt w1 cp bp mb v r) (hm : ∀ k, Mine cp bp mb v k → w.heap.size ≤ k) (hb : Below w.heap.size w w1) (hB : BookAt w2 bp mb L) (hg : w1.grownBy w2 (some mb)) : CopyOf w { r with b := L } cp w2 :=
 ⟨bp, mb, v, h.booked hB hg, hm, hb.grown hg hb.size (fun k e => by cases e; exact hm mb (Or.inr (Or.inr (Or.inl rfl))))⟩
theorem CopyOf.below {w w1 w2 : World} {r : Rm} {cp : Nat} (h : CopyOf w r cp w1) (hb : Below w1.heap.size w1 w2) : CopyOf w r cp w2 := by
 obtain ⟨bp, mb, v, h1, h2, h3⟩ := h
 exact ⟨bp, mb, v, h1.below hb, h2, h3.trans (hb.mono h3.size)⟩
theorem CopyOf.past {w w1 : World} {r : Rm} {cp : Nat} (h : CopyOf w r cp w1) : Below w.heap.size w w1 := by
 obtain ⟨_, _, _, _, _, h3⟩ := h
 exact h3
def TellPost (a : Nat → Addr) (w w1 : World) (r : Rm) (cp : Nat) (who : ByteArray) (n : Int) (e : Ending) (w' : World) : Prop :=
 (∃ ev, e = .returned ev ∧ EvP a w' (r.entC who n) ev) ∧ (r.entC who n = 0 → CopyOf w { r with l := addL r.l r.time ⟨who, n⟩ } cp w') ∧ Below w.heap.size w w' ∧ Kept (fun k => k = cp) w1 w'
set_option maxRecDepth 100000 in
set_option maxHeartbeats 4000000 in
theorem tell_any (a : Nat → Addr) (w w1 : World) (r : Rm) (cp : Nat) (who : ByteArray) (n : Int) (h : CopyOf w r cp w1) (hE : Errs a w) (hf : (feedC r.l).1 = 0) (hsm : ∀ e ∈ r.l, e.fl.who.size ≤ maxLen) (hw : who.size ≤ maxLen) :
  Calls Tryz.prog 63 #[.pointer (some ⟨cp, 0, none⟩), .string who, .int .i64 n] w1 (TellPost a w w1 r cp who n) := by
 obtain ⟨bp, mb, v, hR, hM, hB⟩ := h
 have HE := hide (hE.below hB)
 have hl : r.l.length ≤ 100000 := Nat.le_trans (feed_zero hf).1 (by decide)
 obtain ⟨_, _, c2, _, _, c5⟩ := rp_cells hR.row
 have HF : Hid (∀ W, Below w1.heap.size w1 W → Calls Tryz.prog 113 #[v, .int .i64 r.time, .agg #[.string who, .int .i64 n]] W fun e w' => FeedPost a (addC r.l r.time ⟨who, n⟩) (addR r.l r.time ⟨who, n⟩) W.heap.size e w' ∧ Below W.heap.size W w') := fun W hb =>
  fdAdd_any a v r.l r.time ⟨who, n⟩ W ((HE.out.below hb).ev _) (hR.enAt.below hb) hsm hw hl
 have hC : addC r.l r.time ⟨who, n⟩ = (r.entC who n, -1) := by
  unfold Rm.entC Go.Proofs.YtabpnjchocgakaaGreatDoor.addC
  rw [if_pos hf]
 have hRr : r.entC who n = 0 → addR r.l r.time ⟨who, n⟩ = addL r.l r.time ⟨who, n⟩ := fun h0 => by
  unfold addR
  rw [hC, if_pos h0]
 rw [hC] at HF
 have HR := hide hR
 have HM := hide hM
 have HB := hide hB
 have HL := hide hRr
 have HD1 : Hid (Below w1.heap.size w1 w1.drew) := (Below.refl _ _).drew
 clear hE hf hsm hw hl hC hRr hR hM hB
 generalize hec : r.entC who n = ec at *
 have HEc : Hid (r.entC who n = ec) := hec
 clear hec
 generalize hla : addR r.l r.time ⟨who, n⟩ = la at *
 clear hla
 go_enter Tryz.func63, Tryz.ntmps63
 go_upto_region 1 with fail
 go_cut [7, 8] (fun s7 s8 wc => Hid (OwnE wc w1.heap.size s7 la ∧ EvP a wc ec s8 ∧ Below w1.heap.size w1 wc))
 case first =>
  go_region_held3 (fun w' => w'.cell? ⟨cp, 5, none⟩ = some v ∧ w'.cell? ⟨cp, 2, none⟩ = some (.int .i64 r.time)) (first | go_keep | assumption)
   (first | (go_at_call 113; refine (HF.out _ HD1.out).mono ?_; rintro e w5 ⟨⟨v5, ev5, rfl, ho5, he5, _⟩, hb5⟩; have HX : Hid (OwnE w5 w1.heap.size v5 la ∧ EvP a w5 ec ev5 ∧ Below w1.heap.size w1 w5) := ⟨ho5, he5, HD1.out.trans hb5⟩; have k5 : w5.cell? ⟨cp, 5, none⟩ = some v := (HX.out.2.2.cell (p := ⟨cp, 5, none⟩) (cell_lt c5)).trans c5; have k2 : w5.cell? ⟨cp, 2, none⟩ = some (.int .i64 r.time) := (HX.out.2.2.cell (p := ⟨cp, 2, none⟩) (cell_lt c2)).trans c2; clear ho5 he5 hb5))
  all_goals
   go_wp2_with fail
   go_meet
   exact HX
 case rest =>
  obtain ⟨ad7, cap7, rfl, _⟩ := hcut.out.1.enAt.form
  have hR2 := HR.out.below hcut.out.2.2
  have HBw : Hid (Below w.heap.size w wc) := HB.out.trans (hcut.out.2.2.mono HB.out.size)
  rcases hcut.out.2.1.cases with ⟨z0, rfl⟩ | ⟨z0, t, p, rfl⟩
  ·
   have z0' : ec = 0 := z0
   have hla := HL.out z0'
   have HZ : Hid (CopyOf w { r with l := addL r.l r.time ⟨who, n⟩ } cp (wc.setCell ⟨cp, 5, none⟩ (.slice ad7 la.length cap7)) ∧ Below w.heap.size w (wc.setCell ⟨cp, 5, none⟩ (.slice ad7 la.length cap7)) ∧ Kept (fun k => k = cp) w1 (wc.setCell ⟨cp, 5, none⟩ (.slice ad7 la.length cap7))) := by
    have hk : ∀ k, k ≠ cp → (wc.setCell ⟨cp, 5, none⟩ (.slice ad7 la.length cap7)).heap[k]? = wc.heap[k]? := fun k hk => heap_setCell_other wc ⟨cp, 5, none⟩ k _ hk
    have hcp := row_lt HR.out.row
    have hBs : Below w.heap.size w (wc.setCell ⟨cp, 5, none⟩ (.slice ad7 la.length cap7)) := HBw.out.setCell (p := ⟨cp, 5, none⟩) (HM.out cp (Or.inl rfl)) _
    refine ⟨⟨bp, mb, .slice ad7 la.length cap7, ⟨rp_set (r' := { r with l := addL r.l r.time ⟨who, n⟩ }) hR2.row 5 _ bp _ rfl, hR2.book.same (hk bp (Ne.symm hR2.ne_book)) (hk mb (Ne.symm hR2.ne_map)), ?_⟩, fun k hkk => ?_, hBs⟩, hBs, (Kept.of_below (fun k => k = cp) hcut.out.2.2).setCell (p := ⟨cp, 5, none⟩) (Eq.refl cp) _⟩
    ·
     have ho := (hcut.out.1.less (Nat.zero_le _)).keep (w' := wc.setCell ⟨cp, 5, none⟩ (.slice ad7 la.length cap7)) fun g hg => hk g (by have := (hcut.out.1.lt g hg).1; omega)
     rw [hla] at ho ⊢
     exact ho
    ·
     rcases hkk with rfl | rfl | rfl | hkk
     ·
      exact HM.out _ (Or.inl rfl)
     ·
      exact HM.out _ (Or.inr (Or.inl rfl))
     ·
      exact HM.out _ (Or.inr (Or.inr (Or.inl rfl)))
     ·
      have := (hcut.out.1.lt k hkk).1
      have := HB.out.size
      omega
   obtain ⟨_, _, _, _, _, c5⟩ := rp_cells hR2.row
   obtain ⟨_, _, _, y5⟩ := rp_frozen hR2.row
   have HEv : Hid (r.entC who n = 0) := HEc.out.trans z0'
   clear hcut hR2 HBw z0 z0' hla HL HR HM HF HE
   go_wp2
   go_ret
   exact ⟨⟨_, rfl, Or.inl ⟨HEv.out, rfl⟩⟩, fun _ => HZ.out.1, HZ.out.2.1, HZ.out.2.2⟩
  ·
   have HN : Hid (r.entC who n ≠ 0) := fun e => z0 (HEc.out.symm.trans e)
   have HEv : Hid (EvP a wc (r.entC who n) (.iface t p)) := by
    have := hcut.out.2.1
    rw [← HEc.out] at this
    exact this
   have HKp : Hid (Kept (fun k => k = cp) w1 wc) := Kept.of_below _ hcut.out.2.2
   clear hcut hR2 z0
   go_wp2
   go_ret
   exact ⟨⟨_, rfl, HEv.out⟩, fun h0 => absurd h0 HN.out, HBw.out, HKp.out⟩
end Go.Proofs.YtabpnjchocgakaaGreatDoor

namespace Go.Proofs.YtabpnjchocgakaaGreatDoor
open Go.RowKit Go.Extern.Stop Go.Stop Go.Extern Go.Proofs Go.Maps
def RnpPost (a : Nat → Addr) (key long : Int) (w : World) (e : Ending) (w' : World) : Prop :=
 Below w.heap.size w w' ∧ ((rmC key long = 0 ∧ ∃ rp bp mb, e = .returned (.tuple #[.pointer (some ⟨rp, 0, none⟩), .nilIface]) ∧ RmAt w' rp bp mb (.slice none 0 0) (rmN key long) ∧ ∀ k, Mine rp bp mb (.slice none 0 0) k → w.heap.size ≤ k) ∨
  (rmC key long ≠ 0 ∧ e = .returned (.tuple #[.pointer none, errV a (rmC key long)])))
set_option maxRecDepth 100000 in
set_option maxHeartbeats 4000000 in
theorem rpNew_any (a : Nat → Addr) (key long : Int) (w : World) (hE : Errs a w) :
  Calls Tryz.prog 8 #[.int .i64 key, .int .i64 long] w (RnpPost a key long w) := by
 have HK := hide (of_any a key ⟨#[]⟩ w hE (by decide))
 have HE := hide hE
 rw [key_more] at HK
 by_cases hk : 1 ≤ key ∧ key ≤ 1000000006
 ·
  rw [if_pos hk, errV_zero] at HK
  by_cases hl : 1 ≤ long ∧ long ≤ 1000000
  ·
   have h0 : rmC key long = 0 := by unfold rmC; rw [if_pos hk, if_pos hl]
   have HW : Hid (∀ w1 w2 : World, Below w.heap.size w w1 → BookAt w2 (w1.heap.size + 1) w1.heap.size [] → Below w1.heap.size w1 w2 → RnpPost a key long w (.returned (.tuple #[.pointer (some ⟨w2.heap.size, 0, none⟩), .nilIface])) (w2.alloc (rpO (rmN key long) (w1.heap.size + 1) (.slice none 0 0)))) := fun w1 w2 h1 hB h2 => by
    have hbb := h1.trans (h2.mono h1.size)
    refine ⟨hbb.alloc hbb.size _, Or.inl ⟨h0, w2.heap.size, w1.heap.size + 1, w1.heap.size, rfl, ⟨heap_alloc_new _ _, hB.below ((Below.refl _ _).alloc (Nat.le_refl _) _), World.ownsRow_nil _ _ _ _⟩, fun k hk => ?_⟩⟩
    have s1 := h1.size
    have s2 := hbb.size
    rcases hk with rfl | rfl | rfl | hk
    ·
     exact s2
    ·
     omega
    ·
     exact s1
    ·
     cases hk
   have HN := hide (fun w => new_any w)
   obtain ⟨hl1, hl2⟩ := hl
   clear h0 hE
   go_enter Tryz.func8, Tryz.ntmps8
   go_wp2_with fail
   refine HK.out.mono ?_
   rintro e w1 ⟨rfl, hb⟩
   have HB1 := hide hb
   clear hb
   go_wp2_with fail
   refine (HN.out _).mono ?_
   rintro e w2 ⟨rfl, hB, hb⟩
   have HX := hide (HW.out _ _ HB1.out hB hb)
   clear hB hb
   go_wp2
   go_ret2
   exact HX.out
  ·
   have h0 : rmC key long = 2 := by unfold rmC; rw [if_pos hk, if_neg hl]
   have HW : Hid (∀ w', Below w.heap.size w w' → RnpPost a key long w (.returned (.tuple #[.pointer none, errV a 2])) w') := fun w' h => ⟨h, Or.inr ⟨by rw [h0]; decide, by rw [h0]⟩⟩
   rw [errV_pos a (by decide)] at HW
   have hq : long < 1 ∨ (1 ≤ long ∧ 1000000 < long) := by omega
   clear h0 hl hE
   rcases hq with q | ⟨q, q2⟩
   all_goals
    go_enter Tryz.func8, Tryz.ntmps8
    go_wp2_with fail
    refine HK.out.mono ?_
    rintro e w1 ⟨rfl, hb⟩
    have hv : w1.cell? ⟨0, 0, none⟩ = some (eV (a 1)) := (HE.out.below hb).var 1 (by decide)
    have HB1 := hide hb
    clear hb
    go_wp2
    go_quiet (fail)
    go_wp2
    go_ret2
    exact HW.out _ (below_drewN HB1.out _)
 ·
  rw [if_neg hk, errV_pos a (by decide)] at HK
  have h0 : rmC key long = 10 := by unfold rmC; rw [if_neg hk]
  have HW : Hid (∀ w', Below w.heap.size w w' → RnpPost a key long w (.returned (.tuple #[.pointer none, errV a 10])) w') := fun w' h => ⟨h, Or.inr ⟨by rw [h0]; decide, by rw [h0]⟩⟩
  rw [errV_pos a (by decide)] at HW
  clear h0 hk hE
  go_enter Tryz.func8, Tryz.ntmps8
  go_wp2_with fail
  refine HK.out.mono ?_
  rintro e w1 ⟨rfl, hb⟩
  have HB1 := hide hb
  clear hb
  go_wp2
  go_ret2
  exact HW.out _ HB1.out
set_option maxRecDepth 100000 in
set_option maxHeartbeats 2000000 in
theorem rpUntil_any (rp bp mb : Nat) (v : Value) (r : Rm) (w : World) (h : RmAt w rp bp mb v r) (hg : GoodR r) :
  Calls Tryz.prog 53 #[.pointer (some ⟨rp, 0, none⟩)] w fun e w' => e = .returned (.int .i64 (r.time + r.long)) ∧ Below w.heap.size w w' := by
 obtain ⟨_, c1, c2, _, _, _⟩ := rp_cells h.row
 have h1 := hg.long
 have h2 := hg.time
 have hw1 : IntKind.i64.wrap (r.time + r.long) = r.time + r.long := by rw [IntKind.wrap_i64]; omega
 clear h hg h1 h2
 go_enter Tryz.func53, Tryz.ntmps53
 go_wp2
 go_quiet (fail)
 go_wp2
 go_ret
 exact ⟨rfl, below_drewN (Below.refl _ _) _⟩
set_option maxRecDepth 100000 in
set_option maxHeartbeats 2000000 in
theorem rpNext_any (a : Nat → Addr) (rp bp mb : Nat) (v : Value) (r : Rm) (n : Int) (w : World) (h : RmAt w rp bp mb v r) (hE : Errs a w) (ht : 0 ≤ r.time ∧ r.time ≤ 1000000) :
  Calls Tryz.prog 44 #[.pointer (some ⟨rp, 0, none⟩), .int .i64 n] w fun e w' => e = .returned (.tuple #[.int .i64 (numC (r.nexC n) (r.time + n)), errV a (r.nexC n)]) ∧ PPost w rp bp mb v (r.nexR n) w' := by
 obtain ⟨_, _, c2, _, _, _⟩ := rp_cells h.row
 obtain ⟨z2, _, _, _⟩ := rp_frozen h.row
 have HH := hide h
 have hw1 : IntKind.i64.wrap (1000000 - r.time) = 1000000 - r.time := by rw [IntKind.wrap_i64]; omega
 have hv : w.cell? ⟨0, 0, none⟩ = some (eV (a 1)) := hE.var 1 (by decide)
 by_cases h0 : 0 ≤ n ∧ n ≤ 1000000 - r.time
 ·
  have e1 : r.nexC n = 0 := if_pos h0
  have e2 : r.nexR n = { r with time := r.time + n } := by unfold Rm.nexR; rw [if_pos e1]
  rw [e1, e2, errV_zero]
  have hw2 : IntKind.i64.wrap (r.time + n) = r.time + n := by rw [IntKind.wrap_i64]; omega
  have HS := hide (rp_set (r' := { r with time := r.time + n }) h.row 2 (.int .i64 (r.time + n)) bp v rfl)
  have HR := hide (h.rowed HS.out (fun k _ hk => heap_setCell_other w ⟨rp, 2, none⟩ k _ hk) rfl rfl)
  obtain ⟨_, _, d2, _, _, _⟩ := rp_cells HS.out
  have hn0 : ¬ n < 0 := by omega
  have hn1 : ¬ 1000000 - r.time < n := by omega
  dsimp only at d2
  clear h h0 e1 e2 ht hE hv
  generalize { r with time := r.time + n } = r2 at *
  generalize r.time = t at *
  go_enter Tryz.func44, Tryz.ntmps44
  go_wp2
  go_ret2
  exact ⟨rfl, bp, mb, v, HR.out, Kept.setCell (S := fun k => k = rp ∨ k = mb) (Kept.refl _ w) (p := ⟨rp, 2, none⟩) (Or.inl rfl) _, fun _ hk => Or.inl hk⟩
 ·
  have e1 : r.nexC n = 2 := if_neg h0
  have e2 : r.nexR n = r := by unfold Rm.nexR; rw [e1]; rfl
  rw [e1, e2, errV_pos a (by decide)]
  clear e1 e2
  by_cases hn0 : n < 0
  ·
   clear h h0 hE
   go_enter Tryz.func44, Tryz.ntmps44
   go_wp2
   go_quiet (fail)
   go_wp2
   go_ret2
   exact ⟨rfl, PPost.same HH.out (below_drewN (Below.refl _ _) _)⟩
  ·
   have hn1 : 1000000 - r.time < n := by omega
   clear h h0 ht hE
   generalize htt : r.time = t at *
   clear htt
   go_enter Tryz.func44, Tryz.ntmps44
   go_wp2
   go_quiet (fail)
   go_wp2
   go_ret2
   exact ⟨rfl, PPost.same HH.out (below_drewN (Below.refl _ _) _)⟩
set_option maxRecDepth 100000 in
set_option maxHeartbeats 2000000 in
theorem rpOff_any (a : Nat → Addr) (rp bp mb : Nat) (v : Value) (r : Rm) (name : ByteArray) (off : Bool) (w : World) (h : RmAt w rp bp mb v r) (hE : Errs a w) (hs : name.size ≤ maxLen) :
  Calls Tryz.prog 36 #[.pointer (some ⟨rp, 0, none⟩), .string name, .bool off] w fun e w' => e = .returned (errV a (r.offC name off)) ∧ PPost w rp bp mb v (r.offR name off) w' := by
 obtain ⟨_, _, _, _, c4, _⟩ := rp_cells h.row
 have HO := hide (off_any a bp mb r.b name off w h.book (hE.ev _) hs)
 have HH := hide h
 unfold Rm.offC
 generalize errV a (offP r.b name off).1 = ev at *
 clear h hE
 go_enter Tryz.func36, Tryz.ntmps36
 go_wp2_with fail
 refine HO.out.mono ?_
 rintro e w1 ⟨rfl, hb, hg⟩
 have HP := hide (HH.out.bookPost hb hg)
 clear hb hg
 go_wp2
 go_ret
 exact ⟨rfl, HP.out⟩
end Go.Proofs.YtabpnjchocgakaaGreatDoor

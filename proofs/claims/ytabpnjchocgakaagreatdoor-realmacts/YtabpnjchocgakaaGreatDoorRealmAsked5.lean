/-
  What is asked of both realms: their heads; and whatever is asked.
-/
import Derived.Test.YtabpnjchocgakaaGreatDoorRealmAsked4
import Derived.Test.YtabpnjchocgakaaGreatDoorPk13
import Derived.Test.YtabpnjchocgakaaGreatDoorPk04
namespace Go.Proofs.YtabpnjchocgakaaGreatDoor
open Go.RowKit Go.Extern.Stop Go.Stop Go.Extern Go.Proofs Go.Maps Go.Shelf
abbrev fltZ : Obj := .cells #[.int .i64 0, .int .i64 0] 98 (0, 0)
set_option maxRecDepth 100000 in
set_option maxHeartbeats 8000000 in
theorem asked_head (a : Nat → Addr) (w0 : World) (rp rb : Nat) (r : Rm) (q : Aq) (last : ByteArray) (w : World) (h : Both w0 w rp rb r r) (hg : GoodR r) (hE : Env a w0) (hq : AqFine q) (hk : q.k = 8) (b0 : (q.kind.toList == [97, 100, 100]) = false) (b1 : (q.kind.toList == [111, 102, 102]) = false) (b2 : (q.kind.toList == [108, 111, 103, 105, 110]) = false) (b3 : (q.kind.toList == [114, 101, 110, 101, 119]) = false) (b4 : (q.kind.toList == [114, 101, 118, 111, 107, 101]) = false) (b5 : (q.kind.toList == [114, 101, 107, 101, 121]) = false) (b6 : (q.kind.toList == [102, 108, 117, 115, 104]) = false) (b7 : (q.kind.toList == [110, 101, 120, 116]) = false) :
  Calls Tryz.prog 10 #[.pointer (some ⟨rp, 0, none⟩), .pointer (some ⟨rb, 0, none⟩), .agg #[.string q.kind, .string q.a, .string q.b, .string q.s, .int .i64 q.n, .bool q.is], .string last] w (AskPost w0 rp rb r q last) := by
 have hBx : Below w.heap.size w (w.alloc (aqO q)) := (Below.refl _ w).alloc (Nat.le_refl _) _
 have HX : Hid ((w.alloc (aqO q)).heap[w.heap.size]? = some (aqO q)) := heap_alloc_new _ _
 have H1 := hide (h.below hBx)
 obtain ⟨hq1, hq2, hq3⟩ := hq
 have hA : r.after q last = r := by unfold Rm.after; rw [hk]; rfl
 have hG : r.gives q last = ⟨#[]⟩ := by unfold Rm.gives; rw [hk]; rfl
 have hz : headC r.key r.l r.time = (0, -1) := by
  unfold headC
  rw [if_pos hg.key, if_pos hg.floors.1, if_pos ⟨hg.time, hg.new⟩]
 have hx : headX r.key r.l r.time = txt (headT r.key r.l r.time) := by unfold headX; rw [hz]; rfl
 obtain ⟨bp, mb, v, bb, mv, lv, hh⟩ := H1.out
 have HA : Hid (Calls Tryz.prog 46 #[.pointer (some ⟨rp, 0, none⟩)] (w.alloc (aqO q)) fun e w' => e = .returned (.tuple #[.string (txt (headT r.key r.l r.time)), .nilIface]) ∧ Below (w.alloc (aqO q)).heap.size (w.alloc (aqO q)) w') :=
  (rpHead_any a rp bp mb v r _ hh.mine (hE.below hh.past) hg).mono fun e w' ⟨h1, h2⟩ => ⟨by
   rw [hz] at h1
   rcases h1 with ⟨_, h1⟩ | ⟨h1, _⟩
   ·
    exact h1
   ·
    exact absurd rfl h1, h2⟩
 have HB : Hid (∀ W, Below (w.alloc (aqO q)).heap.size (w.alloc (aqO q)) W → Calls Tryz.prog 47 #[.int .i64 r.key, lv, .int .i64 r.time] W fun e w' => e = .returned (.tuple #[.string (txt (headT r.key r.l r.time)), .agg #[.int .i64 0, .int .i64 (-1)]]) ∧ Below W.heap.size W w') := fun W hb => by
  have := refHead_any r.key lv r.l r.time W ((hh.ref.below hb).feed.enAt) hg.small (Nat.le_trans hg.few (by decide))
  rw [hx, hz] at this
  exact this
 have HC : Hid (∀ W, Below (w.alloc (aqO q)).heap.size (w.alloc (aqO q)) W → Calls Tryz.prog 48 #[.nilIface, .agg #[.int .i64 0, .int .i64 (-1)]] W fun e w' => e = .returned (.bool true) ∧ Below W.heap.size W w') := fun W hb => by
  have := faulted_fl (c := (0, -1)) ((hE.below hh.past).below hb).errs (Or.inl ⟨rfl, rfl⟩) (by decide) (fun _ => rfl)
  exact this
 have HCe : Hid (∀ W, Below (w.alloc (aqO q)).heap.size (w.alloc (aqO q)) W → W.cell? ⟨rb, 0, none⟩ = some (.int .i64 r.key) ∧ W.cell? ⟨rb, 5, none⟩ = some lv ∧ W.cell? ⟨rb, 2, none⟩ = some (.int .i64 r.time)) := fun W hb => by
  obtain ⟨c0, _, c2, _, _, c5⟩ := rm_cells (hh.ref.below hb).row
  exact ⟨c0, c5, c2⟩
 obtain ⟨ad, cap, rfl, _⟩ := hh.ref.feed.enAt.form
 unfold AskPost
 rw [hA, hG]
 clear h hg hE hq1 hq2 hq3 hk hA hG hBx hh hz hx
 generalize txt (headT r.key r.l r.time) = tx at *
 obtain ⟨kind, qa, qb, qs, qn, qi⟩ := q
 dsimp only at *
 obtain ⟨x0, x1, x2, x3, x4, x5⟩ := aq_row HX.out
 dsimp only at x0 x1 x2 x3 x4 x5
 go_enter Tryz.func10, Tryz.ntmps10
 go_wp2_with fail
 refine HA.out.mono ?_
 rintro e w2 ⟨rfl, hb⟩
 have HB2 := hide hb
 obtain ⟨c0, c5, c2⟩ := HCe.out w2 hb
 clear hb x0 x1 x2 x3 x4 x5 HA
 have HD2 : Hid (Below w2.heap.size w2 w2.drew) := (Below.refl _ _).drew
 have HDA : Hid (Below w2.heap.size w2 (w2.alloc fltZ).drew) := ((Below.refl _ w2).alloc (Nat.le_refl _) _).drew
 have HRA : Hid ((w2.alloc fltZ).drew.heap[w2.heap.size]? = some fltZ) := heap_alloc_new w2 fltZ
 have n0 := World.new_ne w2 ⟨rb, 0, none⟩ c0
 have n5 := World.new_ne w2 ⟨rb, 5, none⟩ c5
 have n2 := World.new_ne w2 ⟨rb, 2, none⟩ c2
 have HTr : Hid (∀ W, Below w2.heap.size w2 W → Below (w.alloc (aqO ⟨kind, qa, qb, qs, qn, qi⟩)).heap.size (w.alloc (aqO ⟨kind, qa, qb, qs, qn, qi⟩)) W) := fun W hb => HB2.out.trans (hb.mono HB2.out.size)
 go_upto_region 35 with fail
 go_cut [38, 39] (fun s38 s39 wc => ∃ g, s38 = .string tx ∧ s39 = .pointer (some ⟨g, 0, none⟩) ∧ Hid (wc.heap[g]? = some (.cells #[.int .i64 0, .int .i64 (-1)] 98 (0, 0))) ∧ Hid (Below w2.heap.size w2 wc))
 case first =>
  go_region_held3 (fun w' => w'.cell? ⟨rb, 0, none⟩ = some (.int .i64 r.key) ∧ w'.cell? ⟨rb, 5, none⟩ = some (.slice ad r.l.length cap) ∧ w'.cell? ⟨rb, 2, none⟩ = some (.int .i64 r.time)) (first | go_keep | assumption)
   (first
    | (go_at_call 47; refine (HB.out _ (HTr.out _ HDA.out)).mono ?_; rintro e w5 ⟨rfl, hb5⟩; have HY : Hid (Below w2.heap.size w2 w5) := HDA.out.trans (hb5.mono HDA.out.size); have HR5 : Hid (w5.heap[w2.heap.size]? = some fltZ) := (hb5.block _ (row_lt HRA.out)).trans HRA.out; have y0 : w5.cell? ⟨w2.heap.size, 0, none⟩ = some (.int .i64 0) := cell_of_row _ _ 0 _ _ _ HR5.out; have y1 : w5.cell? ⟨w2.heap.size, 1, none⟩ = some (.int .i64 0) := cell_of_row _ _ 1 _ _ _ HR5.out; have f0 := frozen_of_row w5 w2.heap.size 0 _ _ HR5.out; have f1 := frozen_of_row w5 w2.heap.size 1 _ _ HR5.out; obtain ⟨k0, k5, k2⟩ := HCe.out w5 (HTr.out _ HY.out); clear hb5)
    | (go_at_call 47; refine (HB.out _ (HTr.out _ HD2.out)).mono ?_; rintro e w5 ⟨rfl, hb5⟩; have HY : Hid (Below w2.heap.size w2 w5) := HD2.out.trans hb5; obtain ⟨k0, k5, k2⟩ := HCe.out w5 (HTr.out _ HY.out); have m0 := World.new_ne w5 ⟨rb, 0, none⟩ k0; have m5 := World.new_ne w5 ⟨rb, 5, none⟩ k5; have m2 := World.new_ne w5 ⟨rb, 2, none⟩ k2; clear hb5))
  all_goals
   go_wp2_with fail
   go_meet
   first
    | exact ⟨_, rfl, rfl, hide (heap_alloc_new _ _), hide (HY.out.alloc HY.out.size _)⟩
    | exact ⟨_, rfl, rfl, hide (heap_setCell_same _ _ 1 _ _ _ (heap_setCell_same _ _ 0 _ _ _ HR5.out)), hide ((HY.out.setCell (p := ⟨w2.heap.size, 0, none⟩) (Nat.le_refl _) _).setCell (p := ⟨w2.heap.size, 1, none⟩) (Nat.le_refl _) _)⟩
 case rest =>
  obtain ⟨g, rfl, rfl, HG, HW⟩ := hcut
  have x0 : wc.cell? ⟨g, 0, none⟩ = some (.int .i64 0) := cell_of_row _ _ 0 _ _ _ HG.out
  have x1 : wc.cell? ⟨g, 1, none⟩ = some (.int .i64 (-1)) := cell_of_row _ _ 1 _ _ _ HG.out
  clear n0 n5 n2 c0 c5 c2 HD2 HDA HRA HB
  go_wp2_with fail
  refine (HC.out _ (HTr.out _ HW.out)).mono ?_
  rintro e w6 ⟨rfl, hb⟩
  have HF := hide (H1.out.below ((HTr.out _ HW.out).trans (hb.mono (HTr.out _ HW.out).size)))
  clear hb
  go_wp2
  go_ret2
  exact ⟨rfl, HF.out⟩
theorem ask_kind (q : Aq) :
  (q.k = 0 ∧ (q.kind.toList == [97, 100, 100]) = true) ∨
  (q.k = 1 ∧ (q.kind.toList == [97, 100, 100]) = false ∧ (q.kind.toList == [111, 102, 102]) = true) ∨
  (q.k = 2 ∧ (q.kind.toList == [97, 100, 100]) = false ∧ (q.kind.toList == [111, 102, 102]) = false ∧ (q.kind.toList == [108, 111, 103, 105, 110]) = true) ∨
  (q.k = 3 ∧ (q.kind.toList == [97, 100, 100]) = false ∧ (q.kind.toList == [111, 102, 102]) = false ∧ (q.kind.toList == [108, 111, 103, 105, 110]) = false ∧ (q.kind.toList == [114, 101, 110, 101, 119]) = true) ∨
  (q.k = 4 ∧ (q.kind.toList == [97, 100, 100]) = false ∧ (q.kind.toList == [111, 102, 102]) = false ∧ (q.kind.toList == [108, 111, 103, 105, 110]) = false ∧ (q.kind.toList == [114, 101, 110, 101, 119]) = false ∧ (q.kind.toList == [114, 101, 118, 111, 107, 101]) = true) ∨
  (q.k = 5 ∧ (q.kind.toList == [97, 100, 100]) = false ∧ (q.kind.toList == [111, 102, 102]) = false ∧ (q.kind.toList == [108, 111, 103, 105, 110]) = false ∧ (q.kind.toList == [114, 101, 110, 101, 119]) = false ∧ (q.kind.toList == [114, 101, 118, 111, 107, 101]) = false ∧ (q.kind.toList == [114, 101, 107, 101, 121]) = true) ∨
  (q.k = 6 ∧ (q.kind.toList == [97, 100, 100]) = false ∧ (q.kind.toList == [111, 102, 102]) = false ∧ (q.kind.toList == [108, 111, 103, 105, 110]) = false ∧ (q.kind.toList == [114, 101, 110, 101, 119]) = false ∧ (q.kind.toList == [114, 101, 118, 111, 107, 101]) = false ∧ (q.kind.toList == [114, 101, 107, 101, 121]) = false ∧ (q.kind.toList == [102, 108, 117, 115, 104]) = true) ∨
  (q.k = 7 ∧ (q.kind.toList == [97, 100, 100]) = false ∧ (q.kind.toList == [111, 102, 102]) = false ∧ (q.kind.toList == [108, 111, 103, 105, 110]) = false ∧ (q.kind.toList == [114, 101, 110, 101, 119]) = false ∧ (q.kind.toList == [114, 101, 118, 111, 107, 101]) = false ∧ (q.kind.toList == [114, 101, 107, 101, 121]) = false ∧ (q.kind.toList == [102, 108, 117, 115, 104]) = false ∧ (q.kind.toList == [110, 101, 120, 116]) = true) ∨
  (q.k = 8 ∧ (q.kind.toList == [97, 100, 100]) = false ∧ (q.kind.toList == [111, 102, 102]) = false ∧ (q.kind.toList == [108, 111, 103, 105, 110]) = false ∧ (q.kind.toList == [114, 101, 110, 101, 119]) = false ∧ (q.kind.toList == [114, 101, 118, 111, 107, 101]) = false ∧ (q.kind.toList == [114, 101, 107, 101, 121]) = false ∧ (q.kind.toList == [102, 108, 117, 115, 104]) = false ∧ (q.kind.toList == [110, 101, 120, 116]) = false) := by
 unfold Aq.k
 rw [Lib.toList_data]
 by_cases h0 : q.kind.data.toList = [97, 100, 100]
 ·
  simp [h0]
 rw [if_neg h0]
 by_cases h1 : q.kind.data.toList = [111, 102, 102]
 ·
  simp [h1]
 rw [if_neg h1]
 by_cases h2 : q.kind.data.toList = [108, 111, 103, 105, 110]
 ·
  simp [h2]
 rw [if_neg h2]
 by_cases h3 : q.kind.data.toList = [114, 101, 110, 101, 119]
 ·
  simp [h3]
 rw [if_neg h3]
 by_cases h4 : q.kind.data.toList = [114, 101, 118, 111, 107, 101]
 ·
  simp [h4]
 rw [if_neg h4]
 by_cases h5 : q.kind.data.toList = [114, 101, 107, 101, 121]
 ·
  simp [h5]
 rw [if_neg h5]
 by_cases h6 : q.kind.data.toList = [102, 108, 117, 115, 104]
 ·
  simp [h6]
 rw [if_neg h6]
 by_cases h7 : q.kind.data.toList = [110, 101, 120, 116]
 ·
  simp [h7]
 rw [if_neg h7]
 simp [h0, h1, h2, h3, h4, h5, h6, h7]
theorem asked_any (a : Nat → Addr) (w0 : World) (rp rb : Nat) (r : Rm) (q : Aq) (last : ByteArray) (w : World) (h : Both w0 w rp rb r r) (hg : GoodR r) (hE : Env a w0) (hq : AqFine q) (hl : last.size ≤ maxLen) :
  Calls Tryz.prog 10 #[.pointer (some ⟨rp, 0, none⟩), .pointer (some ⟨rb, 0, none⟩), .agg #[.string q.kind, .string q.a, .string q.b, .string q.s, .int .i64 q.n, .bool q.is], .string last] w (AskPost w0 rp rb r q last) := by
 rcases ask_kind q with ⟨k, b0⟩ | ⟨k, b0, b1⟩ | ⟨k, b0, b1, b2⟩ | ⟨k, b0, b1, b2, b3⟩ | ⟨k, b0, b1, b2, b3, b4⟩ | ⟨k, b0, b1, b2, b3, b4, b5⟩ | ⟨k, b0, b1, b2, b3, b4, b5, b6⟩ | ⟨k, b0, b1, b2, b3, b4, b5, b6, b7⟩ | ⟨k, b0, b1, b2, b3, b4, b5, b6, b7⟩
 ·
  exact asked_add a w0 rp rb r q last w h hg hE hq k b0
 ·
  exact asked_off a w0 rp rb r q last w h hg hE hq k b0 b1
 ·
  exact asked_login a w0 rp rb r q last w h hg hE hq k b0 b1 b2
 ·
  exact asked_renew a w0 rp rb r q last w h hg hE hq hl k b0 b1 b2 b3
 ·
  exact asked_revoke a w0 rp rb r q last w h hg hE hq k b0 b1 b2 b3 b4
 ·
  exact asked_rekey a w0 rp rb r q last w h hg hE hq k b0 b1 b2 b3 b4 b5
 ·
  exact asked_flush a w0 rp rb r q last w h hg hE hq k b0 b1 b2 b3 b4 b5 b6
 ·
  exact asked_next a w0 rp rb r q last w h hg hE hq k b0 b1 b2 b3 b4 b5 b6 b7
 ·
  exact asked_head a w0 rp rb r q last w h hg hE hq k b0 b1 b2 b3 b4 b5 b6 b7
end Go.Proofs.YtabpnjchocgakaaGreatDoor

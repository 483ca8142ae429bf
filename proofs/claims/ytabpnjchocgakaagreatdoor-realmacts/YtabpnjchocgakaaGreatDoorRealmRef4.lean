/-
  What the document's answer's Revoke and Rekey of a realm give, and what they leave.
-/
import Derived.Test.YtabpnjchocgakaaGreatDoorRealmRef3
namespace Go.Proofs.YtabpnjchocgakaaGreatDoor
open Go.RowKit Go.Extern.Stop Go.Stop Go.Extern Go.Proofs Go.Maps
theorem Kept.new {S : Nat → Prop} {w w1 w2 : World} (h : Below w.heap.size w w1) (k : Kept S w1 w2) (hs : ∀ j, S j → w.heap.size ≤ j) : Below w.heap.size w w2 :=
 ⟨k.os.trans h.os, k.tape.trans h.tape, k.output.trans h.output, Nat.le_trans h.size k.size, fun j hj => (k.block j (Nat.lt_of_lt_of_le hj h.size) fun e => by have := hs j e; omega).trans (h.block j hj)⟩
theorem EntPost.from {B : Nat} {w w1 w2 : World} {rb : Nat} {r : Rm} (h : EntPost B w1 rb r w2) (hb : Below w.heap.size w w1) (hlt : rb < w.heap.size) : EntPost B w rb r w2 := by
 obtain ⟨bb, v, lv, h1, h2, h3⟩ := h
 refine ⟨bb, v, lv, h1, (Kept.of_below _ hb).trans h2, h3.imp (fun e => ?_) fun e g hg => Nat.le_trans hb.size (e g hg)⟩
 rw [← e]
 exact (hb.cell (p := ⟨rb, 5, none⟩) hlt).symm
theorem EntPost.same {B : Nat} {w w' : World} {rb bb : Nat} {v lv : Value} {r : Rm} (h : RefRm B w rb bb v lv r) (hb : Below w.heap.size w w') : EntPost B w rb r w' := ⟨bb, v, lv, h.below hb, Kept.of_below _ hb, h.held⟩
theorem copy_acted {w w1 w2 : World} {b2 : Nat} {v2 : Value} {L L2 : List Per} (hb : Below w.heap.size w w1) (h2 : w.heap.size ≤ b2) (hB : RefBookB w.heap.size w1 b2 v2 L) (hp : RefPostB w.heap.size w1 b2 v2 L2 w2) : ∃ v3, RefBookB w.heap.size w2 b2 v3 L2 ∧ (L2 = [] → v3 = .slice none 0 0) ∧ Below w.heap.size w w2 := by
 obtain ⟨v3, hB3, hn3, hk, _⟩ := hp
 refine ⟨v3, hB3, hn3, Kept.new hb hk fun j hj => ?_⟩
 rcases hj with rfl | e
 ·
  exact h2
 ·
  exact (hB.2.lt j e).1
theorem RefBookB.less {B B' : Nat} {w : World} {bb : Nat} {v : Value} {L : List Per} (h : RefBookB B w bb v L) (hb : B' ≤ B) : RefBookB B' w bb v L := ⟨h.1, own_mono h.2 hb⟩
set_option maxRecDepth 100000 in
set_option maxHeartbeats 4000000 in
theorem refRevoke_any {B : Nat} (rb bb : Nat) (v lv : Value) (r : Rm) (name : ByteArray) (w : World) (h : RefRm B w rb bb v lv r) (hg : GoodR r) (hs : name.size ≤ maxLen) :
  Calls Tryz.prog 40 #[.pointer (some ⟨rb, 0, none⟩), .string name] w fun e w' => e = .returned (.tuple #[.int .i64 (numC (r.revC name) (raiseP r.b name).1), .int .i64 (r.revC name : Int)]) ∧ EntPost B w rb (r.revR name) w' := by
 obtain ⟨_, _, _, _, c4, _⟩ := rm_cells h.row
 have HH := hide h
 have HC := hide (refCopyB_any bb v r.b w h.book h.nil (Nat.le_trans hg.book.few (by decide)))
 have HR := hide (fun b2 v2 w1 (hB : RefBookB w.heap.size w1 b2 v2 r.b) hn => refRaise_p b2 v2 r.b name w1 hB hn hg.book)
 have HE := hide (fun b2 v2 (w2 : World) (hb : Below w.heap.size w w2) (hB : RefBookB B w2 b2 v2 (raiseP r.b name).2.2) hv hb2 => refEnter_any rb bb b2 v lv v2 r (raiseP r.b name).2.2 name (raiseP r.b name).1 w2 (h.below hb) hB hv hb2 hg hs)
 have HBs : Hid (B ≤ w.heap.size) := h.base
 have HVC : Hid (r.revC name = if (raiseP r.b name).2.1 = 0 then r.entC name (raiseP r.b name).1 else (raiseP r.b name).2.1) := rfl
 have HVR : Hid (r.revR name = if (raiseP r.b name).2.1 = 0 then r.entR (raiseP r.b name).2.2 name (raiseP r.b name).1 else r) := rfl
 clear h hg hs
 generalize r.entR (raiseP r.b name).2.2 name (raiseP r.b name).1 = r3 at *
 generalize r.entC name (raiseP r.b name).1 = ec at *
 generalize r.revC name = rc at *
 generalize r.revR name = r2 at *
 generalize (raiseP r.b name).2.2 = L2 at *
 generalize (raiseP r.b name).2.1 = c at *
 generalize (raiseP r.b name).1 = n at *
 go_enter Tryz.func40, Tryz.ntmps40
 go_wp2_with fail
 refine HC.out.mono ?_
 rintro e w1 ⟨b2, v2, rfl, hb2, hB, hn, hb⟩
 have HB1 := hide hB
 have HN1 := hide hn
 have HW1 := hide hb
 have Hb2 := hide hb2
 clear hB hn hb hb2 HC
 go_wp2_with fail
 refine (HR.out _ _ _ HB1.out HN1.out).mono ?_
 rintro e w2 ⟨rfl, hp⟩
 obtain ⟨v3, hB3, hn3, hbw⟩ := copy_acted HW1.out Hb2.out HB1.out hp
 have HB3 := hide hB3
 have HN3 := hide hn3
 have HW3 := hide hbw
 clear hp hB3 hn3 hbw HB1 HN1 HW1
 by_cases h0 : c = 0
 ·
  subst h0
  rw [if_pos rfl] at HVC HVR
  go_wp2_with fail
  refine (HE.out _ _ _ HW3.out (HB3.out.less HBs.out) HN3.out (Nat.le_trans HBs.out Hb2.out)).mono ?_
  rintro e w4 ⟨rfl, hq⟩
  have HQ := hide (hq.from HW3.out (row_lt HH.out.row))
  clear hq
  go_wp2
  go_ret2
  exact ⟨by rw [HVC.out]; rfl, by rw [HVR.out]; exact HQ.out⟩
 ·
  rw [if_neg h0] at HVC HVR
  have hz : (0 : Int) < (c : Int) := by omega
  have HRes : Hid (numC rc n = 0) := by show _ = _; unfold numC; rw [HVC.out, if_neg h0]
  clear h0
  go_wp2
  go_ret2
  exact ⟨by rw [HRes.out, HVC.out]; rfl, by rw [HVR.out]; exact EntPost.same HH.out HW3.out⟩
theorem Kept.cell {S : Nat → Prop} {w w' : World} (h : Kept S w w') {b : Nat} (hb : b < w.heap.size) (hs : ¬ S b) (o : Nat) : w'.cell? ⟨b, o, none⟩ = w.cell? ⟨b, o, none⟩ := by
 unfold World.cell?
 rw [h.block b hb hs]
theorem book_epoch {B : Nat} {w : World} {bb : Nat} {v : Value} {L : List Per} {name : ByteArray} {p : Per} (h : RefBookB B w bb v L) (hp : getP L name = some p) :
  ∃ (g cap : Nat) (k : Nat), v = .slice (some ⟨g, 0, none⟩) L.length cap ∧ L.length ≤ cap ∧ B ≤ g ∧ g < w.heap.size ∧ k < L.length ∧ findP L name = k ∧ w.cell? ⟨bb, 0, none⟩ = some v ∧ w.cell? ⟨g, k * 4 + 2, none⟩ = some (.int .i64 p.epoch) := by
 obtain ⟨k, hk, rfl, hf⟩ := find_of_some hp
 obtain ⟨g, cap, rfl, hc, hb, hcl⟩ := owned_at h.2 (fun e => by subst e; cases hk)
 exact ⟨g, cap, k, rfl, hc, hb, (h.2.lt g rfl).2, hk, hf, cell_of_row w bb 0 _ _ _ h.1, (hcl k hk).2.2.1⟩
set_option maxRecDepth 100000 in
set_option maxHeartbeats 4000000 in
theorem refKeyR_any {B : Nat} (rb bb : Nat) (v lv : Value) (r : Rm) (name : ByteArray) (key : Int) (w : World) (h : RefRm B w rb bb v lv r) (hg : GoodR r) (hs : name.size ≤ maxLen) :
  Calls Tryz.prog 42 #[.pointer (some ⟨rb, 0, none⟩), .string name, .int .i64 key] w fun e w' => e = .returned (.tuple #[.int .i64 (numC (r.keyC name key) (r.keyN name key)), .int .i64 (r.keyC name key : Int)]) ∧ EntPost B w rb (r.keyR name key) w' := by
 obtain ⟨_, _, _, _, c4, _⟩ := rm_cells h.row
 have HH := hide h
 have HRb : Hid (rb < w.heap.size) := row_lt h.row
 have HC := hide (refCopyB_any bb v r.b w h.book h.nil (Nat.le_trans hg.book.few (by decide)))
 have HR := hide (fun b2 v2 w1 (hB : RefBookB w.heap.size w1 b2 v2 r.b) hn => refRekey_p b2 v2 r.b name key w1 hB hn hg.book)
 have HE := hide (fun b2 v2 (w2 : World) (hb : Below w.heap.size w w2) (hB : RefBookB B w2 b2 v2 (rekeyP r.b name key).2) hv hb2 => refEnter_any rb bb b2 v lv v2 r (rekeyP r.b name key).2 name (r.keyN name key) w2 (h.below hb) hB hv hb2 hg hs)
 have HBs : Hid (B ≤ w.heap.size) := h.base
 have HVC : Hid (r.keyC name key = if (rekeyP r.b name key).1 = 0 then r.entC name (r.keyN name key) else (rekeyP r.b name key).1) := rfl
 have HVR : Hid (r.keyR name key = if (rekeyP r.b name key).1 = 0 then r.entR (rekeyP r.b name key).2 name (r.keyN name key) else r) := rfl
 have HOne : Hid ((rekeyP r.b name key).1 = 0 → ∃ p, getP (rekeyP r.b name key).2 name = some p ∧ p.epoch = r.keyN name key) := fun h0 => by
  obtain ⟨p, hp, _⟩ := rekeyP_one hg.book h0
  exact ⟨p, hp, by unfold Rm.keyN; rw [per_of hp]⟩
 have HFi := hide (fun b2 (w2 : World) (hB : RefBook w2 b2 (rekeyP r.b name key).2) => refFind_any b2 (rekeyP r.b name key).2 name w2 hB (Nat.le_trans (rekey_acted hg.book name key).good.few (by decide)))
 clear h hg hs
 generalize r.entR (rekeyP r.b name key).2 name (r.keyN name key) = r3 at *
 generalize r.entC name (r.keyN name key) = ec at *
 generalize r.keyC name key = rc at *
 generalize r.keyR name key = r2 at *
 generalize r.keyN name key = n at *
 generalize (rekeyP r.b name key).2 = L2 at *
 generalize (rekeyP r.b name key).1 = c at *
 go_enter Tryz.func42, Tryz.ntmps42
 go_wp2_with fail
 refine HC.out.mono ?_
 rintro e w1 ⟨b2, v2, rfl, hb2, hB, hn, hb⟩
 have HB1 := hide hB
 have HN1 := hide hn
 have HW1 := hide hb
 have Hb2 := hide hb2
 clear hB hn hb hb2 HC
 go_wp2_with fail
 refine (HR.out _ _ _ HB1.out HN1.out).mono ?_
 rintro e w2 ⟨rfl, hp⟩
 obtain ⟨v3, hB3, hn3, hbw⟩ := copy_acted HW1.out Hb2.out HB1.out hp
 have HB3 := hide hB3
 have HN3 := hide hn3
 have HW3 := hide hbw
 clear hp hB3 hn3 hbw HB1 HN1 HW1
 by_cases h0 : c = 0
 ·
  subst h0
  rw [if_pos rfl] at HVC HVR
  obtain ⟨p, hp, he⟩ := HOne.out rfl
  obtain ⟨g, cap, k, rfl, hcap, hbg, hgw, hk, hf, q0, q2⟩ := book_epoch HB3.out hp
  rw [he] at q2
  have HFW : Hid (∀ W, Below w2.heap.size w2 W → Calls Tryz.prog 11 #[.pointer (some ⟨b2, 0, none⟩), .string name] W fun e w' => e = .returned (.int .i64 (k : Int)) ∧ w' = W) := fun W hb => by
   have := HFi.out b2 W (HB3.out.below hb).book
   rw [hf] at this
   exact this
  have HEW : Hid (∀ W, Below w2.heap.size w2 W → Calls Tryz.prog 91 #[.pointer (some ⟨rb, 0, none⟩), .pointer (some ⟨b2, 0, none⟩), .string name, .int .i64 n] W fun e w' => e = .returned (.tuple #[.int .i64 (numC ec n), .int .i64 (ec : Int)]) ∧ EntPost B w rb r3 w' ∧ w'.cell? ⟨b2, 0, none⟩ = some (.slice (some ⟨g, 0, none⟩) L2.length cap) ∧ w'.cell? ⟨g, k * 4 + 2, none⟩ = some (.int .i64 n)) := fun W hb => by
   have hbw : Below w.heap.size w W := HW3.out.trans (hb.mono HW3.out.size)
   refine (HE.out b2 _ W hbw ((HB3.out.below hb).less HBs.out) HN3.out (Nat.le_trans HBs.out Hb2.out)).mono fun e w' ⟨h1, h2⟩ => ⟨h1, h2.from hbw (row_lt HH.out.row), ?_⟩
   obtain ⟨_, _, _, _, hk2, _⟩ := h2
   have hb2r := HRb.out
   have hb2w := Hb2.out
   have hW := hb.size
   have hb2l := row_lt HB3.out.1
   refine ⟨(hk2.cell (by omega) (by omega) 0).trans ((hb.cell (p := ⟨b2, 0, none⟩) hb2l).trans q0), (hk2.cell (by omega) (by omega) _).trans ((hb.cell (p := ⟨g, k * 4 + 2, none⟩) hgw).trans q2)⟩
  have HD0 : Hid (Below w2.heap.size w2 w2) := Below.refl _ _
  have HD1 : Hid (Below w2.heap.size w2 w2.drew) := (Below.refl _ _).drew
  clear hp he hbg hgw hf HFi HE HB3 HN3 HOne HR
  generalize L2.length = m at *
  go_upto_region 5 with fail
  go_region_held3 (fun w' => w'.cell? ⟨b2, 0, none⟩ = some (.slice (some ⟨g, 0, none⟩) m cap) ∧ w'.cell? ⟨g, k * 4 + 2, none⟩ = some (.int .i64 n)) (first | go_keep | assumption)
   (first
    | (go_at_call 11; refine (HFW.out _ HD1.out).mono ?_; rintro e w5 ⟨rfl, rfl⟩)
    | (go_at_call 11; refine (HFW.out _ HD0.out).mono ?_; rintro e w5 ⟨rfl, rfl⟩)
    | (go_at_call 91; refine (HEW.out _ HD1.out).mono ?_; rintro e w6 ⟨rfl, hq, j0, j2⟩; have HQ := hide hq; clear hq HEW)
    | (go_at_call 91; refine (HEW.out _ HD0.out).mono ?_; rintro e w6 ⟨rfl, hq, j0, j2⟩; have HQ := hide hq; clear hq HEW))
  go_wp2
  go_ret2
  exact ⟨by rw [HVC.out]; rfl, by rw [HVR.out]; exact HQ.out⟩
 ·
  rw [if_neg h0] at HVC HVR
  have hz : (0 : Int) < (c : Int) := by omega
  have HRes : Hid (numC rc n = 0) := by show _ = _; unfold numC; rw [HVC.out, if_neg h0]
  clear h0 HOne
  go_wp2
  go_ret2
  exact ⟨by rw [HRes.out, HVC.out]; rfl, by rw [HVR.out]; exact EntPost.same HH.out HW3.out⟩
end Go.Proofs.YtabpnjchocgakaaGreatDoor

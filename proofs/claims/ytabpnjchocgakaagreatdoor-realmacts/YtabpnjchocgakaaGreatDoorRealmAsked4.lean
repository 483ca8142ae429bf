/-
  What is asked of both realms: that somebody be off or not.
-/
import Derived.Test.YtabpnjchocgakaaGreatDoorRealmAsked3
namespace Go.Proofs.YtabpnjchocgakaaGreatDoor
open Go.RowKit Go.Extern.Stop Go.Stop Go.Extern Go.Proofs Go.Maps Go.Shelf
def BothB (w0 w : World) (rp rb bb : Nat) (r m : Rm) : Prop := ∃ bp mb v mv lv, Two w0 w rp bp mb v rb bb mv lv r m
theorem BothB.both {w0 w : World} {rp rb bb : Nat} {r m : Rm} (h : BothB w0 w rp rb bb r m) : Both w0 w rp rb r m := by
 obtain ⟨bp, mb, v, mv, lv, h⟩ := h
 exact ⟨bp, mb, v, bb, mv, lv, h⟩
theorem BothB.cell {w0 w : World} {rp rb bb : Nat} {r m : Rm} (h : BothB w0 w rp rb bb r m) : w.cell? ⟨rb, 4, none⟩ = some (.pointer (some ⟨bb, 0, none⟩)) := by
 obtain ⟨bp, mb, v, mv, lv, h⟩ := h
 exact (rm_cells h.ref.row).2.2.2.2.1
theorem BothB.below {w0 w w' : World} {rp rb bb : Nat} {r m : Rm} (h : BothB w0 w rp rb bb r m) (hb : Below w.heap.size w w') : BothB w0 w' rp rb bb r m := by
 obtain ⟨bp, mb, v, mv, lv, h⟩ := h
 exact ⟨bp, mb, v, mv, lv, h.past.trans (hb.mono h.past.size), h.mine.below hb, h.ref.below hb, h.apart, h.old⟩
theorem BothB.actK {w0 w : World} {rp rb bb : Nat} {r r' m : Rm} {f : Nat} {args : Array Value} {E : Ending → World → Prop} (h : BothB w0 w rp rb bb r m)
  (hc : ∀ bp mb v, RmAt w rp bp mb v r → Calls Tryz.prog f args w fun e w' => E e w' ∧ PPost w rp bp mb v r' w') : Calls Tryz.prog f args w fun e w' => E e w' ∧ BothB w0 w' rp rb bb r' m ∧ KeepT w w' := by
 obtain ⟨bp, mb, v, mv, lv, h⟩ := h
 refine (hc bp mb v h.mine).mono fun e w' ⟨h1, h2⟩ => ⟨h1, ?_, PPost.keepT h.mine h2⟩
 obtain ⟨bp', mb', v', g1, g2, g3⟩ := h2
 have hS : ∀ k, (k = rp ∨ k = mb) → Mine rp bp mb v k := fun k hk => hk.imp id fun e => Or.inr (Or.inl e)
 refine ⟨bp', mb', v', mv, lv, below_keptR h.past g2 (fun k hk => h.old k (hS k hk)), g1, h.ref.stays (S := fun k => k = rp ∨ k = mb) g2.block (fun k hk => Or.inl (h.else (hS k hk))), fun k hk => ?_, fun k hk => ?_⟩
 ·
  rcases g3 k hk with g | g
  ·
   exact h.apart k g
  ·
   have h4 := row_lt h.ref.row
   refine ⟨by omega, fun e => ?_⟩
   have := (h.ref.feed.lt k e).2
   omega
 ·
  rcases g3 k hk with g | g
  ·
   exact h.old k g
  ·
   exact Nat.le_trans h.past.size g
theorem BothB.offK {w0 w : World} {rp rb bb : Nat} {r m : Rm} (h : BothB w0 w rp rb bb r m) (hg : GoodR m) (name : ByteArray) (off : Bool) :
  Calls Tryz.prog 37 #[.pointer (some ⟨bb, 0, none⟩), .string name, .bool off] w fun e w' => e = .returned (.int .i64 (m.offC name off : Int)) ∧ BothB w0 w' rp rb bb r (m.offR name off) ∧ KeepT w w' := by
 obtain ⟨bp, mb, v, mv, lv, h⟩ := h
 refine (refOff_any bb mv m.b name off w h.ref.book (Nat.le_trans hg.book.few (by decide))).mono fun e w' ⟨h1, h2, h3⟩ => ?_
 have hr : RefRm w0.heap.size w' rb bb mv lv (m.offR name off) := h.ref.booked h2 (fun e => h.ref.nil ?_) (h3.mono fun k hk => Or.inr hk)
 ·
  have hp : RmPost w0.heap.size w rb bb mv (m.offR name off) w' := ⟨bb, mv, lv, hr, h3.mono fun k hk => Or.inr (Or.inr hk), h.ref.held⟩
  refine ⟨h1, ⟨bp, mb, v, mv, lv, below_keptR h.past h3 (fun k hk => (h.ref.book.2.lt k hk).1), h.mine.same fun k hk => h3.block k (h.mine.lt hk) (fun e => ?_), hr, h.apart, h.old⟩, RmPost.keepT h.ref hp⟩
  exact h.ref.own_not (Or.inr (Or.inr (Or.inl e))) (h.else hk)
 ·
  have hl : (offP m.b name off).2.length = m.b.length := by
   unfold offP
   (repeat' split) <;> simp
  rw [e] at hl
  exact List.eq_nil_of_length_eq_zero hl.symm
set_option maxRecDepth 100000 in
set_option maxHeartbeats 8000000 in
theorem asked_off (a : Nat → Addr) (w0 : World) (rp rb : Nat) (r : Rm) (q : Aq) (last : ByteArray) (w : World) (h : Both w0 w rp rb r r) (hg : GoodR r) (hE : Env a w0) (hq : AqFine q) (hk : q.k = 1) (b0 : (q.kind.toList == [97, 100, 100]) = false) (b1 : (q.kind.toList == [111, 102, 102]) = true) :
  Calls Tryz.prog 10 #[.pointer (some ⟨rp, 0, none⟩), .pointer (some ⟨rb, 0, none⟩), .agg #[.string q.kind, .string q.a, .string q.b, .string q.s, .int .i64 q.n, .bool q.is], .string last] w (AskPost w0 rp rb r q last) := by
 have hBx : Below w.heap.size w (w.alloc (aqO q)) := (Below.refl _ w).alloc (Nat.le_refl _) _
 have HX : Hid ((w.alloc (aqO q)).heap[w.heap.size]? = some (aqO q)) := heap_alloc_new _ _
 have H1 := hide (h.below hBx)
 obtain ⟨hq1, hq2, hq3⟩ := hq
 have hA : r.after q last = r.offR q.a q.is := by unfold Rm.after; rw [hk]; rfl
 have hG : r.gives q last = ⟨#[]⟩ := by unfold Rm.gives; rw [hk]; rfl
 obtain ⟨bp0, mb0, v0, bb, mv0, lv0, hTwo⟩ := H1.out
 have H1b : Hid (BothB w0 (w.alloc (aqO q)).drew rp rb bb r r) := BothB.below ⟨bp0, mb0, v0, mv0, lv0, hTwo⟩ (Below.refl _ _).drew
 have c4 : (w.alloc (aqO q)).cell? ⟨rb, 4, none⟩ = some (.pointer (some ⟨bb, 0, none⟩)) := (rm_cells hTwo.ref.row).2.2.2.2.1
 have HA : Hid (∀ W m, BothB w0 W rp rb bb r m → Calls Tryz.prog 36 #[.pointer (some ⟨rp, 0, none⟩), .string q.a, .bool q.is] W fun e w' => e = .returned (errV a (r.offC q.a q.is)) ∧ BothB w0 w' rp rb bb (r.offR q.a q.is) m ∧ KeepT W w') := fun W m hW => hW.actK fun bp mb v hm => rpOff_any a rp bp mb v r q.a q.is W hm (hE.below hW.both.past).errs hq1
 have HB : Hid (∀ W r1, BothB w0 W rp rb bb r1 r → Calls Tryz.prog 37 #[.pointer (some ⟨bb, 0, none⟩), .string q.a, .bool q.is] W fun e w' => e = .returned (.int .i64 (r.offC q.a q.is : Int)) ∧ BothB w0 w' rp rb bb r1 (r.offR q.a q.is) ∧ KeepT W w') := fun W r1 hW => hW.offK hg q.a q.is
 have HC : Hid (∀ W r1 m1, BothB w0 W rp rb bb r1 m1 → Calls Tryz.prog 21 #[errV a (r.offC q.a q.is), .int .i64 (r.offC q.a q.is : Int)] W fun e w' => e = .returned (.bool true) ∧ Below W.heap.size W w') := fun W r1 m1 hW => coded_evp a _ (poff_le _ _ _) _ W (evp_V a _ W) (hE.below hW.both.past).errs
 unfold AskPost
 rw [hA, hG]
 clear h hg hE hq1 hq2 hq3 hk hA hG hBx hTwo
 generalize r.offR q.a q.is = r' at *
 generalize errV a (r.offC q.a q.is) = ev at *
 generalize r.offC q.a q.is = c at *
 obtain ⟨kind, qa, qb, qs, qn, qi⟩ := q
 dsimp only at *
 obtain ⟨x0, x1, x2, x3, x4, x5⟩ := aq_row HX.out
 dsimp only at x0 x1 x2 x3 x4 x5
 have HXd : Hid ((w.alloc (aqO ⟨kind, qa, qb, qs, qn, qi⟩)).drew.heap[w.heap.size]? = some (aqO ⟨kind, qa, qb, qs, qn, qi⟩)) := HX.out
 go_enter Tryz.func10, Tryz.ntmps10
 go_upto_region 5 with fail
 go_region_held3 (fun w' => w'.cell? ⟨w.heap.size, 1, none⟩ = some (.string qa) ∧ w'.cell? ⟨w.heap.size, 5, none⟩ = some (.bool qi) ∧ w'.cell? ⟨rb, 4, none⟩ = some (.pointer (some ⟨bb, 0, none⟩))) (first | go_keep | assumption)
  (first
   | (go_at_call 36; refine (HA.out _ _ H1b.out).mono ?_; rintro e w2 ⟨rfl, hBo, hKp⟩; have H2 := hide hBo; have HX2 := hide (hKp _ _ _ aq_free HXd.out); have j1 := (aq_row (q := ⟨kind, qa, qb, qs, qn, qi⟩) HX2.out).2.1; have j5 := (aq_row (q := ⟨kind, qa, qb, qs, qn, qi⟩) HX2.out).2.2.2.2.2; have j6 := H2.out.cell; dsimp only at j1 j5; clear hBo hKp)
   | (go_at_call 37; refine (HB.out _ _ H2.out).mono ?_; rintro e w3 ⟨rfl, hBo, hKp⟩; have H3 := hide hBo; have HX3 := hide (hKp _ _ _ aq_free HX2.out); have k1 := (aq_row (q := ⟨kind, qa, qb, qs, qn, qi⟩) HX3.out).2.1; have k5 := (aq_row (q := ⟨kind, qa, qb, qs, qn, qi⟩) HX3.out).2.2.2.2.2; have k6 := H3.out.cell; dsimp only at k1 k5; clear hBo hKp)
   | (go_at_call 37; refine (HB.out _ _ H1b.out).mono ?_; rintro e w2 ⟨rfl, hBo, hKp⟩; have H2 := hide hBo; have HX2 := hide (hKp _ _ _ aq_free HXd.out); have j1 := (aq_row (q := ⟨kind, qa, qb, qs, qn, qi⟩) HX2.out).2.1; have j5 := (aq_row (q := ⟨kind, qa, qb, qs, qn, qi⟩) HX2.out).2.2.2.2.2; have j6 := H2.out.cell; dsimp only at j1 j5; clear hBo hKp)
   | (go_at_call 36; refine (HA.out _ _ H2.out).mono ?_; rintro e w3 ⟨rfl, hBo, hKp⟩; have H3 := hide hBo; have HX3 := hide (hKp _ _ _ aq_free HX2.out); have k1 := (aq_row (q := ⟨kind, qa, qb, qs, qn, qi⟩) HX3.out).2.1; have k5 := (aq_row (q := ⟨kind, qa, qb, qs, qn, qi⟩) HX3.out).2.2.2.2.2; have k6 := H3.out.cell; dsimp only at k1 k5; clear hBo hKp)
   | (go_at_call 21; refine (HC.out _ _ _ H3.out).mono ?_; rintro e w4 ⟨rfl, hb⟩; have H4 := hide (H3.out.below hb); have HX4 := hide ((hb.block _ (row_lt HX3.out)).trans HX3.out); have l1 := (aq_row (q := ⟨kind, qa, qb, qs, qn, qi⟩) HX4.out).2.1; have l5 := (aq_row (q := ⟨kind, qa, qb, qs, qn, qi⟩) HX4.out).2.2.2.2.2; have l6 := H4.out.cell; dsimp only at l1 l5; clear hb))
 all_goals
  go_wp2
  go_ret2
  exact ⟨rfl, H4.out.both⟩
end Go.Proofs.YtabpnjchocgakaaGreatDoor

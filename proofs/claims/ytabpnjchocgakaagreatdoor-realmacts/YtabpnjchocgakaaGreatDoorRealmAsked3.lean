/-
  What is asked of both realms: that somebody be added.
-/
import Derived.Test.YtabpnjchocgakaaGreatDoorRealmAsked2
import Derived.Deep.RegionHeld3
namespace Go.Proofs.YtabpnjchocgakaaGreatDoor
open Go.RowKit Go.Extern.Stop Go.Stop Go.Extern Go.Proofs Go.Maps Go.Shelf
set_option maxRecDepth 100000 in
set_option maxHeartbeats 8000000 in
theorem asked_add (a : Nat → Addr) (w0 : World) (rp rb : Nat) (r : Rm) (q : Aq) (last : ByteArray) (w : World) (h : Both w0 w rp rb r r) (hg : GoodR r) (hE : Env a w0) (hq : AqFine q) (hk : q.k = 0) (b0 : (q.kind.toList == [97, 100, 100]) = true) :
  Calls Tryz.prog 10 #[.pointer (some ⟨rp, 0, none⟩), .pointer (some ⟨rb, 0, none⟩), .agg #[.string q.kind, .string q.a, .string q.b, .string q.s, .int .i64 q.n, .bool q.is], .string last] w (AskPost w0 rp rb r q last) := by
 have hBx : Below w.heap.size w (w.alloc (aqO q)) := (Below.refl _ w).alloc (Nat.le_refl _) _
 have HX : Hid ((w.alloc (aqO q)).heap[w.heap.size]? = some (aqO q)) := heap_alloc_new _ _
 have H1 := hide (h.below hBx)
 obtain ⟨hq1, hq2, hq3⟩ := hq
 have hA : r.after q last = r.addR q.a q.n := by unfold Rm.after; rw [hk]; rfl
 have hG : r.gives q last = ⟨#[]⟩ := by unfold Rm.gives; rw [hk]; rfl
 have HA : Hid (∀ W m, Both w0 W rp rb r m → Calls Tryz.prog 23 #[.pointer (some ⟨rp, 0, none⟩), .string q.a, .int .i64 q.n] W fun e w' => (∃ ev, e = .returned ev ∧ EvP a w' (r.addC q.a q.n) ev) ∧ Both w0 w' rp rb (r.addR q.a q.n) m ∧ KeepT W w') := fun W m hW => hW.actK fun bp mb v hm => rpAdd_any a rp bp mb v r q.a q.n W hm hg (hE.below hW.past).errs hq1
 have HB : Hid (∀ W r1, Both w0 W rp rb r1 r → Calls Tryz.prog 35 #[.pointer (some ⟨rb, 0, none⟩), .string q.a, .int .i64 q.n] W fun e w' => e = .returned (.int .i64 (r.addC q.a q.n : Int)) ∧ Both w0 w' rp rb r1 (r.addR q.a q.n) ∧ KeepT W w') := fun W r1 hW => hW.refK fun bb mv lv hm => refAddR_any rb bb mv lv r q.a q.n W hm hg hq1
 have HC : Hid (∀ W ev r1 m1, Both w0 W rp rb r1 m1 → EvP a W (r.addC q.a q.n) ev → Calls Tryz.prog 21 #[ev, .int .i64 (r.addC q.a q.n : Int)] W fun e w' => e = .returned (.bool true) ∧ Below W.heap.size W w') := fun W ev r1 m1 hW he => coded_evp a _ (padd_le _ _ _) ev W he (hE.below hW.past).errs
 unfold AskPost
 rw [hA, hG]
 clear h hg hE hq1 hq2 hq3 hk hA hG hBx
 generalize r.addR q.a q.n = r' at *
 generalize r.addC q.a q.n = c at *
 obtain ⟨kind, qa, qb, qs, qn, qi⟩ := q
 dsimp only at *
 obtain ⟨x0, x1, x2, x3, x4, x5⟩ := aq_row HX.out
 dsimp only at x0 x1 x2 x3 x4 x5
 have HXd : Hid ((w.alloc (aqO ⟨kind, qa, qb, qs, qn, qi⟩)).drew.heap[w.heap.size]? = some (aqO ⟨kind, qa, qb, qs, qn, qi⟩)) := HX.out
 have H1d := hide (H1.out.below (Below.refl _ _).drew)
 go_enter Tryz.func10, Tryz.ntmps10
 go_upto_region 3 with fail
 go_region_held3 (fun w' => w'.cell? ⟨w.heap.size, 1, none⟩ = some (.string qa) ∧ w'.cell? ⟨w.heap.size, 4, none⟩ = some (.int .i64 qn)) (first | go_keep | assumption)
  (first
   | (go_at_call 23; refine (HA.out _ _ H1d.out).mono ?_; rintro e w2 ⟨⟨ev, rfl, he⟩, hBo, hKp⟩; have H2 := hide hBo; have HE2 := hide he; have HX2 := hide (hKp _ _ _ aq_free HXd.out); have j1 := (aq_row (q := ⟨kind, qa, qb, qs, qn, qi⟩) HX2.out).2.1; have j4 := (aq_row (q := ⟨kind, qa, qb, qs, qn, qi⟩) HX2.out).2.2.2.2.1; dsimp only at j1 j4; clear he hBo hKp)
   | (go_at_call 35; refine (HB.out _ _ H2.out).mono ?_; rintro e w3 ⟨rfl, hBo, hKp⟩; have H3 := hide hBo; have HE3 := hide (HE2.out.keep hKp); have HX3 := hide (hKp _ _ _ aq_free HX2.out); have k1 := (aq_row (q := ⟨kind, qa, qb, qs, qn, qi⟩) HX3.out).2.1; have k4 := (aq_row (q := ⟨kind, qa, qb, qs, qn, qi⟩) HX3.out).2.2.2.2.1; dsimp only at k1 k4; clear hBo hKp)
   | (go_at_call 35; refine (HB.out _ _ H1d.out).mono ?_; rintro e w2 ⟨rfl, hBo, hKp⟩; have H2 := hide hBo; have HX2 := hide (hKp _ _ _ aq_free HXd.out); have j1 := (aq_row (q := ⟨kind, qa, qb, qs, qn, qi⟩) HX2.out).2.1; have j4 := (aq_row (q := ⟨kind, qa, qb, qs, qn, qi⟩) HX2.out).2.2.2.2.1; dsimp only at j1 j4; clear hBo hKp)
   | (go_at_call 23; refine (HA.out _ _ H2.out).mono ?_; rintro e w3 ⟨⟨ev, rfl, he⟩, hBo, hKp⟩; have H3 := hide hBo; have HE3 := hide he; have HX3 := hide (hKp _ _ _ aq_free HX2.out); have k1 := (aq_row (q := ⟨kind, qa, qb, qs, qn, qi⟩) HX3.out).2.1; have k4 := (aq_row (q := ⟨kind, qa, qb, qs, qn, qi⟩) HX3.out).2.2.2.2.1; dsimp only at k1 k4; clear he hBo hKp)
   | (go_at_call 21; refine (HC.out _ _ _ _ H3.out HE3.out).mono ?_; rintro e w4 ⟨rfl, hb⟩; have H4 := hide (H3.out.below hb); have HX4 := hide ((hb.block _ (row_lt HX3.out)).trans HX3.out); have l1 := (aq_row (q := ⟨kind, qa, qb, qs, qn, qi⟩) HX4.out).2.1; have l4 := (aq_row (q := ⟨kind, qa, qb, qs, qn, qi⟩) HX4.out).2.2.2.2.1; dsimp only at l1 l4; clear hb))
 all_goals
  go_wp2
  go_ret2
  exact ⟨rfl, H4.out⟩
end Go.Proofs.YtabpnjchocgakaaGreatDoor

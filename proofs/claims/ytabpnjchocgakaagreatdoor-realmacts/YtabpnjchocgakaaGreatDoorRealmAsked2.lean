/-
  What is asked of both realms: to log in, and to renew a ticket: both give the same.
-/
import Derived.Test.YtabpnjchocgakaaGreatDoorRealmAsked
namespace Go.Proofs.YtabpnjchocgakaaGreatDoor
open Go.RowKit Go.Extern.Stop Go.Stop Go.Extern Go.Proofs Go.Maps Go.Shelf
set_option maxRecDepth 100000 in
set_option maxHeartbeats 8000000 in
theorem asked_login (a : Nat → Addr) (w0 : World) (rp rb : Nat) (r : Rm) (q : Aq) (last : ByteArray) (w : World) (h : Both w0 w rp rb r r) (hg : GoodR r) (hE : Env a w0) (hq : AqFine q) (hk : q.k = 2) (b0 : (q.kind.toList == [97, 100, 100]) = false) (b1 : (q.kind.toList == [111, 102, 102]) = false) (b2 : (q.kind.toList == [108, 111, 103, 105, 110]) = true) :
  Calls Tryz.prog 10 #[.pointer (some ⟨rp, 0, none⟩), .pointer (some ⟨rb, 0, none⟩), .agg #[.string q.kind, .string q.a, .string q.b, .string q.s, .int .i64 q.n, .bool q.is], .string last] w (AskPost w0 rp rb r q last) := by
 have hBx : Below w.heap.size w (w.alloc (aqO q)) := (Below.refl _ w).alloc (Nat.le_refl _) _
 have HX : Hid ((w.alloc (aqO q)).heap[w.heap.size]? = some (aqO q)) := heap_alloc_new _ _
 have H1 := hide (h.below hBx)
 obtain ⟨hq1, hq2, hq3⟩ := hq
 have hA : r.after q last = r.serR (r.logC q.a (prfN r q) q.b) := by unfold Rm.after; rw [hk]; rfl
 have hG : r.gives q last = r.logS q.a (prfN r q) q.b := by unfold Rm.gives; rw [hk]; rfl
 have HPf : Hid (Calls Tryz.prog 13 #[.pointer (some ⟨rb, 0, none⟩), .agg #[.string q.kind, .string q.a, .string q.b, .string q.s, .int .i64 q.n, .bool q.is]] (w.alloc (aqO q)) fun e w' => e = .returned (.int .i64 (prfN r q)) ∧ Below (w.alloc (aqO q)).heap.size (w.alloc (aqO q)) w') := by
  obtain ⟨bp, mb, v, bb, mv, lv, hh⟩ := H1.out
  exact proof_any rb bb mv lv r q _ hh.ref hg
 have HA : Hid (∀ W, Both w0 W rp rb r r → Calls Tryz.prog 12 #[.pointer (some ⟨rp, 0, none⟩), .string q.a, .int .i64 (prfN r q), .string q.b] W fun e w' => (∃ ev, e = .returned (.tuple #[.string (r.logS q.a (prfN r q) q.b), ev]) ∧ EvP a w' (r.logC q.a (prfN r q) q.b) ev) ∧ Both w0 w' rp rb (r.serR (r.logC q.a (prfN r q) q.b)) r ∧ KeepT W w') := fun W hW => hW.actK fun bp mb v hm => (rpLogin_any a rp bp mb v r q.a (prfN r q) q.b W hm hg (hE.below hW.past) hq1 hq2).mono fun e w' ⟨h1, h2⟩ => ⟨⟨_, h1, evp_V a _ w'⟩, h2⟩
 have HB : Hid (∀ W, Both w0 W rp rb (r.serR (r.logC q.a (prfN r q) q.b)) r → Calls Tryz.prog 38 #[.pointer (some ⟨rb, 0, none⟩), .string q.a, .int .i64 (prfN r q), .string q.b] W fun e w' => e = .returned (.tuple #[.string (r.logS q.a (prfN r q) q.b), .int .i64 (r.logC q.a (prfN r q) q.b : Int)]) ∧ Both w0 w' rp rb (r.serR (r.logC q.a (prfN r q) q.b)) (r.serR (r.logC q.a (prfN r q) q.b)) ∧ KeepT W w') := fun W hW => hW.refK fun bb mv lv hm => refLogin_any rb bb mv lv r q.a (prfN r q) q.b W hm hg
 have HC : Hid (∀ W ev, Both w0 W rp rb (r.serR (r.logC q.a (prfN r q) q.b)) (r.serR (r.logC q.a (prfN r q) q.b)) → EvP a W (r.logC q.a (prfN r q) q.b) ev → Calls Tryz.prog 21 #[ev, .int .i64 (r.logC q.a (prfN r q) q.b : Int)] W fun e w' => e = .returned (.bool true) ∧ Below W.heap.size W w') := fun W ev hW he => coded_evp a _ (logC_le _ _ _ _) ev W he (hE.below hW.past).errs
 unfold AskPost
 rw [hA, hG]
 clear h hg hE hq1 hq2 hq3 hk hA hG hBx
 generalize r.serR (r.logC q.a (prfN r q) q.b) = r' at *
 generalize r.logS q.a (prfN r q) q.b = ls at *
 generalize r.logC q.a (prfN r q) q.b = c at *
 generalize prfN r q = pf at *
 obtain ⟨kind, qa, qb, qs, qn, qi⟩ := q
 dsimp only at *
 obtain ⟨x0, x1, x2, x3, x4, x5⟩ := aq_row HX.out
 dsimp only at x0 x1 x2 x3 x4 x5
 go_enter Tryz.func10, Tryz.ntmps10
 go_wp2_with fail
 refine HPf.out.mono ?_
 rintro e w1 ⟨rfl, hb⟩
 have H1b := hide (H1.out.below hb)
 have HX1 := hide ((hb.block _ (row_lt HX.out)).trans HX.out)
 clear hb x0 x1 x2 x3 x4 x5 HPf
 obtain ⟨x0, x1, x2, x3, x4, x5⟩ := aq_row HX1.out
 dsimp only at x0 x1 x2 x3 x4 x5
 go_wp2_with fail
 refine (HA.out _ H1b.out).mono ?_
 rintro e w2 ⟨⟨ev, rfl, he⟩, hBo, hKp⟩
 have H2 := hide hBo
 have HE2 := hide he
 have HX2 := hide (hKp _ _ _ aq_free HX1.out)
 clear he hBo hKp x0 x1 x2 x3 x4 x5 HA
 obtain ⟨x0, x1, x2, x3, x4, x5⟩ := aq_row HX2.out
 dsimp only at x0 x1 x2 x3 x4 x5
 go_wp2_with fail
 refine (HB.out _ H2.out).mono ?_
 rintro e w3 ⟨rfl, hBo, hKp⟩
 have H3 := hide hBo
 have HE3 := hide (HE2.out.keep hKp)
 clear hBo hKp x0 x1 x2 x3 x4 x5 HB
 go_wp2_with fail
 refine (HC.out _ _ H3.out HE3.out).mono ?_
 rintro e w4 ⟨rfl, hb⟩
 have H4 := hide (H3.out.below hb)
 clear hb
 go_wp2
 go_ret2
 exact ⟨rfl, H4.out⟩
theorem renC_le (r : Rm) (s dst : ByteArray) : r.renC s dst ≤ 16 := by
 unfold Rm.renC
 repeat' split
 all_goals first
  | decide
  | exact Tk.renewE_le _ _ _ _
  | (unfold tkOpenE; split; exact readE_le _; exact openE_le _ _)
set_option maxRecDepth 100000 in
set_option maxHeartbeats 8000000 in
theorem asked_renew (a : Nat → Addr) (w0 : World) (rp rb : Nat) (r : Rm) (q : Aq) (last : ByteArray) (w : World) (h : Both w0 w rp rb r r) (hg : GoodR r) (hE : Env a w0) (hq : AqFine q) (hl : last.size ≤ maxLen) (hk : q.k = 3) (b0 : (q.kind.toList == [97, 100, 100]) = false) (b1 : (q.kind.toList == [111, 102, 102]) = false) (b2 : (q.kind.toList == [108, 111, 103, 105, 110]) = false) (b3 : (q.kind.toList == [114, 101, 110, 101, 119]) = true) :
  Calls Tryz.prog 10 #[.pointer (some ⟨rp, 0, none⟩), .pointer (some ⟨rb, 0, none⟩), .agg #[.string q.kind, .string q.a, .string q.b, .string q.s, .int .i64 q.n, .bool q.is], .string last] w (AskPost w0 rp rb r q last) := by
 have hBx : Below w.heap.size w (w.alloc (aqO q)) := (Below.refl _ w).alloc (Nat.le_refl _) _
 have HX : Hid ((w.alloc (aqO q)).heap[w.heap.size]? = some (aqO q)) := heap_alloc_new _ _
 have H1 := hide (h.below hBx)
 obtain ⟨hq1, hq2, hq3⟩ := hq
 have hA : r.after q last = r.serR (r.renC (q.old last) q.b) := by unfold Rm.after; rw [hk]; rfl
 have hG : r.gives q last = r.renS (q.old last) q.b := by unfold Rm.gives; rw [hk]; rfl
 have hos : (q.old last).size ≤ maxLen := by unfold Aq.old; split <;> assumption
 have hcase : (q.s.data.toList = [] ∧ q.old last = last) ∨ (q.s.data.toList ≠ [] ∧ q.old last = q.s) := by
  by_cases hz : q.s.data.toList = []
  ·
   exact Or.inl ⟨hz, if_pos hz⟩
  ·
   exact Or.inr ⟨hz, if_neg hz⟩
 have HA : Hid (∀ W, Both w0 W rp rb r r → Calls Tryz.prog 20 #[.pointer (some ⟨rp, 0, none⟩), .string (q.old last), .string q.b] W fun e w' => (∃ ev, e = .returned (.tuple #[.string (r.renS (q.old last) q.b), ev]) ∧ EvP a w' (r.renC (q.old last) q.b) ev) ∧ Both w0 w' rp rb (r.serR (r.renC (q.old last) q.b)) r ∧ KeepT W w') := fun W hW => hW.actK fun bp mb v hm => (rpRenew_any a rp bp mb v r (q.old last) q.b W hm hg (hE.below hW.past) hq2).mono fun e w' ⟨h1, h2⟩ => ⟨⟨_, h1, evp_V a _ w'⟩, h2⟩
 have HB : Hid (∀ W, Both w0 W rp rb (r.serR (r.renC (q.old last) q.b)) r → Calls Tryz.prog 39 #[.pointer (some ⟨rb, 0, none⟩), .string (q.old last), .string q.b] W fun e w' => e = .returned (.tuple #[.string (r.renS (q.old last) q.b), .int .i64 (r.renC (q.old last) q.b : Int)]) ∧ Both w0 w' rp rb (r.serR (r.renC (q.old last) q.b)) (r.serR (r.renC (q.old last) q.b)) ∧ KeepT W w') := fun W hW => hW.refK fun bb mv lv hm => refRenewR_any rb bb mv lv r (q.old last) q.b W hm hg hos
 have HC : Hid (∀ W ev, Both w0 W rp rb (r.serR (r.renC (q.old last) q.b)) (r.serR (r.renC (q.old last) q.b)) → EvP a W (r.renC (q.old last) q.b) ev → Calls Tryz.prog 21 #[ev, .int .i64 (r.renC (q.old last) q.b : Int)] W fun e w' => e = .returned (.bool true) ∧ Below W.heap.size W w') := fun W ev hW he => coded_evp a _ (renC_le _ _ _) ev W he (hE.below hW.past).errs
 unfold AskPost
 rw [hA, hG]
 clear h hg hE hq1 hq2 hq3 hl hk hA hG hBx hos
 generalize r.serR (r.renC (q.old last) q.b) = r' at *
 generalize r.renS (q.old last) q.b = ls at *
 generalize r.renC (q.old last) q.b = c at *
 generalize q.old last = old at *
 obtain ⟨kind, qa, qb, qs, qn, qi⟩ := q
 dsimp only at *
 have HX1 := hide HX.out
 obtain ⟨x0, x1, x2, x3, x4, x5⟩ := aq_row HX.out
 dsimp only at x0 x1 x2 x3 x4 x5
 rcases hcase with ⟨hz, ho⟩ | ⟨hz, ho⟩
 ·
  obtain rfl : last = old := ho.symm
  have hz1 : (qs.toList == []) = true := by rw [Lib.toList_data, hz]; rfl
  clear hz
  go_enter Tryz.func10, Tryz.ntmps10
  go_wp2_with fail
  refine (HA.out _ H1.out).mono ?_
  rintro e w2 ⟨⟨ev, rfl, he⟩, hBo, hKp⟩
  have H2 := hide hBo
  have HE2 := hide he
  have HX2 := hide (hKp _ _ _ aq_free HX1.out)
  clear he hBo hKp x0 x1 x2 x3 x4 x5 HA
  obtain ⟨x0, x1, x2, x3, x4, x5⟩ := aq_row HX2.out
  dsimp only at x0 x1 x2 x3 x4 x5
  go_wp2_with fail
  refine (HB.out _ H2.out).mono ?_
  rintro e w3 ⟨rfl, hBo, hKp⟩
  have H3 := hide hBo
  have HE3 := hide (HE2.out.keep hKp)
  clear hBo hKp x0 x1 x2 x3 x4 x5 HB
  go_wp2_with fail
  refine (HC.out _ _ H3.out HE3.out).mono ?_
  rintro e w4 ⟨rfl, hb⟩
  have H4 := hide (H3.out.below hb)
  clear hb
  go_wp2
  go_ret2
  exact ⟨rfl, H4.out⟩
 ·
  obtain rfl : qs = old := ho.symm
  have hz1 : (qs.toList == []) = false := by rw [Lib.toList_data]; simpa using hz
  clear hz
  go_enter Tryz.func10, Tryz.ntmps10
  go_wp2_with fail
  refine (HA.out _ H1.out).mono ?_
  rintro e w2 ⟨⟨ev, rfl, he⟩, hBo, hKp⟩
  have H2 := hide hBo
  have HE2 := hide he
  have HX2 := hide (hKp _ _ _ aq_free HX1.out)
  clear he hBo hKp x0 x1 x2 x3 x4 x5 HA
  obtain ⟨x0, x1, x2, x3, x4, x5⟩ := aq_row HX2.out
  dsimp only at x0 x1 x2 x3 x4 x5
  go_wp2_with fail
  refine (HB.out _ H2.out).mono ?_
  rintro e w3 ⟨rfl, hBo, hKp⟩
  have H3 := hide hBo
  have HE3 := hide (HE2.out.keep hKp)
  clear hBo hKp x0 x1 x2 x3 x4 x5 HB
  go_wp2_with fail
  refine (HC.out _ _ H3.out HE3.out).mono ?_
  rintro e w4 ⟨rfl, hb⟩
  have H4 := hide (H3.out.below hb)
  clear hb
  go_wp2
  go_ret2
  exact ⟨rfl, H4.out⟩
end Go.Proofs.YtabpnjchocgakaaGreatDoor

/-
  What is asked of both realms, by the ask's kind: both answer the same, and are the same behind it.
-/
import Derived.Test.YtabpnjchocgakaaGreatDoorPk16
import Derived.Test.YtabpnjchocgakaaGreatDoorPk12
import Derived.Test.YtabpnjchocgakaaGreatDoorPk14
import Derived.Test.YtabpnjchocgakaaGreatDoorPk13
import Derived.Test.YtabpnjchocgakaaGreatDoorRealmAnew
namespace Go.Proofs.YtabpnjchocgakaaGreatDoor
open Go.RowKit Go.Extern.Stop Go.Stop Go.Extern Go.Proofs Go.Maps Go.Shelf
def AqFine (q : Aq) : Prop := q.a.size ≤ maxLen ∧ q.b.size ≤ maxLen ∧ q.s.size ≤ maxLen
def AskPost (w0 : World) (rp rb : Nat) (r : Rm) (q : Aq) (last : ByteArray) (e : Ending) (w' : World) : Prop :=
 e = .returned (.tuple #[.string (r.gives q last), .bool true]) ∧ Both w0 w' rp rb (r.after q last) (r.after q last)
theorem entC_le (r : Rm) (who : ByteArray) (n : Int) : r.entC who n ≤ 16 := addC_le _ _ _
theorem revC_le (r : Rm) (name : ByteArray) : r.revC name ≤ 16 := by
 unfold Rm.revC
 split
 ·
  exact entC_le _ _ _
 ·
  exact raise_le _ _
theorem keyC_le (r : Rm) (name : ByteArray) (key : Int) : r.keyC name key ≤ 16 := by
 unfold Rm.keyC
 split
 ·
  exact entC_le _ _ _
 ·
  exact rekey_le _ _ _
theorem fluC_le (r : Rm) : r.fluC ≤ 16 := by
 unfold Rm.fluC
 split
 ·
  decide
 ·
  exact entC_le _ _ _
theorem nexC_le (r : Rm) (n : Int) : r.nexC n ≤ 16 := by unfold Rm.nexC; split <;> decide
theorem padd_le (r : Rm) (name : ByteArray) (key : Int) : r.addC name key ≤ 16 := by
 unfold Rm.addC addP
 split
 ·
  show (newP name key).err ≤ 16
  unfold Per.err
  repeat' split
  all_goals decide
 ·
  repeat' split
  all_goals simp
theorem poff_le (r : Rm) (name : ByteArray) (off : Bool) : r.offC name off ≤ 16 := by
 unfold Rm.offC offP
 repeat' split
 all_goals simp
set_option maxRecDepth 100000 in
set_option maxHeartbeats 8000000 in
theorem asked_revoke (a : Nat → Addr) (w0 : World) (rp rb : Nat) (r : Rm) (q : Aq) (last : ByteArray) (w : World) (h : Both w0 w rp rb r r) (hg : GoodR r) (hE : Env a w0) (hq : AqFine q) (hk : q.k = 4) (b0 : (q.kind.toList == [97, 100, 100]) = false) (b1 : (q.kind.toList == [111, 102, 102]) = false) (b2 : (q.kind.toList == [108, 111, 103, 105, 110]) = false) (b3 : (q.kind.toList == [114, 101, 110, 101, 119]) = false) (b4 : (q.kind.toList == [114, 101, 118, 111, 107, 101]) = true) :
  Calls Tryz.prog 10 #[.pointer (some ⟨rp, 0, none⟩), .pointer (some ⟨rb, 0, none⟩), .agg #[.string q.kind, .string q.a, .string q.b, .string q.s, .int .i64 q.n, .bool q.is], .string last] w (AskPost w0 rp rb r q last) := by
 have hBx : Below w.heap.size w (w.alloc (aqO q)) := (Below.refl _ w).alloc (Nat.le_refl _) _
 have HX : Hid ((w.alloc (aqO q)).heap[w.heap.size]? = some (aqO q)) := heap_alloc_new _ _
 have H1 := hide (h.below hBx)
 obtain ⟨hq1, hq2, hq3⟩ := hq
 have hA : r.after q last = r.revR q.a := by unfold Rm.after; rw [hk]; rfl
 have hG : r.gives q last = ⟨#[]⟩ := by unfold Rm.gives; rw [hk]; rfl
 have HA : Hid (Calls Tryz.prog 17 #[.pointer (some ⟨rp, 0, none⟩), .string q.a] (w.alloc (aqO q)) fun e w' => (∃ ev, e = .returned (.tuple #[.int .i64 (numC (r.revC q.a) ((raiseP r.b q.a).1)), ev]) ∧ EvP a w' (r.revC q.a) ev) ∧ Both w0 w' rp rb (r.revR q.a) r ∧ KeepT (w.alloc (aqO q)) w') := H1.out.actK fun bp mb v hm => rpRevoke_any a rp bp mb v r q.a _ hm hg (hE.below H1.out.past).errs hq1
 have HB : Hid (∀ W, Both w0 W rp rb (r.revR q.a) r → Calls Tryz.prog 40 #[.pointer (some ⟨rb, 0, none⟩), .string q.a] W fun e w' => e = .returned (.tuple #[.int .i64 (numC (r.revC q.a) ((raiseP r.b q.a).1)), .int .i64 (r.revC q.a : Int)]) ∧ Both w0 w' rp rb (r.revR q.a) (r.revR q.a) ∧ KeepT W w') := fun W hW => hW.refK fun bb mv lv hm => (refRevoke_any rb bb mv lv r q.a W hm hg hq1).mono fun e w' ⟨h1, h2⟩ => ⟨h1, h2.post bb mv⟩
 have HC : Hid (∀ W ev, Both w0 W rp rb (r.revR q.a) (r.revR q.a) → EvP a W (r.revC q.a) ev → Calls Tryz.prog 21 #[ev, .int .i64 (r.revC q.a : Int)] W fun e w' => e = .returned (.bool true) ∧ Below W.heap.size W w') := fun W ev hW he => coded_evp a _ (revC_le _ _) ev W he (hE.below hW.past).errs
 unfold AskPost
 rw [hA, hG]
 clear h hg hE hq1 hq2 hq3 hk hA hG hBx
 generalize r.revR q.a = r' at *
 generalize numC (r.revC q.a) (raiseP r.b q.a).1 = nn at *
 generalize r.revC q.a = c at *
 obtain ⟨kind, qa, qb, qs, qn, qi⟩ := q
 dsimp only at *
 obtain ⟨x0, x1, x2, x3, x4, x5⟩ := aq_row HX.out
 dsimp only at x0 x1 x2 x3 x4 x5
 go_enter Tryz.func10, Tryz.ntmps10
 go_wp2_with fail
 refine HA.out.mono ?_
 rintro e w2 ⟨⟨ev, rfl, he⟩, hBo, hKp⟩
 have H2 := hide hBo
 have HE2 := hide he
 have HX2 := hide (hKp _ _ _ aq_free HX.out)
 clear he hBo hKp x0 x1 x2 x3 x4 x5 HA
 obtain ⟨x0, x1, x2, x3, x4, x5⟩ := aq_row HX2.out
 dsimp only at x0 x1 x2 x3 x4 x5
 go_wp2_with fail
 refine (HB.out _ H2.out).mono ?_
 rintro e w3 ⟨rfl, hBo, hKp⟩
 have H3 := hide hBo
 have HE3 := hide (HE2.out.keep hKp)
 clear hBo hKp x0 x1 x2 x3 x4 x5 HB
 go_wp2_with fail
 refine (HC.out _ _ H3.out HE3.out).mono ?_
 rintro e w4 ⟨rfl, hb⟩
 have H4 := hide (H3.out.below hb)
 clear hb
 go_wp2
 go_ret2
 exact ⟨rfl, H4.out⟩
set_option maxRecDepth 100000 in
set_option maxHeartbeats 8000000 in
theorem asked_rekey (a : Nat → Addr) (w0 : World) (rp rb : Nat) (r : Rm) (q : Aq) (last : ByteArray) (w : World) (h : Both w0 w rp rb r r) (hg : GoodR r) (hE : Env a w0) (hq : AqFine q) (hk : q.k = 5) (b0 : (q.kind.toList == [97, 100, 100]) = false) (b1 : (q.kind.toList == [111, 102, 102]) = false) (b2 : (q.kind.toList == [108, 111, 103, 105, 110]) = false) (b3 : (q.kind.toList == [114, 101, 110, 101, 119]) = false) (b4 : (q.kind.toList == [114, 101, 118, 111, 107, 101]) = false) (b5 : (q.kind.toList == [114, 101, 107, 101, 121]) = true) :
  Calls Tryz.prog 10 #[.pointer (some ⟨rp, 0, none⟩), .pointer (some ⟨rb, 0, none⟩), .agg #[.string q.kind, .string q.a, .string q.b, .string q.s, .int .i64 q.n, .bool q.is], .string last] w (AskPost w0 rp rb r q last) := by
 have hBx : Below w.heap.size w (w.alloc (aqO q)) := (Below.refl _ w).alloc (Nat.le_refl _) _
 have HX : Hid ((w.alloc (aqO q)).heap[w.heap.size]? = some (aqO q)) := heap_alloc_new _ _
 have H1 := hide (h.below hBx)
 obtain ⟨hq1, hq2, hq3⟩ := hq
 have hA : r.after q last = r.keyR q.a q.n := by unfold Rm.after; rw [hk]; rfl
 have hG : r.gives q last = ⟨#[]⟩ := by unfold Rm.gives; rw [hk]; rfl
 have HA : Hid (Calls Tryz.prog 41 #[.pointer (some ⟨rp, 0, none⟩), .string q.a, .int .i64 q.n] (w.alloc (aqO q)) fun e w' => (∃ ev, e = .returned (.tuple #[.int .i64 (numC (r.keyC q.a q.n) (r.keyN q.a q.n)), ev]) ∧ EvP a w' (r.keyC q.a q.n) ev) ∧ Both w0 w' rp rb (r.keyR q.a q.n) r ∧ KeepT (w.alloc (aqO q)) w') := H1.out.actK fun bp mb v hm => rpRekey_any a rp bp mb v r q.a q.n _ hm hg (hE.below H1.out.past).errs hq1
 have HB : Hid (∀ W, Both w0 W rp rb (r.keyR q.a q.n) r → Calls Tryz.prog 42 #[.pointer (some ⟨rb, 0, none⟩), .string q.a, .int .i64 q.n] W fun e w' => e = .returned (.tuple #[.int .i64 (numC (r.keyC q.a q.n) (r.keyN q.a q.n)), .int .i64 (r.keyC q.a q.n : Int)]) ∧ Both w0 w' rp rb (r.keyR q.a q.n) (r.keyR q.a q.n) ∧ KeepT W w') := fun W hW => hW.refK fun bb mv lv hm => (refKeyR_any rb bb mv lv r q.a q.n W hm hg hq1).mono fun e w' ⟨h1, h2⟩ => ⟨h1, h2.post bb mv⟩
 have HC : Hid (∀ W ev, Both w0 W rp rb (r.keyR q.a q.n) (r.keyR q.a q.n) → EvP a W (r.keyC q.a q.n) ev → Calls Tryz.prog 21 #[ev, .int .i64 (r.keyC q.a q.n : Int)] W fun e w' => e = .returned (.bool true) ∧ Below W.heap.size W w') := fun W ev hW he => coded_evp a _ (keyC_le _ _ _) ev W he (hE.below hW.past).errs
 unfold AskPost
 rw [hA, hG]
 clear h hg hE hq1 hq2 hq3 hk hA hG hBx
 generalize r.keyR q.a q.n = r' at *
 generalize numC (r.keyC q.a q.n) (r.keyN q.a q.n) = nn at *
 generalize r.keyC q.a q.n = c at *
 obtain ⟨kind, qa, qb, qs, qn, qi⟩ := q
 dsimp only at *
 obtain ⟨x0, x1, x2, x3, x4, x5⟩ := aq_row HX.out
 dsimp only at x0 x1 x2 x3 x4 x5
 go_enter Tryz.func10, Tryz.ntmps10
 go_wp2_with fail
 refine HA.out.mono ?_
 rintro e w2 ⟨⟨ev, rfl, he⟩, hBo, hKp⟩
 have H2 := hide hBo
 have HE2 := hide he
 have HX2 := hide (hKp _ _ _ aq_free HX.out)
 clear he hBo hKp x0 x1 x2 x3 x4 x5 HA
 obtain ⟨x0, x1, x2, x3, x4, x5⟩ := aq_row HX2.out
 dsimp only at x0 x1 x2 x3 x4 x5
 go_wp2_with fail
 refine (HB.out _ H2.out).mono ?_
 rintro e w3 ⟨rfl, hBo, hKp⟩
 have H3 := hide hBo
 have HE3 := hide (HE2.out.keep hKp)
 clear hBo hKp x0 x1 x2 x3 x4 x5 HB
 go_wp2_with fail
 refine (HC.out _ _ H3.out HE3.out).mono ?_
 rintro e w4 ⟨rfl, hb⟩
 have H4 := hide (H3.out.below hb)
 clear hb
 go_wp2
 go_ret2
 exact ⟨rfl, H4.out⟩
set_option maxRecDepth 100000 in
set_option maxHeartbeats 8000000 in
theorem asked_flush (a : Nat → Addr) (w0 : World) (rp rb : Nat) (r : Rm) (q : Aq) (last : ByteArray) (w : World) (h : Both w0 w rp rb r r) (hg : GoodR r) (hE : Env a w0) (hq : AqFine q) (hk : q.k = 6) (b0 : (q.kind.toList == [97, 100, 100]) = false) (b1 : (q.kind.toList == [111, 102, 102]) = false) (b2 : (q.kind.toList == [108, 111, 103, 105, 110]) = false) (b3 : (q.kind.toList == [114, 101, 110, 101, 119]) = false) (b4 : (q.kind.toList == [114, 101, 118, 111, 107, 101]) = false) (b5 : (q.kind.toList == [114, 101, 107, 101, 121]) = false) (b6 : (q.kind.toList == [102, 108, 117, 115, 104]) = true) :
  Calls Tryz.prog 10 #[.pointer (some ⟨rp, 0, none⟩), .pointer (some ⟨rb, 0, none⟩), .agg #[.string q.kind, .string q.a, .string q.b, .string q.s, .int .i64 q.n, .bool q.is], .string last] w (AskPost w0 rp rb r q last) := by
 have hBx : Below w.heap.size w (w.alloc (aqO q)) := (Below.refl _ w).alloc (Nat.le_refl _) _
 have HX : Hid ((w.alloc (aqO q)).heap[w.heap.size]? = some (aqO q)) := heap_alloc_new _ _
 have H1 := hide (h.below hBx)
 obtain ⟨hq1, hq2, hq3⟩ := hq
 have hA : r.after q last = r.fluR := by unfold Rm.after; rw [hk]; rfl
 have hG : r.gives q last = ⟨#[]⟩ := by unfold Rm.gives; rw [hk]; rfl
 have HA : Hid (Calls Tryz.prog 22 #[.pointer (some ⟨rp, 0, none⟩)] (w.alloc (aqO q)) fun e w' => (∃ ev, e = .returned (.tuple #[.int .i64 (numC (r.fluC) (topE r.b + 1)), ev]) ∧ EvP a w' (r.fluC) ev) ∧ Both w0 w' rp rb (r.fluR) r ∧ KeepT (w.alloc (aqO q)) w') := H1.out.actK fun bp mb v hm => rpFlush_any a rp bp mb v r _ hm hg (hE.below H1.out.past).errs
 have HB : Hid (∀ W, Both w0 W rp rb (r.fluR) r → Calls Tryz.prog 43 #[.pointer (some ⟨rb, 0, none⟩)] W fun e w' => e = .returned (.tuple #[.int .i64 (numC (r.fluC) (topE r.b + 1)), .int .i64 (r.fluC : Int)]) ∧ Both w0 w' rp rb (r.fluR) (r.fluR) ∧ KeepT W w') := fun W hW => hW.refK fun bb mv lv hm => (refFlush_any rb bb mv lv r W hm hg).mono fun e w' ⟨h1, h2⟩ => ⟨h1, h2.post bb mv⟩
 have HC : Hid (∀ W ev, Both w0 W rp rb (r.fluR) (r.fluR) → EvP a W (r.fluC) ev → Calls Tryz.prog 21 #[ev, .int .i64 (r.fluC : Int)] W fun e w' => e = .returned (.bool true) ∧ Below W.heap.size W w') := fun W ev hW he => coded_evp a _ (fluC_le _) ev W he (hE.below hW.past).errs
 unfold AskPost
 rw [hA, hG]
 clear h hg hE hq1 hq2 hq3 hk hA hG hBx
 generalize r.fluR = r' at *
 generalize numC r.fluC (topE r.b + 1) = nn at *
 generalize r.fluC = c at *
 obtain ⟨kind, qa, qb, qs, qn, qi⟩ := q
 dsimp only at *
 obtain ⟨x0, x1, x2, x3, x4, x5⟩ := aq_row HX.out
 dsimp only at x0 x1 x2 x3 x4 x5
 go_enter Tryz.func10, Tryz.ntmps10
 go_wp2_with fail
 refine HA.out.mono ?_
 rintro e w2 ⟨⟨ev, rfl, he⟩, hBo, hKp⟩
 have H2 := hide hBo
 have HE2 := hide he
 have HX2 := hide (hKp _ _ _ aq_free HX.out)
 clear he hBo hKp x0 x1 x2 x3 x4 x5 HA
 obtain ⟨x0, x1, x2, x3, x4, x5⟩ := aq_row HX2.out
 dsimp only at x0 x1 x2 x3 x4 x5
 go_wp2_with fail
 refine (HB.out _ H2.out).mono ?_
 rintro e w3 ⟨rfl, hBo, hKp⟩
 have H3 := hide hBo
 have HE3 := hide (HE2.out.keep hKp)
 clear hBo hKp x0 x1 x2 x3 x4 x5 HB
 go_wp2_with fail
 refine (HC.out _ _ H3.out HE3.out).mono ?_
 rintro e w4 ⟨rfl, hb⟩
 have H4 := hide (H3.out.below hb)
 clear hb
 go_wp2
 go_ret2
 exact ⟨rfl, H4.out⟩
set_option maxRecDepth 100000 in
set_option maxHeartbeats 8000000 in
theorem asked_next (a : Nat → Addr) (w0 : World) (rp rb : Nat) (r : Rm) (q : Aq) (last : ByteArray) (w : World) (h : Both w0 w rp rb r r) (hg : GoodR r) (hE : Env a w0) (hq : AqFine q) (hk : q.k = 7) (b0 : (q.kind.toList == [97, 100, 100]) = false) (b1 : (q.kind.toList == [111, 102, 102]) = false) (b2 : (q.kind.toList == [108, 111, 103, 105, 110]) = false) (b3 : (q.kind.toList == [114, 101, 110, 101, 119]) = false) (b4 : (q.kind.toList == [114, 101, 118, 111, 107, 101]) = false) (b5 : (q.kind.toList == [114, 101, 107, 101, 121]) = false) (b6 : (q.kind.toList == [102, 108, 117, 115, 104]) = false) (b7 : (q.kind.toList == [110, 101, 120, 116]) = true) :
  Calls Tryz.prog 10 #[.pointer (some ⟨rp, 0, none⟩), .pointer (some ⟨rb, 0, none⟩), .agg #[.string q.kind, .string q.a, .string q.b, .string q.s, .int .i64 q.n, .bool q.is], .string last] w (AskPost w0 rp rb r q last) := by
 have hBx : Below w.heap.size w (w.alloc (aqO q)) := (Below.refl _ w).alloc (Nat.le_refl _) _
 have HX : Hid ((w.alloc (aqO q)).heap[w.heap.size]? = some (aqO q)) := heap_alloc_new _ _
 have H1 := hide (h.below hBx)
 obtain ⟨hq1, hq2, hq3⟩ := hq
 have hA : r.after q last = r.nexR q.n := by unfold Rm.after; rw [hk]; rfl
 have hG : r.gives q last = ⟨#[]⟩ := by unfold Rm.gives; rw [hk]; rfl
 have HA : Hid (Calls Tryz.prog 44 #[.pointer (some ⟨rp, 0, none⟩), .int .i64 q.n] (w.alloc (aqO q)) fun e w' => (∃ ev, e = .returned (.tuple #[.int .i64 (numC (r.nexC q.n) (r.time + q.n)), ev]) ∧ EvP a w' (r.nexC q.n) ev) ∧ Both w0 w' rp rb (r.nexR q.n) r ∧ KeepT (w.alloc (aqO q)) w') := H1.out.actK fun bp mb v hm => (rpNext_any a rp bp mb v r q.n _ hm (hE.below H1.out.past).errs hg.time).mono fun e w' ⟨h1, h2⟩ => ⟨⟨_, h1, evp_V a _ w'⟩, h2⟩
 have HB : Hid (∀ W, Both w0 W rp rb (r.nexR q.n) r → Calls Tryz.prog 45 #[.pointer (some ⟨rb, 0, none⟩), .int .i64 q.n] W fun e w' => e = .returned (.tuple #[.int .i64 (numC (r.nexC q.n) (r.time + q.n)), .int .i64 (r.nexC q.n : Int)]) ∧ Both w0 w' rp rb (r.nexR q.n) (r.nexR q.n) ∧ KeepT W w') := fun W hW => hW.refK fun bb mv lv hm => refNext_any rb bb mv lv r q.n W hm hg.time
 have HC : Hid (∀ W ev, Both w0 W rp rb (r.nexR q.n) (r.nexR q.n) → EvP a W (r.nexC q.n) ev → Calls Tryz.prog 21 #[ev, .int .i64 (r.nexC q.n : Int)] W fun e w' => e = .returned (.bool true) ∧ Below W.heap.size W w') := fun W ev hW he => coded_evp a _ (nexC_le _ _) ev W he (hE.below hW.past).errs
 unfold AskPost
 rw [hA, hG]
 clear h hg hE hq1 hq2 hq3 hk hA hG hBx
 generalize r.nexR q.n = r' at *
 generalize numC (r.nexC q.n) (r.time + q.n) = nn at *
 generalize r.nexC q.n = c at *
 obtain ⟨kind, qa, qb, qs, qn, qi⟩ := q
 dsimp only at *
 obtain ⟨x0, x1, x2, x3, x4, x5⟩ := aq_row HX.out
 dsimp only at x0 x1 x2 x3 x4 x5
 go_enter Tryz.func10, Tryz.ntmps10
 go_wp2_with fail
 refine HA.out.mono ?_
 rintro e w2 ⟨⟨ev, rfl, he⟩, hBo, hKp⟩
 have H2 := hide hBo
 have HE2 := hide he
 have HX2 := hide (hKp _ _ _ aq_free HX.out)
 clear he hBo hKp x0 x1 x2 x3 x4 x5 HA
 obtain ⟨x0, x1, x2, x3, x4, x5⟩ := aq_row HX2.out
 dsimp only at x0 x1 x2 x3 x4 x5
 go_wp2_with fail
 refine (HB.out _ H2.out).mono ?_
 rintro e w3 ⟨rfl, hBo, hKp⟩
 have H3 := hide hBo
 have HE3 := hide (HE2.out.keep hKp)
 clear hBo hKp x0 x1 x2 x3 x4 x5 HB
 go_wp2_with fail
 refine (HC.out _ _ H3.out HE3.out).mono ?_
 rintro e w4 ⟨rfl, hb⟩
 have H4 := hide (H3.out.below hb)
 clear hb
 go_wp2
 go_ret2
 exact ⟨rfl, H4.out⟩
end Go.Proofs.YtabpnjchocgakaaGreatDoor

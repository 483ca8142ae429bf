/-
  The calls of MarkTells and of the closed fact 'marked' return true wherever the sixteen errors lie as the program lays them, for every key, text and number; nothing that was there changes.
-/
import Derived.Test.YtpohajdgoaobfaaDoorMarkRef
namespace Go.Proofs.YtpohajdgoaobfaaDoor
open Go.RowKit Go.Extern.Stop Go.Stop Go.Extern

theorem marked_any (a : Nat → Addr) (w : World) (h : Errs a w) :
    Calls Tryd.prog 10 #[] w fun e w' => e = .returned (.bool true) ∧ Below w.heap.size w w' := by
  have HE : Hid (Errs a w) := h
  clear h
  have hsz : (ByteArray.mk #[97]).size ≤ maxLen := by decide
  have o1 := of_any a 5 (ByteArray.mk #[97]) w HE.out hsz
  rw [show moreN 5 5 (ByteArray.mk #[97]).data.toList = 1388 by decide, show errV a (moreE 5 5) = .nilIface by simp [moreE, errV]] at o1
  have HO := hide (o1)
  clear o1
  go_enter Tryd.func10, Tryd.ntmps10
  go_wp2_with fail
  refine HO.out.mono ?_
  rintro e w1 ⟨rfl, hb1⟩
  have HE1 : Hid (Errs a w1) := HE.out.below hb1
  have HB1 : Hid (Below w.heap.size w w1) := hb1
  have r1 := right_any a 5 (ByteArray.mk #[97]) 1388 w1 HE1.out hsz
  rw [show errV a (rightE 5 (ByteArray.mk #[97]).data.toList 1388) = .nilIface by rw [show rightE 5 (ByteArray.mk #[97]).data.toList 1388 = 0 by decide]; rfl] at r1
  have HR1 := hide (r1)
  clear r1 hb1 HO
  go_wp2_with fail
  refine HR1.out.mono ?_
  rintro e w2 ⟨rfl, hb2⟩
  have HE2 : Hid (Errs a w2) := HE1.out.below hb2
  have HB2 : Hid (Below w.heap.size w w2) := HB1.out.trans (hb2.mono HB1.out.size)
  have r2 := right_any a 5 (ByteArray.mk #[97]) 1389 w2 HE2.out hsz
  rw [show rightE 5 (ByteArray.mk #[97]).data.toList 1389 = 9 by decide] at r2
  have HR2 := hide (r2)
  clear r2 hb2 HR1
  go_wp2_with fail
  refine HR2.out.mono ?_
  rintro e w3 ⟨rfl, hb3⟩
  have HE3 : Hid (Errs a w3) := HE2.out.below hb3
  have HB3 : Hid (Below w.heap.size w w3) := HB2.out.trans (hb3.mono HB2.out.size)
  clear hb3 HR2
  go_wp2_with fail
  refine (coded_errV a 9 (by decide) 9 w3 HE3.out).mono ?_
  rintro e w4 ⟨rfl, hb4⟩
  have HB4 : Hid (Below w.heap.size w w4) := HB3.out.trans (hb4.mono HB3.out.size)
  clear hb4
  go_wp2
  go_ret
  exact ⟨rfl, HB4.out⟩

set_option maxHeartbeats 2000000 in
theorem markTells_any (a : Nat → Addr) (key : Int) (s : ByteArray) (n : Int) (w : World) (h : Errs a w) (hs : s.size ≤ maxLen) :
    Calls Tryd.prog 5 #[.int .i64 key, .string s, .int .i64 n] w fun e w' => e = .returned (.bool true) ∧ Below w.heap.size w w' := by
  have HE : Hid (Errs a w) := h
  have HM := hide (marked_any a w h)
  have HS : Hid (s.size ≤ maxLen) := hs
  unfold maxLen at hs
  clear h
  by_cases h5 : s.size ≤ 500
  · go_enter Tryd.func5, Tryd.ntmps5
    go_wp2_with fail
    refine HM.out.mono ?_
    rintro e w1 ⟨rfl, hb1⟩
    have HE1 : Hid (Errs a w1) := HE.out.below hb1
    have HB1 : Hid (Below w.heap.size w w1) := hb1
    clear hb1 HM HE
    go_wp2_with fail
    refine (of_any a key s w1 HE1.out HS.out).mono ?_
    rintro e w2 ⟨rfl, hb2⟩
    have HE2 : Hid (Errs a w2) := HE1.out.below hb2
    have HB2 : Hid (Below w.heap.size w w2) := HB1.out.trans (hb2.mono HB1.out.size)
    clear hb2 HE1 HB1
    go_wp2_with fail
    refine (refOf_any key s w2 HS.out).mono ?_
    rintro e w3 ⟨rfl, hw3⟩
    subst hw3
    go_wp2_with fail
    refine (coded_errV a (moreE key key) (moreE_le _ _) _ _ HE2.out).mono ?_
    rintro e w4 ⟨rfl, hb4⟩
    have HE4 : Hid (Errs a w4) := HE2.out.below hb4
    have HB4 : Hid (Below w.heap.size w w4) := HB2.out.trans (hb4.mono HB2.out.size)
    clear hb4 HE2 HB2
    go_wp2_with fail
    refine (more_any a key n s w4 HE4.out HS.out).mono ?_
    rintro e w5 ⟨rfl, hb5⟩
    have HE5 : Hid (Errs a w5) := HE4.out.below hb5
    have HB5 : Hid (Below w.heap.size w w5) := HB4.out.trans (hb5.mono HB4.out.size)
    clear hb5 HE4 HB4
    go_wp2_with fail
    refine (from_any key n s w5 HS.out).mono ?_
    rintro e w6 ⟨rfl, hw6⟩
    subst hw6
    go_wp2_with fail
    refine (coded_errV a (moreE key n) (moreE_le _ _) _ _ HE5.out).mono ?_
    rintro e w7 ⟨rfl, hb7⟩
    have HE7 : Hid (Errs a w7) := HE5.out.below hb7
    have HB7 : Hid (Below w.heap.size w w7) := HB5.out.trans (hb7.mono HB5.out.size)
    clear hb7 HE5 HB5
    go_wp2_with fail
    refine (right_any a key s n w7 HE7.out HS.out).mono ?_
    rintro e w8 ⟨rfl, hb8⟩
    have HE8 : Hid (Errs a w8) := HE7.out.below hb8
    have HB8 : Hid (Below w.heap.size w w8) := HB7.out.trans (hb8.mono HB7.out.size)
    clear hb8 HE7 HB7
    go_wp2_with fail
    refine (refError_any key s n w8 HS.out).mono ?_
    rintro e w9 ⟨rfl, hw9⟩
    subst hw9
    go_wp2_with fail
    refine (coded_errV a (rightE key s.data.toList n) (rightE_le _ _ _) _ _ HE8.out).mono ?_
    rintro e w10 ⟨rfl, hb10⟩
    have HB10 : Hid (Below w.heap.size w w10) := HB8.out.trans (hb10.mono HB8.out.size)
    clear hb10
    go_wp2
    go_ret
    exact ⟨rfl, HB10.out⟩
  · go_enter Tryd.func5, Tryd.ntmps5
    go_wp2_with (go_at_call 10; refine HM.out.mono ?_; rintro e w1 ⟨rfl, hb1⟩)
    go_ret
    exact ⟨rfl, by assumption⟩

theorem markTells_walk (a : Nat → Addr) (key : Int) (s : ByteArray) (n : Int) (w : World) (h : Errs a w) (_ : I64 key) (hs : s.size ≤ maxLen) (_ : I64 n) :
    Calls Tryd.prog 5 #[.int .i64 key, .string s, .int .i64 n] w fun e w' => e = .returned (.bool true) ∧ Below w.heap.size w w' := markTells_any a key s n w h hs
end Go.Proofs.YtpohajdgoaobfaaDoor

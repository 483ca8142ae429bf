/-
  What seal.Number answers: the number of digits without needless zeros, ten at most, up to most, and true; else 0 and false; for every text and every most.
-/
import Derived.Test.YteofodegeigmaaaDoorSealWords
import Derived.Test.YteofodegeigmaaaDoorShelf
import Derived.Lib.AtoiErrMem
namespace Go.Proofs.YteofodegeigmaaaDoor
open Go.RowKit Go.Extern.Stop Go.Stop Go.Extern

/-- Is it a number up to most? -/
def numB (l : List UInt8) (most : Int) : Bool := Sl.numOk l && decide ((Sl.valL l : Int) ≤ most)
/-- Number's number. -/
def numV (l : List UInt8) (most : Int) : Int := if numB l most = true then (Sl.valL l : Int) else 0
theorem head_at (s : ByteArray) (h : 0 < s.size) : s.data.toList.head? = some s[0] := by
  have : s.data.toList[0]? = some s[0] := by
    rw [List.getElem?_eq_getElem (by rw [size_list]; exact h)]
    rfl
  rw [← this, List.head?_eq_getElem?]
theorem below_bytes (w : World) (t : ByteArray) : Below w.heap.size w (Lib.bytesWorld w 5 t) := Lib.bytesWorld_below w _ t

set_option maxRecDepth 100000 in
set_option maxHeartbeats 1000000 in
theorem number_any (s : ByteArray) (most : Int) (w : World) (hs : s.size ≤ maxLen) :
    Calls Tryd.prog 28 #[.string s, .int .i64 most] w fun e w' => e = .returned (.tuple #[.int .i64 (numV s.data.toList most), .bool (numB s.data.toList most)]) ∧ Below w.heap.size w w' := by
  have el : s.data.toList.length = s.size := size_list s
  have H := hide (madeOf_any 36 Sl.digB (enters_of Tryd.func36 (by kernel_rfl) rfl) fits_digit s 10 w hs)
  unfold maxLen at hs
  cases hm : Sl.madeL Sl.digB 10 s.data.toList with
  | false =>
    have hb : numB s.data.toList most = false := by simp [numB, Sl.numOk, hm]
    rw [show numV s.data.toList most = 0 by simp [numV, hb], hb]
    rw [hm] at H
    clear hm hb el
    go_enter Tryd.func28, Tryd.ntmps28
    go_wp2_with fail
    refine H.out.mono ?_
    rintro e w1 ⟨rfl, hb⟩
    go_wp2
    go_ret2
    exact ⟨rfl, hb⟩
  | true =>
    rw [hm] at H
    have hm' := hm
    unfold Sl.madeL at hm'
    rw [Bool.and_eq_true, decide_eq_true_eq, el] at hm'
    obtain ⟨⟨h1, h10⟩, hall⟩ := hm'
    have HP := hide (fun w => Tryd.strconv_ParseInt_10_at64_ok s (by omega) (Sl.valL s.data.toList : Int) (Sl.parse_ok _ (by omega) (by omega) hall) w)
    have HV : Hid (Sl.valL s.data.toList < 10000000000) := Sl.valL_lt _ hall (by omega)
    by_cases hz : 1 < s.size ∧ s[0] = 48
    · have hb : numB s.data.toList most = false := by
        have : s.data.toList.head? = some 48 := by rw [head_at s (by omega), hz.2]
        simp [numB, Sl.numOk, this, el, hz.1]
      rw [show numV s.data.toList most = 0 by simp [numV, hb], hb]
      obtain ⟨hz1, hz2⟩ := hz
      have hz3 : ((s[0].toNat : Int) == 48) = true := by rw [hz2]; decide
      clear hm hb el HP HV hall hz2
      go_enter Tryd.func28, Tryd.ntmps28
      go_wp2_with fail
      refine H.out.mono ?_
      rintro e w1 ⟨rfl, hb⟩
      go_wp2
      go_ret2
      exact ⟨rfl, hb⟩
    · have hok : Sl.numOk s.data.toList = true := by
        rw [Sl.numOk_iff]
        refine ⟨by omega, hall, fun h => ?_⟩
        rw [head_at s (by omega)]
        intro e
        exact hz ⟨by omega, Option.some.inj e⟩
      have hz' : s.size = 1 ∨ (1 < s.size ∧ ((s[0].toNat : Int) == 48) = false) := by
        by_cases g : s.size = 1
        · exact Or.inl g
        · refine Or.inr ⟨by omega, ?_⟩
          rw [beq_eq_false_iff_ne]
          intro e
          refine hz ⟨by omega, UInt8.toNat_inj.1 ?_⟩
          have : (48 : UInt8).toNat = 48 := by decide
          omega
      have HBn : Hid (numB s.data.toList most = decide ((Sl.valL s.data.toList : Int) ≤ most)) := by show _ = _; simp [numB, hok]
      have HVn : Hid (numV s.data.toList most = if (Sl.valL s.data.toList : Int) ≤ most then (Sl.valL s.data.toList : Int) else 0) := by
        show _ = _
        unfold numV
        rw [HBn.out]
        simp
      rw [HVn.out, HBn.out]
      clear HVn HBn hok hz hm hall el
      generalize Sl.valL s.data.toList = v at *
      have hv0 : (0 : Int) ≤ (v : Int) := by omega
      have hv1 : (v : Int) < 10000000000 := by have := HV.out; omega
      clear HV
      generalize (v : Int) = x at *
      by_cases hmo : x ≤ most
      · rw [if_pos hmo, decide_eq_true hmo]
        rcases hz' with g | ⟨g, g2⟩
        · go_enter Tryd.func28, Tryd.ntmps28
          go_wp2_with fail
          refine H.out.mono ?_
          rintro e w1 ⟨rfl, hb⟩
          have HB := hide hb
          clear hb
          go_wp2_with fail
          refine (HP.out _).mono ?_
          rintro e w2 ⟨rfl, hw⟩
          have HB2 : Hid (Below w.heap.size w w2) := by
            rcases hw with rfl | ⟨t, rfl⟩
            · exact HB.out
            · exact HB.out.trans ((below_bytes w1 t).mono HB.out.size)
          clear hw HB
          go_wp2
          go_ret2
          exact ⟨rfl, HB2.out⟩
        · go_enter Tryd.func28, Tryd.ntmps28
          go_wp2_with fail
          refine H.out.mono ?_
          rintro e w1 ⟨rfl, hb⟩
          have HB := hide hb
          clear hb
          go_wp2_with fail
          refine (HP.out _).mono ?_
          rintro e w2 ⟨rfl, hw⟩
          have HB2 : Hid (Below w.heap.size w w2) := by
            rcases hw with rfl | ⟨t, rfl⟩
            · exact HB.out
            · exact HB.out.trans ((below_bytes w1 t).mono HB.out.size)
          clear hw HB
          go_wp2
          go_ret2
          exact ⟨rfl, HB2.out⟩
      · rw [if_neg hmo, decide_eq_false hmo]
        rcases hz' with g | ⟨g, g2⟩
        · go_enter Tryd.func28, Tryd.ntmps28
          go_wp2_with fail
          refine H.out.mono ?_
          rintro e w1 ⟨rfl, hb⟩
          have HB := hide hb
          clear hb
          go_wp2_with fail
          refine (HP.out _).mono ?_
          rintro e w2 ⟨rfl, hw⟩
          have HB2 : Hid (Below w.heap.size w w2) := by
            rcases hw with rfl | ⟨t, rfl⟩
            · exact HB.out
            · exact HB.out.trans ((below_bytes w1 t).mono HB.out.size)
          clear hw HB
          go_wp2
          go_ret2
          exact ⟨rfl, HB2.out⟩
        · go_enter Tryd.func28, Tryd.ntmps28
          go_wp2_with fail
          refine H.out.mono ?_
          rintro e w1 ⟨rfl, hb⟩
          have HB := hide hb
          clear hb
          go_wp2_with fail
          refine (HP.out _).mono ?_
          rintro e w2 ⟨rfl, hw⟩
          have HB2 : Hid (Below w.heap.size w w2) := by
            rcases hw with rfl | ⟨t, rfl⟩
            · exact HB.out
            · exact HB.out.trans ((below_bytes w1 t).mono HB.out.size)
          clear hw HB
          go_wp2
          go_ret2
          exact ⟨rfl, HB2.out⟩
end Go.Proofs.YteofodegeigmaaaDoor

/-
  What the document's answer gives on numbers and words: NumberOf for every text and every most, Decimal for a number up to 1000000006, Glue for texts of at most 6000 bytes together.
-/
import Derived.Test.YteofodegeigmaaaDoorSealRef
import Derived.Test.YteofodegeigmaaaDoorSealNumber
import Derived.Test.YteofodegeigmaaaDoorSealSpec
namespace Go.Proofs.YteofodegeigmaaaDoor
open Go.RowKit Go.Extern.Stop Go.Stop Go.Extern

/-- NumberOf's number: -1 where it is none. -/
def numI (l : List UInt8) (most : Int) : Int := if numB l most = true then (Sl.valL l : Int) else -1
theorem numI_no (l : List UInt8) (most : Int) (h : numB l most = false) : numI l most = -1 := by unfold numI; rw [h]; rfl
theorem numB_len (l : List UInt8) (most : Int) (h : ¬ (1 ≤ l.length ∧ l.length ≤ 10)) : numB l most = false := by
  unfold numB Sl.numOk Sl.madeL
  rw [decide_eq_false h]
  rfl
theorem numB_dig (s : ByteArray) (most : Int) (k : Nat) (hk : k < s.size) (h : Sl.digB s[k] = false) : numB s.data.toList most = false := by
  unfold numB Sl.numOk Sl.madeL
  rw [all_no Sl.digB s k hk h, Bool.and_false]
  rfl

set_option maxRecDepth 100000 in
set_option maxHeartbeats 1000000 in
theorem refNumber_loop (s : ByteArray) (most : Int) (w : World) (h1 : 1 ≤ s.size) (h10 : s.size ≤ 10) (hz : s.size = 1 ∨ (1 < s.size ∧ ((s[0].toNat : Int) == 48) = false)) :
    Calls Tryd.prog 25 #[.string s, .int .i64 most] w fun e w' => e = .returned (.int .i64 (numI s.data.toList most)) ∧ w' = w := by
  have el := size_list s
  have Hz := hide hz
  rcases hz with hz | ⟨hz1, hz2⟩
  all_goals
    go_enter Tryd.func25, Tryd.ntmps25
    go_wp2
    go_loop [5, 6] (fun n i => ∃ k : Nat, k ≤ s.size ∧ i = .int .i64 k ∧ n = .int .i64 (Sl.valF 0 (s.data.toList.take k) : Nat) ∧ Hid (∀ j (hj : j < s.size), j < k → Sl.digB s[j] = true)) (fun _ i => s.size - (intOf i).toNat)
    case atStart => exact ⟨0, Nat.zero_le _, rfl, rfl, fun j _ hj => absurd hj (Nat.not_lt_zero _)⟩
    case round =>
      obtain ⟨k, hk, rfl, rfl, A⟩ := hrel
      by_cases hlt : k < s.size
      · have hb0 : (0 : Int) ≤ (s[k].toNat : Int) := by omega
        have hb1 : (s[k].toNat : Int) ≤ 255 := by have := s[k].toNat_lt; omega
        by_cases hd : Sl.digB s[k] = true
        · have hd2 : 48 ≤ s[k].toNat ∧ s[k].toNat ≤ 57 := by simpa [Sl.digB] using hd
          have HD := hide hd
          have hvl : Sl.valF 0 (s.data.toList.take k) < 10000000000 := by
            refine Sl.valL_lt _ ?_ (by rw [List.length_take]; omega)
            rw [List.all_eq_true]
            intro x hx
            obtain ⟨j, hj, rfl⟩ := List.getElem_of_mem hx
            rw [List.length_take, el] at hj
            rw [List.getElem_take]
            exact A.out j (by omega) (by omega)
          have HV : Hid ((Sl.valF 0 (s.data.toList.take (k + 1)) : Int) = 10 * (Sl.valF 0 (s.data.toList.take k) : Int) + ((s[k].toNat : Int) - 48)) := by
            show _ = _
            rw [take_snoc s k hlt, Sl.valF_snoc]
            omega
          obtain ⟨hd3, hd4⟩ := hd2
          have hd5 : (48 : Int) ≤ (s[k].toNat : Int) := by omega
          have hd6 : (s[k].toNat : Int) ≤ 57 := by omega
          have hv0 : (0 : Int) ≤ (Sl.valF 0 (s.data.toList.take k) : Int) := by omega
          have hv1 : (Sl.valF 0 (s.data.toList.take k) : Int) < 10000000000 := by omega
          clear hd hvl hd3 hd4
          generalize (Sl.valF 0 (s.data.toList.take k) : Int) = v at *
          go_wp2
          go_round
          case rel =>
            refine ⟨k + 1, by omega, by go_num, by rw [HV.out], (show Hid _ from fun j hj hjk => ?_)⟩
            by_cases e : j = k
            · subst e; exact HD.out
            · exact A.out j hj (by omega)
          case measure => simp [intOf]; omega
        · have hdf : Sl.digB s[k] = false := by simpa using hd
          have HR := hide (numI_no _ _ (numB_dig s most k hlt hdf))
          have hd2 : (s[k].toNat : Int) < 48 ∨ (48 ≤ (s[k].toNat : Int) ∧ 57 < (s[k].toNat : Int)) := by
            unfold Sl.digB at hdf
            rw [decide_eq_false_iff_not] at hdf
            omega
          clear hd hdf
          rcases hd2 with g | ⟨g1, g2⟩
          · go_wp2
            go_ret
            exact ⟨by rw [HR.out]; rfl, rfl⟩
          · go_wp2
            go_ret
            exact ⟨by rw [HR.out]; rfl, rfl⟩
      · have htake : s.data.toList.take k = s.data.toList := List.take_of_length_le (by rw [el]; omega)
        have hall : s.data.toList.all Sl.digB = true := all_at Sl.digB s (fun j hj => A.out j hj (by omega))
        have hok : Sl.numOk s.data.toList = true := by
          rw [Sl.numOk_iff]
          refine ⟨by omega, hall, fun h => ?_⟩
          rcases Hz.out with g | ⟨_, g⟩
          · omega
          · rw [head_at s (by omega)]
            intro e
            rw [beq_eq_false_iff_ne] at g
            apply g
            rw [Option.some.inj e]
            decide
        have HR : Hid (numI s.data.toList most = if (Sl.valF 0 (s.data.toList.take k) : Int) ≤ most then (Sl.valF 0 (s.data.toList.take k) : Int) else -1) := by
          show _ = _
          rw [htake]
          unfold numI numB
          rw [hok]
          simp only [Bool.true_and, decide_eq_true_eq]
          rfl
        clear htake hall hok
        generalize (Sl.valF 0 (s.data.toList.take k) : Int) = v at *
        by_cases hm : v ≤ most
        · rw [if_pos hm] at HR
          go_wp2
          go_ret
          exact ⟨by rw [HR.out]; rfl, rfl⟩
        · rw [if_neg hm] at HR
          go_wp2
          go_ret
          exact ⟨by rw [HR.out]; rfl, rfl⟩

theorem refNumber_any (s : ByteArray) (most : Int) (w : World) (hs : s.size ≤ maxLen) :
    Calls Tryd.prog 25 #[.string s, .int .i64 most] w fun e w' => e = .returned (.int .i64 (numI s.data.toList most)) ∧ w' = w := by
  have el := size_list s
  by_cases h1 : 1 ≤ s.size
  · by_cases h10 : s.size ≤ 10
    · by_cases hz : 1 < s.size ∧ s[0] = 48
      · have hb : numB s.data.toList most = false := by
          have : s.data.toList.head? = some 48 := by rw [head_at s (by omega), hz.2]
          simp [numB, Sl.numOk, this, el, hz.1]
        have HR := hide (numI_no _ _ hb)
        obtain ⟨hz1, hz2⟩ := hz
        have hz3 : ((s[0].toNat : Int) == 48) = true := by rw [hz2]; decide
        clear hb hz2 hs el
        go_enter Tryd.func25, Tryd.ntmps25
        go_wp2
        go_ret
        exact ⟨by rw [HR.out]; rfl, rfl⟩
      · refine refNumber_loop s most w h1 h10 ?_
        by_cases g : s.size = 1
        · exact Or.inl g
        · refine Or.inr ⟨by omega, ?_⟩
          rw [beq_eq_false_iff_ne]
          intro e
          refine hz ⟨by omega, UInt8.toNat_inj.1 ?_⟩
          have : (48 : UInt8).toNat = 48 := by decide
          omega
    · have HR := hide (numI_no _ _ (numB_len s.data.toList most (by rw [el]; omega)))
      unfold maxLen at hs
      go_enter Tryd.func25, Tryd.ntmps25
      go_wp2
      go_ret
      exact ⟨by rw [HR.out]; rfl, rfl⟩
  · have HR := hide (numI_no _ _ (numB_len s.data.toList most (by rw [el]; omega)))
    go_enter Tryd.func25, Tryd.ntmps25
    go_wp2
    go_ret
    exact ⟨by rw [HR.out]; rfl, rfl⟩

/-! ### Digits -/
theorem refByte_any (u : Nat) (hu : u < 256) (w : World) :
    Calls Tryd.prog 54 #[.int .i64 u] w fun e w' => e = .returned (.string (Sl.ofL [UInt8.ofNat u])) ∧ Below w.heap.size w w' := by
  have hn : (UInt8.ofNat u).toNat = u := by rw [UInt8.toNat_ofNat']; omega
  have hback := string_of [UInt8.ofNat u] 1 w.heap.size 1 (w.alloc (.cells #[.int .u8 u] 5)) rfl (fun j hj => by
    have : j = 0 := by simpa using hj
    subst this
    simp [hn])
  have h0 : (0 : Int) ≤ (u : Int) := by omega
  have h1 : (u : Int) ≤ 255 := by omega
  have HB : Hid (Below w.heap.size w (w.alloc (.cells #[.int .u8 u] 5))) := (Below.refl _ _).alloc (Nat.le_refl _) _
  rw [show (⟨[UInt8.ofNat u].toArray⟩ : ByteArray) = Sl.ofL [UInt8.ofNat u] from rfl] at hback
  generalize Sl.ofL [UInt8.ofNat u] = r at *
  generalize (u : Int) = z at *
  clear hn
  go_enter Tryd.func54, Tryd.ntmps54
  go_wp2
  go_ret
  exact ⟨rfl, HB.out⟩

theorem dec_size (u : Nat) (hu : u < 10000000000) : (Sl.ofL (Lib.decDigits u)).size ≤ 10 := by
  rw [Sl.ofL_size]
  exact ((Sl.numOk_iff _).1 (Sl.dec_ok u hu)).1.2

set_option maxRecDepth 100000 in
set_option maxHeartbeats 1000000 in
theorem refBelow_any : ∀ (u : Nat), u ≤ 1073741824 → ∀ (w : World),
    Calls Tryd.prog 45 #[.int .i64 (-(u : Int))] w fun e w' => e = .returned (.string (Sl.ofL (Lib.decDigits u))) ∧ Below w.heap.size w w' := by
  intro u
  induction u using Nat.strongRecOn with
  | _ u ih =>
    intro hu w
    by_cases h : u < 10
    · have HB := hide (refByte_any (48 + u) (by omega) w)
      rw [Lib.decDigits_one h]
      have hz : -10 < -(u : Int) := by omega
      have hz0 : -(u : Int) ≤ 0 := by omega
      have he : (48 : Int) - -(u : Int) = ((48 + u : Nat) : Int) := by omega
      generalize Sl.ofL [UInt8.ofNat (48 + u)] = r at *
      generalize ((48 + u : Nat) : Int) = b at *
      generalize -(u : Int) = z at *
      clear ih
      go_enter Tryd.func45, Tryd.ntmps45
      go_wp2_with fail
      refine HB.out.mono ?_
      rintro e w1 ⟨rfl, hb⟩
      go_wp2
      go_ret
      exact ⟨rfl, hb⟩
    · have HI := hide (fun w => ih (u / 10) (by omega) (by omega) w)
      have HB := hide (fun w => refByte_any (48 + u % 10) (by omega) w)
      have hdec : Sl.ofL (Lib.decDigits u) = Sl.ofL (Lib.decDigits (u / 10)) ++ Sl.ofL [UInt8.ofNat (48 + u % 10)] := by
        refine Sl.ba_ext ?_
        rw [ba_toList, Sl.toL_ofL, Sl.toL_ofL, Sl.toL_ofL]
        conv => lhs; rw [Lib.decDigits]
        rw [dif_neg h]
      have hz : ¬ -10 < -(u : Int) := by omega
      have hz2 : -1073741824 ≤ -(u : Int) := by omega
      have hz3 : -(u : Int) ≤ 0 := by omega
      have hq : (-(u : Int)).tdiv 10 = -((u / 10 : Nat) : Int) := by rw [Int.neg_tdiv]; rfl
      have hr : (-(u : Int)).tmod 10 = -((u % 10 : Nat) : Int) := by rw [Int.neg_tmod]; rfl
      have he : (48 : Int) - -((u % 10 : Nat) : Int) = ((48 + u % 10 : Nat) : Int) := by omega
      have hs1 := dec_size (u / 10) (by omega)
      have hs2 : (Sl.ofL [UInt8.ofNat (48 + u % 10)]).size = 1 := by rw [Sl.ofL_size]; rfl
      have hr0 : -((u % 10 : Nat) : Int) ≤ 0 := by omega
      have hq0 : -((u / 10 : Nat) : Int) ≤ 0 := by omega
      have hq1 : -1073741824 ≤ -((u / 10 : Nat) : Int) := by omega
      have hr1 : -10 ≤ -((u % 10 : Nat) : Int) := by omega
      have HD := hide hdec
      clear hdec ih hu h
      generalize Sl.ofL (Lib.decDigits u) = res at *
      generalize Sl.ofL (Lib.decDigits (u / 10)) = res1 at *
      generalize Sl.ofL [UInt8.ofNat (48 + u % 10)] = r at *
      generalize ((48 + u % 10 : Nat) : Int) = b at *
      generalize -((u % 10 : Nat) : Int) = z2 at *
      generalize -((u / 10 : Nat) : Int) = z1 at *
      generalize -(u : Int) = z at *
      go_enter Tryd.func45, Tryd.ntmps45
      go_wp2_with fail
      refine (HI.out _).mono ?_
      rintro e w1 ⟨rfl, hb⟩
      have HB1 := hide hb
      clear hb HI
      go_wp2_with fail
      refine (HB.out _).mono ?_
      rintro e w2 ⟨rfl, hb⟩
      have HB2 : Hid (Below w.heap.size w w2) := HB1.out.trans (hb.mono HB1.out.size)
      clear hb HB1 HB
      go_wp2
      go_ret
      exact ⟨by rw [HD.out]; rfl, HB2.out⟩

theorem refDecimal_any (u : Nat) (hu : u ≤ 1073741824) (w : World) :
    Calls Tryd.prog 32 #[.int .i64 (u : Int)] w fun e w' => e = .returned (.string (Sl.ofL (Lib.decDigits u))) ∧ Below w.heap.size w w' := by
  have HB := hide (refBelow_any u hu w)
  have h0 : (0 : Int) ≤ (u : Int) := by omega
  have h1 : (u : Int) ≤ 1073741824 := by omega
  generalize Sl.ofL (Lib.decDigits u) = res at *
  generalize (u : Int) = z at *
  go_enter Tryd.func32, Tryd.ntmps32
  go_wp2_with fail
  refine HB.out.mono ?_
  rintro e w1 ⟨rfl, hb⟩
  go_wp2
  go_ret
  exact ⟨rfl, hb⟩
end Go.Proofs.YteofodegeigmaaaDoor

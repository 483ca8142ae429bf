/-
  What the document's answer gives on bytes and words: small, IsWord, IsName, NumberOf, Decimal and Glue, for every text, number and slice of texts (a number up to 1000000006 for Decimal; texts of at most 6000 bytes together for Glue).
-/
import Derived.Test.YtabpnjchocgakaaGreatDoorSealWords
namespace Go.Proofs.YtabpnjchocgakaaGreatDoor
open Go.RowKit Go.Extern.Stop Go.Stop Go.Extern
theorem refSmall_int (x : Int) (w : World) :
  Calls Tryz.prog 183 #[.int .u8 x] w fun e w' => e = .returned (.bool (decide (48 ≤ x ∧ x ≤ 57) || decide (97 ≤ x ∧ x ≤ 122))) ∧ w' = w := by
 by_cases h : 97 ≤ x ∧ x ≤ 122
 ·
  obtain ⟨h1, h2⟩ := h
  rw [decide_eq_false (show ¬ (48 ≤ x ∧ x ≤ 57) by omega), decide_eq_true ⟨h1, h2⟩]
  go_enter Tryz.func183, Tryz.ntmps183
  go_wp2
  go_ret
  exact ⟨rfl, rfl⟩
 ·
  rw [decide_eq_false h]
  by_cases h3 : 48 ≤ x
  ·
   by_cases h4 : x ≤ 57
   ·
    rw [decide_eq_true ⟨h3, h4⟩]
    have h5 : ¬ 97 ≤ x := by omega
    clear h
    go_enter Tryz.func183, Tryz.ntmps183
    go_wp2
    go_ret
    exact ⟨rfl, rfl⟩
   ·
    rw [decide_eq_false (fun g => h4 g.2)]
    by_cases h5 : 97 ≤ x
    ·
     have h6 : ¬ x ≤ 122 := fun g => h ⟨h5, g⟩
     clear h
     go_enter Tryz.func183, Tryz.ntmps183
     go_wp2
     go_ret
     exact ⟨by simp_all, rfl⟩
    ·
     clear h
     go_enter Tryz.func183, Tryz.ntmps183
     go_wp2
     go_ret
     exact ⟨by simp_all, rfl⟩
  ·
   rw [decide_eq_false (fun g => h3 g.1)]
   have h5 : ¬ 97 ≤ x := by omega
   clear h
   go_enter Tryz.func183, Tryz.ntmps183
   go_wp2
   go_ret
   exact ⟨rfl, rfl⟩
theorem refSmall_any (b : UInt8) (w : World) :
  Calls Tryz.prog 183 #[.int .u8 (b.toNat : Int)] w fun e w' => e = .returned (.bool (Sl.smallB b)) ∧ w' = w := by
 have := refSmall_int (b.toNat : Int) w
 rwa [show (decide (48 ≤ (b.toNat : Int) ∧ (b.toNat : Int) ≤ 57) || decide (97 ≤ (b.toNat : Int) ∧ (b.toNat : Int) ≤ 122)) = Sl.smallB b by
  unfold Sl.smallB Sl.digB
  congr 1 <;> (rw [decide_eq_decide]; omega)] at this
theorem all_at (p : UInt8 → Bool) (s : ByteArray) (h : ∀ j (hj : j < s.size), p s[j] = true) : s.data.toList.all p = true := by
 rw [List.all_eq_true]
 intro x hx
 obtain ⟨j, hj, rfl⟩ := List.getElem_of_mem hx
 exact h j (by rw [size_list] at hj; exact hj)
theorem all_no (p : UInt8 → Bool) (s : ByteArray) (j : Nat) (hj : j < s.size) (h : p s[j] = false) : s.data.toList.all p = false := by
 rw [List.all_eq_false]
 refine ⟨s[j], ?_, by rw [h]; decide⟩
 have : s.data.toList[j]? = some s[j] := by
  rw [List.getElem?_eq_getElem (by rw [size_list]; exact hj)]
  rfl
 exact List.mem_of_getElem? this
set_option maxHeartbeats 1000000 in
theorem refName_any (s : ByteArray) (w : World) (hs : s.size ≤ maxLen) :
  Calls Tryz.prog 175 #[.string s] w fun e w' => e = .returned (.bool (Sl.nameL s.data.toList)) ∧ w' = w := by
 have el := size_list s
 unfold maxLen at hs
 go_enter Tryz.func175, Tryz.ntmps175
 go_wp2
 go_loop [3] (fun i => ∃ k : Nat, k ≤ s.size ∧ i = .int .i64 k ∧ Hid (∀ j (hj : j < s.size), j < k → Sl.smallB s[j] = true)) (fun i => s.size - (intOf i).toNat)
 case atStart => exact ⟨0, Nat.zero_le _, rfl, fun j _ hj => absurd hj (Nat.not_lt_zero _)⟩
 case round =>
  obtain ⟨k, hk, rfl, A⟩ := hrel
  by_cases hlt : k < s.size
  ·
   have HC := hide (refSmall_any s[k] w)
   cases hb : Sl.smallB s[k] with
   | true =>
    rw [hb] at HC
    have HBt := hide hb
    clear hb
    go_wp2_with fail
    refine HC.out.mono ?_
    rintro e w1 ⟨rfl, rfl⟩
    go_wp2
    go_round
    case rel =>
     refine ⟨k + 1, by omega, by go_num, (show Hid _ from fun j hj hjk => ?_)⟩
     by_cases e : j = k
     ·
      subst e; exact HBt.out
     ·
      exact A.out j hj (by omega)
    case measure => simp [intOf]; omega
   | false =>
    rw [hb] at HC
    have HR : Hid (Sl.nameL s.data.toList = false) := by
     show _ = _
     unfold Sl.nameL Sl.madeL
     rw [all_no Sl.smallB s k hlt hb, Bool.and_false]
    clear hb
    go_wp2_with fail
    refine HC.out.mono ?_
    rintro e w1 ⟨rfl, rfl⟩
    go_wp2
    go_ret
    exact ⟨by rw [HR.out]; rfl, rfl⟩
  ·
   have HR : Hid (Sl.nameL s.data.toList = decide (1 ≤ s.size ∧ s.size ≤ 8)) := by
    show _ = _
    unfold Sl.nameL Sl.madeL
    rw [all_at Sl.smallB s (fun j hj => A.out j hj (by omega)), el, Bool.and_true]
   by_cases h1 : 1 ≤ s.size
   ·
    by_cases h2 : s.size ≤ 8
    ·
     have h2z : (s.size : Int) ≤ 8 := by omega
     go_wp2
     go_ret
     exact ⟨by rw [HR.out, decide_eq_true (And.intro h1 h2)]; first | rfl | simp_all, rfl⟩
    ·
     have h2z : ¬ (s.size : Int) ≤ 8 := by omega
     go_wp2
     go_ret
     exact ⟨by rw [HR.out, decide_eq_false (show ¬ (1 ≤ s.size ∧ s.size ≤ 8) from fun g => h2 g.2)]; simp_all, rfl⟩
   ·
    go_wp2
    go_ret
    exact ⟨by rw [HR.out, decide_eq_false (show ¬ (1 ≤ s.size ∧ s.size ≤ 8) from fun g => h1 g.1)]; rfl, rfl⟩
set_option maxHeartbeats 1000000 in
theorem refWord_any (s : ByteArray) (w : World) (hs : s.size ≤ maxLen) :
  Calls Tryz.prog 142 #[.string s] w fun e w' => e = .returned (.bool (Sl.wordL s.data.toList)) ∧ w' = w := by
 have el := size_list s
 unfold maxLen at hs
 go_enter Tryz.func142, Tryz.ntmps142
 go_wp2
 go_loop [3] (fun i => ∃ k : Nat, k ≤ s.size ∧ i = .int .i64 k ∧ Hid (∀ j (hj : j < s.size), j < k → Sl.wordB s[j] = true)) (fun i => s.size - (intOf i).toNat)
 case atStart => exact ⟨0, Nat.zero_le _, rfl, fun j _ hj => absurd hj (Nat.not_lt_zero _)⟩
 case round =>
  obtain ⟨k, hk, rfl, A⟩ := hrel
  by_cases hlt : k < s.size
  ·
   have HC := hide (refSmall_any s[k] w)
   cases hb : Sl.smallB s[k] with
   | true =>
    rw [hb] at HC
    have HBt : Hid (Sl.wordB s[k] = true) := by show _ = _; unfold Sl.wordB; rw [hb]; rfl
    clear hb
    go_wp2_with fail
    refine HC.out.mono ?_
    rintro e w1 ⟨rfl, rfl⟩
    go_wp2
    go_round
    case rel =>
     refine ⟨k + 1, by omega, by go_num, (show Hid _ from fun j hj hjk => ?_)⟩
     by_cases e : j = k
     ·
      subst e; exact HBt.out
     ·
      exact A.out j hj (by omega)
    case measure => simp [intOf]; omega
   | false =>
    rw [hb] at HC
    by_cases h45 : s[k].toNat = 45
    ·
     have HBt : Hid (Sl.wordB s[k] = true) := by show _ = _; unfold Sl.wordB; rw [hb, decide_eq_true h45]; rfl
     have hq : ((s[k].toNat : Int) != 45) = false := by rw [h45]; decide
     clear hb h45
     go_wp2_with fail
     refine HC.out.mono ?_
     rintro e w1 ⟨rfl, rfl⟩
     go_wp2
     go_round
     case rel =>
      refine ⟨k + 1, by omega, by go_num, (show Hid _ from fun j hj hjk => ?_)⟩
      by_cases e : j = k
      ·
       subst e; exact HBt.out
      ·
       exact A.out j hj (by omega)
     case measure => simp [intOf]; omega
    ·
     have hq : ((s[k].toNat : Int) != 45) = true := by rw [bne_iff_ne]; omega
     by_cases h42 : s[k].toNat = 42
     ·
      have HBt : Hid (Sl.wordB s[k] = true) := by show _ = _; unfold Sl.wordB; rw [hb, decide_eq_true h42, Bool.or_true]
      have hq2 : ((s[k].toNat : Int) != 42) = false := by rw [h42]; decide
      clear hb h45 h42
      go_wp2_with fail
      refine HC.out.mono ?_
      rintro e w1 ⟨rfl, rfl⟩
      go_wp2
      go_round
      case rel =>
       refine ⟨k + 1, by omega, by go_num, (show Hid _ from fun j hj hjk => ?_)⟩
       by_cases e : j = k
       ·
        subst e; exact HBt.out
       ·
        exact A.out j hj (by omega)
      case measure => simp [intOf]; omega
     ·
      have hq2 : ((s[k].toNat : Int) != 42) = true := by rw [bne_iff_ne]; omega
      have HR : Hid (Sl.wordL s.data.toList = false) := by
       show _ = _
       unfold Sl.wordL Sl.madeL
       rw [all_no Sl.wordB s k hlt (by unfold Sl.wordB; rw [hb, decide_eq_false h45, decide_eq_false h42]; rfl), Bool.and_false]
      clear hb h45 h42
      go_wp2_with fail
      refine HC.out.mono ?_
      rintro e w1 ⟨rfl, rfl⟩
      go_wp2
      go_ret
      exact ⟨by rw [HR.out]; rfl, rfl⟩
  ·
   have HR : Hid (Sl.wordL s.data.toList = decide (1 ≤ s.size ∧ s.size ≤ 20)) := by
    show _ = _
    unfold Sl.wordL Sl.madeL
    rw [all_at Sl.wordB s (fun j hj => A.out j hj (by omega)), el, Bool.and_true]
   by_cases h1 : 1 ≤ s.size
   ·
    by_cases h2 : s.size ≤ 20
    ·
     have h2z : (s.size : Int) ≤ 20 := by omega
     go_wp2
     go_ret
     exact ⟨by rw [HR.out, decide_eq_true (And.intro h1 h2)]; first | rfl | simp_all, rfl⟩
    ·
     have h2z : ¬ (s.size : Int) ≤ 20 := by omega
     go_wp2
     go_ret
     exact ⟨by rw [HR.out, decide_eq_false (show ¬ (1 ≤ s.size ∧ s.size ≤ 20) from fun g => h2 g.2)]; simp_all, rfl⟩
   ·
    go_wp2
    go_ret
    exact ⟨by rw [HR.out, decide_eq_false (show ¬ (1 ≤ s.size ∧ s.size ≤ 20) from fun g => h1 g.1)]; rfl, rfl⟩
end Go.Proofs.YtabpnjchocgakaaGreatDoor

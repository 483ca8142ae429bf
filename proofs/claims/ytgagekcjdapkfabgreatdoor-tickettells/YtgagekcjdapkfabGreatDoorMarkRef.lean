/-
  What the document's answer for marks answers (IsKey, MarkFrom, MarkOf, MarkError), for every key, number and text up to the longest that can be: the same mark, and the numbers of the errors.
-/
import Derived.Test.YtgagekcjdapkfabGreatDoorMarkOf
namespace Go.Proofs.YtgagekcjdapkfabGreatDoor
open Go.RowKit Go.Extern.Stop Go.Stop Go.Extern

theorem refKey_any (key : Int) (w : World) :
    Calls Tryz.prog 50 #[.int .i64 key] w fun e w' => e = .returned (.bool (decide (1 ≤ key ∧ key ≤ 1000000006))) ∧ w' = w := by
  by_cases h1 : 1 ≤ key
  · by_cases h2 : key < 1000000007
    · rw [show decide (1 ≤ key ∧ key ≤ 1000000006) = true by simp; omega]
      go_enter Tryz.func50, Tryz.ntmps50
      go_wp2
      go_ret
      exact ⟨rfl, rfl⟩
    · rw [show decide (1 ≤ key ∧ key ≤ 1000000006) = false by simp; omega]
      go_enter Tryz.func50, Tryz.ntmps50
      go_wp2
      go_ret
      exact ⟨rfl, rfl⟩
  · rw [show decide (1 ≤ key ∧ key ≤ 1000000006) = false by simp; omega]
    go_enter Tryz.func50, Tryz.ntmps50
    go_wp2
    go_ret
    exact ⟨rfl, rfl⟩

theorem drop_cons (s : ByteArray) (k : Nat) (h : k < s.size) : s.data.toList.drop k = s[k] :: s.data.toList.drop (k + 1) := by
  rw [List.drop_eq_getElem_cons (by simpa using h)]; rfl
theorem mul_bd (p q : Int) (hp : 0 ≤ p ∧ p ≤ 1000000006) (hq : 0 ≤ q ∧ q ≤ 1000000006) : 0 ≤ p * q ∧ p * q ≤ 1000000012000000036 := by
  refine ⟨Int.mul_nonneg hp.1 hq.1, ?_⟩
  have h1 : p * q ≤ 1000000006 * q := Int.mul_le_mul_of_nonneg_right hp.2 hq.1
  omega

set_option maxHeartbeats 2000000 in
theorem from_ok (key n : Int) (s : ByteArray) (w : World) (hk1 : 1 ≤ key) (hk2 : key ≤ 1000000006) (hn1 : 0 ≤ n) (hn2 : n ≤ 1000000006) (hs : s.size ≤ maxLen) :
    Calls Tryz.prog 104 #[.int .i64 key, .int .i64 n, .string s] w fun e w' => e = .returned (.tuple #[.int .i64 (Mk.mk key n s.data.toList), .int .i64 0]) ∧ w' = w := by
  unfold maxLen at hs
  have hd : decide (1 ≤ key ∧ key ≤ 1000000006) = true := by simp; omega
  go_enter Tryz.func104, Tryz.ntmps104
  go_wp2_with (go_at_call 50; refine (refKey_any key _).mono ?_; rintro e w1 ⟨rfl, rfl⟩)
  go_loop [9, 10, 11] (fun p o i => ∃ k : Nat, k ≤ s.size ∧ i = .int .i64 ((k : Int) - 1) ∧ p = .int .i64 (Mk.pw (s.data.toList.drop k).length) ∧ o = .int .i64 (Mk.sm key (s.data.toList.drop k))) (fun _ _ i => (intOf i + 1).toNat)
  case atStart => exact ⟨s.size, Nat.le_refl _, rfl, by rw [List.drop_of_length_le (by simp)]; rfl, by rw [List.drop_of_length_le (by simp)]; rfl⟩
  case round =>
    obtain ⟨k, hk, rfl, rfl, rfl⟩ := hrel
    cases k with
    | succ k =>
      have HS : Hid (Mk.sm key (s.data.toList.drop k) = (Mk.sm key (s.data.toList.drop (k + 1)) + Mk.pw (s.data.toList.drop (k + 1)).length * (((s[k].toNat : Int) + 1 + key) % 1000000007)) % 1000000007) := by
        show _ = _
        rw [drop_cons s k (by omega)]; rfl
      have HP : Hid (Mk.pw (s.data.toList.drop k).length = Mk.pw (s.data.toList.drop (k + 1)).length * 257 % 1000000007) := by
        show _ = _
        rw [drop_cons s k (by omega), List.length_cons, Mk.pw_succ]
      obtain ⟨ho1, ho2⟩ := Mk.sm_bd key (s.data.toList.drop (k + 1))
      have hp := Mk.pw_bd (s.data.toList.drop (k + 1)).length
      generalize Mk.sm key (s.data.toList.drop (k + 1)) = o at *
      generalize Mk.pw (s.data.toList.drop (k + 1)).length = p at *
      have hb0 : (0 : Int) ≤ (s[k].toNat : Int) := by omega
      have hb1 : (s[k].toNat : Int) ≤ 255 := by have := s[k].toNat_lt; omega
      obtain ⟨hx1, hx2⟩ := mul_bd p (((s[k].toNat : Int) + 1 + key) % 1000000007) hp (by omega)
      obtain ⟨hp1, hp2⟩ := hp
      have hkk : ((k + 1 : Nat) : Int) - 1 = (k : Int) := by omega
      rw [hkk]
      clear hkk
      have hlt : k < s.size := by omega
      go_wp2
      go_round
      case rel => exact ⟨k, by omega, by go_num, by rw [HP.out], by rw [HS.out]⟩
      case measure => simp [intOf]
    | zero =>
      have HR : Hid ((Mk.sm key (s.data.toList.drop 0) + Mk.pw (s.data.toList.drop 0).length * n) % 1000000007 = Mk.mk key n s.data.toList) := by
        show _ = _
        rw [List.drop_zero, Mk.mk_behind key n _ ⟨hn1, hn2⟩]
      obtain ⟨ho1, ho2⟩ := Mk.sm_bd key (s.data.toList.drop 0)
      have hp := Mk.pw_bd (s.data.toList.drop 0).length
      generalize Mk.sm key (s.data.toList.drop 0) = o at *
      generalize Mk.pw (s.data.toList.drop 0).length = p at *
      obtain ⟨hx1, hx2⟩ := mul_bd p n hp ⟨hn1, hn2⟩
      obtain ⟨hp1, hp2⟩ := hp
      go_wp2
      go_ret2
      exact ⟨by rw [← HR.out]; rfl, rfl⟩

theorem from_any (key n : Int) (s : ByteArray) (w : World) (hs : s.size ≤ maxLen) :
    Calls Tryz.prog 104 #[.int .i64 key, .int .i64 n, .string s] w fun e w' => e = .returned (.tuple #[.int .i64 (moreN key n s.data.toList), .int .i64 (moreE key n : Int)]) ∧ w' = w := by
  by_cases hk : 1 ≤ key ∧ key ≤ 1000000006
  · by_cases hn : 0 ≤ n ∧ n ≤ 1000000006
    · have e1 : moreE key n = 0 := by simp [moreE, hk, hn]
      have e2 : moreN key n s.data.toList = Mk.mk key n s.data.toList := by simp [moreN, e1]
      rw [e1, e2]
      exact from_ok key n s w hk.1 hk.2 hn.1 hn.2 hs
    · have e1 : moreE key n = 2 := by simp [moreE, hk, hn]
      have e2 : moreN key n s.data.toList = 0 := by simp [moreN, e1]
      rw [e1, e2]
      have hd : decide (1 ≤ key ∧ key ≤ 1000000006) = true := by simpa using hk
      clear e1 e2 hk hs
      by_cases hn1 : n < 0
      · clear hn
        go_enter Tryz.func104, Tryz.ntmps104
        go_wp2_with (go_at_call 50; refine (refKey_any key _).mono ?_; rintro e w1 ⟨rfl, rfl⟩)
        go_ret2
        exact ⟨rfl, rfl⟩
      · have hn2 : 1000000007 ≤ n := by omega
        clear hn
        go_enter Tryz.func104, Tryz.ntmps104
        go_wp2_with (go_at_call 50; refine (refKey_any key _).mono ?_; rintro e w1 ⟨rfl, rfl⟩)
        go_ret2
        exact ⟨rfl, rfl⟩
  · have e1 : moreE key n = 10 := by simp [moreE, hk]
    have e2 : moreN key n s.data.toList = 0 := by simp [moreN, e1]
    rw [e1, e2]
    have hd : decide (1 ≤ key ∧ key ≤ 1000000006) = false := by simpa using hk
    clear e1 e2 hk hs
    go_enter Tryz.func104, Tryz.ntmps104
    go_wp2_with (go_at_call 50; refine (refKey_any key _).mono ?_; rintro e w1 ⟨rfl, rfl⟩)
    go_ret2
    exact ⟨rfl, rfl⟩

theorem refOf_any (key : Int) (s : ByteArray) (w : World) (hs : s.size ≤ maxLen) :
    Calls Tryz.prog 77 #[.int .i64 key, .string s] w fun e w' => e = .returned (.tuple #[.int .i64 (moreN key key s.data.toList), .int .i64 (moreE key key : Int)]) ∧ w' = w := by
  by_cases hk : 1 ≤ key ∧ key ≤ 1000000006
  · have hd : decide (1 ≤ key ∧ key ≤ 1000000006) = true := by simpa using hk
    generalize hm : moreN key key s.data.toList = m
    generalize he : (moreE key key : Int) = x
    have HM : Hid (moreN key key s.data.toList = m) := hm
    have HX : Hid ((moreE key key : Int) = x) := he
    clear hk hm he
    go_enter Tryz.func77, Tryz.ntmps77
    go_wp2_with (go_at_call 50; refine (refKey_any key _).mono ?_; rintro e w1 ⟨rfl, rfl⟩)
    go_wp2_with fail
    refine (from_any key key s _ hs).mono ?_
    rintro e w1 ⟨rfl, rfl⟩
    rw [HM.out, HX.out]
    go_wp2
    go_ret2
    exact ⟨rfl, rfl⟩
  · have hd : decide (1 ≤ key ∧ key ≤ 1000000006) = false := by simpa using hk
    have e1 : moreE key key = 10 := by simp [moreE, hk]
    have e2 : moreN key key s.data.toList = 0 := by simp [moreN, e1]
    rw [e1, e2]
    clear hk e1 e2 hs
    go_enter Tryz.func77, Tryz.ntmps77
    go_wp2_with (go_at_call 50; refine (refKey_any key _).mono ?_; rintro e w1 ⟨rfl, rfl⟩)
    go_ret2
    exact ⟨rfl, rfl⟩

theorem refError_any (key : Int) (s : ByteArray) (n : Int) (w : World) (hs : s.size ≤ maxLen) :
    Calls Tryz.prog 91 #[.int .i64 key, .string s, .int .i64 n] w fun e w' => e = .returned (.int .i64 (rightE key s.data.toList n : Int)) ∧ w' = w := by
  have HO := refOf_any key s w hs
  rw [key_more] at HO
  by_cases hk : 1 ≤ key ∧ key ≤ 1000000006
  · have em : moreN key key s.data.toList = Mk.mk key key s.data.toList := by simp [moreN, key_more, hk]
    have er : rightE key s.data.toList n = if Mk.mk key key s.data.toList = n then 0 else 9 := by simp [rightE, hk]
    rw [if_pos hk, em] at HO
    rw [er]
    generalize Mk.mk key key s.data.toList = m at *
    have HO' := (show Hid (Calls Tryz.prog 77 #[.int .i64 key, .string s] w fun e w' => e = .returned (.tuple #[.int .i64 m, .int .i64 0]) ∧ w' = w) from HO)
    clear em er HO hs hk
    by_cases hm : m = n
    · rw [if_pos hm]
      have hm' : (m == n) = true := by simpa using hm
      clear hm
      go_enter Tryz.func91, Tryz.ntmps91
      go_wp2_with (go_at_call 77; refine HO'.out.mono ?_; rintro e w1 ⟨rfl, rfl⟩)
      go_ret
      exact ⟨rfl, rfl⟩
    · rw [if_neg hm]
      have hm' : (m == n) = false := by simpa using hm
      clear hm
      go_enter Tryz.func91, Tryz.ntmps91
      go_wp2_with (go_at_call 77; refine HO'.out.mono ?_; rintro e w1 ⟨rfl, rfl⟩)
      go_ret
      exact ⟨rfl, rfl⟩
  · have er : rightE key s.data.toList n = 10 := by simp [rightE, hk]
    rw [if_neg hk] at HO
    rw [er]
    generalize moreN key key s.data.toList = m at *
    have HO' := (show Hid (Calls Tryz.prog 77 #[.int .i64 key, .string s] w fun e w' => e = .returned (.tuple #[.int .i64 m, .int .i64 10]) ∧ w' = w) from HO)
    clear er HO hs hk
    go_enter Tryz.func91, Tryz.ntmps91
    go_wp2_with (go_at_call 77; refine HO'.out.mono ?_; rintro e w1 ⟨rfl, rfl⟩)
    go_ret
    exact ⟨rfl, rfl⟩
end Go.Proofs.YtgagekcjdapkfabGreatDoor

/-
  What mark.Of and mark.Right answer, for every key, text and number: the mark or ErrKey; nil, ErrKey or ErrMark.
-/
import Derived.Test.YtabpnjchocgakaaGreatDoorMark
namespace Go.Proofs.YtabpnjchocgakaaGreatDoor
open Go.RowKit Go.Extern.Stop Go.Stop Go.Extern
theorem of_ev (S : Nat → Bool) (hS1 : S 1 = true) (hS9 : S 9 = true) (a : Nat → Addr) (key : Int) (s : ByteArray) (w : World) (h : EV S a w) (hs : s.size ≤ maxLen) :
  Calls Tryz.prog 32 #[.int .i64 key, .string s] w fun e w' => e = .returned (.tuple #[.int .i64 (moreN key key s.data.toList), errV a (moreE key key)]) ∧ Below w.heap.size w w' := by
 have HE : Hid (EV S a w) := h
 have HS : Hid (S 1 = true ∧ S 9 = true) := ⟨hS1, hS9⟩
 clear h hS1 hS9
 generalize hv : errV a (moreE key key) = v
 generalize hm : moreN key key s.data.toList = m
 have HV : Hid (errV a (moreE key key) = v) := hv
 have HM : Hid (moreN key key s.data.toList = m) := hm
 clear hv hm
 go_enter Tryz.func32, Tryz.ntmps32
 go_wp2_with fail
 refine (more_ev S HS.out.1 HS.out.2 a key key s _ HE.out hs).mono ?_
 rintro e w1 ⟨rfl, hb⟩
 rw [HV.out, HM.out]
 go_wp2
 go_ret2
 exact ⟨rfl, hb⟩
theorem of_any (a : Nat → Addr) (key : Int) (s : ByteArray) (w : World) (h : Errs a w) (hs : s.size ≤ maxLen) :
  Calls Tryz.prog 32 #[.int .i64 key, .string s] w fun e w' => e = .returned (.tuple #[.int .i64 (moreN key key s.data.toList), errV a (moreE key key)]) ∧ Below w.heap.size w w' :=
 of_ev (fun _ => true) rfl rfl a key s w (h.ev _) hs
theorem key_more (key : Int) : moreE key key = if 1 ≤ key ∧ key ≤ 1000000006 then 0 else 10 := by
 unfold moreE
 split
 ·
  rw [if_pos (by omega)]
 ·
  rfl
def slS (i : Nat) : Bool := i == 0 || i == 1 || i == 2 || i == 8 || i == 9
theorem right_ev (a : Nat → Addr) (key : Int) (s : ByteArray) (n : Int) (w : World) (h : EV slS a w) (hs : s.size ≤ maxLen) :
  Calls Tryz.prog 50 #[.int .i64 key, .string s, .int .i64 n] w fun e w' => e = .returned (errV a (rightE key s.data.toList n)) ∧ Below w.heap.size w w' := by
 have HE : Hid (EV slS a w) := h
 clear h
 have HO := of_ev slS rfl rfl a key s w HE.out hs
 rw [key_more] at HO
 by_cases hk : 1 ≤ key ∧ key ≤ 1000000006
 ·
  have em : moreN key key s.data.toList = Mk.mk key key s.data.toList := by simp [moreN, key_more, hk]
  rw [if_pos hk, em] at HO
  have er : rightE key s.data.toList n = if Mk.mk key key s.data.toList = n then 0 else 9 := by simp [rightE, hk]
  rw [er]
  generalize Mk.mk key key s.data.toList = m at *
  have HO' := (show Hid (Calls Tryz.prog 32 #[.int .i64 key, .string s] w fun e w' => e = .returned (.tuple #[.int .i64 m, .nilIface]) ∧ Below w.heap.size w w') from HO)
  clear em er HO hs hk
  by_cases hm : m = n
  ·
   rw [if_pos hm]
   have hm' : (m == n) = true := by simpa using hm
   clear hm
   go_enter Tryz.func50, Tryz.ntmps50
   go_wp2_with (go_at_call 32; refine HO'.out.mono ?_; rintro e w1 ⟨rfl, hb⟩)
   go_ret
   exact ⟨rfl, by assumption⟩
  ·
   rw [if_neg hm]
   have hm' : (m == n) = false := by simpa using hm
   clear hm
   go_enter Tryz.func50, Tryz.ntmps50
   go_wp2_with fail
   refine HO'.out.mono ?_
   rintro e w1 ⟨rfl, hb⟩
   have hv := (HE.out.below hb).var 8 (by decide) rfl
   simp only [errG, List.getD_cons_zero, List.getD_cons_succ] at hv
   have HB : Hid (Below w.heap.size w w1) := hb
   clear hb
   go_wp2
   go_ret
   exact ⟨rfl, HB.out⟩
 ·
  have er : rightE key s.data.toList n = 10 := by simp [rightE, hk]
  rw [if_neg hk] at HO
  rw [er]
  generalize moreN key key s.data.toList = m at *
  have HO' := (show Hid (Calls Tryz.prog 32 #[.int .i64 key, .string s] w fun e w' => e = .returned (.tuple #[.int .i64 m, eV (a 9)]) ∧ Below w.heap.size w w') from HO)
  clear er HO hs hk
  go_enter Tryz.func50, Tryz.ntmps50
  go_wp2_with (go_at_call 32; refine HO'.out.mono ?_; rintro e w1 ⟨rfl, hb⟩)
  go_ret
  exact ⟨rfl, by assumption⟩
theorem right_any (a : Nat → Addr) (key : Int) (s : ByteArray) (n : Int) (w : World) (h : Errs a w) (hs : s.size ≤ maxLen) :
  Calls Tryz.prog 50 #[.int .i64 key, .string s, .int .i64 n] w fun e w' => e = .returned (errV a (rightE key s.data.toList n)) ∧ Below w.heap.size w w' := right_ev a key s n w (h.ev _) hs
end Go.Proofs.YtabpnjchocgakaaGreatDoor

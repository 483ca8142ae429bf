/-
  What package mark's functions answer: More and Of the mark as the document reckons it, ErrKey and ErrBound as it says; Right nil, ErrKey or ErrMark; for every key, number and text up to the longest that can be.
-/
import Derived.Test.YtabpnjchocgakaaGreatDoorCoded
import Derived.Test.YtabpnjchocgakaaGreatDoorPk00
import Derived.Laws.IdiomStrings
import Derived.Deep.QuietTactic
import Derived.BigQuiet
import Derived.WalkSmall
namespace Go.Proofs.YtabpnjchocgakaaGreatDoor
open Go.RowKit Go.Extern.Stop Go.Stop Go.Extern
theorem bytes_of (s : ByteArray) (w : World) : ∃ (C : Array Value) (cap : Nat), (convert 9 237 (.string s)).run Tryz.prog w = .ok (.slice (some ⟨w.heap.size, 0, none⟩) s.size cap) (w.drew.alloc (.cells C 5 (C.size, C.size + 1))) ∧
  ∀ j (hj : j < s.size), C[j]? = some (.int .u8 (s[j].toNat : Int)) :=
 ⟨_, _, run_bytes_of_string (P := Tryz.prog) w 9 237 5 s Tryz.underlying9 Tryz.underlying237 Tryz.underlying5, fun j hj => bytesRow_at s _ j hj⟩
theorem take_snoc (s : ByteArray) (k : Nat) (h : k < s.size) : s.data.toList.take (k + 1) = s.data.toList.take k ++ [s[k]] := by
 rw [List.take_succ_eq_append_getElem (by simpa using h)]; rfl
theorem ret_int {k : IntKind} {a b : Int} (h : a = b) : Ending.returned (.int k a) = .returned (.int k b) := by rw [h]
set_option maxHeartbeats 1000000 in
theorem reckon_any (key n : Int) (s : ByteArray) (w : World) (hk1 : 1 ≤ key) (hk2 : key ≤ 1000000006) (hn1 : 0 ≤ n) (hn2 : n ≤ 1000000006) (hs : s.size ≤ maxLen) :
  Calls Tryz.prog 128 #[.int .i64 key, .int .i64 n, .string s] w fun e w' => e = .returned (.int .i64 (Mk.mk key n s.data.toList)) ∧ Below w.heap.size w w' := by
 obtain ⟨C, cap, hconv, hC⟩ := bytes_of s w
 have HC : Hid (∀ j (hj : j < s.size), (w.alloc (.cells C 5 (C.size, C.size + 1))).drew.cell? ⟨w.heap.size, j, none⟩ = some (.int .u8 (s[j].toNat : Int))) := fun j hj => by
  show (w.alloc (.cells C 5 (C.size, C.size + 1))).cell? ⟨w.heap.size, j, none⟩ = _
  rw [World.cell?_alloc_mark]; exact hC j hj
 have HB : Hid (Below w.heap.size w (w.alloc (.cells C 5 (C.size, C.size + 1))).drew) := ((Below.refl _ _).alloc (Nat.le_refl _) _).drew
 clear hC
 unfold maxLen at hs
 go_enter Tryz.func128, Tryz.ntmps128
 go_wp2
 clear hconv
 generalize (w.alloc (.cells C 5 (C.size, C.size + 1))).drew = w2 at *
 go_loop [7, 16] (fun m i => ∃ k : Nat, k ≤ s.size ∧ i = .int .i64 k ∧ m = .int .i64 (Mk.mk key n (s.data.toList.take k))) (fun _ i => s.size - (intOf i).toNat)
 case atStart => exact ⟨0, Nat.zero_le _, rfl, rfl⟩
 case round =>
  obtain ⟨k, hk, rfl, rfl⟩ := hrel
  obtain ⟨hm1, hm2⟩ := Mk.mk_bd key n ⟨hn1, hn2⟩ (s.data.toList.take k)
  by_cases hlt : k < s.size
  ·
   have hc := HC.out k hlt
   have hb0 : (0 : Int) ≤ (s[k].toNat : Int) := by omega
   have hb1 : (s[k].toNat : Int) ≤ 255 := by have := s[k].toNat_lt; omega
   have HS : Hid (Mk.mk key n (s.data.toList.take (k + 1)) = (Mk.mk key n (s.data.toList.take k) * 257 + (s[k].toNat : Int) + 1 + key) % 1000000007) := by
    show _ = _
    rw [take_snoc s k hlt, Mk.mk_snoc]; rfl
   generalize Mk.mk key n (s.data.toList.take k) = m at *
   generalize (s[k].toNat : Int) = b at *
   go_wp2
   go_round
   case rel => exact ⟨k + 1, by omega, by go_num, by rw [HS.out]⟩
   case measure => simp [intOf]; omega
  ·
   go_wp2
   go_ret
   exact ⟨ret_int (by rw [List.take_of_length_le (by simp; omega)]), HB.out⟩
theorem isKey_yes (key : Int) (w : World) (h1 : 1 ≤ key) (h2 : key ≤ 1000000006) :
  Calls Tryz.prog 127 #[.int .i64 key] w fun e w' => e = .returned (.bool true) ∧ w' = w := by
 go_enter Tryz.func127, Tryz.ntmps127
 go_wp2
 go_ret
 exact ⟨rfl, rfl⟩
theorem isKey_no (key : Int) (w : World) (h : ¬ (1 ≤ key ∧ key ≤ 1000000006)) :
  Calls Tryz.prog 127 #[.int .i64 key] w fun e w' => e = .returned (.bool false) ∧ w' = w := by
 by_cases h1 : 1 ≤ key
 ·
  have h2 : ¬ key ≤ 1000000006 := fun h2 => h ⟨h1, h2⟩
  clear h
  go_enter Tryz.func127, Tryz.ntmps127
  go_wp2
  go_ret
  exact ⟨rfl, rfl⟩
 ·
  clear h
  go_enter Tryz.func127, Tryz.ntmps127
  go_wp2
  go_ret
  exact ⟨rfl, rfl⟩
def errV (a : Nat → Addr) (c : Nat) : Value := if c = 0 then .nilIface else eV (a (c - 1))
theorem errV_zero (a : Nat → Addr) : errV a 0 = .nilIface := rfl
theorem errV_pos (a : Nat → Addr) {c : Nat} (h : c ≠ 0) : errV a c = eV (a (c - 1)) := by unfold errV; rw [if_neg h]
theorem coded_errV (a : Nat → Addr) (c : Nat) (hc : c ≤ 16) (c' : Int) (w : World) (h : Errs a w) :
  Calls Tryz.prog 21 #[errV a c, .int .i64 c'] w fun e w' => e = .returned (.bool (decide ((c : Int) = c'))) ∧ Below w.heap.size w w' := by
 unfold errV
 by_cases h0 : c = 0
 ·
  subst h0
  exact coded_nil c' w
 ·
  rw [if_neg h0]
  have := coded_err a (c - 1) (by omega) c' w h
  rwa [show (((c - 1 : Nat) : Int) + 1) = (c : Int) by omega] at this
def moreE (key n : Int) : Nat := if 1 ≤ key ∧ key ≤ 1000000006 then (if 0 ≤ n ∧ n ≤ 1000000006 then 0 else 2) else 10
def moreN (key n : Int) (l : List UInt8) : Int := if moreE key n = 0 then Mk.mk key n l else 0
def rightE (key : Int) (l : List UInt8) (n : Int) : Nat := if 1 ≤ key ∧ key ≤ 1000000006 then (if Mk.mk key key l = n then 0 else 9) else 10
theorem rightE_le (key : Int) (l : List UInt8) (n : Int) : rightE key l n ≤ 16 := by unfold rightE; split <;> (try split) <;> omega
set_option maxHeartbeats 1000000 in
theorem more_ev (S : Nat → Bool) (hS1 : S 1 = true) (hS9 : S 9 = true) (a : Nat → Addr) (key n : Int) (s : ByteArray) (w : World) (h : EV S a w) (hs : s.size ≤ maxLen) :
  Calls Tryz.prog 82 #[.int .i64 key, .int .i64 n, .string s] w fun e w' => e = .returned (.tuple #[.int .i64 (moreN key n s.data.toList), errV a (moreE key n)]) ∧ Below w.heap.size w w' := by
 by_cases hk : 1 ≤ key ∧ key ≤ 1000000006
 ·
  by_cases hn : 0 ≤ n ∧ n ≤ 1000000006
  ·
   have e1 : moreE key n = 0 := by simp [moreE, hk, hn]
   have e2 : moreN key n s.data.toList = Mk.mk key n s.data.toList := by simp [moreN, e1]
   rw [e1, e2]
   obtain ⟨hk1, hk2⟩ := hk
   obtain ⟨hn1, hn2⟩ := hn
   clear e1 e2 h hS1 hS9
   go_enter Tryz.func82, Tryz.ntmps82
   go_wp2_with fail
   refine (isKey_yes key _ hk1 hk2).mono ?_
   rintro e w1 ⟨rfl, rfl⟩
   go_wp2_with fail
   refine (reckon_any key n s _ hk1 hk2 hn1 hn2 hs).mono ?_
   rintro e w2 ⟨rfl, hb⟩
   go_wp2
   go_ret2
   exact ⟨rfl, hb⟩
  ·
   have e1 : moreE key n = 2 := by simp [moreE, hk, hn]
   have e2 : moreN key n s.data.toList = 0 := by simp [moreN, e1]
   have hv := h.var 1 (by decide) hS1
   simp only [errG, List.getD_cons_zero, List.getD_cons_succ] at hv
   rw [e1, e2]
   obtain ⟨hk1, hk2⟩ := hk
   clear e1 e2 h hs hS1 hS9
   by_cases hn1 : n < 0
   ·
    clear hn
    go_enter Tryz.func82, Tryz.ntmps82
    go_wp2_with (go_at_call 127; refine (isKey_yes key _ hk1 hk2).mono ?_; rintro e w1 ⟨rfl, rfl⟩)
    go_quiet (fail)
    go_wp2
    go_ret2
    exact ⟨rfl, below_drewN (Below.refl _ _) _⟩
   ·
    have hn2 : 1000000007 ≤ n := by omega
    clear hn
    go_enter Tryz.func82, Tryz.ntmps82
    go_wp2_with (go_at_call 127; refine (isKey_yes key _ hk1 hk2).mono ?_; rintro e w1 ⟨rfl, rfl⟩)
    go_quiet (fail)
    go_wp2
    go_ret2
    exact ⟨rfl, below_drewN (Below.refl _ _) _⟩
 ·
  have e1 : moreE key n = 10 := by simp [moreE, hk]
  have e2 : moreN key n s.data.toList = 0 := by simp [moreN, e1]
  have hv := h.var 9 (by decide) hS9
  simp only [errG, List.getD_cons_zero, List.getD_cons_succ] at hv
  rw [e1, e2]
  clear e1 e2 h hs hS1 hS9
  go_enter Tryz.func82, Tryz.ntmps82
  go_wp2_with (go_at_call 127; refine (isKey_no key _ hk).mono ?_; rintro e w1 ⟨rfl, rfl⟩)
  go_quiet (fail)
  go_wp2
  go_ret2
  exact ⟨rfl, below_drewN (Below.refl _ _) _⟩
end Go.Proofs.YtabpnjchocgakaaGreatDoor

/-
  What package seal's helpers answer on bytes: isDigit, isPlain, isOfWord as the document names the bytes; madeOf whether a text is one to most bytes of a kind; Name; firstWrong the first text that is no word, or -1; for every text and slice of texts.
-/
import Derived.Test.YteofodegeigmaaaDoorMarkKey
import Derived.Test.YteofodegeigmaaaDoorSealPlain
import Derived.Deep.LoopGhost
import Derived.Deep.Draws
import Derived.Lib.Walk
import Derived.Shelf.Abstract
namespace Go.Proofs.YteofodegeigmaaaDoor
open Go.RowKit Go.Extern.Stop Go.Stop Go.Extern

theorem isDigit_int (x : Int) (w : World) :
    Calls Tryd.prog 36 #[.int .u8 x] w fun e w' => e = .returned (.bool (decide (48 ≤ x ∧ x ≤ 57))) ∧ w' = w := by
  by_cases h1 : 48 ≤ x
  · by_cases h2 : x ≤ 57
    · rw [decide_eq_true ⟨h1, h2⟩]
      go_enter Tryd.func36, Tryd.ntmps36
      go_wp2
      go_ret
      exact ⟨rfl, rfl⟩
    · rw [decide_eq_false (fun h => h2 h.2)]
      go_enter Tryd.func36, Tryd.ntmps36
      go_wp2
      go_ret
      exact ⟨rfl, rfl⟩
  · rw [decide_eq_false (fun h => h1 h.1)]
    go_enter Tryd.func36, Tryd.ntmps36
    go_wp2
    go_ret
    exact ⟨rfl, rfl⟩

/-- Function g tells of each byte what p tells. -/
def Fits (g : Nat) (p : UInt8 → Bool) : Prop := ∀ (b : UInt8) (w : World), Calls Tryd.prog g #[.int .u8 (b.toNat : Int)] w fun e w' => e = .returned (.bool (p b)) ∧ w' = w
theorem fits_digit : Fits 36 Sl.digB := fun b w => by
  have := isDigit_int (b.toNat : Int) w
  rwa [show decide (48 ≤ (b.toNat : Int) ∧ (b.toNat : Int) ≤ 57) = Sl.digB b by unfold Sl.digB; rw [decide_eq_decide]; omega] at this
/-- The closure in madeOf. -/
theorem made1_any (g : Nat) (p : UInt8 → Bool) (eg : ∀ args w, (callFunc g args).run Tryd.prog w = .ok (.enter g args) w) (hf : Fits g p) (B : Nat) (b : UInt8) (W : World) (hc : W.cell? ⟨B, 0, none⟩ = some (.func (.func g) #[] #[])) :
    Calls Tryd.prog 49 #[.int .u8 (b.toNat : Int), .pointer (some ⟨B, 0, none⟩)] W fun e w' => e = .returned (.bool (!p b)) ∧ ∃ q, w' = W.drewN q := by
  have hcall := hf b
  clear hf
  generalize (b.toNat : Int) = x at hcall ⊢
  generalize p b = r at hcall ⊢
  go_enter Tryd.func49, Tryd.ntmps49
  go_wp2_with (go_at_fn g; refine (hcall _).mono ?_; rintro e w1 ⟨rfl, rfl⟩)
  go_ret
  exact ⟨rfl, 0, rfl⟩

set_option maxHeartbeats 2000000 in
theorem indexFuncB (p : UInt8 → Bool) (G : Nat) (lb : Array Value) (eg : ∀ args w, (callFunc G args).run Tryd.prog w = .ok (.enter G args) w) (b n c : Nat) (l : List UInt8) (w : World)
    (hp : ∀ (x : UInt8) (q : Nat), Calls Tryd.prog G (#[.int .u8 (x.toNat : Int)] ++ lb) (w.drewN q) fun e w' => e = .returned (.bool (p x)) ∧ ∃ q', w' = (w.drewN q).drewN q') (hbig : n ≤ 9223372036854775807) (hn : l.length = n)
    (hc : ∀ j (hj : j < l.length), w.cell? ⟨b, j, none⟩ = some (.int .u8 (l[j].toNat : Int))) :
    Calls Tryd.prog 63 #[.slice (some ⟨b, 0, none⟩) n c, .func (.func G) #[] lb] w fun e w' => ∃ r : Int, e = .returned (.int .i64 r) ∧ decide (0 ≤ r) = l.any p ∧ ∃ q, w' = w.drewN q := by
  have HC := hide hc
  have HP := hide hp
  have HN := hide hn
  clear hc hp hn
  go_enter Tryd.func63, Tryd.ntmps63
  go_wp2
  go_loopg [5, 8] n (fun gg _ s8 wr => ∃ kk q : Nat, kk ≤ n ∧ n - kk ≤ gg ∧ s8 = .int .i64 kk ∧ wr = w.drewN q ∧ Hid (∀ j (hj : j < l.length), j < kk → p l[j] = false))
  case atStart => exact ⟨0, 0, Nat.zero_le _, by omega, rfl, rfl, fun j _ hj => absurd hj (Nat.not_lt_zero _)⟩
  case round =>
    obtain ⟨kk, q, hkk, hg, rfl, rfl, A⟩ := hrel
    by_cases hlt : kk < n
    · have hltz : (kk : Int) < (n : Int) := by omega
      have hl : kk < l.length := by rw [HN.out]; exact hlt
      have hcell := HC.out kk hl
      have hcall := HP.out l[kk]
      cases hq : p l[kk] with
      | true =>
        have HQ := hide hq
        have HL := hide hl
        rw [hq] at hcall
        clear hq
        generalize (l[kk].toNat : Int) = y at hcell hcall
        go_wp2_with (go_at_fn G; refine (hcall _).mono ?_; rintro e w' ⟨rfl, q', rfl⟩)
        go_ret
        refine ⟨_, rfl, ?_, _, rfl⟩
        rw [decide_eq_true (by omega)]
        exact (List.any_eq_true.2 ⟨l[kk]'HL.out, List.getElem_mem _, HQ.out⟩).symm
      | false =>
        have HQ := hide hq
        have HL := hide hl
        rw [hq] at hcall
        clear hq
        generalize (l[kk].toNat : Int) = y at hcell hcall
        go_wp2_with (go_at_fn G; refine (hcall _).mono ?_; rintro e w' ⟨rfl, q', rfl⟩)
        go_roundg (n - (kk + 1))
        case measure => omega
        case rel =>
          refine ⟨kk + 1, _, by omega, by omega, by go_num, rfl, (show Hid _ from fun j hj hjk => ?_)⟩
          by_cases e : j = kk
          · subst e
            exact HQ.out
          · exact A.out j hj (by omega)
    · have hltz : ¬ (kk : Int) < (n : Int) := by omega
      have : kk = n := by omega
      subst this
      go_wp2
      go_ret
      refine ⟨_, rfl, ?_, q, rfl⟩
      have : l.any p = false := by
        rw [List.any_eq_false]
        intro x hx
        obtain ⟨j, hj, rfl⟩ := List.getElem_of_mem hx
        rw [A.out j hj (by rw [← HN.out]; exact hj)]
        decide
      rw [this]
      decide

theorem containsFuncB (p : UInt8 → Bool) (G : Nat) (lb : Array Value) (eg : ∀ args w, (callFunc G args).run Tryd.prog w = .ok (.enter G args) w) (b n c : Nat) (l : List UInt8) (w : World)
    (hp : ∀ (x : UInt8) (q : Nat), Calls Tryd.prog G (#[.int .u8 (x.toNat : Int)] ++ lb) (w.drewN q) fun e w' => e = .returned (.bool (p x)) ∧ ∃ q', w' = (w.drewN q).drewN q') (hbig : n ≤ 9223372036854775807) (hn : l.length = n)
    (hc : ∀ j (hj : j < l.length), w.cell? ⟨b, j, none⟩ = some (.int .u8 (l[j].toNat : Int))) :
    Calls Tryd.prog 48 #[.slice (some ⟨b, 0, none⟩) n c, .func (.func G) #[] lb] w fun e w' => e = .returned (.bool (l.any p)) ∧ ∃ q, w' = w.drewN q := by
  have H := hide (indexFuncB p G lb eg b n c l w hp hbig hn hc)
  clear hp hc hn
  generalize l.any p = r at H ⊢
  go_enter Tryd.func48, Tryd.ntmps48
  go_wp2_with fail
  refine H.out.mono ?_
  rintro e w' ⟨z, rfl, rfl, q, rfl⟩
  go_wp2
  all_goals (go_ret; exact ⟨by simp_all, q, rfl⟩)
end Go.Proofs.YteofodegeigmaaaDoor

/-
  The closed fact of the chapter: a session that is opened ends in a sweep.
-/
import Derived.Test.YteabincmopeljaeGreatDoorSePb
import Derived.Test.YteabincmopeljaeGreatDoorSessLaw
namespace Go.Proofs.YteabincmopeljaeGreatDoor
open Go.RowKit Go.Extern.Stop Go.Stop Go.Extern Go.Proofs

/-- The ticket. -/
def tkA : Tk := ⟨⟨#[97, 110, 110]⟩, ⟨#[100, 111, 111, 114]⟩, 1, 0, 9, 1⟩
def flA : List Fl := [⟨⟨#[97, 110, 110]⟩, 2⟩]
theorem wake_open : openO [] tkA 3 = 0 := by decide
theorem wake_opens : Dk.opens ⟨0, []⟩ tkA 3 = ⟨1, [⟨1, tkA⟩]⟩ := by unfold Dk.opens; rw [if_pos wake_open]; rfl
theorem wake_check : (checkL flA).1 = 0 := by decide
theorem wake_sweep : (sweepC flA 3).1 = 0 := by decide
theorem wake_ends : sweepN flA 3 [⟨1, tkA⟩] = [1] ∧ sweepL flA 3 [⟨1, tkA⟩] = [] := by
  have h : staysO flA 3 ⟨1, tkA⟩ = false := by decide
  unfold sweepN sweepL
  simp [h]

set_option maxRecDepth 100000 in
set_option maxHeartbeats 4000000 in
theorem opened_any (a : Nat → Addr) (W : World) (hE : EV dsS a W) :
    Calls Tryz.prog 4 #[] W fun e w' => e = .returned (.bool true) ∧ Below W.heap.size W w' := by
  have HN := hide (deNew_any W)
  have HE := hide hE
  clear hE
  go_enter Tryz.func4, Tryz.ntmps4
  go_wp2_with fail
  refine HN.out.mono ?_
  rintro e w1 ⟨rfl, hD, hb⟩
  have HD1 := hide hD
  have HB1 := hide hb
  have HO : Hid (Calls Tryz.prog 7 #[.pointer (some ⟨W.heap.size + 1, 0, none⟩), .agg #[.string ⟨#[97, 110, 110]⟩, .string ⟨#[100, 111, 111, 114]⟩, .int .i64 1, .int .i64 0, .int .i64 9, .int .i64 1], .int .i64 3] w1 fun e w' => e = .returned (.tuple #[.int .i64 1, .nilIface]) ∧ DeskPost w1 (W.heap.size + 1) W.heap.size ⟨1, [⟨1, tkA⟩]⟩ w') := by
    have := deOpen_any a (W.heap.size + 1) W.heap.size ⟨0, []⟩ tkA 3 w1 hD (HE.out.below hb) (by show 3 ≤ maxLen; unfold maxLen; omega) (by show 4 ≤ maxLen; unfold maxLen; omega) (by decide)
    rw [wake_opens] at this
    dsimp only at this
    rw [wake_open, if_pos rfl] at this
    exact this
  clear hD hb HN
  go_wp2_with fail
  refine HO.out.mono ?_
  rintro e w2 ⟨rfl, hD, hk⟩
  have HB2 : Hid (Below W.heap.size W w2) := below_kept HB1.out hk (Nat.le_refl _) (by omega)
  have hB3 : Below w2.heap.size w2 (w2.alloc (.cells #[.string ⟨#[97, 110, 110]⟩, .int .i64 2] 61)) := (Below.refl _ _).alloc (Nat.le_refl _) _
  have hF : FlAt (w2.alloc (.cells #[.string ⟨#[97, 110, 110]⟩, .int .i64 2] 61)) (.slice (some ⟨w2.heap.size, 0, none⟩) 1 1) flA := by
    refine Or.inr ⟨w2.heap.size, 0, 1, rfl, Nat.le_refl _, fun j u hj => ?_⟩
    have hr : (w2.alloc (.cells #[.string ⟨#[97, 110, 110]⟩, .int .i64 2] 61)).heap[w2.heap.size]? = some (.cells #[.string ⟨#[97, 110, 110]⟩, .int .i64 2] 61 (0, 0)) := heap_alloc_new _ _
    match j, hj with
    | 0, hj => rw [← hj]; exact cell_of_row _ _ 0 _ _ _ hr
    | 1, hj => rw [← hj]; exact cell_of_row _ _ 1 _ _ _ hr
    | j + 2, hj => rw [List.getElem?_eq_none (show (cellsF flA).length ≤ j + 2 from by show 2 ≤ j + 2; omega)] at hj; cases hj
  have HS : Hid (Calls Tryz.prog 14 #[.pointer (some ⟨W.heap.size + 1, 0, none⟩), .slice (some ⟨w2.heap.size, 0, none⟩) 1 1, .int .i64 3] (w2.alloc (.cells #[.string ⟨#[97, 110, 110]⟩, .int .i64 2] 61)) fun e w' => ∃ x, e = .returned (.tuple #[x, .nilIface]) ∧ NumAt w' x [1] ∧ DeskAt w' (W.heap.size + 1) W.heap.size ⟨1, []⟩ ∧ Below W.heap.size W w') := by
    have h1 := deSweep_ok a (W.heap.size + 1) W.heap.size ⟨1, [⟨1, tkA⟩]⟩ (.slice (some ⟨w2.heap.size, 0, none⟩) 1 1) flA 3 _ (hD.below hB3) (HE.out.below (HB2.out.trans (hB3.mono HB2.out.size))) hF (fun f hf => by
      rw [List.mem_singleton.1 hf]
      show 3 ≤ maxLen
      unfold maxLen; omega) (by decide) wake_sweep
    refine h1.mono ?_
    rintro e w' ⟨x, h1, h2, h3, h4⟩
    dsimp only at h2 h3
    rw [wake_ends.1] at h2
    rw [wake_ends.2] at h3
    exact ⟨x, h1, own_num h2, h3, (HB2.out.trans (hB3.mono HB2.out.size)).grown h4 (Nat.le_trans HB2.out.size hB3.size) (fun k hk => by cases hk; exact Nat.le_refl _)⟩
  clear hD hk hF hB3 HO HD1 HB1
  go_wp2_with fail
  refine HS.out.mono ?_
  rintro e w3 ⟨x, rfl, hx, hD, hb⟩
  have hB4 : Below w3.heap.size w3 (w3.alloc (.cells #[.int .i64 1] 3)) := (Below.refl _ _).alloc (Nat.le_refl _) _
  have HSm := hide (sameNum_any [1] x (.slice (some ⟨w3.heap.size, 0, none⟩) 1 1) (w3.alloc (.cells #[.int .i64 1] 3)) (by decide) (hx.below hB4) ⟨_, 1, rfl, Nat.le_refl _, Or.inr ⟨w3.heap.size, 0, rfl, fun j y hj => by
    match j, hj with
    | 0, hj => rw [← Option.some.inj hj]; exact cell_of_row _ _ 0 _ _ _ (heap_alloc_new w3 _)
    | j + 1, hj => simp at hj⟩⟩)
  have HD4 := hide (hD.below hB4)
  have HB4 : Hid (Below W.heap.size W (w3.alloc (.cells #[.int .i64 1] 3))) := hb.trans (hB4.mono hb.size)
  clear hx hD hb hB4 HS HB2
  go_wp2_with fail
  refine HSm.out.mono ?_
  rintro e w5 ⟨rfl, hb⟩
  have HA := hide (deAll_any (W.heap.size + 1) W.heap.size ⟨1, []⟩ w5 (HD4.out.below hb))
  have HB5 : Hid (Below W.heap.size W w5) := HB4.out.trans (hb.mono HB4.out.size)
  clear hb HSm
  go_wp2_with fail
  refine HA.out.mono ?_
  rintro e w6 ⟨y, rfl, hy, hb⟩
  obtain ⟨ad, c, rfl, _⟩ := own_num hy
  have HB6 : Hid (Below W.heap.size W w6) := HB5.out.trans (hb.mono HB5.out.size)
  clear hb hy HA
  go_wp2
  go_ret
  exact ⟨rfl, HB6.out⟩
end Go.Proofs.YteabincmopeljaeGreatDoor

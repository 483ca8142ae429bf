/-
  What the document's answer's JoinFloors gives, for any two lists: the same list and the same fault as the program's Join.
-/
import Derived.Test.YtgkkffcbneabkabGreatDoorFloorRefJoin0
namespace Go.Proofs.YtgkkffcbneabkabGreatDoor
open Go Go.RowKit Go.Extern.Stop Go.Stop Go.Extern Go.Proofs

attribute [local go_sem] Oper.semAt_some

set_option maxRecDepth 100000 in
set_option maxHeartbeats 16000000 in
theorem refJoin_any (v1 v2 : Value) (A B : List Fl) (w : World) (hv1 : FlAt w v1 A) (hv2 : FlAt w v2 B) (hs1 : ∀ g ∈ A, g.who.size ≤ maxLen) (hs2 : ∀ g ∈ B, g.who.size ≤ maxLen) (hl1 : A.length ≤ 100000) (hl2 : B.length ≤ 100000) :
    Calls Tryz.prog 37 #[v1, v2] w fun e w' => FltPost (joinC A B) (joinR A B) w w' e := by
  have HFA := hide (fun w h => refFault_any v1 A w h hs1 (by omega))
  have HFB := hide (fun w h => refFault_any v2 B w h hs2 (by omega))
  have HBare := hide (fun c w => bare_any c w)
  have HFine := hide (fun w => fine_any w)
  have HW0 : Hid (Below w.heap.size w (w.alloc flt0) ∧ (w.alloc flt0).heap[w.heap.size]? = some flt0) := ⟨(Below.refl _ _).alloc (Nat.le_refl _) _, heap_alloc_new _ _⟩
  have HR : Hid (joinC A B = if (checkL A).1 = 0 then (if (checkL B).1 = 0 then checkL (joinL A B) else checkL B) else checkL A) := rfl
  have HRR : Hid (joinR A B = if (joinC A B).1 = 0 then joinL A B else []) := rfl
  have HV1 := hide hv1
  have HV2 := hide hv2
  have HS1 := hide hs1
  have HS2 := hide hs2
  clear hv1 hv2 hs1 hs2
  by_cases h1 : (checkL A).1 = 0
  · obtain ⟨hA, nA⟩ := right_of_check h1
    have hck : checkL A = (0, -1) := by rw [check_right hA, if_neg (by omega)]
    rw [if_pos h1] at HR
    rw [hck] at HFA
    clear h1 hck
    by_cases h2 : (checkL B).1 = 0
    · obtain ⟨hB, nB⟩ := right_of_check h2
      exact refJoin_right v1 v2 A B w HV1.out HV2.out hA hB nA nB HS1.out HS2.out
    · rw [if_neg h2] at HR
      rw [HR.out, if_neg h2] at HRR
      rw [HR.out, HRR.out]
      clear HR HRR
      have hq : (((checkL B).1 : Int) == 0) = false := by rw [beq_eq_false_iff_ne]; omega
      have hq2 : (0 : Int) < ((checkL B).1 : Int) := by omega
      generalize checkL B = c at *
      clear h2
      go_enter Tryz.func37, Tryz.ntmps37
      go_wp2_with fail
      refine (HFA.out _ (HV1.out.below HW0.out.1)).mono ?_
      rintro e w1 ⟨rfl, hb⟩
      have HB1 : Hid (Below w.heap.size w w1) := HW0.out.1.trans (hb.mono HW0.out.1.size)
      have HR1 : Hid (w1.heap[w.heap.size]? = some flt0) := (hb.block _ (row_lt HW0.out.2)).trans HW0.out.2
      clear hb HFA HW0
      have HV2b : Hid (FlAt (w1.alloc (.cells #[.int .i64 0, .int .i64 (-1)] 55)) v2 B) := (HV2.out.below HB1.out).below ((Below.refl _ _).alloc (Nat.le_refl _) _)
      go_wp2_with fail
      refine (HFB.out _ HV2b.out).mono ?_
      rintro e w4 ⟨rfl, hb4⟩
      have HB4 : Hid (Below (w1.heap.size + 1) (w1.alloc (.cells #[.int .i64 0, .int .i64 (-1)] 55)) w4) := by
        have h3 := hb4
        rwa [World.size_alloc] at h3
      have HG4 : Hid (w4.heap[w1.heap.size]? = some (.cells #[.int .i64 0, .int .i64 (-1)] 55 (0, 0))) := (HB4.out.block _ (by omega)).trans (heap_alloc_new _ _)
      have HO4 : Hid (∀ k, k < w1.heap.size → w4.heap[k]? = w1.heap[k]?) := fun k hk => (HB4.out.block k (by omega)).trans (Below.heap_alloc _ _ _ hk)
      clear hb4 HFB HV2b
      have g0 : w4.cell? ⟨w1.heap.size, 0, none⟩ = some (.int .i64 0) := cell_of_row w4 _ 0 _ _ _ HG4.out
      have g1 : w4.cell? ⟨w1.heap.size, 1, none⟩ = some (.int .i64 (-1)) := cell_of_row w4 _ 1 _ _ _ HG4.out
      have gz0 : w4.frozen? ⟨w1.heap.size, 0, none⟩ = false := frozen_of_row w4 _ 0 _ _ HG4.out
      have gz1 : w4.frozen? ⟨w1.heap.size, 1, none⟩ = false := frozen_of_row w4 _ 1 _ _ HG4.out
      go_wp2
      obtain ⟨X, hX⟩ : ∃ X, (w4.setCell ⟨w1.heap.size, 0, none⟩ (.int .i64 (c.1 : Int))).setCell ⟨w1.heap.size, 0 + 1, none⟩ (.int .i64 c.2) = X := ⟨_, rfl⟩
      have HG : Hid (X.heap[w1.heap.size]? = some (.cells #[.int .i64 (c.1 : Int), .int .i64 c.2] 55 (0, 0))) := by rw [← hX]; exact set2_row HG4.out _ _
      have HOX : Hid (∀ k, k < w1.heap.size → X.heap[k]? = w1.heap[k]?) := fun k hk => by
        rw [← hX, heap_setCell_other _ ⟨w1.heap.size, 0 + 1, none⟩ k _ (by show k ≠ w1.heap.size; omega), heap_setCell_other _ ⟨w1.heap.size, 0, none⟩ k _ (by show k ≠ w1.heap.size; omega)]
        exact HO4.out k hk
      have HBX : Hid (Below w.heap.size w X) := by
        rw [← hX]
        have hs := HB1.out.size
        have hb5 : Below w.heap.size w w4 := (HB1.out.alloc hs (.cells #[.int .i64 0, .int .i64 (-1)] 55)).trans (HB4.out.mono (by omega))
        exact (hb5.setCell (p := ⟨w1.heap.size, 0, none⟩) hs _).setCell (p := ⟨w1.heap.size, 0 + 1, none⟩) hs _
      have HRX : Hid (X.heap[w.heap.size]? = some flt0) := (HOX.out _ (row_lt HR1.out)).trans HR1.out
      clear g0 g1 gz0 gz1 HG4 HO4 HB4
      rw [hX]
      clear hX
      have x0 : X.cell? ⟨w1.heap.size, 0, none⟩ = some (.int .i64 (c.1 : Int)) := cell_of_row X _ 0 _ _ _ HG.out
      have x1 : X.cell? ⟨w1.heap.size, 1, none⟩ = some (.int .i64 c.2) := cell_of_row X _ 1 _ _ _ HG.out
      have y0 : X.drew.cell? ⟨w1.heap.size, 0, none⟩ = some (.int .i64 (c.1 : Int)) := x0
      have y1 : X.drew.cell? ⟨w1.heap.size, 1, none⟩ = some (.int .i64 c.2) := x1
      have r0 : X.cell? ⟨w.heap.size, 0, none⟩ = some (.int .i64 0) := cell_of_row X _ 0 _ _ _ HRX.out
      have r1 : X.cell? ⟨w.heap.size, 1, none⟩ = some (.int .i64 0) := cell_of_row X _ 1 _ _ _ HRX.out
      have s0 : X.drew.cell? ⟨w.heap.size, 0, none⟩ = some (.int .i64 0) := r0
      have s1 : X.drew.cell? ⟨w.heap.size, 1, none⟩ = some (.int .i64 0) := r1
      have z0 : X.frozen? ⟨w.heap.size, 0, none⟩ = false := frozen_of_row X _ 0 _ _ HRX.out
      have z1 : X.frozen? ⟨w.heap.size, 1, none⟩ = false := frozen_of_row X _ 1 _ _ HRX.out
      have q0 : X.drew.frozen? ⟨w.heap.size, 0, none⟩ = false := z0
      have q1 : X.drew.frozen? ⟨w.heap.size, 1, none⟩ = false := z1
      go_region
      all_goals
        go_wp2
        refine joinEnd w.heap.size _ rfl (set2_row (w := X.drew) HRX.out _ _) rfl rfl ?_
        exact ⟨⟨_, rfl, Or.inl ⟨none, 0, rfl, rfl⟩⟩, (HBX.out.drew.setCell (p := ⟨w.heap.size, 0, none⟩) (Nat.le_refl _) _).setCell (p := ⟨w.heap.size, 0 + 1, none⟩) (Nat.le_refl _) _⟩
  · rw [if_neg h1] at HR
    rw [HR.out, if_neg h1] at HRR
    rw [HR.out, HRR.out]
    clear HR HRR
    have hq : (((checkL A).1 : Int) == 0) = false := by rw [beq_eq_false_iff_ne]; omega
    have hq2 : (0 : Int) < ((checkL A).1 : Int) := by omega
    generalize checkL A = c at *
    clear h1
    go_enter Tryz.func37, Tryz.ntmps37
    go_wp2_with fail
    refine (HFA.out _ (HV1.out.below HW0.out.1)).mono ?_
    rintro e w1 ⟨rfl, hb⟩
    have HB1 : Hid (Below w.heap.size w w1) := HW0.out.1.trans (hb.mono HW0.out.1.size)
    have HR1 : Hid (w1.heap[w.heap.size]? = some flt0) := (hb.block _ (row_lt HW0.out.2)).trans HW0.out.2
    clear hb HFA HW0
    go_wp2
    obtain ⟨X, hX⟩ : ∃ X, w1.alloc (.cells #[.int .i64 (c.1 : Int), .int .i64 c.2] 55) = X := ⟨_, rfl⟩
    have HBX : Hid (Below w.heap.size w X) := by rw [← hX]; exact HB1.out.alloc HB1.out.size _
    have HG : Hid (X.heap[w1.heap.size]? = some (.cells #[.int .i64 (c.1 : Int), .int .i64 c.2] 55 (0, 0))) := by rw [← hX]; exact heap_alloc_new _ _
    have HRX : Hid (X.heap[w.heap.size]? = some flt0) := by rw [← hX]; exact (Below.heap_alloc _ _ _ (row_lt HR1.out)).trans HR1.out
    rw [hX]
    clear hX
    have x0 : X.cell? ⟨w1.heap.size, 0, none⟩ = some (.int .i64 (c.1 : Int)) := cell_of_row X _ 0 _ _ _ HG.out
    have x1 : X.cell? ⟨w1.heap.size, 1, none⟩ = some (.int .i64 c.2) := cell_of_row X _ 1 _ _ _ HG.out
    have y0 : X.drew.cell? ⟨w1.heap.size, 0, none⟩ = some (.int .i64 (c.1 : Int)) := x0
    have y1 : X.drew.cell? ⟨w1.heap.size, 1, none⟩ = some (.int .i64 c.2) := x1
    have r0 : X.cell? ⟨w.heap.size, 0, none⟩ = some (.int .i64 0) := cell_of_row X _ 0 _ _ _ HRX.out
    have r1 : X.cell? ⟨w.heap.size, 1, none⟩ = some (.int .i64 0) := cell_of_row X _ 1 _ _ _ HRX.out
    have s0 : X.drew.cell? ⟨w.heap.size, 0, none⟩ = some (.int .i64 0) := r0
    have s1 : X.drew.cell? ⟨w.heap.size, 1, none⟩ = some (.int .i64 0) := r1
    have z0 : X.frozen? ⟨w.heap.size, 0, none⟩ = false := frozen_of_row X _ 0 _ _ HRX.out
    have z1 : X.frozen? ⟨w.heap.size, 1, none⟩ = false := frozen_of_row X _ 1 _ _ HRX.out
    have q0 : X.drew.frozen? ⟨w.heap.size, 0, none⟩ = false := z0
    have q1 : X.drew.frozen? ⟨w.heap.size, 1, none⟩ = false := z1
    go_region
    all_goals
      go_wp2
      refine joinEnd w.heap.size _ rfl (set2_row (w := X.drew) HRX.out _ _) rfl rfl ?_
      exact ⟨⟨_, rfl, Or.inl ⟨none, 0, rfl, rfl⟩⟩, (HBX.out.drew.setCell (p := ⟨w.heap.size, 0, none⟩) (Nat.le_refl _) _).setCell (p := ⟨w.heap.size, 0 + 1, none⟩) (Nat.le_refl _) _⟩
end Go.Proofs.YtgkkffcbneabkabGreatDoor

/-
  The call of Names returns true wherever the sixteen errors lie as the program lays them; nothing that was there changes.
-/
import Derived.Test.YtpohajdgoaobfaaDoorCoded
import Derived.Test.YtpohajdgoaobfaaDoorInts
namespace Go.Proofs.YtpohajdgoaobfaaDoor
open Go.RowKit Go.Extern.Stop Go.Stop Go.Extern

/-- errors.New: a new block. -/
theorem errors_New (s : ByteArray) (w : World) :
    Calls Tryd.prog 9 #[.string s] w fun e w' => e = .returned (eV ⟨w.heap.size, 0, none⟩) ∧ w' = w.alloc (.cells #[.string s] 50) := by
  go_enter Tryd.func9, Tryd.ntmps9
  go_wp2
  go_ret
  exact ⟨rfl, rfl⟩

def numsL : List Int := [8, 1000000006, 1073741824, 1000000, 20, 60, 40, 10, 4000, 262144, 80, 16]
def numsBlock : Obj := .cells #[.int .i64 8, .int .i64 1000000006, .int .i64 1073741824, .int .i64 1000000, .int .i64 20, .int .i64 60, .int .i64 40, .int .i64 10, .int .i64 4000, .int .i64 262144, .int .i64 80, .int .i64 16] 3 (0, 0)
theorem numsBlock_cell (w : World) (k : Nat) (hk : k < 12) : (w.alloc numsBlock).cell? ⟨w.heap.size, k, none⟩ = some (.int .i64 (numsL.getD k 0)) := by
  have : k = 0 ∨ k = 1 ∨ k = 2 ∨ k = 3 ∨ k = 4 ∨ k = 5 ∨ k = 6 ∨ k = 7 ∨ k = 8 ∨ k = 9 ∨ k = 10 ∨ k = 11 := by omega
  unfold numsBlock numsL
  rcases this with rfl | rfl | rfl | rfl | rfl | rfl | rfl | rfl | rfl | rfl | rfl | rfl <;> simp

theorem names_same (w : World) :
    Calls Tryd.prog 6 #[.slice (some ⟨w.heap.size, 0, none⟩) 12 12, .slice (some ⟨w.heap.size + 1, 0, none⟩) 12 12] ((w.alloc numsBlock).alloc numsBlock) fun e w' => e = .returned (.bool true) ∧ Below w.heap.size w w' := by
  refine (sameInts_eq numsL 12 w.heap.size 0 12 (w.heap.size + 1) 0 12 _ (by decide) (fun j hj => ?_) (fun j hj => ?_)).mono ?_
  · rw [Nat.zero_add, World.cell?_alloc_lt _ _ ⟨w.heap.size, j, none⟩ (by simp)]
    exact numsBlock_cell w j hj
  · have := numsBlock_cell (w.alloc numsBlock) j hj
    simpa using this
  · rintro e w' ⟨rfl, hb⟩
    exact ⟨rfl, (((Below.refl _ _).alloc (Nat.le_refl _) _).alloc (by simp) _).trans (hb.mono (by simp; omega))⟩

set_option maxHeartbeats 2000000 in
theorem names_walk (a : Nat → Addr) (w : World) (h : Errs a w) :
    Calls Tryd.prog 3 #[] w fun e w' => e = .returned (.bool true) ∧ Below w.heap.size w w' := by
  have HE : Hid (Errs a w) := h
  clear h
  go_enter Tryd.func3, Tryd.ntmps3
  go_wp2_with fail
  refine (names_same w).mono ?_
  rintro e w1 ⟨rfl, hb⟩
  have h1 : Errs a w1 := HE.out.below hb
  have HB : Hid (Below w.heap.size w w1) := hb
  have v0 := h1.var 0 (by decide)
  have v1 := h1.var 1 (by decide)
  have v2 := h1.var 2 (by decide)
  have v3 := h1.var 3 (by decide)
  have v4 := h1.var 4 (by decide)
  have v5 := h1.var 5 (by decide)
  have v6 := h1.var 6 (by decide)
  have v7 := h1.var 7 (by decide)
  have v8 := h1.var 8 (by decide)
  have v9 := h1.var 9 (by decide)
  have v10 := h1.var 10 (by decide)
  have v11 := h1.var 11 (by decide)
  have v12 := h1.var 12 (by decide)
  have v13 := h1.var 13 (by decide)
  have v14 := h1.var 14 (by decide)
  have v15 := h1.var 15 (by decide)
  simp only [errG, List.getD_cons_zero, List.getD_cons_succ] at v0 v1 v2 v3 v4 v5 v6 v7 v8 v9 v10 v11 v12 v13 v14 v15
  have hw2 : Below w.heap.size w (w1.alloc (errsBlock a)) := hb.alloc hb.size _
  have HC : Hid (∀ k, k < 16 → (w1.alloc (errsBlock a)).cell? ⟨w1.heap.size, k, none⟩ = some (eV (a k))) := errsBlock_cell a w1
  have HW : Hid (Below w.heap.size w (w1.alloc (errsBlock a))) := hw2
  have hz : w1.heap.size < (w1.alloc (errsBlock a)).heap.size := by simp
  clear h1 hb hw2
  go_wp2_with fail
  have HN : Hid (w1.alloc (errsBlock a) = w1.alloc (.cells #[eV (a 0), eV (a 1), eV (a 2), eV (a 3), eV (a 4), eV (a 5), eV (a 6), eV (a 7), eV (a 8), eV (a 9), eV (a 10), eV (a 11), eV (a 12), eV (a 13), eV (a 14), eV (a 15)] 25 (0, 0))) := rfl
  rw [← HN.out]
  clear v0 v1 v2 v3 v4 v5 v6 v7 v8 v9 v10 v11 v12 v13 v14 v15 HN
  generalize w1.alloc (errsBlock a) = w2 at *
  go_loopw [4] (fun c wr => ∃ k : Nat, k ≤ 16 ∧ c = .int .i64 k ∧ Below w2.heap.size w2 wr) (fun c _ => 16 - (intOf c).toNat)
  case atStart => exact ⟨0, by omega, rfl, Below.refl _ _⟩
  case round =>
    obtain ⟨k, hk, rfl, hbl⟩ := hrel
    have HBl : Hid (Below w2.heap.size w2 wr) := hbl
    by_cases hlt : k < 16
    · have hcell : wr.cell? ⟨w1.heap.size, k, none⟩ = some (eV (a k)) := by rw [hbl.cell (p := ⟨w1.heap.size, k, none⟩) hz]; exact HC.out k hlt
      have hwr : Below w.heap.size w wr := HW.out.trans (hbl.mono (by have := HW.out.size; omega))
      have hbF : Below w.heap.size w (wr.alloc (.cells #[.int .i64 7, eV (a k)] 31)) := hwr.alloc hwr.size _
      have HEF : Hid (Errs a (wr.alloc (.cells #[.int .i64 7, eV (a k)] 31))) := HE.out.below hbF
      clear hbl hwr hbF
      go_wp2_with fail
      refine (code_at a k hlt wr.heap.size 0 7 _ HEF.out (by simp) (by simp)).mono ?_
      rintro e w3 ⟨rfl, hb3⟩
      have hb3' : Below wr.heap.size wr w3 := ((Below.refl _ _).alloc (Nat.le_refl _) _).trans (hb3.mono (by simp))
      have hbl3 : Below w2.heap.size w2 w3 := HBl.out.trans (hb3'.mono HBl.out.size)
      have hcell3 : w3.cell? ⟨w1.heap.size, k, none⟩ = some (eV (a k)) := by rw [hbl3.cell (p := ⟨w1.heap.size, k, none⟩) hz]; exact HC.out k hlt
      have hE3 : Hid (Errs a w3) := HE.out.below (HW.out.trans (hbl3.mono (by have := HW.out.size; omega)))
      have HBl3 : Hid (Below w2.heap.size w2 w3) := hbl3
      clear hb3 hb3' hbl3 HEF
      go_wp2_with fail
      refine (coded_err a k hlt _ _ hE3.out).mono ?_
      rintro e w4 ⟨rfl, hb4⟩
      have HB4 : Hid (Below w2.heap.size w2 w4) := HBl3.out.trans (hb4.mono HBl3.out.size)
      clear hb4
      go_wp2
      go_roundw
      case rel => exact ⟨k + 1, by omega, by go_num, HB4.out⟩
      case measure => simp [intOf]; omega
    · clear hbl
      go_wp2_with fail
      refine (errors_New _ _).mono ?_
      rintro e w3 ⟨rfl, hw3⟩
      have hwr : Below w.heap.size w wr := HW.out.trans (HBl.out.mono (by have := HW.out.size; omega))
      have hEr : Errs a wr := HE.out.below hwr
      have hb3 : Below wr.heap.size wr w3 := by rw [hw3]; exact (Below.refl _ _).alloc (Nat.le_refl _) _
      have hrow : w3.heap[wr.heap.size]? = some (.cells #[.string ⟨#[97, 110, 111, 116, 104, 101, 114, 32, 111, 110, 101]⟩] 50 (0, 0)) := by rw [hw3]; exact alloc_row _ _
      have hE3 : Errs a w3 := hEr.below hb3
      have hz3 : wr.heap.size < w3.heap.size := by rw [hw3]; simp
      have hcd := code_plain a ⟨wr.heap.size, 0, none⟩ 16 w3 hE3 (fun w' hb => (hE3.below hb).isAt_new _ _ _ (by rw [hb.block _ hz3]; exact hrow) (fun i hi e => by
        obtain ⟨c, t, hc⟩ := hEr.row i hi
        have := row_lt hc
        rw [← e] at this
        exact Nat.lt_irrefl _ this))
      have HB3 : Hid (Below w.heap.size w w3) := hwr.trans (hb3.mono hwr.size)
      clear hw3 hwr hEr hb3 hrow hE3 hz3
      go_wp2_with fail
      refine hcd.mono ?_
      rintro e w4 ⟨rfl, hb4⟩
      have HB4 : Hid (Below w.heap.size w w4) := HB3.out.trans (hb4.mono HB3.out.size)
      clear hb4 hcd
      simp only [codeOf]
      go_wp2_with fail
      refine (coded_nil _ _).mono ?_
      rintro e w5 ⟨rfl, hb5⟩
      have HB5 : Hid (Below w.heap.size w w5) := HB4.out.trans (hb5.mono HB4.out.size)
      clear hb5
      go_wp2
      go_ret
      exact ⟨rfl, HB5.out⟩
end Go.Proofs.YtpohajdgoaobfaaDoor

/-
  What package seal's madeOf, Name, Word and firstWrong answer: whether a text is one to most bytes of a kind; whether it is a name, or a word; the first text of a slice that is no word, or -1; and what isCount and keyError answer; for every text, slice and key.
-/
import Derived.Test.YteofodegeigmaaaDoorSealMade
namespace Go.Proofs.YteofodegeigmaaaDoor
open Go.RowKit Go.Extern.Stop Go.Stop Go.Extern

theorem cell_drewN (w : World) (q : Nat) (p : Addr) : (w.drewN q).cell? p = w.cell? p := rfl

set_option maxRecDepth 100000 in
set_option maxHeartbeats 1000000 in
theorem madeOf_any (g : Nat) (p : UInt8 → Bool) (eg : ∀ args w, (callFunc g args).run Tryd.prog w = .ok (.enter g args) w) (hf : Fits g p) (s : ByteArray) (most : Nat) (w : World) (hs : s.size ≤ maxLen) :
    Calls Tryd.prog 35 #[.string s, .int .i64 most, .func (.func g) #[] #[]] w fun e w' => e = .returned (.bool (Sl.madeL p most s.data.toList)) ∧ Below w.heap.size w w' := by
  have el : s.data.toList.length = s.size := size_list s
  unfold maxLen at hs
  by_cases h1 : 1 ≤ s.size
  · by_cases h2 : s.size ≤ most
    · have er : Sl.madeL p most s.data.toList = s.data.toList.all p := by
        unfold Sl.madeL
        rw [el, decide_eq_true ⟨h1, h2⟩]
        rfl
      rw [er]
      clear er
      obtain ⟨w6, cap, hconv, hcell, hfr, hb6, hz6⟩ := bytes_at s (w.alloc (.cells #[.func (.func g) #[] #[]] 73))
      have hcl : w6.cell? ⟨w.heap.size, 0, none⟩ = some (.func (.func g) #[] #[]) := by
        rw [hb6.cell (p := ⟨w.heap.size, 0, none⟩) (by simp)]
        simp
      have e58 : ∀ args w, (callFunc 49 args).run Tryd.prog w = .ok (.enter 49 args) w := enters_of Tryd.func49 (by kernel_rfl) rfl
      have hcon := containsFuncB (fun b => !p b) 49 #[.pointer (some ⟨w.heap.size, 0, none⟩)] e58 (w.heap.size + 1) s.size cap s.data.toList w6
        (fun x q => made1_any g p eg hf w.heap.size x (w6.drewN q) hcl) hs el (fun j hj => by
          have hj' : j < s.size := by rw [← el]; exact hj
          have := hcell j hj'
          rw [show (w.alloc (.cells #[.func (.func g) #[] #[]] 73)).heap.size = w.heap.size + 1 by simp] at this
          exact this)
      rw [show s.data.toList.all p = !s.data.toList.any (fun b => !p b) by rw [List.all_eq_not_any_not]]
      generalize s.data.toList.any (fun b => !p b) = r at hcon ⊢
      rw [show (w.alloc (.cells #[.func (.func g) #[] #[]] 73)).heap.size = w.heap.size + 1 by simp] at hconv
      have HC := hide hcon
      have HB : Hid (Below w.heap.size w w6) := ((Below.refl _ w).alloc (Nat.le_refl _) _).trans (hb6.mono (by simp))
      clear hcon hcell hfr hb6 hz6 hcl e58 hf el
      go_enter Tryd.func35, Tryd.ntmps35
      go_wp2_with fail
      refine HC.out.mono ?_
      rintro e w' ⟨rfl, q, rfl⟩
      go_wp2
      go_ret
      exact ⟨rfl, below_drewN HB.out _⟩
    · have er : Sl.madeL p most s.data.toList = false := by
        unfold Sl.madeL
        rw [el, decide_eq_false (fun h => h2 h.2)]
        rfl
      rw [er]
      clear er el hf
      go_enter Tryd.func35, Tryd.ntmps35
      go_wp2
      go_ret
      exact ⟨rfl, (Below.refl _ w).alloc (Nat.le_refl _) _⟩
  · have er : Sl.madeL p most s.data.toList = false := by
      unfold Sl.madeL
      rw [el, decide_eq_false (fun h => h1 h.1)]
      rfl
    rw [er]
    clear er el hf
    go_enter Tryd.func35, Tryd.ntmps35
    go_wp2
    go_ret
    exact ⟨rfl, (Below.refl _ w).alloc (Nat.le_refl _) _⟩

/-- The texts of a slice: n of them at a place of a block. -/
def Texts (w : World) (b o : Nat) (xs : List ByteArray) : Prop := ∀ j (hj : j < xs.length), w.cell? ⟨b, o + j, none⟩ = some (.string xs[j])
theorem Texts.lt {w : World} {b o : Nat} {xs : List ByteArray} (h : Texts w b o xs) (hn : 0 < xs.length) : b < w.heap.size := cell_lt (h 0 hn)
theorem Texts.below {w w' : World} {b o : Nat} {xs : List ByteArray} (h : Texts w b o xs) (hb : Below w.heap.size w w') : Texts w' b o xs := fun j hj => by
  rw [hb.cell (p := ⟨b, o + j, none⟩) (cell_lt (h j hj))]; exact h j hj

/-- The first text that is no word, as a number: -1 where all are. -/
def wrongI (xs : List ByteArray) : Int := match xs.findIdx? (fun x => !Sl.wordL x.data.toList) with | some i => (i : Int) | none => -1
theorem wrongI_some (xs : List ByteArray) (k : Nat) (hk : k < xs.length) (h : Sl.wordL xs[k].data.toList = false) (hb : ∀ j (hj : j < xs.length), j < k → Sl.wordL xs[j].data.toList = true) : wrongI xs = k := by
  have : xs.findIdx? (fun x => !Sl.wordL x.data.toList) = some k := by
    rw [List.findIdx?_eq_some_iff_getElem]
    refine ⟨hk, by simp [h], fun j hj => by simp [hb j (by omega) hj]⟩
  unfold wrongI
  rw [this]
theorem wrongI_none (xs : List ByteArray) (h : ∀ j (hj : j < xs.length), Sl.wordL xs[j].data.toList = true) : wrongI xs = -1 := by
  have : xs.findIdx? (fun x => !Sl.wordL x.data.toList) = none := by
    rw [List.findIdx?_eq_none_iff]
    intro x hx
    obtain ⟨j, hj, rfl⟩ := List.getElem_of_mem hx
    simp [h j hj]
  unfold wrongI
  rw [this]

end Go.Proofs.YteofodegeigmaaaDoor

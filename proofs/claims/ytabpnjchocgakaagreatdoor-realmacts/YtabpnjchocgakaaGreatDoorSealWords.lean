/-
  What package seal's madeOf, Name, Word and firstWrong answer: whether a text is one to most bytes of a kind; whether it is a name, or a word; the first text of a slice that is no word, or -1; and what isCount and keyError answer; for every text, slice and key.
-/
import Derived.Test.YtabpnjchocgakaaGreatDoorSealMade
namespace Go.Proofs.YtabpnjchocgakaaGreatDoor
open Go.RowKit Go.Extern.Stop Go.Stop Go.Extern
set_option maxRecDepth 100000 in
set_option maxHeartbeats 1000000 in
theorem madeOf_any (g : Nat) (p : UInt8 → Bool) (eg : ∀ args w, (callFunc g args).run Tryz.prog w = .ok (.enter g args) w) (hf : Fits g p) (s : ByteArray) (most : Nat) (w : World) (hs : s.size ≤ maxLen) :
  Calls Tryz.prog 154 #[.string s, .int .i64 most, .func (.func g) #[] #[]] w fun e w' => e = .returned (.bool (Sl.madeL p most s.data.toList)) ∧ Below w.heap.size w w' := by
 have el : s.data.toList.length = s.size := size_list s
 unfold maxLen at hs
 by_cases h1 : 1 ≤ s.size
 ·
  by_cases h2 : s.size ≤ most
  ·
   have er : Sl.madeL p most s.data.toList = s.data.toList.all p := by
    unfold Sl.madeL
    rw [el, decide_eq_true ⟨h1, h2⟩]
    rfl
   rw [er]
   clear er
   obtain ⟨w6, cap, hconv, hcell, hfr, hb6, hz6⟩ := bytes_at s (w.alloc (.cells #[.func (.func g) #[] #[]] 214))
   have hcl : w6.cell? ⟨w.heap.size, 0, none⟩ = some (.func (.func g) #[] #[]) := by
    rw [hb6.cell (p := ⟨w.heap.size, 0, none⟩) (by simp)]
    simp
   have e58 : ∀ args w, (callFunc 197 args).run Tryz.prog w = .ok (.enter 197 args) w := enters_of Tryz.func197 (by kernel_rfl) rfl
   have hcon := containsFuncB (fun b => !p b) 197 #[.pointer (some ⟨w.heap.size, 0, none⟩)] e58 (w.heap.size + 1) s.size cap s.data.toList w6
    (fun x q => made1_any g p eg hf w.heap.size x (w6.drewN q) hcl) hs el (fun j hj => by
     have hj' : j < s.size := by rw [← el]; exact hj
     have := hcell j hj'
     rw [show (w.alloc (.cells #[.func (.func g) #[] #[]] 214)).heap.size = w.heap.size + 1 by simp] at this
     exact this)
   rw [show s.data.toList.all p = !s.data.toList.any (fun b => !p b) by rw [List.all_eq_not_any_not]]
   generalize s.data.toList.any (fun b => !p b) = r at hcon ⊢
   rw [show (w.alloc (.cells #[.func (.func g) #[] #[]] 214)).heap.size = w.heap.size + 1 by simp] at hconv
   have HC := hide hcon
   have HB : Hid (Below w.heap.size w w6) := ((Below.refl _ w).alloc (Nat.le_refl _) _).trans (hb6.mono (by simp))
   clear hcon hcell hfr hb6 hz6 hcl e58 hf el
   go_enter Tryz.func154, Tryz.ntmps154
   go_wp2_with fail
   refine HC.out.mono ?_
   rintro e w' ⟨rfl, q, rfl⟩
   go_wp2
   go_ret
   exact ⟨rfl, below_drewN HB.out _⟩
  ·
   have er : Sl.madeL p most s.data.toList = false := by
    unfold Sl.madeL
    rw [el, decide_eq_false (fun h => h2 h.2)]
    rfl
   rw [er]
   clear er el hf
   go_enter Tryz.func154, Tryz.ntmps154
   go_wp2
   go_ret
   exact ⟨rfl, (Below.refl _ w).alloc (Nat.le_refl _) _⟩
 ·
  have er : Sl.madeL p most s.data.toList = false := by
   unfold Sl.madeL
   rw [el, decide_eq_false (fun h => h1 h.1)]
   rfl
  rw [er]
  clear er el hf
  go_enter Tryz.func154, Tryz.ntmps154
  go_wp2
  go_ret
  exact ⟨rfl, (Below.refl _ w).alloc (Nat.le_refl _) _⟩
theorem name_any (s : ByteArray) (w : World) (hs : s.size ≤ maxLen) :
  Calls Tryz.prog 158 #[.string s] w fun e w' => e = .returned (.bool (Sl.nameL s.data.toList)) ∧ Below w.heap.size w w' := by
 have H := hide (madeOf_any 200 Sl.smallB (enters_of Tryz.func200 (by kernel_rfl) rfl) fits_plain s 8 w hs)
 unfold Sl.nameL
 generalize Sl.madeL Sl.smallB 8 s.data.toList = r at H ⊢
 go_enter Tryz.func158, Tryz.ntmps158
 go_wp2_with fail
 refine H.out.mono ?_
 rintro e w' ⟨rfl, hb⟩
 go_wp2
 go_ret
 exact ⟨rfl, hb⟩
theorem word_any (s : ByteArray) (w : World) (hs : s.size ≤ maxLen) :
  Calls Tryz.prog 195 #[.string s] w fun e w' => e = .returned (.bool (Sl.wordL s.data.toList)) ∧ Below w.heap.size w w' := by
 have H := hide (madeOf_any 223 Sl.wordB (enters_of Tryz.func223 (by kernel_rfl) rfl) fits_word s 20 w hs)
 unfold Sl.wordL
 generalize Sl.madeL Sl.wordB 20 s.data.toList = r at H ⊢
 go_enter Tryz.func195, Tryz.ntmps195
 go_wp2_with fail
 refine H.out.mono ?_
 rintro e w' ⟨rfl, hb⟩
 go_wp2
 go_ret
 exact ⟨rfl, hb⟩
theorem firstWrong1_any (s : ByteArray) (w : World) (hs : s.size ≤ maxLen) :
  Calls Tryz.prog 194 #[.string s] w fun e w' => e = .returned (.bool (!Sl.wordL s.data.toList)) ∧ Below w.heap.size w w' := by
 have H := hide (word_any s w hs)
 generalize Sl.wordL s.data.toList = r at H ⊢
 go_enter Tryz.func194, Tryz.ntmps194
 go_wp2_with fail
 refine H.out.mono ?_
 rintro e w' ⟨rfl, hb⟩
 go_wp2
 go_ret
 exact ⟨rfl, hb⟩
def Texts (w : World) (b o : Nat) (xs : List ByteArray) : Prop := ∀ j (hj : j < xs.length), w.cell? ⟨b, o + j, none⟩ = some (.string xs[j])
theorem Texts.lt {w : World} {b o : Nat} {xs : List ByteArray} (h : Texts w b o xs) (hn : 0 < xs.length) : b < w.heap.size := cell_lt (h 0 hn)
theorem Texts.below {w w' : World} {b o : Nat} {xs : List ByteArray} (h : Texts w b o xs) (hb : Below w.heap.size w w') : Texts w' b o xs := fun j hj => by
 rw [hb.cell (p := ⟨b, o + j, none⟩) (cell_lt (h j hj))]; exact h j hj
def wrongI (xs : List ByteArray) : Int := match xs.findIdx? (fun x => !Sl.wordL x.data.toList) with | some i => (i : Int) | none => -1
theorem wrongI_some (xs : List ByteArray) (k : Nat) (hk : k < xs.length) (h : Sl.wordL xs[k].data.toList = false) (hb : ∀ j (hj : j < xs.length), j < k → Sl.wordL xs[j].data.toList = true) : wrongI xs = k := by
 have : xs.findIdx? (fun x => !Sl.wordL x.data.toList) = some k := by
  rw [List.findIdx?_eq_some_iff_getElem]
  refine ⟨hk, by simp [h], fun j hj => by simp [hb j (by omega) hj]⟩
 unfold wrongI
 rw [this]
theorem wrongI_none (xs : List ByteArray) (h : ∀ j (hj : j < xs.length), Sl.wordL xs[j].data.toList = true) : wrongI xs = -1 := by
 have : xs.findIdx? (fun x => !Sl.wordL x.data.toList) = none := by
  rw [List.findIdx?_eq_none_iff]
  intro x hx
  obtain ⟨j, hj, rfl⟩ := List.getElem_of_mem hx
  simp [h j hj]
 unfold wrongI
 rw [this]
set_option maxHeartbeats 2000000 in
theorem indexFuncS (xs : List ByteArray) (b o n c : Nat) (w : World) (hs : ∀ x ∈ xs, x.size ≤ maxLen) (hbig : n ≤ 9223372036854775807) (hn : xs.length = n) (hc : Texts w b o xs) :
  Calls Tryz.prog 193 #[.slice (some ⟨b, o, none⟩) n c, .func (.func 194) #[] #[]] w fun e w' => e = .returned (.int .i64 (wrongI xs)) ∧ Below w.heap.size w w' := by
 have HC := hide hc
 have HS := hide hs
 have HN := hide hn
 have eg : ∀ args w, (callFunc 194 args).run Tryz.prog w = .ok (.enter 194 args) w := enters_of Tryz.func194 (by kernel_rfl) rfl
 clear hc hs hn
 go_enter Tryz.func193, Tryz.ntmps193
 go_wp2
 go_loopg [5, 8] n (fun gg _ s8 wr => ∃ kk : Nat, kk ≤ n ∧ n - kk ≤ gg ∧ s8 = .int .i64 kk ∧ Hid (Below w.heap.size w wr) ∧ Hid (∀ j (hj : j < xs.length), j < kk → Sl.wordL xs[j].data.toList = true))
 case atStart => exact ⟨0, Nat.zero_le _, by omega, rfl, Below.refl _ _, fun j _ hj => absurd hj (Nat.not_lt_zero _)⟩
 case round =>
  obtain ⟨kk, hkk, hg, rfl, HB, A⟩ := hrel
  by_cases hlt : kk < n
  ·
   have hltz : (kk : Int) < (n : Int) := by omega
   have hl : kk < xs.length := by rw [HN.out]; exact hlt
   have hcell := HC.out.below HB.out kk hl
   have HF := hide (firstWrong1_any xs[kk] wr (HS.out _ (List.getElem_mem _)))
   have HQ : Hid (Sl.wordL xs[kk].data.toList = Sl.wordL xs[kk].data.toList) := rfl
   generalize hq : Sl.wordL xs[kk].data.toList = r at HF
   have HR := hide hq
   clear hq HQ
   generalize xs[kk] = y at hcell HF
   cases r with
   | false =>
    go_wp2_with fail
    refine HF.out.mono ?_
    rintro e w' ⟨rfl, hb⟩
    have HB2 : Hid (Below w.heap.size w w') := HB.out.trans (hb.mono HB.out.size)
    clear hb
    go_wp2
    go_ret
    exact ⟨by rw [wrongI_some xs kk (by rw [HN.out]; exact hlt) HR.out A.out]; rfl, HB2.out⟩
   | true =>
    go_wp2_with fail
    refine HF.out.mono ?_
    rintro e w' ⟨rfl, hb⟩
    have HB2 : Hid (Below w.heap.size w w') := HB.out.trans (hb.mono HB.out.size)
    clear hb
    go_wp2
    go_roundg (n - (kk + 1))
    case measure => omega
    case rel =>
     refine ⟨kk + 1, by omega, by omega, by go_num, HB2, (show Hid _ from fun j hj hjk => ?_)⟩
     by_cases e : j = kk
     ·
      subst e
      exact HR.out
     ·
      exact A.out j hj (by omega)
  ·
   have hltz : ¬ (kk : Int) < (n : Int) := by omega
   have : kk = n := by omega
   subst this
   go_wp2
   go_ret
   exact ⟨by rw [wrongI_none xs (fun j hj => A.out j hj (by rw [← HN.out]; exact hj))]; rfl, HB.out⟩
theorem firstWrong_any (xs : List ByteArray) (b o n c : Nat) (w : World) (hs : ∀ x ∈ xs, x.size ≤ maxLen) (hbig : n ≤ 9223372036854775807) (hn : xs.length = n) (hc : Texts w b o xs) :
  Calls Tryz.prog 153 #[.slice (some ⟨b, o, none⟩) n c] w fun e w' => e = .returned (.int .i64 (wrongI xs)) ∧ Below w.heap.size w w' := by
 have H := hide (indexFuncS xs b o n c w hs hbig hn hc)
 clear hs hn hc
 generalize wrongI xs = r at H ⊢
 go_enter Tryz.func153, Tryz.ntmps153
 go_wp2_with fail
 refine H.out.mono ?_
 rintro e w' ⟨rfl, hb⟩
 go_wp2
 go_ret
 exact ⟨rfl, hb⟩
theorem isCount_any (n : Int) (w : World) :
  Calls Tryz.prog 152 #[.int .i64 n] w fun e w' => e = .returned (.bool (decide (1 ≤ n ∧ n ≤ 10))) ∧ w' = w := by
 by_cases h1 : 1 ≤ n
 ·
  by_cases h2 : n ≤ 10
  ·
   rw [decide_eq_true ⟨h1, h2⟩]
   go_enter Tryz.func152, Tryz.ntmps152
   go_wp2
   go_ret
   exact ⟨rfl, rfl⟩
  ·
   rw [decide_eq_false (fun h => h2 h.2)]
   go_enter Tryz.func152, Tryz.ntmps152
   go_wp2
   go_ret
   exact ⟨by simp_all, rfl⟩
 ·
  rw [decide_eq_false (fun h => h1 h.1)]
  go_enter Tryz.func152, Tryz.ntmps152
  go_wp2
  go_ret
  exact ⟨rfl, rfl⟩
theorem keyError_ev (a : Nat → Addr) (key : Int) (w : World) (h : EV slS a w) :
  Calls Tryz.prog 102 #[.int .i64 key] w fun e w' => e = .returned (errV a (moreE key key)) ∧ Below w.heap.size w w' := by
 have H := hide (of_ev slS rfl rfl a key ⟨#[]⟩ w h (by decide))
 clear h
 generalize errV a (moreE key key) = v at H ⊢
 generalize moreN key key _ = m at H
 go_enter Tryz.func102, Tryz.ntmps102
 go_wp2_with fail
 refine H.out.mono ?_
 rintro e w' ⟨rfl, hb⟩
 go_wp2
 go_ret
 exact ⟨rfl, hb⟩
end Go.Proofs.YtabpnjchocgakaaGreatDoor

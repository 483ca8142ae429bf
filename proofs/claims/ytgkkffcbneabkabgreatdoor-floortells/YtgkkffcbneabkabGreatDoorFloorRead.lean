/-
  What package floor's Read gives: the list of a text's floors, in new memory, or an error; for every text of at most 4000 bytes.
-/
import Derived.Test.YtgkkffcbneabkabGreatDoorFloorRound
import Derived.Test.YtgkkffcbneabkabGreatDoorFloorRaise
namespace Go.Proofs.YtgkkffcbneabkabGreatDoor
open Go Go.RowKit Go.Extern.Stop Go.Stop Go.Extern Go.Proofs

/-- The errors that Read gives, too. -/
def flR (i : Nat) : Bool := flS i || i == 0
theorem ev_less {a : Nat → Addr} {w : World} (h : EV flR a w) : EV flS a w := ⟨fun i hi hs => h.var i hi (by unfold flR; rw [hs]; rfl)⟩
theorem results_cells {P : Program} {fn : Func} {p u : Tmp} {t1 t2 : TypeId} (h : fn.results = #[.cell p t1, .cell u t2]) (tmps : Array Value) (w : World) (g1 g2 : Nat) (v1 v2 : Value) (hp : tmps.getD p undef = .pointer (some ⟨g1, 0, none⟩)) (hu : tmps.getD u undef = .pointer (some ⟨g2, 0, none⟩))
    (a1 : ∀ w, (isAgg t1).run P w = .ok false w) (a2 : ∀ w, (isAgg t2).run P w = .ok false w) (c1 : w.cell? ⟨g1, 0, none⟩ = some v1) (c2 : w.cell? ⟨g2, 0, none⟩ = some v2) : (results fn tmps).run P w = .ok (.tuple #[v1, v2]) w := by
  have hp2 : tmps[p]?.getD undef = .pointer (some ⟨g1, 0, none⟩) := by simpa using hp
  have hu2 : tmps[u]?.getD undef = .pointer (some ⟨g2, 0, none⟩) := by simpa using hu
  simp only [results, h]
  simp [Sem.run_bind, Result.andThen, hp2, hu2, asAddr, loadVar, a1, a2, c1, c2]

theorem cutB_small (c : UInt8) : ∀ (l : List UInt8) (p : List UInt8), p ∈ cutB c l → p.length ≤ l.length
  | [], p, h => by simp [cutB] at h; subst h; simp
  | b :: l, p, h => by
    by_cases hb : b = c
    · simp only [cutB, if_pos hb, List.mem_cons] at h
      rcases h with rfl | h
      · simp
      · have := cutB_small c l p h; simp; omega
    · simp only [cutB, if_neg hb, List.mem_cons] at h
      rcases h with rfl | h
      · have := cutB_small c l ((cutB c l).headD []) (by cases hc : cutB c l with | nil => exact absurd hc (cutB_ne c l) | cons x y => simp)
        simp only [List.length_cons]; omega
      · have := cutB_small c l p (List.mem_of_mem_tail h); simp; omega
theorem readAll_small (M : Nat) : ∀ (ps : List (List UInt8)) (r : List Fl), (∀ p ∈ ps, p.length ≤ M) → readAllL ps = some r → (∀ f ∈ r, f.who.size ≤ M) ∧ r.length = ps.length
  | [], r, _, h => by injection h with h; subst h; simp
  | p :: ps, r, hp, h => by
    rw [readAllL_cons] at h
    cases h1 : readOneL p with
    | none => rw [h1] at h; cases h
    | some f =>
      cases h2 : readAllL ps with
      | none => rw [h1, h2] at h; cases h
      | some l =>
        rw [h1, h2] at h
        injection h with h
        subst h
        obtain ⟨a1, a2⟩ := readAll_small M ps l (fun q hq => hp q (by simp [hq])) h2
        refine ⟨fun g hg => ?_, by simp [a2]⟩
        rcases List.mem_cons.1 hg with rfl | hg
        · unfold readOneL at h1
          split at h1
          · split at h1
            · injection h1 with h1
              subst h1
              show (txt (aheadB 58 p)).size ≤ M
              rw [txt_size]
              exact Nat.le_trans (List.takeWhile_sublist _).length_le (hp p (by simp))
            · cases h1
          · cases h1
        · exact a1 g hg
theorem splitSeq_any (s : ByteArray) (w : World) :
    Calls Tryz.prog 75 #[.string s, .string ⟨#[44]⟩] w fun e w' => e = .returned (.func (.func 130) #[] #[.pointer (some ⟨w.heap.size + 1, 0, none⟩), .pointer (some ⟨w.heap.size, 0, none⟩), .pointer (some ⟨w.heap.size + 2, 0, none⟩)]) ∧
      w' = ((w.alloc (.cells #[.string s] 9)).alloc (.cells #[.string ⟨#[44]⟩] 9)).alloc (.cells #[.int .i64 0] 3) := by
  have H : Hid (Calls Tryz.prog 102 #[.string s, .string ⟨#[44]⟩, .int .i64 0] w fun e w' => e = .returned (.func (.func 130) #[] #[.pointer (some ⟨w.heap.size + 1, 0, none⟩), .pointer (some ⟨w.heap.size, 0, none⟩), .pointer (some ⟨w.heap.size + 2, 0, none⟩)]) ∧
      w' = ((w.alloc (.cells #[.string s] 9)).alloc (.cells #[.string ⟨#[44]⟩] 9)).alloc (.cells #[.int .i64 0] 3)) := by
    show Calls _ _ _ _ _
    go_enter Tryz.func102, Tryz.ntmps102
    go_wp2
    go_ret
    exact ⟨rfl, rfl⟩
  go_enter Tryz.func75, Tryz.ntmps75
  go_wp2_with fail
  refine H.out.mono ?_
  rintro e w' ⟨rfl, rfl⟩
  go_wp2
  go_ret
  exact ⟨rfl, rfl⟩

set_option maxRecDepth 100000 in
set_option maxHeartbeats 4000000 in
theorem read_any (a : Nat → Addr) (s : ByteArray) (w : World) (h : EV flR a w) (hs : s.size ≤ 4000) :
    Calls Tryz.prog 38 #[.string s] w fun e w' => ListPost a (readC s.data.toList) (readR s.data.toList) w.heap.size e w' ∧ Below w.heap.size w w' := by
  obtain ⟨cd, hcd⟩ : ∃ cd, IsRd cd := ⟨_, rfl⟩
  have HE := hide h
  have HSq := hide (fun w => splitSeq_any s w)
  have hq : (s.toList == [45]) = decide (s.data.toList = [45]) := by
    rw [Lib.toList_data]
    by_cases e : s.data.toList = [45]
    · rw [e]; rfl
    · rw [decide_eq_false e]; exact beq_eq_false_iff_ne.2 e
  refine (callsIn_wide (n := 3)).1 ?_
  refine callsIn_of_wp_marks Tryz.func38 rfl trivial ?_ rfl
  simp only [Tryz.ntmps38, List.size_toArray, List.length_cons, List.length_nil, Nat.reduceAdd, Nat.reduceSub, Array.replicate_succ, Array.replicate_zero, List.push_toArray, List.append_toArray, List.nil_append, List.cons_append]
  clear h
  by_cases hd : s.data.toList = [45]
  · rw [decide_eq_true hd] at hq
    have HC : Hid (readC s.data.toList = (0, -1) ∧ readR s.data.toList = []) := by
      rw [hd]
      exact ⟨rfl, rfl⟩
    have c1 : ((w.alloc (.cells #[.slice none 0 0] 49)).alloc (.cells #[.nilIface] 27)).cell? ⟨w.heap.size, 0, none⟩ = some (.slice none 0 0) := by
      refine (cell_of_box_a (t := 49) ?_).1
      rw [Below.heap_alloc _ _ _ (by simp)]
      exact heap_alloc_new _ _
    have c2 : ((w.alloc (.cells #[.slice none 0 0] 49)).alloc (.cells #[.nilIface] 27)).cell? ⟨w.heap.size + 1, 0, none⟩ = some .nilIface := by
      have := heap_alloc_new (w.alloc (.cells #[.slice none 0 0] 49)) (.cells #[.nilIface] 27)
      rw [World.size_alloc] at this
      exact (cell_of_box_a this).1
    have HC1 := hide c1
    have HC2 := hide c2
    clear c1 c2 hd
    gi_wp2
    refine ⟨_, results_cells rfl _ _ w.heap.size (w.heap.size + 1) _ _ rfl rfl Tryz.isAgg49 Tryz.isAgg27 HC1.out HC2.out, ?_⟩
    rw [HC.out.1, HC.out.2]
    exact ⟨⟨_, _, rfl, OwnF.nil _ _, Or.inl ⟨rfl, rfl⟩, fun _ => rfl⟩, ((Below.refl _ w).alloc (Nat.le_refl _) _).alloc (by simp) _⟩
  · rw [decide_eq_false hd] at hq
    have HD := hide hd
    clear hd
    gi_wp2_with (refine ⟨trivial, ?_⟩; gi_at_call 75; refine (callsIn_wide.2 (HSq.out _)).mono ?_; rintro e w' ⟨rfl, rfl⟩)
    refine wpIn_rangeFunc ?_
    intro fn hfn
    obtain ⟨W0, hW0⟩ : ∃ W0, (((((w.alloc (.cells #[.slice none 0 0] 49)).alloc (.cells #[.nilIface] 27)).alloc (.cells #[.slice none 0 0] 49)).alloc (.cells #[.string s] 9)).alloc (.cells #[.string ⟨#[44]⟩] 9)).alloc (.cells #[.int .i64 0] 3) = W0 := ⟨_, rfl⟩
    rw [hW0]
    have hs0 : W0.heap.size = w.heap.size + 6 := by rw [← hW0]; simp
    have hb0 : Below w.heap.size w W0 := by
      rw [← hW0]
      exact ((((((Below.refl _ w).alloc (Nat.le_refl _) _).alloc (by simp) _).alloc (by simp; omega) _).alloc (by simp; omega) _).alloc (by simp; omega) _).alloc (by simp; omega) _
    have hr0 : W0.heap[w.heap.size]? = some (.cells #[.slice none 0 0] 49 (0, 0)) ∧ W0.heap[w.heap.size + 1]? = some (.cells #[.nilIface] 27 (0, 0)) ∧ W0.heap[w.heap.size + 2]? = some (.cells #[.slice none 0 0] 49 (0, 0)) ∧ SplitAt (w.heap.size + 3) s W0 := by
      rw [← hW0]
      have hA : ∀ (o1 o2 o3 o4 o5 o6 : Obj), let W := (((((w.alloc o1).alloc o2).alloc o3).alloc o4).alloc o5).alloc o6; W.heap[w.heap.size]? = some o1 ∧ W.heap[w.heap.size + 1]? = some o2 ∧ W.heap[w.heap.size + 2]? = some o3 ∧ W.heap[w.heap.size + 3]? = some o4 ∧ W.heap[w.heap.size + 4]? = some o5 ∧ W.heap[w.heap.size + 5]? = some o6 := fun o1 o2 o3 o4 o5 o6 => by
        have hn : ∀ (V : World) (o : Obj) (k : Nat), k = V.heap.size → (V.alloc o).heap[k]? = some o := fun V o k e => by rw [e]; exact heap_alloc_new V o
        refine ⟨?_, ?_, ?_, ?_, ?_, ?_⟩
        · rw [Below.heap_alloc _ _ _ (by simp <;> omega), Below.heap_alloc _ _ _ (by simp <;> omega), Below.heap_alloc _ _ _ (by simp <;> omega), Below.heap_alloc _ _ _ (by simp <;> omega), Below.heap_alloc _ _ _ (by simp)]; exact hn _ _ _ rfl
        · rw [Below.heap_alloc _ _ _ (by simp <;> omega), Below.heap_alloc _ _ _ (by simp <;> omega), Below.heap_alloc _ _ _ (by simp <;> omega), Below.heap_alloc _ _ _ (by simp)]; exact hn _ _ _ (by simp)
        · rw [Below.heap_alloc _ _ _ (by simp <;> omega), Below.heap_alloc _ _ _ (by simp <;> omega), Below.heap_alloc _ _ _ (by simp)]; exact hn _ _ _ (by simp)
        · rw [Below.heap_alloc _ _ _ (by simp <;> omega), Below.heap_alloc _ _ _ (by simp)]; exact hn _ _ _ (by simp)
        · rw [Below.heap_alloc _ _ _ (by simp)]; exact hn _ _ _ (by simp)
        · exact hn _ _ _ (by simp)
      obtain ⟨q1, q2, q3, q4, q5, q6⟩ := hA (.cells #[.slice none 0 0] 49) (.cells #[.nilIface] 27) (.cells #[.slice none 0 0] 49) (.cells #[.string s] 9) (.cells #[.string ⟨#[44]⟩] 9) (.cells #[.int .i64 0] 3)
      exact ⟨q1, q2, q3, ⟨q4, q5, q6⟩⟩
    obtain ⟨W1, hW1⟩ : ∃ W1, (W0.alloc (.deferred (some []))).alloc (.loop (rdRec cd fn s w.heap.size .ready none)) = W1 := ⟨_, rfl⟩
    have hold : ∀ k, k < w.heap.size + 6 → W1.heap[k]? = W0.heap[k]? := fun k hk => by
      rw [← hW1]; exact (Below.heap_alloc _ _ k (by simp; omega)).trans (Below.heap_alloc _ _ k (by omega))
    have hs1 : W1.heap.size = w.heap.size + 8 := by rw [← hW1]; simp; omega
    have hb1 : Below w.heap.size w W1 := by rw [← hW1]; exact (hb0.alloc hb0.size _).alloc (by have := hb0.size; simp; omega) _
    have hM : RdAt cd w fn s [] W1 := by
      obtain ⟨r1, r2, r3, _⟩ := hr0
      refine ⟨(hold _ (by omega)).trans r1, (hold _ (by omega)).trans r2, ⟨_, (hold _ (by omega)).trans r3, OwnF.nil _ _⟩, ?_, ?_, hb1, by omega⟩
      · have := heap_alloc_new (W0.alloc (.deferred (some []))) (.loop (rdRec cd fn s w.heap.size .ready none))
        rw [World.size_alloc, hs0, hW1] at this
        exact this
      · have := heap_alloc_new W0 (.deferred (some []))
        rw [← hW1, Below.heap_alloc _ _ _ (by simp; omega), ← hs0]
        exact this
    have hSp : SplitAt (w.heap.size + 3) s W1 := hr0.2.2.2.keep (fun k h1 h2 => hold k (by omega))
    have hEl : (Instr.enterLoop fn (rdTmps s w.heap.size undef) #[12] cd.1 cd.2 none).run Tryz.prog W0 = .ok (w.heap.size + 7, [{ target := .collected (w.heap.size + 6), args := #[] }]) W1 := by
      have := run_enterLoop_outer (P := Tryz.prog) (w := W0) fn (rdTmps s w.heap.size undef) #[12] cd.1 cd.2
      rw [hs0] at this
      rw [this, ← hW1]
      rfl
    have HErr := hide ((HE.out).var 0 (by decide) rfl)
    have HIter := hide (split1_in Fence.wide 2 trivial trivial rfl (by omega) (w.heap.size + 7) (w.heap.size + 3) s hs (RdAt cd w fn s) (RdFail a cd w fn s)
      (fun t W => callsIn_wide.2 (Tryz.strings_Index_one t 44 W)) (fun ss W t hJ => hJ.cellSet t)
      (fun ss p W hJ hp hl => by
        cases hq : readOneL p.data.toList with
        | some f => exact rdYield_yes cd hcd (2 - 1) (by omega) w fn s p hp f hq ss hl W hJ
        | none => exact rdYield_no a cd hcd (2 - 1) (by omega) w fn s p hp HErr.out hq ss W hJ)
      W1 hSp hM)
    clear hold hs1 hM hSp hr0 hb0
    refine ⟨w.heap.size + 7, [{ target := .collected (w.heap.size + 6), args := #[] }], W1, { target := .fn (.func 130) #[.pointer (some ⟨w.heap.size + 3 + 1, 0, none⟩), .pointer (some ⟨w.heap.size + 3, 0, none⟩), .pointer (some ⟨w.heap.size + 3 + 2, 0, none⟩)], args := #[.func (.yield (w.heap.size + 7)) #[] #[]] }, W1, 130,
      #[.func (.yield (w.heap.size + 7)) #[] #[]] ++ #[.pointer (some ⟨w.heap.size + 3 + 1, 0, none⟩), .pointer (some ⟨w.heap.size + 3, 0, none⟩), .pointer (some ⟨w.heap.size + 3 + 2, 0, none⟩)], W1, ?_, ?_, ?_, ?_, fun _ => by omega, ?_⟩
    · rw [show cd.1 = _ from congrArg Prod.fst hcd, show cd.2 = _ from congrArg Prod.snd hcd] at hEl
      exact hEl
    · simp [resolve, go_sem]
    · intro f' hf'; trivial
    · have eg : ∀ args w, (callFunc 130 args).run Tryz.prog w = .ok (.enter 130 args) w := enters_of Tryz.func130 (by kernel_rfl) rfl
      simp [invoke, go_sem, eg]
    · refine HIter.out.mono ?_
      rintro e W2 ⟨⟨v0, rfl⟩, (⟨r, hr, hJ⟩ | ⟨hr, hX⟩)⟩
      · -- every piece is a floor
        have HRC : Hid (readC s.data.toList = checkL r ∧ readR s.data.toList = if (checkL r).1 = 0 then r else []) := by
          have e : readL s.data.toList = some r := by unfold readL; rw [if_neg HD.out]; exact hr
          exact ⟨by unfold readC; rw [e], by unfold readR; rw [e]⟩
        obtain ⟨hsm, hln⟩ := readAll_small 4000 (cutB 44 s.data.toList) r (fun p hp => Nat.le_trans (cutB_small 44 _ p hp) (by simpa using hs)) hr
        have hln2 : r.length ≤ 1000000 := by have := cutB_len 44 s.data.toList; have e : s.data.toList.length = s.size := by simp
                                             omega
        have hend := run_endLoop (P := Tryz.prog) hJ.L (by simp [rdRec])
        obtain ⟨W3, hW3⟩ : ∃ W3, W2.putObj (w.heap.size + 7) (.loop { rdRec cd fn s w.heap.size .ready none with state := .exhausted }) = W3 := ⟨_, rfl⟩
        rw [hW3] at hend
        have ho3 : ∀ k, k ≠ w.heap.size + 7 → W3.heap[k]? = W2.heap[k]? := fun k hk => by rw [← hW3]; exact World.putObj_heap_other (by omega)
        have hg3 : W2.grownBy W3 (some (w.heap.size + 7)) := by rw [← hW3]; exact grownBy_putObj_a _ _ _
        obtain ⟨v, hv, hown⟩ := hJ.box
        have hb3 : Below w.heap.size w W3 := hJ.below.grown hg3 hJ.below.size (fun k e => by cases e; omega)
        have hs3 : w.heap.size + 8 ≤ W3.heap.size := Nat.le_trans hJ.size hg3.size
        have h31 := (ho3 (w.heap.size) (by omega)).trans hJ.r1
        have h32 := (ho3 (w.heap.size + 1) (by omega)).trans hJ.r2
        have h34 := (ho3 (w.heap.size + 2) (by omega)).trans hv
        have h3K := (ho3 (w.heap.size + 6) (by omega)).trans hJ.K
        have hown3 : OwnF W3 (w.heap.size + 8) v r := hown.keep (fun g hg => ho3 g (by have := (hown.lt g hg).1; omega))
        have HCk := hide (checked_fl a v r W3 ((ev_less HE.out).below hb3) hown3.flAt (fun f hf => Nat.le_trans (hsm f hf) (by decide)) hln2)
        have HEnd : Hid (∀ W4 v' ev, Below W3.heap.size W3 W4 → ((checkL r).1 = 0 ∧ v' = v ∧ ev = .nilIface ∨ (checkL r).1 ≠ 0 ∧ v' = .slice none 0 0 ∧ FlErr a W4 (checkL r) ev) →
            let W5 := (W4.setCell ⟨w.heap.size, 0, none⟩ v').setCell ⟨w.heap.size + 1, 0, none⟩ ev
            W5.heap[w.heap.size + 6]? = some (.deferred (some [])) ∧ (W5.putObj (w.heap.size + 6) (.deferred none)).cell? ⟨w.heap.size, 0, none⟩ = some v' ∧ (W5.putObj (w.heap.size + 6) (.deferred none)).cell? ⟨w.heap.size + 1, 0, none⟩ = some ev ∧
            ListPost a (readC s.data.toList) (readR s.data.toList) w.heap.size (.returned (.tuple #[v', ev])) (W5.putObj (w.heap.size + 6) (.deferred none)) ∧ Below w.heap.size w (W5.putObj (w.heap.size + 6) (.deferred none))) := fun W4 v' ev hb4 hcs => by
          have hk5 : ∀ k, k ≠ w.heap.size → k ≠ w.heap.size + 1 → ((W4.setCell ⟨w.heap.size, 0, none⟩ v').setCell ⟨w.heap.size + 1, 0, none⟩ ev).heap[k]? = W4.heap[k]? := fun k h1 h2 => by
            rw [heap_setCell_other _ ⟨w.heap.size + 1, 0, none⟩ k _ h2, heap_setCell_other _ ⟨w.heap.size, 0, none⟩ k _ h1]
          have h1 : (W4.setCell ⟨w.heap.size, 0, none⟩ v').heap[w.heap.size]? = some (.cells #[v'] 49 (0, 0)) := heap_setCell_box_a _ ((hb4.block _ (row_lt h31)).trans h31)
          have h2 : ((W4.setCell ⟨w.heap.size, 0, none⟩ v').setCell ⟨w.heap.size + 1, 0, none⟩ ev).heap[w.heap.size + 1]? = some (.cells #[ev] 27 (0, 0)) := heap_setCell_box_a (v := .nilIface) _ (by rw [heap_setCell_other _ ⟨w.heap.size, 0, none⟩ _ _ (by show w.heap.size + 1 ≠ w.heap.size; omega)]; exact (hb4.block _ (row_lt h32)).trans h32)
          have h1' : ((W4.setCell ⟨w.heap.size, 0, none⟩ v').setCell ⟨w.heap.size + 1, 0, none⟩ ev).heap[w.heap.size]? = some (.cells #[v'] 49 (0, 0)) := by
            rw [heap_setCell_other _ ⟨w.heap.size + 1, 0, none⟩ _ _ (by show w.heap.size ≠ w.heap.size + 1; omega)]; exact h1
          have hK5 : ((W4.setCell ⟨w.heap.size, 0, none⟩ v').setCell ⟨w.heap.size + 1, 0, none⟩ ev).heap[w.heap.size + 6]? = some (.deferred (some [])) := by
            rw [hk5 _ (by omega) (by omega)]; exact (hb4.block _ (row_lt h3K)).trans h3K
          have hkk : ∀ k, w.heap.size + 8 ≤ k → (((W4.setCell ⟨w.heap.size, 0, none⟩ v').setCell ⟨w.heap.size + 1, 0, none⟩ ev).putObj (w.heap.size + 6) (.deferred none)).heap[k]? = W4.heap[k]? := fun k hk => by
            rw [World.putObj_heap_other (by omega), hk5 _ (by omega) (by omega)]
          refine ⟨hK5, (cell_of_box_a (t := 49) ?_).1, (cell_of_box_a (t := 27) ?_).1, ?_, ?_⟩
          · rw [World.putObj_heap_other (by omega)]; exact h1'
          · rw [World.putObj_heap_other (by omega)]; exact h2
          · rw [HRC.out.1, HRC.out.2]
            rcases hcs with ⟨h0, rfl, rfl⟩ | ⟨h0, rfl, hfe⟩
            · rw [if_pos h0]
              have ho4 := hown3.below hb4
              exact ⟨_, _, rfl, (ho4.keep (fun g hg => hkk g (ho4.lt g hg).1)).less (by omega), Or.inl ⟨h0, rfl⟩, fun h => absurd h0 h⟩
            · rw [if_neg h0]
              refine ⟨_, _, rfl, OwnF.nil _ _, ?_, fun _ => rfl⟩
              rcases hfe with ⟨h, _⟩ | h | ⟨h, b, h', hb'⟩
              · exact absurd h h0
              · exact Or.inr (Or.inl h)
              · refine Or.inr (Or.inr ⟨h, b, h', ?_⟩)
                have hW : b ≠ w.heap.size ∧ b ≠ w.heap.size + 1 ∧ b ≠ w.heap.size + 6 := by
                  refine ⟨fun e => ?_, fun e => ?_, fun e => ?_⟩
                  · rw [e, hb4.block _ (row_lt h31), h31] at hb'; injection hb' with e; injection e with e1 e2; injection e1 with e1; injection e1 with e1 e3; injection e3
                  · rw [e, hb4.block _ (row_lt h32), h32] at hb'; injection hb' with e; injection e with e1 e2; injection e1 with e1; injection e1 with e1 e3; injection e3
                  · rw [e, hb4.block _ (row_lt h3K), h3K] at hb'; injection hb' with e; injection e
                rw [World.putObj_heap_other (by omega), hk5 _ hW.1 hW.2.1]; exact hb'
          · refine ⟨?_, ?_, ?_, ?_, fun k hk => ?_⟩
            · show W4.os = w.os; exact hb4.os.trans hb3.os
            · show W4.tape = w.tape; exact hb4.tape.trans hb3.tape
            · show W4.output = w.output; exact hb4.output.trans hb3.output
            · have := hb4.size; have := hb3.size; simp at *; omega
            · rw [World.putObj_heap_other (by omega), hk5 _ (by omega) (by omega), hb4.block _ (by omega)]; exact hb3.block k hk
        have hc3 : W3.cell? ⟨w.heap.size + 2, 0, none⟩ = some v := (cell_of_box_a h34).1
        have HX : Hid (∀ W4, Below W3.heap.size W3 W4 → W4.cell? ⟨w.heap.size, 0, none⟩ = some (.slice none 0 0) ∧ W4.frozen? ⟨w.heap.size, 0, none⟩ = false ∧ W4.cell? ⟨w.heap.size + 1, 0, none⟩ = some .nilIface ∧ W4.frozen? ⟨w.heap.size + 1, 0, none⟩ = false) := fun W4 hb4 => by
          have g1 := cell_of_box_a ((hb4.block _ (row_lt h31)).trans h31)
          have g2 := cell_of_box_a ((hb4.block _ (row_lt h32)).trans h32)
          exact ⟨g1.1, g1.2, g2.1, g2.2⟩
        have HAg : Hid (∃ g len cap, v = .slice g len cap) := by
          rcases hown.2 with ⟨rfl, _⟩ | ⟨g, cap, cur, rfl, _⟩
          · exact ⟨_, _, _, rfl⟩
          · exact ⟨_, _, _, rfl⟩
        obtain ⟨vg, vlen, vcap, rfl⟩ := HAg.out
        have hne2 : ¬ (w.heap.size = w.heap.size + 1) := by omega
        have hne3 : ¬ (w.heap.size + 1 = w.heap.size) := by omega
        clear hW3 hW1 hW0 hEl hJ hr hsm hln hln2 ho3 hg3 hv hown hb3 hs3 h31 h32 h34 h3K hown3 HIter HErr hs0 hb1 HAg HSq hs
        refine ⟨none, W3, hend, ?_⟩
        clear hend
        generalize checkL r = c at *
        by_cases h0 : c.1 = 0
        · gi_wp2_with (refine ⟨trivial, ?_⟩; gi_at_call 72; refine (callsIn_wide.2 HCk.out).mono ?_; rintro e W4 ⟨hcp, hb4⟩; obtain ⟨x1, x2, x3, x4⟩ := HX.out W4 hb4; obtain rfl := hcp.yes h0; have HE5 := hide (HEnd.out W4 _ _ hb4 (Or.inl ⟨h0, rfl, rfl⟩)); clear hb4 hcp)
          obtain ⟨y1, y2, y3, y4, y5⟩ := HE5.out
          refine ⟨by simp, .inl ⟨_, _, rfl, run_takeDeferred y1, ?_⟩⟩
          exact ⟨_, results_cells rfl _ _ w.heap.size (w.heap.size + 1) _ _ rfl rfl Tryz.isAgg49 Tryz.isAgg27 y2 y3, y4, y5⟩
        · gi_wp2_with (refine ⟨trivial, ?_⟩; gi_at_call 72; refine (callsIn_wide.2 HCk.out).mono ?_; rintro e W4 ⟨hcp, hb4⟩; obtain ⟨x1, x2, x3, x4⟩ := HX.out W4 hb4; obtain ⟨et, ep, rfl, hfe⟩ := hcp.no h0; have HE5 := hide (HEnd.out W4 _ _ hb4 (Or.inr ⟨h0, rfl, hfe⟩)); clear hb4 hcp hfe)
          obtain ⟨y1, y2, y3, y4, y5⟩ := HE5.out
          refine ⟨by simp, .inl ⟨_, _, rfl, run_takeDeferred y1, ?_⟩⟩
          exact ⟨_, results_cells rfl _ _ w.heap.size (w.heap.size + 1) _ _ rfl rfl Tryz.isAgg49 Tryz.isAgg27 y2 y3, y4, y5⟩
      · -- a piece is none
        have hrc : readC s.data.toList = (1, -1) ∧ readR s.data.toList = [] := by
          have e : readL s.data.toList = none := by unfold readL; rw [if_neg HD.out]; exact hr
          exact ⟨by unfold readC; rw [e], by unfold readR; rw [e]⟩
        have hend := run_endLoop (P := Tryz.prog) hX.L (by simp [rdRec])
        obtain ⟨W3, hW3⟩ : ∃ W3, W2.putObj (w.heap.size + 7) (.loop { rdRec cd fn s w.heap.size .done (some .ret) with state := .exhausted }) = W3 := ⟨_, rfl⟩
        rw [hW3] at hend
        have ho3 : ∀ k, k ≠ w.heap.size + 7 → W3.heap[k]? = W2.heap[k]? := fun k hk => by rw [← hW3]; exact World.putObj_heap_other (by omega)
        have hg3 : W2.grownBy W3 (some (w.heap.size + 7)) := by rw [← hW3]; exact grownBy_putObj_a _ _ _
        have hb3 : Below w.heap.size w W3 := hX.below.grown hg3 hX.below.size (fun k e => by cases e; omega)
        have h31 := (ho3 (w.heap.size) (by omega)).trans hX.r1
        have h32 := (ho3 (w.heap.size + 1) (by omega)).trans hX.r2
        have h3K := (ho3 (w.heap.size + 6) (by omega)).trans hX.K
        have c1 : (W3.putObj (w.heap.size + 6) (.deferred none)).cell? ⟨w.heap.size, 0, none⟩ = some (.slice none 0 0) := (cell_of_box_a (t := 49) (by rw [World.putObj_heap_other (by omega)]; exact h31)).1
        have c2 : (W3.putObj (w.heap.size + 6) (.deferred none)).cell? ⟨w.heap.size + 1, 0, none⟩ = some (eV (a 0)) := (cell_of_box_a (t := 27) (by rw [World.putObj_heap_other (by omega)]; exact h32)).1
        have hb5 : Below w.heap.size w (W3.putObj (w.heap.size + 6) (.deferred none)) := hb3.grown (grownBy_putObj_a _ _ _) hb3.size (fun k e => by cases e; omega)
        refine ⟨some .ret, W3, hend, ?_⟩
        clear hend hW3 hW1 hW0 hEl hr ho3 hg3 h31 h32 HIter HErr hs0 hb1 HSq hs
        gi_wp2
        refine ⟨by simp, .inl ⟨_, _, rfl, run_takeDeferred h3K, ?_⟩⟩
        refine ⟨_, results_cells rfl _ _ w.heap.size (w.heap.size + 1) _ _ rfl rfl Tryz.isAgg49 Tryz.isAgg27 c1 c2, ?_, hb5⟩
        rw [hrc.1, hrc.2]
        exact ⟨_, _, rfl, OwnF.nil _ _, FlErr.plain (by decide), fun _ => rfl⟩
end Go.Proofs.YtgkkffcbneabkabGreatDoor

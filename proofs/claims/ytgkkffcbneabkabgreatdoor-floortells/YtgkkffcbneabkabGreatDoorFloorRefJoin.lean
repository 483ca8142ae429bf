/-
  What the document's answer's JoinFloors gives for right lists: the program's join, or that it is too long.
  What the document's answer's JoinFloors gives, for any two lists: the same list and the same fault as the program's Join.
-/
import Derived.Test.YtgkkffcbneabkabGreatDoorFloorMerge
import Derived.Test.YtgkkffcbneabkabGreatDoorFloorRefRaise
import Derived.Deep.DeepCutAuto
import Derived.Deep.LoopGhost
namespace Go.Proofs.YtgkkffcbneabkabGreatDoor
open Go Go.RowKit Go.Extern.Stop Go.Stop Go.Extern Go.Proofs

theorem joinEnd {a : Act} {w : World} {R : Ending → World → Prop} (g : Nat) (cs : Array Value) (hp : a.tmps.getD 5 undef = .pointer (some ⟨g, 0, none⟩)) (hg : w.heap[g]? = some (.cells cs 55 (0, 0))) (hn : cs.size = 2) (hd : a.defers = [])
    (hR : R (.returned (.tuple #[a.tmps.getD 4 undef, .agg cs])) w) : bodyPost Tryz.prog Tryz.f37 R .ret a w :=
  bodyPost_ret (res_tmp_cell rfl a.tmps w g _ cs (0, 0) _ hp hg Tryz.underlying55 rfl (by rw [hn]; kernel_rfl)) hd hR

theorem nm_ne {f : Fl} (h : oneE f = 0) : (f.who.toList == []) = false := by
  have hn : f.nm ≠ [] := by
    rcases one_name h with e | e
    · rw [e]; decide
    · intro g
      rw [g] at e
      exact absurd e (by decide)
  rw [Lib.toList_data]
  exact beq_eq_false_iff_ne.2 hn

/-- Who stands at a place, and the place behind it where that one is meant. -/
def whoAt (A : List Fl) (i : Nat) : ByteArray := match A[i]? with
  | some f => f.who
  | none => ByteArray.empty
def nextAt (A : List Fl) (i : Nat) (W : ByteArray) : Nat := match A[i]? with
  | some f => if f.who.data.toList = W.data.toList then i + 1 else i
  | none => i
theorem who_some {A : List Fl} {i : Nat} (h : i < A.length) : whoAt A i = A[i].who := by unfold whoAt; rw [List.getElem?_eq_getElem h]
theorem who_none {A : List Fl} {i : Nat} (h : A.length ≤ i) : whoAt A i = ByteArray.empty := by unfold whoAt; rw [List.getElem?_eq_none h]
theorem next_yes {A : List Fl} {i : Nat} {W : ByteArray} (h : i < A.length) (e : A[i].who.data.toList = W.data.toList) : nextAt A i W = i + 1 := by unfold nextAt; rw [List.getElem?_eq_getElem h]; exact if_pos e
theorem next_no {A : List Fl} {i : Nat} {W : ByteArray} (h : i < A.length) (e : A[i].who.data.toList ≠ W.data.toList) : nextAt A i W = i := by unfold nextAt; rw [List.getElem?_eq_getElem h]; exact if_neg e
theorem next_none {A : List Fl} {i : Nat} {W : ByteArray} (h : A.length ≤ i) : nextAt A i W = i := by unfold nextAt; rw [List.getElem?_eq_none h]
theorem next_le {A : List Fl} {i : Nat} (W : ByteArray) (h : i ≤ A.length) : nextAt A i W ≤ A.length := by
  rcases Nat.lt_or_ge i A.length with g | g
  · by_cases e : A[i].who.data.toList = W.data.toList
    · rw [next_yes g e]; exact g
    · rw [next_no g e]; exact h
  · rw [next_none g]; exact h
theorem next_ge (A : List Fl) (i : Nat) (W : ByteArray) : i ≤ nextAt A i W := by
  rcases Nat.lt_or_ge i A.length with g | g
  · by_cases e : A[i].who.data.toList = W.data.toList
    · rw [next_yes g e]; exact Nat.le_succ _
    · rw [next_no g e]; exact Nat.le_refl _
  · rw [next_none g]; exact Nat.le_refl _
/-- A step of the merge: one name, and both places behind it. -/
def StepM (A B : List Fl) (top : Int) (i j : Nat) (W : ByteArray) : Prop :=
  mj A B top (A.drop i) (B.drop j) = mjOne A B top W ++ mj A B top (A.drop (nextAt A i W)) (B.drop (nextAt B j W)) ∧ i + j < nextAt A i W + nextAt B j W
theorem step_x (A B : List Fl) (top : Int) {i j : Nat} (hi : i < A.length) (hj : B.length ≤ j) : StepM A B top i j A[i].who := by
  unfold StepM
  rw [next_yes hi rfl, next_none hj, List.drop_eq_getElem_cons hi, List.drop_eq_nil_of_le hj, mj]
  exact ⟨rfl, by omega⟩
theorem step_y (A B : List Fl) (top : Int) {i j : Nat} (hi : A.length ≤ i) (hj : j < B.length) : StepM A B top i j B[j].who := by
  unfold StepM
  rw [next_none hi, next_yes hj rfl, List.drop_eq_getElem_cons hj, List.drop_eq_nil_of_le hi, mj]
  exact ⟨rfl, by omega⟩
theorem step_xy (A B : List Fl) (top : Int) {i j : Nat} (hi : i < A.length) (hj : j < B.length) :
    (B[j].who.data.toList < A[i].who.data.toList → StepM A B top i j B[j].who) ∧
    (B[j].who.data.toList = A[i].who.data.toList → StepM A B top i j A[i].who) ∧
    (A[i].who.data.toList < B[j].who.data.toList → StepM A B top i j A[i].who) := by
  unfold StepM
  have hm : mj A B top (A.drop i) (B.drop j) = mj A B top (A[i] :: A.drop (i + 1)) (B[j] :: B.drop (j + 1)) := by rw [← List.drop_eq_getElem_cons hi, ← List.drop_eq_getElem_cons hj]
  refine ⟨fun h => ?_, fun h => ?_, fun h => ?_⟩
  · rw [next_yes hj rfl, next_no hi (fun e => by rw [e] at h; exact List.lt_irrefl _ h), hm, mj, if_pos (show B[j].nm < A[i].nm from h), ← List.drop_eq_getElem_cons hi]
    exact ⟨rfl, by omega⟩
  · rw [next_yes hj h, next_yes hi rfl, hm, mj, if_neg (show ¬ B[j].nm < A[i].nm from fun e => by unfold Fl.nm at e; rw [h] at e; exact List.lt_irrefl _ e), if_neg (show ¬ A[i].nm < B[j].nm from fun e => by unfold Fl.nm at e; rw [h] at e; exact List.lt_irrefl _ e)]
    exact ⟨rfl, by omega⟩
  · rw [next_no hj (fun e => by rw [e] at h; exact List.lt_irrefl _ h), next_yes hi rfl, hm, mj, if_neg (show ¬ B[j].nm < A[i].nm from fun e => List.lt_irrefl _ (List.lt_trans h e)), if_pos (show A[i].nm < B[j].nm from h), ← List.drop_eq_getElem_cons hj]
    exact ⟨rfl, by omega⟩

attribute [local go_sem] Oper.semAt_some

set_option maxRecDepth 100000 in
set_option maxHeartbeats 16000000 in
theorem refJoin_right (v1 v2 : Value) (A B : List Fl) (w : World) (hv1 : FlAt w v1 A) (hv2 : FlAt w v2 B) (hA : RightF A) (hB : RightF B) (nA : A.length ≤ 21) (nB : B.length ≤ 21) (hs1 : ∀ g ∈ A, g.who.size ≤ maxLen) (hs2 : ∀ g ∈ B, g.who.size ≤ maxLen) :
    Calls Tryz.prog 37 #[v1, v2] w fun e w' => FltPost (joinC A B) (joinR A B) w w' e := by
  have HFA := hide (fun w h => refFault_any v1 A w h hs1 (by omega))
  have HFB := hide (fun w h => refFault_any v2 B w h hs2 (by omega))
  have hcA : checkL A = (0, -1) := by rw [check_right hA, if_neg (by omega)]
  have hcB : checkL B = (0, -1) := by rw [check_right hB, if_neg (by omega)]
  have HBare := hide (fun c w => bare_any c w)
  have HFine := hide (fun w => fine_any w)
  have HW0 : Hid (Below w.heap.size w (w.alloc flt0) ∧ (w.alloc flt0).heap[w.heap.size]? = some flt0) := ⟨(Below.refl _ _).alloc (Nat.le_refl _) _, heap_alloc_new _ _⟩
  have HC1 : Hid (21 < (joinL A B).length → joinC A B = (7, -1) ∧ joinR A B = []) := fun h => by
    have e : joinC A B = (7, -1) := by unfold joinC; rw [hcA, if_pos rfl, hcB, if_pos rfl, check_right (right_join hA hB), if_pos h]
    exact ⟨e, by unfold joinR; rw [e]; rfl⟩
  have HC2 : Hid (¬ 21 < (joinL A B).length → joinC A B = (0, -1) ∧ joinR A B = joinL A B) := fun h => by
    have e : joinC A B = (0, -1) := by unfold joinC; rw [hcA, if_pos rfl, hcB, if_pos rfl, check_right (right_join hA hB), if_neg h]
    exact ⟨e, by unfold joinR; rw [e]; rfl⟩
  rw [hcA] at HFA
  rw [hcB] at HFB
  have HV1 := hide hv1
  have HV2 := hide hv2
  clear hv1 hv2 hs1 hs2 hcA hcB
  have HTA := hide (fun w h => refTop_any v1 A w h (by omega))
  have HTB := hide (fun w h => refTop_any v2 B w h (by omega))
  have HOA := hide (fun name w h => refFloorOf_any v1 A name w h hA (by omega))
  have HOB := hide (fun name w h => refFloorOf_any v2 B name w h hB (by omega))
  have HJ : Hid (mj A B (max (topL A) (topL B)) A B = joinL A B) := mj_join hA hB
  have HJr : Hid (RightF (joinL A B)) := right_join hA hB
  have HNa : Hid (∀ x ∈ A, oneE x = 0) := hA.one
  have HNb : Hid (∀ x ∈ B, oneE x = 0) := hB.one
  have HMl : Hid (∀ o r : List Fl, o ++ r = mj A B (max (topL A) (topL B)) A B → o.length ≤ 42) := fun o r h => by
    have h3 := mj_len A B (max (topL A) (topL B)) A B
    rw [← h, List.length_append] at h3
    omega
  obtain ⟨i0, hi, hi0, hi1, hi2⟩ := info_parts Tryz.infoFloor
  clear hA hB
  go_enter Tryz.func37, Tryz.ntmps37
  go_wp2_with fail
  refine (HFA.out _ (HV1.out.below HW0.out.1)).mono ?_
  rintro e w1 ⟨rfl, hb⟩
  have HB1 : Hid (Below w.heap.size w w1) := HW0.out.1.trans (hb.mono HW0.out.1.size)
  have HR1 : Hid (w1.heap[w.heap.size]? = some flt0) := (hb.block _ (row_lt HW0.out.2)).trans HW0.out.2
  clear hb HFA HW0
  have HV2b : Hid (FlAt (w1.alloc (.cells #[.int .i64 0, .int .i64 (-1)] 55)) v2 B) := (HV2.out.below HB1.out).below ((Below.refl _ _).alloc (Nat.le_refl _) _)
  go_wp2_with fail
  refine (HFB.out _ HV2b.out).mono ?_
  rintro e w4 ⟨rfl, hb4⟩
  have HB4 : Hid (Below (w1.heap.size + 1) (w1.alloc (.cells #[.int .i64 0, .int .i64 (-1)] 55)) w4) := by
    have h3 := hb4
    rwa [World.size_alloc] at h3
  have HG4 : Hid (w4.heap[w1.heap.size]? = some (.cells #[.int .i64 0, .int .i64 (-1)] 55 (0, 0))) := (HB4.out.block _ (by omega)).trans (heap_alloc_new _ _)
  have HO4 : Hid (∀ k, k < w1.heap.size → w4.heap[k]? = w1.heap[k]?) := fun k hk => (HB4.out.block k (by omega)).trans (Below.heap_alloc _ _ _ hk)
  clear hb4 HFB HV2b
  have g0 : w4.cell? ⟨w1.heap.size, 0, none⟩ = some (.int .i64 0) := cell_of_row w4 _ 0 _ _ _ HG4.out
  have g1 : w4.cell? ⟨w1.heap.size, 1, none⟩ = some (.int .i64 (-1)) := cell_of_row w4 _ 1 _ _ _ HG4.out
  have gz0 : w4.frozen? ⟨w1.heap.size, 0, none⟩ = false := frozen_of_row w4 _ 0 _ _ HG4.out
  have gz1 : w4.frozen? ⟨w1.heap.size, 1, none⟩ = false := frozen_of_row w4 _ 1 _ _ HG4.out
  go_wp2_with fail
  obtain ⟨X, hX⟩ : ∃ X, (w4.setCell ⟨w1.heap.size, 0, none⟩ (.int .i64 0)).setCell ⟨w1.heap.size, 0 + 1, none⟩ (.int .i64 (-1)) = X := ⟨_, rfl⟩
  have HG : Hid (X.heap[w1.heap.size]? = some (.cells #[.int .i64 0, .int .i64 (-1)] 55 (0, 0))) := by rw [← hX]; exact set2_row HG4.out _ _
  have HOX : Hid (∀ k, k < w1.heap.size → X.heap[k]? = w1.heap[k]?) := fun k hk => by
    rw [← hX, heap_setCell_other _ ⟨w1.heap.size, 0 + 1, none⟩ k _ (by show k ≠ w1.heap.size; omega), heap_setCell_other _ ⟨w1.heap.size, 0, none⟩ k _ (by show k ≠ w1.heap.size; omega)]
    exact HO4.out k hk
  have HBX : Hid (Below w.heap.size w X) := by
    rw [← hX]
    have hs := HB1.out.size
    have hb5 : Below w.heap.size w w4 := (HB1.out.alloc hs (.cells #[.int .i64 0, .int .i64 (-1)] 55)).trans (HB4.out.mono (by omega))
    exact (hb5.setCell (p := ⟨w1.heap.size, 0, none⟩) hs _).setCell (p := ⟨w1.heap.size, 0 + 1, none⟩) hs _
  have HRX : Hid (X.heap[w.heap.size]? = some flt0) := (HOX.out _ (row_lt HR1.out)).trans HR1.out
  clear g0 g1 gz0 gz1 HG4 HO4 HB4
  rw [hX]
  clear hX HOX HG HB1 HR1
  refine (HTA.out _ (HV1.out.below HBX.out)).mono ?_
  rintro e w5 ⟨rfl, rfl⟩
  go_wp2_with fail
  refine (HTB.out _ (HV2.out.below HBX.out)).mono ?_
  rintro e w6 ⟨rfl, rfl⟩
  generalize hta : topL A = ta at *
  generalize htb : topL B = tb at *
  clear hta htb
  obtain ⟨ad1, cap1, rfl, hc1⟩ := HV1.out.form
  obtain ⟨ad2, cap2, rfl, hc2⟩ := HV2.out.form
  generalize hna : A.length = na at *
  generalize hnb : B.length = nb at *
  have HNA := hide hna
  have HNB := hide hnb
  clear hna hnb
  go_upto_if 29 with fail
  obtain ⟨X, hX⟩ : ∃ X, w6 = X := ⟨_, rfl⟩
  rw [hX] at HBX HRX ⊢
  clear hX
  go_cut [7] (fun s7 wc => s7 = .int .i64 (max ta tb) ∧ X = wc)
  case first =>
    by_cases htt : ta < tb
    · have HT : Hid (max ta tb = tb) := by show _ = _; omega
      go_wp2_with fail
      refine (HTB.out _ (HV2.out.below HBX.out)).mono ?_
      rintro e w7 ⟨rfl, hww⟩
      rw [hww]
      clear hww w7
      go_wp2
      go_meet
      exact ⟨by rw [HT.out], rfl⟩
    · have HT : Hid (max ta tb = ta) := by show _ = _; omega
      go_wp2
      go_meet
      exact ⟨by rw [HT.out], rfl⟩
  case rest =>
    obtain ⟨rfl, rfl⟩ := hcut
    clear HTA HTB
    generalize max ta tb = top at *
    go_wp2
    go_loopg [8, 9, 10] (na + nb) (fun gg OV iv jv wr => ∃ (i j : Nat) (o : List Fl), i ≤ na ∧ j ≤ nb ∧ (na - i) + (nb - j) ≤ gg ∧ iv = .int .i64 i ∧ jv = .int .i64 j ∧ Hid (OwnF wr X.heap.size OV o) ∧ Hid (o ++ mj A B top (A.drop i) (B.drop j) = mj A B top A B) ∧ Hid (Below X.heap.size X wr))
    case atStart => exact ⟨0, 0, [], Nat.zero_le _, Nat.zero_le _, by omega, rfl, rfl, (show Hid _ from OwnF.nil _ _), (show Hid _ from rfl), (show Hid _ from Below.refl _ _)⟩
    case round =>
      obtain ⟨i, j, o, hin, hjn, hgg, rfl, rfl, HOwn, HIn, HBr⟩ := hrel
      have HLo : Hid (o.length ≤ 42) := HMl.out o _ HIn.out
      have HVa : Hid (∀ W, Below X.heap.size X W → FlAt W (.slice ad1 na cap1) A) := fun W hW => (HV1.out.below HBX.out).below hW
      have HVb : Hid (∀ W, Below X.heap.size X W → FlAt W (.slice ad2 nb cap2) B) := fun W hW => (HV2.out.below HBX.out).below hW
      have HCa : Hid (∀ (hia : i < A.length), ∃ b off, ad1 = some ⟨b, off, none⟩ ∧ ∀ W, Below X.heap.size X W → W.cell? ⟨b, off + i * 2, none⟩ = some (.string (A[i]'hia).who)) := fun hia => by
        have hv0 := HVa.out X (Below.refl _ _)
        rw [← HNA.out] at hv0
        obtain ⟨b, off, cap', e, _, _, _⟩ := hv0.at (by omega)
        injection e with e1 e2 e3
        subst e1
        refine ⟨b, off, rfl, fun W hW => ?_⟩
        have hv := HVa.out W hW
        rw [← HNA.out] at hv
        obtain ⟨b', off', cap'', e, _, _, hcell⟩ := hv.at (by omega)
        injection e with e1 e2 e3
        injection e1 with e1
        injection e1 with e1 e4
        subst e1; subst e4
        exact (hcell i hia).1
      have HCb : Hid (∀ (hjb : j < B.length), ∃ b off, ad2 = some ⟨b, off, none⟩ ∧ ∀ W, Below X.heap.size X W → W.cell? ⟨b, off + j * 2, none⟩ = some (.string (B[j]'hjb).who)) := fun hjb => by
        have hv0 := HVb.out X (Below.refl _ _)
        rw [← HNB.out] at hv0
        obtain ⟨b, off, cap', e, _, _, _⟩ := hv0.at (by omega)
        injection e with e1 e2 e3
        subst e1
        refine ⟨b, off, rfl, fun W hW => ?_⟩
        have hv := HVb.out W hW
        rw [← HNB.out] at hv
        obtain ⟨b', off', cap'', e, _, _, hcell⟩ := hv.at (by omega)
        injection e with e1 e2 e3
        injection e1 with e1
        injection e1 with e1 e4
        subst e1; subst e4
        exact (hcell j hjb).1
      by_cases hany : i < na ∨ j < nb
      · have HAny := hide hany
        go_upto_region 12 with fail
        go_cut [41] (fun s41 wc => s41 = .bool true ∧ wr = wc)
        case first =>
          by_cases hi1 : (i : Int) < (na : Int)
          · clear hany
            go_wp2
            go_meet
            exact ⟨rfl, rfl⟩
          · have hj1 : (j : Int) < (nb : Int) := by omega
            clear hany
            go_wp2
            go_meet
            exact ⟨rfl, rfl⟩
        case rest =>
          obtain ⟨rfl, rfl⟩ := hcut
          clear hany
          go_upto_if 45 with fail
          go_cut [11] (fun s11 wc => s11 = .string (whoAt A i) ∧ wr = wc)
          case first =>
            by_cases hi1 : (i : Int) < (na : Int)
            · have hia : i < A.length := by rw [HNA.out]; omega
              obtain ⟨b1, off1, rfl, hcell⟩ := HCa.out hia
              have c0 := hcell wr HBr.out
              have HWi : Hid (whoAt A i = (A[i]'hia).who) := who_some hia
              clear hcell
              generalize (A[i]'hia).who = xw at *
              go_wp2
              go_meet
              exact ⟨by rw [HWi.out], rfl⟩
            · have HWi : Hid (whoAt A i = ByteArray.empty) := who_none (by rw [HNA.out]; omega)
              go_wp2
              go_meet
              exact ⟨by rw [HWi.out]; rfl, rfl⟩
          case rest =>
            obtain ⟨rfl, rfl⟩ := hcut
            go_upto_if 54 with fail
            go_cut [11] (fun s11 wc => (∃ W, s11 = .string W ∧ Hid (StepM A B top i j W)) ∧ wr = wc)
            case first =>
              by_cases hj1 : (j : Int) < (nb : Int)
              · have hjb : j < B.length := by rw [HNB.out]; omega
                obtain ⟨b2, off2, rfl, hcell⟩ := HCb.out hjb
                have d0 := hcell wr HBr.out
                clear hcell
                by_cases hi1 : i < na
                · have hia : i < A.length := by rw [HNA.out]; exact hi1
                  obtain ⟨m1, m2, m3⟩ := step_xy A B top hia hjb
                  have hne := nm_ne (HNa.out _ (List.getElem_mem hia))
                  have hl := less_names (B[j]'hjb).who (A[i]'hia).who
                  have hnc := names_cases (B[j]'hjb).who (A[i]'hia).who
                  rw [who_some hia]
                  generalize (A[i]'hia).who = xw at *
                  generalize (B[j]'hjb).who = yw at *
                  rcases hnc with ⟨hn1, _, _⟩ | ⟨hn1, _, _⟩ | ⟨hn1, _, _⟩
                  · have HSt := hide (m1 hn1)
                    rw [decide_eq_true hn1] at hl
                    clear hn1 m1 m2 m3
                    go_wp2
                    go_meet
                    exact ⟨⟨yw, rfl, HSt⟩, rfl⟩
                  · have HSt := hide (m2 hn1)
                    rw [decide_eq_false (fun e => by rw [hn1] at e; exact List.lt_irrefl _ e)] at hl
                    clear hn1 m1 m2 m3
                    go_wp2
                    go_meet
                    exact ⟨⟨xw, rfl, HSt⟩, rfl⟩
                  · have HSt := hide (m3 hn1)
                    rw [decide_eq_false (fun e => List.lt_irrefl _ (List.lt_trans hn1 e))] at hl
                    clear hn1 m1 m2 m3
                    go_wp2
                    go_meet
                    exact ⟨⟨xw, rfl, HSt⟩, rfl⟩
                · have HSt := hide (step_y A B top (show A.length ≤ i by rw [HNA.out]; omega) hjb)
                  rw [who_none (show A.length ≤ i by rw [HNA.out]; omega)]
                  have hne : (ByteArray.empty.toList == []) = true := by rw [Lib.toList_data]; rfl
                  generalize (B[j]'hjb).who = yw at *
                  generalize ByteArray.empty = xw at *
                  go_wp2
                  go_meet
                  exact ⟨⟨yw, rfl, HSt⟩, rfl⟩
              · have hia : i < A.length := by rw [HNA.out]; have := HAny.out; omega
                have HSt := hide (step_x A B top hia (show B.length ≤ j by rw [HNB.out]; omega))
                rw [who_some hia]
                generalize (A[i]'hia).who = xw at *
                go_wp2
                go_meet
                exact ⟨⟨xw, rfl, HSt⟩, rfl⟩
            case rest =>
              obtain ⟨⟨W, rfl, HSt⟩, rfl⟩ := hcut
              have HMm : Hid (mxF A B W.data.toList = max (ofL A W.data.toList) (ofL B W.data.toList)) := rfl
              go_wp2_with fail
              refine (HOA.out _ wr (HVa.out wr HBr.out)).mono ?_
              rintro e w8 ⟨rfl, hww⟩
              rw [hww]
              clear hww w8
              go_wp2_with fail
              refine (HOB.out _ wr (HVb.out wr HBr.out)).mono ?_
              rintro e w8 ⟨rfl, hww⟩
              rw [hww]
              clear hww w8
              generalize ofL A W.data.toList = oa at *
              generalize hob : ofL B W.data.toList = ob at *
              have HOb := hide hob
              clear hob
              go_upto_if 78 with fail
              go_cut [12] (fun s12 wc => s12 = .int .i64 (mxF A B W.data.toList) ∧ wr = wc)
              case first =>
                by_cases hgt : oa < ob
                · have HT : Hid (mxF A B W.data.toList = ob) := by show _ = _; rw [HMm.out]; omega
                  clear HMm
                  go_wp2_with fail
                  refine (HOB.out _ wr (HVb.out wr HBr.out)).mono ?_
                  rintro e w8 ⟨rfl, hww⟩
                  rw [hww, HOb.out]
                  clear hww w8
                  go_wp2
                  go_meet
                  exact ⟨by rw [HT.out], rfl⟩
                · have HT : Hid (mxF A B W.data.toList = oa) := by show _ = _; rw [HMm.out]; omega
                  clear HMm
                  go_wp2
                  go_meet
                  exact ⟨by rw [HT.out], rfl⟩
              case rest =>
                obtain ⟨rfl, rfl⟩ := hcut
                clear HMm HOb
                have HOne : Hid (mjOne A B top W = if top < mxF A B W.data.toList ∨ W.data.toList = star then [⟨W, mxF A B W.data.toList⟩] else []) := rfl
                have hstar := star_who ⟨W, 0⟩
                change (W.toList == [42]) = decide (W.data.toList = star) at hstar
                generalize mxF A B W.data.toList = mx at *
                go_upto_region 22 with fail
                go_cut [88] (fun s88 wc => s88 = .bool (decide (top < mx ∨ W.data.toList = star)) ∧ wr = wc)
                case first =>
                  by_cases het : top < mx
                  · have HT : Hid (decide (top < mx ∨ W.data.toList = star) = true) := decide_eq_true (Or.inl het)
                    clear hstar
                    go_wp2
                    go_meet
                    exact ⟨by rw [HT.out], rfl⟩
                  · by_cases hss : W.data.toList = star
                    · have HT : Hid (decide (top < mx ∨ W.data.toList = star) = true) := decide_eq_true (Or.inr hss)
                      rw [decide_eq_true hss] at hstar
                      clear hss
                      go_wp2
                      go_meet
                      exact ⟨by rw [HT.out], rfl⟩
                    · have HT : Hid (decide (top < mx ∨ W.data.toList = star) = false) := decide_eq_false (fun e => e.elim het hss)
                      rw [decide_eq_false hss] at hstar
                      clear hss
                      go_wp2
                      go_meet
                      exact ⟨by rw [HT.out], rfl⟩
                case rest =>
                  obtain ⟨rfl, rfl⟩ := hcut
                  clear hstar
                  generalize hem : decide (top < mx ∨ W.data.toList = star) = em at *
                  have HEm := hide hem
                  clear hem
                  go_upto_if 88 with fail
                  go_cut [8] (fun s8 wc => ∃ o', Hid (OwnF wc X.heap.size s8 o') ∧ Hid (o' = o ++ mjOne A B top W) ∧ Hid (Below X.heap.size X wc))
                  case first =>
                    cases em with
                    | true =>
                      have HOo : Hid (mjOne A B top W = [⟨W, mx⟩]) := by show _ = _; rw [HOne.out, if_pos (of_decide_eq_true HEm.out)]
                      clear HOne
                      go_wp2_with (first
                        | (at_builtin; refine wpList_append_own _ rfl _ _ 49 rfl X.heap.size 51 i0 _ 2 24 Tryz.underlying49 hi hi0 hi1 hi2 rfl (by decide) _ _ _ rfl (HOwn.out.alloc _) ⟨wr.heap.size, 0, none⟩ 1 1 (Fl.cells ⟨W, mx⟩) rfl rfl (fun j u hj => cells_src (heap_alloc_new _ _) j u hj) (cells_oneF ⟨W, mx⟩) (by have := HLo.out; unfold maxLen; omega) (by have := HLo.out; omega) (by have := HBr.out.size; simp; omega) ?_; intro v5 W5 hown' hg5 hnil5
                           have HB5 : Hid (Below X.heap.size X W5) := (HBr.out.alloc HBr.out.size _).grown hg5 (by have := HBr.out.size; simp; omega) (fun g hg => (HOwn.out.lt g hg).1)
                           have HO5 := hide (own_snoc hown')
                           clear hown' hg5 hnil5 HOwn HBr))
                      go_wp2
                      go_meet
                      exact ⟨_, HO5, (show Hid _ from by show _ = _; rw [HOo.out]), HB5⟩
                    | false =>
                      have HOo : Hid (mjOne A B top W = []) := by show _ = _; rw [HOne.out, if_neg (of_decide_eq_false HEm.out)]
                      clear HOne
                      go_wp2
                      go_meet
                      exact ⟨o, HOwn, (show Hid _ from by show _ = _; rw [HOo.out, List.append_nil]), HBr⟩
                  case rest =>
                    obtain ⟨o', HO2, HE2, HB2⟩ := hcut
                    have HIn2 : Hid (o' ++ mj A B top (A.drop (nextAt A i W)) (B.drop (nextAt B j W)) = mj A B top A B) := by
                      show _ = _
                      rw [HE2.out, List.append_assoc, ← HSt.out.1]
                      exact HIn.out
                    have HMs : Hid (i + j < nextAt A i W + nextAt B j W) := HSt.out.2
                    have HNi : Hid (nextAt A i W ≤ na) := by have := next_le (A := A) (i := i) W (by rw [HNA.out]; exact hin); rw [HNA.out] at this; exact this
                    have HNj : Hid (nextAt B j W ≤ nb) := by have := next_le (A := B) (i := j) W (by rw [HNB.out]; exact hjn); rw [HNB.out] at this; exact this
                    have HGe : Hid (i ≤ nextAt A i W ∧ j ≤ nextAt B j W) := ⟨next_ge _ _ _, next_ge _ _ _⟩
                    clear HOwn HBr HE2 HIn HSt HEm HOne HLo
                    generalize wc = W5 at *
                    go_upto_if 98 with fail
                    go_cut [9] (fun s9 wc => s9 = .int .i64 (nextAt A i W) ∧ W5 = wc)
                    case first =>
                      by_cases hi1 : (i : Int) < (na : Int)
                      · have hia : i < A.length := by rw [HNA.out]; omega
                        obtain ⟨b1, off1, rfl, hcell⟩ := HCa.out hia
                        have c0 := hcell W5 HB2.out
                        have hex := same_names (A[i]'hia).who W
                        clear hcell
                        by_cases he : (A[i]'hia).who.data.toList = W.data.toList
                        · have HT : Hid (nextAt A i W = i + 1) := next_yes hia he
                          rw [decide_eq_true he] at hex
                          clear he
                          generalize (A[i]'hia).who = xw at *
                          go_wp2
                          go_meet
                          exact ⟨by rw [HT.out]; go_num, rfl⟩
                        · have HT : Hid (nextAt A i W = i) := next_no hia he
                          rw [decide_eq_false he] at hex
                          clear he
                          generalize (A[i]'hia).who = xw at *
                          go_wp2
                          go_meet
                          exact ⟨by rw [HT.out], rfl⟩
                      · have HT : Hid (nextAt A i W = i) := next_none (by rw [HNA.out]; omega)
                        go_wp2
                        go_meet
                        exact ⟨by rw [HT.out], rfl⟩
                    case rest =>
                      obtain ⟨rfl, rfl⟩ := hcut
                      clear HCa
                      by_cases hj1 : (j : Int) < (nb : Int)
                      · have hjb : j < B.length := by rw [HNB.out]; omega
                        obtain ⟨b2, off2, rfl, hcell⟩ := HCb.out hjb
                        have d0 := hcell W5 HB2.out
                        have hey := same_names (B[j]'hjb).who W
                        clear hcell
                        by_cases he : (B[j]'hjb).who.data.toList = W.data.toList
                        · have HT : Hid (nextAt B j W = j + 1) := next_yes hjb he
                          rw [decide_eq_true he] at hey
                          clear he
                          generalize (B[j]'hjb).who = yw at *
                          generalize nextAt A i W = ni at *
                          go_wp2
                          go_roundg ((na - ni) + (nb - nextAt B j W))
                          case measure => have := HMs.out; have := HNi.out; have := HNj.out; have := HGe.out; omega
                          case rel => exact ⟨ni, nextAt B j W, o', HNi.out, HNj.out, Nat.le_refl _, rfl, by rw [HT.out]; go_num, HO2, HIn2, HB2⟩
                        · have HT : Hid (nextAt B j W = j) := next_no hjb he
                          rw [decide_eq_false he] at hey
                          clear he
                          generalize (B[j]'hjb).who = yw at *
                          generalize nextAt A i W = ni at *
                          go_wp2
                          go_roundg ((na - ni) + (nb - nextAt B j W))
                          case measure => have := HMs.out; have := HNi.out; have := HNj.out; have := HGe.out; omega
                          case rel => exact ⟨ni, nextAt B j W, o', HNi.out, HNj.out, Nat.le_refl _, rfl, by rw [HT.out], HO2, HIn2, HB2⟩
                      · have HT : Hid (nextAt B j W = j) := next_none (by rw [HNB.out]; omega)
                        generalize nextAt A i W = ni at *
                        go_wp2
                        go_roundg ((na - ni) + (nb - nextAt B j W))
                        case measure => have := HMs.out; have := HNi.out; have := HNj.out; have := HGe.out; omega
                        case rel => exact ⟨ni, nextAt B j W, o', HNi.out, HNj.out, Nat.le_refl _, rfl, by rw [HT.out], HO2, HIn2, HB2⟩
      · have hi1 : ¬ (i : Int) < (na : Int) := by omega
        have hj1 : ¬ (j : Int) < (nb : Int) := by omega
        have HJo : Hid (o = joinL A B) := by
          have := HIn.out
          rw [List.drop_eq_nil_of_le (show A.length ≤ i by rw [HNA.out]; omega), List.drop_eq_nil_of_le (show B.length ≤ j by rw [HNB.out]; omega), mj, List.append_nil] at this
          show _ = _
          rw [this]
          exact HJ.out
        have HOf := hide HOwn.out
        obtain ⟨ado, capo, rfl, hco⟩ := HOwn.out.form
        have HLx : Hid (w.heap.size < X.heap.size) := row_lt HRX.out
        have HBw : Hid (Below w.heap.size w wr) := HBX.out.trans (HBr.out.mono HBX.out.size)
        have HRw : Hid (wr.heap[w.heap.size]? = some flt0) := (HBr.out.block _ HLx.out).trans HRX.out
        have HLen : Hid ((joinL A B).length = o.length) := by show _ = _; rw [HJo.out]
        clear HIn HCa HCb HVa HVb HOwn hany
        generalize hol : o.length = ol at *
        have HOl := hide hol
        clear hol
        by_cases h21 : 21 < ol
        · have hz : (21 : Int) < (ol : Int) := by omega
          have HQ := hide (HC1.out (by rw [HLen.out]; exact h21))
          go_wp2_with fail
          refine (HBare.out 7 _).mono ?_
          rintro e w9 ⟨rfl, hb9⟩
          have HB9 : Hid (Below w.heap.size w w9) := HBw.out.trans (hb9.mono HBw.out.size)
          have HR9 : Hid (w9.heap[w.heap.size]? = some flt0) := (hb9.block _ (row_lt HRw.out)).trans HRw.out
          have r0 : w9.cell? ⟨w.heap.size, 0, none⟩ = some (.int .i64 0) := cell_of_row w9 _ 0 _ _ _ HR9.out
          have r1 : w9.cell? ⟨w.heap.size, 1, none⟩ = some (.int .i64 0) := cell_of_row w9 _ 1 _ _ _ HR9.out
          have z0 : w9.frozen? ⟨w.heap.size, 0, none⟩ = false := frozen_of_row w9 _ 0 _ _ HR9.out
          have z1 : w9.frozen? ⟨w.heap.size, 1, none⟩ = false := frozen_of_row w9 _ 1 _ _ HR9.out
          clear hb9
          go_wp2
          refine joinEnd w.heap.size _ rfl (set2_row HR9.out _ _) rfl rfl ?_
          rw [HQ.out.1, HQ.out.2]
          exact ⟨⟨_, rfl, Or.inl ⟨none, 0, rfl, rfl⟩⟩, (HB9.out.setCell (p := ⟨w.heap.size, 0, none⟩) (Nat.le_refl _) _).setCell (p := ⟨w.heap.size, 0 + 1, none⟩) (Nat.le_refl _) _⟩
        · have hz : ¬ (21 : Int) < (ol : Int) := by omega
          have HQ := hide (HC2.out (by rw [HLen.out]; exact h21))
          go_wp2_with fail
          refine (HFine.out _).mono ?_
          rintro e w9 ⟨rfl, hb9⟩
          have HB9 : Hid (Below w.heap.size w w9) := HBw.out.trans (hb9.mono HBw.out.size)
          have HR9 : Hid (w9.heap[w.heap.size]? = some flt0) := (hb9.block _ (row_lt HRw.out)).trans HRw.out
          have HO9 := hide (HOf.out.below hb9)
          have r0 : w9.cell? ⟨w.heap.size, 0, none⟩ = some (.int .i64 0) := cell_of_row w9 _ 0 _ _ _ HR9.out
          have r1 : w9.cell? ⟨w.heap.size, 1, none⟩ = some (.int .i64 0) := cell_of_row w9 _ 1 _ _ _ HR9.out
          have z0 : w9.frozen? ⟨w.heap.size, 0, none⟩ = false := frozen_of_row w9 _ 0 _ _ HR9.out
          have z1 : w9.frozen? ⟨w.heap.size, 1, none⟩ = false := frozen_of_row w9 _ 1 _ _ HR9.out
          clear hb9
          go_wp2
          refine joinEnd w.heap.size _ rfl (set2_row HR9.out _ _) rfl rfl ?_
          rw [HQ.out.1, HQ.out.2, ← HJo.out]
          refine ⟨⟨_, rfl, ?_⟩, (HB9.out.setCell (p := ⟨w.heap.size, 0, none⟩) (Nat.le_refl _) _).setCell (p := ⟨w.heap.size, 0 + 1, none⟩) (Nat.le_refl _) _⟩
          refine OwnF.flAt (HO9.out.keep (fun g hg => ?_))
          have hg1 := (HO9.out.lt g hg).1
          have hlx := HLx.out
          rw [heap_setCell_other _ ⟨w.heap.size, 0 + 1, none⟩ g _ (by show g ≠ w.heap.size; omega), heap_setCell_other _ ⟨w.heap.size, 0, none⟩ g _ (by show g ≠ w.heap.size; omega)]
end Go.Proofs.YtgkkffcbneabkabGreatDoor

namespace Go.Proofs.YtgkkffcbneabkabGreatDoor
open Go Go.RowKit Go.Extern.Stop Go.Stop Go.Extern Go.Proofs

attribute [local go_sem] Oper.semAt_some

set_option maxRecDepth 100000 in
set_option maxHeartbeats 16000000 in
theorem refJoin_any (v1 v2 : Value) (A B : List Fl) (w : World) (hv1 : FlAt w v1 A) (hv2 : FlAt w v2 B) (hs1 : ∀ g ∈ A, g.who.size ≤ maxLen) (hs2 : ∀ g ∈ B, g.who.size ≤ maxLen) (hl1 : A.length ≤ 100000) (hl2 : B.length ≤ 100000) :
    Calls Tryz.prog 37 #[v1, v2] w fun e w' => FltPost (joinC A B) (joinR A B) w w' e := by
  have HFA := hide (fun w h => refFault_any v1 A w h hs1 (by omega))
  have HFB := hide (fun w h => refFault_any v2 B w h hs2 (by omega))
  have HBare := hide (fun c w => bare_any c w)
  have HFine := hide (fun w => fine_any w)
  have HW0 : Hid (Below w.heap.size w (w.alloc flt0) ∧ (w.alloc flt0).heap[w.heap.size]? = some flt0) := ⟨(Below.refl _ _).alloc (Nat.le_refl _) _, heap_alloc_new _ _⟩
  have HR : Hid (joinC A B = if (checkL A).1 = 0 then (if (checkL B).1 = 0 then checkL (joinL A B) else checkL B) else checkL A) := rfl
  have HRR : Hid (joinR A B = if (joinC A B).1 = 0 then joinL A B else []) := rfl
  have HV1 := hide hv1
  have HV2 := hide hv2
  have HS1 := hide hs1
  have HS2 := hide hs2
  clear hv1 hv2 hs1 hs2
  by_cases h1 : (checkL A).1 = 0
  · obtain ⟨hA, nA⟩ := right_of_check h1
    have hck : checkL A = (0, -1) := by rw [check_right hA, if_neg (by omega)]
    rw [if_pos h1] at HR
    rw [hck] at HFA
    clear h1 hck
    by_cases h2 : (checkL B).1 = 0
    · obtain ⟨hB, nB⟩ := right_of_check h2
      exact refJoin_right v1 v2 A B w HV1.out HV2.out hA hB nA nB HS1.out HS2.out
    · rw [if_neg h2] at HR
      rw [HR.out, if_neg h2] at HRR
      rw [HR.out, HRR.out]
      clear HR HRR
      have hq : (((checkL B).1 : Int) == 0) = false := by rw [beq_eq_false_iff_ne]; omega
      have hq2 : (0 : Int) < ((checkL B).1 : Int) := by omega
      generalize checkL B = c at *
      clear h2
      go_enter Tryz.func37, Tryz.ntmps37
      go_wp2_with fail
      refine (HFA.out _ (HV1.out.below HW0.out.1)).mono ?_
      rintro e w1 ⟨rfl, hb⟩
      have HB1 : Hid (Below w.heap.size w w1) := HW0.out.1.trans (hb.mono HW0.out.1.size)
      have HR1 : Hid (w1.heap[w.heap.size]? = some flt0) := (hb.block _ (row_lt HW0.out.2)).trans HW0.out.2
      clear hb HFA HW0
      have HV2b : Hid (FlAt (w1.alloc (.cells #[.int .i64 0, .int .i64 (-1)] 55)) v2 B) := (HV2.out.below HB1.out).below ((Below.refl _ _).alloc (Nat.le_refl _) _)
      go_wp2_with fail
      refine (HFB.out _ HV2b.out).mono ?_
      rintro e w4 ⟨rfl, hb4⟩
      have HB4 : Hid (Below (w1.heap.size + 1) (w1.alloc (.cells #[.int .i64 0, .int .i64 (-1)] 55)) w4) := by
        have h3 := hb4
        rwa [World.size_alloc] at h3
      have HG4 : Hid (w4.heap[w1.heap.size]? = some (.cells #[.int .i64 0, .int .i64 (-1)] 55 (0, 0))) := (HB4.out.block _ (by omega)).trans (heap_alloc_new _ _)
      have HO4 : Hid (∀ k, k < w1.heap.size → w4.heap[k]? = w1.heap[k]?) := fun k hk => (HB4.out.block k (by omega)).trans (Below.heap_alloc _ _ _ hk)
      clear hb4 HFB HV2b
      have g0 : w4.cell? ⟨w1.heap.size, 0, none⟩ = some (.int .i64 0) := cell_of_row w4 _ 0 _ _ _ HG4.out
      have g1 : w4.cell? ⟨w1.heap.size, 1, none⟩ = some (.int .i64 (-1)) := cell_of_row w4 _ 1 _ _ _ HG4.out
      have gz0 : w4.frozen? ⟨w1.heap.size, 0, none⟩ = false := frozen_of_row w4 _ 0 _ _ HG4.out
      have gz1 : w4.frozen? ⟨w1.heap.size, 1, none⟩ = false := frozen_of_row w4 _ 1 _ _ HG4.out
      go_wp2
      obtain ⟨X, hX⟩ : ∃ X, (w4.setCell ⟨w1.heap.size, 0, none⟩ (.int .i64 (c.1 : Int))).setCell ⟨w1.heap.size, 0 + 1, none⟩ (.int .i64 c.2) = X := ⟨_, rfl⟩
      have HG : Hid (X.heap[w1.heap.size]? = some (.cells #[.int .i64 (c.1 : Int), .int .i64 c.2] 55 (0, 0))) := by rw [← hX]; exact set2_row HG4.out _ _
      have HOX : Hid (∀ k, k < w1.heap.size → X.heap[k]? = w1.heap[k]?) := fun k hk => by
        rw [← hX, heap_setCell_other _ ⟨w1.heap.size, 0 + 1, none⟩ k _ (by show k ≠ w1.heap.size; omega), heap_setCell_other _ ⟨w1.heap.size, 0, none⟩ k _ (by show k ≠ w1.heap.size; omega)]
        exact HO4.out k hk
      have HBX : Hid (Below w.heap.size w X) := by
        rw [← hX]
        have hs := HB1.out.size
        have hb5 : Below w.heap.size w w4 := (HB1.out.alloc hs (.cells #[.int .i64 0, .int .i64 (-1)] 55)).trans (HB4.out.mono (by omega))
        exact (hb5.setCell (p := ⟨w1.heap.size, 0, none⟩) hs _).setCell (p := ⟨w1.heap.size, 0 + 1, none⟩) hs _
      have HRX : Hid (X.heap[w.heap.size]? = some flt0) := (HOX.out _ (row_lt HR1.out)).trans HR1.out
      clear g0 g1 gz0 gz1 HG4 HO4 HB4
      rw [hX]
      clear hX
      have x0 : X.cell? ⟨w1.heap.size, 0, none⟩ = some (.int .i64 (c.1 : Int)) := cell_of_row X _ 0 _ _ _ HG.out
      have x1 : X.cell? ⟨w1.heap.size, 1, none⟩ = some (.int .i64 c.2) := cell_of_row X _ 1 _ _ _ HG.out
      have y0 : X.drew.cell? ⟨w1.heap.size, 0, none⟩ = some (.int .i64 (c.1 : Int)) := x0
      have y1 : X.drew.cell? ⟨w1.heap.size, 1, none⟩ = some (.int .i64 c.2) := x1
      have r0 : X.cell? ⟨w.heap.size, 0, none⟩ = some (.int .i64 0) := cell_of_row X _ 0 _ _ _ HRX.out
      have r1 : X.cell? ⟨w.heap.size, 1, none⟩ = some (.int .i64 0) := cell_of_row X _ 1 _ _ _ HRX.out
      have s0 : X.drew.cell? ⟨w.heap.size, 0, none⟩ = some (.int .i64 0) := r0
      have s1 : X.drew.cell? ⟨w.heap.size, 1, none⟩ = some (.int .i64 0) := r1
      have z0 : X.frozen? ⟨w.heap.size, 0, none⟩ = false := frozen_of_row X _ 0 _ _ HRX.out
      have z1 : X.frozen? ⟨w.heap.size, 1, none⟩ = false := frozen_of_row X _ 1 _ _ HRX.out
      have q0 : X.drew.frozen? ⟨w.heap.size, 0, none⟩ = false := z0
      have q1 : X.drew.frozen? ⟨w.heap.size, 1, none⟩ = false := z1
      go_region
      all_goals
        go_wp2
        refine joinEnd w.heap.size _ rfl (set2_row (w := X.drew) HRX.out _ _) rfl rfl ?_
        exact ⟨⟨_, rfl, Or.inl ⟨none, 0, rfl, rfl⟩⟩, (HBX.out.drew.setCell (p := ⟨w.heap.size, 0, none⟩) (Nat.le_refl _) _).setCell (p := ⟨w.heap.size, 0 + 1, none⟩) (Nat.le_refl _) _⟩
  · rw [if_neg h1] at HR
    rw [HR.out, if_neg h1] at HRR
    rw [HR.out, HRR.out]
    clear HR HRR
    have hq : (((checkL A).1 : Int) == 0) = false := by rw [beq_eq_false_iff_ne]; omega
    have hq2 : (0 : Int) < ((checkL A).1 : Int) := by omega
    generalize checkL A = c at *
    clear h1
    go_enter Tryz.func37, Tryz.ntmps37
    go_wp2_with fail
    refine (HFA.out _ (HV1.out.below HW0.out.1)).mono ?_
    rintro e w1 ⟨rfl, hb⟩
    have HB1 : Hid (Below w.heap.size w w1) := HW0.out.1.trans (hb.mono HW0.out.1.size)
    have HR1 : Hid (w1.heap[w.heap.size]? = some flt0) := (hb.block _ (row_lt HW0.out.2)).trans HW0.out.2
    clear hb HFA HW0
    go_wp2
    obtain ⟨X, hX⟩ : ∃ X, w1.alloc (.cells #[.int .i64 (c.1 : Int), .int .i64 c.2] 55) = X := ⟨_, rfl⟩
    have HBX : Hid (Below w.heap.size w X) := by rw [← hX]; exact HB1.out.alloc HB1.out.size _
    have HG : Hid (X.heap[w1.heap.size]? = some (.cells #[.int .i64 (c.1 : Int), .int .i64 c.2] 55 (0, 0))) := by rw [← hX]; exact heap_alloc_new _ _
    have HRX : Hid (X.heap[w.heap.size]? = some flt0) := by rw [← hX]; exact (Below.heap_alloc _ _ _ (row_lt HR1.out)).trans HR1.out
    rw [hX]
    clear hX
    have x0 : X.cell? ⟨w1.heap.size, 0, none⟩ = some (.int .i64 (c.1 : Int)) := cell_of_row X _ 0 _ _ _ HG.out
    have x1 : X.cell? ⟨w1.heap.size, 1, none⟩ = some (.int .i64 c.2) := cell_of_row X _ 1 _ _ _ HG.out
    have y0 : X.drew.cell? ⟨w1.heap.size, 0, none⟩ = some (.int .i64 (c.1 : Int)) := x0
    have y1 : X.drew.cell? ⟨w1.heap.size, 1, none⟩ = some (.int .i64 c.2) := x1
    have r0 : X.cell? ⟨w.heap.size, 0, none⟩ = some (.int .i64 0) := cell_of_row X _ 0 _ _ _ HRX.out
    have r1 : X.cell? ⟨w.heap.size, 1, none⟩ = some (.int .i64 0) := cell_of_row X _ 1 _ _ _ HRX.out
    have s0 : X.drew.cell? ⟨w.heap.size, 0, none⟩ = some (.int .i64 0) := r0
    have s1 : X.drew.cell? ⟨w.heap.size, 1, none⟩ = some (.int .i64 0) := r1
    have z0 : X.frozen? ⟨w.heap.size, 0, none⟩ = false := frozen_of_row X _ 0 _ _ HRX.out
    have z1 : X.frozen? ⟨w.heap.size, 1, none⟩ = false := frozen_of_row X _ 1 _ _ HRX.out
    have q0 : X.drew.frozen? ⟨w.heap.size, 0, none⟩ = false := z0
    have q1 : X.drew.frozen? ⟨w.heap.size, 1, none⟩ = false := z1
    go_region
    all_goals
      go_wp2
      refine joinEnd w.heap.size _ rfl (set2_row (w := X.drew) HRX.out _ _) rfl rfl ?_
      exact ⟨⟨_, rfl, Or.inl ⟨none, 0, rfl, rfl⟩⟩, (HBX.out.drew.setCell (p := ⟨w.heap.size, 0, none⟩) (Nat.le_refl _) _).setCell (p := ⟨w.heap.size, 0 + 1, none⟩) (Nat.le_refl _) _⟩
end Go.Proofs.YtgkkffcbneabkabGreatDoor

/-
  The law TapeActs: with any acts on a tape of any bytes the program answers, and what lies there is, as the document's answer tells.
-/
import Derived.Test.YteofodegeigmaaaDoorTapePair
import Derived.Test.YteofodegeigmaaaDoorHand
import Derived.BigQuiet
import Derived.Deep.RegionHeld3
import Derived.Deep.CutBlock
import Derived.Deep.DeepCutAuto
namespace Go.Proofs.YteofodegeigmaaaDoor
open Go Go.RowKit Go.Extern.Stop Go.Stop Go.Extern Go.Proofs

theorem rt_bool (b : Bool) : ((!b) == b) = false := by cases b <;> rfl
set_option maxRecDepth 100000 in
set_option maxHeartbeats 8000000 in
theorem tapeActs_law (a : Nat → Addr) (b : ByteArray) (v : Value) (l : List Tw) (W : World) (hE : Errs a W) (hT : Tab10 W) (hv : TwIn W v l) :
    Calls Tryd.prog 4 #[.string b, v] W fun e w' => e = .returned (.bool true) ∧ Below W.heap.size W w' := by
  have HTp := hide (taped_any a W (hE.ev _) hT)
  have HE := hide hE
  have HT := hide hT
  obtain ⟨ad, cap, rfl, hcap, hcell⟩ := hv
  have HV := hide hcell
  generalize hn : l.length = n at *
  have HN := hide hn
  have eb : b.data.toList.length = b.size := by simp
  clear hE hT hcell hn
  go_enter Tryd.func4, Tryd.ntmps4
  go_wp2_with fail
  refine HTp.out.mono ?_
  rintro e w1 ⟨rfl, hb⟩
  have HB1 := hide hb
  clear hb HTp
  by_cases hb2 : 2000 < b.size
  · have hz : (2000 : Int) < (b.size : Int) := by omega
    go_wp2
    go_ret
    exact ⟨rfl, HB1.out⟩
  have hz2 : ¬ (2000 : Int) < (b.size : Int) := by omega
  by_cases hn50 : 50 < n
  · have hz : (50 : Int) < (n : Int) := by omega
    go_wp2
    go_ret
    exact ⟨rfl, HB1.out⟩
  have hz50 : ¬ (50 : Int) < (n : Int) := by omega
  have HNew := hide (newDisk_any b w1 (by omega))
  go_wp2_with fail
  refine HNew.out.mono ?_
  rintro e w2 ⟨d, v0, rfl, hd, hD, hb⟩
  have hB2 : Below W.heap.size W w2 := HB1.out.trans (hb.mono HB1.out.size)
  have HSt : Hid (TaSt W d w2.heap.size ⟨b.data.toList, false, -1⟩ ⟨b.data.toList, false, -1⟩ (w2.alloc (rtY ⟨b.data.toList, false, -1⟩))) := by
    have hD' : DiskAt w2 W.heap.size d v0 ⟨b.data.toList, false, -1⟩ := ⟨hD.row, hD.own.less HB1.out.size⟩
    exact ⟨⟨v0, hD'.below ((Below.refl _ _).alloc (Nat.le_refl _) _)⟩, heap_alloc_new _ _, hB2.alloc hB2.size _, Nat.le_trans HB1.out.size hd, hB2.size⟩
  have HR0 : Hid (Tp.Right ⟨b.data.toList, false, -1⟩) := ⟨by show b.data.toList.length ≤ _; omega, by show (-1 : Int) ≤ -1; omega, by show (-1 : Int) ≤ _; omega⟩
  clear hd hD hB2 hb HNew
  go_wp2
  obtain ⟨w3, hw3⟩ : ∃ w3, w2.alloc (rtY ⟨b.data.toList, false, -1⟩) = w3 := ⟨_, rfl⟩
  have HW3 := hide hw3
  change Hid (w2.alloc (.cells #[.string b, .bool false, .int .i64 (-1)] 41 (0, 0)) = w3) at HW3
  rw [hw3] at HSt
  first | rw [HW3.out] | skip
  generalize w2.heap.size = m at *
  go_loopg [9, 10, 11, 12, 13] n (fun gg s9 _ _ _ _ wr => ∃ (k : Nat) (t : Tp), s9 = .int .i64 k ∧ k ≤ n ∧ n - k ≤ gg ∧ Hid t.Right ∧ Hid (TaSt W d m t t wr))
  case atStart => exact ⟨0, _, rfl, Nat.zero_le _, Nat.le_refl _, HR0, HSt⟩
  case round =>
    obtain ⟨k, t, rfl, hk, hgg, HR, HO⟩ := hrel
    clear HSt HR0 HW3 HB1 hw3
    by_cases hlt : k < n
    · obtain ⟨wb, wo, rfl, hwb, hcs⟩ := HV.out (by omega)
      obtain ⟨x, hx⟩ : ∃ x, l[k]? = some x := ⟨l[k]'(by rw [HN.out]; exact hlt), List.getElem?_eq_getElem _⟩
      obtain ⟨⟨c0, c1, c2⟩, hnm⟩ := hcs k x hx
      obtain ⟨kd, s, nn⟩ := x
      dsimp only at c0 c1 c2 hnm
      have hbel := HO.out.below
      rw [← hbel.cell (p := ⟨wb, wo + k * 3, none⟩) hwb] at c0
      rw [← hbel.cell (p := ⟨wb, wo + k * 3 + 1, none⟩) hwb] at c1
      rw [← hbel.cell (p := ⟨wb, wo + k * 3 + 2, none⟩) hwb] at c2
      have HX0 : Hid (TaSx W d m wr.heap.size kd s nn t t (wr.alloc (twO kd s nn))) := ⟨HO.out.less ((Below.refl _ _).alloc (Nat.le_refl _) _), heap_alloc_new _ _⟩
      clear hcs hx hbel hwb
      go_upto_region 12 with fail
      obtain ⟨W1, hW1⟩ : ∃ W1, wr.alloc (twO kd s nn) = W1 := ⟨_, rfl⟩
      rw [hW1] at HX0
      change wr.alloc (.cells #[.string kd, .string s, .int .i64 nn] 43 (0, 0)) = W1 at hW1
      rw [hW1]
      clear hW1 c0 c1 c2 HO
      generalize wr.heap.size = ga at *
      obtain ⟨c0, c1, c2⟩ := HX0.out.cell
      by_cases hs2 : 200 < s.size ∧ s.size ≠ 4001
      · have hz : (200 : Int) < (s.size : Int) := by omega
        have hz4 : ((s.size : Int) != 4001) = true := by rw [bne_iff_ne]; omega
        go_wp2
        go_ret
        exact ⟨rfl, HX0.out.st.below⟩
      have HSd := hide (HX0.out.less ((Below.refl _ _).drew))
      have HEv := hide (HE.out.ev tpS)
      have hcs : (¬ (200 : Int) < (s.size : Int)) ∨ ((200 : Int) < (s.size : Int) ∧ ((s.size : Int) != 4001) = false) := by
        by_cases h : s.size = 4001
        · right; rw [h]; decide
        · left; omega
      by_cases hk1 : kd.toList = [97, 112, 112, 101, 110, 100]
      · have hkz : (kd.toList == [97, 112, 112, 101, 110, 100]) = true := by rw [beq_iff_eq]; exact hk1
        rcases hcs with hcs | ⟨hcs, hcs2⟩
        all_goals
          go_upto_region 20 with fail
          go_cut [94] (fun s94 wc => s94 = .bool false ∧ Hid (TaSx W d m ga kd s nn (t.appR s.data.toList) (t.appR s.data.toList) wc))
          case first =>
            have HA := hide (fun w h => TaSx.append (W := W) (d := d) (m := m) (ga := ga) (kd := kd) (s := s) (n := nn) (t := t) (t2 := t) (w := w) a h HEv.out HT.out HR.out s)
            have HB := hide (fun w h => TaSx.refAppend (W := W) (d := d) (m := m) (ga := ga) (kd := kd) (s := s) (n := nn) (t := t.appR s.data.toList) (t2 := t) (w := w) h HR.out s)
            have HCo := hide (fun w h => TaSx.coded (W := W) (d := d) (m := m) (ga := ga) (kd := kd) (s := s) (n := nn) (t := t.appR s.data.toList) (t2 := t.appR s.data.toList) (w := w) a h HE.out (t.appC s.data.toList) (Tp.appC_small _ _))
            generalize t.appR s.data.toList = t' at *
            generalize errV a (t.appC s.data.toList) = ev at *
            generalize (t.appC s.data.toList : Int) = cn at *
            refine wp_region_noPanic ?_
            refine wp_region_held_drew (S := (fun w' => w'.cell? ⟨ga, 0, none⟩ = some (.string kd) ∧ w'.cell? ⟨ga, 1, none⟩ = some (.string s) ∧ w'.cell? ⟨ga, 2, none⟩ = some (.int .i64 nn))) (by kernel_rfl) ⟨c0, c1, c2⟩ (fun hHeld => ?_)
            refine takeD (i := 0) (oi := _) (v := ?_) (d := 85) rfl rfl (by kernel_rfl) (by kernel_rfl) (by kernel_rfl) (fun _ _ _ h => h) (Or.inl ⟨by rfl, ?_⟩) (by assumption) ?_
            rotate_left
            · intro w hSw
              (try dsimp only at hSw)
              go_simp
              (try with_reducible rfl)
            simp only [List.setIfInBounds_toArray, List.set_cons_zero, List.set_cons_succ]
            refine takeD (i := 1) (oi := _) (v := ?_) (d := 86) rfl rfl (by kernel_rfl) (by kernel_rfl) (by kernel_rfl) (fun _ _ _ h => h) (Or.inl ⟨by rfl, ?_⟩) (by assumption) ?_
            rotate_left
            · intro w hSw
              (try dsimp only at hSw)
              go_simp
              (try with_reducible rfl)
            simp only [List.setIfInBounds_toArray, List.set_cons_zero, List.set_cons_succ]
            refine takeD (i := 2) (oi := _) (v := ?_) (d := 87) rfl rfl (by kernel_rfl) (by kernel_rfl) (by kernel_rfl) (fun _ _ _ h => h) (Or.inl ⟨by rfl, ?_⟩) (by assumption) ?_
            rotate_left
            · intro w hSw
              (try dsimp only at hSw)
              go_simp
              (try with_reducible rfl)
            simp only [List.setIfInBounds_toArray, List.set_cons_zero, List.set_cons_succ]
            refine takeD (i := 4) (oi := _) (v := ?_) (d := 89) rfl rfl (by kernel_rfl) (by kernel_rfl) (by kernel_rfl) (fun _ _ _ h => h) (Or.inl ⟨by rfl, ?_⟩) (by assumption) ?_
            rotate_left
            · intro w hSw
              (try dsimp only at hSw)
              go_simp
              (try with_reducible rfl)
            simp only [List.setIfInBounds_toArray, List.set_cons_zero, List.set_cons_succ]
            refine takeD (i := 5) (oi := _) (v := ?_) (d := 90) rfl rfl (by kernel_rfl) (by kernel_rfl) (by kernel_rfl) (fun _ _ _ h => h) (Or.inl ⟨by rfl, ?_⟩) (by assumption) ?_
            rotate_left
            · intro w hSw
              (try dsimp only at hSw)
              go_simp
              (try with_reducible rfl)
            simp only [List.setIfInBounds_toArray, List.set_cons_zero, List.set_cons_succ]
            refine takeD (i := 6) (oi := _) (v := ?_) (d := 91) rfl rfl (by kernel_rfl) (by kernel_rfl) (by kernel_rfl) (fun _ _ _ h => h) (Or.inl ⟨by rfl, ?_⟩) (by assumption) ?_
            rotate_left
            · intro w hSw
              (try dsimp only at hSw)
              go_simp
              (try with_reducible rfl)
            simp only [List.setIfInBounds_toArray, List.set_cons_zero, List.set_cons_succ]
            refine wpAnyH_ready (rs := [3]) (by kernel_rfl) (by simp) ?_
            refine AllReadyH.cons (o := _) rfl (fun K hK => ?_) AllReadyH.nil
            go_simp
            refine (HA.out _ HSd.out).mono ?_
            rintro e w6 ⟨rfl, hst⟩
            have HS6 := hide hst
            clear hst
            go_wp2_with fail
            refine hK.out _ _ HS6.out.cell (fun hHeld => ?_)
            clear hK K
            refine wpAnyH_ready (rs := [7]) (by kernel_rfl) (by simp) ?_
            refine AllReadyH.cons (o := _) rfl (fun K hK => ?_) AllReadyH.nil
            go_simp
            refine (HB.out _ HS6.out).mono ?_
            rintro e w7 ⟨rfl, hst⟩
            have HS7 := hide hst
            clear hst
            go_wp2_with fail
            refine hK.out _ _ HS7.out.cell (fun hHeld => ?_)
            clear hK K
            refine wpAnyH_ready (rs := [8]) (by kernel_rfl) (by simp) ?_
            refine AllReadyH.cons (o := _) rfl (fun K hK => ?_) AllReadyH.nil
            go_simp
            refine (HCo.out _ HS7.out).mono ?_
            rintro e w8 ⟨rfl, hst⟩
            have HS8 := hide hst
            clear hst
            go_wp2_with fail
            refine hK.out _ _ HS8.out.cell (fun hHeld => ?_)
            clear hK K
            refine takeD (i := 9) (oi := _) (v := ?_) (d := 94) rfl rfl (by kernel_rfl) (by kernel_rfl) (by kernel_rfl) (fun _ _ _ h => h) (Or.inl ⟨by rfl, ?_⟩) (by assumption) ?_
            rotate_left
            · intro w hSw
              (try dsimp only at hSw)
              go_simp
              (try with_reducible rfl)
            simp only [List.setIfInBounds_toArray, List.set_cons_zero, List.set_cons_succ]
            refine wpAnyH_done (by kernel_rfl) ?_ _
            refine NoPanic.normal ?_
            go_wp2_with fail
            go_meet
            case rel => exact ⟨by simp, HS8.out⟩
          case rest =>
            obtain ⟨rfl, HS2⟩ := hcut
            have HR2 := hide (HR.out.app s.data.toList)
            clear c0 c1 c2 HX0 HSd
            generalize t.appR s.data.toList = TT at *
            clear HR
            have HFin := hide HS2.out.st
            have HRt := hide HR2.out
            have HBy := hide (fun w' (h : Below _ _ w') => (HFin.out.less h).bytes)
            have HPw := hide (fun w' (h : Below _ _ w') => (HFin.out.less h).power)
            obtain ⟨⟨e0, e1, e2⟩, _⟩ := rt_cells HFin.out.ref
            have hpb := rt_bool TT.off
            have HF2 := hide (fun w' (h : Below _ _ w') => HFin.out.less h)
            generalize TT.off = of at *
            generalize txt TT.b = bb at *
            go_upto_region 29 with fail
            go_quiet (first | (go_at_call 13; exact Calls.quiet_of_same (HBy.out _ (below_drewN (Below.refl _ _) _))) | (go_at_call 11; exact Calls.quiet_of_same (HPw.out _ (below_drewN (Below.refl _ _) _))))
            go_wp2
            go_roundg (n - (k + 1))
            case measure => omega
            case rel => exact ⟨k + 1, _, by go_num, by omega, Nat.le_refl _, HRt, HF2.out _ (below_drewN (Below.refl _ _) _)⟩
      have hkz : (kd.toList == [97, 112, 112, 101, 110, 100]) = false := by rw [beq_eq_false_iff_ne]; exact hk1
      by_cases hk2 : kd.toList = [99, 117, 116]
      · have hkz2 : (kd.toList == [99, 117, 116]) = true := by rw [beq_iff_eq]; exact hk2
        rcases hcs with hcs | ⟨hcs, hcs2⟩
        all_goals
          go_upto_region 23 with fail
          go_cut [106] (fun s106 wc => s106 = .bool false ∧ Hid (TaSx W d m ga kd s nn (t.cutR nn) (t.cutR nn) wc))
          case first =>
            have HA := hide (fun w h => TaSx.cut (W := W) (d := d) (m := m) (ga := ga) (kd := kd) (s := s) (n := nn) (t := t) (t2 := t) (w := w) a h HEv.out nn)
            have HB := hide (fun w h => TaSx.refCut (W := W) (d := d) (m := m) (ga := ga) (kd := kd) (s := s) (n := nn) (t := t.cutR nn) (t2 := t) (w := w) h nn)
            have HCo := hide (fun w h => TaSx.coded (W := W) (d := d) (m := m) (ga := ga) (kd := kd) (s := s) (n := nn) (t := t.cutR nn) (t2 := t.cutR nn) (w := w) a h HE.out (t.cutC nn) (Tp.cutC_small _ _))
            generalize t.cutR nn = t' at *
            generalize errV a (t.cutC nn) = ev at *
            generalize (t.cutC nn : Int) = cn at *
            refine wp_region_noPanic ?_
            refine wp_region_held_drew (S := (fun w' => w'.cell? ⟨ga, 0, none⟩ = some (.string kd) ∧ w'.cell? ⟨ga, 1, none⟩ = some (.string s) ∧ w'.cell? ⟨ga, 2, none⟩ = some (.int .i64 nn))) (by kernel_rfl) ⟨c0, c1, c2⟩ (fun hHeld => ?_)
            refine takeD (i := 0) (oi := _) (v := ?_) (d := 97) rfl rfl (by kernel_rfl) (by kernel_rfl) (by kernel_rfl) (fun _ _ _ h => h) (Or.inl ⟨by rfl, ?_⟩) (by assumption) ?_
            rotate_left
            · intro w hSw
              (try dsimp only at hSw)
              go_simp
              (try with_reducible rfl)
            simp only [List.setIfInBounds_toArray, List.set_cons_zero, List.set_cons_succ]
            refine takeD (i := 1) (oi := _) (v := ?_) (d := 98) rfl rfl (by kernel_rfl) (by kernel_rfl) (by kernel_rfl) (fun _ _ _ h => h) (Or.inl ⟨by rfl, ?_⟩) (by assumption) ?_
            rotate_left
            · intro w hSw
              (try dsimp only at hSw)
              go_simp
              (try with_reducible rfl)
            simp only [List.setIfInBounds_toArray, List.set_cons_zero, List.set_cons_succ]
            refine takeD (i := 2) (oi := _) (v := ?_) (d := 99) rfl rfl (by kernel_rfl) (by kernel_rfl) (by kernel_rfl) (fun _ _ _ h => h) (Or.inl ⟨by rfl, ?_⟩) (by assumption) ?_
            rotate_left
            · intro w hSw
              (try dsimp only at hSw)
              go_simp
              (try with_reducible rfl)
            simp only [List.setIfInBounds_toArray, List.set_cons_zero, List.set_cons_succ]
            refine takeD (i := 4) (oi := _) (v := ?_) (d := 101) rfl rfl (by kernel_rfl) (by kernel_rfl) (by kernel_rfl) (fun _ _ _ h => h) (Or.inl ⟨by rfl, ?_⟩) (by assumption) ?_
            rotate_left
            · intro w hSw
              (try dsimp only at hSw)
              go_simp
              (try with_reducible rfl)
            simp only [List.setIfInBounds_toArray, List.set_cons_zero, List.set_cons_succ]
            refine takeD (i := 5) (oi := _) (v := ?_) (d := 102) rfl rfl (by kernel_rfl) (by kernel_rfl) (by kernel_rfl) (fun _ _ _ h => h) (Or.inl ⟨by rfl, ?_⟩) (by assumption) ?_
            rotate_left
            · intro w hSw
              (try dsimp only at hSw)
              go_simp
              (try with_reducible rfl)
            simp only [List.setIfInBounds_toArray, List.set_cons_zero, List.set_cons_succ]
            refine takeD (i := 6) (oi := _) (v := ?_) (d := 103) rfl rfl (by kernel_rfl) (by kernel_rfl) (by kernel_rfl) (fun _ _ _ h => h) (Or.inl ⟨by rfl, ?_⟩) (by assumption) ?_
            rotate_left
            · intro w hSw
              (try dsimp only at hSw)
              go_simp
              (try with_reducible rfl)
            simp only [List.setIfInBounds_toArray, List.set_cons_zero, List.set_cons_succ]
            refine wpAnyH_ready (rs := [3]) (by kernel_rfl) (by simp) ?_
            refine AllReadyH.cons (o := _) rfl (fun K hK => ?_) AllReadyH.nil
            go_simp
            refine (HA.out _ HSd.out).mono ?_
            rintro e w6 ⟨rfl, hst⟩
            have HS6 := hide hst
            clear hst
            go_wp2_with fail
            refine hK.out _ _ HS6.out.cell (fun hHeld => ?_)
            clear hK K
            refine wpAnyH_ready (rs := [7]) (by kernel_rfl) (by simp) ?_
            refine AllReadyH.cons (o := _) rfl (fun K hK => ?_) AllReadyH.nil
            go_simp
            refine (HB.out _ HS6.out).mono ?_
            rintro e w7 ⟨rfl, hst⟩
            have HS7 := hide hst
            clear hst
            go_wp2_with fail
            refine hK.out _ _ HS7.out.cell (fun hHeld => ?_)
            clear hK K
            refine wpAnyH_ready (rs := [8]) (by kernel_rfl) (by simp) ?_
            refine AllReadyH.cons (o := _) rfl (fun K hK => ?_) AllReadyH.nil
            go_simp
            refine (HCo.out _ HS7.out).mono ?_
            rintro e w8 ⟨rfl, hst⟩
            have HS8 := hide hst
            clear hst
            go_wp2_with fail
            refine hK.out _ _ HS8.out.cell (fun hHeld => ?_)
            clear hK K
            refine takeD (i := 9) (oi := _) (v := ?_) (d := 106) rfl rfl (by kernel_rfl) (by kernel_rfl) (by kernel_rfl) (fun _ _ _ h => h) (Or.inl ⟨by rfl, ?_⟩) (by assumption) ?_
            rotate_left
            · intro w hSw
              (try dsimp only at hSw)
              go_simp
              (try with_reducible rfl)
            simp only [List.setIfInBounds_toArray, List.set_cons_zero, List.set_cons_succ]
            refine wpAnyH_done (by kernel_rfl) ?_ _
            refine NoPanic.normal ?_
            go_wp2_with fail
            go_meet
            case rel => exact ⟨by simp, HS8.out⟩
          case rest =>
            obtain ⟨rfl, HS2⟩ := hcut
            have HR2 := hide (HR.out.cutR hnm)
            clear c0 c1 c2 HX0 HSd
            generalize t.cutR nn = TT at *
            clear HR
            have HFin := hide HS2.out.st
            have HRt := hide HR2.out
            have HBy := hide (fun w' (h : Below _ _ w') => (HFin.out.less h).bytes)
            have HPw := hide (fun w' (h : Below _ _ w') => (HFin.out.less h).power)
            obtain ⟨⟨e0, e1, e2⟩, _⟩ := rt_cells HFin.out.ref
            have hpb := rt_bool TT.off
            have HF2 := hide (fun w' (h : Below _ _ w') => HFin.out.less h)
            generalize TT.off = of at *
            generalize txt TT.b = bb at *
            go_upto_region 29 with fail
            go_quiet (first | (go_at_call 13; exact Calls.quiet_of_same (HBy.out _ (below_drewN (Below.refl _ _) _))) | (go_at_call 11; exact Calls.quiet_of_same (HPw.out _ (below_drewN (Below.refl _ _) _))))
            go_wp2
            go_roundg (n - (k + 1))
            case measure => omega
            case rel => exact ⟨k + 1, _, by go_num, by omega, Nat.le_refl _, HRt, HF2.out _ (below_drewN (Below.refl _ _) _)⟩
      have hkz2 : (kd.toList == [99, 117, 116]) = false := by rw [beq_eq_false_iff_ne]; exact hk2
      by_cases hk3 : kd.toList = [111, 110]
      · have hkz3 : (kd.toList == [111, 110]) = true := by rw [beq_iff_eq]; exact hk3
        have HOn := hide HX0.out.st.on
        have HR2 := hide HR.out.onR
        rcases hcs with hcs | ⟨hcs, hcs2⟩
        all_goals
          go_wp2_with fail
          refine HOn.out.mono ?_
          rintro e w5 ⟨rfl, hst⟩
          obtain ⟨⟨z0, z1, z2⟩, f0, f1, f2⟩ := rt_cells hst.ref
          have HF5 : Hid (TaSt W d m t.onR t.onR ((w5.setCell ⟨m, 1, none⟩ (.bool false)).setCell ⟨m, 2, none⟩ (.int .i64 (-1)))) := hst.refed (rt_set2 (rt_set1 (TPost.same hst.ref) false) (-1))
          clear c0 c1 c2 HX0 HSd hst HOn
          generalize t.onR = TT at *
          clear HR
          have HFin := hide HF5.out
          have HRt := hide HR2.out
          have HBy := hide (fun w' (h : Below _ _ w') => (HFin.out.less h).bytes)
          have HPw := hide (fun w' (h : Below _ _ w') => (HFin.out.less h).power)
          obtain ⟨⟨e0, e1, e2⟩, _⟩ := rt_cells HFin.out.ref
          have hpb := rt_bool TT.off
          have HF2 := hide (fun w' (h : Below _ _ w') => HFin.out.less h)
          generalize TT.off = of at *
          generalize txt TT.b = bb at *
          go_upto_region 29 with fail
          go_quiet (first | (go_at_call 13; exact Calls.quiet_of_same (HBy.out _ (below_drewN (Below.refl _ _) _))) | (go_at_call 11; exact Calls.quiet_of_same (HPw.out _ (below_drewN (Below.refl _ _) _))))
          go_wp2
          go_roundg (n - (k + 1))
          case measure => omega
          case rel => exact ⟨k + 1, _, by go_num, by omega, Nat.le_refl _, HRt, HF2.out _ (below_drewN (Below.refl _ _) _)⟩
      have hkz3 : (kd.toList == [111, 110]) = false := by rw [beq_eq_false_iff_ne]; exact hk3
      have HRc := hide (HX0.out.st.recover HT.out HR.out)
      have HR2 := hide HR.out.recR
      have HMl := hide (row_lt HX0.out.st.ref)
      have hlen : ((readA t.b).map txt).length ≤ 1000000 := by
        have h1 := read_len t.b
        have h2 := HR.out.len
        rw [List.length_map]
        omega
      have HLn := hide hlen
      clear hlen
      rcases hcs with hcs | ⟨hcs, hcs2⟩
      all_goals
          go_wp2_with fail
          refine HRc.out.mono ?_
          rintro e w5 ⟨x, rfl, hx, hsz, hst⟩
          have HX5 := hide hx
          have HRr := hide (hst.refRecover HR.out)
          clear hx hsz hst HRc c0 c1 c2 HX0 HSd
          go_wp2_with fail
          refine HRr.out.mono ?_
          rintro e w6 ⟨y, rfl, hy, hk6, hst⟩
          have hwx : WordsAt w6 x ((readA t.b).map txt) := words_own (by
            rw [List.length_map]
            refine words_kept HX5.out fun g hg => hk6.block g (HX5.out.lt g hg).2 fun e => ?_
            have h1 := (HX5.out.lt g hg).1
            have h2 := HMl.out
            omega)
          have hwy : WordsAt w6 y ((readA t.b).map txt) := words_own (by rw [List.length_map]; exact hy)
          have HSm := hide (sameT_any ((readA t.b).map txt) x y w6 HLn.out hwx hwy)
          have HS6 := hide hst
          clear hy hk6 hst hwx hwy HRr HX5
          go_wp2_with fail
          refine HSm.out.mono ?_
          rintro e w7 ⟨rfl, hb⟩
          have HF5 := hide (HS6.out.less hb)
          clear hb HSm HS6 HLn
          generalize t.recR = TT at *
          clear HR
          have HFin := hide HF5.out
          have HRt := hide HR2.out
          have HBy := hide (fun w' (h : Below _ _ w') => (HFin.out.less h).bytes)
          have HPw := hide (fun w' (h : Below _ _ w') => (HFin.out.less h).power)
          obtain ⟨⟨e0, e1, e2⟩, _⟩ := rt_cells HFin.out.ref
          have hpb := rt_bool TT.off
          have HF2 := hide (fun w' (h : Below _ _ w') => HFin.out.less h)
          generalize TT.off = of at *
          generalize txt TT.b = bb at *
          go_upto_region 29 with fail
          go_quiet (first | (go_at_call 13; exact Calls.quiet_of_same (HBy.out _ (below_drewN (Below.refl _ _) _))) | (go_at_call 11; exact Calls.quiet_of_same (HPw.out _ (below_drewN (Below.refl _ _) _))))
          go_wp2
          go_roundg (n - (k + 1))
          case measure => omega
          case rel => exact ⟨k + 1, _, by go_num, by omega, Nat.le_refl _, HRt, HF2.out _ (below_drewN (Below.refl _ _) _)⟩
    · obtain rfl : k = n := by omega
      have hlen := HR.out.len
      have HRd := hide (read_any (txt t.b) wr (tab_below HT.out HO.out.below) (by rw [txt_size]; exact hlen))
      have HRf := hide (fun w' => refRead_any (txt t.b) w' (by rw [txt_size]; exact hlen))
      rw [txt_list] at HRd HRf
      have HLn : Hid (((readA t.b).map txt).length ≤ 1000000) := by
        show _ ≤ _
        have h1 := read_len t.b
        rw [List.length_map]
        omega
      obtain ⟨⟨c0, _, _⟩, _⟩ := rt_cells HO.out.ref
      clear hlen HR
      go_wp2_with fail
      refine HRd.out.mono ?_
      rintro e w5 ⟨x, rfl, hx, hb⟩
      have HO5 := hide (HO.out.less hb)
      obtain ⟨⟨d0, _, _⟩, _⟩ := rt_cells HO5.out.ref
      have HX5 := hide hx
      clear hx hb HRd c0 HO
      go_wp2_with fail
      refine (HRf.out _).mono ?_
      rintro e w6 ⟨y, rfl, hy, hb⟩
      have hwx : WordsAt w6 x ((readA t.b).map txt) := words_own (by
        rw [List.length_map]
        exact words_kept HX5.out fun g hg => hb.block g (HX5.out.lt g hg).2)
      have hwy : WordsAt w6 y ((readA t.b).map txt) := words_own (by rw [List.length_map]; exact hy)
      have HSm := hide (sameT_any ((readA t.b).map txt) x y w6 HLn.out hwx hwy)
      have HB6 : Hid (Below W.heap.size W w6) := (HO5.out.less hb).below
      clear hy hb hwx hwy HRf HX5 d0 HO5 HLn
      generalize readN t.b = rn at *
      go_wp2_with fail
      refine HSm.out.mono ?_
      rintro e w7 ⟨rfl, hb⟩
      go_wp2
      go_ret
      exact ⟨by first | rfl | simp, HB6.out.trans (hb.mono HB6.out.size)⟩
end Go.Proofs.YteofodegeigmaaaDoor

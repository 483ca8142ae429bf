/-
  The small functions over entries: a clone, those of own memory, entries that are too many or too long, entries that are the same.
-/
import Derived.Test.YtemdnmnbecapbacGreatDoorFeedMem
import Derived.Test.YtemdnmnbecapbacGreatDoorFeedLays
import Derived.Test.YtemdnmnbecapbacGreatDoorFloorInsert
namespace Go.Proofs.YtemdnmnbecapbacGreatDoor
open Go.RowKit Go.Extern.Stop Go.Stop Go.Extern Go.Proofs

theorem Tryz.infoEntry : (Tryz.prog.info? 64).map (fun i => (i.zero, i.size, i.bytes)) = some (some (.agg #[.int .i64 0, .int .i64 0, .string ByteArray.empty, .int .i64 0]), 4, 40) := by kernel_rfl
set_option maxRecDepth 100000 in
set_option maxHeartbeats 1000000 in
theorem cloneE_any (v : Value) (l : List En) (w : World) (hv : EnAt w v l) (hl : l.length ≤ 1000000) :
    Calls Tryz.prog 37 #[v] w fun e w' => ∃ v', e = .returned v' ∧ OwnE w' w.heap.size v' l ∧ Below w.heap.size w w' := by
  obtain ⟨i0, hi, hz0, hz1, hz2⟩ := info_parts Tryz.infoEntry
  rcases hv with ⟨ad, cap, rfl, rfl⟩ | ⟨b, off, cap, rfl, hc, hcell⟩
  · cases ad with
    | none => exact (AnyE.slices_Clone_nil Tryz.cloneE 0 cap w).mono fun e w' ⟨h1, h2⟩ => ⟨_, h1, OwnE.nil _ _, by rw [h2]; exact Below.refl _ _⟩
    | some ad =>
      have q22 : ∀ (w : World) (a : Option Addr) (n c n' c' : Nat), (binOp .eql 22 (.slice a n c) (.slice none n' c')).run Tryz.prog w = .ok (.bool a.isNone) w := fun w a n c n' c' => Lib.run_eql_slice_nil w _ _ a n c n' c' Tryz.underlying22
      go_enter Tryz.func37, Tryz.ntmps37
      go_wp2_with (at_builtin; refine wpList_append_own _ rfl _ _ 22 rfl w.heap.size 64 i0 _ 4 40 Tryz.underlying22 hi hz0 hz1 hz2 rfl (by decide) _ _ _ rfl (World.ownsRow_made w #[] 0 (Nat.le_refl _) (Nat.zero_le _) (by simp)) ad 0 cap [] rfl rfl (fun j u hj => by simp at hj) (by simp) (by unfold maxLen; omega) (by omega) (by simp) ?_; intro v' w1 hown hgrow hnil)
      go_wp2
      go_ret
      exact ⟨v', rfl, (by show w1.ownsRow w.heap.size 64 4 v' 0 []; simpa using hown), ((Below.refl _ w).alloc (Nat.le_refl _) _).grown hgrow (by simp) (fun k hk => by have e : w.heap.size = k := Option.some.inj hk; omega)⟩
  · exact (AnyE.slices_Clone Tryz.cloneE i0 _ 4 40 hi hz0 hz1 hz2 rfl (by decide) Tryz.sizeOf64 b off l.length cap (cellsE l) w (cellsE_len l) (by unfold maxLen; omega) (by omega) hcell (cellsE_one l)).mono fun e w' ⟨v', h1, h2, _, h4⟩ => ⟨v', h1, h2, h4⟩

set_option maxRecDepth 100000 in
set_option maxHeartbeats 1000000 in
theorem ownEntries_any (v : Value) (l : List En) (w : World) (hv : EnAt w v l) (hl : l.length ≤ 1000000) :
    Calls Tryz.prog 13 #[v] w fun e w' => ∃ v', e = .returned v' ∧ OwnE w' w.heap.size v' l ∧ Below w.heap.size w w' := by
  obtain ⟨i0, hi, hz0, hz1, hz2⟩ := info_parts Tryz.infoEntry
  have HEnd : Hid (∀ v' w1, w1.ownsRow w.heap.size 64 4 v' (0 + l.length) ([] ++ cellsE l) → w.grownBy w1 (Value.slice none 0 0).ownBlock → OwnE w1 w.heap.size v' l ∧ Below w.heap.size w w1) := fun v' w1 h1 h2 =>
    ⟨by simpa using h1, (Below.refl _ w).grown h2 (Nat.le_refl _) (fun k hk => by cases hk)⟩
  rcases hv with ⟨ad, cap, rfl, rfl⟩ | ⟨b, off, cap, rfl, hc, hcell⟩
  · cases ad with
    | none =>
      have hno : ∀ ty c, (Builtin.append_ #[22, 22] ty #[.slice none 0 0, .slice none 0 c]).run Tryz.prog w = .ok (.slice none 0 0) w := fun ty c => by kernel_rfl
      go_enter Tryz.func13, Tryz.ntmps13
      go_wp2_with (at_builtin; refine Lib.wpList_append_run _ rfl _ _ _ _ rfl _ _ rfl rfl _ _ (hno _ _) ?_)
      go_ret
      exact ⟨_, rfl, OwnE.nil _ _, Below.refl _ _⟩
    | some ad =>
      go_enter Tryz.func13, Tryz.ntmps13
      go_wp2_with (at_builtin; refine wpList_append_own _ rfl _ _ 22 rfl w.heap.size 64 i0 _ 4 40 Tryz.underlying22 hi hz0 hz1 hz2 rfl (by decide) _ _ _ rfl (World.ownsRow_nil _ _ _ _) ad 0 cap [] rfl rfl (fun j u hj => by simp at hj) (by simp) (by unfold maxLen; omega) (by omega) (Nat.le_refl _) ?_; intro v' w1 hown hgrow hnil)
      go_wp2
      go_ret
      exact ⟨v', rfl, HEnd.out v' w1 hown hgrow⟩
  · have HS : Hid (∀ j u, (cellsE l)[j]? = some u → w.cell? ((⟨b, off, none⟩ : Addr).add j) = some u) := fun j u hu => by rw [Addr.add_lit]; exact hcell j u hu
    have HLn := hide (cellsE_len l)
    have HOne := hide (cellsE_one l)
    clear hcell
    generalize cellsE l = cs at *
    generalize hn : l.length = n at *
    go_enter Tryz.func13, Tryz.ntmps13
    go_wp2_with (at_builtin; refine wpList_append_own _ rfl _ _ 22 rfl w.heap.size 64 i0 _ 4 40 Tryz.underlying22 hi hz0 hz1 hz2 rfl (by decide) _ _ _ rfl (World.ownsRow_nil _ _ _ _) ⟨b, off, none⟩ n cap cs rfl HLn.out HS.out HOne.out (by unfold maxLen; omega) (by omega) (Nat.le_refl _) ?_; intro v' w1 hown hgrow hnil)
    go_wp2
    go_ret
    exact ⟨v', rfl, HEnd.out v' w1 hown hgrow⟩

/-- Too many, or too long. -/
def longE (l : List En) : Bool := decide (30 < l.length ∧ l.length ≠ 60 ∧ l.length ≠ 61) || l.any (fun e => decide (20 < e.fl.who.size))
theorem longE_no {l : List En} (h : longE l = false) : l.length ≤ 61 ∧ ∀ e ∈ l, e.fl.who.size ≤ 20 := by
  unfold longE at h
  simp only [Bool.or_eq_false_iff, decide_eq_false_iff_not, List.any_eq_false, decide_eq_true_eq] at h
  exact ⟨by omega, fun e he => by have := h.2 e he; omega⟩

set_option maxRecDepth 100000 in
set_option maxHeartbeats 4000000 in
theorem longEntries_any (v : Value) (l : List En) (w : World) (hv : EnAt w v l) :
    Calls Tryz.prog 6 #[v] w fun e w' => e = .returned (.int .i64 (if longE l = true then 1 else 0)) ∧ w' = w := by
  obtain ⟨ad, cap, rfl, hc⟩ := hv.form
  have HV := hide hv
  by_cases h30 : 30 < l.length ∧ l.length ≠ 60 ∧ l.length ≠ 61
  · rw [if_pos (by unfold longE; rw [decide_eq_true h30]; rfl)]
    obtain ⟨g1, g2, g3⟩ := h30
    generalize l.length = n at *
    have hz : (30 : Int) < (n : Int) := by omega
    have hz2 : ((n : Int) != 60) = true := bne_iff_ne.2 (by omega)
    have hz3 : ((n : Int) != 61) = true := bne_iff_ne.2 (by omega)
    clear hv
    go_enter Tryz.func6, Tryz.ntmps6
    go_wp2
    go_ret
    exact ⟨rfl, rfl⟩
  · have HQ : Hid (longE l = l.any (fun e => decide (20 < e.fl.who.size))) := by show _ = _; unfold longE; rw [decide_eq_false h30]; rfl
    generalize hr : (if longE l = true then (1 : Int) else 0) = r
    have HR := hide hr
    generalize hn : l.length = n at *
    have HN := hide hn
    have hway : (¬ (30 : Int) < (n : Int)) ∨ ((30 : Int) < (n : Int) ∧ ((n : Int) != 60) = false) ∨ ((30 : Int) < (n : Int) ∧ ((n : Int) != 60) = true ∧ ((n : Int) != 61) = false) := by
      by_cases g1 : n ≤ 30
      · exact Or.inl (by omega)
      · by_cases g2 : n = 60
        · exact Or.inr (Or.inl ⟨by omega, bne_eq_false_iff_eq.2 (by omega)⟩)
        · exact Or.inr (Or.inr ⟨by omega, bne_iff_ne.2 (by omega), bne_eq_false_iff_eq.2 (by omega)⟩)
    have hnb : n ≤ 61 := by omega
    clear hv hr hn h30
    rcases hway with hz | ⟨hz, hz2⟩ | ⟨hz, hz2, hz3⟩
    all_goals
      go_enter Tryz.func6, Tryz.ntmps6
      go_wp2
      go_loop [3] (fun i => ∃ k : Nat, k ≤ n ∧ i = .int .i64 k ∧ Hid (∀ j (hj : j < l.length), j < k → l[j].fl.who.size ≤ 20)) (fun i => n - (intOf i).toNat)
      case atStart => exact ⟨0, Nat.zero_le _, rfl, fun j _ hj => absurd hj (Nat.not_lt_zero _)⟩
      case round =>
        obtain ⟨k, hk, rfl, A⟩ := hrel
        by_cases hlt : k < n
        · have hkl : k < l.length := by rw [HN.out]; exact hlt
          have hvr := HV.out
          rw [← HN.out] at hvr
          obtain ⟨b, off, cap', e, hc', hb, _, hcell⟩ := hvr.at (by omega)
          injection e with e1 e2 e3
          subst e1; subst e3
          obtain ⟨_, _, c2, _⟩ := hcell k hkl
          have hltz : (k : Int) < (n : Int) := by omega
          by_cases h20 : 20 < (l[k]'hkl).fl.who.size
          · have hr1 : r = 1 := by
              rw [← HR.out, if_pos]
              rw [HQ.out, List.any_eq_true]
              exact ⟨_, List.getElem_mem hkl, by simpa using h20⟩
            have HR1 := hide hr1
            clear hcell hvr hr1
            generalize (l[k]'hkl).fl.who = who at c2 h20
            have h20z : (20 : Int) < (who.size : Int) := by omega
            go_wp2
            go_ret
            exact ⟨by rw [HR1.out]; rfl, rfl⟩
          · have H20 := hide (Nat.not_lt.1 h20)
            clear hcell hvr
            generalize (l[k]'hkl).fl.who = who at c2 h20
            have h20z : ¬ (20 : Int) < (who.size : Int) := by omega
            go_wp2
            go_round
            case rel =>
              refine ⟨k + 1, by omega, by go_num, (show Hid _ from fun j hj hjk => ?_)⟩
              by_cases e : j = k
              · subst e; exact H20.out
              · exact A.out j hj (by omega)
            case measure => simp [intOf]; omega
        · obtain rfl : k = n := by omega
          have hltz : ¬ (k : Int) < (k : Int) := by omega
          have hr0 : r = 0 := by
            rw [← HR.out, if_neg]
            rw [HQ.out, Bool.not_eq_true, List.any_eq_false]
            intro f hf
            obtain ⟨j, hj, rfl⟩ := List.getElem_of_mem hf
            have := A.out j hj (by rw [← HN.out]; exact hj)
            simp only [decide_eq_true_eq]
            omega
          have HR0 := hide hr0
          clear hr0
          go_wp2
          go_ret
          exact ⟨by rw [HR0.out]; rfl, rfl⟩

set_option maxRecDepth 100000 in
set_option maxHeartbeats 2000000 in
theorem sameEntries_eq (v1 v2 : Value) (l : List En) (w : World) (h1 : EnAt w v1 l) (h2 : EnAt w v2 l) (hl : l.length ≤ 1000000) :
    Calls Tryz.prog 14 #[v1, v2] w fun e w' => e = .returned (.bool true) ∧ Below w.heap.size w w' := by
  obtain ⟨ad1, cap1, rfl, hc1⟩ := h1.form
  obtain ⟨ad2, cap2, rfl, hc2⟩ := h2.form
  have H1 := hide h1
  have H2 := hide h2
  clear h1 h2
  generalize hn : l.length = n at *
  have HN := hide hn
  clear hn
  go_enter Tryz.func14, Tryz.ntmps14
  go_wp2
  go_loopw [5] (fun i wr => ∃ k q : Nat, k ≤ n ∧ i = .int .i64 k ∧ wr = w.drewN q) (fun i _ => n - (intOf i).toNat)
  case atStart => exact ⟨0, 0, Nat.zero_le _, rfl, rfl⟩
  case round =>
    obtain ⟨k, q, hk, rfl, rfl⟩ := hrel
    by_cases hlt : k < n
    · have hkl : k < l.length := by rw [HN.out]; exact hlt
      have hv1 := H1.out
      have hv2 := H2.out
      rw [← HN.out] at hv1 hv2
      obtain ⟨b1, off1, cap1', e, _, _, _, hcell1⟩ := hv1.at (by omega)
      injection e with e1 e2 e3
      subst e1; subst e3
      obtain ⟨b2, off2, cap2', e, _, _, _, hcell2⟩ := hv2.at (by omega)
      injection e with e1 e2 e3
      subst e1; subst e3
      obtain ⟨x0, x1, x2, x3⟩ := hcell1 k hkl
      obtain ⟨y0, y1, y2, y3⟩ := hcell2 k hkl
      clear hcell1 hcell2 hv1 hv2
      generalize (l[k]'hkl).fl.who = who at *
      generalize (l[k]'hkl).fl.ep = ep at *
      generalize (l[k]'hkl).seq = sq at *
      generalize (l[k]'hkl).time = tm at *
      go_wp2
      go_quiet (fail)
      go_wp2
      go_roundw
      case rel => exact ⟨k + 1, q + nq, by omega, by go_num, rfl⟩
      case measure => simp [intOf]; omega
    · go_wp2
      go_ret
      exact ⟨rfl, below_drewN (Below.refl _ _) _⟩
end Go.Proofs.YtemdnmnbecapbacGreatDoor

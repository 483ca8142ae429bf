/-
  What the document's answer's Unseal and SealOf give, for every key, text and words, and what the statements' helper 'faulted' answers of an error and its number and place.
-/
import Derived.Test.YtgagekcjdapkfabGreatDoorSealLook
namespace Go.Proofs.YtgagekcjdapkfabGreatDoor
open Go.RowKit Go.Extern.Stop Go.Stop Go.Extern

theorem toLs_map (ws : List (List UInt8)) : toLs (ws.map Sl.ofL) = ws := by
  unfold toLs
  rw [List.map_map]
  conv => rhs; rw [← List.map_id ws]
  exact List.map_congr_left fun l _ => rfl

/-- What Unseal answers. -/
def UnsealPost (c : Nat) (ws : List (List UInt8)) (e : Ending) (w' : World) : Prop :=
  if c = 0 then ∃ b cap, Texts w' b 0 (ws.map Sl.ofL) ∧ ws.length ≤ cap ∧ e = .returned (.tuple #[.slice (some ⟨b, 0, none⟩) ws.length cap, .int .i64 0])
  else e = .returned (.tuple #[.slice none 0 0, .int .i64 c])
theorem unseal_no (c : Nat) (ws : List (List UInt8)) (e : Ending) (w' : World) (d : Nat) (hd : c = d) (h : d ≠ 0) (he : e = .returned (.tuple #[.slice none 0 0, .int .i64 d])) : UnsealPost c ws e w' := by
  unfold UnsealPost
  rw [hd, if_neg h]
  exact he
theorem unseal_yes (c : Nat) (ws : List (List UInt8)) (e : Ending) (w' : World) (hc : c = 0) (b cap : Nat) (hx : Texts w' b 0 (ws.map Sl.ofL)) (hcap : ws.length ≤ cap) (he : e = .returned (.tuple #[.slice (some ⟨b, 0, none⟩) ws.length cap, .int .i64 0])) : UnsealPost c ws e w' := by
  unfold UnsealPost
  rw [if_pos hc]
  exact ⟨b, cap, hx, hcap, he⟩

theorem glue_small (l : List UInt8) (h : Sl.lookE l = 0) : (Sl.glue (Sl.lookW l)).length ≤ 6000 ∧ (Sl.lookW l).length ≤ 10 := by
  have hok := Sl.lookE_ok l h
  obtain ⟨a, e1, _, e3, _⟩ := Sl.look_glue l hok
  have hle : l.length ≤ 4000 := by
    unfold Sl.lookE at h
    split at h
    · cases h
    · omega
  refine ⟨?_, ((Sl.wordsOk_iff _).1 (Sl.lookOk_words l hok)).1.2⟩
  rw [e3]
  rw [e1] at hle
  simp only [List.length_append, List.length_cons] at hle
  omega

set_option maxRecDepth 100000 in
set_option maxHeartbeats 2000000 in
theorem refUnseal_any (key : Int) (s : ByteArray) (w : World) (hs : s.size ≤ maxLen) :
    Calls Tryz.prog 57 #[.int .i64 key, .string s] w fun e w' => Below w.heap.size w w' ∧ UnsealPost (Sl.openE key s.data.toList) (Sl.lookW s.data.toList) e w' := by
  have HK := hide (fun w => refKey_any key w)
  by_cases hk : 1 ≤ key ∧ key ≤ 1000000006
  · rw [decide_eq_true hk] at HK
    have HL := hide (fun w => refLook_any s w hs)
    have HKk := hide hk
    clear hk hs
    generalize s.data.toList = l at *
    go_enter Tryz.func57, Tryz.ntmps57
    go_wp2_with fail
    refine (HK.out _).mono ?_
    rintro e w1 ⟨rfl, rfl⟩
    go_wp2_with fail
    refine (HL.out _).mono ?_
    rintro e w2 ⟨hb, hp⟩
    have HB := hide hb
    clear hb HL HK
    unfold LookPost at hp
    by_cases h0 : Sl.lookE l = 0
    · rw [if_pos h0] at hp
      obtain ⟨b, cap, hx, hcap, rfl⟩ := hp
      obtain ⟨hg, hg10⟩ := glue_small l h0
      have HO : Hid (Sl.openE key l = if Mk.mk key key (Sl.glue (Sl.lookW l)) = (Sl.lookN l : Int) then 0 else 9) := by show _ = _; unfold Sl.openE; rw [if_pos HKk.out, if_pos h0]
      have HG := hide (fun w hx => refGlue_any ((Sl.lookW l).map Sl.ofL) b 0 (Sl.lookW l).length cap w (by simp) (by omega) hx (by rw [toLs_map]; exact hg))
      rw [toLs_map] at HG
      have HM := hide (fun w => refError_any key (Sl.ofL (Sl.glue (Sl.lookW l))) (Sl.lookN l) w (by rw [Sl.ofL_size]; unfold maxLen; omega))
      have Hre : Hid (rightE key (Sl.ofL (Sl.glue (Sl.lookW l))).data.toList (Sl.lookN l) = Sl.openE key l) := by
        show _ = _
        unfold rightE
        rw [if_pos HKk.out, HO.out]
        rfl
      rw [Hre.out] at HM
      have HX := hide hx
      have HCap := hide hcap
      have Hcase : Hid (Sl.openE key l = 0 ∨ Sl.openE key l = 9) := by
        show _ ∨ _
        rw [HO.out]
        by_cases g : Mk.mk key key (Sl.glue (Sl.lookW l)) = (Sl.lookN l : Int)
        · rw [if_pos g]; exact Or.inl rfl
        · rw [if_neg g]; exact Or.inr rfl
      clear hx hcap h0 hg HO Hre
      generalize hlw : (Sl.lookW l).length = n at *
      have HLn := hide hlw
      clear hlw
      generalize Sl.ofL (Sl.glue (Sl.lookW l)) = g at *
      generalize (Sl.lookN l : Int) = v at *
      generalize hoe : Sl.openE key l = c at *
      have HOE := hide hoe
      clear hoe
      go_wp2_with fail
      refine (HG.out _ HX.out).mono ?_
      rintro e w3 ⟨rfl, rfl⟩
      go_wp2_with fail
      refine (HM.out _).mono ?_
      rintro e w4 ⟨rfl, rfl⟩
      clear HG HM
      rcases Hcase.out with rfl | rfl
      · go_wp2
        go_ret2
        exact ⟨HB.out, unseal_yes _ _ _ _ HOE.out b cap HX.out (by rw [HLn.out]; exact HCap.out) (by rw [HLn.out]; rfl)⟩
      · go_wp2
        go_ret2
        exact ⟨HB.out, unseal_no _ _ _ _ 9 HOE.out (by decide) rfl⟩
    · rw [if_neg h0] at hp
      subst hp
      have HO : Hid (Sl.openE key l = Sl.lookE l) := by show _ = _; unfold Sl.openE; rw [if_pos HKk.out, if_neg h0]
      have H0 := hide h0
      have hq : ((Sl.lookE l : Int) == 0) = false := by rw [beq_eq_false_iff_ne]; omega
      have hq2 : (0 : Int) < (Sl.lookE l : Int) := by omega
      clear h0
      generalize hle : Sl.lookE l = c at *
      clear hle
      go_wp2
      go_ret2
      exact ⟨HB.out, unseal_no _ _ _ _ c HO.out H0.out rfl⟩
  · rw [decide_eq_false hk] at HK
    have HO := hide (openE_key key s.data.toList hk)
    clear hk hs
    go_enter Tryz.func57, Tryz.ntmps57
    go_wp2_with fail
    refine (HK.out _).mono ?_
    rintro e w1 ⟨rfl, rfl⟩
    go_wp2
    go_ret2
    exact ⟨Below.refl _ _, unseal_no _ _ _ _ 10 HO.out (by decide) rfl⟩

/-! ### Faults -/
theorem refBare_any (c : Int) (w : World) :
    Calls Tryz.prog 61 #[.int .i64 c] w fun e w' => e = .returned (.agg #[.int .i64 c, .int .i64 (-1)]) ∧ Below w.heap.size w w' := by
  go_enter Tryz.func61, Tryz.ntmps61
  go_wp2
  refine bodyPost_ret (results_cell_row rfl _ _ w.heap.size _ _ _ _ rfl (heap_alloc_new _ _) Tryz.underlying55 rfl (by kernel_rfl)) rfl ?_
  exact ⟨rfl, (Below.refl _ _).alloc (Nat.le_refl _) _⟩
theorem refFine_any (w : World) :
    Calls Tryz.prog 64 #[] w fun e w' => e = .returned (.agg #[.int .i64 0, .int .i64 (-1)]) ∧ Below w.heap.size w w' := by
  go_enter Tryz.func64, Tryz.ntmps64
  go_wp2
  refine bodyPost_ret (results_cell_row rfl _ _ w.heap.size _ _ _ _ rfl (heap_alloc_new _ _) Tryz.underlying55 rfl (by kernel_rfl)) rfl ?_
  exact ⟨rfl, (Below.refl _ _).alloc (Nat.le_refl _) _⟩

end Go.Proofs.YtgagekcjdapkfabGreatDoor

/-
  What the document's answer's LookAt and Unseal give: the words and the mark's number of a sealed text, or the number of the error that the document names; for every key and text.
  What the document's answer's Unseal and SealOf give, for every key, text and words, and what the statements' helper 'faulted' answers of an error and its number and place.
  What the document's answer's SealOf gives: a fault of ErrKey, ErrShape, or ErrText at the first that is no word, else the sealed text and no fault; for every key and words.
  What the document's answer's HeadOf and OpenHead give: a head's text and a fault; of a text the head and an error's number; for every key, list, time and text.
-/
import Derived.Test.YtemdnmnbecapbacGreatDoorFeedPackC
import Derived.Test.YtemdnmnbecapbacGreatDoorFeedMake
namespace Go.Proofs.YtemdnmnbecapbacGreatDoor
open Go.RowKit Go.Extern.Stop Go.Stop Go.Extern

/-- A text's pieces: its words and what stands last. -/
theorem pieces_look (l : List UInt8) : Sl.pieces l = Sl.lookW l ++ [Sl.lastP l] := by
  unfold Sl.lookW Sl.lastP
  rw [List.getLastD_eq_getLast?, List.getLast?_eq_some_getLast (Sl.pieces_ne l)]
  exact (List.dropLast_concat_getLast (Sl.pieces_ne l)).symm

/-- What LookAt answers. -/
def LookPost (l : List UInt8) (e : Ending) (w' : World) : Prop :=
  if Sl.lookE l = 0 then ∃ b cap, Texts w' b 0 ((Sl.lookW l).map Sl.ofL) ∧ (Sl.lookW l).length ≤ cap ∧ e = .returned (.tuple #[.slice (some ⟨b, 0, none⟩) (Sl.lookW l).length cap, .int .i64 (Sl.lookN l), .int .i64 0])
  else e = .returned (.tuple #[.slice none 0 0, .int .i64 0, .int .i64 (Sl.lookE l)])
theorem lookP_no (l : List UInt8) (e : Ending) (w' : World) (c : Nat) (hc : Sl.lookE l = c) (h : c ≠ 0) (he : e = .returned (.tuple #[.slice none 0 0, .int .i64 0, .int .i64 c])) : LookPost l e w' := by
  unfold LookPost
  rw [hc, if_neg h]
  exact he
theorem lookP_yes (l : List UInt8) (e : Ending) (w' : World) (hc : Sl.lookE l = 0) (b cap : Nat) (hx : Texts w' b 0 ((Sl.lookW l).map Sl.ofL)) (hcap : (Sl.lookW l).length ≤ cap) (he : e = .returned (.tuple #[.slice (some ⟨b, 0, none⟩) (Sl.lookW l).length cap, .int .i64 (Sl.lookN l), .int .i64 0])) : LookPost l e w' := by
  unfold LookPost
  rw [if_pos hc]
  exact ⟨b, cap, hx, hcap, he⟩

theorem lookE_bad (l : List UInt8) (h : l.length ≤ 4000) (hb : Sl.lookOk l = false) : Sl.lookE l = 1 := by
  unfold Sl.lookE
  rw [if_neg (by omega), hb]
  rfl
theorem lookOk_split (l : List UInt8) : Sl.lookOk l = (numB (Sl.lastP l) 1000000006 && Sl.wordsOk (Sl.lookW l)) := by
  unfold Sl.lookOk numB
  congr 2
  rw [decide_eq_decide]; omega

/-- The texts of words and one behind them. -/
theorem texts_split {w : World} {b : Nat} {ws : List (List UInt8)} {tl : List UInt8} (h : Texts w b 0 ((ws ++ [tl]).map Sl.ofL)) :
    (∀ j (hj : j < ws.length), w.cell? ⟨b, j, none⟩ = some (.string (Sl.ofL ws[j]))) ∧ w.cell? ⟨b, ws.length, none⟩ = some (.string (Sl.ofL tl)) ∧ Texts w b 0 (ws.map Sl.ofL) := by
  have hlen : ((ws ++ [tl]).map Sl.ofL).length = ws.length + 1 := by simp
  have h1 : ∀ j (hj : j < ws.length), w.cell? ⟨b, j, none⟩ = some (.string (Sl.ofL ws[j])) := fun j hj => by
    have := h j (by omega)
    rw [Nat.zero_add] at this
    rw [this, List.getElem_map, List.getElem_append_left hj]
  refine ⟨h1, ?_, fun j hj => ?_⟩
  · have := h ws.length (by omega)
    rw [Nat.zero_add] at this
    rw [this, List.getElem_map, List.getElem_append_right (Nat.le_refl _)]
    simp
  · rw [Nat.zero_add, h1 j (by simpa using hj), List.getElem_map]

set_option maxRecDepth 100000 in
set_option maxHeartbeats 2000000 in
theorem refLook_any (s : ByteArray) (w : World) (hs : s.size ≤ maxLen) :
    Calls Tryz.prog 78 #[.string s] w fun e w' => Below w.heap.size w w' ∧ LookPost s.data.toList e w' := by
  by_cases h4 : 4000 < s.size
  · have HE : Hid (Sl.lookE s.data.toList = 2) := by show _ = _; unfold Sl.lookE; rw [size_list, if_pos h4]
    unfold maxLen at hs
    go_enter Tryz.func78, Tryz.ntmps78
    go_wp2
    go_ret3
    exact ⟨Below.refl _ _, lookP_no _ _ _ 2 HE.out (by decide) rfl⟩
  · have HC := hide (refCut_any s w (by omega))
    have hlen : s.data.toList.length ≤ 4000 := by rw [size_list]; omega
    have HBad := hide (lookE_bad s.data.toList hlen)
    have HOk : Hid (Sl.lookOk s.data.toList = true → Sl.lookE s.data.toList = 0) := fun h => by unfold Sl.lookE; rw [if_neg (by omega), if_pos h]
    have HSp := hide (lookOk_split s.data.toList)
    have hp := pieces_look s.data.toList
    have HSz : Hid (∀ l ∈ Sl.pieces s.data.toList, (Sl.ofL l).size ≤ maxLen) := fun l hl => by
      have := pieces_part _ l hl
      rw [Sl.ofL_size]
      unfold maxLen; omega
    rw [hp] at HC HSz
    have HNv : Hid (Sl.lookN s.data.toList = Sl.valL (Sl.lastP s.data.toList)) := rfl
    have HLn : Hid ((Sl.lookW s.data.toList ++ [Sl.lastP s.data.toList]).length ≤ 4001) := by
      have := pieces_len s.data.toList
      rw [hp] at this
      show _ ≤ _
      omega
    clear hp hlen hs
    have HWs : Hid (Sl.lookW s.data.toList = Sl.lookW s.data.toList) := rfl
    generalize hl : s.data.toList = l at *
    clear hl HWs
    generalize hws : Sl.lookW l = ws at *
    generalize htl : Sl.lastP l = tl at *
    have HWs := hide hws
    have HTl := hide htl
    clear hws htl
    have hn1 : (ws ++ [tl]).length = ws.length + 1 := by simp
    rw [hn1] at HC HLn
    have hn2 : ws.length ≤ 4000 := by have := HLn.out; omega
    clear hn1 HLn
    go_enter Tryz.func78, Tryz.ntmps78
    go_wp2_with fail
    refine HC.out.mono ?_
    rintro e w1 ⟨b, cap, rfl, hcap, htx, hb⟩
    have HB := hide hb
    obtain ⟨hc1, hc2, hc3⟩ := texts_split htx
    have HC1 := hide hc1
    have HX := hide hc3
    clear hb htx hc1 hc3 HC
    by_cases hcnt : 1 ≤ ws.length ∧ ws.length ≤ 10
    · obtain ⟨hn3, hn4⟩ := hcnt
      have HNu := hide (fun w => refNumber_any (Sl.ofL tl) 1000000006 w (HSz.out tl (by simp)))
      rw [Sl.toL_ofL] at HNu
      cases hnb : numB tl 1000000006 with
      | false =>
        have HE : Hid (Sl.lookE l = 1) := HBad.out (by rw [HSp.out, hnb]; rfl)
        rw [numI_no _ _ hnb] at HNu
        clear hnb
        go_wp2_with fail
        refine (HNu.out _).mono ?_
        rintro e w2 ⟨rfl, rfl⟩
        go_wp2
        go_ret3
        exact ⟨HB.out, lookP_no _ _ _ 1 HE.out (by decide) rfl⟩
      | true =>
        have hv : numI tl 1000000006 = (Sl.valL tl : Int) := by unfold numI; rw [if_pos hnb]
        rw [hv] at HNu
        have HNB := hide hnb
        have HV : Hid ((Sl.lookN l : Int) = (Sl.valL tl : Int)) := by show _ = _; rw [HNv.out]
        have hv0 : (0 : Int) ≤ (Sl.valL tl : Int) := by omega
        clear hnb hv
        generalize (Sl.valL tl : Int) = v at *
        go_wp2_with fail
        refine (HNu.out _).mono ?_
        rintro e w2 ⟨rfl, rfl⟩
        clear HNu
        go_wp2
        go_loop [8] (fun i => ∃ k : Nat, k ≤ ws.length ∧ i = .int .i64 k ∧ Hid (∀ j (hj : j < ws.length), j < k → Sl.wordL ws[j] = true)) (fun i => ws.length - (intOf i).toNat)
        case atStart => exact ⟨0, Nat.zero_le _, rfl, fun j _ hj => absurd hj (Nat.not_lt_zero _)⟩
        case round =>
          obtain ⟨k, hk, rfl, A⟩ := hrel
          by_cases hlt : k < ws.length
          · have hcell := HC1.out k hlt
            have HW := hide (fun w => refWord_any (Sl.ofL ws[k]) w (HSz.out ws[k] (by simp)))
            rw [Sl.toL_ofL] at HW
            cases hwd : Sl.wordL ws[k] with
            | true =>
              rw [hwd] at HW
              have HWD := hide hwd
              clear hwd
              generalize Sl.ofL ws[k] = y at *
              go_wp2_with fail
              refine (HW.out _).mono ?_
              rintro e w3 ⟨rfl, rfl⟩
              go_wp2
              go_round
              case rel =>
                refine ⟨k + 1, by omega, by go_num, (show Hid _ from fun j hj hjk => ?_)⟩
                by_cases e : j = k
                · subst e; exact HWD.out
                · exact A.out j hj (by omega)
              case measure => simp [intOf]; omega
            | false =>
              rw [hwd] at HW
              have HE : Hid (Sl.lookE l = 1) := HBad.out (by
                rw [HSp.out, HNB.out]
                have : ws.all Sl.wordL = false := by
                  rw [List.all_eq_false]
                  exact ⟨ws[k], List.getElem_mem _, by rw [hwd]; decide⟩
                unfold Sl.wordsOk
                rw [this, Bool.and_false]
                rfl)
              clear hwd
              generalize Sl.ofL ws[k] = y at *
              go_wp2_with fail
              refine (HW.out _).mono ?_
              rintro e w3 ⟨rfl, rfl⟩
              go_wp2
              go_ret3
              exact ⟨HB.out, lookP_no _ _ _ 1 HE.out (by decide) rfl⟩
          · have hkk : k = ws.length := by omega
            subst hkk
            have HE : Hid (Sl.lookE l = 0) := HOk.out (by
              rw [HSp.out, HNB.out]
              unfold Sl.wordsOk
              rw [decide_eq_true (And.intro hn3 hn4), show ws.all Sl.wordL = true by
                rw [List.all_eq_true]
                intro x hx
                obtain ⟨j, hj, rfl⟩ := List.getElem_of_mem hx
                exact A.out j hj hj]
              rfl)
            go_wp2
            go_ret3
            refine ⟨HB.out, lookP_yes _ _ _ HE.out b cap (by rw [HWs.out]; exact HX.out) (by rw [HWs.out]; omega) ?_⟩
            rw [HWs.out, HV.out]
            rfl
    · have HE : Hid (Sl.lookE l = 1) := HBad.out (by
        rw [HSp.out]
        unfold Sl.wordsOk
        rw [decide_eq_false hcnt]
        simp)
      by_cases h0 : ws.length < 1
      · go_wp2
        go_ret3
        exact ⟨HB.out, lookP_no _ _ _ 1 HE.out (by decide) rfl⟩
      · have h11 : 10 < ws.length := by omega
        clear hcnt
        go_wp2
        go_ret3
        exact ⟨HB.out, lookP_no _ _ _ 1 HE.out (by decide) rfl⟩
end Go.Proofs.YtemdnmnbecapbacGreatDoor

namespace Go.Proofs.YtemdnmnbecapbacGreatDoor
open Go.RowKit Go.Extern.Stop Go.Stop Go.Extern

theorem toLs_map (ws : List (List UInt8)) : toLs (ws.map Sl.ofL) = ws := by
  unfold toLs
  rw [List.map_map]
  conv => rhs; rw [← List.map_id ws]
  exact List.map_congr_left fun l _ => rfl

/-- What Unseal answers. -/
def UnsealPost (c : Nat) (ws : List (List UInt8)) (e : Ending) (w' : World) : Prop :=
  if c = 0 then ∃ b cap, Texts w' b 0 (ws.map Sl.ofL) ∧ ws.length ≤ cap ∧ e = .returned (.tuple #[.slice (some ⟨b, 0, none⟩) ws.length cap, .int .i64 0])
  else e = .returned (.tuple #[.slice none 0 0, .int .i64 c])
theorem unseal_no (c : Nat) (ws : List (List UInt8)) (e : Ending) (w' : World) (d : Nat) (hd : c = d) (h : d ≠ 0) (he : e = .returned (.tuple #[.slice none 0 0, .int .i64 d])) : UnsealPost c ws e w' := by
  unfold UnsealPost
  rw [hd, if_neg h]
  exact he
theorem unseal_yes (c : Nat) (ws : List (List UInt8)) (e : Ending) (w' : World) (hc : c = 0) (b cap : Nat) (hx : Texts w' b 0 (ws.map Sl.ofL)) (hcap : ws.length ≤ cap) (he : e = .returned (.tuple #[.slice (some ⟨b, 0, none⟩) ws.length cap, .int .i64 0])) : UnsealPost c ws e w' := by
  unfold UnsealPost
  rw [if_pos hc]
  exact ⟨b, cap, hx, hcap, he⟩

theorem glue_small (l : List UInt8) (h : Sl.lookE l = 0) : (Sl.glue (Sl.lookW l)).length ≤ 6000 ∧ (Sl.lookW l).length ≤ 10 := by
  have hok := Sl.lookE_ok l h
  obtain ⟨a, e1, _, e3, _⟩ := Sl.look_glue l hok
  have hle : l.length ≤ 4000 := by
    unfold Sl.lookE at h
    split at h
    · cases h
    · omega
  refine ⟨?_, ((Sl.wordsOk_iff _).1 (Sl.lookOk_words l hok)).1.2⟩
  rw [e3]
  rw [e1] at hle
  simp only [List.length_append, List.length_cons] at hle
  omega

set_option maxRecDepth 100000 in
set_option maxHeartbeats 2000000 in
theorem refUnseal_any (key : Int) (s : ByteArray) (w : World) (hs : s.size ≤ maxLen) :
    Calls Tryz.prog 49 #[.int .i64 key, .string s] w fun e w' => Below w.heap.size w w' ∧ UnsealPost (Sl.openE key s.data.toList) (Sl.lookW s.data.toList) e w' := by
  have HK := hide (fun w => refKey_any key w)
  by_cases hk : 1 ≤ key ∧ key ≤ 1000000006
  · rw [decide_eq_true hk] at HK
    have HL := hide (fun w => refLook_any s w hs)
    have HKk := hide hk
    clear hk hs
    generalize s.data.toList = l at *
    go_enter Tryz.func49, Tryz.ntmps49
    go_wp2_with fail
    refine (HK.out _).mono ?_
    rintro e w1 ⟨rfl, rfl⟩
    go_wp2_with fail
    refine (HL.out _).mono ?_
    rintro e w2 ⟨hb, hp⟩
    have HB := hide hb
    clear hb HL HK
    unfold LookPost at hp
    by_cases h0 : Sl.lookE l = 0
    · rw [if_pos h0] at hp
      obtain ⟨b, cap, hx, hcap, rfl⟩ := hp
      obtain ⟨hg, hg10⟩ := glue_small l h0
      have HO : Hid (Sl.openE key l = if Mk.mk key key (Sl.glue (Sl.lookW l)) = (Sl.lookN l : Int) then 0 else 9) := by show _ = _; unfold Sl.openE; rw [if_pos HKk.out, if_pos h0]
      have HG := hide (fun w hx => refGlue_any ((Sl.lookW l).map Sl.ofL) b 0 (Sl.lookW l).length cap w (by simp) (by omega) hx (by rw [toLs_map]; exact hg))
      rw [toLs_map] at HG
      have HM := hide (fun w => refError_any key (Sl.ofL (Sl.glue (Sl.lookW l))) (Sl.lookN l) w (by rw [Sl.ofL_size]; unfold maxLen; omega))
      have Hre : Hid (rightE key (Sl.ofL (Sl.glue (Sl.lookW l))).data.toList (Sl.lookN l) = Sl.openE key l) := by
        show _ = _
        unfold rightE
        rw [if_pos HKk.out, HO.out]
        rfl
      rw [Hre.out] at HM
      have HX := hide hx
      have HCap := hide hcap
      have Hcase : Hid (Sl.openE key l = 0 ∨ Sl.openE key l = 9) := by
        show _ ∨ _
        rw [HO.out]
        by_cases g : Mk.mk key key (Sl.glue (Sl.lookW l)) = (Sl.lookN l : Int)
        · rw [if_pos g]; exact Or.inl rfl
        · rw [if_neg g]; exact Or.inr rfl
      clear hx hcap h0 hg HO Hre
      generalize hlw : (Sl.lookW l).length = n at *
      have HLn := hide hlw
      clear hlw
      generalize Sl.ofL (Sl.glue (Sl.lookW l)) = g at *
      generalize (Sl.lookN l : Int) = v at *
      generalize hoe : Sl.openE key l = c at *
      have HOE := hide hoe
      clear hoe
      go_wp2_with fail
      refine (HG.out _ HX.out).mono ?_
      rintro e w3 ⟨rfl, rfl⟩
      go_wp2_with fail
      refine (HM.out _).mono ?_
      rintro e w4 ⟨rfl, rfl⟩
      clear HG HM
      rcases Hcase.out with rfl | rfl
      · go_wp2
        go_ret2
        exact ⟨HB.out, unseal_yes _ _ _ _ HOE.out b cap HX.out (by rw [HLn.out]; exact HCap.out) (by rw [HLn.out]; rfl)⟩
      · go_wp2
        go_ret2
        exact ⟨HB.out, unseal_no _ _ _ _ 9 HOE.out (by decide) rfl⟩
    · rw [if_neg h0] at hp
      subst hp
      have HO : Hid (Sl.openE key l = Sl.lookE l) := by show _ = _; unfold Sl.openE; rw [if_pos HKk.out, if_neg h0]
      have H0 := hide h0
      have hq : ((Sl.lookE l : Int) == 0) = false := by rw [beq_eq_false_iff_ne]; omega
      have hq2 : (0 : Int) < (Sl.lookE l : Int) := by omega
      clear h0
      generalize hle : Sl.lookE l = c at *
      clear hle
      go_wp2
      go_ret2
      exact ⟨HB.out, unseal_no _ _ _ _ c HO.out H0.out rfl⟩
  · rw [decide_eq_false hk] at HK
    have HO := hide (openE_key key s.data.toList hk)
    clear hk hs
    go_enter Tryz.func49, Tryz.ntmps49
    go_wp2_with fail
    refine (HK.out _).mono ?_
    rintro e w1 ⟨rfl, rfl⟩
    go_wp2
    go_ret2
    exact ⟨Below.refl _ _, unseal_no _ _ _ _ 10 HO.out (by decide) rfl⟩

/-! ### Faults -/
theorem refBare_any (c : Int) (w : World) :
    Calls Tryz.prog 41 #[.int .i64 c] w fun e w' => e = .returned (.agg #[.int .i64 c, .int .i64 (-1)]) ∧ Below w.heap.size w w' := by
  go_enter Tryz.func41, Tryz.ntmps41
  go_wp2
  refine bodyPost_ret (results_cell_row rfl _ _ w.heap.size _ _ _ _ rfl (heap_alloc_new _ _) Tryz.underlying49 rfl (by kernel_rfl)) rfl ?_
  exact ⟨rfl, (Below.refl _ _).alloc (Nat.le_refl _) _⟩
theorem refFine_any (w : World) :
    Calls Tryz.prog 43 #[] w fun e w' => e = .returned (.agg #[.int .i64 0, .int .i64 (-1)]) ∧ Below w.heap.size w w' := by
  go_enter Tryz.func43, Tryz.ntmps43
  go_wp2
  refine bodyPost_ret (results_cell_row rfl _ _ w.heap.size _ _ _ _ rfl (heap_alloc_new _ _) Tryz.underlying49 rfl (by kernel_rfl)) rfl ?_
  exact ⟨rfl, (Below.refl _ _).alloc (Nat.le_refl _) _⟩

end Go.Proofs.YtemdnmnbecapbacGreatDoor

namespace Go.Proofs.YtemdnmnbecapbacGreatDoor
open Go.RowKit Go.Extern.Stop Go.Stop Go.Extern

theorem results_tmp_row {P : Program} {fn : Func} {p u : Tmp} {ty : TypeId} (h : fn.results = #[.tmp u, .cell p ty]) (tmps : Array Value) (w : World) (g : Nat) (t : TypeId) (cs : Array Value) (fr : Nat × Nat) (d : TypeDesc)
    (hp : tmps.getD p undef = .pointer (some ⟨g, 0, none⟩)) (hg : w.heap[g]? = some (.cells cs t fr))
    (hu : P.underlying ty = some d) (hd : (match d with | .struct _ | .array _ _ => true | _ => false) = true) (hi : (P.info? ty).map (·.size) = some cs.size) :
    (results fn tmps).run P w = .ok (.tuple #[tmps.getD u undef, .agg cs]) w := by
  have hp' : tmps[p]?.getD undef = .pointer (some ⟨g, 0, none⟩) := by simpa using hp
  simp [results, h, hp', asAddr, run_loadVar_row w g t ty cs fr d hg hu hd hi]
theorem sealOfEnd {a : Act} {w : World} {R : Ending → World → Prop} (g : Nat) (cs : Array Value) (hp : a.tmps.getD 5 undef = .pointer (some ⟨g, 0, none⟩)) (hg : w.heap[g]? = some (.cells cs 49 (0, 0))) (hn : cs.size = 2) (hd : a.defers = [])
    (hR : R (.returned (.tuple #[a.tmps.getD 4 undef, .agg cs])) w) : bodyPost Tryz.prog Tryz.f46 R .ret a w :=
  bodyPost_ret (results_tmp_row rfl a.tmps w g _ cs (0, 0) _ hp hg Tryz.underlying49 rfl (by rw [hn]; kernel_rfl)) hd hR
theorem row_set2 {w : World} {g : Nat} {t : TypeId} {x y : Value} (h : w.heap[g]? = some (.cells #[x, y] t (0, 0))) (a b : Value) :
    ((w.setCell ⟨g, 0, none⟩ a).setCell ⟨g, 1, none⟩ b).heap[g]? = some (.cells #[a, b] t (0, 0)) := by
  have h1 := heap_setCell_same w g 0 _ t a h
  exact heap_setCell_same _ g 1 _ t b h1
theorem row_cells2 {w : World} {g : Nat} {t : TypeId} {x y : Value} (h : w.heap[g]? = some (.cells #[x, y] t (0, 0))) :
    w.cell? ⟨g, 0, none⟩ = some x ∧ w.cell? ⟨g, 1, none⟩ = some y ∧ w.frozen? ⟨g, 0, none⟩ = false ∧ w.frozen? ⟨g, 1, none⟩ = false :=
  ⟨cell_of_row w g 0 _ t _ h, cell_of_row w g 1 _ t _ h, frozen_of_row w g 0 _ t h, frozen_of_row w g 1 _ t h⟩

/-- The block of SealOf's fault, new. -/
abbrev fault0 : Obj := .cells #[.int .i64 0, .int .i64 0] 49

set_option maxRecDepth 100000 in
set_option maxHeartbeats 1000000 in
theorem sealOf_key (key : Int) (v : Value) (w : World) (hk : ¬ (1 ≤ key ∧ key ≤ 1000000006)) :
    Calls Tryz.prog 46 #[.int .i64 key, v] w fun e w' => e = .returned (.tuple #[.string ⟨#[]⟩, .agg #[.int .i64 10, .int .i64 (-1)]]) ∧ Below w.heap.size w w' := by
  have HK := hide (fun w => refKey_any key w)
  rw [decide_eq_false hk] at HK
  have HBr := hide (fun w => refBare_any 10 w)
  clear hk
  go_enter Tryz.func46, Tryz.ntmps46
  go_wp2_with fail
  refine (HK.out _).mono ?_
  rintro e w1 ⟨rfl, rfl⟩
  go_wp2_with fail
  refine (HBr.out _).mono ?_
  rintro e w2 ⟨rfl, hb⟩
  have HR : Hid (w2.heap[w.heap.size]? = some (.cells #[.int .i64 0, .int .i64 0] 49 (0, 0))) := by show _ = _; rw [hb.block _ (by simp)]; exact heap_alloc_new _ _
  have HB : Hid (Below w.heap.size w w2) := ((Below.refl _ w).alloc (Nat.le_refl _) _).trans (hb.mono (by simp))
  obtain ⟨hc0, hc1, hf0, hf1⟩ := row_cells2 HR.out
  clear hb
  go_wp2
  refine sealOfEnd w.heap.size _ rfl (row_set2 HR.out _ _) rfl rfl ?_
  exact ⟨rfl, (HB.out.setCell (Nat.le_refl _) _).setCell (Nat.le_refl _) _⟩

set_option maxRecDepth 100000 in
set_option maxHeartbeats 1000000 in
theorem sealOf_count (key : Int) (ad : Option Addr) (n c : Nat) (w : World) (hk : 1 ≤ key ∧ key ≤ 1000000006) (hn : ¬ (1 ≤ n ∧ n ≤ 10)) :
    Calls Tryz.prog 46 #[.int .i64 key, .slice ad n c] w fun e w' => e = .returned (.tuple #[.string ⟨#[]⟩, .agg #[.int .i64 3, .int .i64 (-1)]]) ∧ Below w.heap.size w w' := by
  have HK := hide (fun w => refKey_any key w)
  rw [decide_eq_true hk] at HK
  have HBr := hide (fun w => refBare_any 3 w)
  have hn2 : n < 1 ∨ (1 ≤ n ∧ 10 < n) := by omega
  clear hk hn
  rcases hn2 with hn | ⟨hn, hn3⟩
  all_goals
    go_enter Tryz.func46, Tryz.ntmps46
    go_wp2_with fail
    refine (HK.out _).mono ?_
    rintro e w1 ⟨rfl, rfl⟩
    go_wp2_with fail
    refine (HBr.out _).mono ?_
    rintro e w2 ⟨rfl, hb⟩
    have HR : Hid (w2.heap[w.heap.size]? = some (.cells #[.int .i64 0, .int .i64 0] 49 (0, 0))) := by show _ = _; rw [hb.block _ (by simp)]; exact heap_alloc_new _ _
    have HB : Hid (Below w.heap.size w w2) := ((Below.refl _ w).alloc (Nat.le_refl _) _).trans (hb.mono (by simp))
    obtain ⟨hc0, hc1, hf0, hf1⟩ := row_cells2 HR.out
    clear hb
    go_wp2
    refine sealOfEnd w.heap.size _ rfl (row_set2 HR.out _ _) rfl rfl ?_
    exact ⟨rfl, (HB.out.setCell (Nat.le_refl _) _).setCell (Nat.le_refl _) _⟩

set_option maxRecDepth 100000 in
set_option maxHeartbeats 1000000 in
theorem sealOf_wrong (key : Int) (b o n c : Nat) (xs : List ByteArray) (w : World) (hk : 1 ≤ key ∧ key ≤ 1000000006) (hn : 1 ≤ n ∧ n ≤ 10) (hx : Texts w b o xs) (hl : xs.length = n) (hs : ∀ x ∈ xs, x.size ≤ maxLen) (z : Nat) (hz : z < xs.length) (hw : Sl.wordL xs[z].data.toList = false) (hbef : ∀ j (hj : j < xs.length), j < z → Sl.wordL xs[j].data.toList = true) :
    Calls Tryz.prog 46 #[.int .i64 key, .slice (some ⟨b, o, none⟩) n c] w fun e w' => e = .returned (.tuple #[.string ⟨#[]⟩, .agg #[.int .i64 1, .int .i64 z]]) ∧ Below w.heap.size w w' := by
  have HK := hide (fun w => refKey_any key w)
  rw [decide_eq_true hk] at HK
  have HX : Hid (Texts (w.alloc fault0) b o xs) := hx.below ((Below.refl _ w).alloc (Nat.le_refl _) _)
  have HB0 : Hid (Below w.heap.size w (w.alloc fault0)) := (Below.refl _ w).alloc (Nat.le_refl _) _
  have HR0 : Hid ((w.alloc fault0).heap[w.heap.size]? = some (.cells #[.int .i64 0, .int .i64 0] 49 (0, 0))) := heap_alloc_new _ _
  have HS := hide hs
  have HL := hide hl
  have HW := hide hw
  have HBe := hide hbef
  have hzn : z < n := by omega
  obtain ⟨hn1, hn2⟩ := hn
  clear hx hl hs hw hbef hk
  go_enter Tryz.func46, Tryz.ntmps46
  go_wp2_with fail
  refine (HK.out _).mono ?_
  rintro e w1 ⟨rfl, rfl⟩
  clear HK
  go_wp2
  generalize w.alloc (.cells #[.int .i64 0, .int .i64 0] 49) = w0 at *
  go_loop [7] (fun i => ∃ k : Nat, k ≤ z ∧ i = .int .i64 k) (fun i => z - (intOf i).toNat)
  case atStart => exact ⟨0, Nat.zero_le _, rfl⟩
  case round =>
    obtain ⟨k, hk, rfl⟩ := hrel
    have hkn : k < n := by omega
    have hkl : k < xs.length := by rw [HL.out]; exact hkn
    have hcell := HX.out k hkl
    have HWd := hide (fun w => refWord_any xs[k] w (HS.out _ (List.getElem_mem _)))
    by_cases hkz : k = z
    · subst hkz
      rw [HW.out] at HWd
      generalize xs[k] = y at hcell HWd
      obtain ⟨hc0, hc1, hf0, hf1⟩ := row_cells2 HR0.out
      go_wp2_with fail
      refine (HWd.out _).mono ?_
      rintro e w3 ⟨rfl, rfl⟩
      go_wp2
      refine sealOfEnd w.heap.size _ rfl (row_set2 HR0.out _ _) rfl rfl ?_
      exact ⟨rfl, (HB0.out.setCell (Nat.le_refl _) _).setCell (Nat.le_refl _) _⟩
    · rw [HBe.out k hkl (by omega)] at HWd
      generalize xs[k] = y at hcell HWd
      go_wp2_with fail
      refine (HWd.out _).mono ?_
      rintro e w3 ⟨rfl, rfl⟩
      go_wp2
      go_round
      case rel => exact ⟨k + 1, by omega, by go_num⟩
      case measure => simp [intOf]; omega

set_option maxRecDepth 100000 in
set_option maxHeartbeats 2000000 in
theorem sealOf_ok (key : Int) (b o n c : Nat) (xs : List ByteArray) (w : World) (hk : 1 ≤ key ∧ key ≤ 1000000006) (hx : Texts w b o xs) (hl : xs.length = n) (hw : Sl.wordsOk (toLs xs) = true) :
    Calls Tryz.prog 46 #[.int .i64 key, .slice (some ⟨b, o, none⟩) n c] w fun e w' => e = .returned (.tuple #[.string (Sl.ofL (Sl.sealL key (toLs xs))), .agg #[.int .i64 0, .int .i64 (-1)]]) ∧ Below w.heap.size w w' := by
  have HK := hide (fun w => refKey_any key w)
  rw [decide_eq_true hk] at HK
  obtain ⟨⟨h1, h10⟩, hall⟩ := (Sl.wordsOk_iff _).1 hw
  rw [List.length_map, hl] at h1 h10
  have hone : ∀ x ∈ xs, Sl.wordL x.data.toList = true := fun x hm => hall _ (List.mem_map.2 ⟨x, hm, rfl⟩)
  have HX : Hid (Texts (w.alloc fault0) b o xs) := hx.below ((Below.refl _ w).alloc (Nat.le_refl _) _)
  have HB0 : Hid (Below w.heap.size w (w.alloc fault0)) := (Below.refl _ w).alloc (Nat.le_refl _) _
  have HR0 : Hid ((w.alloc fault0).heap[w.heap.size]? = some (.cells #[.int .i64 0, .int .i64 0] 49 (0, 0))) := heap_alloc_new _ _
  have HT0 : Hid (w.heap.size < (w.alloc fault0).heap.size) := by show _ < _; simp
  have HOne := hide hone
  have hgl : (Sl.glue (toLs xs)).length ≤ 210 := by
    have := Sl.glue_len 20 (toLs xs) (fun l hm => (Sl.word_len l (hall l hm)).2)
    rw [List.length_map, hl] at this
    omega
  have HG := hide (fun w hx => refGlue_any xs b o n c w hl (by omega) hx (by omega))
  have HM := hide (fun w => refOf_any key (Sl.ofL (Sl.glue (toLs xs))) w (by rw [Sl.ofL_size]; unfold maxLen; omega))
  rw [show moreN key key (Sl.ofL (Sl.glue (toLs xs))).data.toList = (Sl.sealM key (toLs xs) : Int) by rw [Sl.sealM_mk key hk, Sl.toL_ofL]; simp [moreN, key_more, hk]] at HM
  rw [show ((moreE key key : Nat) : Int) = 0 by rw [key_more, if_pos hk]; rfl] at HM
  have HD := hide (fun w => refDecimal_any (Sl.sealM key (toLs xs)) (by have := Sl.sealM_le key hk (toLs xs); omega) w)
  have hz1 : (Sl.ofL (Sl.glue (toLs xs))).size ≤ 210 := by rw [Sl.ofL_size]; exact hgl
  have hz2 := dec_size (Sl.sealM key (toLs xs)) (by have := Sl.sealM_le key hk (toLs xs); omega)
  have HRs : Hid (Sl.ofL (Sl.glue (toLs xs)) ++ ⟨#[32]⟩ ++ Sl.ofL (Lib.decDigits (Sl.sealM key (toLs xs))) = Sl.ofL (Sl.sealL key (toLs xs))) := by
    show _ = _
    refine Sl.ba_ext ?_
    rw [ba_toList, ba_toList]
    unfold Sl.sealL
    simp only [Sl.toL_ofL]
    simp
  have HL := hide hl
  have HFi := hide (fun w => refFine_any w)
  clear hk hx hl hw hone hall hgl
  generalize Sl.ofL (Sl.sealL key (toLs xs)) = res at *
  generalize Sl.ofL (Lib.decDigits (Sl.sealM key (toLs xs))) = dg at *
  generalize (Sl.sealM key (toLs xs) : Int) = m at *
  generalize Sl.ofL (Sl.glue (toLs xs)) = g at *
  go_enter Tryz.func46, Tryz.ntmps46
  go_wp2_with fail
  refine (HK.out _).mono ?_
  rintro e w1 ⟨rfl, rfl⟩
  clear HK
  go_wp2
  generalize w.alloc (.cells #[.int .i64 0, .int .i64 0] 49) = w0 at *
  go_loop [7] (fun i => ∃ k : Nat, k ≤ n ∧ i = .int .i64 k) (fun i => n - (intOf i).toNat)
  case atStart => exact ⟨0, Nat.zero_le _, rfl⟩
  case round =>
    obtain ⟨k, hk, rfl⟩ := hrel
    by_cases hkn : k < n
    · have hkl : k < xs.length := by rw [HL.out]; exact hkn
      have hcell := HX.out k hkl
      have HWd := hide (fun w => refWord_any xs[k] w (by have := (Sl.word_len _ (HOne.out _ (List.getElem_mem hkl))).2; rw [size_list] at this; unfold maxLen; omega))
      rw [HOne.out _ (List.getElem_mem hkl)] at HWd
      generalize xs[k] = y at hcell HWd
      go_wp2_with fail
      refine (HWd.out _).mono ?_
      rintro e w3 ⟨rfl, rfl⟩
      go_wp2
      go_round
      case rel => exact ⟨k + 1, by omega, by go_num⟩
      case measure => simp [intOf]; omega
    · go_wp2_with fail
      refine (HG.out _ HX.out).mono ?_
      rintro e w3 ⟨rfl, rfl⟩
      go_wp2_with fail
      refine (HM.out _).mono ?_
      rintro e w4 ⟨rfl, rfl⟩
      go_wp2_with fail
      refine (HD.out _).mono ?_
      rintro e w5 ⟨rfl, hb⟩
      have HR5 : Hid (w5.heap[w.heap.size]? = some (.cells #[.int .i64 0, .int .i64 0] 49 (0, 0))) := by show _ = _; rw [hb.block _ HT0.out]; exact HR0.out
      have HB5 : Hid (Below w.heap.size w w5) := HB0.out.trans (hb.mono HB0.out.size)
      have HT5 : Hid (w.heap.size < w5.heap.size) := Nat.lt_of_lt_of_le HT0.out hb.size
      clear hb HR0 HB0 HT0 HX HG HM HD
      go_wp2_with fail
      refine (HFi.out _).mono ?_
      rintro e w6 ⟨rfl, hb⟩
      have HR6 : Hid (w6.heap[w.heap.size]? = some (.cells #[.int .i64 0, .int .i64 0] 49 (0, 0))) := by show _ = _; rw [hb.block _ HT5.out]; exact HR5.out
      have HB6 : Hid (Below w.heap.size w w6) := HB5.out.trans (hb.mono HB5.out.size)
      clear hb HR5 HB5 HT5
      obtain ⟨hc0, hc1, hf0, hf1⟩ := row_cells2 HR6.out
      go_wp2
      refine sealOfEnd w.heap.size _ rfl (row_set2 HR6.out _ _) rfl rfl ?_
      exact ⟨by rw [← HRs.out]; rfl, (HB6.out.setCell (Nat.le_refl _) _).setCell (Nat.le_refl _) _⟩
end Go.Proofs.YtemdnmnbecapbacGreatDoor

namespace Go.Proofs.YtemdnmnbecapbacGreatDoor
open Go.RowKit Go.Extern.Stop Go.Stop Go.Extern Go.Proofs

/-- A head's text, or none. -/
def headX (key : Int) (l : List En) (time : Int) : ByteArray := if (headC key l time).1 = 0 then txt (headT key l time) else ⟨#[]⟩
theorem text_x {a : Nat → Addr} {key : Int} {l : List En} {time : Int} {e : Ending} {w' : World} (h : TextPost a (headC key l time) (headT key l time) e w') : ∃ ev, e = .returned (.tuple #[.string (headX key l time), ev]) ∧ FlErr a w' (headC key l time) ev := by
  unfold headX
  rcases h with ⟨h0, rfl⟩ | ⟨h0, tt, pp, rfl, he⟩
  · rw [if_pos h0]
    exact ⟨_, rfl, Or.inl ⟨h0, rfl⟩⟩
  · rw [if_neg h0]
    exact ⟨_, rfl, he⟩

set_option maxRecDepth 100000 in
set_option maxHeartbeats 8000000 in
theorem refHead_any (key : Int) (v : Value) (l : List En) (time : Int) (w : World) (hv : EnAt w v l) (hs : ∀ e ∈ l, e.fl.who.size ≤ maxLen) (hl : l.length ≤ 100000) :
    Calls Tryz.prog 23 #[.int .i64 key, v, .int .i64 time] w fun e w' => e = .returned (.tuple #[.string (headX key l time), fltV (headC key l time)]) ∧ Below w.heap.size w w' := by
  have HB0 : Hid (Below w.heap.size w (w.alloc flt0)) := (Below.refl _ _).alloc (Nat.le_refl _) _
  have HR0 : Hid ((w.alloc flt0).heap[w.heap.size]? = some flt0) := heap_alloc_new _ _
  have HKy := hide (fun w => refKey_any key w)
  have HFl := hide (fun w h => refFloors_any v l w h hs (by omega))
  have HBare := hide (fun c w => bare_any c w)
  have HV := hide hv
  have HHX : Hid (headX key l time = if (headC key l time).1 = 0 then txt (headT key l time) else ⟨#[]⟩) := rfl
  by_cases hk : 1 ≤ key ∧ key ≤ 1000000006
  · rw [decide_eq_true hk] at HKy
    have hC : headC key l time = (if (floorsC l).1 = 0 then (if (0 ≤ time ∧ time ≤ 1000000) ∧ newL l ≤ time then (0, -1) else (2, -1)) else floorsC l) := if_pos hk
    have hcz : ((floorsC l).1 = 0 ∧ ((floorsC l).1 : Int) = 0 ∧ (floorsC l).2 = -1) ∨ ((floorsC l).1 ≠ 0 ∧ (0 : Int) < ((floorsC l).1 : Int)) := by
      by_cases h : (floorsC l).1 = 0
      · refine Or.inl ⟨h, by omega, ?_⟩
        obtain ⟨h1, h2⟩ := floors_zero h
        rw [(floors_some h1 h2).1]
      · exact Or.inr ⟨h, by omega⟩
    have HLast : Hid (∀ W, Below w.heap.size w W → (l.length = 0 ∧ newL l = 0) ∨ ∃ m b off cap, l.length = m + 1 ∧ v = .slice (some ⟨b, off, none⟩) l.length cap ∧ W.cell? ⟨b, off + m * 4 + 1, none⟩ = some (.int .i64 (newL l))) := fun W hb => by
      by_cases hn : 0 < l.length
      · obtain ⟨m, hm⟩ : ∃ m, l.length = m + 1 := ⟨l.length - 1, by omega⟩
        obtain ⟨b, off, cap, e, _, _, _, hcell⟩ := (hv.below hb).at hn
        exact Or.inr ⟨m, b, off, cap, hm, e, by rw [newL_last hm]; exact (hcell m (by omega)).2.1⟩
      · exact Or.inl ⟨by omega, by rw [List.length_eq_zero_iff.1 (show l.length = 0 by omega)]; rfl⟩
    have HSm := hide (fun v w hv => refSum_any v (floorsR l) w hv (small_floors hs) (by have := (floors_right l).2; omega))
    obtain ⟨hs0, hs1⟩ := sum_bd (floorsR l)
    have HDn := hide (fun w => refDecimal_any l.length (by omega) w)
    have HDs := hide (fun w => refDecimal_any (sumL (floorsR l)).toNat (by omega) w)
    rw [Int.toNat_of_nonneg hs0] at HDs
    have HDt : Hid (0 ≤ time → time ≤ 1000000 → ∀ w, Calls Tryz.prog 47 #[.int .i64 time] w fun e w' => e = .returned (.string (Sl.ofL (Lib.decDigits time.toNat))) ∧ Below w.heap.size w w') := fun h1 h2 w => by
      have := refDecimal_any time.toNat (by omega) w
      rw [Int.toNat_of_nonneg h1] at this
      exact this
    have HSl : Hid ((0 ≤ time ∧ time ≤ 1000000) → (floorsC l).1 = 0 → ∀ b w, Texts w b 0 [Sl.ofL headL, Sl.ofL (Lib.decDigits l.length), Sl.ofL (Lib.decDigits time.toNat), Sl.ofL (Lib.decDigits (sumL (floorsR l)).toNat)] → Calls Tryz.prog 46 #[.int .i64 key, .slice (some ⟨b, 0, none⟩) 4 4] w fun e w' => e = .returned (.tuple #[.string (txt (headT key l time)), .agg #[.int .i64 0, .int .i64 (-1)]]) ∧ Below w.heap.size w w') := fun h1 h2 b w hx =>
      sealOf_ok key b 0 4 4 [Sl.ofL headL, Sl.ofL (Lib.decDigits l.length), Sl.ofL (Lib.decDigits time.toNat), Sl.ofL (Lib.decDigits (sumL (floorsR l)).toNat)] w hk hx rfl (headW_ok (l.length : Int) time (sumL (floorsR l)) (by have := (feed_zero (floors_zero h2).1).1; omega) (by omega) (by omega))
    obtain ⟨ad, cap, rfl, hcap⟩ := hv.form
    clear hv hs hk hs0 hs1
    generalize Sl.ofL (Lib.decDigits l.length) = dn at *
    generalize Sl.ofL (Lib.decDigits time.toNat) = dt at *
    generalize Sl.ofL (Lib.decDigits (sumL (floorsR l)).toNat) = ds at *
    generalize headX key l time = hx at *
    generalize headC key l time = hc at *
    generalize txt (headT key l time) = tx at *
    generalize floorsR l = fr at *
    generalize sumL fr = sm at *
    generalize hn : l.length = n at *
    clear hn
    go_enter Tryz.func23, Tryz.ntmps23
    go_wp2_with fail
    refine (HKy.out _).mono ?_
    rintro e w1 ⟨rfl, rfl⟩
    go_wp2_with fail
    refine (HFl.out _ (HV.out.below HB0.out)).mono ?_
    rintro e w2 ⟨⟨v2, rfl, hfl⟩, hb⟩
    have HB2 : Hid (Below w.heap.size w w2) := HB0.out.trans (hb.mono HB0.out.size)
    have HR2 : Hid (w2.heap[w.heap.size]? = some flt0) := (hb.block _ (row_lt HR0.out)).trans HR0.out
    have HF2 := hide hfl
    unfold fltV
    clear hb hfl HB0 HR0 HFl HKy
    have HCz := hide hcz
    generalize hfz : ((floorsC l).1 : Int) = fz at *
    generalize hfa : (floorsC l).2 = fa at *
    have HFz := hide hfz
    have HFa := hide hfa
    clear hfz hfa
    have HB3 : Hid (Below w.heap.size w (w2.alloc (fltO fz fa))) := HB2.out.alloc HB2.out.size _
    have HR3 : Hid ((w2.alloc (fltO fz fa)).heap[w.heap.size]? = some flt0) := (heap_alloc_old w2 _ (row_lt HR2.out)).trans HR2.out
    have HG3 : Hid ((w2.alloc (fltO fz fa)).heap[w2.heap.size]? = some (fltO fz fa)) := heap_alloc_new _ _
    have HF3 : Hid (FlAt (w2.alloc (fltO fz fa)) v2 fr) := HF2.out.below ((Below.refl _ _).alloc (Nat.le_refl _) _)
    go_upto_region 5 with fail
    obtain ⟨W3, hW3⟩ : ∃ W, w2.alloc (.cells #[.int .i64 fz, .int .i64 fa] 49) = W := ⟨_, rfl⟩
    rw [hW3] at HB3 HR3 HG3 HF3 ⊢
    generalize hgb : w2.heap.size = gb at *
    clear hW3 hgb HB2 HR2 HF2
    obtain ⟨g0, g1, _, _⟩ := flt_row HG3.out
    obtain ⟨c0, c1, z0, z1⟩ := flt_row HR3.out
    rcases HCz.out with ⟨h0, hz, ha⟩ | ⟨h0, hz⟩
    · subst hz
      subst ha
      rw [if_pos h0] at hC
      have HSl2 := hide (fun h => HSl.out h h0)
      clear h0 HCz HFz HFa HSl
      by_cases ht : 0 ≤ time ∧ time ≤ 1000000
      · by_cases hnw : newL l ≤ time
        · rw [if_pos ⟨ht, hnw⟩] at hC
          have HC := hide hC
          have HDt2 := hide (HDt.out ht.1 ht.2)
          have HSl3 := hide (HSl2.out ht)
          have ht1 : ¬ time < 0 := by omega
          have ht2 : ¬ 1000000 < time := by omega
          have hnz : ¬ time < newL l := by omega
          clear hC HDt HSl2 HBare
          generalize newL l = nw at *
          go_upto_if 34 with fail
          go_cut [43] (fun _ wc => W3 = wc)
          case first =>
            rcases HLast.out W3 HB3.out with ⟨hn0, _⟩ | ⟨m, b, off, cap', hm, hvv, hcl⟩
            · have hnn : ¬ (0 : Int) < (n : Int) := by omega
              clear hn0
              go_wp2
              go_meet
              exact rfl
            · injection hvv with v1 v2 v3
              subst v1; subst v3
              subst hm
              go_wp2
              go_meet
              exact rfl
          case rest =>
            obtain rfl := hcut
            clear HLast g0 g1 c0 c1 z0 z1
            go_wp2_with fail
            refine (HDn.out _).mono ?_
            rintro e w4 ⟨rfl, hb⟩
            have HB4 : Hid (Below w.heap.size w w4) := HB3.out.trans (hb.mono HB3.out.size)
            have HR4 : Hid (w4.heap[w.heap.size]? = some flt0) := (hb.block _ (row_lt HR3.out)).trans HR3.out
            have HF4 := hide (HF3.out.below hb)
            clear hb HB3 HR3 HF3 HDn HG3
            go_wp2_with fail
            refine (HDt2.out _).mono ?_
            rintro e w5 ⟨rfl, hb⟩
            have HB5 : Hid (Below w.heap.size w w5) := HB4.out.trans (hb.mono HB4.out.size)
            have HR5 : Hid (w5.heap[w.heap.size]? = some flt0) := (hb.block _ (row_lt HR4.out)).trans HR4.out
            have HF5 := hide (HF4.out.below hb)
            clear hb HB4 HR4 HF4 HDt2
            go_wp2_with fail
            refine (HSm.out _ _ HF5.out).mono ?_
            rintro e w6 ⟨rfl, hb⟩
            have HB6 : Hid (Below w.heap.size w w6) := HB5.out.trans (hb.mono HB5.out.size)
            have HR6 : Hid (w6.heap[w.heap.size]? = some flt0) := (hb.block _ (row_lt HR5.out)).trans HR5.out
            clear hb HB5 HR5 HF5 HSm
            go_wp2_with fail
            refine (HDs.out _).mono ?_
            rintro e w7 ⟨rfl, hb⟩
            have HB7 : Hid (Below w.heap.size w w7) := HB6.out.trans (hb.mono HB6.out.size)
            have HR7 : Hid (w7.heap[w.heap.size]? = some flt0) := (hb.block _ (row_lt HR6.out)).trans HR6.out
            clear hb HB6 HR6 HDs
            have HB8 : Hid (Below w.heap.size w (w7.alloc (.cells #[.string ⟨#[104, 101, 97, 100]⟩, .string dn, .string dt, .string ds] 9))) := HB7.out.alloc HB7.out.size _
            have HR8 : Hid ((w7.alloc (.cells #[.string ⟨#[104, 101, 97, 100]⟩, .string dn, .string dt, .string ds] 9)).heap[w.heap.size]? = some flt0) := (heap_alloc_old w7 _ (row_lt HR7.out)).trans HR7.out
            have HSl4 := hide (HSl3.out w7.heap.size _ (texts4 w7 (Sl.ofL headL) dn dt ds))
            go_wp2_with fail
            refine HSl4.out.mono ?_
            rintro e w9 ⟨rfl, hb⟩
            have HB9 : Hid (Below w.heap.size w w9) := HB8.out.trans (hb.mono HB8.out.size)
            have HR9 : Hid (w9.heap[w.heap.size]? = some flt0) := (hb.block _ (row_lt HR8.out)).trans HR8.out
            clear hb HB8 HR8 HB7 HR7 HSl3 HSl4
            obtain ⟨c0, c1, z0, z1⟩ := flt_row HR9.out
            go_wp2
            obtain ⟨e1, e2⟩ := flt_set HB9.out (Nat.le_refl _) HR9.out (.int .i64 0) (.int .i64 (-1))
            refine fltEnd2 rfl w.heap.size _ rfl e1 rfl rfl ?_
            exact ⟨by rw [HHX.out, HC.out, if_pos rfl]; rfl, e2⟩
        · rw [if_neg (fun h => hnw h.2)] at hC
          have HC := hide hC
          have ht1 : ¬ time < 0 := by omega
          have ht2 : ¬ 1000000 < time := by omega
          have hnz : time < newL l := by omega
          rcases HLast.out W3 HB3.out with ⟨hn0, hnl⟩ | ⟨m, b, off, cap', hm, hvv, hcl⟩
          · exact absurd (by omega) ht1
          · injection hvv with v1 v2 v3
            subst v1; subst v3
            subst hm
            clear hC HDt HSl2 HDn HDs HSm HLast
            generalize newL l = nw at *
            go_wp2_with fail
            refine (HBare.out 2 _).mono ?_
            rintro e w4 ⟨rfl, hb⟩
            have HB4 : Hid (Below w.heap.size w w4) := HB3.out.trans (hb.mono HB3.out.size)
            have HR4 : Hid (w4.heap[w.heap.size]? = some flt0) := (hb.block _ (row_lt HR3.out)).trans HR3.out
            clear hb c0 c1 z0 z1 g0 g1
            obtain ⟨c0, c1, z0, z1⟩ := flt_row HR4.out
            go_wp2
            obtain ⟨e1, e2⟩ := flt_set HB4.out (Nat.le_refl _) HR4.out (.int .i64 2) (.int .i64 (-1))
            refine fltEnd2 rfl w.heap.size _ rfl e1 rfl rfl ?_
            exact ⟨by rw [HHX.out, HC.out, if_neg (by decide)]; rfl, e2⟩
      · rw [if_neg (fun h => ht h.1)] at hC
        have HC := hide hC
        clear hC HDt HSl2 HDn HDs HSm HLast
        have hway : time < 0 ∨ (¬ time < 0 ∧ 1000000 < time) := by omega
        clear ht
        rcases hway with ht1 | ⟨ht1, ht2⟩
        all_goals
          go_wp2_with fail
          refine (HBare.out 2 _).mono ?_
          rintro e w4 ⟨rfl, hb⟩
          have HB4 : Hid (Below w.heap.size w w4) := HB3.out.trans (hb.mono HB3.out.size)
          have HR4 : Hid (w4.heap[w.heap.size]? = some flt0) := (hb.block _ (row_lt HR3.out)).trans HR3.out
          clear hb c0 c1 z0 z1 g0 g1
          obtain ⟨c0, c1, z0, z1⟩ := flt_row HR4.out
          go_wp2
          obtain ⟨e1, e2⟩ := flt_set HB4.out (Nat.le_refl _) HR4.out (.int .i64 2) (.int .i64 (-1))
          refine fltEnd2 rfl w.heap.size _ rfl e1 rfl rfl ?_
          exact ⟨by rw [HHX.out, HC.out, if_neg (by decide)]; rfl, e2⟩
    · rw [if_neg h0] at hC
      have HFv : Hid (fltV hc = .agg #[.int .i64 fz, .int .i64 fa]) := by show _ = _; rw [hC]; unfold fltV; rw [HFz.out, HFa.out]
      have HXe : Hid (hx = ⟨#[]⟩) := by show _ = _; rw [HHX.out, hC, if_neg h0]
      clear h0 hC HCz HFz HFa HDt HSl HDn HDs HSm HLast
      go_wp2
      go_region
      all_goals
        go_wp2
        obtain ⟨e1, e2⟩ := flt_set HB3.out (Nat.le_refl _) HR3.out (.int .i64 fz) (.int .i64 fa)
        refine fltEnd2 rfl w.heap.size _ rfl e1 rfl rfl ?_
        exact ⟨by first | (rw [HFv.out, HXe.out]; rfl) | rw [HFv.out, HXe.out], e2.drew⟩
  · rw [decide_eq_false hk] at HKy
    have hC : headC key l time = (10, -1) := if_neg hk
    have HC := hide hC
    clear hC hv hs hk HFl
    generalize headX key l time = hx at *
    generalize headC key l time = hc at *
    go_enter Tryz.func23, Tryz.ntmps23
    go_wp2_with fail
    refine (HKy.out _).mono ?_
    rintro e w1 ⟨rfl, rfl⟩
    go_wp2_with fail
    refine (HBare.out 10 _).mono ?_
    rintro e w4 ⟨rfl, hb⟩
    have HB4 : Hid (Below w.heap.size w w4) := HB0.out.trans (hb.mono HB0.out.size)
    have HR4 : Hid (w4.heap[w.heap.size]? = some flt0) := (hb.block _ (row_lt HR0.out)).trans HR0.out
    clear hb
    obtain ⟨c0, c1, z0, z1⟩ := flt_row HR4.out
    go_wp2
    obtain ⟨e1, e2⟩ := flt_set HB4.out (Nat.le_refl _) HR4.out (.int .i64 10) (.int .i64 (-1))
    refine fltEnd2 rfl w.heap.size _ rfl e1 rfl rfl ?_
    exact ⟨by rw [HHX.out, HC.out, if_neg (by decide)]; rfl, e2⟩

abbrev rhO (h : Hd) : Obj := .cells #[.int .i64 h.n, .int .i64 h.t, .int .i64 h.s] 59 (0, 0)
theorem rhEnd {fn : Func} {p u : Tmp} (hr : fn.results = #[.cell p 59, .tmp u]) {a : Act} {w : World} {R : Ending → World → Prop} (g : Nat) (t : Hd) (hp : a.tmps.getD p undef = .pointer (some ⟨g, 0, none⟩)) (hg : w.heap[g]? = some (rhO t)) (hd : a.defers = [])
    (hR : R (.returned (.tuple #[t.val, a.tmps.getD u undef])) w) : bodyPost Tryz.prog fn R .ret a w :=
  bodyPost_ret (results_row_tmp hr a.tmps w g _ _ (0, 0) _ hp hg Tryz.underlying59 rfl (by kernel_rfl)) hd hR

set_option maxRecDepth 100000 in
set_option maxHeartbeats 8000000 in
theorem refOpenH_any (key : Int) (s : ByteArray) (w : World) (hs : s.size ≤ maxLen) :
    Calls Tryz.prog 24 #[.int .i64 key, .string s] w fun e w' => e = .returned (.tuple #[(openHR key s.data.toList).val, .int .i64 (openHC key s.data.toList : Int)]) ∧ Below w.heap.size w w' := by
  have HB0 : Hid (Below w.heap.size w (w.alloc (rhO hd0))) := (Below.refl _ w).alloc (Nat.le_refl _) _
  have HR0 : Hid ((w.alloc (rhO hd0)).heap[w.heap.size]? = some (rhO hd0)) := heap_alloc_new _ _
  have HU := hide (fun w => refUnseal_any key s w hs)
  have HNum := hide (fun x most w hx => refNumber_any x most w hx)
  by_cases h0 : Sl.openE key s.data.toList = 0
  · rw [show openHC key s.data.toList = hdC (Sl.lookW s.data.toList) from if_pos h0, show openHR key s.data.toList = hdR (Sl.lookW s.data.toList) from if_pos h0]
    have hw := (Sl.wordsOk_iff _).1 (Sl.lookOk_words _ (Sl.lookE_ok _ (((Sl.openE_iff key _).1 h0).2.1)))
    have HSz : Hid (∀ x ∈ (Sl.lookW s.data.toList).map Sl.ofL, x.size ≤ maxLen) := fun x hx => by
      obtain ⟨y, hy, rfl⟩ := List.mem_map.1 hx
      have := (Sl.word_len y (hw.2 y hy)).2
      rw [Sl.ofL_size]
      unfold maxLen; omega
    rw [h0] at HU
    clear h0 hw hs
    generalize Sl.lookW s.data.toList = ws at *
    have HL4 : Hid (ws.length ≠ 4 → hdC ws = 1 ∧ hdR ws = hd0) := fun h => hd_no (by unfold hdOk; rw [decide_eq_false h]; rfl)
    have HX4 : Hid (ws.length = 4 → ∃ x0 x1 x2 x3 : List UInt8, ws = [x0, x1, x2, x3]) := fun h => by
      match ws, h with
      | [x0, x1, x2, x3], _ => exact ⟨_, _, _, _, rfl⟩
    go_enter Tryz.func24, Tryz.ntmps24
    go_wp2_with fail
    refine (HU.out _).mono ?_
    rintro e w1 ⟨hb, hp⟩
    unfold UnsealPost at hp
    rw [if_pos rfl] at hp
    obtain ⟨b, cap, hx, hcap, rfl⟩ := hp
    have HB1 : Hid (Below w.heap.size w w1) := HB0.out.trans (hb.mono HB0.out.size)
    have HR1 : Hid (w1.heap[w.heap.size]? = some (rhO hd0)) := (hb.block _ (row_lt HR0.out)).trans HR0.out
    obtain ⟨c0, c1, c2, z0, z1, z2⟩ := row_cells HR1.out
    dsimp only [hd0] at c0 c1 c2
    have HX1 := hide hx
    clear hb HU hx HB0 HR0
    by_cases h4 : ws.length = 4
    · obtain ⟨x0, x1, x2, x3, rfl⟩ := HX4.out h4
      have hok : hdOk [x0, x1, x2, x3] = (decide (x0 = headL) && (numB x1 60 && numB x2 1000000 && numB x3 1000000006)) := rfl
      have hc0 : w1.cell? ⟨b, 0, none⟩ = some (.string (Sl.ofL x0)) := by have := HX1.out 0 (by simp); simpa using this
      have hc1 : w1.cell? ⟨b, 1, none⟩ = some (.string (Sl.ofL x1)) := by have := HX1.out 1 (by simp); simpa using this
      have hc2 : w1.cell? ⟨b, 2, none⟩ = some (.string (Sl.ofL x2)) := by have := HX1.out 2 (by simp); simpa using this
      have hc3 : w1.cell? ⟨b, 3, none⟩ = some (.string (Sl.ofL x3)) := by have := HX1.out 3 (by simp); simpa using this
      have HN1 := hide (fun w => HNum.out (Sl.ofL x1) 60 w (HSz.out _ (by simp)))
      have HN2 := hide (fun w => HNum.out (Sl.ofL x2) 1000000 w (HSz.out _ (by simp)))
      have HN3 := hide (fun w => HNum.out (Sl.ofL x3) 1000000006 w (HSz.out _ (by simp)))
      rw [Sl.toL_ofL] at HN1 HN2 HN3
      have hq : ((Sl.ofL x0).toList == [104, 101, 97, 100]) = decide (x0 = headL) := by
        rw [Go.ByteArray.toList_eq]
        by_cases h : x0 = headL
        · rw [decide_eq_true h, h]; rfl
        · rw [decide_eq_false h]; exact beq_eq_false_iff_ne.2 h
      have HGo : Hid (decide (x0 = headL) = true → numB x1 60 = true → numB x2 1000000 = true → numB x3 1000000006 = true → hdC [x0, x1, x2, x3] = 0 ∧ hdR [x0, x1, x2, x3] = ⟨Sl.valL x1, Sl.valL x2, Sl.valL x3⟩) := fun h1 h2 h3 h4 => by
        rw [h1, h2, h3, h4] at hok
        unfold hdC hdR
        rw [hok]
        exact ⟨rfl, rfl⟩
      have HNo : Hid ((decide (x0 = headL) = false ∨ numB x1 60 = false ∨ numB x2 1000000 = false ∨ numB x3 1000000006 = false) → hdC [x0, x1, x2, x3] = 1 ∧ hdR [x0, x1, x2, x3] = hd0) := fun h => hd_no (by
        rw [hok]
        rcases h with h | h | h | h <;> rw [h] <;> simp)
      have hn1 : numI x1 60 = if numB x1 60 = true then (Sl.valL x1 : Int) else -1 := rfl
      have hn2 : numI x2 1000000 = if numB x2 1000000 = true then (Sl.valL x2 : Int) else -1 := rfl
      have hn3 : numI x3 1000000006 = if numB x3 1000000006 = true then (Sl.valL x3 : Int) else -1 := rfl
      have hp1 : (0 : Int) ≤ (Sl.valL x1 : Int) := by omega
      have hp2 : (0 : Int) ≤ (Sl.valL x2 : Int) := by omega
      have hp3 : (0 : Int) ≤ (Sl.valL x3 : Int) := by omega
      clear hok HX1 HX4 HL4 HSz HNum h4
      generalize decide (x0 = headL) = d0 at *
      generalize numB x1 60 = b1 at *
      generalize numB x2 1000000 = b2 at *
      generalize numB x3 1000000006 = b3 at *
      generalize (Sl.valL x1 : Int) = i1 at *
      generalize (Sl.valL x2 : Int) = i2 at *
      generalize (Sl.valL x3 : Int) = i3 at *
      generalize numI x1 60 = m1 at *
      generalize numI x2 1000000 = m2 at *
      generalize numI x3 1000000006 = m3 at *
      generalize Sl.ofL x0 = y0 at *
      generalize Sl.ofL x1 = y1 at *
      generalize Sl.ofL x2 = y2 at *
      generalize Sl.ofL x3 = y3 at *
      have hway : (d0 = true ∧ b1 = true ∧ b2 = true ∧ b3 = true) ∨ d0 = false ∨ (d0 = true ∧ b1 = false) ∨ (d0 = true ∧ b1 = true ∧ b2 = false) ∨ (d0 = true ∧ b1 = true ∧ b2 = true ∧ b3 = false) := by
        cases d0 <;> cases b1 <;> cases b2 <;> cases b3 <;> simp
      change Hid (∀ w, Calls Tryz.prog 50 #[.string y1, .int .i64 60] w fun e w' => e = .returned (.int .i64 m1) ∧ w' = w) at HN1
      rcases hway with ⟨rfl, rfl, rfl, rfl⟩ | rfl | ⟨rfl, rfl⟩ | ⟨rfl, rfl, rfl⟩ | ⟨rfl, rfl, rfl, rfl⟩
      · rw [if_pos rfl] at hn1 hn2 hn3
        subst hn1; subst hn2; subst hn3
        have HG := hide (HGo.out rfl rfl rfl rfl)
        have k1 : ¬ m1 < 0 := by omega
        have k2 : ¬ m2 < 0 := by omega
        have k3 : ¬ m3 < 0 := by omega
        clear HGo HNo
        go_wp2_with fail
        refine (HN1.out _).mono ?_
        rintro e w2 ⟨rfl, rfl⟩
        go_wp2_with fail
        refine (HN2.out _).mono ?_
        rintro e w2 ⟨rfl, rfl⟩
        go_wp2_with fail
        refine (HN3.out _).mono ?_
        rintro e w2 ⟨rfl, rfl⟩
        go_wp2
        refine rhEnd rfl w.heap.size ⟨m1, m2, m3⟩ rfl (row_set3 HR1.out _ _ _) rfl ?_
        exact ⟨by rw [HG.out.1, HG.out.2]; rfl, below_set3 HB1.out (Nat.le_refl _) _ _ _⟩
      · have HG := hide (HNo.out (Or.inl rfl))
        clear HGo HNo hn1 hn2 hn3
        go_wp2_with fail
        refine (HN1.out _).mono ?_
        rintro e w2 ⟨rfl, rfl⟩
        go_wp2_with fail
        refine (HN2.out _).mono ?_
        rintro e w2 ⟨rfl, rfl⟩
        go_wp2_with fail
        refine (HN3.out _).mono ?_
        rintro e w2 ⟨rfl, rfl⟩
        go_wp2
        refine rhEnd rfl w.heap.size hd0 rfl (row_set3 HR1.out _ _ _) rfl ?_
        exact ⟨by rw [HG.out.1, HG.out.2]; rfl, below_set3 HB1.out (Nat.le_refl _) _ _ _⟩
      · have HG := hide (HNo.out (Or.inr (Or.inl rfl)))
        rw [if_neg (by decide)] at hn1
        have k1 : m1 < 0 := by omega
        clear HGo HNo hn1 hn2 hn3
        go_wp2_with fail
        refine (HN1.out _).mono ?_
        rintro e w2 ⟨rfl, rfl⟩
        go_wp2_with fail
        refine (HN2.out _).mono ?_
        rintro e w2 ⟨rfl, rfl⟩
        go_wp2_with fail
        refine (HN3.out _).mono ?_
        rintro e w2 ⟨rfl, rfl⟩
        go_wp2
        refine rhEnd rfl w.heap.size hd0 rfl (row_set3 HR1.out _ _ _) rfl ?_
        exact ⟨by rw [HG.out.1, HG.out.2]; rfl, below_set3 HB1.out (Nat.le_refl _) _ _ _⟩
      · have HG := hide (HNo.out (Or.inr (Or.inr (Or.inl rfl))))
        rw [if_pos rfl] at hn1
        rw [if_neg (by decide)] at hn2
        have k1 : ¬ m1 < 0 := by omega
        have k2 : m2 < 0 := by omega
        clear HGo HNo hn1 hn2 hn3
        go_wp2_with fail
        refine (HN1.out _).mono ?_
        rintro e w2 ⟨rfl, rfl⟩
        go_wp2_with fail
        refine (HN2.out _).mono ?_
        rintro e w2 ⟨rfl, rfl⟩
        go_wp2_with fail
        refine (HN3.out _).mono ?_
        rintro e w2 ⟨rfl, rfl⟩
        go_wp2
        refine rhEnd rfl w.heap.size hd0 rfl (row_set3 HR1.out _ _ _) rfl ?_
        exact ⟨by rw [HG.out.1, HG.out.2]; rfl, below_set3 HB1.out (Nat.le_refl _) _ _ _⟩
      · have HG := hide (HNo.out (Or.inr (Or.inr (Or.inr rfl))))
        rw [if_pos rfl] at hn1 hn2
        rw [if_neg (by decide)] at hn3
        have k1 : ¬ m1 < 0 := by omega
        have k2 : ¬ m2 < 0 := by omega
        have k3 : m3 < 0 := by omega
        clear HGo HNo hn1 hn2 hn3
        go_wp2_with fail
        refine (HN1.out _).mono ?_
        rintro e w2 ⟨rfl, rfl⟩
        go_wp2_with fail
        refine (HN2.out _).mono ?_
        rintro e w2 ⟨rfl, rfl⟩
        go_wp2_with fail
        refine (HN3.out _).mono ?_
        rintro e w2 ⟨rfl, rfl⟩
        go_wp2
        refine rhEnd rfl w.heap.size hd0 rfl (row_set3 HR1.out _ _ _) rfl ?_
        exact ⟨by rw [HG.out.1, HG.out.2]; rfl, below_set3 HB1.out (Nat.le_refl _) _ _ _⟩
    · obtain ⟨q1, q2⟩ := HL4.out h4
      have HQ1 := hide q1
      have HQ2 := hide q2
      have hn4 : ((ws.length : Int) != 4) = true := by rw [bne_iff_ne]; omega
      clear q1 q2 HL4 HX4 HX1 HSz HNum h4
      generalize ws.length = n at *
      go_wp2
      refine rhEnd rfl w.heap.size hd0 rfl (row_set3 HR1.out _ _ _) rfl ?_
      exact ⟨by rw [HQ1.out, HQ2.out]; rfl, below_set3 HB1.out (Nat.le_refl _) _ _ _⟩
  · rw [show openHC key s.data.toList = Sl.openE key s.data.toList from if_neg h0, show openHR key s.data.toList = hd0 from if_neg h0]
    have HO2 : Hid (∀ w, Calls Tryz.prog 49 #[.int .i64 key, .string s] w fun e w' => e = .returned (.tuple #[.slice none 0 0, .int .i64 (Sl.openE key s.data.toList : Int)]) ∧ Below w.heap.size w w') := fun w => (HU.out w).mono fun e w' ⟨hb, hp⟩ => by
      unfold UnsealPost at hp
      rw [if_neg h0] at hp
      exact ⟨hp, hb⟩
    have hcz : (0 : Int) < (Sl.openE key s.data.toList : Int) := by omega
    clear h0 HU HNum hs
    generalize (Sl.openE key s.data.toList : Int) = cz at *
    go_enter Tryz.func24, Tryz.ntmps24
    go_wp2_with fail
    refine (HO2.out _).mono ?_
    rintro e w1 ⟨rfl, hb⟩
    have HB1 : Hid (Below w.heap.size w w1) := HB0.out.trans (hb.mono HB0.out.size)
    have HR1 : Hid (w1.heap[w.heap.size]? = some (rhO hd0)) := (hb.block _ (row_lt HR0.out)).trans HR0.out
    obtain ⟨c0, c1, c2, z0, z1, z2⟩ := row_cells HR1.out
    dsimp only [hd0] at c0 c1 c2
    clear hb HB0 HR0
    go_wp2
    refine rhEnd rfl w.heap.size hd0 rfl (row_set3 HR1.out _ _ _) rfl ?_
    exact ⟨rfl, below_set3 HB1.out (Nat.le_refl _) _ _ _⟩
end Go.Proofs.YtemdnmnbecapbacGreatDoor

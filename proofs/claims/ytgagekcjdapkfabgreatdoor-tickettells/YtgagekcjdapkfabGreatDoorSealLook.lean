/-
  What the document's answer's LookAt and Unseal give: the words and the mark's number of a sealed text, or the number of the error that the document names; for every key and text.
-/
import Derived.Test.YtgagekcjdapkfabGreatDoorSealGlue
import Derived.Test.YtgagekcjdapkfabGreatDoorMarkRef
namespace Go.Proofs.YtgagekcjdapkfabGreatDoor
open Go.RowKit Go.Extern.Stop Go.Stop Go.Extern

/-- A text's pieces: its words and what stands last. -/
theorem pieces_look (l : List UInt8) : Sl.pieces l = Sl.lookW l ++ [Sl.lastP l] := by
  unfold Sl.lookW Sl.lastP
  rw [List.getLastD_eq_getLast?, List.getLast?_eq_some_getLast (Sl.pieces_ne l)]
  exact (List.dropLast_concat_getLast (Sl.pieces_ne l)).symm

/-- What LookAt answers. -/
def LookPost (l : List UInt8) (e : Ending) (w' : World) : Prop :=
  if Sl.lookE l = 0 then ∃ b cap, Texts w' b 0 ((Sl.lookW l).map Sl.ofL) ∧ (Sl.lookW l).length ≤ cap ∧ e = .returned (.tuple #[.slice (some ⟨b, 0, none⟩) (Sl.lookW l).length cap, .int .i64 (Sl.lookN l), .int .i64 0])
  else e = .returned (.tuple #[.slice none 0 0, .int .i64 0, .int .i64 (Sl.lookE l)])
theorem lookP_no (l : List UInt8) (e : Ending) (w' : World) (c : Nat) (hc : Sl.lookE l = c) (h : c ≠ 0) (he : e = .returned (.tuple #[.slice none 0 0, .int .i64 0, .int .i64 c])) : LookPost l e w' := by
  unfold LookPost
  rw [hc, if_neg h]
  exact he
theorem lookP_yes (l : List UInt8) (e : Ending) (w' : World) (hc : Sl.lookE l = 0) (b cap : Nat) (hx : Texts w' b 0 ((Sl.lookW l).map Sl.ofL)) (hcap : (Sl.lookW l).length ≤ cap) (he : e = .returned (.tuple #[.slice (some ⟨b, 0, none⟩) (Sl.lookW l).length cap, .int .i64 (Sl.lookN l), .int .i64 0])) : LookPost l e w' := by
  unfold LookPost
  rw [if_pos hc]
  exact ⟨b, cap, hx, hcap, he⟩

theorem lookE_bad (l : List UInt8) (h : l.length ≤ 4000) (hb : Sl.lookOk l = false) : Sl.lookE l = 1 := by
  unfold Sl.lookE
  rw [if_neg (by omega), hb]
  rfl
theorem lookOk_split (l : List UInt8) : Sl.lookOk l = (numB (Sl.lastP l) 1000000006 && Sl.wordsOk (Sl.lookW l)) := by
  unfold Sl.lookOk numB
  congr 2
  rw [decide_eq_decide]; omega

/-- The texts of words and one behind them. -/
theorem texts_split {w : World} {b : Nat} {ws : List (List UInt8)} {tl : List UInt8} (h : Texts w b 0 ((ws ++ [tl]).map Sl.ofL)) :
    (∀ j (hj : j < ws.length), w.cell? ⟨b, j, none⟩ = some (.string (Sl.ofL ws[j]))) ∧ w.cell? ⟨b, ws.length, none⟩ = some (.string (Sl.ofL tl)) ∧ Texts w b 0 (ws.map Sl.ofL) := by
  have hlen : ((ws ++ [tl]).map Sl.ofL).length = ws.length + 1 := by simp
  have h1 : ∀ j (hj : j < ws.length), w.cell? ⟨b, j, none⟩ = some (.string (Sl.ofL ws[j])) := fun j hj => by
    have := h j (by omega)
    rw [Nat.zero_add] at this
    rw [this, List.getElem_map, List.getElem_append_left hj]
  refine ⟨h1, ?_, fun j hj => ?_⟩
  · have := h ws.length (by omega)
    rw [Nat.zero_add] at this
    rw [this, List.getElem_map, List.getElem_append_right (Nat.le_refl _)]
    simp
  · rw [Nat.zero_add, h1 j (by simpa using hj), List.getElem_map]

set_option maxRecDepth 100000 in
set_option maxHeartbeats 2000000 in
theorem refLook_any (s : ByteArray) (w : World) (hs : s.size ≤ maxLen) :
    Calls Tryz.prog 19 #[.string s] w fun e w' => Below w.heap.size w w' ∧ LookPost s.data.toList e w' := by
  by_cases h4 : 4000 < s.size
  · have HE : Hid (Sl.lookE s.data.toList = 2) := by show _ = _; unfold Sl.lookE; rw [size_list, if_pos h4]
    unfold maxLen at hs
    go_enter Tryz.func19, Tryz.ntmps19
    go_wp2
    go_ret3
    exact ⟨Below.refl _ _, lookP_no _ _ _ 2 HE.out (by decide) rfl⟩
  · have HC := hide (refCut_any s w (by omega))
    have hlen : s.data.toList.length ≤ 4000 := by rw [size_list]; omega
    have HBad := hide (lookE_bad s.data.toList hlen)
    have HOk : Hid (Sl.lookOk s.data.toList = true → Sl.lookE s.data.toList = 0) := fun h => by unfold Sl.lookE; rw [if_neg (by omega), if_pos h]
    have HSp := hide (lookOk_split s.data.toList)
    have hp := pieces_look s.data.toList
    have HSz : Hid (∀ l ∈ Sl.pieces s.data.toList, (Sl.ofL l).size ≤ maxLen) := fun l hl => by
      have := pieces_part _ l hl
      rw [Sl.ofL_size]
      unfold maxLen; omega
    rw [hp] at HC HSz
    have HNv : Hid (Sl.lookN s.data.toList = Sl.valL (Sl.lastP s.data.toList)) := rfl
    have HLn : Hid ((Sl.lookW s.data.toList ++ [Sl.lastP s.data.toList]).length ≤ 4001) := by
      have := pieces_len s.data.toList
      rw [hp] at this
      show _ ≤ _
      omega
    clear hp hlen hs
    have HWs : Hid (Sl.lookW s.data.toList = Sl.lookW s.data.toList) := rfl
    generalize hl : s.data.toList = l at *
    clear hl HWs
    generalize hws : Sl.lookW l = ws at *
    generalize htl : Sl.lastP l = tl at *
    have HWs := hide hws
    have HTl := hide htl
    clear hws htl
    have hn1 : (ws ++ [tl]).length = ws.length + 1 := by simp
    rw [hn1] at HC HLn
    have hn2 : ws.length ≤ 4000 := by have := HLn.out; omega
    clear hn1 HLn
    go_enter Tryz.func19, Tryz.ntmps19
    go_wp2_with fail
    refine HC.out.mono ?_
    rintro e w1 ⟨b, cap, rfl, hcap, htx, hb⟩
    have HB := hide hb
    obtain ⟨hc1, hc2, hc3⟩ := texts_split htx
    have HC1 := hide hc1
    have HX := hide hc3
    clear hb htx hc1 hc3 HC
    by_cases hcnt : 1 ≤ ws.length ∧ ws.length ≤ 10
    · obtain ⟨hn3, hn4⟩ := hcnt
      have HNu := hide (fun w => refNumber_any (Sl.ofL tl) 1000000006 w (HSz.out tl (by simp)))
      rw [Sl.toL_ofL] at HNu
      cases hnb : numB tl 1000000006 with
      | false =>
        have HE : Hid (Sl.lookE l = 1) := HBad.out (by rw [HSp.out, hnb]; rfl)
        rw [numI_no _ _ hnb] at HNu
        clear hnb
        go_wp2_with fail
        refine (HNu.out _).mono ?_
        rintro e w2 ⟨rfl, rfl⟩
        go_wp2
        go_ret3
        exact ⟨HB.out, lookP_no _ _ _ 1 HE.out (by decide) rfl⟩
      | true =>
        have hv : numI tl 1000000006 = (Sl.valL tl : Int) := by unfold numI; rw [if_pos hnb]
        rw [hv] at HNu
        have HNB := hide hnb
        have HV : Hid ((Sl.lookN l : Int) = (Sl.valL tl : Int)) := by show _ = _; rw [HNv.out]
        have hv0 : (0 : Int) ≤ (Sl.valL tl : Int) := by omega
        clear hnb hv
        generalize (Sl.valL tl : Int) = v at *
        go_wp2_with fail
        refine (HNu.out _).mono ?_
        rintro e w2 ⟨rfl, rfl⟩
        clear HNu
        go_wp2
        go_loop [8] (fun i => ∃ k : Nat, k ≤ ws.length ∧ i = .int .i64 k ∧ Hid (∀ j (hj : j < ws.length), j < k → Sl.wordL ws[j] = true)) (fun i => ws.length - (intOf i).toNat)
        case atStart => exact ⟨0, Nat.zero_le _, rfl, fun j _ hj => absurd hj (Nat.not_lt_zero _)⟩
        case round =>
          obtain ⟨k, hk, rfl, A⟩ := hrel
          by_cases hlt : k < ws.length
          · have hcell := HC1.out k hlt
            have HW := hide (fun w => refWord_any (Sl.ofL ws[k]) w (HSz.out ws[k] (by simp)))
            rw [Sl.toL_ofL] at HW
            cases hwd : Sl.wordL ws[k] with
            | true =>
              rw [hwd] at HW
              have HWD := hide hwd
              clear hwd
              generalize Sl.ofL ws[k] = y at *
              go_wp2_with fail
              refine (HW.out _).mono ?_
              rintro e w3 ⟨rfl, rfl⟩
              go_wp2
              go_round
              case rel =>
                refine ⟨k + 1, by omega, by go_num, (show Hid _ from fun j hj hjk => ?_)⟩
                by_cases e : j = k
                · subst e; exact HWD.out
                · exact A.out j hj (by omega)
              case measure => simp [intOf]; omega
            | false =>
              rw [hwd] at HW
              have HE : Hid (Sl.lookE l = 1) := HBad.out (by
                rw [HSp.out, HNB.out]
                have : ws.all Sl.wordL = false := by
                  rw [List.all_eq_false]
                  exact ⟨ws[k], List.getElem_mem _, by rw [hwd]; decide⟩
                unfold Sl.wordsOk
                rw [this, Bool.and_false]
                rfl)
              clear hwd
              generalize Sl.ofL ws[k] = y at *
              go_wp2_with fail
              refine (HW.out _).mono ?_
              rintro e w3 ⟨rfl, rfl⟩
              go_wp2
              go_ret3
              exact ⟨HB.out, lookP_no _ _ _ 1 HE.out (by decide) rfl⟩
          · have hkk : k = ws.length := by omega
            subst hkk
            have HE : Hid (Sl.lookE l = 0) := HOk.out (by
              rw [HSp.out, HNB.out]
              unfold Sl.wordsOk
              rw [decide_eq_true (And.intro hn3 hn4), show ws.all Sl.wordL = true by
                rw [List.all_eq_true]
                intro x hx
                obtain ⟨j, hj, rfl⟩ := List.getElem_of_mem hx
                exact A.out j hj hj]
              rfl)
            go_wp2
            go_ret3
            refine ⟨HB.out, lookP_yes _ _ _ HE.out b cap (by rw [HWs.out]; exact HX.out) (by rw [HWs.out]; omega) ?_⟩
            rw [HWs.out, HV.out]
            rfl
    · have HE : Hid (Sl.lookE l = 1) := HBad.out (by
        rw [HSp.out]
        unfold Sl.wordsOk
        rw [decide_eq_false hcnt]
        simp)
      by_cases h0 : ws.length < 1
      · go_wp2
        go_ret3
        exact ⟨HB.out, lookP_no _ _ _ 1 HE.out (by decide) rfl⟩
      · have h11 : 10 < ws.length := by omega
        clear hcnt
        go_wp2
        go_ret3
        exact ⟨HB.out, lookP_no _ _ _ 1 HE.out (by decide) rfl⟩
end Go.Proofs.YtgagekcjdapkfabGreatDoor

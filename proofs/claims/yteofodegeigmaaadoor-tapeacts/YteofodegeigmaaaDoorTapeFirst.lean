/-
  What package tape's first gives of bytes: the record at their beginning and true, or false.
-/
import Derived.Test.YteofodegeigmaaaDoorTapeApp
import Derived.Test.YteofodegeigmaaaDoorFloorReadOne
namespace Go.Proofs.YteofodegeigmaaaDoor
open Go Go.RowKit Go.Extern.Stop Go.Stop Go.Extern Go.Proofs

theorem pref_take {p s : List UInt8} : p <+: s ↔ p.length ≤ s.length ∧ s.take p.length = p := by
  constructor
  · rintro ⟨r, rfl⟩
    exact ⟨by simp, List.take_left⟩
  · rintro ⟨_, h⟩
    exact ⟨s.drop p.length, by conv => rhs; rw [← List.take_append_drop p.length s, h]⟩
theorem extract_take (s : ByteArray) (k : Nat) : (s.extract 0 k).data.toList = s.data.toList.take k := by rw [Lib.extract_data]; simp
theorem extract_drop (s : ByteArray) (k : Nat) : (s.extract k s.size).data.toList = s.data.toList.drop k := by
  rw [Lib.extract_data]
  exact List.take_of_length_le (by rw [List.length_drop, size_list]; omega)
set_option maxRecDepth 100000 in
theorem prefLite_any (s p : ByteArray) (w : World) :
    Calls Tryd.prog 38 #[.string s, .string p] w fun e w' => e = .returned (.bool (decide (p.data.toList <+: s.data.toList))) ∧ ∃ q, w' = w.drewN q := by
  have es : s.data.toList.length = s.size := by simp
  have ep : p.data.toList.length = p.size := by simp
  by_cases hl : s.size < p.size
  · have e1 : decide (p.data.toList <+: s.data.toList) = false := decide_eq_false fun h => by have := (pref_take.1 h).1; omega
    have hz : ¬ (p.size : Int) ≤ (s.size : Int) := by omega
    have hz2 : (s.size : Int) < (p.size : Int) := by omega
    rw [e1]
    clear e1 es ep hl
    go_enter Tryd.func38, Tryd.ntmps38
    go_wp2
    first
      | (go_ret; exact ⟨rfl, 0, rfl⟩)
      | (go_quiet (fail); go_wp2; go_ret; exact ⟨rfl, _, rfl⟩)
  · have hb : ((s.extract 0 p.size).toList == p.toList) = decide (p.data.toList <+: s.data.toList) := by
      rw [Bool.eq_iff_iff, beq_iff_eq, decide_eq_true_iff, pref_take, ep, es, ← extract_take, Lib.toList_data, Lib.toList_data]
      constructor
      · intro h
        exact ⟨by omega, h⟩
      · rintro ⟨_, h⟩
        exact h
    have hz : (p.size : Int) ≤ (s.size : Int) := by omega
    have hz2 : ¬ (s.size : Int) < (p.size : Int) := by omega
    rw [← hb]
    clear hb es ep hl
    go_enter Tryd.func38, Tryd.ntmps38
    go_wp2
    first
      | (go_ret; exact ⟨rfl, 0, rfl⟩)
      | (go_quiet (fail); go_wp2; go_ret; exact ⟨rfl, _, rfl⟩)
set_option maxRecDepth 100000 in
theorem pref_any (s p : ByteArray) (w : World) :
    Calls Tryd.prog 29 #[.string s, .string p] w fun e w' => e = .returned (.bool (decide (p.data.toList <+: s.data.toList))) ∧ ∃ q, w' = w.drewN q := by
  have H := hide (prefLite_any s p w)
  generalize decide (p.data.toList <+: s.data.toList) = b at *
  go_enter Tryd.func29, Tryd.ntmps29
  go_wp2_with fail
  refine H.out.mono ?_
  rintro e w1 ⟨rfl, q, rfl⟩
  go_wp2
  go_ret
  exact ⟨rfl, q, rfl⟩
/-- A text's digits ahead of its colon, and what is behind it. -/
def digB' (b : List UInt8) : List UInt8 := if (58 : UInt8) ∈ b then aheadB 58 b else b
def rstB (b : List UInt8) : List UInt8 := if (58 : UInt8) ∈ b then behindB 58 b else []
theorem cutV_all (s : ByteArray) : ∃ ok, cutV 58 s = #[.string (txt (digB' s.data.toList)), .string (txt (rstB s.data.toList)), .bool ok] := by
  unfold digB' rstB
  by_cases h : (58 : UInt8) ∈ s.data.toList
  · rw [cutV_yes h, if_pos h, if_pos h]
    exact ⟨_, rfl⟩
  · rw [cutV_no h, if_neg h, if_neg h, txt_back]
    exact ⟨_, rfl⟩
theorem dig_split (b : List UInt8) : ((58 : UInt8) ∉ b ∧ digB' b = b ∧ rstB b = []) ∨ (b = digB' b ++ 58 :: rstB b ∧ (58 : UInt8) ∉ digB' b) := by
  rcases first_cut 58 b with h | ⟨a, t, rfl, ha⟩
  · exact Or.inl ⟨h, if_neg h, if_neg h⟩
  · right
    obtain ⟨y1, y2⟩ := ahead_cut 58 t a ha
    unfold digB' rstB
    rw [if_pos (by simp), if_pos (by simp), y1, y2]
    exact ⟨rfl, ha⟩
theorem dig_le (b : List UInt8) : (digB' b).length ≤ b.length ∧ (rstB b).length ≤ b.length := by
  rcases dig_split b with ⟨_, h1, h2⟩ | ⟨h, _⟩
  · rw [h1, h2]; exact ⟨Nat.le_refl _, Nat.zero_le _⟩
  · have := congrArg List.length h
    rw [List.length_append, List.length_cons] at this
    omega
theorem numB_iff (l : List UInt8) : numB l 4000 = true ↔ Sl.numOk l = true ∧ Sl.valL l ≤ 4000 := by
  unfold numB
  rw [Bool.and_eq_true, decide_eq_true_iff]
  exact and_congr_right fun _ => by omega
theorem first_no {b : List UInt8} (h : numB (digB' b) 4000 = false ∨ (rstB b).length < Sl.valL (digB' b)) : oneR b = none := by
  rcases dig_split b with ⟨h1, _⟩ | ⟨h1, h2⟩
  · exact one_none h1
  · rw [h1, one_form h2, if_neg]
    rintro ⟨g1, g2, g3, _⟩
    rcases h with h | h
    · have := (numB_iff (digB' b)).2 ⟨g1, g2⟩
      rw [h] at this
      cases this
    · omega
theorem first_yes {b : List UInt8} (h1 : numB (digB' b) 4000 = true) (h2 : Sl.valL (digB' b) ≤ (rstB b).length) :
    if decide (recL ((rstB b).take (Sl.valL (digB' b))) <+: b) = true then ∃ t, oneR b = some ((rstB b).take (Sl.valL (digB' b)), t) else oneR b = none := by
  obtain ⟨g1, g2⟩ := (numB_iff _).1 h1
  rcases dig_split b with ⟨k1, k2, k3⟩ | ⟨k1, k2⟩
  · rw [if_neg]
    · exact one_none k1
    · rw [decide_eq_true_iff]
      rintro ⟨r, hr⟩
      apply k1
      rw [← hr]
      unfold recL
      simp
  · have hp := rec_prefix (a := digB' b) (t := rstB b) g1 h2
    rw [← k1] at hp
    have hf : oneR b = oneR (digB' b ++ 58 :: rstB b) := congrArg oneR k1
    rw [hf, one_form k2]
    by_cases hd : recL ((rstB b).take (Sl.valL (digB' b))) <+: b
    · rw [if_pos (decide_eq_true hd)]
      obtain ⟨q1, q2⟩ := hp.1 hd
      exact ⟨_, if_pos ⟨g1, g2, q1, q2⟩⟩
    · rw [if_neg (by simpa using hd)]
      refine if_neg ?_
      rintro ⟨_, _, q1, q2⟩
      exact hd (hp.2 ⟨q1, q2⟩)
/-- What first gives. -/
def FirstE (b : List UInt8) (e : Ending) : Prop := ∃ x ok, e = .returned (.tuple #[.string x, .bool ok]) ∧ if ok = true then ∃ t, oneR b = some (x.data.toList, t) else oneR b = none
set_option maxRecDepth 100000 in
set_option maxHeartbeats 2000000 in
theorem first_any (s : ByteArray) (w : World) (hT : Tab10 w) (hs : s.size ≤ 262144) :
    Calls Tryd.prog 22 #[.string s] w fun e w' => FirstE s.data.toList e ∧ Below w.heap.size w w' := by
  have es : s.data.toList.length = s.size := by simp
  obtain ⟨ld, lr⟩ := dig_le s.data.toList
  obtain ⟨ok0, hcv⟩ := cutV_all s
  have HC := hide (cut_any s w (by unfold maxLen; omega))
  rw [hcv] at HC
  clear hcv
  have HN := hide (fun w => number_any (txt (digB' s.data.toList)) 4000 w (by rw [txt_size]; unfold maxLen; omega))
  rw [txt_list] at HN
  have hrz : (txt (rstB s.data.toList)).size = (rstB s.data.toList).length := txt_size _
  cases hn : numB (digB' s.data.toList) 4000 with
  | false =>
    have HF : Hid (∀ x, FirstE s.data.toList (.returned (.tuple #[.string x, .bool false]))) := fun x => ⟨x, false, rfl, first_no (Or.inl hn)⟩
    rw [hn] at HN
    clear hn ld lr hs hT hrz es
    generalize numV (digB' s.data.toList) 4000 = vn at *
    generalize txt (rstB s.data.toList) = rs at *
    generalize txt (digB' s.data.toList) = dg at *
    go_enter Tryd.func22, Tryd.ntmps22
    go_wp2_with fail
    refine HC.out.mono ?_
    rintro e w1 ⟨rfl, q, rfl⟩
    go_wp2_with fail
    refine (HN.out _).mono ?_
    rintro e w2 ⟨rfl, hb⟩
    have HB : Hid (Below w.heap.size w w2) := (below_drewN (Below.refl _ _) q).trans hb
    clear hb
    go_wp2
    go_ret2
    exact ⟨HF.out _, HB.out⟩
  | true =>
    have hv : numV (digB' s.data.toList) 4000 = (Sl.valL (digB' s.data.toList) : Int) := by unfold numV; rw [if_pos hn]
    rw [hv, hn] at HN
    by_cases hl : (rstB s.data.toList).length < Sl.valL (digB' s.data.toList)
    · have HF : Hid (∀ x, FirstE s.data.toList (.returned (.tuple #[.string x, .bool false]))) := fun x => ⟨x, false, rfl, first_no (Or.inr hl)⟩
      have hq : ((txt (rstB s.data.toList)).size : Int) < (Sl.valL (digB' s.data.toList) : Int) := by rw [hrz]; omega
      clear hn ld lr hs hT hrz es hv hl
      generalize Sl.valL (digB' s.data.toList) = vn at *
      generalize txt (rstB s.data.toList) = rs at *
      generalize txt (digB' s.data.toList) = dg at *
      go_enter Tryd.func22, Tryd.ntmps22
      go_wp2_with fail
      refine HC.out.mono ?_
      rintro e w1 ⟨rfl, q, rfl⟩
      go_wp2_with fail
      refine (HN.out _).mono ?_
      rintro e w2 ⟨rfl, hb⟩
      have HB : Hid (Below w.heap.size w w2) := (below_drewN (Below.refl _ _) q).trans hb
      clear hb
      go_wp2
      go_ret2
      exact ⟨HF.out _, HB.out⟩
    · have h4 := ((numB_iff _).1 hn).2
      have hq : ¬ ((txt (rstB s.data.toList)).size : Int) < (Sl.valL (digB' s.data.toList) : Int) := by rw [hrz]; omega
      have hq2 : (Sl.valL (digB' s.data.toList) : Int) ≤ ((txt (rstB s.data.toList)).size : Int) := by omega
      have hx : ((txt (rstB s.data.toList)).extract 0 (Sl.valL (digB' s.data.toList))).data.toList = (rstB s.data.toList).take (Sl.valL (digB' s.data.toList)) := by rw [extract_take, txt_list]
      have hxs : ((txt (rstB s.data.toList)).extract 0 (Sl.valL (digB' s.data.toList))).size ≤ 4000 := by
        rw [← size_list, hx, List.length_take]
        omega
      have hy := first_yes hn (by omega)
      rw [← hx] at hy
      have HT := hide (fun (w' : World) (hb : Below w.heap.size w w') => tab_below hT hb)
      have HREC := hide (fun w' hT' => recT_any ((txt (rstB s.data.toList)).extract 0 (Sl.valL (digB' s.data.toList))) w' hT' hxs)
      have HP := hide (fun w' => pref_any s (txt (recL ((txt (rstB s.data.toList)).extract 0 (Sl.valL (digB' s.data.toList))).data.toList)) w')
      rw [txt_list] at HP
      have HF : Hid (FirstE s.data.toList (.returned (.tuple #[.string ((txt (rstB s.data.toList)).extract 0 (Sl.valL (digB' s.data.toList))), .bool (decide (recL ((txt (rstB s.data.toList)).extract 0 (Sl.valL (digB' s.data.toList))).data.toList <+: s.data.toList))]))) := ⟨_, _, rfl, hy⟩
      clear hn ld lr hs hT hrz es hv hl hy hx hxs
      generalize decide (recL ((txt (rstB s.data.toList)).extract 0 (Sl.valL (digB' s.data.toList))).data.toList <+: s.data.toList) = dd at *
      generalize txt (recL ((txt (rstB s.data.toList)).extract 0 (Sl.valL (digB' s.data.toList))).data.toList) = rc at *
      generalize Sl.valL (digB' s.data.toList) = vn at *
      generalize txt (rstB s.data.toList) = rs at *
      generalize txt (digB' s.data.toList) = dg at *
      have h0 : (0 : Int) ≤ (vn : Int) := by omega
      go_enter Tryd.func22, Tryd.ntmps22
      go_wp2_with fail
      refine HC.out.mono ?_
      rintro e w1 ⟨rfl, q, rfl⟩
      go_wp2_with fail
      refine (HN.out _).mono ?_
      rintro e w2 ⟨rfl, hb⟩
      have HB : Hid (Below w.heap.size w w2) := (below_drewN (Below.refl _ _) q).trans hb
      clear hb
      go_wp2_with fail
      refine (HREC.out _ (HT.out _ HB.out)).mono ?_
      rintro e w3 ⟨rfl, hb⟩
      have HB3 : Hid (Below w.heap.size w w3) := HB.out.trans (hb.mono HB.out.size)
      clear hb
      go_wp2_with fail
      refine (HP.out _).mono ?_
      rintro e w4 ⟨rfl, q2, rfl⟩
      go_wp2
      go_ret2
      exact ⟨HF.out, below_drewN HB3.out q2⟩
end Go.Proofs.YteofodegeigmaaaDoor

/-
  One floor's text by its bytes: where its colon is, what is ahead of it and behind; and what is read of pieces, one more at a time.
-/
import Derived.Test.YtgkkffcbneabkabGreatDoorFloorGlue
namespace Go.Proofs.YtgkkffcbneabkabGreatDoor
open Go

theorem no_colon (p : ByteArray) (h : ∀ m (hm : m < p.size), p[m] ≠ 58) : (58 : UInt8) ∉ p.data.toList := fun hx => by
  obtain ⟨j, hj, e⟩ := List.getElem_of_mem hx
  exact h j (by rw [size_list] at hj; exact hj) e
theorem at_colon (p : ByteArray) (j : Nat) (hj : j < p.size) (h : p[j] = 58) (hb : ∀ m (hm : m < p.size), m < j → p[m] ≠ 58) :
    (58 : UInt8) ∈ p.data.toList ∧ txt (aheadB 58 p.data.toList) = p.extract 0 j ∧ behindB 58 p.data.toList = (p.extract (j + 1) p.size).data.toList := by
  have hl : j < p.data.toList.length := by rw [size_list]; exact hj
  have he : p.data.toList = p.data.toList.take j ++ 58 :: p.data.toList.drop (j + 1) := by
    have h2 : p.data.toList[j] = 58 := h
    conv => lhs; rw [← List.take_append_drop j p.data.toList, List.drop_eq_getElem_cons hl, h2]
  have hn : (58 : UInt8) ∉ p.data.toList.take j := by
    intro hm
    obtain ⟨m, hm1, hm2⟩ := List.getElem_of_mem hm
    rw [List.length_take] at hm1
    rw [List.getElem_take] at hm2
    exact hb m (by omega) (by omega) hm2
  obtain ⟨e1, e2⟩ := ahead_cut 58 (p.data.toList.drop (j + 1)) (p.data.toList.take j) hn
  rw [← he] at e1 e2
  refine ⟨by rw [he]; simp, ?_, ?_⟩
  · refine Sl.ba_ext ?_
    rw [txt_list, e1, extract_listC, List.drop_zero]
  · rw [e2, extract_listC, List.take_of_length_le (by rw [size_list]; exact Nat.le_refl _)]
theorem numI_most (l : List UInt8) : numI l 9999999999 = if Sl.numOk l = true then (Sl.valL l : Int) else -1 := by
  unfold numI numB
  by_cases h : Sl.numOk l = true
  · have h2 := (Sl.numOk_iff l).1 h
    have := Sl.valL_lt l h2.2.1 h2.1.2
    rw [h, if_pos (by simp; omega), if_pos rfl]
  · rw [if_neg h, if_neg (by simp [h])]
theorem readOne_none (p : List UInt8) (h : (58 : UInt8) ∉ p) : readOneL p = none := if_neg h
theorem readOne_at (p : ByteArray) (j : Nat) (hj : j < p.size) (h : p[j] = 58) (hb : ∀ m (hm : m < p.size), m < j → p[m] ≠ 58) :
    (numI (p.extract (j + 1) p.size).data.toList 9999999999 < 0 → readOneL p.data.toList = none) ∧
    (¬ numI (p.extract (j + 1) p.size).data.toList 9999999999 < 0 → readOneL p.data.toList = some ⟨p.extract 0 j, numI (p.extract (j + 1) p.size).data.toList 9999999999⟩) := by
  obtain ⟨h1, h2, h3⟩ := at_colon p j hj h hb
  unfold readOneL numAny
  rw [if_pos h1, h2, h3, numI_most]
  by_cases hn : Sl.numOk (p.extract (j + 1) p.size).data.toList = true
  · rw [if_pos hn, if_pos hn]
    exact ⟨fun e => by omega, fun _ => rfl⟩
  · rw [if_neg hn, if_neg hn]
    exact ⟨fun _ => rfl, fun e => absurd (show (-1 : Int) < 0 by decide) e⟩
theorem read_step (ps : List (List UInt8)) (k : Nat) (hk : k < ps.length) (o : List Fl) (h : readAllL (ps.take k) = some o) :
    (readOneL ps[k] = none → readAllL ps = none) ∧ (∀ f, readOneL ps[k] = some f → readAllL (ps.take (k + 1)) = some (o ++ [f])) := by
  refine ⟨fun e => ?_, fun f e => ?_⟩
  · rw [← List.take_append_drop k ps, List.drop_eq_getElem_cons hk, readAll_append, h, readAllL_cons, e]
    rfl
  · rw [List.take_succ_eq_append_getElem hk, readAll_append, h, readAllL_cons, e]
    rfl
theorem readC_none (s : List UInt8) (hd : s ≠ [45]) (h : readAllL (cutB 44 s) = none) : readC s = (1, -1) ∧ readR s = [] := by
  have e : readL s = none := by unfold readL; rw [if_neg hd]; exact h
  exact ⟨by unfold readC; rw [e], by unfold readR; rw [e]⟩
theorem readC_some (s : List UInt8) (hd : s ≠ [45]) (r : List Fl) (h : readAllL (cutB 44 s) = some r) : readC s = checkL r ∧ readR s = if (checkL r).1 = 0 then r else [] := by
  have e : readL s = some r := by unfold readL; rw [if_neg hd]; exact h
  exact ⟨by unfold readC; rw [e], by unfold readR; rw [e]⟩
end Go.Proofs.YtgkkffcbneabkabGreatDoor

/-
  What the document's answer's Flush of a realm gives, and what it leaves.
-/
import Derived.Test.YtabpnjchocgakaaGreatDoorRealmRef4
namespace Go.Proofs.YtabpnjchocgakaaGreatDoor
open Go.RowKit Go.Extern.Stop Go.Stop Go.Extern Go.Proofs Go.Maps
theorem topE_take (L : List Per) (k : Nat) (hk : k < L.length) : topE (L.take (k + 1)) = if topE (L.take k) < L[k].epoch then L[k].epoch else topE (L.take k) := by
 unfold topE
 rw [List.take_succ_eq_append_getElem hk, List.foldl_append]
 rfl
def mixE (L : List Per) (n : Int) (k : Nat) : List Per := (allE L n).take k ++ L.drop k
theorem mix_zero (L : List Per) (n : Int) : mixE L n 0 = L := by simp [mixE]
theorem mix_all (L : List Per) (n : Int) : mixE L n L.length = allE L n := by
 unfold mixE allE
 rw [List.drop_length, List.append_nil, List.take_of_length_le (by simp)]
theorem mix_len (L : List Per) (n : Int) (k : Nat) (hk : k ≤ L.length) : (mixE L n k).length = L.length := by
 unfold mixE allE
 rw [List.length_append, List.length_take, List.length_drop, List.length_map]
 omega
theorem mix_at (L : List Per) (n : Int) (k : Nat) (hk : k < L.length) : (mixE L n k)[k]? = some L[k] := by
 have hl : ((allE L n).take k).length = k := by rw [List.length_take, allE, List.length_map]; omega
 unfold mixE
 rw [List.getElem?_append_right (by omega), hl, Nat.sub_self, List.getElem?_drop, Nat.add_zero, List.getElem?_eq_getElem hk]
theorem mix_step (L : List Per) (n : Int) (k : Nat) (hk : k < L.length) : (mixE L n k).set k { L[k] with epoch := n } = mixE L n (k + 1) := by
 have hl : ((allE L n).take k).length = k := by rw [List.length_take, allE, List.length_map]; omega
 unfold mixE
 rw [List.set_append_right _ _ (by omega), hl, Nat.sub_self, List.drop_eq_getElem_cons hk, List.set_cons_zero, List.take_succ_eq_append_getElem (by rw [allE, List.length_map]; exact hk), List.append_assoc]
 congr 2
 simp [allE]
theorem mix_set {B : Nat} {w : World} {bb g cap : Nat} {L : List Per} {n : Int} {k : Nat} (h : RefBookB B w bb (.slice (some ⟨g, 0, none⟩) L.length cap) (mixE L n k)) (hk : k < L.length) : RefBookB B (w.setCell ⟨g, k * 4 + 2, none⟩ (.int .i64 n)) bb (.slice (some ⟨g, 0, none⟩) L.length cap) (mixE L n (k + 1)) := by
 have hl := mix_len L n k (Nat.le_of_lt hk)
 have h2 : w.ownsRow B 46 4 (.slice (some ⟨g, 0, none⟩) (mixE L n k).length cap) (mixE L n k).length (cellsP (mixE L n k)) := by
  have := h.2
  rw [hl] at this ⊢
  exact this
 obtain ⟨hk', he⟩ := List.getElem?_eq_some_iff.1 (mix_at L n k hk)
 have h3 := own_set h2 k 2 hk' (by decide) (.int .i64 n) { L[k] with epoch := n } (by rw [he]; rfl)
 rw [mix_step L n k hk, hl] at h3
 refine ⟨?_, ?_⟩
 ·
  rw [heap_setCell_other w ⟨g, k * 4 + 2, none⟩ bb _ (show bb ≠ g from book_ne h.1 h2)]
  exact h.1
 ·
  rw [mix_len L n (k + 1) hk]
  exact h3
set_option maxRecDepth 100000 in
set_option maxHeartbeats 8000000 in
theorem refFlush_any {B : Nat} (rb bb : Nat) (v lv : Value) (r : Rm) (w : World) (h : RefRm B w rb bb v lv r) (hg : GoodR r) :
  Calls Tryz.prog 43 #[.pointer (some ⟨rb, 0, none⟩)] w fun e w' => e = .returned (.tuple #[.int .i64 (numC r.fluC (topE r.b + 1)), .int .i64 (r.fluC : Int)]) ∧ EntPost B w rb r.fluR w' := by
 obtain ⟨_, _, _, _, c4, _⟩ := rm_cells h.row
 have HH := hide h
 have HC := hide (refCopyB_any bb v r.b w h.book h.nil (Nat.le_trans hg.book.few (by decide)))
 have HE := hide (fun b2 v2 (w2 : World) (hb : Below w.heap.size w w2) (hB : RefBookB B w2 b2 v2 (allE r.b (topE r.b + 1))) hv hb2 => refEnter_any rb bb b2 v lv v2 r (allE r.b (topE r.b + 1)) starB (topE r.b + 1) w2 (h.below hb) hB hv hb2 hg (by decide))
 have HBs : Hid (B ≤ w.heap.size) := h.base
 have HVC : Hid (r.fluC = if 1073741824 ≤ topE r.b then 2 else r.entC starB (topE r.b + 1)) := rfl
 have HVR : Hid (r.fluR = if 1073741824 ≤ topE r.b then r else r.entR (allE r.b (topE r.b + 1)) starB (topE r.b + 1)) := rfl
 have HTop : Hid (∀ k, 0 ≤ topE (r.b.take k)) := fun k => (top_ge _).1
 have HTk : Hid (∀ k, topE (r.b.take k) ≤ 1073741824) := fun k => by
  have key : ∀ (L : List Per) (a : Int), a ≤ 1073741824 → (∀ p ∈ L, p.epoch ≤ 1073741824) → L.foldl (fun a p => if a < p.epoch then p.epoch else a) a ≤ 1073741824 := by
   intro L
   induction L with
   | nil => exact fun a ha _ => ha
   | cons q L ih =>
    intro a ha hq
    refine ih _ ?_ (fun p hp => hq p (by simp [hp]))
    have := hq q (by simp)
    show (if a < q.epoch then q.epoch else a) ≤ _
    split <;> omega
  refine key _ 0 (by decide) fun p hp => ?_
  exact (err_zero.1 (hg.book.fine p (List.mem_of_mem_take hp))).2.2.2
 have hfew : r.b.length ≤ 20 := hg.book.few
 clear h hg
 generalize r.b = L at *
 generalize r.entR (allE L (topE L + 1)) starB (topE L + 1) = r3 at *
 generalize r.entC starB (topE L + 1) = ec at *
 generalize r.fluC = rc at *
 generalize r.fluR = r2 at *
 obtain ⟨nm, hnm⟩ : ∃ nm, nm = numC rc (topE L + 1) := ⟨_, rfl⟩
 rw [← hnm]
 have HNum := hide hnm
 clear hnm
 go_enter Tryz.func43, Tryz.ntmps43
 go_wp2_with fail
 refine HC.out.mono ?_
 rintro e w1 ⟨b2, v2, rfl, hb2, hB, hn, hb⟩
 have HB1 := hide hB
 have HN1 := hide hn
 have HW1 := hide hb
 have Hb2 := hide hb2
 obtain ⟨ad, cap, rfl⟩ := own_shapeR hB.2
 have q0 : w1.cell? ⟨b2, 0, none⟩ = some (.slice ad L.length cap) := cell_of_row w1 b2 0 _ _ _ hB.1
 have HRead : Hid (∀ (k : Nat) (p : Per), L[k]? = some p → ∃ g, ad = some ⟨g, 0, none⟩ ∧ L.length ≤ cap ∧ w1.cell? ⟨g, k * 4 + 2, none⟩ = some (.int .i64 p.epoch)) := fun k p hp => by
  obtain ⟨hk, rfl⟩ := List.getElem?_eq_some_iff.1 hp
  obtain ⟨g, cap', e, hc, _, hcl⟩ := owned_at hB.2 (fun e => by subst e; cases hk)
  injection e with e1 _ e3
  subst e3
  exact ⟨g, e1, hc, (hcl k hk).2.2.1⟩
 clear hB hn hb hb2 HC c4
 generalize hm : L.length = m at *
 have HM := hide hm
 clear hm
 go_wp2
 go_loop [5, 6] (fun s5 s6 => ∃ k : Nat, k ≤ m ∧ s6 = .int .i64 k ∧ s5 = .int .i64 (topE (L.take k))) (fun _ s6 => m - (intOf s6).toNat)
 case atStart => exact ⟨0, Nat.zero_le _, rfl, rfl⟩
 case round =>
  obtain ⟨k, hk, rfl, rfl⟩ := hrel
  by_cases hlt : k < m
  ·
   have hkl : k < L.length := by rw [HM.out]; exact hlt
   have hltz : (k : Int) < (m : Int) := by omega
   obtain ⟨g, rfl, hcap, q2⟩ := HRead.out k L[k] (List.getElem?_eq_getElem hkl)
   have HSt := hide (topE_take L k hkl)
   by_cases hgt : topE (L.take k) < L[k].epoch
   ·
    rw [if_pos hgt] at HSt
    generalize topE (L.take k) = tk at *
    generalize L[k].epoch = ep at *
    go_wp2
    go_round
    case rel => exact ⟨k + 1, by omega, by go_num, by rw [HSt.out]⟩
    case measure => simp [intOf]; omega
   ·
    rw [if_neg hgt] at HSt
    generalize topE (L.take k) = tk at *
    generalize L[k].epoch = ep at *
    go_wp2
    go_round
    case rel => exact ⟨k + 1, by omega, by go_num, by rw [HSt.out]⟩
    case measure => simp [intOf]; omega
  ·
   obtain rfl : k = m := by omega
   have hTE : topE (L.take k) = topE L := by rw [← HM.out, List.take_length]
   have hT1 := HTk.out k
   have hT0 := HTop.out k
   rw [hTE] at hT1 hT0 ⊢
   have hkk : ¬ (k : Int) < (k : Int) := by omega
   clear hTE hlt hk HTk HTop HRead
   by_cases hmx : 1073741824 ≤ topE L
   ·
    rw [if_pos hmx] at HVC HVR
    have HNm : Hid (nm = 0) := by show _ = _; rw [HNum.out, HVC.out]; rfl
    clear HNum
    generalize topE L = tp at *
    go_wp2
    go_ret2
    exact ⟨by rw [HNm.out, HVC.out]; rfl, by rw [HVR.out]; exact EntPost.same HH.out HW1.out⟩
   ·
    rw [if_neg hmx] at HVC HVR
    generalize htp : topE L = tp at *
    clear htp
    have hw1 : IntKind.i64.wrap (tp + 1) = tp + 1 := by rw [IntKind.wrap_i64]; omega
    have HX0 : Hid (RefBookB w.heap.size w1 b2 (.slice ad k cap) (mixE L (tp + 1) 0)) := by show RefBookB _ _ _ _ _; rw [mix_zero]; exact HB1.out
    go_wp2
    go_loopw [7] (fun s7 wr => ∃ i : Nat, i ≤ k ∧ s7 = .int .i64 i ∧ Hid (RefBookB w.heap.size wr b2 (.slice ad k cap) (mixE L (tp + 1) i)) ∧ Hid (Below w.heap.size w wr)) (fun s7 _ => k - (intOf s7).toNat)
    case atStart => exact ⟨0, Nat.zero_le _, rfl, HX0, HW1⟩
    case round =>
     clear q0 HX0 HW1 HB1
     obtain ⟨i, hi, rfl, HX, HW⟩ := hrel
     have q0 : wr.cell? ⟨b2, 0, none⟩ = some (.slice ad k cap) := cell_of_row wr b2 0 _ _ _ HX.out.1
     by_cases hlt : i < k
     ·
      have hltz : (i : Int) < (k : Int) := by omega
      have hil : i < L.length := by rw [HM.out]; exact hlt
      have hml := mix_len L (tp + 1) i (Nat.le_of_lt hil)
      obtain ⟨g, cap', e, hc, hbg, hcl⟩ := owned_at HX.out.2 (fun e => by rw [e] at hml; simp at hml; omega)
      injection e with e1 e2 e3
      subst e1; subst e3
      have q2 := (hcl i (by rw [hml]; exact hil)).2.2.1
      have hX2 := HX.out.2
      rw [hml, HM.out] at hX2
      have hfr := own_frozen hX2 (i * 4 + 2)
      clear hX2
      have HS : Hid (RefBookB w.heap.size (wr.setCell ⟨g, i * 4 + 2, none⟩ (.int .i64 (tp + 1))) b2 (.slice (some ⟨g, 0, none⟩) k cap) (mixE L (tp + 1) (i + 1))) := by
       show RefBookB _ _ _ _ _
       have hX := HX.out
       rw [← HM.out] at hX ⊢
       exact mix_set hX hil
      have HWS : Hid (Below w.heap.size w (wr.setCell ⟨g, i * 4 + 2, none⟩ (.int .i64 (tp + 1)))) := HW.out.setCell hbg _
      have hck : k ≤ cap := by rw [hml, HM.out] at hc; exact hc
      generalize hep : Per.epoch _ = ep at q2
      clear hep hcl hml hc hbg e2 HX HW
      go_wp2
      go_round
      case rel => exact ⟨i + 1, by omega, by go_num, HS, HWS⟩
      case measure => simp [intOf]; omega
     ·
      obtain rfl : i = k := by omega
      have hkk2 : ¬ (i : Int) < (i : Int) := by omega
      have HX2 : Hid (RefBookB w.heap.size wr b2 (.slice ad i cap) (allE L (tp + 1))) := by
       show RefBookB _ _ _ _ _
       have hX := HX.out
       rw [← HM.out, mix_all] at hX
       rw [← HM.out]
       exact hX
      have HN2 : Hid (allE L (tp + 1) = [] → Value.slice ad i cap = .slice none 0 0) := fun e => HN1.out (List.map_eq_nil_iff.1 e)
      have HNm : Hid (nm = numC ec (tp + 1)) := by show _ = _; rw [HNum.out, HVC.out]
      have HE2 := hide (HE.out b2 _ wr HW.out (HX2.out.less HBs.out) HN2.out (Nat.le_trans HBs.out Hb2.out))
      clear HX HNum HE hlt hi
      unfold starB at HE2
      generalize numC ec (tp + 1) = nm2 at *
      go_wp2_with fail
      refine HE2.out.mono ?_
      rintro e w5 ⟨rfl, hq⟩
      have HQ := hide (hq.from HW.out (row_lt HH.out.row))
      clear hq HE2
      go_wp2
      go_ret2
      exact ⟨by rw [HNm.out, HVC.out]; rfl, by rw [HVR.out]; exact HQ.out⟩
end Go.Proofs.YtabpnjchocgakaaGreatDoor

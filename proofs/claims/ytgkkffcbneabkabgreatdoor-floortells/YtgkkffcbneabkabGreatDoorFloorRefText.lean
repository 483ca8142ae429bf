/-
  What package floor's Sum gives, and the document's answer's FloorsText and FloorsSum: the mark of a list's text, or 0, for every list.
  What the document's answer's FloorsText and FloorsSum give: the text of right floors; the mark of a list's text, or 0, for every list.
-/
import Derived.Test.YtgkkffcbneabkabGreatDoorFloorGlue
import Derived.Test.YtgkkffcbneabkabGreatDoorFloorText
import Derived.Test.YtgkkffcbneabkabGreatDoorFloorFault
import Derived.Test.YtgkkffcbneabkabGreatDoorMarkRef
import Derived.Deep.RegionHeld3
namespace Go.Proofs.YtgkkffcbneabkabGreatDoor
open Go.RowKit Go.Extern.Stop Go.Stop Go.Extern Go.Proofs

theorem text_sizeS {l : List Fl} (h : RightF l) (hl : l.length ≤ 21) : (textL l).length ≤ 4000 := by
  unfold textL
  split
  · simp
  · have := join_len 44 30 (l.map oneT) (fun w hw => by
      obtain ⟨f, hf, rfl⟩ := List.mem_map.1 hw
      exact one_len (h.one f hf))
    rw [List.length_map] at this
    omega
/-- The sum of floors. -/
def sumL (l : List Fl) : Int := if (checkL l).1 = 0 then moreN 1 1 (textL l) else 0

set_option maxRecDepth 100000 in
set_option maxHeartbeats 2000000 in
theorem sum_any (a : Nat → Addr) (v : Value) (l : List Fl) (w : World) (h : Errs a w) (ht : Tab10 w) (hv : FlAt w v l) (hs : ∀ f ∈ l, f.who.size ≤ maxLen) (hl : l.length ≤ 1000000) :
    Calls Tryz.prog 40 #[v] w fun e w' => e = .returned (.int .i64 (sumL l)) ∧ Below w.heap.size w w' := by
  have HT := hide (text_any a v l w (h.ev _) ht hv hs hl)
  have HE := hide h
  clear h ht hv hs hl
  by_cases h0 : (checkL l).1 = 0
  · have HS : Hid (sumL l = moreN 1 1 (textL l)) := if_pos h0
    obtain ⟨hr, h21⟩ := right_of_check h0
    have HO := hide (fun w h => of_any a 1 (txt (textL l)) w h (by rw [txt_size]; have := text_sizeS hr h21; unfold maxLen; omega))
    rw [txt_list, show moreE 1 1 = 0 from by rw [key_more]; rfl] at HO
    replace HO : Hid (∀ w, Errs a w → Calls Tryz.prog 42 #[.int .i64 1, .string (txt (textL l))] w fun e w' => e = .returned (.tuple #[.int .i64 (moreN 1 1 (textL l)), .nilIface]) ∧ Below w.heap.size w w') := HO.out
    rw [HS.out]
    clear HS hr h21
    generalize moreN 1 1 (textL l) = m at *
    generalize textL l = t at *
    generalize checkL l = c at *
    go_enter Tryz.func40, Tryz.ntmps40
    go_wp2_with fail
    refine HT.out.mono ?_
    rintro e w1 ⟨hp, hb⟩
    rcases hp with ⟨_, rfl⟩ | ⟨hn, _⟩
    · have HB1 := hide hb
      clear hb HT h0
      go_wp2_with fail
      refine (HO.out _ (HE.out.below HB1.out)).mono ?_
      rintro e w2 ⟨rfl, hb⟩
      have HB2 : Hid (Below w.heap.size w w2) := HB1.out.trans (hb.mono HB1.out.size)
      clear hb HO HE HB1
      go_wp2
      go_ret
      exact ⟨rfl, HB2.out⟩
    · exact absurd h0 hn
  · have HS : Hid (sumL l = 0) := if_neg h0
    rw [HS.out]
    clear HS HE
    generalize textL l = t at *
    generalize checkL l = c at *
    go_enter Tryz.func40, Tryz.ntmps40
    go_wp2_with fail
    refine HT.out.mono ?_
    rintro e w1 ⟨hp, hb⟩
    rcases hp with ⟨hn, _⟩ | ⟨_, t1, p1, rfl, _⟩
    · exact absurd hn h0
    · clear h0 HT
      go_wp2
      go_ret
      exact ⟨rfl, hb⟩
end Go.Proofs.YtgkkffcbneabkabGreatDoor

namespace Go.Proofs.YtgkkffcbneabkabGreatDoor
open Go.RowKit Go.Extern.Stop Go.Stop Go.Extern Go.Proofs

theorem ownsRow_keep {w w' : World} {B t k n : Nat} {v : Value} {cs : List Value} (h : w.ownsRow B t k v n cs) (hb : Below w.heap.size w w') : w'.ownsRow B t k v n cs := by
  refine ⟨h.1, ?_⟩
  rcases h.2 with g | ⟨g, cap, cur, rfl, hB, hg, hc, hm, hs, ht⟩
  · exact Or.inl g
  · exact Or.inr ⟨g, cap, cur, rfl, hB, (hb.block g (row_lt hg)).trans hg, hc, hm, hs, ht⟩
theorem one_txt (f : Fl) : f.who ++ ⟨#[58]⟩ ++ txt (Lib.decDigits f.ep.toNat) = txt (oneT f) := by
  refine Sl.ba_ext ?_
  rw [ba_toList, ba_toList, txt_list, txt_list]
  unfold oneT Fl.nm
  simp

theorem fltCode (a b : Int) (w : World) : (Instr.field 55 (.agg #[.int .i64 a, .int .i64 b]) 0).run Tryz.prog w = .ok (.int .i64 a) w := by kernel_rfl

attribute [local go_sem] Oper.semAt_some

set_option maxRecDepth 100000 in
set_option maxHeartbeats 4000000 in
theorem refText_any (v : Value) (l : List Fl) (w : World) (hv : FlAt w v l) (hr : RightF l) (hl : l.length ≤ 21) :
    Calls Tryz.prog 29 #[v] w fun e w' => e = .returned (.string (txt (textL l))) ∧ Below w.heap.size w w' := by
  obtain ⟨ad, cap, rfl, hcap⟩ := hv.form
  by_cases h0 : l = []
  · subst h0
    show Calls Tryz.prog 29 #[.slice ad 0 cap] w _
    have HT : Hid (txt (textL []) = ⟨#[45]⟩) := rfl
    rw [HT.out]
    clear HT hr hl hv hcap
    go_enter Tryz.func29, Tryz.ntmps29
    go_wp2
    go_ret
    exact ⟨rfl, Below.refl _ _⟩
  · have HT : Hid (textL l = Lib.join (l.map oneT) [44]) := if_neg h0
    have hlen : 0 < l.length := List.length_pos_iff.2 h0
    have HNe : Hid (l.map oneT ≠ []) := by show _ ≠ _; simpa using h0
    have HG : Hid (∀ b c W, Texts W b 0 ((l.map oneT).map txt) → Calls Tryz.prog 68 #[.slice (some ⟨b, 0, none⟩) l.length c, .string ⟨#[44]⟩] W fun e w' => e = .returned (.string (txt (textL l))) ∧ w' = W) := fun b c W hx => by
      have := refGlueC_any ((l.map oneT).map txt) b 0 l.length c W (by simp) (by omega) hx (by
        rw [bytes_txt]
        have h1 := text_sizeS hr hl
        rw [HT.out] at h1
        omega)
      rw [bytes_txt] at this
      rw [HT.out]
      exact this
    obtain ⟨i0, hi, hz0, hz1, hz2⟩ := info_parts Tryz.infoStringG
    have HV := hide hv
    have HR := hide hr
    rw [HT.out] at HG
    rw [HT.out]
    generalize Lib.join (l.map oneT) [44] = tx at *
    generalize hn : l.length = n at *
    have HN := hide hn
    have hnz : ((n : Int) == 0) = false := by rw [beq_eq_false_iff_ne]; omega
    have hnz2 : ¬ (n : Int) = 0 := by omega
    clear h0 hn hv hr HT
    go_enter Tryz.func29, Tryz.ntmps29
    go_wp2
    go_loopg [3, 4] n (fun gg sv iv wr => ∃ k : Nat, k ≤ n ∧ n - k ≤ gg ∧ iv = .int .i64 k ∧ Hid (wr.ownsRow w.heap.size 9 1 sv k (cellsW ((l.map oneT).take k))) ∧ Hid (Below w.heap.size w wr))
    case atStart => exact ⟨0, Nat.zero_le _, Nat.le_refl _, rfl, (show Hid _ from World.ownsRow_nil _ _ _ _), (show Hid _ from Below.refl _ _)⟩
    case round =>
      obtain ⟨k, hk, hgg, rfl, HOwn, HBr⟩ := hrel
      by_cases hlt : k < n
      · have hkl : k < l.length := by rw [HN.out]; exact hlt
        have hvr := HV.out.below HBr.out
        rw [← HN.out] at hvr
        obtain ⟨b, off, cap', e, hc', hb, hcell⟩ := hvr.at (by omega)
        injection e with e1 e2 e3
        subst e1; subst e3
        obtain ⟨c0, c1⟩ := hcell k hkl
        have hltz : (k : Int) < (n : Int) := by omega
        have HCk : Hid (∀ W, Below wr.heap.size wr W → W.cell? ⟨b, off + k * 2, none⟩ = some (.string (l[k]'hkl).who) ∧ W.cell? ⟨b, off + k * 2 + 1, none⟩ = some (.int .i64 (l[k]'hkl).ep)) := fun W hbW => ⟨by rw [hbW.cell (p := ⟨b, off + k * 2, none⟩) hb]; exact (hcell k hkl).1, by rw [hbW.cell (p := ⟨b, off + k * 2 + 1, none⟩) hb]; exact (hcell k hkl).2⟩
        have hone := HR.out.one _ (List.getElem_mem hkl)
        have hep := one_pos hone
        have hws : (l[k]'hkl).who.size ≤ 8 := by
          have := nm_len hone
          have e : (l[k]'hkl).nm.length = (l[k]'hkl).who.size := by unfold Fl.nm; simp
          omega
        have HDc := hide (fun w => refDecimal_any (l[k]'hkl).ep.toNat (by omega) w)
        rw [show (((l[k]'hkl).ep.toNat : Nat) : Int) = (l[k]'hkl).ep by omega] at HDc
        have HTx := hide (one_txt (l[k]'hkl))
        have hds : (Sl.ofL (Lib.decDigits (l[k]'hkl).ep.toNat)).size ≤ 10 := dec_size _ (by omega)
        change Hid ((l[k]'hkl).who ++ ⟨#[58]⟩ ++ Sl.ofL (Lib.decDigits (l[k]'hkl).ep.toNat) = txt (oneT (l[k]'hkl))) at HTx
        have HTk : Hid ((l.map oneT).take (k + 1) = (l.map oneT).take k ++ [oneT (l[k]'hkl)]) := by show _ = _; rw [List.take_succ_eq_append_getElem (by rw [List.length_map]; exact hkl), List.getElem_map]
        clear hcell hvr hc' hone hep
        generalize Sl.ofL (Lib.decDigits (l[k]'hkl).ep.toNat) = dg at *
        generalize oneT (l[k]'hkl) = ot at *
        generalize (l[k]'hkl).who = who at *
        generalize (l[k]'hkl).ep = ep at *
        have HBd : Hid (Below wr.heap.size wr wr.drew) := (Below.refl _ _).drew
        have d0 : wr.drew.cell? ⟨b, off + k * 2, none⟩ = some (.string who) := c0
        have d1 : wr.drew.cell? ⟨b, off + k * 2 + 1, none⟩ = some (.int .i64 ep) := c1
        go_wp2_with fail
        go_region_held (fun w' => w'.cell? ⟨b, off + k * 2, none⟩ = some (.string who) ∧ w'.cell? ⟨b, off + k * 2 + 1, none⟩ = some (.int .i64 ep)) (go_keep)
          (first | (go_at_call 52; refine (HDc.out wr.drew).mono ?_; rintro e w2 ⟨rfl, hb2⟩; have HB2 : Hid (Below wr.heap.size wr w2) := HBd.out.trans hb2; have e0 := (HCk.out w2 HB2.out).1; have e1 := (HCk.out w2 HB2.out).2; clear hb2 HDc))
        all_goals
          have HO2 := hide (ownsRow_keep HOwn.out HB2.out)
          have HBw : Hid (Below w.heap.size w w2) := HBr.out.trans (HB2.out.mono HBr.out.size)
          clear c0 c1 d0 d1 e0 e1 HCk HBd HB2 HBr HOwn
          go_wp2_with (first
            | (at_builtin; refine wpList_append_own _ rfl _ _ 43 rfl w.heap.size 9 i0 (.string ByteArray.empty) 1 16 Tryz.underlying43 hi hz0 hz1 hz2 rfl (by decide) _ _ _ rfl (HO2.out.alloc _) ⟨w2.heap.size, 0, none⟩ 1 1 [.string (who ++ ⟨#[58]⟩ ++ dg)] rfl rfl ?c1 ?c2 ?c3 ?c4 ?c5 ?_))
          case c1 =>
            intro j u hj
            match j, hj with
            | 0, hj => simp at hj; subst hj; simp [Addr.add]
          case c2 => intro u hu; simp at hu; subst hu; rfl
          case c3 => unfold maxLen; omega
          case c4 => omega
          case c5 => have := HBw.out.size; simp; omega
          · intro v' w3 hown' hgrow _
            have HB3 : Hid (Below w.heap.size w w3) := (HBw.out.alloc HBw.out.size _).grown hgrow (by have := HBw.out.size; simp; omega) (fun g hg => (HO2.out.lt g hg).1)
            have HO3 : Hid (w3.ownsRow w.heap.size 9 1 v' (k + 1) (cellsW ((l.map oneT).take (k + 1)))) := by
              rw [HTx.out, cellsW_snoc, txt_list, ← HTk.out] at hown'
              exact hown'
            clear hown' hgrow HO2 HBw
            go_wp2
            go_roundg (n - (k + 1))
            case measure => omega
            case rel => exact ⟨k + 1, by omega, Nat.le_refl _, by go_num, HO3, HB3⟩
      · have hkn : k = n := by omega
        subst hkn
        have hltz : ¬ (k : Int) < (k : Int) := by omega
        have hown := HOwn.out
        rw [List.take_of_length_le (by rw [List.length_map, HN.out]; exact Nat.le_refl _)] at hown
        obtain ⟨bb, cc, hve, hcap2, htx⟩ := owns_words hown HNe.out
        rw [List.length_map, HN.out] at hve
        subst hve
        have HX := hide htx
        clear hown hcap2 htx HOwn
        go_wp2_with fail
        refine (HG.out _ _ _ HX.out).mono ?_
        rintro e w2 ⟨rfl, rfl⟩
        go_wp2
        go_ret
        exact ⟨rfl, HBr.out⟩

set_option maxRecDepth 100000 in
set_option maxHeartbeats 2000000 in
theorem refSum_any (v : Value) (l : List Fl) (w : World) (hv : FlAt w v l) (hs : ∀ f ∈ l, f.who.size ≤ maxLen) (hl : l.length ≤ 1000000) :
    Calls Tryz.prog 41 #[v] w fun e w' => e = .returned (.int .i64 (sumL l)) ∧ Below w.heap.size w w' := by
  have HF := hide (refFault_any v l w hv hs hl)
  have HV := hide hv
  by_cases h0 : (checkL l).1 = 0
  · have HS : Hid (sumL l = moreN 1 1 (textL l)) := if_pos h0
    obtain ⟨hr, h21⟩ := right_of_check h0
    have HT := hide (fun w h => refText_any v l w h hr h21)
    have HO := hide (fun w => refOf_any 1 (txt (textL l)) w (by rw [txt_size]; have := text_sizeS hr h21; unfold maxLen; omega))
    rw [txt_list] at HO
    have hz : ¬ (0 : Int) < ((checkL l).1 : Int) := by omega
    rw [HS.out]
    clear HS hr h21 hv hs hl h0
    generalize moreN 1 1 (textL l) = m at *
    generalize moreE 1 1 = me at *
    generalize textL l = t at *
    generalize checkL l = c at *
    unfold fltV at HF
    have hfd := fun w => fltCode (c.1 : Int) c.2 w
    go_enter Tryz.func41, Tryz.ntmps41
    go_wp2_with fail
    refine HF.out.mono ?_
    rintro e w1 ⟨rfl, hb⟩
    have HB1 := hide hb
    clear hb HF
    go_wp2_with fail
    refine (HT.out _ (HV.out.below HB1.out)).mono ?_
    rintro e w2 ⟨rfl, hb⟩
    have HB2 : Hid (Below w.heap.size w w2) := HB1.out.trans (hb.mono HB1.out.size)
    clear hb HB1 HT HV
    go_wp2_with fail
    refine (HO.out _).mono ?_
    rintro e w3 ⟨rfl, rfl⟩
    go_wp2
    go_ret
    exact ⟨rfl, HB2.out⟩
  · have HS : Hid (sumL l = 0) := if_neg h0
    have hz : (0 : Int) < ((checkL l).1 : Int) := by omega
    rw [HS.out]
    clear HS hv hs hl h0
    generalize checkL l = c at *
    unfold fltV at HF
    have hfd := fun w => fltCode (c.1 : Int) c.2 w
    go_enter Tryz.func41, Tryz.ntmps41
    go_wp2_with fail
    refine HF.out.mono ?_
    rintro e w1 ⟨rfl, hb⟩
    go_wp2
    go_ret
    exact ⟨rfl, hb⟩
end Go.Proofs.YtgkkffcbneabkabGreatDoor

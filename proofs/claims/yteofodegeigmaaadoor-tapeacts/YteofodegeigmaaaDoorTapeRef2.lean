/-
  What the document's answer reads of a tape's bytes, and recovers.
-/
import Derived.Test.YteofodegeigmaaaDoorTapeRef
import Derived.Test.YteofodegeigmaaaDoorTapeRead
import Derived.Deep.CutBlock
import Derived.Deep.DeepCutAuto
namespace Go.Proofs.YteofodegeigmaaaDoor
open Go Go.RowKit Go.Extern.Stop Go.Stop Go.Extern Go.Proofs

/-- Where the colon stands. -/
theorem colon_at {s : ByteArray} {d k : Nat} (hd : d ≤ k) (hk : k < s.size) (h : ∀ m (hm : m < s.size), d ≤ m → m < k → s[m] ≠ 58) (hc : s[k] = 58) :
    s.data.toList.drop d = (s.extract d k).data.toList ++ 58 :: (s.extract (k + 1) s.size).data.toList ∧ (58 : UInt8) ∉ (s.extract d k).data.toList := by
  have hl : s.data.toList.length = s.size := by simp
  have hx : (s.extract d k).data.toList = (s.data.toList.drop d).take (k - d) := Lib.extract_data s d k
  have hk2 : (s.data.toList.drop d)[k - d]? = some 58 := by
    rw [List.getElem?_drop, show d + (k - d) = k by omega, List.getElem?_eq_getElem (by omega)]
    exact congrArg some hc
  constructor
  · rw [hx, extract_drop, show k + 1 = d + (k - d + 1) by omega, ← List.drop_drop]
    generalize s.data.toList.drop d = l at *
    generalize k - d = j at *
    have hj : j < l.length := by
      rcases Nat.lt_or_ge j l.length with h | h
      · exact h
      · rw [List.getElem?_eq_none h] at hk2; cases hk2
    have h3 : l[j] = 58 := by
      rw [List.getElem?_eq_getElem hj] at hk2
      exact Option.some.inj hk2
    conv => lhs; rw [← List.take_append_drop j l]
    rw [List.drop_eq_getElem_cons hj, h3]
  · rw [hx]
    intro hm
    obtain ⟨j, hj, e⟩ := List.mem_iff_getElem.1 hm
    rw [List.length_take, List.length_drop] at hj
    rw [List.getElem_take, List.getElem_drop] at e
    exact h (d + j) (by omega) (by omega) (by omega) e
theorem colon_none {s : ByteArray} {d : Nat} (h : ∀ m (hm : m < s.size), d ≤ m → s[m] ≠ 58) : (58 : UInt8) ∉ s.data.toList.drop d := by
  have hl : s.data.toList.length = s.size := by simp
  intro hm
  obtain ⟨j, hj, e⟩ := List.mem_iff_getElem.1 hm
  rw [List.length_drop] at hj
  rw [List.getElem_drop] at e
  exact h (d + j) (by omega) (by omega) e
theorem numI_iff (l : List UInt8) : (numI l 4000 < 0 ∧ ¬ (Sl.numOk l = true ∧ Sl.valL l ≤ 4000)) ∨ (numI l 4000 = (Sl.valL l : Int) ∧ Sl.numOk l = true ∧ Sl.valL l ≤ 4000) := by
  cases h : numB l 4000 with
  | false =>
    left
    refine ⟨by rw [numI_no l _ h]; decide, fun e => ?_⟩
    rw [(numB_iff l).2 e] at h
    cases h
  | true =>
    right
    refine ⟨?_, (numB_iff l).1 h⟩
    unfold numI
    rw [if_pos h]
/-- What the two bytes behind a record's text tell. -/
theorem two_at {s : ByteArray} {k n : Nat} (h1 : k + 1 + n < s.size) (h2 : k + 2 + n < s.size) : ((s.extract (k + 1) s.size).data.toList.drop n).take 2 = [s[k + 1 + n], s[k + 2 + n]] := by
  have e : s[k + 2 + n] = s[k + 1 + n + 1]'(by omega) := by congr 1; omega
  rw [e]
  have hl : s.data.toList.length = s.size := by simp
  rw [extract_drop, List.drop_drop]
  have h1 : k + 1 + n < s.data.toList.length := by omega
  have h2 : k + 1 + n + 1 < s.data.toList.length := by omega
  rw [List.drop_eq_getElem_cons h1, List.drop_eq_getElem_cons h2]
  rfl
theorem ne_byte {b : UInt8} {c : UInt8} : (b = c) ∨ ((((b.toNat : Int) != (c.toNat : Int)) = true) ∧ b ≠ c) := by
  by_cases h : b = c
  · exact Or.inl h
  · refine Or.inr ⟨?_, h⟩
    rw [bne_iff_ne]
    intro e
    exact h (UInt8.toNat_inj.1 (by omega))
set_option maxRecDepth 100000 in
set_option maxHeartbeats 4000000 in
theorem refRead_any (s : ByteArray) (w : World) (hs : s.size ≤ 262144) :
    Calls Tryd.prog 19 #[.string s] w (ReadPost w s.data.toList) := by
  obtain ⟨i0, hi, hz0, hz1, hz2⟩ := info_parts Tryd.infoStringT
  have es : s.data.toList.length = s.size := by simp
  go_enter Tryd.func19, Tryd.ntmps19
  go_wp2
  go_loopg [4, 5, 6, 7, 8] s.size (fun gg s4 s5 _ _ _ wr => ∃ (f d : Nat) (L : List (List UInt8)), s5 = .int .i64 d ∧ d ≤ s.size ∧ s.size - d ≤ gg ∧ Hid (ReadAt s.data.toList f d L) ∧ Hid (wr.ownsRow w.heap.size 9 1 s4 L.length (cellsT (L.map txt))) ∧ Hid (Below w.heap.size w wr))
  case atStart => exact ⟨_, 0, [], rfl, Nat.zero_le _, Nat.le_refl _, (show Hid _ from ReadAt.start _), (show Hid _ from World.ownsRow_nil _ _ _ _), (show Hid _ from Below.refl _ _)⟩
  case round =>
    obtain ⟨f, d, L, rfl, hd, hgg, HR, HO, HB⟩ := hrel
    have HL := hide (readL_le HR.out)
    go_upto_block 2 with fail
    go_cut [6] (fun s6 wc => (∃ k : Nat, s6 = .int .i64 k ∧ d ≤ k ∧ k ≤ s.size ∧ Hid (∀ m (hm : m < s.size), d ≤ m → m < k → s[m] ≠ 58) ∧ Hid (∀ hj : k < s.size, s[k] = 58)) ∧ wr = wc)
    case first =>
      go_wp2_with fail
      go_loopg [6] (s.size - d) (fun gg s6 wx => ∃ j : Nat, d ≤ j ∧ j ≤ s.size ∧ s.size - j ≤ gg ∧ s6 = .int .i64 j ∧ Hid (∀ m (hm : m < s.size), d ≤ m → m < j → s[m] ≠ 58) ∧ wr = wx)
      case atStart => exact ⟨d, Nat.le_refl _, hd, Nat.le_refl _, rfl, (show Hid _ from fun m hm h1 h2 => absurd h2 (by omega)), rfl⟩
      case round =>
        obtain ⟨j, hdj, hj, hgg2, rfl, HNc, rfl⟩ := hrel
        by_cases hjlt : j < s.size
        · have hjz : (j : Int) < (s.size : Int) := by omega
          by_cases hc : s[j] = 58
          · have hqc : ((s[j].toNat : Int) != 58) = false := by rw [hc]; decide
            have hqd : ((s[j].toNat : Int) == 58) = true := by rw [hc]; decide
            have HC := hide hc
            clear hc
            go_wp2
            go_meet
            exact ⟨⟨j, rfl, hdj, hj, HNc, (show Hid _ from fun _ => HC.out)⟩, rfl⟩
          · have hne : ¬ (s[j].toNat : Int) = 58 := fun e => hc (UInt8.toNat_inj.1 (by have : (58 : UInt8).toNat = 58 := rfl; omega))
            have hqd : ((s[j].toNat : Int) == 58) = false := by rw [beq_eq_false_iff_ne]; exact hne
            have hqc : ((s[j].toNat : Int) != 58) = true := by rw [bne_iff_ne]; exact hne
            have HC := hide hc
            clear hc hne
            go_wp2
            go_roundg (s.size - (j + 1))
            case measure => omega
            case rel =>
              refine ⟨j + 1, by omega, by omega, Nat.le_refl _, by go_num, (show Hid _ from fun m hm h1 h2 => ?_), rfl⟩
              by_cases e : m = j
              · subst e; exact HC.out
              · exact HNc.out m hm h1 (by omega)
        · have hjz : ¬ (j : Int) < (s.size : Int) := by omega
          go_wp2
          go_meet
          exact ⟨⟨j, rfl, hdj, hj, HNc, (show Hid _ from fun h => absurd h hjlt)⟩, rfl⟩
    case rest =>
      obtain ⟨⟨k, rfl, hdk, hk, HNc, HAt⟩, rfl⟩ := hcut
      by_cases hklt : k < s.size
      · obtain ⟨hsp, hnc⟩ := colon_at hdk hklt HNc.out (HAt.out hklt)
        have hone := one_form (t := (s.extract (k + 1) s.size).data.toList) hnc
        rw [← hsp] at hone
        have hrl : (s.extract (k + 1) s.size).data.toList.length = s.size - (k + 1) := by rw [extract_drop, List.length_drop, es]
        have hdig : (s.extract d k).data.toList.length = k - d := by rw [Lib.extract_data, List.length_take, List.length_drop, es]; omega
        have HNm := hide (fun w => refNumber_any (s.extract d k) 4000 w (by rw [ByteArray.size_extract]; unfold maxLen; omega))
        have hkne : ((k : Int) == (s.size : Int)) = false := by rw [beq_eq_false_iff_ne]; omega
        have hkn2 : ¬ (k : Int) = (s.size : Int) := by omega
        have hkl2 : (k : Int) ≤ (s.size : Int) := by omega
        have hdk2 : (d : Int) ≤ (k : Int) := by omega
        clear HNc HAt
        rcases numI_iff (s.extract d k).data.toList with ⟨hneg, hno⟩ | ⟨hval, hok, hv4⟩
        · have HE := hide (fun wz (hz : Below w.heap.size w wz) ho => read_end (w' := wz) (v := u4) HR.out (by rw [hone]; exact if_neg fun h => hno ⟨h.1, h.2.1⟩) ho hz)
          clear hone hno hsp hnc hrl hdig HL
          generalize numI (s.extract d k).data.toList 4000 = nv at *
          go_wp2_with fail
          refine (HNm.out _).mono ?_
          rintro e w8 ⟨rfl, hww⟩
          rw [hww]
          clear hww w8 HNm
          go_wp2
          go_ret2
          exact HE.out _ HB.out HO.out
        · generalize hvn : Sl.valL (s.extract d k).data.toList = n at *
          rw [hval] at HNm
          by_cases hroom : n + 2 ≤ s.size - (k + 1)
          · have hi1 : k + 1 + n < s.size := by omega
            have hi2 : k + 2 + n < s.size := by omega
            have htw := two_at (s := s) (k := k) (n := n) hi1 hi2
            rw [htw, hrl] at hone
            have hx : ((s.extract (k + 1) (k + 1 + n))).data.toList = (s.extract (k + 1) s.size).data.toList.take n := by
              rw [Lib.extract_data, extract_drop, show k + 1 + n - (k + 1) = n by omega]
            rw [← hx] at hone
            have q1 : ¬ (s.size : Int) - (k : Int) - 1 < (n : Int) + 2 := by omega
            have q2 : (k : Int) + 1 + (n : Int) < (s.size : Int) := by omega
            have q3 : (k : Int) + 2 + (n : Int) < (s.size : Int) := by omega
            have q4 : (k : Int) + 1 ≤ (k : Int) + 1 + (n : Int) := by omega
            have q5 : (k : Int) + 1 + (n : Int) ≤ (s.size : Int) := by omega
            have q6 : (0 : Int) ≤ (k : Int) + 1 := by omega
            clear hnc hsp htw hrl hdig hx
            rcases ne_byte (b := s[k + 1 + n]) (c := 10) with e1 | ⟨e1, e1'⟩
            · have b1 : ((s[k + 1 + n].toNat : Int) != 10) = false := by rw [e1]; rfl
              rcases ne_byte (b := s[k + 2 + n]) (c := 46) with e2 | ⟨e2, e2'⟩
              · have b2 : ((s[k + 2 + n].toNat : Int) != 46) = false := by rw [e2]; rfl
                rw [if_pos ⟨hok, hv4, hroom, by rw [e1, e2]⟩] at hone
                obtain ⟨g, rfl, hr2, hle, _⟩ := HR.out.more hone
                have hstep : d + (recL (s.extract (k + 1) (k + 1 + n)).data.toList).length = k + 3 + n := by
                  have hz : (s.extract (k + 1) (k + 1 + n)).data.toList = (s.extract (k + 1) s.size).data.toList.take n := by
                    rw [Lib.extract_data, extract_drop, show k + 1 + n - (k + 1) = n by omega]
                  have hrl : (s.extract (k + 1) s.size).data.toList.length = s.size - (k + 1) := by rw [extract_drop, List.length_drop, es]
                  have hdig : (s.extract d k).data.toList.length = k - d := by rw [Lib.extract_data, List.length_take, List.length_drop, es]; omega
                  have := rec_of (a := (s.extract d k).data.toList) (t := (s.extract (k + 1) s.size).data.toList) hok (by rw [hvn, hrl]; omega)
                  rw [hvn, ← hz] at this
                  rw [this, List.length_append, List.length_cons, List.length_append, hdig, hz, List.length_take, hrl]
                  simp only [List.length_cons, List.length_nil]
                  omega
                rw [hstep] at hr2 hle
                have HR2 := hide hr2
                have HSn := hide (cellsTx_snoc L (s.extract (k + 1) (k + 1 + n)))
                have HLl : Hid (L.length ≤ 262144) := by have := HL.out; show _ ≤ _; omega
                clear hr2 hone hok hval hvn HL hstep
                go_wp2_with fail
                refine (HNm.out _).mono ?_
                rintro e w8 ⟨rfl, hww⟩
                rw [hww]
                clear hww w8 HNm
                go_wp2_with (first
                  | (at_builtin; refine wpList_append_own _ rfl _ _ 22 rfl w.heap.size 9 i0 (.string ByteArray.empty) 1 16 Tryd.underlying22 hi hz0 hz1 hz2 rfl (by decide) _ _ _ rfl (HO.out.alloc _) ⟨wr.heap.size, 0, none⟩ 1 1 [.string (s.extract (k + 1) (k + 1 + n))] rfl rfl ?c1 ?c2 ?c3 ?c4 ?c5 ?_))
                case c1 =>
                  intro j u hj
                  match j, hj with
                  | 0, hj => simp at hj; subst hj; simp [Addr.add]
                case c2 => intro u hu; simp at hu; subst hu; rfl
                case c3 => have := HLl.out; unfold maxLen; omega
                case c4 => have := HLl.out; omega
                case c5 => have := HB.out.size; simp; omega
                · intro v' w2 hown' hgrow _
                  have HB2 : Hid (Below w.heap.size w w2) := (HB.out.alloc HB.out.size _).grown hgrow (by have := HB.out.size; simp; omega) (fun g hg => (HO.out.lt g hg).1)
                  rw [HSn.out] at hown'
                  have HO2 : Hid (w2.ownsRow w.heap.size 9 1 v' (L ++ [(s.extract (k + 1) (k + 1 + n)).data.toList]).length (cellsT ((L ++ [(s.extract (k + 1) (k + 1 + n)).data.toList]).map txt))) := by rw [List.length_append]; exact hown'
                  clear hown' hgrow HB HO HSn
                  go_wp2
                  go_roundg (s.size - (k + 3 + n))
                  case measure => omega
                  case rel => exact ⟨_, k + 3 + n, _, by go_num, by omega, Nat.le_refl _, HR2, HO2, HB2⟩
              · have b2 : ((s[k + 2 + n].toNat : Int) != 46) = true := e2
                have HE := hide (fun wz (hz : Below w.heap.size w wz) ho => read_end (w' := wz) (v := u4) HR.out (by rw [hone]; exact if_neg fun h => e2' (by have := h.2.2.2; simp at this; exact this.2)) ho hz)
                clear hone hok hval hvn HL e2 e2'
                go_wp2_with fail
                refine (HNm.out _).mono ?_
                rintro e w8 ⟨rfl, hww⟩
                rw [hww]
                clear hww w8 HNm
                go_wp2
                go_ret2
                exact HE.out _ HB.out HO.out
            · have b1 : ((s[k + 1 + n].toNat : Int) != 10) = true := e1
              have HE := hide (fun wz (hz : Below w.heap.size w wz) ho => read_end (w' := wz) (v := u4) HR.out (by rw [hone]; exact if_neg fun h => e1' (by have := h.2.2.2; simp at this; exact this.1)) ho hz)
              clear hone hok hval hvn HL e1 e1'
              go_wp2_with fail
              refine (HNm.out _).mono ?_
              rintro e w8 ⟨rfl, hww⟩
              rw [hww]
              clear hww w8 HNm
              go_wp2
              go_ret2
              exact HE.out _ HB.out HO.out
          · have HE := hide (fun wz (hz : Below w.heap.size w wz) ho => read_end (w' := wz) (v := u4) HR.out (by rw [hone]; exact if_neg fun h => hroom (by have := h.2.2.1; rw [hrl] at this; exact this)) ho hz)
            have q1 : (s.size : Int) - (k : Int) - 1 < (n : Int) + 2 := by omega
            clear hone hsp hnc hrl hdig HL hok hval
            go_wp2_with fail
            refine (HNm.out _).mono ?_
            rintro e w8 ⟨rfl, hww⟩
            rw [hww]
            clear hww w8 HNm
            go_wp2
            go_ret2
            exact HE.out _ HB.out HO.out
      · have hks : k = s.size := by omega
        subst hks
        have HE := hide (fun wz (hz : Below w.heap.size w wz) ho => read_end (w' := wz) (v := u4) HR.out (one_none (colon_none fun m hm h1 => HNc.out m hm h1 hm)) ho hz)
        have hkne : ((s.size : Int) == (s.size : Int)) = true := by simp
        clear HNc HAt HL
        go_wp2
        go_ret2
        exact HE.out _ HB.out HO.out
/-- What the document's answer recovers. -/
def RecTPost (w : World) (m : Nat) (t : Tp) (e : Ending) (w' : World) : Prop := ∃ x, e = .returned x ∧ w'.ownsRow w.heap.size 9 1 x (readA t.b).length (cellsT ((readA t.b).map txt)) ∧ TPost w m t.recR w'
set_option maxRecDepth 100000 in
theorem refRecover_any (m : Nat) (t : Tp) (w : World) (h : w.heap[m]? = some (rtY t)) (hR : t.Right) :
    Calls Tryd.prog 18 #[.pointer (some ⟨m, 0, none⟩)] w (RecTPost w m t) := by
  obtain ⟨⟨c0, c1, c2⟩, f0, f1, f2⟩ := rt_cells h
  have hlen := hR.len
  have HRd := hide (refRead_any (txt t.b) w (by rw [txt_size]; exact hlen))
  rw [txt_list] at HRd
  have HM := hide h
  have hmw := hide (row_lt h)
  have hle := (read_cat t.b).2.2
  have hbs : (txt t.b).size = t.b.length := txt_size _
  have hz0 : (0 : Int) ≤ (readN t.b : Int) := by omega
  have hz1 : (readN t.b : Int) ≤ ((txt t.b).size : Int) := by omega
  have hx : (txt t.b).extract 0 (readN t.b) = txt (t.b.take (readN t.b)) := by
    refine Go.WideShapes.bytes_inj ?_
    rw [Lib.extract_data, txt_list]
    simp
  have HX := hide hx
  clear h hR hle hbs hx hlen
  go_enter Tryd.func18, Tryd.ntmps18
  go_wp2_with fail
  refine HRd.out.mono ?_
  rintro e w1 ⟨x, rfl, hown, hb⟩
  have h1 : w1.heap[m]? = some (rtY t) := (hb.block m hmw.out).trans HM.out
  have hne : ∀ g, x.ownBlock = some g → g ≠ m := fun g hg e => by
    have h2 := (hown.lt g hg).1
    have h3 := hmw.out
    omega
  have HE : Hid (RecTPost w m t (.returned x) (((w1.setCell ⟨m, 0, none⟩ (.string ((txt t.b).extract 0 (readN t.b)))).setCell ⟨m, 1, none⟩ (.bool false)).setCell ⟨m, 2, none⟩ (.int .i64 (-1)))) := by
    refine ⟨x, rfl, ?_, ?_⟩
    · refine words_kept hown fun g hg => ?_
      rw [heap_setCell_other _ _ g _ (fun e => hne g hg e), heap_setCell_other _ _ g _ (fun e => hne g hg e), heap_setCell_other _ _ g _ (fun e => hne g hg e)]
    · rw [HX.out]
      exact rt_set2 (rt_set1 (rt_set0 (TPost.from hb (TPost.same h1)) (t.b.take (readN t.b))) false) (-1)
  obtain ⟨⟨d0, d1, d2⟩, k0, k1, k2⟩ := rt_cells h1
  clear hown hne hb h1 HRd HX
  generalize readN t.b = rn at *
  generalize txt t.b = bb at *
  go_wp2
  go_ret
  exact HE.out
end Go.Proofs.YteofodegeigmaaaDoor

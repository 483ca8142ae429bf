/-
  What the document's answer's Ask gives, and what it does: a new row of the words by their order, its own block, and nothing else; for everything that was seen, every word and every time.
-/
import Derived.Test.YtgagekcjdapkfadDoorSeenRef
namespace Go.Proofs.YtgagekcjdapkfadDoor
open Go.RowKit Go.Extern.Stop Go.Stop Go.Extern

theorem Tryd.infoWord : (Tryd.prog.info? 55).map (fun i => (i.zero, i.size, i.bytes)) = some (some (.agg #[.string ByteArray.empty, .int .i64 0]), 2, 24) := by kernel_rfl

theorem keep_succ (long now : Int) (L : List Wd) (k : Nat) (hk : k < L.length) : keepW long now (L.take (k + 1)) = keepW long now (L.take k) ++ (if L[k].t < now - long then [] else [L[k]]) := by
  unfold keepW
  rw [List.take_succ_eq_append_getElem hk, List.filter_append]
  congr 1
  by_cases h : L[k].t < now - long <;> simp [lateB, h]
theorem get_snoc (A : List Wd) (q : Wd) (s : ByteArray) : (getW (A ++ [q]) s).isSome = ((getW A s).isSome || decide (q.s = s)) := by
  unfold getW
  rw [List.find?_append]
  cases h : A.find? (fun p => decide (p.s = s)) with
  | some p => simp
  | none => by_cases e : q.s = s <;> simp [e]
theorem new_cellsW (w : World) (s : ByteArray) (t : Int) : ∀ j u, [Value.string s, Value.int .i64 t][j]? = some u → (w.alloc (.cells #[.string s, .int .i64 t] 55)).cell? ((⟨w.heap.size, 0, none⟩ : Addr).add j) = some u := fun j u hj => by
  rw [Go.WideShapes.add_plain, World.cell?_alloc_at _ _ _ _ rfl, Nat.zero_add]
  match j, hj with
  | 0, hj => exact hj
  | 1, hj => exact hj
  | j + 2, hj => simp at hj
theorem new_oneW (s : ByteArray) (t : Int) : ∀ u ∈ [Value.string s, Value.int .i64 t], u.oneCell' = true := fun u hu => by
  rcases List.mem_cons.1 hu with rfl | hu
  · rfl
  · rcases List.mem_cons.1 hu with rfl | hu
    · rfl
    · simp at hu
/-- Which words come ahead. -/
def lessW (s : ByteArray) (p : Wd) : Bool := Op.bytesLess p.s.toList s.toList
theorem less_eq (s : ByteArray) (p : Wd) : lessW s p = decide (p.nm < s.data.toList) := by
  unfold lessW Wd.nm
  rw [bytesLess_eq, Lib.toList_data, Lib.toList_data]
theorem texts_neW {a b : ByteArray} (h : a ≠ b) : (a.toList == b.toList) = false := by
  rw [beq_eq_false_iff_ne]
  intro e
  rw [Go.ByteArray.toList_eq, Go.ByteArray.toList_eq] at e
  exact h (Go.WideShapes.bytes_inj e)
theorem rs_cells {w : World} {rp : Nat} {long : Int} {v : Value} (h : w.heap[rp]? = some (rsO long v)) : w.cell? ⟨rp, 0, none⟩ = some (.int .i64 long) ∧ w.cell? ⟨rp, 1, none⟩ = some v ∧ w.frozen? ⟨rp, 1, none⟩ = false :=
  ⟨cell_of_row w rp 0 _ _ _ h, cell_of_row w rp 1 _ _ _ h, frozen_of_row w rp 1 _ _ h⟩
/-- What asking leaves. -/
def RsPost (w : World) (rp : Nat) (long : Int) (L' : List Wd) (w' : World) : Prop := ∃ v', RefSeen w' rp long v' L' ∧ w.grownBy w' (some rp)
/-- A new row stored. -/
theorem rs_close {w w2 w3 : World} {rp : Nat} {long : Int} {old v' : Value} {n : Nat} {xs : List Value} {L' : List Wd} (hg : w.grownBy w2 (some rp)) (hrow : w2.heap[rp]? = some (rsO long old)) (hb3 : Below w2.heap.size w2 w3)
    (hown : w3.ownsRow w2.heap.size 55 2 v' n xs) (hn : n = L'.length) (hxs : xs = cellsW L') : RsPost w rp long L' (w3.setCell ⟨rp, 1, none⟩ v') := by
  have hs := hg.size
  have hrp2 : rp < w2.heap.size := row_lt hrow
  have hrow3 : w3.heap[rp]? = some (rsO long old) := (hb3.block rp hrp2).trans hrow
  subst hn; subst hxs
  refine ⟨v', ⟨heap_setCell_same w3 rp 1 _ _ _ hrow3, own_lessW (ownsRow_setCell_below hown hrp2 _) (by omega)⟩, ?_⟩
  have h23 := hg.trans (seen_grown hb3 (some rp))
  exact ⟨h23.os, h23.tape, h23.output, by have := h23.size; simpa [World.setCell] using this, fun k hk hs => by
    rw [heap_setCell_other w3 _ k _ (fun e => hs (by rw [e]))]; exact h23.block k hk hs⟩
/-- Behind an append onto a row of one's own: all that lay lies as it did. -/
theorem rs_after {w0 w w' : World} {B : Nat} {v v' : Value} {n : Nat} {xs : List Value} (hb0 : Below B w0 w) (hB : B ≤ w.heap.size) (hv : ∀ k, v.ownBlock = some k → B ≤ k) (hown : w'.ownsRow B 55 2 v' n xs) (hgrow : w.grownBy w' v.ownBlock) :
    Below B w0 w' ∧ (∀ k, v'.ownBlock = some k → B ≤ k) ∧ B ≤ w'.heap.size :=
  ⟨hb0.grown hgrow hB hv, fun k hk => (hown.lt k hk).1, Nat.le_trans hB hgrow.size⟩
theorem own_formW {w : World} {B n : Nat} {v : Value} {xs : List Value} (h : w.ownsRow B 55 2 v n xs) (hn : n ≠ 0) : ∃ g cap, v = .slice (some ⟨g, 0, none⟩) n cap := by
  rcases h.2 with ⟨_, h0⟩ | ⟨g, cap, cur, rfl, _⟩
  · exact absurd h0 hn
  · exact ⟨g, cap, rfl⟩
theorem insert_cellsW {K : List Wd} {p : Wd} {k : Nat} (h : insW p K = K.take k ++ p :: K.drop k) : [] ++ cellsW (K.take k) ++ [.string p.s, .int .i64 p.t] ++ cellsW (K.drop k) = cellsW (insW p K) := by
  rw [h, cellsW_append, cellsW_cons, List.nil_append, List.append_assoc]
  rfl
theorem insert_lenW {K : List Wd} {p : Wd} {k n : Nat} (hl : K.length = n) (hk : k ≤ n) (h : insW p K = K.take k ++ p :: K.drop k) : k + 1 + (n - k) = (insW p K).length := by
  rw [h, List.length_append, List.length_take, List.length_cons, List.length_drop]
  omega

set_option maxRecDepth 100000 in
set_option maxHeartbeats 8000000 in
theorem refAsk_main (rp : Nat) (long t now : Int) (L : List Wd) (v : Value) (s : ByteArray) (w : World) (h : RefSeen w rp long v L) (hG : GoodW L) (hl : 0 ≤ long ∧ long ≤ 1000000) (hs : s.size ≤ maxLen) (he : seenE long t now s = 0) :
    Calls Tryd.prog 11 #[.pointer (some ⟨rp, 0, none⟩), .string s, .int .i64 t, .int .i64 now] w fun e w' => e = .returned (.int .i64 (seenC long L s t now : Int)) ∧ RsPost w rp long (seenL long L s t now) w' := by
  obtain ⟨i0, hi, hz0, hz1, hz2⟩ := info_parts Tryd.infoWord
  obtain ⟨hw, ⟨h1a, h1b⟩, ⟨h2a, h2b⟩, h3, h4⟩ := seen_word he
  obtain ⟨hl1, hl2⟩ := hl
  have HW := hide (fun w => refWord_any s w hs)
  rw [hw] at HW
  have HGd := hide hG
  have HHe := hide he
  have HRow := hide h.row
  have HRp := hide (row_lt h.row)
  obtain ⟨ad, cap, rfl, hcap, hrd⟩ := own_readW h.own
  have hn40 := hG.few
  have HRd := hide hrd
  have HSm := hide hs
  have hc0 := h.cells.1
  have hc1 := h.cells.2
  generalize hn : L.length = n at *
  have HN := hide hn
  clear hw hrd hn he hG h hs
  go_enter Tryd.func11, Tryd.ntmps11
  go_wp2_with fail
  refine (HW.out _).mono ?_
  rintro e w1 ⟨rfl, hww⟩
  subst hww
  clear HW
  go_wp2
  clear hc0 hc1
  go_loopw [10, 11, 12] (fun l th i wr => ∃ k : Nat, k ≤ n ∧ i = .int .i64 k ∧ th = .bool (getW (keepW long now (L.take k)) s).isSome ∧ Hid (OwnW wr w1.heap.size l (keepW long now (L.take k))) ∧ Hid (Below w1.heap.size w1 wr)) (fun _ _ i _ => n - (intOf i).toNat)
  case atStart => exact ⟨0, Nat.zero_le _, rfl, rfl, World.ownsRow_nil _ _ _ _, Below.refl _ _⟩
  case round =>
    obtain ⟨k, hk, rfl, rfl, HO, HB⟩ := hrel
    have hrow : wr.heap[rp]? = some (rsO long (.slice ad n cap)) := (HB.out.block rp HRp.out).trans HRow.out
    obtain ⟨hc0, hc1, hfr⟩ := rs_cells hrow
    by_cases hlt : k < n
    · have hkl : k < L.length := by rw [HN.out]; exact hlt
      rcases HRd.out with ⟨e0, _, _⟩ | ⟨g, rfl, hgB, hgl, hcell⟩
      · rw [e0] at hkl; simp at hkl
      have hcs : wr.cell? ⟨g, k * 2, none⟩ = some (.string L[k].s) := (HB.out.cell (p := ⟨g, k * 2, none⟩) hgl).trans (hcell _ _ (cellsW_at L k hkl).1)
      have hct : wr.cell? ⟨g, k * 2 + 1, none⟩ = some (.int .i64 L[k].t) := (HB.out.cell (p := ⟨g, k * 2 + 1, none⟩) hgl).trans (hcell _ _ (cellsW_at L k hkl).2)
      have HKs := hide (keep_succ long now L k hkl)
      have HGl := hide hgl
      have HSk := hide (HGd.out.small _ (List.getElem_mem hkl))
      have hkc : k < cap := by omega
      clear hcell hgB hgl hrow
      by_cases hlate : L[k].t < now - long
      · have HK1 : Hid (keepW long now (L.take (k + 1)) = keepW long now (L.take k)) := by show _ = _; rw [HKs.out, if_pos hlate, List.append_nil]
        clear HKs HSk
        generalize (L[k]'hkl).s = y at *
        generalize (L[k]'hkl).t = u at *
        go_wp2_with fail
        go_quiet (fail)
        go_wp2
        go_roundw
        case rel => exact ⟨k + 1, by omega, by go_num, by rw [HK1.out], by rw [HK1.out]; exact HO, below_drewN HB.out _⟩
        case measure => simp [intOf]; omega
      · have HK1 : Hid (keepW long now (L.take (k + 1)) = keepW long now (L.take k) ++ [L[k]]) := by show _ = _; rw [HKs.out, if_neg hlate]
        have HG1 := hide (get_snoc (keepW long now (L.take k)) L[k] s)
        have HLn : Hid ((keepW long now (L.take k)).length ≤ 40) := by
          have h1 : (keepW long now (L.take k)).length ≤ (L.take k).length := List.length_filter_le _ _
          have h2 : (L.take k).length ≤ k := by rw [List.length_take]; omega
          show _ ≤ _
          omega
        have HCe : Hid ((keepW long now (L.take k)).length + 1 = (keepW long now (L.take (k + 1))).length ∧ cellsW (keepW long now (L.take k)) ++ [.string L[k].s, .int .i64 L[k].t] = cellsW (keepW long now (L.take (k + 1)))) := by
          show _ ∧ _
          rw [HK1.out, List.length_append, cellsW_append]
          exact ⟨rfl, rfl⟩
        have HA := hide (fun (nq : Nat) (v1 : Value) (w3 : World) (hown : w3.ownsRow w1.heap.size 55 2 v1 ((keepW long now (L.take k)).length + 1) (cellsW (keepW long now (L.take k)) ++ [.string L[k].s, .int .i64 L[k].t])) (hgrow : ((wr.drewN nq).alloc (.cells #[.string L[k].s, .int .i64 L[k].t] 55)).grownBy w3 u10.ownBlock) =>
          (rs_after (w0 := w1) ((below_drewN HB.out nq).alloc HB.out.size _) (Nat.le_trans HB.out.size (by simp)) (fun k hk => (HO.out.lt k hk).1) hown hgrow).1)
        have HC3 : Hid (∀ w3, Below w1.heap.size w1 w3 → w3.cell? ⟨rp, 1, none⟩ = some (.slice (some ⟨g, 0, none⟩) n cap) ∧ w3.cell? ⟨g, k * 2, none⟩ = some (.string L[k].s)) := fun w3 hb =>
          ⟨(hb.cell (p := ⟨rp, 1, none⟩) HRp.out).trans ((HB.out.cell (p := ⟨rp, 1, none⟩) HRp.out).symm.trans hc1), (hb.cell (p := ⟨g, k * 2, none⟩) HGl.out).trans ((HB.out.cell (p := ⟨g, k * 2, none⟩) HGl.out).symm.trans hcs)⟩
        clear HKs HSk hfr
        have HLt := hide hlate
        by_cases hsy : L[k].s = s
        · have HG2 : Hid ((getW (keepW long now (L.take (k + 1))) s).isSome = true) := by show _ = _; rw [HK1.out, HG1.out, decide_eq_true hsy, Bool.or_true]
          clear HG1 hlate
          rw [hsy] at hcs HCe HA HC3
          clear hsy
          generalize (L[k]'hkl).t = u at *
          have hlate := HLt.out
          generalize hk1 : keepW long now (L.take (k + 1)) = K1 at *
          have HK1e := hide hk1
          clear hk1
          generalize keepW long now (L.take k) = K0 at *
          generalize (getW K0 s).isSome = th at *
          cases th
          all_goals
            go_wp2_with fail
            go_quiet (fail)
            go_wp2_with (first
              | (at_builtin; refine wpList_append_own _ rfl (.tmp 73) (.tmp 81) 39 rfl w1.heap.size 55 i0 _ 2 24 Tryd.underlying39 hi hz0 hz1 hz2 rfl (by decide) _ _ _ rfl ((show OwnW _ _ _ _ from HO.out).alloc _) ⟨wr.heap.size, 0, none⟩ 1 1 [.string s, .int .i64 u] rfl rfl (new_cellsW _ s u) (new_oneW s u) (by have := HLn.out; unfold maxLen; omega) (by have := HLn.out; omega) (Nat.le_trans HB.out.size (by simp)) ?_; intro v1 w3 hown hgrow hnn; have hb3 := HA.out _ v1 w3 hown hgrow; obtain ⟨hd1, hds⟩ := HC3.out _ hb3; have HO3 := hide hown; have HB3 := hide hb3; clear hown hgrow hnn hb3)
              | go_in)
            go_roundw
            case rel => exact ⟨k + 1, by omega, by go_num, by rw [HK1e.out, HG2.out], by rw [HCe.out.1, HCe.out.2] at HO3; rw [HK1e.out]; exact HO3, HB3⟩
            case measure => simp [intOf]; omega
        · have HG2 : Hid ((getW (keepW long now (L.take (k + 1))) s).isSome = (getW (keepW long now (L.take k)) s).isSome) := by show _ = _; rw [HK1.out, HG1.out, decide_eq_false hsy, Bool.or_false]
          clear HG1 hlate HK1
          have hqy := texts_neW hsy
          clear hsy
          generalize (L[k]'hkl).s = y at *
          generalize (L[k]'hkl).t = u at *
          have hlate := HLt.out
          generalize hk1 : keepW long now (L.take (k + 1)) = K1 at *
          have HK1e := hide hk1
          clear hk1
          generalize keepW long now (L.take k) = K0 at *
          generalize (getW K0 s).isSome = th at *
          cases th
          all_goals
            go_wp2_with fail
            go_quiet (fail)
            go_wp2_with (first
              | (at_builtin; refine wpList_append_own _ rfl (.tmp 73) (.tmp 81) 39 rfl w1.heap.size 55 i0 _ 2 24 Tryd.underlying39 hi hz0 hz1 hz2 rfl (by decide) _ _ _ rfl ((show OwnW _ _ _ _ from HO.out).alloc _) ⟨wr.heap.size, 0, none⟩ 1 1 [.string y, .int .i64 u] rfl rfl (new_cellsW _ y u) (new_oneW y u) (by have := HLn.out; unfold maxLen; omega) (by have := HLn.out; omega) (Nat.le_trans HB.out.size (by simp)) ?_; intro v1 w3 hown hgrow hnn; have hb3 := HA.out _ v1 w3 hown hgrow; obtain ⟨hd1, hds⟩ := HC3.out _ hb3; have HO3 := hide hown; have HB3 := hide hb3; clear hown hgrow hnn hb3)
              | go_in)
            go_roundw
            case rel => exact ⟨k + 1, by omega, by go_num, by rw [HK1e.out, HG2.out], by rw [HCe.out.1, HCe.out.2] at HO3; rw [HK1e.out]; exact HO3, HB3⟩
            case measure => simp [intOf]; omega
    · obtain rfl : k = n := by omega
      have hLt : L.take k = L := List.take_of_length_le (by rw [HN.out]; exact Nat.le_refl _)
      rw [hLt] at HO ⊢
      have HK := hide (HGd.out.keep long now)
      have HE1 := HHe.out
      obtain ⟨ad2, cap2, rfl, hcap2, hrd2⟩ := own_readW HO.out
      have HRd2 := hide hrd2
      have hk40 := HK.out.few
      have hg2 : w1.grownBy (wr.setCell ⟨rp, 1, none⟩ (.slice ad2 (keepW long now L).length cap2)) (some rp) := by
        have h23 := seen_grown HB.out (some rp)
        exact ⟨h23.os, h23.tape, h23.output, by have := h23.size; simpa [World.setCell] using this, fun k hk hs => by
          rw [heap_setCell_other wr _ k _ (fun e => hs (by rw [e]))]; exact h23.block k hk hs⟩
      have hrow2 := heap_setCell_same wr rp 1 _ _ (.slice ad2 (keepW long now L).length cap2) hrow
      have hown2 : OwnW (wr.setCell ⟨rp, 1, none⟩ (.slice ad2 (keepW long now L).length cap2)) w1.heap.size (.slice ad2 (keepW long now L).length cap2) (keepW long now L) := ownsRow_setCell_below HO.out HRp.out _
      have HP : Hid (RsPost w1 rp long (keepW long now L) (wr.setCell ⟨rp, 1, none⟩ (.slice ad2 (keepW long now L).length cap2))) := ⟨_, ⟨hrow2, own_lessW hown2 HRp.out⟩, hg2⟩
      cases hgw : getW (keepW long now L) s with
      | some q =>
        have HSq := hide (seen_is HE1 hgw)
        clear hrow2 hown2 hg2 hrd2 HRd2 HK hgw
        generalize keepW long now L = K at *
        generalize K.length = kn at *
        go_wp2
        go_ret
        rw [HSq.out.1, HSq.out.2]
        exact ⟨rfl, HP.out⟩
      | none =>
        by_cases hfull : 40 ≤ (keepW long now L).length
        · have HSq := hide (seen_full HE1 hgw hfull)
          clear hrow2 hown2 hg2 hrd2 HRd2 HK hgw
          generalize keepW long now L = K at *
          generalize K.length = kn at *
          have hfz : (40 : Int) ≤ (kn : Int) := by omega
          go_wp2
          go_ret
          rw [HSq.out.1, HSq.out.2]
          exact ⟨rfl, HP.out⟩
        · have HSq := hide (seen_ok HE1 hgw hfull)
          have HIn := hide ((HK.out.put (p := ⟨s, t⟩) (word_small (seen_word HE1).1) hgw hfull).2)
          have HRi := hide HK.out.rising
          have HNo := hide (getW_none hgw)
          clear hrd2 HK hgw HP
          obtain ⟨ad3, cap3, e3, hcap3, hrd3⟩ := own_readW hown2
          injection e3 with e3a _ e3c
          subst e3a; subst e3c
          have HRd3 := hide hrd3
          clear hrd3 hcap3 HRd2
          have HO2 := hide hown2
          have HG2 := hide hg2
          have HR2 := hide hrow2
          clear hrow2 hown2 hg2
          generalize keepW long now L = K at *
          generalize hkn : K.length = kn at *
          have HKn := hide hkn
          clear hkn
          have hfz : ¬ (40 : Int) ≤ (kn : Int) := by omega
          go_wp2
          clear hc0 hc1 hfr
          generalize wr.setCell ⟨rp, 1, none⟩ (.slice ad2 kn cap2) = w2 at *
          go_loop [13] (fun i => ∃ j : Nat, j ≤ kn ∧ i = .int .i64 j ∧ Hid (∀ x (hx : x < K.length), x < j → lessW s K[x] = true)) (fun i => kn - (intOf i).toNat)
          case atStart => exact ⟨0, Nat.zero_le _, rfl, fun x _ hj => absurd hj (Nat.not_lt_zero _)⟩
          case round =>
            obtain ⟨j, hj, rfl, A⟩ := hrel
            by_cases hjl : j < kn
            · have hjK : j < K.length := by rw [HKn.out]; exact hjl
              rcases HRd3.out with ⟨e0, _, _⟩ | ⟨g2, rfl, hgB2, hgl2, hcell2⟩
              · rw [e0] at hjK; simp at hjK
              have hcs2 : w2.cell? ⟨g2, j * 2, none⟩ = some (.string K[j].s) := hcell2 _ _ (cellsW_at K j hjK).1
              have hkc2 : j < cap2 := by omega
              have HCl2 := hide hcell2
              have HGl2 := hide hgl2
              clear hcell2 hgl2 hgB2
              cases hls : lessW s K[j] with
              | true =>
                have HLs := hide hls
                have hq : Op.bytesLess K[j].s.toList s.toList = true := hls
                clear hls
                generalize (K[j]'hjK).s = y at hcs2 hq
                go_wp2
                go_round
                case rel =>
                  refine ⟨j + 1, by omega, by go_num, (show Hid _ from fun x hx hxj => ?_)⟩
                  by_cases e : x = j
                  · subst e; exact HLs.out
                  · exact A.out x hx (by omega)
                case measure => simp [intOf]; omega
              | false =>
                have HPl := hide (insW_at ⟨s, t⟩ K j (by omega) (fun x hx hxj => by have := A.out x hx hxj; rw [less_eq] at this; exact of_decide_eq_true this) (fun _ => by rw [less_eq] at hls; exact of_decide_eq_false hls) HNo.out)
                have hq : Op.bytesLess K[j].s.toList s.toList = false := hls
                clear hls
                generalize (K[j]'hjK).s = y at hcs2 hq
                have Hn1 : Hid (∀ i u, (cellsW (K.take j))[i]? = some u → w2.cell? ((⟨g2, 0, none⟩ : Addr).add i) = some u) := fun i u hi => by
                  rw [Go.WideShapes.add_plain, Nat.zero_add]
                  exact HCl2.out _ _ (cellsW_take K j i u hi)
                have Hl1 : Hid ((cellsW (K.take j)).length = j * 2) := by show _ = _; rw [cellsW_len, List.length_take, HKn.out]; omega
                have Hn3 : Hid (∀ w4, Below w2.heap.size w2 w4 → ∀ i u, (cellsW (K.drop j))[i]? = some u → w4.cell? ((⟨g2, j * 2, none⟩ : Addr).add i) = some u) := fun w4 hb i u hi => by
                  rw [Go.WideShapes.add_plain, hb.cell (p := ⟨g2, j * 2 + i, none⟩) HGl2.out]
                  exact HCl2.out _ _ (cellsW_drop K j (by rw [HKn.out]; omega) i u hi)
                have Hl3 : Hid ((cellsW (K.drop j)).length = (kn - j) * 2) := by show _ = _; rw [cellsW_len, List.length_drop, HKn.out]
                go_wp2_with (first
                  | (at_builtin; refine wpList_append_own _ rfl (.tmp 119) (.tmp 122) 39 rfl w2.heap.size 55 i0 _ 2 24 Tryd.underlying39 hi hz0 hz1 hz2 rfl (by decide) _ _ _ rfl (World.ownsRow_nil _ _ _ _) ⟨g2, 0, none⟩ j _ (cellsW (K.take j)) rfl Hl1.out Hn1.out (cellsW_one _) (by unfold maxLen; omega) (by omega) (Nat.le_refl _) ?_; intro v1 w3 hown hgrow hnn; obtain ⟨hb3, hv3, hs3⟩ := rs_after (Below.refl _ w2) (Nat.le_refl _) (fun k hk => by cases hk) hown hgrow; have HO3 := hide hown; have HB3 := hide hb3; have HV3 := hide hv3; clear hown hgrow hnn hb3 hv3)
                  | (at_builtin; refine wpList_append_own _ rfl (.tmp 124) (.tmp 128) 39 rfl w2.heap.size 55 i0 _ 2 24 Tryd.underlying39 hi hz0 hz1 hz2 rfl (by decide) _ _ _ rfl (HO3.out.alloc _) ⟨w3.heap.size, 0, none⟩ 1 1 [.string s, .int .i64 t] rfl rfl (new_cellsW w3 s t) (new_oneW s t) (by unfold maxLen; omega) (by omega) (Nat.le_trans HB3.out.size (by simp)) ?_; intro v2 w4 hown hgrow hnn; obtain ⟨hb4, hv4, hs4⟩ := rs_after (HB3.out.alloc HB3.out.size _) (Nat.le_trans HB3.out.size (by simp)) HV3.out hown hgrow; have HO4 := hide hown; have HB4 := hide hb4; have HV4 := hide hv4; clear hown hgrow hnn hb4 hv4)
                  | (at_builtin; refine wpList_append_own _ rfl (.tmp 131) (.tmp 134) 39 rfl w2.heap.size 55 i0 _ 2 24 Tryd.underlying39 hi hz0 hz1 hz2 rfl (by decide) _ _ _ rfl HO4.out ⟨g2, j * 2, none⟩ (kn - j) (cap2 - j) (cellsW (K.drop j)) rfl Hl3.out (Hn3.out _ HB4.out) (cellsW_one _) (by unfold maxLen; omega) (by omega) HB4.out.size ?_; intro v3 w5 hown hgrow hnn; obtain ⟨hb5, hv5, hs5⟩ := rs_after HB4.out HB4.out.size HV4.out hown hgrow; rw [Nat.zero_add] at hown; obtain ⟨g5, cap5, rfl⟩ := own_formW hown (by omega); obtain ⟨hf0, hf1, hf2⟩ := rs_cells ((hb5.block rp (row_lt HR2.out)).trans HR2.out); have HO5 := hide hown; have HB5 := hide hb5; clear hown hgrow hnn hb5 hv5)
                  | go_in)
                go_ret
                rw [HSq.out.1, HSq.out.2, HIn.out]
                exact ⟨rfl, rs_close HG2.out HR2.out HB5.out HO5.out (insert_lenW HKn.out (by omega) HPl.out) (insert_cellsW HPl.out)⟩
            · obtain rfl : j = kn := by omega
              rcases HRd3.out with ⟨rfl, rfl, rfl⟩ | ⟨g2, rfl, hgB2, hgl2, hcell2⟩
              · obtain rfl : j = 0 := HKn.out.symm
                go_wp2_with (first
                  | (at_builtin; refine wpList_append_own _ rfl (.tmp 124) (.tmp 128) 39 rfl w2.heap.size 55 i0 _ 2 24 Tryd.underlying39 hi hz0 hz1 hz2 rfl (by decide) _ _ _ rfl (World.ownsRow_nil _ _ _ _) ⟨w2.heap.size, 0, none⟩ 1 1 [.string s, .int .i64 t] rfl rfl (new_cellsW w2 s t) (new_oneW s t) (by unfold maxLen; omega) (by omega) (by simp) ?_; intro v2 w4 hown hgrow hnn; obtain ⟨hb4, hv4, hs4⟩ := rs_after ((Below.refl _ w2).alloc (Nat.le_refl _) _) (by simp) (fun k hk => by cases hk) hown hgrow; rw [Nat.zero_add] at hown; obtain ⟨g5, cap5, rfl⟩ := own_formW hown (by omega); obtain ⟨hf0, hf1, hf2⟩ := rs_cells ((hb4.block rp (row_lt HR2.out)).trans HR2.out); have HO4 := hide hown; have HB4 := hide hb4; have HV4 := hide hv4; clear hown hgrow hnn hb4 hv4)
                  | (at_builtin; refine wpList_append_own_none rfl (.tmp 131) (.tmp 134) 39 rfl w2.heap.size 55 i0 2 Tryd.underlying39 hi _ _ _ rfl HO4.out rfl ?_)
                  | go_in)
                go_ret
                rw [HSq.out.1, HSq.out.2, HIn.out]
                exact ⟨rfl, rs_close HG2.out HR2.out HB4.out HO4.out rfl rfl⟩
              · have HPl := hide (insW_at ⟨s, t⟩ K j (by rw [HKn.out]; exact Nat.le_refl _) (fun x hx hxj => by have := A.out x hx hxj; rw [less_eq] at this; exact of_decide_eq_true this) (fun hx => absurd hx (by rw [HKn.out]; omega)) HNo.out)
                have HCl2 := hide hcell2
                have HGl2 := hide hgl2
                clear hcell2 hgl2 hgB2
                have Hn1 : Hid (∀ i u, (cellsW (K.take j))[i]? = some u → w2.cell? ((⟨g2, 0, none⟩ : Addr).add i) = some u) := fun i u hi => by
                  rw [Go.WideShapes.add_plain, Nat.zero_add]
                  exact HCl2.out _ _ (cellsW_take K j i u hi)
                have Hl1 : Hid ((cellsW (K.take j)).length = j * 2) := by show _ = _; rw [cellsW_len, List.length_take, HKn.out]; omega
                have HEnd : Hid (∀ w5 g5 cap5, Below w2.heap.size w2 w5 → w5.ownsRow w2.heap.size 55 2 (.slice (some ⟨g5, 0, none⟩) (j + 1) cap5) (j + 1) ([] ++ cellsW (K.take j) ++ [.string s, .int .i64 t] ++ []) → RsPost w1 rp long (insW ⟨s, t⟩ K) (w5.setCell ⟨rp, 1, none⟩ (.slice (some ⟨g5, 0, none⟩) (j + 1) cap5))) := fun w5 g5 cap5 hb ho => by
                  refine rs_close HG2.out HR2.out hb ho ?_ ?_
                  · have := insert_lenW (p := ⟨s, t⟩) HKn.out (Nat.le_refl _) HPl.out; omega
                  · rw [← insert_cellsW HPl.out, List.drop_of_length_le (Nat.le_of_eq HKn.out)]; rfl
                rcases Nat.eq_or_lt_of_le hcap2 with hck | hck
                · subst hck
                  go_wp2_with (first
                    | (at_builtin; refine wpList_append_own _ rfl (.tmp 119) (.tmp 122) 39 rfl w2.heap.size 55 i0 _ 2 24 Tryd.underlying39 hi hz0 hz1 hz2 rfl (by decide) _ _ _ rfl (World.ownsRow_nil _ _ _ _) ⟨g2, 0, none⟩ j _ (cellsW (K.take j)) rfl Hl1.out Hn1.out (cellsW_one _) (by unfold maxLen; omega) (by omega) (Nat.le_refl _) ?_; intro v1 w3 hown hgrow hnn; obtain ⟨hb3, hv3, hs3⟩ := rs_after (Below.refl _ w2) (Nat.le_refl _) (fun k hk => by cases hk) hown hgrow; have HO3 := hide hown; have HB3 := hide hb3; have HV3 := hide hv3; clear hown hgrow hnn hb3 hv3)
                    | (at_builtin; refine wpList_append_own _ rfl (.tmp 124) (.tmp 128) 39 rfl w2.heap.size 55 i0 _ 2 24 Tryd.underlying39 hi hz0 hz1 hz2 rfl (by decide) _ _ _ rfl (HO3.out.alloc _) ⟨w3.heap.size, 0, none⟩ 1 1 [.string s, .int .i64 t] rfl rfl (new_cellsW w3 s t) (new_oneW s t) (by unfold maxLen; omega) (by omega) (Nat.le_trans HB3.out.size (by simp)) ?_; intro v2 w4 hown hgrow hnn; obtain ⟨hb4, hv4, hs4⟩ := rs_after (HB3.out.alloc HB3.out.size _) (Nat.le_trans HB3.out.size (by simp)) HV3.out hown hgrow; have HO4 := hide hown; have HB4 := hide hb4; have HV4 := hide hv4; clear hown hgrow hnn hb4 hv4)
                    | (at_builtin; refine wpList_append_own _ rfl (.tmp 131) (.tmp 134) 39 rfl w2.heap.size 55 i0 _ 2 24 Tryd.underlying39 hi hz0 hz1 hz2 rfl (by decide) _ _ _ rfl HO4.out _ 0 _ [] rfl rfl (fun j u hj => by simp at hj) (by simp) (by unfold maxLen; omega) (by omega) HB4.out.size ?_; intro v3 w5 hown hgrow hnn; obtain ⟨hb5, hv5, hs5⟩ := rs_after HB4.out HB4.out.size HV4.out hown hgrow; rw [Nat.zero_add, Nat.add_zero] at hown; obtain ⟨g5, cap5, rfl⟩ := own_formW hown (by omega); obtain ⟨hf0, hf1, hf2⟩ := rs_cells ((hb5.block rp (row_lt HR2.out)).trans HR2.out); have HO5 := hide hown; have HB5 := hide hb5; clear hown hgrow hnn hb5 hv5)
                    | go_in)
                  go_ret
                  rw [HSq.out.1, HSq.out.2, HIn.out]
                  exact ⟨rfl, HEnd.out _ _ _ HB5.out HO5.out⟩
                · have hcn : ¬ cap2 = j := by omega
                  go_wp2_with (first
                    | (at_builtin; refine wpList_append_own _ rfl (.tmp 119) (.tmp 122) 39 rfl w2.heap.size 55 i0 _ 2 24 Tryd.underlying39 hi hz0 hz1 hz2 rfl (by decide) _ _ _ rfl (World.ownsRow_nil _ _ _ _) ⟨g2, 0, none⟩ j _ (cellsW (K.take j)) rfl Hl1.out Hn1.out (cellsW_one _) (by unfold maxLen; omega) (by omega) (Nat.le_refl _) ?_; intro v1 w3 hown hgrow hnn; obtain ⟨hb3, hv3, hs3⟩ := rs_after (Below.refl _ w2) (Nat.le_refl _) (fun k hk => by cases hk) hown hgrow; have HO3 := hide hown; have HB3 := hide hb3; have HV3 := hide hv3; clear hown hgrow hnn hb3 hv3)
                    | (at_builtin; refine wpList_append_own _ rfl (.tmp 124) (.tmp 128) 39 rfl w2.heap.size 55 i0 _ 2 24 Tryd.underlying39 hi hz0 hz1 hz2 rfl (by decide) _ _ _ rfl (HO3.out.alloc _) ⟨w3.heap.size, 0, none⟩ 1 1 [.string s, .int .i64 t] rfl rfl (new_cellsW w3 s t) (new_oneW s t) (by unfold maxLen; omega) (by omega) (Nat.le_trans HB3.out.size (by simp)) ?_; intro v2 w4 hown hgrow hnn; obtain ⟨hb4, hv4, hs4⟩ := rs_after (HB3.out.alloc HB3.out.size _) (Nat.le_trans HB3.out.size (by simp)) HV3.out hown hgrow; have HO4 := hide hown; have HB4 := hide hb4; have HV4 := hide hv4; clear hown hgrow hnn hb4 hv4)
                    | (at_builtin; refine wpList_append_own _ rfl (.tmp 131) (.tmp 134) 39 rfl w2.heap.size 55 i0 _ 2 24 Tryd.underlying39 hi hz0 hz1 hz2 rfl (by decide) _ _ _ rfl HO4.out _ 0 _ [] rfl rfl (fun j u hj => by simp at hj) (by simp) (by unfold maxLen; omega) (by omega) HB4.out.size ?_; intro v3 w5 hown hgrow hnn; obtain ⟨hb5, hv5, hs5⟩ := rs_after HB4.out HB4.out.size HV4.out hown hgrow; rw [Nat.zero_add, Nat.add_zero] at hown; obtain ⟨g5, cap5, rfl⟩ := own_formW hown (by omega); obtain ⟨hf0, hf1, hf2⟩ := rs_cells ((hb5.block rp (row_lt HR2.out)).trans HR2.out); have HO5 := hide hown; have HB5 := hide hb5; clear hown hgrow hnn hb5 hv5)
                    | go_in)
                  go_ret
                  rw [HSq.out.1, HSq.out.2, HIn.out]
                  exact ⟨rfl, HEnd.out _ _ _ HB5.out HO5.out⟩
end Go.Proofs.YtgagekcjdapkfadDoor

/-
  What the document's answer's ReadFloors gives, for any text of at most 4000 bytes: the same list and the same fault as the program's Read.
-/
import Derived.Test.YtgkkffcbneabkabGreatDoorFloorGlue
import Derived.Test.YtgkkffcbneabkabGreatDoorFloorRefRaise
import Derived.Test.YtgkkffcbneabkabGreatDoorFloorRead
import Derived.Deep.DeepCutAuto
import Derived.Deep.LoopGhost
import Derived.Deep.CutBlock
namespace Go.Proofs.YtgkkffcbneabkabGreatDoor
open Go Go.RowKit Go.Extern.Stop Go.Stop Go.Extern Go.Proofs

theorem readEnd {a : Act} {w : World} {R : Ending → World → Prop} (g : Nat) (cs : Array Value) (hp : a.tmps.getD 3 undef = .pointer (some ⟨g, 0, none⟩)) (hg : w.heap[g]? = some (.cells cs 55 (0, 0))) (hn : cs.size = 2) (hd : a.defers = [])
    (hR : R (.returned (.tuple #[a.tmps.getD 2 undef, .agg cs])) w) : bodyPost Tryz.prog Tryz.f39 R .ret a w :=
  bodyPost_ret (res_tmp_cell rfl a.tmps w g _ cs (0, 0) _ hp hg Tryz.underlying55 rfl (by rw [hn]; kernel_rfl)) hd hR

theorem ne58 {b : UInt8} (h : b ≠ 58) : ¬ (b.toNat : Int) = 58 := fun e => by
  have h2 : (58 : UInt8).toNat = 58 := by decide
  exact h (UInt8.toNat_inj.1 (by omega))

attribute [local go_sem] Oper.semAt_some

set_option maxRecDepth 100000 in
set_option maxHeartbeats 16000000 in
theorem refRead_any (s : ByteArray) (w : World) (hs : s.size ≤ 4000) :
    Calls Tryz.prog 39 #[.string s] w fun e w' => FltPost (readC s.data.toList) (readR s.data.toList) w w' e := by
  have hq : (s.toList == [45]) = decide (s.data.toList = [45]) := by
    rw [Lib.toList_data]
    by_cases e : s.data.toList = [45]
    · rw [e]; rfl
    · rw [decide_eq_false e]; exact beq_eq_false_iff_ne.2 e
  have HBare := hide (fun c w => bare_any c w)
  have HFine := hide (fun w => fine_any w)
  have HW0 : Hid (Below w.heap.size w (w.alloc flt0) ∧ (w.alloc flt0).heap[w.heap.size]? = some flt0) := ⟨(Below.refl _ _).alloc (Nat.le_refl _) _, heap_alloc_new _ _⟩
  have HCut := hide (fun w => refCutC_any s w hs)
  by_cases hd : s.data.toList = [45]
  · rw [decide_eq_true hd] at hq
    have HC : Hid (readC s.data.toList = (0, -1) ∧ readR s.data.toList = []) := by
      rw [hd]
      exact ⟨rfl, rfl⟩
    rw [HC.out.1, HC.out.2]
    clear hd HC HCut hs
    go_enter Tryz.func39, Tryz.ntmps39
    go_wp2_with fail
    refine (HFine.out _).mono ?_
    rintro e w9 ⟨rfl, hb9⟩
    have HB9 : Hid (Below w.heap.size w w9) := HW0.out.1.trans (hb9.mono HW0.out.1.size)
    have HR9 : Hid (w9.heap[w.heap.size]? = some flt0) := (hb9.block _ (row_lt HW0.out.2)).trans HW0.out.2
    have r0 : w9.cell? ⟨w.heap.size, 0, none⟩ = some (.int .i64 0) := cell_of_row w9 _ 0 _ _ _ HR9.out
    have r1 : w9.cell? ⟨w.heap.size, 1, none⟩ = some (.int .i64 0) := cell_of_row w9 _ 1 _ _ _ HR9.out
    have z0 : w9.frozen? ⟨w.heap.size, 0, none⟩ = false := frozen_of_row w9 _ 0 _ _ HR9.out
    have z1 : w9.frozen? ⟨w.heap.size, 1, none⟩ = false := frozen_of_row w9 _ 1 _ _ HR9.out
    clear hb9 HW0
    go_wp2
    refine readEnd w.heap.size _ rfl (set2_row HR9.out _ _) rfl rfl ?_
    exact ⟨⟨_, rfl, Or.inl ⟨none, 0, rfl, rfl⟩⟩, (HB9.out.setCell (p := ⟨w.heap.size, 0, none⟩) (Nat.le_refl _) _).setCell (p := ⟨w.heap.size, 0 + 1, none⟩) (Nat.le_refl _) _⟩
  · rw [decide_eq_false hd] at hq
    have HNo : Hid (readAllL (cutB 44 s.data.toList) = none → readC s.data.toList = (1, -1) ∧ readR s.data.toList = []) := fun h => readC_none _ hd h
    have HSo : Hid (∀ r, readAllL (cutB 44 s.data.toList) = some r → readC s.data.toList = checkL r ∧ readR s.data.toList = if (checkL r).1 = 0 then r else []) := fun r h => readC_some _ hd r h
    have HSm : Hid (∀ r, readAllL (cutB 44 s.data.toList) = some r → (∀ f ∈ r, f.who.size ≤ maxLen) ∧ r.length ≤ 4001) := fun r h => by
      obtain ⟨h1, h2⟩ := readAll_small 4000 (cutB 44 s.data.toList) r (fun p hp => Nat.le_trans (cutB_small 44 _ p hp) (by simpa using hs)) h
      have h3 := cutB_len 44 s.data.toList
      rw [size_list] at h3
      exact ⟨fun f hf => Nat.le_trans (h1 f hf) (by decide), by omega⟩
    have HPl : Hid (∀ p ∈ cutB 44 s.data.toList, p.length ≤ 4000) := fun p hp => Nat.le_trans (cutB_small 44 _ p hp) (by simpa using hs)
    have hpl : (cutB 44 s.data.toList).length ≤ 4001 := by
      have h3 := cutB_len 44 s.data.toList
      rw [size_list] at h3
      omega
    obtain ⟨i0, hi, hi0, hi1, hi2⟩ := info_parts Tryz.infoFloor
    clear hd hs
    generalize readC s.data.toList = rc at *
    generalize readR s.data.toList = rr at *
    generalize cutB 44 s.data.toList = ps at *
    generalize hn : ps.length = n at *
    have HN := hide hn
    clear hn
    go_enter Tryz.func39, Tryz.ntmps39
    go_wp2_with fail
    refine (HCut.out _).mono ?_
    rintro e X ⟨pb, pc, rfl, hpc, htx, hb⟩
    have HBX : Hid (Below w.heap.size w X) := HW0.out.1.trans (hb.mono HW0.out.1.size)
    have HRX : Hid (X.heap[w.heap.size]? = some flt0) := (hb.block _ (row_lt HW0.out.2)).trans HW0.out.2
    have HTx := hide htx
    clear hb HW0 HCut htx
    go_wp2
    go_loopg [5, 6] n (fun gg OV iv wr => ∃ (k : Nat) (o : List Fl), k ≤ n ∧ n - k ≤ gg ∧ iv = .int .i64 k ∧ Hid (OwnF wr X.heap.size OV o) ∧ Hid (readAllL (ps.take k) = some o ∧ o.length = k) ∧ Hid (Below X.heap.size X wr))
    case atStart => exact ⟨0, [], Nat.zero_le _, Nat.le_refl _, rfl, (show Hid _ from OwnF.nil _ _), (show Hid _ from ⟨rfl, rfl⟩), (show Hid _ from Below.refl _ _)⟩
    case round =>
      obtain ⟨k, o, hk, hgg, rfl, HOwn, HIn, HBr⟩ := hrel
      have HBw : Hid (Below w.heap.size w wr) := HBX.out.trans (HBr.out.mono HBX.out.size)
      have HRw : Hid (wr.heap[w.heap.size]? = some flt0) := (HBr.out.block _ (row_lt HRX.out)).trans HRX.out
      by_cases hlt : k < n
      · have hkl : k < ps.length := by rw [HN.out]; exact hlt
        have hltz : (k : Int) < (n : Int) := by omega
        have hmm : k < (ps.map txt).length := by rw [List.length_map]; exact hkl
        have HCk : Hid (∀ W, Below X.heap.size X W → W.cell? ⟨pb, k, none⟩ = some (.string (txt (ps[k]'hkl)))) := fun W hW => by
          have := HTx.out k hmm
          rw [Nat.zero_add, List.getElem_map] at this
          rw [hW.cell (p := ⟨pb, k, none⟩) (cell_lt this)]
          exact this
        have c0 := HCk.out wr HBr.out
        obtain ⟨m1, m2⟩ := read_step ps k hkl o HIn.out.1
        have hpz : (txt (ps[k]'hkl)).size ≤ 4000 := by rw [txt_size]; exact HPl.out _ (List.getElem_mem hkl)
        rw [← txt_list (ps[k]'hkl)] at m1 m2
        have HM1 := hide m1
        have HM2 := hide m2
        clear m1 m2
        generalize txt (ps[k]'hkl) = p at *
        go_upto_block 2 with fail
        go_cut [7] (fun s7 wc => (∃ j : Nat, s7 = .int .i64 j ∧ j ≤ p.size ∧ Hid (∀ m (hm : m < p.size), m < j → p[m] ≠ 58) ∧ Hid (∀ hj : j < p.size, p[j] = 58)) ∧ wr = wc)
        case first =>
          go_wp2_with fail
          go_loopg [7] p.size (fun gg s7 wx => ∃ j : Nat, j ≤ p.size ∧ p.size - j ≤ gg ∧ s7 = .int .i64 j ∧ Hid (∀ m (hm : m < p.size), m < j → p[m] ≠ 58) ∧ wr = wx)
          case atStart => exact ⟨0, Nat.zero_le _, Nat.le_refl _, rfl, (show Hid _ from fun m hm h => absurd h (Nat.not_lt_zero _)), rfl⟩
          case round =>
            obtain ⟨j, hj, hgg2, rfl, HNc, rfl⟩ := hrel
            by_cases hjlt : j < p.size
            · have hjz : (j : Int) < (p.size : Int) := by omega
              by_cases hc : p[j] = 58
              · have hqc : ((p[j].toNat : Int) != 58) = false := by rw [hc]; decide
                have hqd : ((p[j].toNat : Int) == 58) = true := by rw [hc]; decide
                have HC := hide hc
                clear hc
                go_wp2
                go_meet
                exact ⟨⟨j, rfl, hj, HNc, (show Hid _ from fun _ => HC.out)⟩, rfl⟩
              · have hne : ¬ (p[j].toNat : Int) = 58 := ne58 hc
                have hqd : ((p[j].toNat : Int) == 58) = false := by rw [beq_eq_false_iff_ne]; exact hne
                have hqc : ((p[j].toNat : Int) != 58) = true := by rw [bne_iff_ne]; exact hne
                have HC := hide hc
                clear hc hne
                go_wp2
                go_roundg (p.size - (j + 1))
                case measure => omega
                case rel =>
                  refine ⟨j + 1, by omega, Nat.le_refl _, by go_num, (show Hid _ from fun m hm h => ?_), rfl⟩
                  by_cases e : m = j
                  · subst e; exact HC.out
                  · exact HNc.out m hm (by omega)
            · have hjz : ¬ (j : Int) < (p.size : Int) := by omega
              go_wp2
              go_meet
              exact ⟨⟨j, rfl, hj, HNc, (show Hid _ from fun h => absurd h hjlt)⟩, rfl⟩
        case rest =>
          obtain ⟨⟨j, rfl, hj, HNc, HAt⟩, rfl⟩ := hcut
          by_cases hjlt : j < p.size
          · have HRo := hide (readOne_at p j hjlt (HAt.out hjlt) HNc.out)
            have HNm := hide (fun w => refNumber_any (p.extract (j + 1) p.size) 9999999999 w (by rw [ByteArray.size_extract]; unfold maxLen; omega))
            have hjne : ((j : Int) == (p.size : Int)) = false := by rw [beq_eq_false_iff_ne]; omega
            have hjn2 : ¬ (j : Int) = (p.size : Int) := by omega
            have hjl : (j : Int) + 1 ≤ (p.size : Int) := by omega
            have hjl2 : (j : Int) ≤ (p.size : Int) := by omega
            have hj0 : (0 : Int) ≤ (j : Int) + 1 := by omega
            clear HNc HAt
            generalize numI (p.extract (j + 1) p.size).data.toList 9999999999 = nv at *
            go_wp2_with fail
            refine (HNm.out _).mono ?_
            rintro e w8 ⟨rfl, hww⟩
            rw [hww]
            clear hww w8 HNm
            by_cases hneg : nv < 0
            · have HQ := hide (HNo.out (HM1.out (HRo.out.1 (by omega))))
              go_wp2_with fail
              refine (HBare.out 1 _).mono ?_
              rintro e w9 ⟨rfl, hb9⟩
              have HB9 : Hid (Below w.heap.size w w9) := HBw.out.trans (hb9.mono HBw.out.size)
              have HR9 : Hid (w9.heap[w.heap.size]? = some flt0) := (hb9.block _ (row_lt HRw.out)).trans HRw.out
              have r0 : w9.cell? ⟨w.heap.size, 0, none⟩ = some (.int .i64 0) := cell_of_row w9 _ 0 _ _ _ HR9.out
              have r1 : w9.cell? ⟨w.heap.size, 1, none⟩ = some (.int .i64 0) := cell_of_row w9 _ 1 _ _ _ HR9.out
              have z0 : w9.frozen? ⟨w.heap.size, 0, none⟩ = false := frozen_of_row w9 _ 0 _ _ HR9.out
              have z1 : w9.frozen? ⟨w.heap.size, 1, none⟩ = false := frozen_of_row w9 _ 1 _ _ HR9.out
              clear hb9
              go_wp2
              refine readEnd w.heap.size _ rfl (set2_row HR9.out _ _) rfl rfl ?_
              rw [HQ.out.1, HQ.out.2]
              exact ⟨⟨_, rfl, Or.inl ⟨none, 0, rfl, rfl⟩⟩, (HB9.out.setCell (p := ⟨w.heap.size, 0, none⟩) (Nat.le_refl _) _).setCell (p := ⟨w.heap.size, 0 + 1, none⟩) (Nat.le_refl _) _⟩
            · have HQ := hide (HM2.out _ (HRo.out.2 (by omega)))
              have HLo : Hid (o.length ≤ 4001) := by have := HIn.out.2; show _ ≤ _; omega
              go_wp2_with (first
                | (at_builtin; refine wpList_append_own _ rfl _ _ 49 rfl X.heap.size 51 i0 _ 2 24 Tryz.underlying49 hi hi0 hi1 hi2 rfl (by decide) _ _ _ rfl (HOwn.out.alloc _) ⟨wr.heap.size, 0, none⟩ 1 1 (Fl.cells ⟨p.extract 0 j, nv⟩) rfl rfl (fun j u hj => cells_src (heap_alloc_new _ _) j u hj) (cells_oneF ⟨p.extract 0 j, nv⟩) (by have := HLo.out; unfold maxLen; omega) (by have := HLo.out; omega) (by have := HBr.out.size; simp; omega) ?_; intro v5 W5 hown' hg5 hnil5
                   have HB5 : Hid (Below X.heap.size X W5) := (HBr.out.alloc HBr.out.size _).grown hg5 (by have := HBr.out.size; simp; omega) (fun g hg => (HOwn.out.lt g hg).1)
                   have HO5 := hide (own_snoc hown')
                   clear hown' hg5 hnil5 HOwn HBr))
              go_wp2
              go_roundg (n - (k + 1))
              case measure => omega
              case rel => exact ⟨k + 1, _, by omega, Nat.le_refl _, by go_num, HO5, (show Hid _ from ⟨HQ.out, by have := HIn.out.2; simp; omega⟩), HB5⟩
          · have hjeq : j = p.size := by omega
            subst hjeq
            have HQ := hide (HNo.out (HM1.out (readOne_none _ (no_colon p (fun m hm => HNc.out m hm hm)))))
            have hjne : ((p.size : Int) == (p.size : Int)) = true := by simp
            clear HNc HAt
            go_wp2_with fail
            refine (HBare.out 1 _).mono ?_
            rintro e w9 ⟨rfl, hb9⟩
            have HB9 : Hid (Below w.heap.size w w9) := HBw.out.trans (hb9.mono HBw.out.size)
            have HR9 : Hid (w9.heap[w.heap.size]? = some flt0) := (hb9.block _ (row_lt HRw.out)).trans HRw.out
            have r0 : w9.cell? ⟨w.heap.size, 0, none⟩ = some (.int .i64 0) := cell_of_row w9 _ 0 _ _ _ HR9.out
            have r1 : w9.cell? ⟨w.heap.size, 1, none⟩ = some (.int .i64 0) := cell_of_row w9 _ 1 _ _ _ HR9.out
            have z0 : w9.frozen? ⟨w.heap.size, 0, none⟩ = false := frozen_of_row w9 _ 0 _ _ HR9.out
            have z1 : w9.frozen? ⟨w.heap.size, 1, none⟩ = false := frozen_of_row w9 _ 1 _ _ HR9.out
            clear hb9
            go_wp2
            refine readEnd w.heap.size _ rfl (set2_row HR9.out _ _) rfl rfl ?_
            rw [HQ.out.1, HQ.out.2]
            exact ⟨⟨_, rfl, Or.inl ⟨none, 0, rfl, rfl⟩⟩, (HB9.out.setCell (p := ⟨w.heap.size, 0, none⟩) (Nat.le_refl _) _).setCell (p := ⟨w.heap.size, 0 + 1, none⟩) (Nat.le_refl _) _⟩
      · have hkn : k = n := by omega
        subst hkn
        have hltz : ¬ (k : Int) < (k : Int) := by omega
        have hall : readAllL ps = some o := by
          have := HIn.out.1
          rwa [List.take_of_length_le (by rw [HN.out]; exact Nat.le_refl _)] at this
        obtain ⟨hsm, hol⟩ := HSm.out o hall
        have HQ := hide (HSo.out o hall)
        have HFf := hide (fun v w h => refFault_any v o w h hsm (by omega))
        have HLx : Hid (w.heap.size < X.heap.size) := row_lt HRX.out
        clear hall hsm HNo HSo HSm HIn
        go_wp2_with fail
        refine (HFf.out _ _ HOwn.out.flAt).mono ?_
        rintro e w4 ⟨rfl, hb4⟩
        have HB4 : Hid (Below w.heap.size w w4) := HBw.out.trans (hb4.mono HBw.out.size)
        have HR4 : Hid (w4.heap[w.heap.size]? = some flt0) := (hb4.block _ (row_lt HRw.out)).trans HRw.out
        have HO4 := hide (HOwn.out.below hb4)
        clear hb4 HFf HOwn HBr HBw HRw
        generalize checkL o = c at *
        have HAl : Hid (Below w.heap.size w (w4.alloc (.cells #[.int .i64 (c.1 : Int), .int .i64 c.2] 55)) ∧ (w4.alloc (.cells #[.int .i64 (c.1 : Int), .int .i64 c.2] 55)).heap[w4.heap.size]? = some (.cells #[.int .i64 (c.1 : Int), .int .i64 c.2] 55 (0, 0)) ∧ (w4.alloc (.cells #[.int .i64 (c.1 : Int), .int .i64 c.2] 55)).heap[w.heap.size]? = some flt0) := ⟨HB4.out.alloc HB4.out.size _, heap_alloc_new _ _, (Below.heap_alloc _ _ _ (row_lt HR4.out)).trans HR4.out⟩
        have HOy : Hid (OwnF (w4.alloc (.cells #[.int .i64 (c.1 : Int), .int .i64 c.2] 55)) X.heap.size _ o) := HO4.out.alloc _
        have hcase : (0 : Int) < (c.1 : Int) ∨ ¬ (0 : Int) < (c.1 : Int) := by omega
        rcases hcase with hz | hz
        all_goals
          go_wp2
          obtain ⟨Y, hY⟩ : ∃ Y, w4.alloc (.cells #[.int .i64 (c.1 : Int), .int .i64 c.2] 55) = Y := ⟨_, rfl⟩
          rw [hY] at HAl HOy ⊢
          clear hY HO4 HB4 HR4
          have x0 : Y.cell? ⟨w4.heap.size, 0, none⟩ = some (.int .i64 (c.1 : Int)) := cell_of_row Y _ 0 _ _ _ HAl.out.2.1
          have x1 : Y.cell? ⟨w4.heap.size, 1, none⟩ = some (.int .i64 c.2) := cell_of_row Y _ 1 _ _ _ HAl.out.2.1
          have y0 : Y.drew.cell? ⟨w4.heap.size, 0, none⟩ = some (.int .i64 (c.1 : Int)) := x0
          have y1 : Y.drew.cell? ⟨w4.heap.size, 1, none⟩ = some (.int .i64 c.2) := x1
          have r0 : Y.cell? ⟨w.heap.size, 0, none⟩ = some (.int .i64 0) := cell_of_row Y _ 0 _ _ _ HAl.out.2.2
          have r1 : Y.cell? ⟨w.heap.size, 1, none⟩ = some (.int .i64 0) := cell_of_row Y _ 1 _ _ _ HAl.out.2.2
          have s0 : Y.drew.cell? ⟨w.heap.size, 0, none⟩ = some (.int .i64 0) := r0
          have s1 : Y.drew.cell? ⟨w.heap.size, 1, none⟩ = some (.int .i64 0) := r1
          have z0 : Y.frozen? ⟨w.heap.size, 0, none⟩ = false := frozen_of_row Y _ 0 _ _ HAl.out.2.2
          have z1 : Y.frozen? ⟨w.heap.size, 1, none⟩ = false := frozen_of_row Y _ 1 _ _ HAl.out.2.2
          have q0 : Y.drew.frozen? ⟨w.heap.size, 0, none⟩ = false := z0
          have q1 : Y.drew.frozen? ⟨w.heap.size, 1, none⟩ = false := z1
          have HRY := hide HAl.out.2.2
          have HBY := hide HAl.out.1
          go_region
          all_goals
            go_wp2
            refine readEnd w.heap.size _ rfl (set2_row (w := Y.drew) HRY.out _ _) rfl rfl ?_
            rw [HQ.out.1, HQ.out.2]
            refine ⟨⟨_, rfl, ?_⟩, (HBY.out.drew.setCell (p := ⟨w.heap.size, 0, none⟩) (Nat.le_refl _) _).setCell (p := ⟨w.heap.size, 0 + 1, none⟩) (Nat.le_refl _) _⟩
            first
              | (rw [if_neg (show ¬ c.1 = 0 by omega)]
                 exact Or.inl ⟨none, 0, rfl, rfl⟩)
              | (rw [if_pos (show c.1 = 0 by omega)]
                 refine OwnF.flAt (HOy.out.keep (fun g hg => ?_))
                 have hg1 := (HOy.out.lt g hg).1
                 have hlx := HLx.out
                 have hk : ∀ (V : World) (v1 v2 : Value), ((V.setCell ⟨w.heap.size, 0, none⟩ v1).setCell ⟨w.heap.size, 0 + 1, none⟩ v2).heap[g]? = V.heap[g]? := fun V v1 v2 => by
                   rw [heap_setCell_other _ ⟨w.heap.size, 0 + 1, none⟩ g _ (by show g ≠ w.heap.size; omega), heap_setCell_other _ ⟨w.heap.size, 0, none⟩ g _ (by show g ≠ w.heap.size; omega)]
                 first
                   | exact hk Y _ _
                   | exact hk Y.drew _ _)
end Go.Proofs.YtgkkffcbneabkabGreatDoor

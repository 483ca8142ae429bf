/-
  The law of GateShut: with no fresh head nothing passes; what passes is for this service, good, and not below the floors; what is below a floor does not pass: it returns true for every input.
-/
import Derived.Test.YtgagekcjdapkfadGreatDoorGatePa
namespace Go.Proofs.YtgagekcjdapkfadGreatDoor
open Go.RowKit Go.Extern.Stop Go.Stop Go.Extern Go.Proofs

set_option maxRecDepth 100000 in
set_option maxHeartbeats 16000000 in
theorem gate_main (a : Nat → Addr) (own old : Int) (v : Value) (l : List En) (vk : Value) (ks : List Kn) (t : Tk) (w : World) (h : Env a w) (hv : EnAt w v l) (hk : KnIn w vk ks) (hs : t.who.size ≤ maxLen) (hs2 : t.dst.size ≤ maxLen) (hlong : longE l = false) (hln : longK ks = false) (hlt : longT t = 0) :
    Calls Tryz.prog 4 #[.int .i64 own, .int .i64 old, v, vk, t.val] w fun e w' => e = .returned (.bool true) ∧ Below w.heap.size w w' := by
  have HB0 : Hid (Below w.heap.size w (w.alloc (tkO t))) := (Below.refl _ w).alloc (Nat.le_refl _) _
  have HR0 : Hid ((w.alloc (tkO t)).heap[w.heap.size]? = some (tkO t)) := heap_alloc_new _ _
  have HFd := hide (gated_any a _ (h.below HB0.out))
  have HLg := hide (fun w h => longEntries_any v l w h)
  rw [if_neg (by rw [hlong]; decide)] at HLg
  have HLk := hide (fun w h => longKnocks_any vk ks w h)
  rw [hln] at HLk
  have HLt := hide (fun w => longTicket_any t w hs hs2)
  rw [hlt] at HLt
  have HNw := hide (fun w h => gaNew_any a doorB 5 own old w h (by decide) (by decide) (by decide))
  have HE := hide h
  have HV := hide hv
  have HK := hide hk
  obtain ⟨hsm, hl61⟩ := shortE hlong
  have hm40 := longK_no hln
  have HSm := hide hsm
  have HL61 := hide hl61
  have HS := hide hs
  obtain ⟨ad, cap, rfl, hcap⟩ := hv.form
  obtain ⟨adk, capk, rfl, hck, hkc⟩ := hk
  have HKc := hide hkc
  clear h hv hs hs2 hlong hln hlt hsm hkc
  rw [tk_val] at HLt ⊢
  obtain ⟨who, dst, ep, frm, til, ser⟩ := t
  dsimp only at HLt HS
  have HMk := hide (fun w h => tkMake_any a 5 ⟨who, doorB, ep, frm, til, ser⟩ w h HS.out (by show doorB.size ≤ maxLen; decide))
  rw [tk_val] at HMk
  dsimp only at HMk
  go_enter Tryz.func4, Tryz.ntmps4
  go_wp2_with fail
  refine HFd.out.mono ?_
  rintro e w1 ⟨rfl, hb⟩
  have HB1 : Hid (Below w.heap.size w w1) := HB0.out.trans (hb.mono HB0.out.size)
  have HR1 : Hid (w1.heap[w.heap.size]? = some (tkO ⟨who, dst, ep, frm, til, ser⟩)) := (hb.block _ (row_lt HR0.out)).trans HR0.out
  obtain ⟨t0, t1, t2, t3, t4, t5⟩ := tk_row HR1.out
  dsimp only at t0 t1 t2 t3 t4 t5
  clear hb HFd HR0
  go_wp2_with fail
  refine (HLg.out _ (HV.out.below HB1.out)).mono ?_
  rintro e w2 ⟨rfl, hw2⟩
  subst hw2
  go_wp2_with fail
  refine (HLk.out _ (HK.out.below HB1.out)).mono ?_
  rintro e w2 ⟨rfl, hw2⟩
  subst hw2
  go_wp2_with fail
  refine (HLt.out _).mono ?_
  rintro e w3 ⟨rfl, hb⟩
  have HB3 : Hid (Below w.heap.size w w3) := HB1.out.trans (hb.mono HB1.out.size)
  have HR3 : Hid (w3.heap[w.heap.size]? = some (tkO ⟨who, dst, ep, frm, til, ser⟩)) := (hb.block _ (row_lt HR1.out)).trans HR1.out
  clear hb HLt HLg HLk HB1 HR1 t0 t1 t2 t3 t4 t5 HB0
  go_wp2_with fail
  refine (HNw.out _ (HE.out.below HB3.out)).mono ?_
  rintro e w4 ⟨hb, ⟨⟨_, ho⟩, p, pf, hpp, hpf, rfl, hG⟩ | ⟨_, pe, rfl⟩⟩
  · have HB4 : Hid (Below w.heap.size w w4) := HB3.out.trans (hb.mono HB3.out.size)
    have HR4 : Hid (w4.heap[w.heap.size]? = some (tkO ⟨who, dst, ep, frm, til, ser⟩)) := (hb.block _ (row_lt HR3.out)).trans HR3.out
    have HO := hide ho
    have HG4 := hide hG
    have HPf : Hid (w.heap.size ≤ pf) := Nat.le_trans HB3.out.size hpf
    have HPn : Hid (p ≠ w.heap.size ∧ pf ≠ w.heap.size) := by have := row_lt HR3.out; exact ⟨by omega, by omega⟩
    obtain ⟨f0, f1, f2, f3, f4, f5⟩ := row_frozen6 HR4.out
    obtain ⟨t0, t1, t2, t3, t4, t5⟩ := tk_row HR4.out
    dsimp only [tkO] at t0 t1 t2 t3 t4 t5 f0 f1 f2 f3 f4 f5
    clear hb hG ho hpp hpf HB3 HR3 HNw
    have HR5 : Hid ((w4.setCell ⟨w.heap.size, 1, none⟩ (.string doorB)).heap[w.heap.size]? = some (tkO ⟨who, doorB, ep, frm, til, ser⟩)) := heap_setCell_same w4 w.heap.size 1 _ _ (.string doorB) HR4.out
    have HB5 : Hid (Below w.heap.size w (w4.setCell ⟨w.heap.size, 1, none⟩ (.string doorB))) := HB4.out.setCell (Nat.le_refl _) _
    have HG5 : Hid (GaAt (w4.setCell ⟨w.heap.size, 1, none⟩ (.string doorB)) p pf (.slice none 0 0) doorB 5 old ⟨own, [], ⟨#[]⟩, -1⟩) :=
      ⟨(heap_setCell_other _ _ _ _ HPn.out.1).trans HG4.out.row, (heap_setCell_other _ _ _ _ HPn.out.2).trans HG4.out.fo.row, OwnE.nil _ _⟩
    go_upto_region 8 with fail
    obtain ⟨W5, hW5⟩ : ∃ W, w4.setCell ⟨w.heap.size, 1, none⟩ (.string doorB) = W := ⟨_, rfl⟩
    rw [hW5] at HB5 HR5 HG5 ⊢
    clear hW5 HB4 HR4 HG4 HPn f0 f1 f2 f3 f4 f5 t0 t1 t2 t3 t4 t5
    obtain ⟨t0, t1, t2, t3, t4, t5⟩ := tk_row HR5.out
    dsimp only at t0 t1 t2 t3 t4 t5
    go_wp2_with fail
    refine (HMk.out _ (HE.out.below HB5.out)).mono ?_
    rintro e w6 ⟨rfl, hb⟩
    have HR : Hid (GSt w w6 p pf old ⟨who, doorB, ep, frm, til, ser⟩) := GSt.below ⟨HB5.out, HPf.out, HR5.out, _, _, HG5.out, keeps_new own⟩ hb
    clear hb HMk HB5 HR5 HG5 t0 t1 t2 t3 t4 t5 HPf
    obtain ⟨T, hT⟩ : ∃ T : Tk, T = ⟨who, doorB, ep, frm, til, ser⟩ := ⟨_, rfl⟩
    rw [← hT] at HR ⊢
    have HT := hide hT
    clear hT
    obtain ⟨bd, hbd⟩ : ∃ bd, bd = errV a (tkMakeE 5 T) := ⟨_, rfl⟩
    obtain ⟨ms, hms⟩ : ∃ ms, ms = tkMakeS 5 T := ⟨_, rfl⟩
    rw [← hbd, ← hms]
    have HBd : Hid ((T.err = 0 ∧ ms = Sl.ofL (Sl.sealL 5 T.words) ∧ bd = .nilIface) ∨ (T.err ≠ 0 ∧ ∃ pe, bd = eV pe)) := by
      have e1 : tkMakeE 5 T = T.err := if_pos (by decide)
      by_cases h0 : T.err = 0
      · exact Or.inl ⟨h0, by rw [hms]; unfold tkMakeS; rw [e1, if_pos h0], by rw [hbd, e1, h0]; rfl⟩
      · exact Or.inr ⟨h0, _, by rw [hbd, e1, errV_posS a _ h0]⟩
    clear hbd hms
    generalize hsn : ks.length = sn at *
    generalize hlen : l.length = n at *
    have HSn := hide hsn
    have HLe := hide hlen
    clear hsn hlen
    go_wp2
    go_loopg [16, 17, 18, 19, 20, 21, 22, 23, 24, 25] sn (fun gg s16 _ _ _ _ _ _ _ _ _ wr => ∃ i : Nat, i ≤ sn ∧ sn - i ≤ gg ∧ s16 = .int .i64 i ∧ Hid (GSt w wr p pf old T))
    case atStart => exact ⟨0, by omega, by omega, rfl, HR⟩
    case round =>
      clear HR
      obtain ⟨i, hi, hgg, rfl, HR⟩ := hrel
      by_cases hlt : i < sn
      · have hltz : (i : Int) < (sn : Int) := by omega
        obtain ⟨b, o, rfl, hbl, hcell⟩ := HKc.out (by omega)
        have hil : i < ks.length := by rw [HSn.out]; exact hlt
        obtain ⟨c0, c1, c2, c3, c4, c5, c6, c7⟩ := hcell i _ (List.getElem?_eq_getElem hil)
        have hbel := HR.out.low
        rw [← hbel.cell (p := ⟨b, o + i * 8, none⟩) hbl] at c0
        rw [← hbel.cell (p := ⟨b, o + i * 8 + 1, none⟩) hbl] at c1
        rw [← hbel.cell (p := ⟨b, o + i * 8 + 2, none⟩) hbl] at c2
        rw [← hbel.cell (p := ⟨b, o + i * 8 + 3, none⟩) hbl] at c3
        rw [← hbel.cell (p := ⟨b, o + i * 8 + 4, none⟩) hbl] at c4
        rw [← hbel.cell (p := ⟨b, o + i * 8 + 5, none⟩) hbl] at c5
        rw [← hbel.cell (p := ⟨b, o + i * 8 + 6, none⟩) hbl] at c6
        rw [← hbel.cell (p := ⟨b, o + i * 8 + 7, none⟩) hbl] at c7
        clear hbel hcell
        generalize ks[i] = mv at *
        obtain ⟨kd, kx, kn, nm, nf, nt, nk, ntx⟩ := mv
        dsimp only at c0 c1 c2 c3 c4 c5 c6 c7
        have HBa : Hid (Below wr.heap.size wr (wr.alloc (knO kd kx kn nm nf nt nk ntx))) := (Below.refl _ _).alloc (Nat.le_refl _) _
        have HRa : Hid ((wr.alloc (knO kd kx kn nm nf nt nk ntx)).heap[wr.heap.size]? = some (knO kd kx kn nm nf nt nk ntx)) := heap_alloc_new _ _
        go_upto_region 13 with fail
        obtain ⟨W1, hW1⟩ : ∃ W, wr.alloc (knO kd kx kn nm nf nt nk ntx) = W := ⟨_, rfl⟩
        rw [hW1] at HBa HRa ⊢
        clear hW1 c0 c1 c2 c3 c4 c5 c6 c7
        have HR1 := hide (HR.out.below HBa.out)
        have hga : ∃ ga, ga = wr.heap.size := ⟨_, rfl⟩
        obtain ⟨ga, hga⟩ := hga
        rw [← hga] at HBa HRa ⊢
        clear hga
        have d0 : W1.cell? ⟨ga, 0, none⟩ = some (.string kd) := cell_of_row W1 ga 0 _ _ _ HRa.out
        clear HR
        by_cases hkd : kd.toList = [116, 97, 107, 101]
        · have hkz : (kd.toList == [116, 97, 107, 101]) = true := by rw [beq_iff_eq]; exact hkd
          have d3 : W1.cell? ⟨ga, 3, none⟩ = some (.int .i64 nm) := cell_of_row W1 ga 3 _ _ _ HRa.out
          have d4 : W1.cell? ⟨ga, 4, none⟩ = some (.int .i64 nf) := cell_of_row W1 ga 4 _ _ _ HRa.out
          have d5 : W1.cell? ⟨ga, 5, none⟩ = some (.int .i64 nt) := cell_of_row W1 ga 5 _ _ _ HRa.out
          have d6 : W1.cell? ⟨ga, 6, none⟩ = some (.int .i64 nk) := cell_of_row W1 ga 6 _ _ _ HRa.out
          have d7 : W1.cell? ⟨ga, 7, none⟩ = some (.string ntx) := cell_of_row W1 ga 7 _ _ _ HRa.out
          have HNo := hide (fun w hv => newsOf_any (.slice ad n cap) l ⟨nm, nf, nt, nk, ntx⟩ w hv HSm.out (by have := HL61.out; have := HLe.out; omega))
          unfold Ns.val at HNo
          dsimp only at HNo
          have HLs : Hid ((∀ e ∈ listX ⟨nm, nf, nt, nk, ntx⟩ l, e.fl.who.size ≤ maxLen) ∧ (listX ⟨nm, nf, nt, nk, ntx⟩ l).length ≤ 100000) := by
            unfold listX
            exact ⟨fun e he => HSm.out e (List.mem_of_mem_take (List.mem_of_mem_drop he)), by rw [List.length_drop, List.length_take]; have := HL61.out; have := HLe.out; omega⟩
          generalize listX ⟨nm, nf, nt, nk, ntx⟩ l = lx at *
          generalize textX ⟨nm, nf, nt, nk, ntx⟩ l = tx at *
          as_aux_lemma =>
            clear hkd HBa HRa
            go_wp2_with fail
            refine (HNo.out _ (HV.out.below HR1.out.low)).mono ?_
            rintro e w7 ⟨⟨ve, rfl, hen⟩, hb⟩
            have HR7 := hide (HR1.out.below hb)
            have HN7 := hide hen
            obtain ⟨ade, cape, rfl, _⟩ := hen.form
            clear hb hen HNo HR1 d0 d3 d4 d5 d6 d7
            go_wp2_with fail
            refine (gst_take a HR7.out HE.out _ _ lx HN7.out HLs.out.1 HLs.out.2).mono ?_
            rintro e w8 ⟨⟨ev, rfl⟩, hR⟩
            have HR8 := hide hR
            clear hR HR7 HN7 HLs
            go_wp2
            go_roundg (sn - (i + 1))
            case measure => omega
            case rel => exact ⟨i + 1, by omega, by omega, by go_num, HR8⟩
        · have hkz : (kd.toList == [116, 97, 107, 101]) = false := by rw [beq_eq_false_iff_ne]; exact hkd
          obtain ⟨_, _, _, vf, s, hga, hkeep⟩ := HR1.out
          have HFw := hide (gaFollower_any W1 p pf vf doorB 5 old s hga hkeep)
          have HKp := hide hkeep
          have HGa := hide hga
          clear hkd hga hkeep
          go_wp2_with fail
          refine HFw.out.mono ?_
          rintro e w7 ⟨q, vq, rfl, hF, hb⟩
          have HG7 : Hid (GRd w w7 p pf q ga old T s kx kn) :=
            ⟨HR1.out.low.trans (hb.mono HR1.out.low.size), HR1.out.pfl, (hb.block _ (row_lt HR1.out.tk)).trans HR1.out.tk, ⟨vf, HGa.out.below hb⟩, ⟨vq, hF⟩, kd, nm, nf, nt, nk, ntx, (hb.block _ (row_lt HRa.out)).trans HRa.out⟩
          clear hb hF HFw HR1 d0 HBa HRa HGa hkz
          go_upto_region 19 with fail
          go_cut [89] (fun s89 wc => s89 = .bool (decide (T.err = 0)) ∧ w7 = wc)
          case first =>
            rcases HBd.out with ⟨h0, hm, rfl⟩ | ⟨h0, pe, rfl⟩
            · have HD := hide (decide_eq_true h0)
              clear h0 hm
              go_wp2
              go_meet
              exact ⟨by rw [HD.out], rfl⟩
            · have HD := hide (decide_eq_false h0)
              clear h0
              go_wp2
              go_meet
              exact ⟨by rw [HD.out], rfl⟩
          case rest =>
          obtain ⟨rfl, rfl⟩ := hcut
          go_upto_if 89 with fail
          go_cut [21, 22, 23] (fun _ _ _ wc => Hid (Below w7.heap.size w7 wc))
          case first =>
            by_cases h0 : T.err = 0
            · rw [decide_eq_true h0]
              have hmine : askC doorB 5 old s ms kn = 0 ↔ freshC s old kn = 0 ∧ T.good kn = 0 ∧ ofL (floorsR s.l) T.who.data.toList ≤ T.epoch := by
                rcases HBd.out with ⟨_, h1, _⟩ | ⟨h1, _⟩
                · rw [h1]; exact ask_mine (name := doorB) (by decide) h0 (by rw [HT.out]) old s kn
                · exact absurd h0 h1
              have HMine := hide hmine
              have HAs := hide (fun W h => GRd.ask a (w := w) (wr := W) (p := p) (pf := pf) (q := q) (gk := ga) (old := old) (t := T) (s := s) (x := kx) (n := kn) h HE.out HKp.out HO.out ms kn)
              have HEv := hide (errV_form a (askC doorB 5 old s ms kn))
              obtain ⟨k1, k2⟩ := HG7.out.kn12
              clear hmine h0
              generalize askT doorB 5 old s ms kn = at1 at *
              generalize askC doorB 5 old s ms kn = ac at *
              generalize errV a ac = ev at *
              rw [tk_val] at HAs
              obtain ⟨ax0, ax1, ax2, ax3, ax4, ax5⟩ := at1
              dsimp only at HAs
              go_wp2_with fail
              refine (HAs.out _ HG7.out).mono ?_
              rintro e w8 ⟨rfl, hb⟩
              have HB8 : Hid (Below w7.heap.size w7 (w8.alloc (tkO ⟨ax0, ax1, ax2, ax3, ax4, ax5⟩))) := hb.alloc hb.size _
              go_upto_region 21 with fail
              obtain ⟨W9, hW9⟩ : ∃ W, w8.alloc (tkO ⟨ax0, ax1, ax2, ax3, ax4, ax5⟩) = W := ⟨_, rfl⟩
              rw [hW9] at HB8 ⊢
              have HG9 := hide (HG7.out.below HB8.out)
              clear hb HAs k1 k2 hW9 HG7
              have HFr := hide (GRd.fresh a HG9.out HE.out HO.out kn)
              have k2 := HG9.out.kn12.2
              go_cut [23] (fun s23 wc => s23 = .bool (decide (freshC s old kn = 0)) ∧ Hid (Below W9.heap.size W9 wc))
              case first =>
                by_cases hf : freshC s old kn = 0
                · have HD := hide (decide_eq_true hf)
                  rw [hf, errV_zero] at HFr
                  clear hf
                  go_wp2_with fail
                  refine HFr.out.mono ?_
                  rintro e w10 ⟨rfl, hb⟩
                  have HB10 := hide hb
                  clear hb HFr k2
                  go_wp2
                  go_meet
                  exact ⟨by rw [HD.out], HB10⟩
                · have HD := hide (decide_eq_false hf)
                  rw [errV_posS a _ hf] at HFr
                  clear hf
                  go_wp2_with fail
                  refine HFr.out.mono ?_
                  rintro e w10 ⟨rfl, hb⟩
                  have HB10 := hide hb
                  clear hb HFr k2
                  go_wp2
                  go_meet
                  exact ⟨by rw [HD.out], HB10⟩
              case rest =>
              obtain ⟨rfl, hB10⟩ := hcut
              obtain ⟨W10, hW10⟩ : ∃ W, W = wc := ⟨_, rfl⟩
              subst hW10
              have HG10 := hide (HG9.out.below hB10.out)
              have HC10 : Hid (Below w7.heap.size w7 W10) := HB8.out.trans (hB10.out.mono HB8.out.size)
              clear hB10 HG9 HFr k2 HB8
              obtain ⟨fr, hfr⟩ : ∃ fr, fr = decide (freshC s old kn = 0) := ⟨_, rfl⟩
              rw [← hfr]
              have HFr := hide hfr
              clear hfr
              have k2 := HG10.out.kn12.2
              go_upto_region 22 with fail
              go_cut [126] (fun s126 wc => s126 = .bool false ∧ Hid (Below W10.heap.size W10 wc))
              case first =>
                as_aux_lemma =>
                  have hiff := fresh_iff HKp.out old kn
                  have HTm := hide (fun nq => (HG10.out.below (below_drewN (Below.refl _ _) nq)).time)
                  have HDn : Hid (∀ nq, Below W10.heap.size W10 (W10.drewN nq)) := fun nq => below_drewN (Below.refl _ _) nq
                  have hwr : (0 ≤ kn ∧ kn ≤ 1000000) → IntKind.i64.wrap (kn - old) = kn - old := fun h => by have := HO.out; rw [IntKind.wrap_i64]; omega
                  generalize s.time = tm at *
                  generalize freshC s old kn = fc at *
                  by_cases h1 : (0 : Int) ≤ kn
                  · by_cases h2 : kn ≤ 1000000
                    · have hwr2 := hwr ⟨h1, h2⟩
                      by_cases h3 : (0 : Int) ≤ tm
                      · by_cases h4 : kn - old ≤ tm
                        · obtain rfl : fr = true := HFr.out.trans (decide_eq_true (hiff.2 ⟨⟨h1, h2⟩, h3, h4⟩))
                          as_aux_lemma =>
                            clear hiff hwr HFr
                            go_quiet (first | (go_at_call 33; exact Calls.quiet_of_same (HTm.out _)))
                            go_wp2
                            go_meet
                            exact ⟨rfl, HDn.out _⟩
                        · obtain rfl : fr = false := HFr.out.trans (decide_eq_false (fun h => h4 (hiff.1 h).2.2))
                          as_aux_lemma =>
                            clear hiff hwr HFr
                            go_quiet (first | (go_at_call 33; exact Calls.quiet_of_same (HTm.out _)))
                            go_wp2
                            go_meet
                            exact ⟨rfl, HDn.out _⟩
                      · obtain rfl : fr = false := HFr.out.trans (decide_eq_false (fun h => h3 (hiff.1 h).2.1))
                        have h3z : decide ((0 : Int) ≤ tm) = false := decide_eq_false h3
                        as_aux_lemma =>
                          clear hiff hwr HFr
                          go_quiet (first | (go_at_call 33; exact Calls.quiet_of_same (HTm.out _)))
                          go_wp2
                          go_meet
                          exact ⟨rfl, HDn.out _⟩
                    · obtain rfl : fr = false := HFr.out.trans (decide_eq_false (fun h => h2 (hiff.1 h).1.2))
                      have h2z : decide (kn ≤ (1000000 : Int)) = false := decide_eq_false h2
                      as_aux_lemma =>
                        clear hiff hwr HFr
                        go_quiet (first | (go_at_call 33; exact Calls.quiet_of_same (HTm.out _)))
                        go_wp2
                        go_meet
                        exact ⟨rfl, HDn.out _⟩
                  · obtain rfl : fr = false := HFr.out.trans (decide_eq_false (fun h => h1 (hiff.1 h).1.1))
                    have h1z : decide ((0 : Int) ≤ kn) = false := decide_eq_false h1
                    as_aux_lemma =>
                      clear hiff hwr HFr
                      go_quiet (first | (go_at_call 33; exact Calls.quiet_of_same (HTm.out _)))
                      go_wp2
                      go_meet
                      exact ⟨rfl, HDn.out _⟩
              case rest =>
              obtain ⟨rfl, hB11⟩ := hcut
              obtain ⟨W11, hW11⟩ : ∃ W, W = wc := ⟨_, rfl⟩
              subst hW11
              have HG11 := hide (HG10.out.below hB11.out)
              have HC11 : Hid (Below w7.heap.size w7 W11) := HC10.out.trans (hB11.out.mono HC10.out.size)
              clear hB11 HG10 k2 HC10
              go_upto_region 24 with fail
              go_cut [146] (fun s146 wc => s146 = .bool false ∧ Hid (Below W11.heap.size W11 wc))
              case first =>
                as_aux_lemma =>
                  have HX : Hid (∀ W, Below W11.heap.size W11 W → GRd w W p pf q ga old T s kx kn) := fun W hb => HG11.out.below hb
                  have HSv : Hid (∀ W, Below W11.heap.size W11 W → Seven W w.heap.size ga T kn) := fun W hb => (HG11.out.below hb).seven (HG11.out.below hb).tk
                  have HD0 : Hid (Below W11.heap.size W11 W11.drew) := (Below.refl _ _).drew
                  have HDn : Hid (∀ nq, Below W11.heap.size W11 (W11.drewN nq)) := fun nq => below_drewN (Below.refl _ _) nq
                  have HTr : Hid (∀ W W', Below W11.heap.size W11 W → Below W.heap.size W W' → Below W11.heap.size W11 W') := fun W W' h1 h2 => h1.trans (h2.mono h1.size)
                  have HGd := hide (fun W h => good_any a T kn W h (by rw [HT.out]; exact HS.out) (by rw [HT.out]; show doorB.size ≤ maxLen; decide))
                  have HFl := hide (fun W h => GRd.floors a (w := w) (wr := W) (p := p) (pf := pf) (q := q) (gk := ga) (old := old) (t := T) (s := s) (x := kx) (n := kn) h HE.out HKp.out)
                  have HPa := hide (fun v W hv => gaPasses_any s T v W hv)
                  rw [tk_val] at HGd
                  obtain ⟨t0, t1, t2, t3, t4, t5, k2⟩ := HSv.out _ (Below.refl _ _)
                  clear HG11 HBd
                  by_cases hf : freshC s old kn = 0
                  · obtain rfl : fr = true := HFr.out.trans (decide_eq_true hf)
                    by_cases hg : T.good kn = 0
                    · rw [hg, errV_zero] at HGd
                      by_cases ho : ofL (floorsR s.l) T.who.data.toList ≤ T.epoch
                      · rw [decide_eq_true ho] at HPa
                        rcases HEv.out with ⟨_, rfl⟩ | ⟨hn, _⟩
                        · generalize floorsR s.l = fl at *
                          clear hf hg ho HFr HMine HEv HT
                          go_region_held3 (fun w' => w'.cell? ⟨w.heap.size, 0, none⟩ = some (.string T.who) ∧ w'.cell? ⟨w.heap.size, 1, none⟩ = some (.string T.dst) ∧ w'.cell? ⟨w.heap.size, 2, none⟩ = some (.int .i64 T.epoch) ∧ w'.cell? ⟨w.heap.size, 3, none⟩ = some (.int .i64 T.frm) ∧ w'.cell? ⟨w.heap.size, 4, none⟩ = some (.int .i64 T.til) ∧ w'.cell? ⟨w.heap.size, 5, none⟩ = some (.int .i64 T.ser) ∧ w'.cell? ⟨ga, 2, none⟩ = some (.int .i64 kn)) (first | go_keep | assumption)
                            (first
                              | (go_at_call 34; refine (HGd.out _ (HE.out.below (HX.out _ HD0.out).low).errs).mono ?_; rintro e w12 ⟨rfl, hb⟩; have HD12 := hide (HTr.out _ _ HD0.out hb); obtain ⟨e0, e1, e2, e3, e4, e5, e6⟩ := HSv.out _ HD12.out; clear hb HGd)
                              | (go_at_call 36; refine (HFl.out _ (HX.out _ HD12.out)).mono ?_; rintro e w13 ⟨v13, rfl, hfl, hb⟩; have HD13 := hide (HTr.out _ _ HD12.out hb); have HF13 := hide hfl; obtain ⟨ad13, cap13, rfl, _⟩ := hfl.form; obtain ⟨g0, g1, g2, g3, g4, g5, g6⟩ := HSv.out _ HD13.out; clear hb hfl HFl)
                              | (go_at_call 35; refine (HPa.out _ _ HF13.out).mono ?_; rintro e w14 ⟨rfl, hb⟩; have HD14 := hide (HTr.out _ _ HD13.out hb); obtain ⟨y0, y1, y2, y3, y4, y5, y6⟩ := HSv.out _ HD14.out; clear hb HPa))
                          go_wp2
                          go_meet
                          exact ⟨rfl, HD14⟩
                        · exact absurd (HMine.out.2 ⟨hf, hg, ho⟩) hn
                      · rw [decide_eq_false ho] at HPa
                        rcases HEv.out with ⟨hz, _⟩ | ⟨_, pe, rfl⟩
                        · exact absurd (HMine.out.1 hz).2.2 ho
                        · generalize floorsR s.l = fl at *
                          clear hf hg ho HFr HMine HEv HT
                          go_region_held3 (fun w' => w'.cell? ⟨w.heap.size, 0, none⟩ = some (.string T.who) ∧ w'.cell? ⟨w.heap.size, 1, none⟩ = some (.string T.dst) ∧ w'.cell? ⟨w.heap.size, 2, none⟩ = some (.int .i64 T.epoch) ∧ w'.cell? ⟨w.heap.size, 3, none⟩ = some (.int .i64 T.frm) ∧ w'.cell? ⟨w.heap.size, 4, none⟩ = some (.int .i64 T.til) ∧ w'.cell? ⟨w.heap.size, 5, none⟩ = some (.int .i64 T.ser) ∧ w'.cell? ⟨ga, 2, none⟩ = some (.int .i64 kn)) (first | go_keep | assumption)
                            (first
                              | (go_at_call 34; refine (HGd.out _ (HE.out.below (HX.out _ HD0.out).low).errs).mono ?_; rintro e w12 ⟨rfl, hb⟩; have HD12 := hide (HTr.out _ _ HD0.out hb); obtain ⟨e0, e1, e2, e3, e4, e5, e6⟩ := HSv.out _ HD12.out; clear hb HGd)
                              | (go_at_call 36; refine (HFl.out _ (HX.out _ HD12.out)).mono ?_; rintro e w13 ⟨v13, rfl, hfl, hb⟩; have HD13 := hide (HTr.out _ _ HD12.out hb); have HF13 := hide hfl; obtain ⟨ad13, cap13, rfl, _⟩ := hfl.form; obtain ⟨g0, g1, g2, g3, g4, g5, g6⟩ := HSv.out _ HD13.out; clear hb hfl HFl)
                              | (go_at_call 35; refine (HPa.out _ _ HF13.out).mono ?_; rintro e w14 ⟨rfl, hb⟩; have HD14 := hide (HTr.out _ _ HD13.out hb); obtain ⟨y0, y1, y2, y3, y4, y5, y6⟩ := HSv.out _ HD14.out; clear hb HPa))
                          go_wp2
                          go_meet
                          exact ⟨rfl, HD14⟩
                    · rw [errV_posS a _ hg] at HGd
                      rcases HEv.out with ⟨hz, _⟩ | ⟨_, pe, rfl⟩
                      · exact absurd (HMine.out.1 hz).2.1 hg
                      · generalize a (T.good kn - 1) = ad12 at *
                        clear hf hg HFr HMine HEv HT HFl HPa
                        have hgl : w.heap.size < W11.heap.size := cell_lt t0
                        have hgl2 : ga < W11.heap.size := cell_lt k2
                        have any1 : Nonempty (BelowAt W11) := BelowAt.any W11
                        have z0 := fun P : BelowAt W11 => P.cell t0 hgl
                        have z1 := fun P : BelowAt W11 => P.cell t1 hgl
                        have z2 := fun P : BelowAt W11 => P.cell t2 hgl
                        have z3 := fun P : BelowAt W11 => P.cell t3 hgl
                        have z4 := fun P : BelowAt W11 => P.cell t4 hgl
                        have z5 := fun P : BelowAt W11 => P.cell t5 hgl
                        have z6 := fun P : BelowAt W11 => P.cell k2 hgl2
                        have HGq := hide (fun P : BelowAt W11 => BelowAt.calls (HGd.out P.to (HE.out.below (HX.out _ P.below).low).errs))
                        clear t0 t1 t2 t3 t4 t5 k2 HGd
                        refine wp_region_below (by kernel_rfl) (by kernel_rfl) ?_
                        repeat (go_big_quiet_step (exact HGq.out _))
                        refine wpQuiet_nil ?_
                        intro _ hw'
                        obtain ⟨pq, hw''⟩ := hw'
                        subst hw''
                        have HDq := hide pq.below
                        clear z0 z1 z2 z3 z4 z5 z6 HGq
                        go_wp2
                        go_meet
                        exact ⟨rfl, HDq⟩
                  · obtain rfl : fr = false := HFr.out.trans (decide_eq_false hf)
                    rcases HEv.out with ⟨hz, _⟩ | ⟨_, pe, rfl⟩
                    · exact absurd (HMine.out.1 hz).1 hf
                    · clear hf HFr HMine HEv HT HFl HPa HGd
                      go_quiet (fail)
                      go_wp2
                      go_meet
                      exact ⟨rfl, HDn.out _⟩
              case rest =>
              obtain ⟨rfl, hB12⟩ := hcut
              have HC12 : Hid (Below w7.heap.size w7 wc) := HC11.out.trans (hB12.out.mono HC11.out.size)
              clear hB12 HG11 HC11 HFr HMine HEv
              go_wp2
              go_meet
              case rel => exact HC12
            · rw [decide_eq_false h0]
              clear h0
              go_wp2
              go_meet
              case rel => exact Below.refl _ _
          case rest =>
          have HG8 := hide (HG7.out.below hcut.out)
          obtain ⟨W8, hW8⟩ : ∃ W, W = wc := ⟨_, rfl⟩
          subst hW8
          clear hcut HG7
          have HAs := hide (GRd.ask a HG8.out HE.out HKp.out HO.out kx kn)
          have HNo := hide (@ask_no doorB 5 old s kx kn)
          have HZe := hide (@ask_zero doorB 5 old s kx kn)
          obtain ⟨k1, k2⟩ := HG8.out.kn12
          by_cases hac : askC doorB 5 old s kx kn = 0
          · obtain ⟨z1, z2, z3, z4⟩ := HZe.out hac
            rw [hac, errV_zero] at HAs
            generalize askT doorB 5 old s kx kn = X at *
            have HFr := hide (fun W h => GRd.fresh a (w := w) (wr := W) (p := p) (pf := pf) (q := q) (gk := ga) (old := old) (t := T) (s := s) (x := kx) (n := kn) h HE.out HO.out kn)
            rw [z1, errV_zero] at HFr
            have HGd := hide (fun W h => good_any a X kn W h (good_small z3).1 (good_small z3).2)
            rw [z3, errV_zero] at HGd
            have HFl := hide (fun W h => GRd.floors a (w := w) (wr := W) (p := p) (pf := pf) (q := q) (gk := ga) (old := old) (t := T) (s := s) (x := kx) (n := kn) h HE.out HKp.out)
            have HPa := hide (fun v W hv => gaPasses_any s X v W hv)
            rw [decide_eq_true z4] at HPa
            have hxd : (X.dst.toList == [100, 111, 111, 114]) = true := by
              rw [z2, Lib.toList_data]
              rfl
            rw [tk_val] at HAs HGd
            as_aux_lemma =>
              obtain ⟨xw, xd, xe, xf, xt, xs⟩ := X
              dsimp only at HAs HGd HPa hxd
              clear HNo HZe hac z1 z2 z3 z4
              generalize floorsR s.l = fl at *
              go_wp2_with fail
              refine HAs.out.mono ?_
              rintro e w9 ⟨rfl, hb⟩
              have HB9 : Hid (Below W8.heap.size W8 (w9.alloc (tkO ⟨xw, xd, xe, xf, xt, xs⟩))) := hb.alloc hb.size _
              have HR9 : Hid ((w9.alloc (tkO ⟨xw, xd, xe, xf, xt, xs⟩)).heap[w9.heap.size]? = some (tkO ⟨xw, xd, xe, xf, xt, xs⟩)) := heap_alloc_new _ _
              go_upto_region 30 with fail
              obtain ⟨W9, hW9⟩ : ∃ W, w9.alloc (tkO ⟨xw, xd, xe, xf, xt, xs⟩) = W := ⟨_, rfl⟩
              rw [hW9] at HB9 HR9 ⊢
              have HG9 := hide (HG8.out.below HB9.out)
              obtain ⟨gx, hgx⟩ : ∃ gx, gx = w9.heap.size := ⟨_, rfl⟩
              rw [← hgx] at HR9 ⊢
              clear hb HAs k1 k2 hW9 HG8 HB9 hgx
              have HX : Hid (∀ W, Below W9.heap.size W9 W → GRd w W p pf q ga old T s kx kn) := fun W hb => HG9.out.below hb
              have HSv : Hid (∀ W, Below W9.heap.size W9 W → Seven W gx ga ⟨xw, xd, xe, xf, xt, xs⟩ kn) := fun W hb => (HG9.out.below hb).seven ((hb.block _ (row_lt HR9.out)).trans HR9.out)
              have HD0 : Hid (Below W9.heap.size W9 W9.drew) := (Below.refl _ _).drew
              have HTr : Hid (∀ W W', Below W9.heap.size W9 W → Below W.heap.size W W' → Below W9.heap.size W9 W') := fun W W' h1 h2 => h1.trans (h2.mono h1.size)
              obtain ⟨t0, t1, t2, t3, t4, t5, k2⟩ := HSv.out _ (Below.refl _ _)
              dsimp only at t0 t1 t2 t3 t4 t5
              clear HG9 HR9
              go_region_held3 (fun w' => w'.cell? ⟨gx, 0, none⟩ = some (.string xw) ∧ w'.cell? ⟨gx, 1, none⟩ = some (.string xd) ∧ w'.cell? ⟨gx, 2, none⟩ = some (.int .i64 xe) ∧ w'.cell? ⟨gx, 3, none⟩ = some (.int .i64 xf) ∧ w'.cell? ⟨gx, 4, none⟩ = some (.int .i64 xt) ∧ w'.cell? ⟨gx, 5, none⟩ = some (.int .i64 xs) ∧ w'.cell? ⟨ga, 2, none⟩ = some (.int .i64 kn)) (first | go_keep | assumption)
                (first
                  | (go_at_call 32; refine (HFr.out _ (HX.out _ HD0.out)).mono ?_; rintro e w11 ⟨rfl, hb⟩; have HD11 := hide (HTr.out _ _ HD0.out hb); obtain ⟨i0, i1, i2, i3, i4, i5, i6⟩ := HSv.out _ HD11.out; clear hb HFr)
                  | (go_at_call 34; refine (HGd.out _ (HE.out.below (HX.out _ HD11.out).low).errs).mono ?_; rintro e w12 ⟨rfl, hb⟩; have HD12 := hide (HTr.out _ _ HD11.out hb); obtain ⟨e0, e1, e2, e3, e4, e5, e6⟩ := HSv.out _ HD12.out; clear hb HGd)
                  | (go_at_call 36; refine (HFl.out _ (HX.out _ HD12.out)).mono ?_; rintro e w13 ⟨v13, rfl, hfl, hb⟩; have HD13 := hide (HTr.out _ _ HD12.out hb); have HF13 := hide hfl; obtain ⟨ad13, cap13, rfl, _⟩ := hfl.form; obtain ⟨g0, g1, g2, g3, g4, g5, g6⟩ := HSv.out _ HD13.out; clear hb hfl HFl)
                  | (go_at_call 35; refine (HPa.out _ _ HF13.out).mono ?_; rintro e w14 ⟨rfl, hb⟩; have HD14 := hide (HTr.out _ _ HD13.out hb); obtain ⟨y0, y1, y2, y3, y4, y5, y6⟩ := HSv.out _ HD14.out; clear hb HPa))
              have HRz := hide ((HX.out _ HD14.out).st HKp.out)
              go_wp2
              go_roundg (sn - (i + 1))
              case measure => omega
              case rel => exact ⟨i + 1, by omega, by omega, by go_num, HRz⟩
          · rw [HNo.out hac, errV_posS a _ hac] at HAs
            as_aux_lemma =>
              generalize a (askC doorB 5 old s kx kn - 1) = ad9 at *
              rw [tk_val] at HAs
              dsimp only [tk0] at HAs
              clear HNo HZe hac
              go_wp2_with fail
              refine HAs.out.mono ?_
              rintro e w9 ⟨rfl, hb⟩
              have HB9 : Hid (Below W8.heap.size W8 (w9.alloc (tkO ⟨⟨#[]⟩, ⟨#[]⟩, 0, 0, 0, 0⟩))) := hb.alloc hb.size _
              have HR9 : Hid ((w9.alloc (tkO ⟨⟨#[]⟩, ⟨#[]⟩, 0, 0, 0, 0⟩)).heap[w9.heap.size]? = some (tkO ⟨⟨#[]⟩, ⟨#[]⟩, 0, 0, 0, 0⟩)) := heap_alloc_new _ _
              go_upto_region 28 with fail
              obtain ⟨W9, hW9⟩ : ∃ W, w9.alloc (tkO ⟨⟨#[]⟩, ⟨#[]⟩, 0, 0, 0, 0⟩) = W := ⟨_, rfl⟩
              rw [hW9] at HB9 HR9 ⊢
              have HRz := hide ((HG8.out.below HB9.out).st HKp.out)
              obtain ⟨t0, t1, t2, t3, t4, t5⟩ := tk_row HR9.out
              dsimp only at t0 t1 t2 t3 t4 t5
              clear hb HAs k1 k2 hW9 HG8 HB9 HR9
              go_wp2
              go_roundg (sn - (i + 1))
              case measure => omega
              case rel => exact ⟨i + 1, by omega, by omega, by go_num, HRz⟩
      · have hltz : ¬ (i : Int) < (sn : Int) := by omega
        go_wp2
        go_ret
        exact ⟨rfl, HR.out.low⟩
  · have HB4 : Hid (Below w.heap.size w w4) := HB3.out.trans (hb.mono HB3.out.size)
    clear hb HB3
    go_wp2
    go_ret
    exact ⟨rfl, HB4.out⟩

theorem gateShut_law (a : Nat → Addr) (own old : Int) (v : Value) (l : List En) (vk : Value) (ks : List Kn) (t : Tk) (w : World) (h : Env a w) (hv : EnAt w v l) (hk : KnIn w vk ks) (hs : t.who.size ≤ maxLen) (hs2 : t.dst.size ≤ maxLen) :
    Calls Tryz.prog 4 #[.int .i64 own, .int .i64 old, v, vk, t.val] w fun e w' => e = .returned (.bool true) ∧ Below w.heap.size w w' := by
  cases hE : earlyG l ks t with
  | true => exact gate_early a own old v l vk ks t w h hv hk hs hs2 hE
  | false =>
    unfold earlyG at hE
    simp only [Bool.or_eq_false_iff, decide_eq_false_iff_not, Decidable.not_not] at hE
    exact gate_main a own old v l vk ks t w h hv hk hs hs2 hE.1.1 hE.1.2 hE.2
end Go.Proofs.YtgagekcjdapkfadGreatDoor

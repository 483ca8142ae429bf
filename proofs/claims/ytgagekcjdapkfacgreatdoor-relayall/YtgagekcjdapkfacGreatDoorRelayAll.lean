/-
  The law of RelayAll: whatever was pushed, and polled, behind All all have what the root has, and nobody has more than who is above: it returns true for every input.
-/
import Derived.Test.YtgagekcjdapkfacGreatDoorRelayPa
import Derived.Deep.CutBlock
namespace Go.Proofs.YtgagekcjdapkfacGreatDoor
open Go.RowKit Go.Extern.Stop Go.Stop Go.Extern Go.Proofs

/-- A tree in memory that holds what holds at any time. -/
structure RSt (w wr : World) (pt : Nat) (vf va : Value) (key : Int) (l : List En) (ab : List Int) (ps : List Nat) : Prop where
  low : Below w.heap.size w wr
  tr : ∃ nd, TrAt wr w.heap.size pt vf va key l ab ps nd ∧ Tre key l ab nd
theorem RSt.below {w wr wz : World} {pt : Nat} {vf va : Value} {key : Int} {l : List En} {ab : List Int} {ps : List Nat} (h : RSt w wr pt vf va key l ab ps) (hb : Below wr.heap.size wr wz) : RSt w wz pt vf va key l ab ps := by
  obtain ⟨h1, nd, h2, h3⟩ := h
  exact ⟨h1.trans (hb.mono h1.size), nd, h2.below hb, h3⟩
/-- All have one and the same. -/
structure RFin (w wr : World) (pt : Nat) (vf va : Value) (key : Int) (l : List En) (ab : List Int) (ps : List Nat) (u : Nd) : Prop where
  low : Below w.heap.size w wr
  tr : ∃ nd, TrAt wr w.heap.size pt vf va key l ab ps nd ∧ Tre key l ab nd ∧ ∀ j, j ≤ ab.length → nd j = u
theorem RFin.below {w wr wz : World} {pt : Nat} {vf va : Value} {key : Int} {l : List En} {ab : List Int} {ps : List Nat} {u : Nd} (h : RFin w wr pt vf va key l ab ps u) (hb : Below wr.heap.size wr wz) : RFin w wz pt vf va key l ab ps u := by
  obtain ⟨h1, nd, h2, h3⟩ := h
  exact ⟨h1.trans (hb.mono h1.size), nd, h2.below hb, h3⟩

theorem rst_push (a : Nat → Addr) {w wr : World} {pt : Nat} {vf va : Value} {key : Int} {l : List En} {ab : List Int} {ps : List Nat} (h : RSt w wr pt vf va key l ab ps) (hE : EnvR a w) (hs : ∀ e ∈ l, e.fl.who.size ≤ maxLen) (hl : l.length ≤ 61) (time : Int) {M F : Nat} (hM : M ≤ l.length) (hF : F ≤ M) (ve : Value) (hv : EnAt wr ve ((l.take M).drop F)) :
    Calls Tryz.prog 47 #[.pointer (some ⟨pt, 0, none⟩), .string (headX key (l.take M) time), ve] wr fun e w' => (∃ ev, e = .returned ev) ∧ RSt w w' pt vf va key l ab ps := by
  obtain ⟨h1, nd, h2, h3⟩ := h
  refine (trPush_any a wr _ pt vf va key l ab ps nd h2 (hE.below h1).env _ ve _ hv hs (fun e he => hs e (List.mem_of_mem_take (List.mem_of_mem_drop he))) (by rw [List.length_drop, List.length_take]; omega)).mono ?_
  rintro e w' ⟨p, hp, ⟨_, rfl, hb⟩ | ⟨h0, rfl, hg, v', hFo⟩⟩
  · exact ⟨⟨_, rfl⟩, RSt.below ⟨h1, nd, h2, h3⟩ hb⟩
  · obtain ⟨u, hu1, hu2, hu3⟩ := push_news (h3.made 0 (Nat.zero_le _)).le hM hF h0
    rw [hu1] at hFo
    exact ⟨⟨_, rfl⟩, h1.grown hg h1.size (fun j hj => by cases hj; exact (h2.f _ _ hp).1), _, h2.turn hp hg hFo, h3.push hu2 hu3⟩
theorem rst_poll (a : Nat → Addr) {w wr : World} {pt : Nat} {vf va : Value} {key : Int} {l : List En} {ab : List Int} {ps : List Nat} (h : RSt w wr pt vf va key l ab ps) (hE : EnvR a w) (hf : Fit ab) (hs : ∀ e ∈ l, e.fl.who.size ≤ maxLen) (hl : l.length ≤ 61) (i : Int) :
    Calls Tryz.prog 48 #[.pointer (some ⟨pt, 0, none⟩), .int .i64 i] wr fun e w' => (∃ n ev, e = .returned (.tuple #[.int .i64 n, ev])) ∧ RSt w w' pt vf va key l ab ps := by
  obtain ⟨h1, nd, h2, h3⟩ := h
  by_cases hi : 1 ≤ i ∧ i ≤ (ab.length : Int)
  · obtain ⟨k, rfl⟩ : ∃ k : Nat, i = ((k + 1 : Nat) : Int) := ⟨i.toNat - 1, by omega⟩
    refine (poll_in a wr w.heap.size pt vf va key l ab ps nd h2 (hE.below h1) h3 hf.1 h1.size hf.2 k (by omega) hs (by omega)).mono ?_
    rintro e w' ⟨⟨n, rfl⟩, h4, h5⟩
    exact ⟨⟨_, _, rfl⟩, h1.trans h5, _, h4, h3.poll hf.1 (by omega) (by omega)⟩
  · refine (poll_out a wr w.heap.size pt vf va key l ab ps nd h2 (hE.below h1).env i hi).mono ?_
    rintro e w' ⟨⟨n, rfl⟩, h4, h5⟩
    exact ⟨⟨_, _, rfl⟩, h1.trans h5, nd, h4, h3⟩
theorem rst_all (a : Nat → Addr) {w wr : World} {pt : Nat} {vf va : Value} {key : Int} {l : List En} {ab : List Int} {ps : List Nat} (h : RSt w wr pt vf va key l ab ps) (hE : EnvR a w) (hf : Fit ab) (hs : ∀ e ∈ l, e.fl.who.size ≤ maxLen) (hl : l.length ≤ 61) :
    Calls Tryz.prog 49 #[.pointer (some ⟨pt, 0, none⟩)] wr fun e w' => (∃ n, e = .returned (.int .i64 n)) ∧ ∃ u, RFin w w' pt vf va key l ab ps u := by
  obtain ⟨h1, nd, h2, h3⟩ := h
  refine (trAll_any a wr w.heap.size pt vf va key l ab ps nd h2 (fun W hb => hE.below (h1.trans hb)) h3 hf.1 h1.size hf.2 hs (by omega)).mono ?_
  rintro e w' ⟨rfl, h4, h5⟩
  exact ⟨⟨_, rfl⟩, nd 0, h1.trans h5, _, h4, polls_tre h3 hf.1 _ (Nat.le_refl _), (polls_at hf.1 _ (Nat.le_refl _)).1⟩
theorem RFin.rst {w wr : World} {pt : Nat} {vf va : Value} {key : Int} {l : List En} {ab : List Int} {ps : List Nat} {u : Nd} (h : RFin w wr pt vf va key l ab ps u) : RSt w wr pt vf va key l ab ps := by
  obtain ⟨h1, nd, h2, h3, _⟩ := h
  exact ⟨h1, nd, h2, h3⟩
theorem fin_all (a : Nat → Addr) {w wr : World} {pt : Nat} {vf va : Value} {key : Int} {l : List En} {ab : List Int} {ps : List Nat} {u : Nd} (h : RFin w wr pt vf va key l ab ps u) (hE : EnvR a w) (hf : Fit ab) (hs : ∀ e ∈ l, e.fl.who.size ≤ maxLen) (hl : l.length ≤ 61) :
    Calls Tryz.prog 49 #[.pointer (some ⟨pt, 0, none⟩)] wr fun e w' => e = .returned (.int .i64 0) ∧ Below w.heap.size w w' := by
  obtain ⟨h1, nd, h2, h3, h4⟩ := h
  refine (trAll_any a wr w.heap.size pt vf va key l ab ps nd h2 (fun W hb => hE.below (h1.trans hb)) h3 hf.1 h1.size hf.2 hs (by omega)).mono ?_
  rintro e w' ⟨rfl, _, h5⟩
  rw [polls_none hf.1 (fun j hj => (h4 j hj).trans (h4 0 (Nat.zero_le _)).symm) _ (Nat.le_refl _)]
  exact ⟨rfl, h1.trans h5⟩
theorem fin_node {w wr : World} {pt : Nat} {vf va : Value} {key : Int} {l : List En} {ab : List Int} {ps : List Nat} {u : Nd} (h : RFin w wr pt vf va key l ab ps u) (hl : l.length ≤ 61) (i : Nat) (hi : i ≤ ab.length) :
    Calls Tryz.prog 50 #[.pointer (some ⟨pt, 0, none⟩), .int .i64 i] wr fun e w' => ∃ q v', e = .returned (.pointer (some ⟨q, 0, none⟩)) ∧ FoAt w' q v' (ndFo key l u) ∧ Below wr.heap.size wr w' := by
  obtain ⟨h1, nd, h2, h3, h4⟩ := h
  have := trNode_any wr w.heap.size pt vf va key l ab ps nd h2 i hi (by omega)
  rw [h4 i hi] at this
  exact this.mono fun e w' ⟨q, v', _, h5, h6, h7⟩ => ⟨q, v', h5, h6, h7⟩
theorem fin_many {w wr : World} {pt : Nat} {vf va : Value} {key : Int} {l : List En} {ab : List Int} {ps : List Nat} {u : Nd} (h : RFin w wr pt vf va key l ab ps u) :
    Calls Tryz.prog 51 #[.pointer (some ⟨pt, 0, none⟩)] wr fun e w' => e = .returned (.int .i64 ((ab.length + 1 : Nat) : Int)) ∧ w' = wr := by
  obtain ⟨h1, nd, h2, h3, h4⟩ := h
  obtain ⟨g, cap, hvf, _⟩ := h2.form
  exact trMany_any wr pt _ _ _ va (by rw [← hvf]; exact h2.row)

/-- The ways on which the statement's function ends at once. -/
def earlyR (ab : List Int) (l : List En) (ms : List Mv) : Bool := decide (15 < ab.length) || longE l || longM ms || decide ((feedC l).1 ≠ 0)
set_option maxRecDepth 100000 in
set_option maxHeartbeats 4000000 in
theorem relay_early (a : Nat → Addr) (key : Int) (vz : Value) (ab : List Int) (v : Value) (l : List En) (vm : Value) (ms : List Mv) (w : World) (h : EnvR a w) (hz : IntsIn w vz ab) (hv : EnAt w v l) (hm : MvIn w vm ms) (hE : earlyR ab l ms = true) :
    Calls Tryz.prog 8 #[.int .i64 key, vz, v, vm] w fun e w' => e = .returned (.bool true) ∧ Below w.heap.size w w' := by
  have HFd := hide (relayed_any a w h)
  have HLg := hide (fun w h => longEntries_any v l w h)
  have HLm := hide (fun w h => longMoves_any vm ms w h)
  have HE := hide h
  have HV := hide hv
  have HM := hide hm
  obtain ⟨adz, capz, rfl, _, _⟩ := hz
  obtain ⟨ad, cap, rfl, hcap⟩ := hv.form
  obtain ⟨adm, capm, rfl, hcm, _⟩ := hm
  clear h hv
  unfold earlyR at hE
  by_cases h15 : 15 < ab.length
  · clear hE
    generalize ab.length = m at *
    have hz15 : (15 : Int) < (m : Int) := by omega
    go_enter Tryz.func8, Tryz.ntmps8
    go_wp2_with fail
    refine HFd.out.mono ?_
    rintro e w1 ⟨rfl, hb⟩
    have HB1 := hide hb
    clear hb HFd HLg HLm
    go_wp2
    go_ret
    exact ⟨rfl, HB1.out⟩
  · rw [decide_eq_false h15, Bool.false_or] at hE
    generalize ab.length = m at *
    have hz15 : ¬ (15 : Int) < (m : Int) := by omega
    cases hlong : longE l with
    | true =>
      rw [if_pos hlong] at HLg
      clear hE hlong
      go_enter Tryz.func8, Tryz.ntmps8
      go_wp2_with fail
      refine HFd.out.mono ?_
      rintro e w1 ⟨rfl, hb⟩
      have HB1 := hide hb
      clear hb HFd
      go_wp2_with fail
      refine (HLg.out _ (HV.out.below HB1.out)).mono ?_
      rintro e w2 ⟨rfl, hw2⟩
      subst hw2
      go_wp2
      go_ret
      exact ⟨rfl, HB1.out⟩
    | false =>
      rw [if_neg (by rw [hlong]; decide)] at HLg
      obtain ⟨hsm, hl61⟩ := shortE hlong
      have HSm := hide hsm
      cases hln : longM ms with
      | true =>
        rw [hln] at HLm
        clear hE hlong hln hsm
        go_enter Tryz.func8, Tryz.ntmps8
        go_wp2_with fail
        refine HFd.out.mono ?_
        rintro e w1 ⟨rfl, hb⟩
        have HB1 := hide hb
        clear hb HFd
        go_wp2_with fail
        refine (HLg.out _ (HV.out.below HB1.out)).mono ?_
        rintro e w2 ⟨rfl, hw2⟩
        subst hw2
        go_wp2_with fail
        refine (HLm.out _ (HM.out.below HB1.out)).mono ?_
        rintro e w2 ⟨rfl, hw2⟩
        subst hw2
        go_wp2
        go_ret
        exact ⟨rfl, HB1.out⟩
      | false =>
        rw [hln] at HLm
        rw [hlong, hln] at hE
        have HC : Hid ((feedC l).1 ≠ 0) := (by simpa using hE : (feedC l).1 ≠ 0)
        have HCh := hide (fun w h hv => fdCheck_any a (.slice ad l.length cap) l w h hv HSm.out (by omega))
        clear hE hlong hln hsm
        generalize feedC l = c at *
        go_enter Tryz.func8, Tryz.ntmps8
        go_wp2_with fail
        refine HFd.out.mono ?_
        rintro e w1 ⟨rfl, hb⟩
        have HB1 := hide hb
        clear hb HFd
        go_wp2_with fail
        refine (HLg.out _ (HV.out.below HB1.out)).mono ?_
        rintro e w2 ⟨rfl, hw2⟩
        subst hw2
        go_wp2_with fail
        refine (HLm.out _ (HM.out.below HB1.out)).mono ?_
        rintro e w2 ⟨rfl, hw2⟩
        subst hw2
        go_wp2_with fail
        refine (HCh.out _ (HE.out.below HB1.out).env.f.errs (HV.out.below HB1.out)).mono ?_
        rintro e w3 ⟨ev, rfl, he, hb⟩
        have HB3 : Hid (Below w.heap.size w w3) := HB1.out.trans (hb.mono HB1.out.size)
        rcases he.cases with ⟨e0, _⟩ | ⟨_, tt, pp, rfl⟩
        · exact absurd e0 HC.out
        · clear he hb HC HCh
          go_wp2
          go_ret
          exact ⟨rfl, HB3.out⟩

theorem textX_none (n : Ns) (l : List En) (h : n.text = ⟨#[]⟩) : textX n l = headX n.key (l.take (manyK n.many l.length)) n.time := by
  unfold textX
  rw [h, if_pos (by rw [Lib.toList_data]; rfl)]
abbrev mvO (kd : ByteArray) (n nm nf nt key : Int) : Obj := .cells #[.string kd, .int .i64 n, .int .i64 nm, .int .i64 nf, .int .i64 nt, .int .i64 key, .string ⟨#[]⟩] 96 (0, 0)

set_option maxRecDepth 100000 in
set_option maxHeartbeats 16000000 in
theorem relay_main (a : Nat → Addr) (key : Int) (vz : Value) (ab : List Int) (v : Value) (l : List En) (vm : Value) (ms : List Mv) (w : World) (h : EnvR a w) (hz : IntsIn w vz ab) (hv : EnAt w v l) (hm : MvIn w vm ms) (hab : ¬ 15 < ab.length) (hlong : longE l = false) (hln : longM ms = false) (hc : (feedC l).1 = 0) :
    Calls Tryz.prog 8 #[.int .i64 key, vz, v, vm] w fun e w' => e = .returned (.bool true) ∧ Below w.heap.size w w' := by
  have HFd := hide (relayed_any a w h)
  have HLg := hide (fun w h => longEntries_any v l w h)
  rw [if_neg (by rw [hlong]; decide)] at HLg
  have HLm := hide (fun w h => longMoves_any vm ms w h)
  rw [hln] at HLm
  have HE := hide h
  have HV := hide hv
  have HMv := hide hm
  have HZ := hide hz
  obtain ⟨hsm, hl61⟩ := shortE hlong
  have hm40 := (longM_no hln).1
  have HSm := hide hsm
  have HCh := hide (fun w h hv => fdCheck_any a v l w h hv HSm.out (by omega))
  have HCz := hide hc
  have HL61 := hide hl61
  obtain ⟨adz, capz, rfl, hcz, hzc⟩ := hz
  have HZc := hide hzc
  obtain ⟨ad, cap, rfl, hcap⟩ := hv.form
  obtain ⟨adm, capm, rfl, hcm, hmc⟩ := hm
  have HMc := hide hmc
  clear h hv hlong hln hsm hc hzc hmc
  generalize hmm : ab.length = m at *
  have HMm := hide hmm
  have hm15 : m ≤ 15 := by omega
  have hz15 : ¬ (15 : Int) < (m : Int) := by omega
  clear hab hmm
  go_enter Tryz.func8, Tryz.ntmps8
  go_wp2_with fail
  refine HFd.out.mono ?_
  rintro e w1 ⟨rfl, hb⟩
  have HB1 := hide hb
  clear hb HFd
  go_wp2_with fail
  refine (HLg.out _ (HV.out.below HB1.out)).mono ?_
  rintro e w1 ⟨rfl, hw⟩
  subst hw
  go_wp2_with fail
  refine (HLm.out _ (HMv.out.below HB1.out)).mono ?_
  rintro e w1 ⟨rfl, hw⟩
  subst hw
  go_wp2_with fail
  refine (HCh.out _ (HE.out.below HB1.out).env.f.errs (HV.out.below HB1.out)).mono ?_
  rintro e w3 ⟨ev, rfl, he, hb⟩
  obtain rfl := he.none HCz.out
  have HB3 : Hid (Below w.heap.size w w3) := HB1.out.trans (hb.mono HB1.out.size)
  have HNw := hide (trNew_any a key (.slice adz m capz) ab l w3 (HE.out.below HB3.out).env (HZ.out.below HB3.out))
  clear hb he HB1 HLg HLm HCh
  go_wp2_with fail
  refine HNw.out.mono ?_
  clear HNw
  rintro e w4 ⟨hb, ⟨⟨hkey, hfit⟩, pt, vf, va, ps, hpt, rfl, hT⟩ | ⟨_, t, pv, rfl⟩⟩
  · have HR : Hid (RSt w w4 pt vf va key l ab ps) := ⟨HB3.out.trans (hb.mono HB3.out.size), _, hT.less HB3.out.size, tre0 _ _ _⟩
    have HFit := hide hfit
    clear hb hT HB3 hpt hkey hfit
    generalize hsn : ms.length = sn at *
    generalize hlen : l.length = n at *
    have HSn := hide hsn
    have HLe := hide hlen
    clear hsn hlen
    go_wp2
    go_loopg [12, 13, 14, 15, 16, 17, 18] sn (fun gg s12 _ _ _ _ _ _ wr => ∃ i : Nat, i ≤ sn ∧ sn - i ≤ gg ∧ s12 = .int .i64 i ∧ Hid (RSt w wr pt vf va key l ab ps))
    case atStart => exact ⟨0, by omega, by omega, rfl, HR⟩
    case round =>
      clear HR
      obtain ⟨i, hi, hgg, rfl, HR⟩ := hrel
      by_cases hlt : i < sn
      · have hltz : (i : Int) < (sn : Int) := by omega
        obtain ⟨b, o, rfl, hbl, hcell⟩ := HMc.out (by omega)
        have hil : i < ms.length := by rw [HSn.out]; exact hlt
        obtain ⟨c0, c1, c2, c3, c4, c5, c6⟩ := hcell i _ (List.getElem?_eq_getElem hil)
        have hbel := HR.out.low
        rw [← hbel.cell (p := ⟨b, o + i * 7, none⟩) hbl] at c0
        rw [← hbel.cell (p := ⟨b, o + i * 7 + 1, none⟩) hbl] at c1
        rw [← hbel.cell (p := ⟨b, o + i * 7 + 2, none⟩) hbl] at c2
        rw [← hbel.cell (p := ⟨b, o + i * 7 + 3, none⟩) hbl] at c3
        rw [← hbel.cell (p := ⟨b, o + i * 7 + 4, none⟩) hbl] at c4
        rw [← hbel.cell (p := ⟨b, o + i * 7 + 5, none⟩) hbl] at c5
        rw [← hbel.cell (p := ⟨b, o + i * 7 + 6, none⟩) hbl] at c6
        clear hbel hcell
        generalize ms[i] = mv at *
        obtain ⟨kd, mn, nm, nf, nt, nk, ntx⟩ := mv
        dsimp only at c0 c1 c2 c3 c4 c5 c6
        have HNo := hide (fun w hv => newsOf_any (.slice ad n cap) l ⟨nm, nf, nt, key, ⟨#[]⟩⟩ w hv HSm.out (by have := HL61.out; have := HLe.out; omega))
        rw [textX_none ⟨nm, nf, nt, key, ⟨#[]⟩⟩ l rfl] at HNo
        unfold Ns.val listX at HNo
        dsimp only at HNo
        have HMl : Hid (manyK nm l.length ≤ l.length) := manyK_le _ _
        generalize manyK nm l.length = M at *
        have HFM : Hid (manyK nf M ≤ M) := manyK_le _ _
        generalize manyK nf M = F at *
        have HPu := hide (fun W h ve hv => rst_push (w := w) (wr := W) (pt := pt) (vf := vf) (va := va) (key := key) (l := l) (ab := ab) (ps := ps) a h HE.out HSm.out (by have := HL61.out; have := HLe.out; omega) nt HMl.out HFM.out ve hv)
        have HPo := hide (fun W h => rst_poll (w := w) (wr := W) (pt := pt) (vf := vf) (va := va) (key := key) (l := l) (ab := ab) (ps := ps) a h HE.out HFit.out HSm.out (by have := HL61.out; have := HLe.out; omega) mn)
        have HAl := hide (fun W h => rst_all (w := w) (wr := W) (pt := pt) (vf := vf) (va := va) (key := key) (l := l) (ab := ab) (ps := ps) a h HE.out HFit.out HSm.out (by have := HL61.out; have := HLe.out; omega))
        generalize headX key (l.take M) nt = hx at *
        generalize (l.take M).drop F = lx at *
        have HBa : Hid (Below wr.heap.size wr (wr.alloc (mvO kd mn nm nf nt key))) := (Below.refl _ _).alloc (Nat.le_refl _) _
        have HRa : Hid ((wr.alloc (mvO kd mn nm nf nt key)).heap[wr.heap.size]? = some (mvO kd mn nm nf nt key)) := heap_alloc_new _ _
        go_upto_block 2 with fail
        obtain ⟨W1, hW1⟩ : ∃ W, wr.alloc (mvO kd mn nm nf nt key) = W := ⟨_, rfl⟩
        rw [hW1] at HBa HRa ⊢
        clear hW1 c0 c1 c2 c3 c4 c5 c6
        have HR1 := hide (HR.out.below HBa.out)
        generalize wr.heap.size = ga at *
        have d0 : W1.cell? ⟨ga, 0, none⟩ = some (.string kd) := cell_of_row W1 ga 0 _ _ _ HRa.out
        have d1 : W1.cell? ⟨ga, 1, none⟩ = some (.int .i64 mn) := cell_of_row W1 ga 1 _ _ _ HRa.out
        have d2 : W1.cell? ⟨ga, 2, none⟩ = some (.int .i64 nm) := cell_of_row W1 ga 2 _ _ _ HRa.out
        have d3 : W1.cell? ⟨ga, 3, none⟩ = some (.int .i64 nf) := cell_of_row W1 ga 3 _ _ _ HRa.out
        have d4 : W1.cell? ⟨ga, 4, none⟩ = some (.int .i64 nt) := cell_of_row W1 ga 4 _ _ _ HRa.out
        have d5 : W1.cell? ⟨ga, 5, none⟩ = some (.int .i64 key) := cell_of_row W1 ga 5 _ _ _ HRa.out
        have d6 : W1.cell? ⟨ga, 6, none⟩ = some (.string ⟨#[]⟩) := cell_of_row W1 ga 6 _ _ _ HRa.out
        clear HR HBa HRa
        go_cut [14, 15] (fun _ _ wc => Hid (RSt w wc pt vf va key l ab ps))
        case first =>
          go_wp2_with (first
            | (go_at_call 33; refine (HNo.out _ (HV.out.below HR1.out.low)).mono ?_; rintro e w5 ⟨⟨ve, rfl, hen⟩, hb⟩; have HR5 := hide (HR1.out.below hb); have HN5 := hide hen; obtain ⟨ade, cape, rfl, _⟩ := hen.form; clear hb hen HNo)
            | (go_at_call 47; refine (HPu.out _ HR5.out _ HN5.out).mono ?_; rintro e w6 ⟨⟨ev, rfl⟩, hR⟩; have HRz := hide hR; clear hR HPu)
            | (go_at_call 48; refine (HPo.out _ HR1.out).mono ?_; rintro e w6 ⟨⟨nn, ev, rfl⟩, hR⟩; have HRz := hide hR; clear hR HPo)
            | (go_at_call 49; refine (HAl.out _ HR1.out).mono ?_; rintro e w6 ⟨⟨nn, rfl⟩, uu, hR⟩; have HRz := hide hR.rst; clear hR HAl))
          all_goals
            go_meet
            case rel => exact HRz
        case rest =>
        have HRc : Hid (RSt w wc pt vf va key l ab ps) := hcut
        clear hcut d0 d1 d2 d3 d4 d5 d6 HNo HPu HPo HAl HR1
        go_wp2
        go_loopg [16, 17, 18] m (fun gg2 s16 _ _ wr => ∃ k : Nat, k ≤ m ∧ m - k ≤ gg2 ∧ s16 = .int .i64 k ∧ Hid (RSt w wr pt vf va key l ab ps))
        case atStart => exact ⟨0, Nat.zero_le _, by omega, rfl, HRc⟩
        case round =>
          clear HRc
          obtain ⟨k, hk, hgg2, rfl, HR⟩ := hrel
          by_cases hlt2 : k < m
          · have hltz2 : (k : Int) < (m : Int) := by omega
            obtain ⟨nd, hT, hTr⟩ := HR.out.tr
            have hka : k < ab.length := by rw [HMm.out]; exact hlt2
            obtain ⟨b2, o2, rfl, hb2l, hx2⟩ := HZc.out (by omega)
            have e0 := hx2 k _ (List.getElem?_eq_getElem hka)
            rw [up_at HFit.out.1 hka, ← HR.out.low.cell (p := ⟨b2, o2 + k, none⟩) hb2l] at e0
            have hul := up_lt HFit.out.1 (i := k + 1) (by omega) (by omega)
            have hmn := (hTr.made (k + 1) (by omega)).le
            have hmu := (hTr.made (up ab (k + 1)) (by omega)).le
            have hle := hTr.ord (k + 1) (by omega) (by omega)
            have HT := hide hT
            have HN1 := hide (fun W h => trNode_any W w.heap.size pt vf va key l ab ps nd h (k + 1) (by omega) (by have := HL61.out; have := HLe.out; omega))
            rw [show ((k + 1 : Nat) : Int) = (k : Int) + 1 from by omega] at HN1
            have HN2 := hide (fun W h => trNode_any W w.heap.size pt vf va key l ab ps nd h (up ab (k + 1)) (by omega) (by have := HL61.out; have := HLe.out; omega))
            have HS1 := hide (fun W p v h => foSeq_any W p v (ndFo key l (nd (k + 1))) h)
            have HS2 := hide (fun W p v h => foSeq_any W p v (ndFo key l (nd (up ab (k + 1)))) h)
            have HT1 := hide (fun W p v h => foTime_any W p v (ndFo key l (nd (k + 1))) h)
            have HT2 := hide (fun W p v h => foTime_any W p v (ndFo key l (nd (up ab (k + 1)))) h)
            rw [show (ndFo key l (nd (k + 1))).l.length = (nd (k + 1)).k from by show (l.take _).length = _; rw [List.length_take]; omega] at HS1
            rw [show (ndFo key l (nd (up ab (k + 1)))).l.length = (nd (up ab (k + 1))).k from by show (l.take _).length = _; rw [List.length_take]; omega] at HS2
            rw [show (ndFo key l (nd (k + 1))).time = (nd (k + 1)).tm from rfl] at HT1
            rw [show (ndFo key l (nd (up ab (k + 1)))).time = (nd (up ab (k + 1))).tm from rfl] at HT2
            have hq1 : ¬ ((nd (up ab (k + 1))).k : Int) < ((nd (k + 1)).k : Int) := by have := hle.1; omega
            have hq2 : ¬ (nd (up ab (k + 1))).tm < (nd (k + 1)).tm := by have := hle.2; omega
            have hw1 : IntKind.i64.wrap ((k : Int) + 1) = (k : Int) + 1 := by rw [IntKind.wrap_i64]; omega
            clear hx2 hT hTr hmn hmu hle hul
            generalize (nd (k + 1)).tm = t1 at *
            generalize (nd (up ab (k + 1))).tm = t2 at *
            generalize (nd (k + 1)).k = k1 at *
            generalize (nd (up ab (k + 1))).k = k2 at *
            generalize nd (k + 1) = nd1 at *
            generalize nd (up ab (k + 1)) = nd2 at *
            generalize up ab (k + 1) = x at *
            go_wp2_with fail
            refine (HN1.out _ HT.out).mono ?_
            rintro e w7 ⟨q1, v7, _, rfl, hF7, hb⟩
            have HR7 := hide (HR.out.below hb)
            have HF7 := hide hF7
            have HT7 := hide (HT.out.below hb)
            have e7 := (hb.cell (p := ⟨b2, o2 + k, none⟩) (Nat.lt_of_lt_of_le hb2l HR.out.low.size)).trans e0
            clear hF7 hb HT HR HN1 e0
            go_wp2_with fail
            refine (HN2.out _ HT7.out).mono ?_
            rintro e w8 ⟨q2, v8, _, rfl, hF8, hb⟩
            have HR8 := hide (HR7.out.below hb)
            have HF8 := hide (HF7.out.below hb)
            have HD8 := hide hF8
            clear hF8 hb HT7 HR7 HN2 HF7 e7
            go_wp2_with fail
            refine (HS1.out _ _ _ HF8.out).mono ?_
            rintro e w8 ⟨rfl, hw⟩
            subst hw
            go_wp2_with fail
            refine (HS2.out _ _ _ HD8.out).mono ?_
            rintro e w8 ⟨rfl, hw⟩
            subst hw
            go_wp2_with fail
            refine (HT1.out _ _ _ HF8.out).mono ?_
            rintro e w8 ⟨rfl, hw⟩
            subst hw
            go_wp2_with fail
            refine (HT2.out _ _ _ HD8.out).mono ?_
            rintro e w8 ⟨rfl, hw⟩
            subst hw
            clear HF8 HD8 HS1 HS2 HT1 HT2
            go_wp2
            go_roundg (m - (k + 1))
            case measure => omega
            case rel => exact ⟨k + 1, by omega, by omega, by go_num, HR8⟩
          · have hltz2 : ¬ (k : Int) < (m : Int) := by omega
            go_wp2
            go_roundg (sn - (i + 1))
            case measure => omega
            case rel => exact ⟨i + 1, by omega, by omega, by go_num, HR⟩
      · have hltz : ¬ (i : Int) < (sn : Int) := by omega
        have HAl := hide (rst_all a HR.out HE.out HFit.out HSm.out (by have := HL61.out; have := HLe.out; omega))
        clear HR
        go_wp2_with fail
        refine HAl.out.mono ?_
        rintro e w5 ⟨⟨n5, rfl⟩, u, hR⟩
        have HR5 := hide hR
        have HN0 := hide (fin_node hR (by have := HL61.out; have := HLe.out; omega) 0 (Nat.zero_le _))
        rw [show ((0 : Nat) : Int) = 0 from rfl] at HN0
        clear hR HAl
        go_wp2_with fail
        refine HN0.out.mono ?_
        rintro e w6 ⟨q0, v0, rfl, hF, hb⟩
        have HR6 := hide (HR5.out.below hb)
        have HF6 := hide hF
        clear hF hb HN0 HR5
        obtain ⟨m1, hm1⟩ : ∃ m1, m1 = m + 1 := ⟨_, rfl⟩
        have HM1 : Hid (m1 = ab.length + 1) := by show _ = _; rw [HMm.out]; exact hm1
        have hm1a : 1 ≤ m1 := by omega
        have hm16 : m1 ≤ 16 := by omega
        clear hm1
        have HKu : Hid (((ndFo key l u).l.length : Nat) = u.k) := by
          obtain ⟨nd, _, hTr, hu⟩ := HR6.out.tr
          have := (hTr.made 0 (Nat.zero_le _)).le
          rw [hu 0 (Nat.zero_le _)] at this
          show (l.take u.k).length = u.k
          rw [List.length_take]
          omega
        have HSq := hide (fun W p v h => foSeq_any W p v (ndFo key l u) h)
        have HTm := hide (fun W p v h => foTime_any W p v (ndFo key l u) h)
        have HFl := hide (fun p v W hE h => foFloors_any a W p v (ndFo key l u) hE h (fun e he => HSm.out e (List.mem_of_mem_take he)) (by show (l.take u.k).length ≤ _; rw [List.length_take]; have := HL61.out; have := HLe.out; omega))
        have HSf := hide (fun v1 v2 W h1 h2 => sameFloors_eq v1 v2 (floorsR (l.take u.k)) W h1 h2 (by have := (floors_right (l.take u.k)).2; omega))
        rw [HKu.out] at HSq
        dsimp only [ndFo] at HTm HFl
        go_wp2
        go_loopg [20, 21] m1 (fun gg s20 _ wr => ∃ j : Nat, 1 ≤ j ∧ j ≤ m1 ∧ m1 - j ≤ gg ∧ s20 = .int .i64 j ∧ Hid (RFin w wr pt vf va key l ab ps u) ∧ Hid (FoAt wr q0 v0 (ndFo key l u)))
        case atStart => exact ⟨1, Nat.le_refl _, hm1a, by omega, rfl, HR6.out, HF6.out⟩
        case round =>
          clear HR6 HF6
          obtain ⟨j, hj1, hj, hgg3, rfl, HR, HF⟩ := hrel
          have HMn := hide (fin_many HR.out)
          rw [← HM1.out] at HMn
          by_cases hlt3 : j < m1
          · have hltz3 : (j : Int) < (m1 : Int) := by omega
            have HNj := hide (fin_node HR.out (by have := HL61.out; have := HLe.out; omega) j (by have := HM1.out; omega))
            go_wp2_with fail
            refine HMn.out.mono ?_
            rintro e wr ⟨rfl, hw⟩
            subst hw
            go_wp2_with fail
            refine HNj.out.mono ?_
            rintro e w7 ⟨q, v7, rfl, hF7, hb⟩
            have HR7 := hide (HR.out.below hb)
            have HD7 := hide (HF.out.below hb)
            have HF7 := hide hF7
            clear hF7 hb HR HF HNj HMn
            go_wp2_with fail
            refine (HSq.out _ _ _ HF7.out).mono ?_
            rintro e w7 ⟨rfl, hw⟩
            subst hw
            go_wp2_with fail
            refine (HSq.out _ _ _ HD7.out).mono ?_
            rintro e w7 ⟨rfl, hw⟩
            subst hw
            go_wp2_with fail
            refine (HTm.out _ _ _ HF7.out).mono ?_
            rintro e w7 ⟨rfl, hw⟩
            subst hw
            go_wp2_with fail
            refine (HTm.out _ _ _ HD7.out).mono ?_
            rintro e w7 ⟨rfl, hw⟩
            subst hw
            go_wp2_with fail
            refine (HFl.out _ _ _ (HE.out.below HR7.out.low).env.f.errs HF7.out).mono ?_
            rintro e w8 ⟨v8, rfl, hown, hb⟩
            have HR8 := hide (HR7.out.below hb)
            have HD8 := hide (HD7.out.below hb)
            have HO8 := hide hown.flAt
            clear hown hb HR7 HD7 HF7
            go_wp2_with fail
            refine (HFl.out _ _ _ (HE.out.below HR8.out.low).env.f.errs HD8.out).mono ?_
            rintro e w9 ⟨v9, rfl, hown, hb⟩
            have HR9 := hide (HR8.out.below hb)
            have HD9 := hide (HD8.out.below hb)
            have HO9 := hide (HO8.out.below hb)
            have HP9 := hide hown.flAt
            clear hown hb HR8 HD8 HO8
            go_wp2_with fail
            refine (HSf.out _ _ _ HO9.out HP9.out).mono ?_
            rintro e w10 ⟨rfl, hb⟩
            have HR10 := hide (HR9.out.below hb)
            have HD10 := hide (HD9.out.below hb)
            clear hb HR9 HD9 HO9 HP9
            go_wp2
            go_roundg (m1 - (j + 1))
            case measure => omega
            case rel => exact ⟨j + 1, by omega, by omega, by omega, by go_num, HR10, HD10⟩
          · have hltz3 : ¬ (j : Int) < (m1 : Int) := by omega
            have HFa := hide (fin_all a HR.out HE.out HFit.out HSm.out (by have := HL61.out; have := HLe.out; omega))
            clear HR HF
            go_wp2_with fail
            refine HMn.out.mono ?_
            rintro e wr ⟨rfl, hw⟩
            subst hw
            go_wp2_with fail
            refine HFa.out.mono ?_
            rintro e w7 ⟨rfl, hb⟩
            have HB7 := hide hb
            clear hb HFa HMn
            go_wp2
            go_ret
            exact ⟨rfl, HB7.out⟩
  · have HB4 : Hid (Below w.heap.size w w4) := HB3.out.trans (hb.mono HB3.out.size)
    clear hb HB3
    go_wp2
    go_ret
    exact ⟨rfl, HB4.out⟩

theorem relayAll_law (a : Nat → Addr) (key : Int) (vz : Value) (ab : List Int) (v : Value) (l : List En) (vm : Value) (ms : List Mv) (w : World) (h : EnvR a w) (hz : IntsIn w vz ab) (hv : EnAt w v l) (hm : MvIn w vm ms) :
    Calls Tryz.prog 8 #[.int .i64 key, vz, v, vm] w fun e w' => e = .returned (.bool true) ∧ Below w.heap.size w w' := by
  cases hE : earlyR ab l ms with
  | true => exact relay_early a key vz ab v l vm ms w h hz hv hm hE
  | false =>
    unfold earlyR at hE
    simp only [Bool.or_eq_false_iff, decide_eq_false_iff_not, Decidable.not_not] at hE
    obtain ⟨⟨⟨h1, h2⟩, h3⟩, h4⟩ := hE
    exact relay_main a key vz ab v l vm ms w h hz hv hm h1 h2 h3 h4
end Go.Proofs.YtgagekcjdapkfacGreatDoor

/-
  The law of FollowRises: floors, times and entries of a follower only rise; with an error nothing changes; what it has is a beginning of one feed: it returns true for every input.
-/
import Derived.Test.YtgagekcjdapkfacGreatDoorFollowNews
namespace Go.Proofs.YtgagekcjdapkfacGreatDoor
open Go.RowKit Go.Extern.Stop Go.Stop Go.Extern Go.Proofs

/-- A follower in memory that has a beginning of a feed. -/
structure FIn (w wr : World) (p : Nat) (key : Int) (l : List En) (k : Nat) : Prop where
  below : Below w.heap.size w wr
  le : k ≤ l.length
  f : ∃ vf hd tm, FoAt wr p vf ⟨key, l.take k, hd, tm⟩
theorem text_empty (n : Ns) (l : List En) (h : n.text = ⟨#[]⟩) : textX n l = headX n.key (l.take (manyK n.many l.length)) n.time := by
  unfold textX
  rw [h, if_pos (by rw [Lib.toList_data]; rfl)]
/-- What is taken of news of a feed. -/
theorem rise_news {key : Int} {l : List En} {k M F : Nat} {hd : ByteArray} {tm time : Int} (hm : M ≤ l.length) (hk : k ≤ l.length) (hf : F ≤ M)
    (h0 : takeC ⟨key, l.take k, hd, tm⟩ (headX key (l.take M) time) ((l.take M).drop F) = 0) :
    ∃ t, takeS ⟨key, l.take k, hd, tm⟩ (headX key (l.take M) time) ((l.take M).drop F) = ⟨key, l.take M, headX key (l.take M) time, t⟩ ∧ k ≤ M ∧ tm ≤ t ∧ floorsC (l.take M) = (0, -1) ∧ (∀ n, ofL (floorsR (l.take k)) n ≤ ofL (floorsR (l.take M)) n) := by
  obtain ⟨h1, h2, h3, h4⟩ := take_news hm hk hf h0
  refine ⟨_, ?_, h1, h3, ?_, fun n => ?_⟩
  · unfold takeS at h2 ⊢
    dsimp only at h2 ⊢
    rw [h2]
  · obtain ⟨g1, g2⟩ := floors_zero h4
    exact (floors_some g1 g2).1
  · have := floors_rise h4 k n
    rwa [List.take_take, Nat.min_eq_left h1] at this
/-- The ways on which the statement's function ends at once. -/
def earlyF (l : List En) (ns : List Ns) (name : ByteArray) : Bool := longE l || longN ns || decide (20 < name.size) || decide ((feedC l).1 ≠ 0)

set_option maxRecDepth 100000 in
set_option maxHeartbeats 4000000 in
theorem rises_early (a : Nat → Addr) (key : Int) (v : Value) (l : List En) (vn : Value) (ns : List Ns) (name : ByteArray) (w : World) (h : EnvW a w) (hv : EnAt w v l) (hn : NsIn w vn ns) (hE : earlyF l ns name = true) :
    Calls Tryz.prog 5 #[.int .i64 key, v, vn, .string name] w fun e w' => e = .returned (.bool true) ∧ Below w.heap.size w w' := by
  have HFd := hide (followed_any a w h)
  have HLg := hide (fun w h => longEntries_any v l w h)
  have HLn := hide (fun w h => longNews_any vn ns w h)
  have HE := hide h
  have HV := hide hv
  have HN := hide hn
  obtain ⟨ad, cap, rfl, hcap⟩ := hv.form
  obtain ⟨ads, caps, rfl, hcs, _⟩ := hn
  clear h hv
  unfold earlyF at hE
  cases hlong : longE l with
  | true =>
    rw [if_pos hlong] at HLg
    clear hE hlong
    go_enter Tryz.func5, Tryz.ntmps5
    go_wp2_with fail
    refine HFd.out.mono ?_
    rintro e w1 ⟨rfl, hb⟩
    have HB1 := hide hb
    clear hb HFd
    go_wp2_with fail
    refine (HLg.out _ (HV.out.below HB1.out)).mono ?_
    rintro e w2 ⟨rfl, hw2⟩
    subst hw2
    go_wp2
    go_ret
    exact ⟨rfl, HB1.out⟩
  | false =>
    rw [if_neg (by rw [hlong]; decide)] at HLg
    obtain ⟨hsm, hl61⟩ := shortE hlong
    have HSm := hide hsm
    cases hln : longN ns with
    | true =>
      rw [hln] at HLn
      clear hE hlong hln hsm
      go_enter Tryz.func5, Tryz.ntmps5
      go_wp2_with fail
      refine HFd.out.mono ?_
      rintro e w1 ⟨rfl, hb⟩
      have HB1 := hide hb
      clear hb HFd
      go_wp2_with fail
      refine (HLg.out _ (HV.out.below HB1.out)).mono ?_
      rintro e w2 ⟨rfl, hw2⟩
      subst hw2
      go_wp2_with fail
      refine (HLn.out _ (HN.out.below HB1.out)).mono ?_
      rintro e w2 ⟨rfl, hw2⟩
      subst hw2
      go_wp2
      go_ret
      exact ⟨rfl, HB1.out⟩
    | false =>
      rw [hln] at HLn
      by_cases hnm : 20 < name.size
      · have hnz : (20 : Int) < (name.size : Int) := by omega
        clear hE hlong hln hsm
        go_enter Tryz.func5, Tryz.ntmps5
        go_wp2_with fail
        refine HFd.out.mono ?_
        rintro e w1 ⟨rfl, hb⟩
        have HB1 := hide hb
        clear hb HFd
        go_wp2_with fail
        refine (HLg.out _ (HV.out.below HB1.out)).mono ?_
        rintro e w2 ⟨rfl, hw2⟩
        subst hw2
        go_wp2_with fail
        refine (HLn.out _ (HN.out.below HB1.out)).mono ?_
        rintro e w2 ⟨rfl, hw2⟩
        subst hw2
        go_wp2
        go_ret
        exact ⟨rfl, HB1.out⟩
      · have hnz : ¬ (20 : Int) < (name.size : Int) := by omega
        rw [hlong, hln, decide_eq_false hnm] at hE
        have HC : Hid ((feedC l).1 ≠ 0) := (by simpa using hE : (feedC l).1 ≠ 0)
        have HCh := hide (fun w h hv => fdCheck_any a (.slice ad l.length cap) l w h hv HSm.out (by omega))
        clear hE hlong hln hsm
        generalize feedC l = c at *
        go_enter Tryz.func5, Tryz.ntmps5
        go_wp2_with fail
        refine HFd.out.mono ?_
        rintro e w1 ⟨rfl, hb⟩
        have HB1 := hide hb
        clear hb HFd
        go_wp2_with fail
        refine (HLg.out _ (HV.out.below HB1.out)).mono ?_
        rintro e w2 ⟨rfl, hw2⟩
        subst hw2
        go_wp2_with fail
        refine (HLn.out _ (HN.out.below HB1.out)).mono ?_
        rintro e w2 ⟨rfl, hw2⟩
        subst hw2
        go_wp2_with fail
        refine (HCh.out _ (HE.out.below HB1.out).f.errs (HV.out.below HB1.out)).mono ?_
        rintro e w3 ⟨ev, rfl, he, hb⟩
        have HB3 : Hid (Below w.heap.size w w3) := HB1.out.trans (hb.mono HB1.out.size)
        rcases he.cases with ⟨e0, _⟩ | ⟨_, tt, pp, rfl⟩
        · exact absurd e0 HC.out
        · clear he hb HC HCh
          go_wp2
          go_ret
          exact ⟨rfl, HB3.out⟩

set_option maxRecDepth 100000 in
set_option maxHeartbeats 16000000 in
theorem rises_main (a : Nat → Addr) (key : Int) (v : Value) (l : List En) (vn : Value) (ns : List Ns) (name : ByteArray) (w : World) (h : EnvW a w) (hv : EnAt w v l) (hn : NsIn w vn ns) (hlong : longE l = false) (hln : longN ns = false) (hnm : ¬ 20 < name.size) (hc : (feedC l).1 = 0) :
    Calls Tryz.prog 5 #[.int .i64 key, v, vn, .string name] w fun e w' => e = .returned (.bool true) ∧ Below w.heap.size w w' := by
  have HFd := hide (followed_any a w h)
  have HLg := hide (fun w h => longEntries_any v l w h)
  rw [if_neg (by rw [hlong]; decide)] at HLg
  have HLn := hide (fun w h => longNews_any vn ns w h)
  rw [hln] at HLn
  have HE := hide h
  have HV := hide hv
  have HNs := hide hn
  obtain ⟨hsm, hl61⟩ := shortE hlong
  have hn30 := (longN_no hln).1
  have HSm := hide hsm
  have HCh := hide (fun w h hv => fdCheck_any a v l w h hv HSm.out (by omega))
  have HCz := hide hc
  obtain ⟨ad, cap, rfl, hcap⟩ := hv.form
  obtain ⟨ads, caps, rfl, hcs, hcells⟩ := hn
  have HSt := hide hcells
  have hnz : ¬ (20 : Int) < (name.size : Int) := by omega
  clear h hv hlong hln hnm hsm hc hcells
  go_enter Tryz.func5, Tryz.ntmps5
  go_wp2_with fail
  refine HFd.out.mono ?_
  rintro e w1 ⟨rfl, hb⟩
  have HB1 := hide hb
  clear hb HFd
  go_wp2_with fail
  refine (HLg.out _ (HV.out.below HB1.out)).mono ?_
  rintro e w2 ⟨rfl, hw2⟩
  subst hw2
  go_wp2_with fail
  refine (HLn.out _ (HNs.out.below HB1.out)).mono ?_
  rintro e w2 ⟨rfl, hw2⟩
  subst hw2
  go_wp2_with fail
  refine (HCh.out _ (HE.out.below HB1.out).f.errs (HV.out.below HB1.out)).mono ?_
  rintro e w3 ⟨ev, rfl, he, hb⟩
  obtain rfl := he.none HCz.out
  have HB3 : Hid (Below w.heap.size w w3) := HB1.out.trans (hb.mono HB1.out.size)
  have HNw := hide (foNew_any a key w3 (HE.out.below HB3.out))
  clear hb he HB1 HLg HLn HCh
  go_wp2_with fail
  refine HNw.out.mono ?_
  clear HNw
  rintro e w4 ⟨hb, ⟨hkey, p, hpw, rfl, hF⟩ | ⟨hkey, rfl⟩⟩
  · have HI : Hid (FIn w w4 p key l 0) := ⟨HB3.out.trans (hb.mono HB3.out.size), Nat.zero_le _, _, _, _, by rw [List.take_zero]; exact hF⟩
    have hpw2 : w.heap.size ≤ p := Nat.le_trans HB3.out.size hpw
    clear hb hF HB3 hpw hkey
    generalize hsn : ns.length = sn at *
    generalize hlen : l.length = n at *
    have HSn := hide hsn
    have HLe := hide hlen
    clear hsn hlen
    go_wp2
    go_loopg [12, 13, 14, 15, 16, 17, 18] sn (fun gg s12 _ _ _ _ _ _ wr => ∃ k i : Nat, i ≤ sn ∧ sn - i ≤ gg ∧ s12 = .int .i64 i ∧ Hid (FIn w wr p key l k))
    case atStart => exact ⟨0, 0, by omega, by omega, rfl, HI⟩
    case round =>
      clear HI
      obtain ⟨k, i, hi, hgg, rfl, HI⟩ := hrel
      by_cases hlt : i < sn
      · have hltz : (i : Int) < (sn : Int) := by omega
        obtain ⟨b, o, rfl, hbl, hcell⟩ := HSt.out (by omega)
        have hil : i < ns.length := by rw [HSn.out]; exact hlt
        obtain ⟨c0, c1, c2, c3, c4⟩ := hcell i _ (List.getElem?_eq_getElem hil)
        have hbel := HI.out.below
        rw [← hbel.cell (p := ⟨b, o + i * 5, none⟩) hbl] at c0
        rw [← hbel.cell (p := ⟨b, o + i * 5 + 1, none⟩) hbl] at c1
        rw [← hbel.cell (p := ⟨b, o + i * 5 + 2, none⟩) hbl] at c2
        rw [← hbel.cell (p := ⟨b, o + i * 5 + 3, none⟩) hbl] at c3
        rw [← hbel.cell (p := ⟨b, o + i * 5 + 4, none⟩) hbl] at c4
        clear hbel hcell
        generalize ns[i] = nn at *
        obtain ⟨nm, nf, nt, nk, ntx⟩ := nn
        dsimp only at c0 c1 c2 c3 c4
        obtain ⟨vf, hd, tm, hF⟩ := HI.out.f
        have HBr : Hid (Below w.heap.size w wr) := HI.out.below
        have HFr := hide hF
        have hkl := HI.out.le
        have hll : l.length ≤ 61 := by rw [HLe.out]; exact hl61
        have HNo := hide (fun w hv => newsOf_any (.slice ad n cap) l ⟨nm, nf, nt, key, ⟨#[]⟩⟩ w hv HSm.out (by omega))
        rw [text_empty ⟨nm, nf, nt, key, ⟨#[]⟩⟩ l rfl] at HNo
        unfold Ns.val listX at HNo
        dsimp only at HNo
        have hM : manyK nm l.length ≤ l.length := manyK_le _ _
        generalize manyK nm l.length = M at *
        have hFM : manyK nf M ≤ M := manyK_le _ _
        generalize manyK nf M = F at *
        have HRn := hide (fun h0 => rise_news (key := key) (hd := hd) (tm := tm) (time := nt) hM hkl hFM h0)
        have HTk := hide (fun ve w hE hF hv => foTake_any a p vf ⟨key, l.take k, hd, tm⟩ (headX key (l.take M) nt) ve ((l.take M).drop F) w hE hF hv (fun e he => HSm.out e (List.mem_of_mem_take he)) (fun e he => HSm.out e (List.mem_of_mem_take (List.mem_of_mem_drop he))) (by dsimp only; rw [List.length_drop, List.length_take, List.length_take]; omega))
        have HCp := hide (fun w h => foCopy_any w p vf ⟨key, l.take k, hd, tm⟩ h (by dsimp only; rw [List.length_take]; omega))
        generalize takeC ⟨key, l.take k, hd, tm⟩ (headX key (l.take M) nt) ((l.take M).drop F) = tc at *
        generalize takeS ⟨key, l.take k, hd, tm⟩ (headX key (l.take M) nt) ((l.take M).drop F) = ts at *
        generalize headX key (l.take M) nt = hx at *
        generalize (l.take M).drop F = lx at *
        have HBa : Hid (Below wr.heap.size wr (wr.alloc (.cells #[.int .i64 nm, .int .i64 nf, .int .i64 nt, .int .i64 key, .string ⟨#[]⟩] 69))) := (Below.refl _ _).alloc (Nat.le_refl _) _
        clear hF HI
        go_wp2_with fail
        obtain ⟨W1, hW1⟩ : ∃ W, wr.alloc (.cells #[.int .i64 nm, .int .i64 nf, .int .i64 nt, .int .i64 key, .string ⟨#[]⟩] 69) = W := ⟨_, rfl⟩
        rw [hW1] at HBa ⊢
        have HB1 : Hid (Below w.heap.size w W1) := HBr.out.trans (HBa.out.mono HBr.out.size)
        have HF1 := hide (HFr.out.below HBa.out)
        clear hW1 HBa HFr HBr c0 c1 c2 c3 c4
        refine (HNo.out _ (HV.out.below HB1.out)).mono ?_
        rintro e w5 ⟨⟨ve, rfl, hen⟩, hb⟩
        have HB5 : Hid (Below w.heap.size w w5) := HB1.out.trans (hb.mono HB1.out.size)
        have HF5 := hide (HF1.out.below hb)
        have HN5 := hide hen
        obtain ⟨ade, cape, rfl, _⟩ := hen.form
        clear hb hen HB1 HF1 HNo
        go_wp2_with fail
        refine (HCp.out _ HF5.out).mono ?_
        rintro e w6 ⟨q, vq, hqw, rfl, hq, hb⟩
        have HB6 : Hid (Below w.heap.size w w6) := HB5.out.trans (hb.mono HB5.out.size)
        have HF6 := hide (HF5.out.below hb)
        have HN6 := hide (HN5.out.below hb)
        have HQ6 := hide hq
        have hpq : p ≠ q := by have := row_lt HF5.out.row; omega
        clear hb hq hqw HB5 HF5 HN5 HCp
        go_wp2_with fail
        refine (HTk.out _ _ (HE.out.below HB6.out) HF6.out HN6.out).mono ?_
        rintro e w7 (⟨hc0, rfl, hb⟩ | ⟨hc0, rfl, hg, v7, hF7⟩)
        · rw [errV_pos a hc0]
          generalize a (tc - 1) = pa at *
          have HB7 : Hid (Below w.heap.size w w7) := HB6.out.trans (hb.mono HB6.out.size)
          have HF7 := hide (HF6.out.below hb)
          have HQ7 := hide (HQ6.out.below hb)
          have HFl := hide (fun p v w hE h => foFloors_any a w p v ⟨key, l.take k, hd, tm⟩ hE h (fun e he => HSm.out e (List.mem_of_mem_take he)) (by dsimp only; rw [List.length_take]; omega))
          have HSf := hide (fun v1 v2 w h1 h2 => sameFloors_eq v1 v2 (floorsR (l.take k)) w h1 h2 (by have := (floors_right (l.take k)).2; omega))
          dsimp only at HFl
          clear hb HB6 HF6 HQ6 HN6 HTk HRn hc0
          go_wp2_with fail
          refine (foSeq_any _ p vf _ HF7.out).mono ?_
          rintro e w8 ⟨rfl, hw⟩
          subst hw
          go_wp2_with fail
          refine (foSeq_any _ q vq _ HQ7.out).mono ?_
          rintro e w8 ⟨rfl, hw⟩
          subst hw
          go_wp2_with fail
          refine (foTime_any _ p vf _ HF7.out).mono ?_
          rintro e w8 ⟨rfl, hw⟩
          subst hw
          go_wp2_with fail
          refine (foTime_any _ q vq _ HQ7.out).mono ?_
          rintro e w8 ⟨rfl, hw⟩
          subst hw
          go_wp2_with fail
          refine (HFl.out _ _ _ (HE.out.below HB7.out).f.errs HF7.out).mono ?_
          rintro e w8 ⟨v8, rfl, hown, hb⟩
          have HB8 : Hid (Below w.heap.size w w8) := HB7.out.trans (hb.mono HB7.out.size)
          have HF8 := hide (HF7.out.below hb)
          have HQ8 := hide (HQ7.out.below hb)
          have HE8 := hide hown.flAt
          clear hb hown HB7 HF7 HQ7
          go_wp2_with fail
          refine (HFl.out _ _ _ (HE.out.below HB8.out).f.errs HQ8.out).mono ?_
          rintro e w9 ⟨v9, rfl, hown, hb⟩
          have HB9 : Hid (Below w.heap.size w w9) := HB8.out.trans (hb.mono HB8.out.size)
          have HF9 := hide (HF8.out.below hb)
          have HE9 := hide (HE8.out.below hb)
          have HD9 := hide hown.flAt
          clear hb hown HB8 HF8 HQ8 HE8 HFl
          go_wp2_with fail
          refine (HSf.out _ _ _ HE9.out HD9.out).mono ?_
          rintro e w10 ⟨rfl, hb⟩
          have HI10 : Hid (FIn w w10 p key l k) := ⟨HB9.out.trans (hb.mono HB9.out.size), hkl, _, _, _, HF9.out.below hb⟩
          clear hb HB9 HF9 HE9 HD9 HSf
          go_wp2
          go_roundg (sn - (i + 1))
          case measure => omega
          case rel => exact ⟨k, i + 1, by omega, by omega, by go_num, HI10⟩
        · obtain ⟨t, hts, hkM, htm, hfc, hof⟩ := HRn.out hc0
          rw [hts] at hF7
          have HB7 : Hid (Below w.heap.size w w7) := HB6.out.grown hg HB6.out.size (fun j hj => by cases hj; exact hpw2)
          have HF7 := hide hF7
          have HQ7 := hide (HQ6.out.grown HF6.out.row (Ne.symm hpq) hg)
          have hlM : (l.take M).length = M := by rw [List.length_take]; omega
          have hlk : (l.take k).length = k := by rw [List.length_take]; omega
          have HSm2 : Hid (∀ e ∈ l.take M, e.fl.who.size ≤ maxLen) := fun e he => HSm.out e (List.mem_of_mem_take he)
          have HSqM := hide (fun w v h => foSeq_any w p v ⟨key, l.take M, hx, t⟩ h)
          have HSqk := hide (fun w v h => foSeq_any w q v ⟨key, l.take k, hd, tm⟩ h)
          have HFlM := hide (fun w v hE h => foFloors_any a w p v ⟨key, l.take M, hx, t⟩ hE h HSm2.out (by dsimp only; rw [List.length_take]; omega))
          have HFlk := hide (fun w v hE h => foFloors_any a w q v ⟨key, l.take k, hd, tm⟩ hE h (fun e he => HSm.out e (List.mem_of_mem_take he)) (by dsimp only; rw [List.length_take]; omega))
          have HEnM := hide (fun w v h => foEntries_any w p v ⟨key, l.take M, hx, t⟩ h (by dsimp only; rw [List.length_take]; omega))
          have HSf := hide (fun v1 v2 w h1 h2 => sameFloors_eq v1 v2 (floorsR (l.take M)) w h1 h2 (by have := (floors_right (l.take M)).2; omega))
          have HSe := hide (fun v1 v2 w h1 h2 => sameEntries_eq v1 v2 (l.take M) w h1 h2 (by rw [List.length_take]; omega))
          have HOM := hide (fun v w h => floorOf_any v (floorsR (l.take M)) name w h (floors_right (l.take M)).1.rising (by have := (floors_right (l.take M)).2; omega))
          have HOk := hide (fun v w h => floorOf_any v (floorsR (l.take k)) name w h (floors_right (l.take k)).1.rising (by have := (floors_right (l.take k)).2; omega))
          have HFds := hide (fun v w hE hv => floors_any a v (l.take M) w hE hv HSm2.out (by rw [List.length_take]; omega))
          have HMt : Hid (∀ W, Below w.heap.size w W → EnAt W (.slice ad M cap) (l.take M)) := fun W hb => EnAt.first (HV.out.below hb) M hM
          dsimp only at HSqM HSqk HFlM HFlk HEnM
          rw [hlM] at HSqM
          rw [hlk] at HSqk
          rw [hfc] at HFds
          have hon := hof name.data.toList
          have HLM : Hid (∃ x, ofL (floorsR (l.take M)) name.data.toList = x ∧ ofL (floorsR (l.take k)) name.data.toList ≤ x) := ⟨_, rfl, hon⟩
          generalize ofL (floorsR (l.take M)) name.data.toList = oM at *
          generalize ofL (floorsR (l.take k)) name.data.toList = ok at *
          have hz1 : ¬ (M : Int) < (k : Int) := by omega
          have hz2 : ¬ t < tm := by omega
          have hz3 : ¬ oM < ok := by omega
          have hz4 : ¬ (n : Int) < (M : Int) := by rw [HLe.out] at hM; omega
          have hz5 : (0 : Int) ≤ (M : Int) := by omega
          have hz6 : (M : Int) ≤ (cap : Int) := by omega
          clear hg hF7 HB6 HF6 HQ6 HN6 HTk HRn hc0 hts hof hon hlM hlk hfc HLM htm
          go_wp2_with fail
          refine (HSqM.out _ _ HF7.out).mono ?_
          rintro e w8 ⟨rfl, hw⟩
          subst hw
          go_wp2_with fail
          refine (HSqk.out _ _ HQ7.out).mono ?_
          rintro e w8 ⟨rfl, hw⟩
          subst hw
          go_wp2_with fail
          refine (foTime_any _ p v7 _ HF7.out).mono ?_
          rintro e w8 ⟨rfl, hw⟩
          subst hw
          go_wp2_with fail
          refine (foTime_any _ q vq _ HQ7.out).mono ?_
          rintro e w8 ⟨rfl, hw⟩
          subst hw
          go_wp2_with fail
          refine (HFlM.out _ _ (HE.out.below HB7.out).f.errs HF7.out).mono ?_
          rintro e w8 ⟨v8, rfl, hown, hb⟩
          have HB8 : Hid (Below w.heap.size w w8) := HB7.out.trans (hb.mono HB7.out.size)
          have HF8 := hide (HF7.out.below hb)
          have HQ8 := hide (HQ7.out.below hb)
          have HE8 := hide hown.flAt
          clear hb hown HB7 HF7 HQ7
          go_wp2_with fail
          refine (HOM.out _ _ HE8.out).mono ?_
          rintro e w9 ⟨rfl, hb⟩
          have HB9 : Hid (Below w.heap.size w w9) := HB8.out.trans (hb.mono HB8.out.size)
          have HF9 := hide (HF8.out.below hb)
          have HQ9 := hide (HQ8.out.below hb)
          clear hb HB8 HF8 HQ8 HE8 HOM
          go_wp2_with fail
          refine (HFlk.out _ _ (HE.out.below HB9.out).f.errs HQ9.out).mono ?_
          rintro e w10 ⟨v10, rfl, hown, hb⟩
          have HB10 : Hid (Below w.heap.size w w10) := HB9.out.trans (hb.mono HB9.out.size)
          have HF10 := hide (HF9.out.below hb)
          have HE10 := hide hown.flAt
          clear hb hown HB9 HF9 HQ9 HFlk
          go_wp2_with fail
          refine (HOk.out _ _ HE10.out).mono ?_
          rintro e w11 ⟨rfl, hb⟩
          have HB11 : Hid (Below w.heap.size w w11) := HB10.out.trans (hb.mono HB10.out.size)
          have HF11 := hide (HF10.out.below hb)
          clear hb HB10 HF10 HE10 HOk
          go_wp2_with fail
          refine (HEnM.out _ _ HF11.out).mono ?_
          rintro e w12 ⟨v12, rfl, hown, hb⟩
          have HB12 : Hid (Below w.heap.size w w12) := HB11.out.trans (hb.mono HB11.out.size)
          have HF12 := hide (HF11.out.below hb)
          have HE12 := hide hown.enAt
          clear hb hown HB11 HF11
          go_wp2_with fail
          refine (HFds.out _ _ (HE.out.below HB12.out).f.errs HE12.out).mono ?_
          rintro e w13 ⟨⟨v13, ev, rfl, hown, herr, hnil⟩, hb⟩
          obtain rfl := herr.none rfl
          have HB13 : Hid (Below w.heap.size w w13) := HB12.out.trans (hb.mono HB12.out.size)
          have HF13 := hide (HF12.out.below hb)
          have HE13 := hide hown.flAt
          clear hb hown herr hnil HB12 HF12 HE12 HFds
          go_wp2_with fail
          refine (HFlM.out _ _ (HE.out.below HB13.out).f.errs HF13.out).mono ?_
          rintro e w14 ⟨v14, rfl, hown, hb⟩
          have HB14 : Hid (Below w.heap.size w w14) := HB13.out.trans (hb.mono HB13.out.size)
          have HF14 := hide (HF13.out.below hb)
          have HE14 := hide (HE13.out.below hb)
          have HD14 := hide hown.flAt
          clear hb hown HB13 HF13 HE13 HFlM
          go_wp2_with fail
          refine (HSf.out _ _ _ HE14.out HD14.out).mono ?_
          rintro e w15 ⟨rfl, hb⟩
          have HB15 : Hid (Below w.heap.size w w15) := HB14.out.trans (hb.mono HB14.out.size)
          have HF15 := hide (HF14.out.below hb)
          clear hb HB14 HF14 HE14 HD14 HSf
          go_wp2_with fail
          refine (HSqM.out _ _ HF15.out).mono ?_
          rintro e w16 ⟨rfl, hw⟩
          subst hw
          go_wp2_with fail
          refine (HEnM.out _ _ HF15.out).mono ?_
          rintro e w16 ⟨v16, rfl, hown, hb⟩
          have HB16 : Hid (Below w.heap.size w w16) := HB15.out.trans (hb.mono HB15.out.size)
          have HF16 := hide (HF15.out.below hb)
          have HE16 := hide hown.enAt
          clear hb hown HB15 HF15 HEnM
          go_wp2_with fail
          refine (HSqM.out _ _ HF16.out).mono ?_
          rintro e w17 ⟨rfl, hw⟩
          subst hw
          go_wp2_with fail
          refine (HSe.out _ _ _ HE16.out (HMt.out _ HB16.out)).mono ?_
          rintro e w18 ⟨rfl, hb⟩
          have HI18 : Hid (FIn w w18 p key l M) := ⟨HB16.out.trans (hb.mono HB16.out.size), hM, _, _, _, HF16.out.below hb⟩
          clear hb HB16 HF16 HE16 HSe HSqM HSqk
          go_wp2
          go_roundg (sn - (i + 1))
          case measure => omega
          case rel => exact ⟨M, i + 1, by omega, by omega, by go_num, HI18⟩
      · have hltz : ¬ (i : Int) < (sn : Int) := by omega
        go_wp2
        go_ret
        exact ⟨rfl, HI.out.below⟩
  · have HB4 : Hid (Below w.heap.size w w4) := HB3.out.trans (hb.mono HB3.out.size)
    clear hb HB3 hkey
    go_wp2
    go_ret
    exact ⟨rfl, HB4.out⟩

theorem followRises_law (a : Nat → Addr) (key : Int) (v : Value) (l : List En) (vn : Value) (ns : List Ns) (name : ByteArray) (w : World) (h : EnvW a w) (hv : EnAt w v l) (hn : NsIn w vn ns) :
    Calls Tryz.prog 5 #[.int .i64 key, v, vn, .string name] w fun e w' => e = .returned (.bool true) ∧ Below w.heap.size w w' := by
  cases hE : earlyF l ns name with
  | true => exact rises_early a key v l vn ns name w h hv hn hE
  | false =>
    unfold earlyF at hE
    simp only [Bool.or_eq_false_iff, decide_eq_false_iff_not, Decidable.not_not] at hE
    obtain ⟨⟨⟨h1, h2⟩, h3⟩, h4⟩ := hE
    exact rises_main a key v l vn ns name w h hv hn h1 h2 h3 h4
end Go.Proofs.YtgagekcjdapkfacGreatDoor

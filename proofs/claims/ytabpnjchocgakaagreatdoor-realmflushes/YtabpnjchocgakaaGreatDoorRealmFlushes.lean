/-
  RealmFlushes: behind a Flush no ticket of ahead of it passes; whoever logs in behind it, also one who came later, passes.
-/
import Derived.Test.YtabpnjchocgakaaGreatDoorRealmLaw
import Derived.Test.YtabpnjchocgakaaGreatDoorPk16
import Derived.Deep.RegionHeld3
import Derived.Deep.CutBlock
import Derived.Deep.DeepCutAuto
namespace Go.Proofs.YtabpnjchocgakaaGreatDoor
open Go Go.RowKit Go.Extern.Stop Go.Stop Go.Extern Go.Proofs Go.Maps
set_option maxRecDepth 100000 in
set_option maxHeartbeats 16000000 in
theorem realmFlushes_law (a : Nat → Addr) (long : Int) (v : Value) (l : List Aq) (x y z : ByteArray) (W : World) (hE : Env a W) (hv : AqIn W v l) :
  Calls Tryz.prog 4 #[.int .i64 long, v, .string x, .string y, .string z] W fun e w' => e = .returned (.bool true) ∧ Below W.heap.size W w' := by
 have HRe := hide (reigned_any a W hE)
 have HLong := hide (fun w (hb : Below W.heap.size W w) => longAsks_any 50 v l w (hv.below hb) (by decide))
 have HE := hide hE
 obtain ⟨ad, cap, rfl, hcap, hcell⟩ := hv
 have HV := hide hcell
 have HNo := hide (fun (h : longAq 50 l = false) => And.intro (longAq_no h).1 (longAq_fine h))
 generalize hn : l.length = n at *
 have HN := hide hn
 clear hE hcell hn
 go_enter Tryz.func4, Tryz.ntmps4
 go_wp2_with fail
 refine HRe.out.mono ?_
 rintro e w1 ⟨rfl, hb⟩
 have HB1 := hide hb
 clear hb HRe
 go_wp2_with fail
 refine (HLong.out w1 HB1.out).mono ?_
 rintro e w2 ⟨rfl, rfl⟩
 clear HLong
 cases hlw : longAq 50 l with
 | true =>
  go_wp2
  go_ret
  exact ⟨rfl, HB1.out⟩
 | false =>
  obtain ⟨hn50, hfine⟩ := HNo.out hlw
  have HS := hide hfine
  clear HNo hlw hfine
  by_cases hx : (20 : Int) < (x.size : Int)
  ·
   go_wp2
   go_ret
   exact ⟨rfl, HB1.out⟩
  by_cases hy : (20 : Int) < (y.size : Int)
  ·
   go_wp2
   go_ret
   exact ⟨rfl, HB1.out⟩
  by_cases hz : (20 : Int) < (z.size : Int)
  ·
   go_wp2
   go_ret
   exact ⟨rfl, HB1.out⟩
  have HX : Hid (x.size ≤ maxLen ∧ y.size ≤ maxLen ∧ z.size ≤ maxLen ∧ z.size ≤ 1000) := by
   unfold maxLen
   exact ⟨by omega, by omega, by omega, by omega⟩
  have HNew := hide (rpNew_any a 7 long w2 (HE.out.below HB1.out).errs)
  have HRn := hide (fun w => refNewR_any 7 long w)
  go_wp2_with fail
  refine HNew.out.mono ?_
  rintro e w3 ⟨hb3, ⟨h0, rp, bp, mb, rfl, hR, hM⟩ | ⟨h0, rfl⟩⟩
  rotate_left
  ·
   have HB3 : Hid (Below W.heap.size W w3) := HB1.out.trans (hb3.mono HB1.out.size)
   have H0 := hide h0
   obtain ⟨t, p, hev⟩ := err_iface (a := a) h0
   rw [hev]
   clear hb3 h0 hev HNew
   go_wp2_with fail
   refine (HRn.out w3).mono ?_
   rintro e w4 ⟨hb4, ⟨h1, _⟩ | ⟨h1, rfl⟩⟩
   ·
    exact absurd h1 H0.out
   ·
    have HB4 : Hid (Below W.heap.size W w4) := HB3.out.trans (hb4.mono HB3.out.size)
    have hpos : (0 : Int) < (rmC 7 long : Int) := by omega
    clear hb4 h1 HRn
    generalize (rmC 7 long : Int) = c at *
    go_wp2
    go_ret
    exact ⟨rfl, HB4.out⟩
  have HM3 := hide hM
  have HR3 := hide hR
  have HB3 := hide hb3
  have H0 := hide h0
  clear hb3 hR hM h0 HNew
  go_wp2_with fail
  refine (HRn.out w3).mono ?_
  rintro e w4 ⟨hb4, ⟨h1, rb, bb, rfl, hr⟩ | ⟨h1, _⟩⟩
  rotate_left
  ·
   exact absurd H0.out h1
  have HSt : Hid (Both W w4 rp rb (rmN 7 long) (rmN 7 long) ∧ GoodR (rmN 7 long)) := ⟨both_new HB1.out HB3.out HR3.out HM3.out hb4 hr, rm_good H0.out⟩
  clear hb4 hr h1 HRn HR3 HM3 HB3 HB1 hx hy hz H0
  go_wp2
  go_loopg [16] n (fun g s16 wr => ∃ k : Nat, k ≤ n ∧ n - k ≤ g ∧ s16 = .int .i64 k ∧ Hid (∃ r, Both W wr rp rb r r ∧ GoodR r ∧ r.ser ≤ (k : Int) + 1))
  case atStart => exact ⟨0, Nat.zero_le _, by omega, rfl, ⟨_, HSt.out.1, HSt.out.2, Int.le_refl _⟩⟩
  case round =>
   obtain ⟨k, hk, hg, rfl, HK⟩ := hrel
   obtain ⟨r, hst, hgood, hser⟩ := HK.out
   have HSk := hide hst
   have HG := hide hgood
   have HSe := hide hser
   clear HK hst hgood hser HSt
   by_cases hlt : k < n
   ·
    obtain ⟨b, o, rfl, hbw, hcs⟩ := HV.out (by omega)
    obtain ⟨q, hq⟩ : ∃ q, l[k]? = some q := ⟨l[k]'(by rw [HN.out]; exact hlt), List.getElem?_eq_getElem _⟩
    obtain ⟨c0, c1, c2, c3, c4, c5⟩ := both_ask HSk.out hbw (hcs k q hq)
    have HA := hide (asked_any a W rp rb r q ⟨#[120]⟩ wr HSk.out HG.out HE.out (HS.out q (List.mem_of_getElem? hq)) (by decide))
    have HSn : Hid (∀ w, Both W w rp rb (r.after q ⟨#[120]⟩) (r.after q ⟨#[120]⟩) → ∃ r, Both W w rp rb r r ∧ GoodR r ∧ r.ser ≤ ((k + 1 : Nat) : Int) + 1) := fun w hw => ⟨_, hw, HG.out.after q _, by have := after_ser r q ⟨#[120]⟩; have := HSe.out; omega⟩
    unfold AskPost at HA
    generalize r.after q ⟨#[120]⟩ = r2 at *
    generalize r.gives q ⟨#[120]⟩ = gv at *
    obtain ⟨kind, qa, qb, qs, qn, qi⟩ := q
    dsimp only at c0 c1 c2 c3 c4 c5 HA
    clear hcs hq HSk HG
    go_wp2_with fail
    refine HA.out.mono ?_
    rintro e w5 ⟨rfl, hst⟩
    have HS5 := hide (HSn.out w5 hst)
    clear hst HA HSn c0 c1 c2 c3 c4 c5
    go_wp2
    go_roundg (n - (k + 1))
    case measure => omega
    case rel => exact ⟨k + 1, by omega, Nat.le_refl _, by go_num, HS5⟩
   ·
    have HSm : Hid (r.ser ≤ 1000) := by have := HSe.out; show r.ser ≤ 1000; omega
    clear HSe HV HN HS
    obtain ⟨bb, hseat⟩ := both_seat HSk.out HG.out y
    have f4 := hseat.ptr
    have HFi := hide hseat.find
    have HPr := hide (both_proof HSk.out HG.out x)
    have HLo := hide (fun w (h : Both W w rp rb r r) => both_login a h HG.out HE.out x y (rightN r x) HX.out.1 HX.out.2.1)
    clear hseat
    by_cases hc : r.logC x (rightN r x) y = 0
    ·
     obtain ⟨px, s, hpx, hs, _, _, _, _, hser⟩ := log_zero hc
     have hg1 : GoodR (r.serR 0) := HG.out.serR 0 (fun _ => hser)
     have hL := HLo.out
     rw [hc, errV_zero] at hL
     have HL := hide hL
     have HFl := hide (fun w (h : Both W w rp rb (r.serR 0) r) => both_flush a h hg1 HE.out)
     obtain ⟨kx, hkx, hkl, _⟩ := both_key HSk.out hs
     have HKey : Hid (∀ w r1, Both W w rp rb r1 r → ∃ bb g cap, w.cell? ⟨rb, 4, none⟩ = some (.pointer (some ⟨bb, 0, none⟩)) ∧ w.cell? ⟨bb, 0, none⟩ = some (.slice (some ⟨g, 0, none⟩) r.b.length cap) ∧ w.cell? ⟨g, kx * 4 + 1, none⟩ = some (.int .i64 s.key)) := fun w r1 h => by
      obtain ⟨k', h1, _, h2⟩ := both_key h hs
      obtain rfl : k' = kx := by rw [hkx] at h1; omega
      exact h2
     have HOp := hide (fun w (h : Both W w rp rb (r.serR 0) r) => both_open a h HE.out HG.out hc hs)
     have hpe : (r.logT x y).epoch = px.epoch := by show (perOf r.b x).epoch = _; rw [per_of hpx]
     have htv : (r.logT x y).val = .agg #[.string x, .string y, .int .i64 px.epoch, .int .i64 r.time, .int .i64 r.til, .int .i64 r.ser] := by rw [← hpe]; rfl
     rw [htv] at HOp
     rw [hkx] at HFi
     generalize hrn : rightN r x = rn at *
     generalize hlS : r.logS x rn y = sx at *
     generalize hnn : numC (r.serR 0).fluC (topE (r.serR 0).b + 1) = nn at *
     have HNn := hide hnn
     have HPx := hide hpx
     have HPy := hide hs
     have HC := hide hc
     have HRn := hide hrn
     clear hnn hpe htv hlS hrn hL hser hs hpx hc hkx HSk hg1
     generalize hsk : s.key = sk at *
     have HSK := hide hsk
     generalize hpe : px.epoch = pe at *
     have HPE := hide hpe
     generalize r.til = til at *
     generalize r.b.length = len at *
     clear hsk hpe
     go_wp2_with fail
     refine HFi.out.mono ?_
     rintro e w5 ⟨rfl, rfl⟩
     clear HFi
     go_wp2_with fail
     refine HPr.out.mono ?_
     rintro e w6 ⟨rfl, hst, _⟩
     have HL6 := hide (HL.out _ hst)
     clear hst HPr f4 HL HLo
     go_wp2_with fail
     refine HL6.out.mono ?_
     rintro e w7 ⟨rfl, hst, _⟩
     have HS7 := hide hst
     obtain ⟨b7, g7, c7, k4, k0, k1⟩ := HKey.out w7 _ hst
     clear hst HL6
     go_wp2_with fail
     refine (HOp.out _ HS7.out).mono ?_
     rintro e w8 ⟨rfl, hst, _⟩
     have HS8 : Hid (Both W (w8.alloc (tkO ⟨x, y, pe, r.time, til, r.ser⟩)) rp rb (r.serR 0) r) := hst.below ((Below.refl _ _).alloc (Nat.le_refl _) _)
     have HR8 : Hid ((w8.alloc (tkO ⟨x, y, pe, r.time, til, r.ser⟩)).heap[w8.heap.size]? = some (tkO ⟨x, y, pe, r.time, til, r.ser⟩)) := heap_alloc_new _ _
     clear hst HOp k4 k0 k1 HS7
     go_wp2_with fail
     refine (HFl.out _ HS8.out).mono ?_
     rintro e w9 ⟨⟨ev, rfl, hev⟩, hst, hkp⟩
     have HS9 := hide hst
     have HR9 := hide (tk_keep HR8.out hkp)
     clear HFl HS8 HR8 hkp hst
     obtain ⟨h1, rfl⟩ | ⟨h1, t, p, rfl⟩ := hev.cases
     rotate_left
     ·
      have hn0 : nn = 0 := by rw [← HNn.out]; exact if_neg h1
      have HB9 := hide HS9.out.past
      subst hn0
      clear hev h1 HNn
      go_wp2
      go_ret
      exact ⟨rfl, HB9.out⟩
     have hnt : nn = topE (r.serR 0).b + 1 := by rw [← HNn.out]; exact if_pos h1
     have HG1 : Hid (GoodR (r.serR 0)) := by
      obtain ⟨_, _, _, _, _, _, _, _, hser⟩ := log_zero HC.out
      exact HG.out.serR 0 (fun _ => hser)
     have hgone : ¬ ofL (floorsR (r.serR 0).fluR.l) x.data.toList ≤ pe := by
      have := HG1.out.flu_gone (name := x) (p := px) HPx.out h1 x.data.toList
      rw [HPE.out] at this
      omega
     have HOf : Hid (∀ n, ofL (floorsR (r.serR 0).fluR.l) n = nn) := fun n => by rw [hnt]; exact HG1.out.flu_of h1 n
     have HG2 := hide HG1.out.fluR
     have H1 := hide h1
     have HPa := hide (fun w (h : Both W w rp rb (r.serR 0).fluR r) f hf => both_passes h f (r.serR 0).fluR.l hf x pe)
     rw [show decide (ofL (floorsR (r.serR 0).fluR.l) x.data.toList ≤ pe) = false from decide_eq_false hgone] at HPa
     have HFo := hide (fun w (h : Both W w rp rb (r.serR 0).fluR r) f hf => both_of h f (r.serR 0).fluR.l hf ⟨#[42]⟩)
     rw [HOf.out (ByteArray.mk #[42]).data.toList] at HFo
     have HFd := hide (both_feed HS9.out HG2.out)
     have HFf := hide (fun w (h : Both W w rp rb (r.serR 0).fluR r) v hv => both_floors a h HG2.out HE.out v hv)
     have HAd := hide (fun w (h : Both W w rp rb (r.serR 0).fluR r) => both_add a h HG2.out HE.out z 9 HX.out.2.2.1)
     clear hev h1 hgone hnt HNn HS9
     go_wp2_with fail
     refine HFd.out.mono ?_
     rintro e wa ⟨va, rfl, hva, hst, hkp⟩
     have HFa := hide (HFf.out _ hst va hva)
     have HRa := hide (tk_keep HR9.out hkp)
     clear hst hva hkp HFd HFf HR9
     go_wp2_with fail
     refine HFa.out.mono ?_
     rintro e wb ⟨f, B, rfl, hf, hst, hkp⟩
     have HFb := hide hf
     have HSb := hide hst
     have HRb := hide (tk_keep HRa.out hkp)
     clear hst hf hkp HFa HRa
     obtain ⟨x0, _, x2, _, _, _⟩ := tk_row HRb.out
     dsimp only at x0 x2
     go_wp2_with fail
     refine (HPa.out _ HSb.out f HFb.out.flAt).mono ?_
     rintro e wc ⟨rfl, hst, hkp⟩
     have HSc := hide hst
     have HFc := hide (HFb.out.keepT hkp)
     clear hst hkp HPa HFb HSb HRb x0 x2
     go_wp2_with fail
     refine (HFo.out _ HSc.out f HFc.out.flAt).mono ?_
     rintro e wd ⟨rfl, hst, hkp⟩
     have HSd := hide hst
     have HFd := hide (HFc.out.keepT hkp)
     clear hst hkp HFo HFc HSc
     go_wp2_with fail
     refine (HAd.out _ HSd.out).mono ?_
     rintro e we ⟨⟨ev, rfl, hev⟩, hst, hkp⟩
     have HSe := hide hst
     have HFe := hide (HFd.out.keepT hkp)
     clear hst hkp HAd HFd HSd
     obtain ⟨h2, rfl⟩ | ⟨h2, t, p, rfl⟩ := hev.cases
     rotate_left
     ·
      have HBe := hide HSe.out.past
      clear hev h2
      go_wp2
      go_ret
      exact ⟨rfl, HBe.out⟩
     have hg3 : GoodR ((r.serR 0).fluR.addR z 9) := HG2.out.addR z 9
     obtain ⟨hl0, ⟨s', hs', hk'⟩, _, hle⟩ := HG.out.flu_later HC.out HPy.out HSm.out H1.out h2 (right_more (key := 9) (by decide) (prf z r.time))
     have HFin := hide (fun w r' (h : Both W w rp rb r' r) f hf => both_passes h f (r.serR 0).fluR.l hf z (((r.serR 0).fluR.addR z 9).logT z y).epoch)
     rw [show decide (ofL (floorsR (r.serR 0).fluR.l) z.data.toList ≤ (((r.serR 0).fluR.addR z 9).logT z y).epoch) = true from decide_eq_true hle] at HFin
     have HL3 := hide (fun w (h : Both W w rp rb ((r.serR 0).fluR.addR z 9) r) => both_login a h hg3 HE.out z y (moreN 9 9 (prf z r.time)) HX.out.2.2.1 HX.out.2.1)
     rw [hl0, errV_zero] at HL3
     have HO3 := hide (fun w r' (h : Both W w rp rb r' r) => both_open a h HE.out hg3 hl0 hs')
     rw [hk', HSK.out] at HO3
     have HMo := hide (fun w => refOf_any 9 (prfB z r.time) w (prf_small HX.out.2.2.2 HG.out.time))
     rw [prf_toList] at HMo
     have HDe := hide (fun w => dec_any r.time w HG.out.time.1 (by have := HG.out.time; omega))
     have hds : (Sl.ofL (Lib.decDigits r.time.toNat)).size ≤ 1000 := by
      rw [Sl.ofL_size]
      have := ((Sl.numOk_iff _).1 (dec_nat r.time (by have := HG.out.time; omega)).1).1
      omega
     have hz1 := HX.out.2.2.2
     have hTv : (((r.serR 0).fluR.addR z 9).logT z y).val = .agg #[.string z, .string y, .int .i64 (((r.serR 0).fluR.addR z 9).logT z y).epoch, .int .i64 (((r.serR 0).fluR.addR z 9).logT z y).frm, .int .i64 (((r.serR 0).fluR.addR z 9).logT z y).til, .int .i64 (((r.serR 0).fluR.addR z 9).logT z y).ser] := rfl
     rw [hTv] at HO3
     obtain ⟨_, hseat⟩ := both_seat HSe.out HG.out y
     have f2 := hseat.time
     unfold prfB at HMo
     clear hg3 hl0 hs' hk' hle hTv hseat hev h2 H1 HC HPx HPy HSm HG HG1 HG2 HSK HPE HRn HOf
     generalize (((r.serR 0).fluR.addR z 9).logT z y).epoch = u2 at *
     generalize (((r.serR 0).fluR.addR z 9).logT z y).frm = u3 at *
     generalize (((r.serR 0).fluR.addR z 9).logT z y).til = u4 at *
     generalize (((r.serR 0).fluR.addR z 9).logT z y).ser = u5 at *
     generalize ((r.serR 0).fluR.addR z 9).logS z (moreN 9 9 (prf z r.time)) y = sz at *
     generalize moreN 9 9 (prf z r.time) = mn at *
     generalize (moreE 9 9 : Int) = me at *
     generalize Sl.ofL (Lib.decDigits r.time.toNat) = ds at *
     generalize (r.serR 0).fluR.addR z 9 = r3 at *
     have ha1 : ∀ w : World, (Op.stringOp .add z { data := #[32] }).run Tryz.prog w = .ok (.string (z ++ { data := #[32] })) w := fun w => run_string_add_sum w _ _ (by show z.size + 1 ≤ _; omega)
     have ha2 : ∀ w : World, (Op.stringOp .add (z ++ { data := #[32] }) ds).run Tryz.prog w = .ok (.string (z ++ { data := #[32] } ++ ds)) w := fun w => run_string_add_sum w _ _ (by rw [ByteArray.size_append]; show z.size + 1 + ds.size ≤ _; omega)
     go_wp2_with fail
     refine (HDe.out _).mono ?_
     rintro e wf ⟨rfl, hb⟩
     have HSf := hide (HSe.out.below hb)
     have HFf := hide (HFe.out.keepT (KeepT.below hb))
     clear hb HDe HSe HFe f2
     go_wp2_with fail
     refine (HMo.out _).mono ?_
     rintro e wg ⟨rfl, rfl⟩
     clear HMo
     go_wp2_with fail
     refine (HL3.out _ HSf.out).mono ?_
     rintro e wh ⟨rfl, hst, hkp⟩
     have HSh := hide hst
     have HFh := hide (HFf.out.keepT hkp)
     obtain ⟨b7, g7, c7, k4, k0, k1⟩ := HKey.out wh _ hst
     clear hst hkp HL3 HSf HFf
     go_wp2_with fail
     refine (HO3.out _ _ HSh.out).mono ?_
     rintro e wi ⟨rfl, hst, hkp⟩
     have hB : Below wi.heap.size wi (wi.alloc (tkO ⟨z, y, u2, u3, u4, u5⟩)) := (Below.refl _ _).alloc (Nat.le_refl _) _
     have HSi := hide (hst.below hB)
     have HFi := hide ((HFh.out.keepT hkp).keepT (KeepT.below hB))
     obtain ⟨x0, x1, x2, x3, x4, x5⟩ := tk_row (heap_alloc_new wi (tkO ⟨z, y, u2, u3, u4, u5⟩))
     dsimp only at x0 x1 x2 x3 x4 x5
     clear hst hkp hB HO3 HSh HFh k4 k0 k1
     go_wp2_with fail
     refine (HFin.out _ _ HSi.out f HFi.out.flAt).mono ?_
     rintro e wj ⟨rfl, hst, _⟩
     have HBj := hide hst.past
     clear hst HFin
     go_wp2
     go_ret
     exact ⟨rfl, HBj.out⟩
    ·
     have hlS := logS_no hc
     obtain ⟨t, p, hev⟩ := err_iface (a := a) hc
     have HL := HLo.out
     rw [hlS, hev, serR_no hc] at HL
     have HLn := hide HL
     clear hlS hev HL HLo hc HG
     generalize findP r.b y = fd at *
     generalize rightN r x = rn at *
     go_wp2_with fail
     refine HFi.out.mono ?_
     rintro e w5 ⟨rfl, rfl⟩
     clear HFi
     go_wp2_with fail
     refine HPr.out.mono ?_
     rintro e w6 ⟨rfl, hst, _⟩
     have HS6 := hide hst
     clear hst HPr f4
     go_wp2_with fail
     refine (HLn.out _ HS6.out).mono ?_
     rintro e w7 ⟨rfl, hst, _⟩
     have HB7 := hide hst.past
     clear hst HLn
     go_wp2
     go_ret
     exact ⟨rfl, HB7.out⟩
end Go.Proofs.YtabpnjchocgakaaGreatDoor

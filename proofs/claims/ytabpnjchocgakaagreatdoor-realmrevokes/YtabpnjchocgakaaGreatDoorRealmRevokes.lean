/-
  RealmRevokes: a ticket of ahead of a Revoke does not pass floors of behind it, nor is it renewed; a later one does.
-/
import Derived.Test.YtabpnjchocgakaaGreatDoorRealmLaw
import Derived.Test.YtabpnjchocgakaaGreatDoorPk16
import Derived.Deep.RegionHeld3
import Derived.Deep.CutBlock
import Derived.Deep.DeepCutAuto
namespace Go.Proofs.YtabpnjchocgakaaGreatDoor
open Go Go.RowKit Go.Extern.Stop Go.Stop Go.Extern Go.Proofs Go.Maps
set_option maxRecDepth 100000 in
set_option maxHeartbeats 16000000 in
theorem realmRevokes_law (a : Nat → Addr) (long : Int) (v : Value) (l : List Aq) (x y : ByteArray) (W : World) (hE : Env a W) (hv : AqIn W v l) :
  Calls Tryz.prog 3 #[.int .i64 long, v, .string x, .string y] W fun e w' => e = .returned (.bool true) ∧ Below W.heap.size W w' := by
 have HRe := hide (reigned_any a W hE)
 have HLong := hide (fun w (hb : Below W.heap.size W w) => longAsks_any 50 v l w (hv.below hb) (by decide))
 have HE := hide hE
 obtain ⟨ad, cap, rfl, hcap, hcell⟩ := hv
 have HV := hide hcell
 have HNo := hide (fun (h : longAq 50 l = false) => And.intro (longAq_no h).1 (longAq_fine h))
 generalize hn : l.length = n at *
 have HN := hide hn
 clear hE hcell hn
 go_enter Tryz.func3, Tryz.ntmps3
 go_wp2_with fail
 refine HRe.out.mono ?_
 rintro e w1 ⟨rfl, hb⟩
 have HB1 := hide hb
 clear hb HRe
 go_wp2_with fail
 refine (HLong.out w1 HB1.out).mono ?_
 rintro e w2 ⟨rfl, rfl⟩
 clear HLong
 cases hlw : longAq 50 l with
 | true =>
  go_wp2
  go_ret
  exact ⟨rfl, HB1.out⟩
 | false =>
  obtain ⟨hn50, hfine⟩ := HNo.out hlw
  have HS := hide hfine
  clear HNo hlw hfine
  by_cases hx : (20 : Int) < (x.size : Int)
  ·
   go_wp2
   go_ret
   exact ⟨rfl, HB1.out⟩
  by_cases hy : (20 : Int) < (y.size : Int)
  ·
   go_wp2
   go_ret
   exact ⟨rfl, HB1.out⟩
  have HX : Hid (x.size ≤ maxLen ∧ y.size ≤ maxLen) := by
   unfold maxLen
   exact ⟨by omega, by omega⟩
  have HNew := hide (rpNew_any a 7 long w2 (HE.out.below HB1.out).errs)
  have HRn := hide (fun w => refNewR_any 7 long w)
  go_wp2_with fail
  refine HNew.out.mono ?_
  rintro e w3 ⟨hb3, ⟨h0, rp, bp, mb, rfl, hR, hM⟩ | ⟨h0, rfl⟩⟩
  rotate_left
  ·
   have HB3 : Hid (Below W.heap.size W w3) := HB1.out.trans (hb3.mono HB1.out.size)
   have H0 := hide h0
   obtain ⟨t, p, hev⟩ := err_iface (a := a) h0
   rw [hev]
   clear hb3 h0 hev HNew
   go_wp2_with fail
   refine (HRn.out w3).mono ?_
   rintro e w4 ⟨hb4, ⟨h1, _⟩ | ⟨h1, rfl⟩⟩
   ·
    exact absurd h1 H0.out
   ·
    have HB4 : Hid (Below W.heap.size W w4) := HB3.out.trans (hb4.mono HB3.out.size)
    have hpos : (0 : Int) < (rmC 7 long : Int) := by omega
    clear hb4 h1 HRn
    generalize (rmC 7 long : Int) = c at *
    go_wp2
    go_ret
    exact ⟨rfl, HB4.out⟩
  have HM3 := hide hM
  have HR3 := hide hR
  have HB3 := hide hb3
  have H0 := hide h0
  clear hb3 hR hM h0 HNew
  go_wp2_with fail
  refine (HRn.out w3).mono ?_
  rintro e w4 ⟨hb4, ⟨h1, rb, bb, rfl, hr⟩ | ⟨h1, _⟩⟩
  rotate_left
  ·
   exact absurd H0.out h1
  have HSt : Hid (Both W w4 rp rb (rmN 7 long) (rmN 7 long) ∧ GoodR (rmN 7 long)) := ⟨both_new HB1.out HB3.out HR3.out HM3.out hb4 hr, rm_good H0.out⟩
  clear hb4 hr h1 HRn HR3 HM3 HB3 HB1 hx hy H0
  go_wp2
  go_loopg [14, 15] n (fun g s14 s15 wr => ∃ (k : Nat) (la : ByteArray), k ≤ n ∧ n - k ≤ g ∧ s14 = .string la ∧ s15 = .int .i64 k ∧ la.size ≤ 400 ∧ Hid (∃ r, Both W wr rp rb r r ∧ GoodR r ∧ r.ser ≤ (k : Int) + 1))
  case atStart => exact ⟨0, ⟨#[]⟩, Nat.zero_le _, by omega, rfl, rfl, by decide, ⟨_, HSt.out.1, HSt.out.2, Int.le_refl _⟩⟩
  case round =>
   obtain ⟨k, la, hk, hg, rfl, rfl, hla, HK⟩ := hrel
   obtain ⟨r, hst, hgood, hser⟩ := HK.out
   have HSk := hide hst
   have HG := hide hgood
   have HSe := hide hser
   clear HK hst hgood hser HSt
   by_cases hlt : k < n
   ·
    obtain ⟨b, o, rfl, hbw, hcs⟩ := HV.out (by omega)
    obtain ⟨q, hq⟩ : ∃ q, l[k]? = some q := ⟨l[k]'(by rw [HN.out]; exact hlt), List.getElem?_eq_getElem _⟩
    obtain ⟨c0, c1, c2, c3, c4, c5⟩ := both_ask HSk.out hbw (hcs k q hq)
    have HA := hide (asked_any a W rp rb r q la wr HSk.out HG.out HE.out (HS.out q (List.mem_of_getElem? hq)) (by unfold maxLen; omega))
    have HSn : Hid (∀ w, Both W w rp rb (r.after q la) (r.after q la) → ∃ r, Both W w rp rb r r ∧ GoodR r ∧ r.ser ≤ ((k + 1 : Nat) : Int) + 1) := fun w hw => ⟨_, hw, HG.out.after q _, by have := after_ser r q la; have := HSe.out; omega⟩
    have hgl := HG.out.gives q la
    unfold AskPost at HA
    generalize r.after q la = r2 at *
    generalize r.gives q la = gv at *
    obtain ⟨kind, qa, qb, qs, qn, qi⟩ := q
    dsimp only at c0 c1 c2 c3 c4 c5 HA
    clear hcs hq HSk HG
    go_wp2_with fail
    refine HA.out.mono ?_
    rintro e w5 ⟨rfl, hst⟩
    have HS5 := hide (HSn.out w5 hst)
    clear hst HA HSn c0 c1 c2 c3 c4 c5
    cases hgv : (gv.toList == []) with
    | true =>
     go_wp2
     go_roundg (n - (k + 1))
     case measure => omega
     case rel => exact ⟨k + 1, la, by omega, Nat.le_refl _, rfl, by go_num, hla, HS5⟩
    | false =>
     go_wp2
     go_roundg (n - (k + 1))
     case measure => omega
     case rel => exact ⟨k + 1, gv, by omega, Nat.le_refl _, rfl, by go_num, hgl, HS5⟩
   ·
    clear HSe HV HN HS
    obtain ⟨bb, hseat⟩ := both_seat HSk.out HG.out y
    have f4 := hseat.ptr
    have HFi := hide hseat.find
    have HPr := hide (fun w r1 (h : Both W w rp rb r1 r) => both_proof h HG.out x)
    have HLo := hide (fun w (h : Both W w rp rb r r) => both_login a h HG.out HE.out x y (rightN r x) HX.out.1 HX.out.2)
    clear hseat
    by_cases hc : r.logC x (rightN r x) y = 0
    ·
     obtain ⟨px, s, hpx, hs, _, _, _, _, hser⟩ := log_zero hc
     have hg1 : GoodR (r.serR 0) := HG.out.serR 0 (fun _ => hser)
     have hL := HLo.out
     rw [hc, errV_zero] at hL
     have HL := hide hL
     have HRv := hide (fun w (h : Both W w rp rb (r.serR 0) r) => both_revoke a h hg1 HE.out x HX.out.1)
     obtain ⟨kx, hkx, hkl, _⟩ := both_key HSk.out hs
     have HKey : Hid (∀ w r1, Both W w rp rb r1 r → ∃ bb g cap, w.cell? ⟨rb, 4, none⟩ = some (.pointer (some ⟨bb, 0, none⟩)) ∧ w.cell? ⟨bb, 0, none⟩ = some (.slice (some ⟨g, 0, none⟩) r.b.length cap) ∧ w.cell? ⟨g, kx * 4 + 1, none⟩ = some (.int .i64 s.key)) := fun w r1 h => by
      obtain ⟨k', h1, _, h2⟩ := both_key h hs
      obtain rfl : k' = kx := by rw [hkx] at h1; omega
      exact h2
     have HOp := hide (fun w (h : Both W w rp rb (r.serR 0) r) => both_open a h HE.out HG.out hc hs)
     have hpe : (r.logT x y).epoch = px.epoch := by show (perOf r.b x).epoch = _; rw [per_of hpx]
     have htv : (r.logT x y).val = .agg #[.string x, .string y, .int .i64 px.epoch, .int .i64 r.time, .int .i64 r.til, .int .i64 r.ser] := by rw [← hpe]; rfl
     rw [htv] at HOp
     have HF1 := hide (fun w (h : Both W w rp rb (r.serR 0) r) => both_feed h hg1)
     have HFf1 := hide (fun w (h : Both W w rp rb (r.serR 0) r) v hv => both_floors a h hg1 HE.out v hv)
     have hpass : ofL (floorsR (r.serR 0).l) x.data.toList ≤ px.epoch := by
      have hn : px.name = x := (getP_some hpx).1
      have := hg1.passes (p := px) (getP_some hpx).2
      unfold Per.nm at this
      rw [hn] at this
      exact this
     have HPw := hide (fun w r' (h : Both W w rp rb r' r) f hf => both_passes h f (r.serR 0).l hf x px.epoch)
     rw [show decide (ofL (floorsR (r.serR 0).l) x.data.toList ≤ px.epoch) = true from decide_eq_true hpass] at HPw
     rw [hkx] at HFi
     generalize hrn : rightN r x = rn at *
     have HRn := hide hrn
     have HPx := hide hpx
     have HPy := hide hs
     have HC := hide hc
     have HG1 := hide hg1
     generalize hlS : r.logS x rn y = sx at *
     have HLs := hide hlS
     generalize hnn : numC ((r.serR 0).revC x) (raiseP (r.serR 0).b x).1 = nn at *
     have HNn := hide hnn
     clear hnn hpe htv hlS hrn hL hser hs hpx hc hkx hg1 hpass HLo
     generalize hsk : s.key = sk at *
     have HSK := hide hsk
     generalize hpe : px.epoch = pe at *
     have HPE := hide hpe
     generalize r.til = til at *
     generalize r.b.length = len at *
     clear hsk hpe
     have hxx : (x.toList == x.toList) = true := by simp
     have hyy : (y.toList == y.toList) = true := by simp
     go_wp2_with fail
     refine HFi.out.mono ?_
     rintro e w5 ⟨rfl, rfl⟩
     clear HFi
     go_wp2_with fail
     refine (HPr.out _ _ HSk.out).mono ?_
     rintro e w6 ⟨rfl, hst, _⟩
     have HL6 := hide (HL.out _ hst)
     clear hst f4 HL HSk
     go_wp2_with fail
     refine HL6.out.mono ?_
     rintro e w7 ⟨rfl, hst, _⟩
     have HS7 := hide hst
     obtain ⟨b7, g7, c7, k4, k0, k1⟩ := HKey.out w7 _ hst
     clear hst HL6
     go_wp2_with fail
     refine (HOp.out _ HS7.out).mono ?_
     rintro e w8 ⟨rfl, hst, _⟩
     have HS8 : Hid (Both W (w8.alloc (tkO ⟨x, y, pe, r.time, til, r.ser⟩)) rp rb (r.serR 0) r) := hst.below ((Below.refl _ _).alloc (Nat.le_refl _) _)
     have HR8 : Hid ((w8.alloc (tkO ⟨x, y, pe, r.time, til, r.ser⟩)).heap[w8.heap.size]? = some (tkO ⟨x, y, pe, r.time, til, r.ser⟩)) := heap_alloc_new _ _
     obtain ⟨x0, x1, x2, x3, x4, x5⟩ := tk_row HR8.out
     dsimp only at x0 x1 x2 x3 x4 x5
     clear hst HOp k4 k0 k1 HS7
     go_wp2_with fail
     refine (HF1.out _ HS8.out).mono ?_
     rintro e w9 ⟨va, rfl, hva, hst, hkp⟩
     have HFa := hide (HFf1.out _ hst va hva)
     have HR9 := hide (tk_keep HR8.out hkp)
     clear hst hva hkp HF1 HFf1 HR8 HS8 x0 x1 x2 x3 x4 x5
     go_wp2_with fail
     refine HFa.out.mono ?_
     rintro e wa ⟨f1, B1, rfl, hf, hst, hkp⟩
     have HFa1 := hide hf
     have HSa := hide hst
     have HRa := hide (tk_keep HR9.out hkp)
     clear hst hf hkp HFa HR9
     go_wp2_with fail
     refine (HRv.out _ HSa.out).mono ?_
     rintro e wb ⟨⟨ev, rfl, hev⟩, hst, hkp⟩
     have HSb := hide hst
     have HFb := hide (HFa1.out.keepT hkp)
     have HRb := hide (tk_keep HRa.out hkp)
     clear hst hkp HRv HFa1 HRa HSa
     obtain ⟨h1, rfl⟩ | ⟨h1, t, p, rfl⟩ := hev.cases
     rotate_left
     ·
      have hn0 : nn = 0 := by rw [← HNn.out]; exact if_neg h1
      have HBb := hide HSb.out.past
      subst hn0
      clear hev h1 HNn
      go_wp2
      go_ret
      exact ⟨rfl, HBb.out⟩
     obtain ⟨hra, hbook, _⟩ := HG1.out.rev_book (name := x) HPx.out h1
     have hnn : nn = (raiseP (r.serR 0).b x).1 := by rw [← HNn.out]; exact if_pos h1
     rw [HPE.out] at hra
     have hne : nn = pe + 1 := by rw [hnn, hra]
     have hfl : ofL (floorsR ((r.serR 0).revR x).l) x.data.toList = nn := by rw [hnn]; exact HG1.out.rev_floor h1
     have hren := HG.out.rev_renew_any HC.out h1
     rw [HLs.out] at hren
     have hpr : rightE px.key (prf x r.time) rn = 0 := by rw [← HRn.out]; exact HG.out.proves HPx.out
     obtain ⟨hlc, hle, hls⟩ := HG.out.rev_login HC.out HPx.out h1 hpr
     rw [HPE.out, ← hne] at hle
     have hg2 : GoodR ((r.serR 0).revR x) := HG1.out.revR x
     obtain ⟨s', hs', hk'⟩ : ∃ s', getP ((r.serR 0).revR x).b y = some s' ∧ s'.key = sk := by
      rw [hbook y]
      split
      ·
       rename_i e
       subst e
       have e2 : px = s := Option.some.inj (HPx.out.symm.trans HPy.out)
       exact ⟨_, rfl, by rw [← HSK.out, ← e2]⟩
      ·
       exact ⟨s, HPy.out, HSK.out⟩
     generalize (r.serR 0).revR x = r2 at *
     have HF2 := hide (fun w (h : Both W w rp rb r2 r) => both_feed h hg2)
     have HFf2 := hide (fun w (h : Both W w rp rb r2 r) v hv => both_floors a h hg2 HE.out v hv)
     have HPn := hide (fun w r' (h : Both W w rp rb r' r) f hf => both_passes h f r2.l hf x pe)
     rw [hfl, show decide (nn ≤ pe) = false from decide_eq_false (by omega)] at HPn
     have HPz := hide (fun w r' (h : Both W w rp rb r' r) f hf => both_passes h f r2.l hf x nn)
     rw [hfl, show decide (nn ≤ nn) = true from decide_eq_true (Int.le_refl _)] at HPz
     have HFo := hide (fun w r' (h : Both W w rp rb r' r) f hf => both_of h f r2.l hf x)
     rw [hfl] at HFo
     have HRe := hide (fun w (h : Both W w rp rb r2 r) => both_renew a h hg2 HE.out sx y HX.out.2)
     rw [hren, renS_no (by rw [hren]; decide), serR_no (show (13 : Nat) ≠ 0 by decide), errV_pos a (by decide)] at HRe
     have HCo : Hid (∀ w, Both W w rp rb r2 r → Calls Tryz.prog 21 #[eV (a 12), .int .i64 13] w fun e w' => e = .returned (.bool true) ∧ Both W w' rp rb r2 r ∧ KeepT w w') := fun w h => by
      have := both_coded a h HE.out 13 (by decide) (errV a 13) (evp_V a 13 w)
      rwa [errV_pos a (by decide)] at this
     have HL2 := hide (fun w (h : Both W w rp rb r2 r) => both_login a h hg2 HE.out x y rn HX.out.1 HX.out.2)
     have HNe := hide hne
     have HC2 : Hid (∀ w r', Both W w rp rb r' r → Calls Tryz.prog 21 #[eV (a 1), .int .i64 2] w fun e w' => e = .returned (.bool true) ∧ Both W w' rp rb r' r ∧ KeepT w w') := fun w r' h => by
      have := both_coded a h HE.out 2 (by decide) (errV a 2) (evp_V a 2 w)
      rwa [errV_pos a (by decide)] at this
     have HTv : Hid ((r2.logT x y).val = .agg #[.string x, .string y, .int .i64 nn, .int .i64 (r2.logT x y).frm, .int .i64 (r2.logT x y).til, .int .i64 (r.ser + 1)]) := by
      show Value.agg #[.string x, .string y, .int .i64 (r2.logT x y).epoch, .int .i64 (r2.logT x y).frm, .int .i64 (r2.logT x y).til, .int .i64 (r2.logT x y).ser] = _
      rw [hle, hls]
     clear hle hls
     generalize (r2.logT x y).frm = u3 at *
     generalize (r2.logT x y).til = u4 at *
     generalize hee : errV a (r2.logC x rn y) = ev2 at *
     clear hne h1 hev hra hbook hnn hfl hren hpr HNn HG1 HPx HC HRn HLs HPy
     go_wp2_with fail
     refine (HF2.out _ HSb.out).mono ?_
     rintro e wc ⟨vc, rfl, hvc, hst, hkp⟩
     have HFc := hide (HFf2.out _ hst vc hvc)
     have HRc := hide (tk_keep HRb.out hkp)
     have HFa := hide (HFb.out.keepT hkp)
     clear hst hvc hkp HF2 HFf2 HRb HFb HSb
     go_wp2_with fail
     refine HFc.out.mono ?_
     rintro e wd ⟨f2, B2, rfl, hf, hst, hkp⟩
     have HNd := hide hf
     have HSd := hide hst
     have HRd := hide (tk_keep HRc.out hkp)
     have HFd := hide (HFa.out.keepT hkp)
     obtain ⟨_, _, x2, _, _, _⟩ := tk_row HRd.out
     dsimp only at x2
     clear hst hf hkp HFc HRc HFa
     go_wp2_with fail
     refine (HPw.out _ _ HSd.out f1 HFd.out.flAt).mono ?_
     rintro e we ⟨rfl, hst, hkp⟩
     have HSe := hide hst
     have HNe2 := hide (HNd.out.keepT hkp)
     have HRe2 := hide (tk_keep HRd.out hkp)
     obtain ⟨_, _, y2, _, _, _⟩ := tk_row HRe2.out
     dsimp only at y2
     clear hst hkp HPw HSd HNd HRd HFd x2
     go_wp2_with fail
     refine (HPn.out _ _ HSe.out f2 HNe2.out.flAt).mono ?_
     rintro e wf ⟨rfl, hst, hkp⟩
     have HSf := hide hst
     have HNf := hide (HNe2.out.keepT hkp)
     have HRf := hide (tk_keep HRe2.out hkp)
     obtain ⟨_, _, z2, _, _, _⟩ := tk_row HRf.out
     dsimp only at z2
     have hlt : ¬ nn ≤ pe := by have := HNe.out; omega
     clear hst hkp HPn HSe HNe2 HRe2 y2
     go_wp2_with fail
     refine (HFo.out _ _ HSf.out f2 HNf.out.flAt).mono ?_
     rintro e wg ⟨rfl, hst, hkp⟩
     have HSg := hide hst
     have HNg := hide (HNf.out.keepT hkp)
     have HRg := hide (tk_keep HRf.out hkp)
     clear hst hkp HFo HSf HNf HRf z2
     go_wp2_with fail
     refine (HRe.out _ HSg.out).mono ?_
     rintro e wh ⟨rfl, hst, hkp⟩
     have HSh := hide hst
     have HNh := hide (HNg.out.keepT hkp)
     have HRh := hide (tk_keep HRg.out hkp)
     clear hst hkp HRe HSg HNg HRg
     by_cases hxy : x = y
     ·
      have hq : (x.toList == y.toList) = true := by rw [hxy]; simp
      obtain ⟨HSi, HNi, HRi⟩ : Hid (Both W wh rp rb r2 r) ∧ Hid (OwnF wh B2 f2 (floorsR r2.l)) ∧ Hid (wh.heap[w8.heap.size]? = some (tkO ⟨x, y, pe, r.time, til, r.ser⟩)) := ⟨HSh, HNh, HRh⟩
      clear hxy HSh HNh HRh HCo
      go_wp2_with fail
      refine (HPr.out _ _ HSi.out).mono ?_
      rintro e wj ⟨rfl, hst, hkp⟩
      have HSj := hide hst
      have HNj := hide (HNi.out.keepT hkp)
      have HRj := hide (tk_keep HRi.out hkp)
      clear hst hkp HPr HSi HNi HRi
      go_wp2_with fail
      refine (HL2.out _ HSj.out).mono ?_
      rintro e wk ⟨rfl, hst, hkp⟩
      have HSq := hide hst
      have HNq := hide (HNj.out.keepT hkp)
      have HRq := hide (tk_keep HRj.out hkp)
      obtain ⟨b8, g8, c8, k4, k0, k1⟩ := HKey.out wk _ hst
      clear hst hkp HL2 HSj HNj HRj
      rcases hlc with hz | hz
      ·
       have HO2 := hide (fun w r' (h : Both W w rp rb r' r) => both_open a h HE.out hg2 hz hs')
       rw [hk', HTv.out] at HO2
       rw [hz, errV_zero] at hee
       subst hee
       clear hz hs' hk' hg2 k4 k0 k1
       generalize r2.logS x rn y = s2 at *
       generalize r2.serR (r2.logC x rn y) = r4 at *
       go_wp2_with fail
       refine (HO2.out _ _ HSq.out).mono ?_
       rintro e wl ⟨rfl, hst, hkp⟩
       have hB : Below wl.heap.size wl (wl.alloc (tkO ⟨x, y, nn, u3, u4, r.ser + 1⟩)) := (Below.refl _ _).alloc (Nat.le_refl _) _
       have HSl := hide (hst.below hB)
       have HNl := hide ((HNq.out.keepT hkp).keepT (KeepT.below hB))
       have HRl := hide (tk_keep (tk_keep HRq.out hkp) (KeepT.below hB))
       have HUl : Hid ((wl.alloc (tkO ⟨x, y, nn, u3, u4, r.ser + 1⟩)).heap[wl.heap.size]? = some (tkO ⟨x, y, nn, u3, u4, r.ser + 1⟩)) := heap_alloc_new _ _
       obtain ⟨_, _, v2, _, _, _⟩ := tk_row HUl.out
       dsimp only at v2
       clear hst hkp hB HO2 HSq HNq HRq
       go_wp2_with fail
       refine (HPz.out _ _ HSl.out f2 HNl.out.flAt).mono ?_
       rintro e wm ⟨rfl, hst, hkp⟩
       have HBm := hide hst.past
       obtain ⟨_, _, _, _, _, t5⟩ := tk_row (tk_keep HRl.out hkp)
       obtain ⟨_, _, _, _, _, v5⟩ := tk_row (tk_keep HUl.out hkp)
       dsimp only at t5 v5
       clear hst hkp HPz HSl HNl HRl HUl v2
       go_wp2
       go_ret
       exact ⟨congrArg (fun z => Ending.returned (.bool z)) (decide_eq_true (by omega)), HBm.out⟩
      ·
       rw [hz, errV_pos a (by decide)] at hee
       subst hee
       clear hz hs' hk' hg2 k4 k0 k1
       go_wp2_with fail
       refine (HC2.out _ _ HSq.out).mono ?_
       rintro e wl ⟨rfl, hst, _⟩
       have HBl := hide hst.past
       clear hst HC2
       go_wp2
       go_ret
       exact ⟨rfl, HBl.out⟩
     ·
      have hq : (x.toList == y.toList) = false := by rw [beq_eq_false_iff_ne]; exact fun e => hxy (Go.WideShapes.bytes_inj (by rwa [Lib.toList_data, Lib.toList_data] at e))
      clear hxy
      go_wp2_with fail
      refine (HCo.out _ HSh.out).mono ?_
      rintro e wi ⟨rfl, hst, hkp⟩
      have HSi := hide hst
      have HNi := hide (HNh.out.keepT hkp)
      have HRi := hide (tk_keep HRh.out hkp)
      clear hst hkp HCo HSh HNh HRh
      go_wp2_with fail
      refine (HPr.out _ _ HSi.out).mono ?_
      rintro e wj ⟨rfl, hst, hkp⟩
      have HSj := hide hst
      have HNj := hide (HNi.out.keepT hkp)
      have HRj := hide (tk_keep HRi.out hkp)
      clear hst hkp HPr HSi HNi HRi
      go_wp2_with fail
      refine (HL2.out _ HSj.out).mono ?_
      rintro e wk ⟨rfl, hst, hkp⟩
      have HSq := hide hst
      have HNq := hide (HNj.out.keepT hkp)
      have HRq := hide (tk_keep HRj.out hkp)
      obtain ⟨b8, g8, c8, k4, k0, k1⟩ := HKey.out wk _ hst
      clear hst hkp HL2 HSj HNj HRj
      rcases hlc with hz | hz
      ·
       have HO2 := hide (fun w r' (h : Both W w rp rb r' r) => both_open a h HE.out hg2 hz hs')
       rw [hk', HTv.out] at HO2
       rw [hz, errV_zero] at hee
       subst hee
       clear hz hs' hk' hg2 k4 k0 k1
       generalize r2.logS x rn y = s2 at *
       generalize r2.serR (r2.logC x rn y) = r4 at *
       go_wp2_with fail
       refine (HO2.out _ _ HSq.out).mono ?_
       rintro e wl ⟨rfl, hst, hkp⟩
       have hB : Below wl.heap.size wl (wl.alloc (tkO ⟨x, y, nn, u3, u4, r.ser + 1⟩)) := (Below.refl _ _).alloc (Nat.le_refl _) _
       have HSl := hide (hst.below hB)
       have HNl := hide ((HNq.out.keepT hkp).keepT (KeepT.below hB))
       have HRl := hide (tk_keep (tk_keep HRq.out hkp) (KeepT.below hB))
       have HUl : Hid ((wl.alloc (tkO ⟨x, y, nn, u3, u4, r.ser + 1⟩)).heap[wl.heap.size]? = some (tkO ⟨x, y, nn, u3, u4, r.ser + 1⟩)) := heap_alloc_new _ _
       obtain ⟨_, _, v2, _, _, _⟩ := tk_row HUl.out
       dsimp only at v2
       clear hst hkp hB HO2 HSq HNq HRq
       go_wp2_with fail
       refine (HPz.out _ _ HSl.out f2 HNl.out.flAt).mono ?_
       rintro e wm ⟨rfl, hst, hkp⟩
       have HBm := hide hst.past
       obtain ⟨_, _, _, _, _, t5⟩ := tk_row (tk_keep HRl.out hkp)
       obtain ⟨_, _, _, _, _, v5⟩ := tk_row (tk_keep HUl.out hkp)
       dsimp only at t5 v5
       clear hst hkp HPz HSl HNl HRl HUl v2
       go_wp2
       go_ret
       exact ⟨congrArg (fun z => Ending.returned (.bool z)) (decide_eq_true (by omega)), HBm.out⟩
      ·
       rw [hz, errV_pos a (by decide)] at hee
       subst hee
       clear hz hs' hk' hg2 k4 k0 k1
       go_wp2_with fail
       refine (HC2.out _ _ HSq.out).mono ?_
       rintro e wl ⟨rfl, hst, _⟩
       have HBl := hide hst.past
       clear hst HC2
       go_wp2
       go_ret
       exact ⟨rfl, HBl.out⟩
    ·
     have hlS := logS_no hc
     obtain ⟨t, p, hev⟩ := err_iface (a := a) hc
     have HL := HLo.out
     rw [hlS, hev, serR_no hc] at HL
     have HLn := hide HL
     clear hlS hev HL HLo hc HG
     generalize findP r.b y = fd at *
     generalize rightN r x = rn at *
     go_wp2_with fail
     refine HFi.out.mono ?_
     rintro e w5 ⟨rfl, rfl⟩
     clear HFi
     go_wp2_with fail
     refine (HPr.out _ _ HSk.out).mono ?_
     rintro e w6 ⟨rfl, hst, _⟩
     have HS6 := hide hst
     clear hst HPr f4
     go_wp2_with fail
     refine (HLn.out _ HS6.out).mono ?_
     rintro e w7 ⟨rfl, hst, _⟩
     have HB7 := hide hst.past
     clear hst HLn
     go_wp2
     go_ret
     exact ⟨rfl, HB7.out⟩
end Go.Proofs.YtabpnjchocgakaaGreatDoor

/-
  What package feed's Since and Floors give: those behind a number, the floors of a feed, in new memory, or an error; for every list.
-/
import Derived.Test.YtemdnmnbecapbacGreatDoorFeedCheck
import Derived.Test.YtemdnmnbecapbacGreatDoorFeedSmall
namespace Go.Proofs.YtemdnmnbecapbacGreatDoor
open Go.RowKit Go.Extern.Stop Go.Stop Go.Extern Go.Proofs

set_option maxRecDepth 100000 in
set_option maxHeartbeats 4000000 in
theorem since_any (a : Nat → Addr) (v : Value) (l : List En) (seq : Int) (w : World) (h : EV fdS a w) (hv : EnAt w v l) (hs : ∀ e ∈ l, e.fl.who.size ≤ maxLen) (hl : l.length ≤ 1000000) :
    Calls Tryz.prog 12 #[v, .int .i64 seq] w fun e w' => FeedPost a (sinceC l seq) (sinceR l seq) w.heap.size e w' ∧ Below w.heap.size w w' := by
  have HC := hide (fdCheck_any a v l w h hv hs hl)
  have HE := hide h
  have HV := hide hv
  clear h hs
  by_cases h0 : (feedC l).1 = 0
  · have hR : sinceC l seq = (if seq < 0 then (2, -1) else if (l.length : Int) < seq then (15, -1) else (0, -1)) := if_pos h0
    by_cases hneg : seq < 0
    · rw [if_pos hneg] at hR
      have hRR : sinceR l seq = [] := by unfold sinceR; rw [hR]; rfl
      rw [hR, hRR]
      clear hR hRR hv
      generalize feedC l = c at *
      go_enter Tryz.func12, Tryz.ntmps12
      go_wp2_with fail
      refine HC.out.mono ?_
      rintro e w1 ⟨ev, rfl, he, hb⟩
      obtain rfl := he.none h0
      have HB1 := hide hb
      have hvv : w1.cell? ⟨1, 0, none⟩ = some (eV (a 1)) := (HE.out.below hb).var 1 (by decide) rfl
      clear he hb h0
      go_wp2
      go_quiet (fail)
      go_wp2
      go_ret2
      exact ⟨⟨_, _, rfl, OwnE.nil _ _, Or.inr (Or.inl ⟨by decide, rfl, rfl⟩), fun _ => rfl⟩, below_drewN HB1.out _⟩
    · rw [if_neg hneg] at hR
      by_cases hbig : (l.length : Int) < seq
      · rw [if_pos hbig] at hR
        have hRR : sinceR l seq = [] := by unfold sinceR; rw [hR]; rfl
        rw [hR, hRR]
        obtain ⟨ad, cap, rfl, hcap⟩ := hv.form
        clear hR hRR hv
        generalize feedC l = c at *
        generalize l.length = n at *
        go_enter Tryz.func12, Tryz.ntmps12
        go_wp2_with fail
        refine HC.out.mono ?_
        rintro e w1 ⟨ev, rfl, he, hb⟩
        obtain rfl := he.none h0
        have HB1 := hide hb
        have hvv : w1.cell? ⟨2, 0, none⟩ = some (eV (a 14)) := (HE.out.below hb).var 14 (by decide) rfl
        clear he hb h0
        go_wp2
        go_quiet (fail)
        go_wp2
        go_ret2
        exact ⟨⟨_, _, rfl, OwnE.nil _ _, Or.inr (Or.inl ⟨by decide, rfl, rfl⟩), fun _ => rfl⟩, below_drewN HB1.out _⟩
      · rw [if_neg hbig] at hR
        obtain ⟨k, rfl⟩ : ∃ k : Nat, seq = (k : Int) := ⟨seq.toNat, by omega⟩
        have hRR : sinceR l (k : Int) = l.drop k := by unfold sinceR; rw [hR]; rfl
        rw [hR, hRR]
        have hkl : k ≤ l.length := by omega
        have HCl := hide (fun v w h => cloneE_any v (l.drop k) w h (by rw [List.length_drop]; omega))
        have HD : Hid (∀ w b off cap, l.length ≤ cap → (∀ j u, (cellsE l)[j]? = some u → w.cell? ⟨b, off + j, none⟩ = some u) → EnAt w (.slice (some ⟨b, off + k * 4, none⟩) (l.length - k) (cap - k)) (l.drop k)) := fun w b off cap h2 h3 => EnAt.drop h3 k _ _ rfl (by omega)
        by_cases hn : 0 < l.length
        · obtain ⟨b, off, cap, rfl, hcap, hbl, hcell, hrest⟩ := hv.at hn
          clear hrest
          have HCe := hide hcell
          have HBl := hide hbl
          have HNil : Hid (l.length ≤ k → ∀ w ad c, EnAt w (.slice ad 0 c) (l.drop k)) := fun h w ad c => Or.inl ⟨ad, c, rfl, List.drop_of_length_le h⟩
          clear hR hRR hv hcell hbl
          generalize feedC l = c at *
          generalize hnn : l.length = n at *
          have HN := hide hnn
          clear hnn
          by_cases hkc : k < cap
          · go_enter Tryz.func12, Tryz.ntmps12
            go_wp2_with fail
            refine HC.out.mono ?_
            rintro e w1 ⟨ev, rfl, he, hb⟩
            obtain rfl := he.none h0
            have HB1 := hide hb
            have HD1 := hide (HD.out w1 b off cap hcap (fun j u hu => (hb.cell (p := ⟨b, off + j, none⟩) HBl.out).trans (HCe.out j u hu)))
            clear he hb h0 HD HCe
            go_wp2_with fail
            refine (HCl.out _ _ HD1.out).mono ?_
            rintro e w2 ⟨v2, rfl, hown, hb⟩
            have HB2 : Hid (Below w.heap.size w w2) := HB1.out.trans (hb.mono HB1.out.size)
            have HO2 := hide hown
            clear hown hb
            go_wp2
            go_ret2
            exact ⟨⟨_, _, rfl, OwnE.less HO2.out HB1.out.size, Or.inl ⟨rfl, rfl⟩, fun h => absurd rfl h⟩, HB2.out⟩
          · obtain rfl : cap = k := by omega
            obtain rfl : n = cap := by omega
            have HNi2 := hide (HNil.out (Nat.le_refl _))
            go_enter Tryz.func12, Tryz.ntmps12
            go_wp2_with fail
            refine HC.out.mono ?_
            rintro e w1 ⟨ev, rfl, he, hb⟩
            obtain rfl := he.none h0
            have HB1 := hide hb
            clear he hb h0 HD HCe HNil
            go_wp2_with fail
            try rw [Nat.sub_self]
            refine (HCl.out _ _ (HNi2.out _ _ _)).mono ?_
            rintro e w2 ⟨v2, rfl, hown, hb⟩
            have HB2 : Hid (Below w.heap.size w w2) := HB1.out.trans (hb.mono HB1.out.size)
            have HO2 := hide hown
            clear hown hb
            go_wp2
            go_ret2
            exact ⟨⟨_, _, rfl, OwnE.less HO2.out HB1.out.size, Or.inl ⟨rfl, rfl⟩, fun h => absurd rfl h⟩, HB2.out⟩
        · obtain rfl : l = [] := List.length_eq_zero_iff.1 (by omega)
          obtain rfl : k = 0 := by simpa using hkl
          obtain ⟨ad, cap, rfl, hcap⟩ := hv.form
          have HD2 : Hid (∀ w ad cap, EnAt w (.slice ad 0 cap) (([] : List En).drop 0)) := fun w ad cap => Or.inl ⟨ad, cap, rfl, rfl⟩
          clear hR hRR hv HD hkl hn hneg hbig
          generalize feedC [] = c at *
          show Calls Tryz.prog 12 #[.slice ad 0 cap, .int .i64 0] w _
          cases ad with
          | none =>
            go_enter Tryz.func12, Tryz.ntmps12
            go_wp2_with fail
            refine HC.out.mono ?_
            rintro e w1 ⟨ev, rfl, he, hb⟩
            obtain rfl := he.none h0
            have HB1 := hide hb
            clear he hb h0
            go_wp2_with fail
            refine (HCl.out _ _ (HD2.out _ _ _)).mono ?_
            rintro e w2 ⟨v2, rfl, hown, hb⟩
            have HB2 : Hid (Below w.heap.size w w2) := HB1.out.trans (hb.mono HB1.out.size)
            have HO2 := hide hown
            clear hown hb
            go_wp2
            go_ret2
            exact ⟨⟨_, _, rfl, OwnE.less HO2.out HB1.out.size, Or.inl ⟨rfl, rfl⟩, fun h => absurd rfl h⟩, HB2.out⟩
          | some ad =>
            go_enter Tryz.func12, Tryz.ntmps12
            go_wp2_with fail
            refine HC.out.mono ?_
            rintro e w1 ⟨ev, rfl, he, hb⟩
            obtain rfl := he.none h0
            have HB1 := hide hb
            clear he hb h0
            go_wp2_with fail
            refine (HCl.out _ _ (HD2.out _ _ _)).mono ?_
            rintro e w2 ⟨v2, rfl, hown, hb⟩
            have HB2 : Hid (Below w.heap.size w w2) := HB1.out.trans (hb.mono HB1.out.size)
            have HO2 := hide hown
            clear hown hb
            go_wp2
            go_ret2
            exact ⟨⟨_, _, rfl, OwnE.less HO2.out HB1.out.size, Or.inl ⟨rfl, rfl⟩, fun h => absurd rfl h⟩, HB2.out⟩
  · have hR : sinceC l seq = feedC l := if_neg h0
    have hRR : sinceR l seq = [] := by unfold sinceR; rw [hR, if_neg h0]
    rw [hR, hRR]
    clear hR hRR hv
    generalize feedC l = c at *
    have HH := hide h0
    go_enter Tryz.func12, Tryz.ntmps12
    go_wp2_with fail
    refine HC.out.mono ?_
    rintro e w1 ⟨ev, rfl, he, hb⟩
    have HEr := hide he
    have HB1 := hide hb
    rcases he.cases with ⟨e0, _⟩ | ⟨_, tt, pp, rfl⟩
    · exact absurd e0 HH.out
    · clear he hb h0
      go_wp2
      go_ret2
      exact ⟨⟨_, _, rfl, OwnE.nil _ _, HEr.out, fun _ => rfl⟩, HB1.out⟩

/-- What Floors gives: a list of floors in memory of one's own, and an error. -/
theorem small_fls : ∀ (l : List En) (x b : List Fl), (∀ e ∈ l, e.fl.who.size ≤ maxLen) → (∀ f ∈ x, f.who.size ≤ maxLen) → l.foldl stepO (some x) = some b → ∀ f ∈ b, f.who.size ≤ maxLen
  | [], x, b, _, h2, h => by
    obtain rfl : x = b := Option.some.inj h
    exact h2
  | e :: l, x, b, h1, h2, h => by
    by_cases h0 : (raiseC x e.fl).1 = 0
    · refine small_fls l (raisedL x e.fl) b (fun e' he' => h1 e' (by simp [he'])) (small_raised h2 (h1 e (by simp))) ?_
      rw [← h, List.foldl_cons, show stepO (some x) e = some (raisedL x e.fl) from if_pos h0]
    · exfalso
      rw [List.foldl_cons, show stepO (some x) e = none from if_neg h0, step_none] at h
      cases h
theorem small_floors {l : List En} (hs : ∀ e ∈ l, e.fl.who.size ≤ maxLen) : ∀ f ∈ floorsR l, f.who.size ≤ maxLen := by
  by_cases h : (floorsC l).1 = 0
  · exact small_fls l [] _ hs (fun f hf => by cases hf) (floors_zero h).2
  · have : floorsR l = [] := if_neg h
    rw [this]
    intro f hf; cases hf

set_option maxRecDepth 100000 in
set_option maxHeartbeats 4000000 in
theorem floors_any (a : Nat → Addr) (v : Value) (l : List En) (w : World) (h : EV fdS a w) (hv : EnAt w v l) (hs : ∀ e ∈ l, e.fl.who.size ≤ maxLen) (hl : l.length ≤ 1000000) :
    Calls Tryz.prog 8 #[v] w fun e w' => ListPost a (floorsC l) (floorsR l) w.heap.size e w' ∧ Below w.heap.size w w' := by
  have HC := hide (fdCheck_any a v l w h hv hs hl)
  have HE := hide h
  have HV := hide hv
  have HS := hide hs
  clear h hs
  by_cases h0 : (feedC l).1 = 0
  · have HOne := hide (feed_one h0)
    have HNo := hide (fun h2 => floors_none h0 h2)
    have HYes := hide (fun b h2 => floors_some (b := b) h0 h2)
    have HBad : Hid ((floorsC l).1 ≠ 0 → floorsR l = []) := fun h => if_neg h
    obtain ⟨ad, cap, rfl, hcap⟩ := hv.form
    generalize hc : feedC l = c at *
    generalize hn : l.length = n at *
    have HN := hide hn
    clear hv hn hc
    generalize floorsC l = fc at *
    generalize floorsR l = fr at *
    go_enter Tryz.func8, Tryz.ntmps8
    go_wp2_with fail
    refine HC.out.mono ?_
    rintro e w1 ⟨ev, rfl, he, hb⟩
    obtain rfl := he.none h0
    have HB1 := hide hb
    clear he hb h0
    go_wp2
    go_loopg [5, 7, 8, 9, 17] n (fun gg s5 _ _ _ s17 wr => ∃ k : Nat, k ≤ n ∧ n - k ≤ gg ∧ s17 = .int .i64 k ∧ Hid (Below w.heap.size w wr) ∧ ∃ x, Hid (flsO (l.take k) = some x) ∧ Hid (OwnF wr w.heap.size s5 x))
    case atStart => exact ⟨0, Nat.zero_le _, by omega, rfl, HB1.out, [], rfl, OwnF.nil _ _⟩
    case round =>
      clear HB1
      obtain ⟨k, hk, hgg, rfl, HB, x, HX, HO⟩ := hrel
      by_cases hlt : k < n
      · have hltz : (k : Int) < (n : Int) := by omega
        have hkl : k < l.length := by rw [HN.out]; exact hlt
        have hvr := HV.out.below HB.out
        rw [← HN.out] at hvr
        obtain ⟨b, off, cap', e, hc', hb, _, hcell⟩ := hvr.at (by omega)
        injection e with e1 e2 e3
        subst e1; subst e3
        obtain ⟨c0, c1, c2, c3⟩ := hcell k hkl
        obtain ⟨hr, hx21⟩ := fls_ok HX.out
        have hx1 := small_fls (l.take k) [] x (fun e he => HS.out e (List.mem_of_mem_take he)) (fun f hf => by cases hf) HX.out
        have hfs : (l[k]).fl.who.size ≤ maxLen := HS.out _ (List.getElem_mem _)
        have HRc := hide (raiseC_right hr hx21 (HOne.out _ (List.getElem_mem hkl)))
        have HBa : Hid (Below w.heap.size w (wr.alloc (.cells #[.int .i64 l[k].seq, .int .i64 l[k].time, .string l[k].fl.who, .int .i64 l[k].fl.ep] 64))) := HB.out.alloc HB.out.size _
        have HRa := hide (raise_any a u5 x l[k].fl (wr.alloc (.cells #[.int .i64 l[k].seq, .int .i64 l[k].time, .string l[k].fl.who, .int .i64 l[k].fl.ep] 64)) (HE.out.below HBa.out).fl (HO.out.flAt.below ((Below.refl _ _).alloc (Nat.le_refl _) _)) hx1 hfs (by omega))
        unfold Fl.val at HRa
        have HSt : Hid (flsO (l.take (k + 1)) = if (raiseC x l[k].fl).1 = 0 then some (raisedL x l[k].fl) else none) := by
          show _ = _
          rw [fls_take l k hkl, HX.out]
          rfl
        have HZ : Hid ((raiseC x l[k].fl).1 = 0 → raiseR x l[k].fl = raisedL x l[k].fl) := fun h => (raiseC_zero h).2.2.2.2.2
        have HCut := hide (fls_cut l (k + 1))
        clear hcell hvr hr hx21 hx1 hfs
        generalize raiseC x l[k].fl = rc at *
        generalize raiseR x l[k].fl = rr at *
        generalize raisedL x l[k].fl = rd at *
        generalize l[k].seq = sq at *
        generalize l[k].time = tm at *
        generalize l[k].fl.who = who at *
        generalize l[k].fl.ep = ep at *
        go_wp2_with fail
        refine HRa.out.mono ?_
        rintro e w4 ⟨⟨v4, ev4, rfl, hown, herr, hnil⟩, hb4⟩
        have HB4 : Hid (Below w.heap.size w w4) := HBa.out.trans (hb4.mono HBa.out.size)
        have HEr := hide herr
        rcases herr.cases with ⟨z0, rfl⟩ | ⟨z0, tt, pp, rfl⟩
        · have HO4 : Hid (OwnF w4 w.heap.size v4 rd) := by
            rw [HZ.out z0] at hown
            exact OwnF.less hown HBa.out.size
          have HX4 : Hid (flsO (l.take (k + 1)) = some rd) := by show _ = _; rw [HSt.out, if_pos z0]
          clear hown herr hnil hb4 z0 HRa HEr HRc HSt HZ HCut
          go_wp2
          go_roundg (n - (k + 1))
          case measure => omega
          case rel => exact ⟨k + 1, by omega, by omega, by go_num, HB4, rd, HX4, HO4⟩
        · have hfc : fc = (7, -1) := HNo.out (HCut.out (by rw [HSt.out, if_neg z0]))
          have hrc : rc = (7, -1) := by
            have := HRc.out
            split at this
            · exact this
            · rw [this] at z0; exact absurd rfl z0
          have HFr := hide (HBad.out (by rw [hfc]; decide))
          have HFc := hide hfc
          have HBr := hide (fdBare_any a rc (.iface tt pp) w4 HEr.out)
          rw [hrc, show errV a (7, (-1 : Int)).1 = eV (a 6) from rfl] at HBr
          clear hown herr hnil hb4 z0 HRa HEr HRc HSt HZ HCut hfc hrc
          go_wp2_with fail
          refine HBr.out.mono ?_
          rintro e w5 ⟨rfl, rfl⟩
          go_wp2
          go_ret2
          exact ⟨⟨_, _, rfl, by rw [HFr.out]; exact OwnF.nil _ _, by rw [HFc.out]; exact Or.inr (Or.inl ⟨by decide, rfl, rfl⟩), fun _ => rfl⟩, HB4.out⟩
      · obtain rfl : k = n := by omega
        have hltz : ¬ (k : Int) < (k : Int) := by omega
        have hx : flsO l = some x := by
          have := HX.out
          rwa [List.take_of_length_le (Nat.le_of_eq HN.out)] at this
        have HY := hide (HYes.out x hx)
        clear hx
        go_wp2
        go_ret2
        exact ⟨⟨_, _, rfl, by rw [HY.out.2]; exact HO.out, by rw [HY.out.1]; exact Or.inl ⟨rfl, rfl⟩, fun h => absurd (by rw [HY.out.1]) h⟩, HB.out⟩
  · have hR : floorsC l = feedC l := if_neg h0
    have hRR : floorsR l = [] := by unfold floorsR; rw [hR, if_neg h0]
    rw [hR, hRR]
    clear hR hRR hv
    generalize feedC l = c at *
    have HH := hide h0
    go_enter Tryz.func8, Tryz.ntmps8
    go_wp2_with fail
    refine HC.out.mono ?_
    rintro e w1 ⟨ev, rfl, he, hb⟩
    have HEr := hide he
    have HB1 := hide hb
    rcases he.cases with ⟨e0, _⟩ | ⟨_, tt, pp, rfl⟩
    · exact absurd e0 HH.out
    · clear he hb h0
      go_wp2
      go_ret2
      exact ⟨⟨_, _, rfl, OwnF.nil _ _, HEr.out, fun _ => rfl⟩, HB1.out⟩
end Go.Proofs.YtemdnmnbecapbacGreatDoor

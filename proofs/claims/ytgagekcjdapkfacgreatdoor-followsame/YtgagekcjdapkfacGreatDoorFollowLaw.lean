/-
  The chapter's laws, plainly: what is taken with a head that was made, beginnings of a feed, floors that rise; and the closed fact of its statements.
-/
import Derived.Test.YtgagekcjdapkfacGreatDoorFollowTake
import Derived.Test.YtgagekcjdapkfacGreatDoorFeedFed
import Derived.Test.YtgagekcjdapkfacGreatDoorRefPb
namespace Go.Proofs.YtgagekcjdapkfacGreatDoor
open Go.RowKit Go.Extern.Stop Go.Stop Go.Extern Go.Proofs

theorem bad_take {l : List En} {k i : Nat} (hi : i < k) : badE (l.take k) i = badE l i := by
  unfold badE
  rw [List.getElem?_take_of_lt hi, List.take_take, Nat.min_eq_left (Nat.le_of_lt hi)]
theorem feed_take {l : List En} (h : (feedC l).1 = 0) (k : Nat) : (feedC (l.take k)).1 = 0 := by
  obtain ⟨h1, h2⟩ := feed_zero h
  rw [feed_good (by rw [List.length_take]; omega) (fun j hj => ?_)]
  rw [List.length_take] at hj
  rw [bad_take (by omega)]
  exact h2 j (by omega)
theorem floors_take {l : List En} (h : (floorsC l).1 = 0) (k : Nat) : (floorsC (l.take k)).1 = 0 := by
  obtain ⟨h1, h2⟩ := floors_zero h
  cases hf : flsO (l.take k) with
  | none => rw [fls_cut l k hf] at h2; cases h2
  | some b => rw [(floors_some (feed_take h1 k) hf).1]
theorem step_rise {x b : List Fl} (hr : RightF x) : ∀ (l : List En), l.foldl stepO (some x) = some b → ∀ n, ofL x n ≤ ofL b n
  | [], h, n => by
    obtain rfl : x = b := Option.some.inj h
    exact Int.le_refl _
  | e :: l, h, n => by
    by_cases h0 : (raiseC x e.fl).1 = 0
    · obtain ⟨_, hf, hr2, _⟩ := raiseC_zero h0
      rw [List.foldl_cons, show stepO (some x) e = some (raisedL x e.fl) from if_pos h0] at h
      refine Int.le_trans ?_ (step_rise hr2 l h n)
      rw [of_raised hr hf]
      exact up_le e.fl n _
    · exfalso
      rw [List.foldl_cons, show stepO (some x) e = none from if_neg h0, step_none] at h
      cases h
/-- Floors only rise. -/
theorem floors_rise {l : List En} (h : (floorsC l).1 = 0) (k : Nat) (n : List UInt8) : ofL (floorsR (l.take k)) n ≤ ofL (floorsR l) n := by
  obtain ⟨h1, h2⟩ := floors_zero h
  obtain ⟨h3, h4⟩ := floors_zero (floors_take h k)
  obtain ⟨h5, _⟩ := floors_right (l.take k)
  refine step_rise h5 (l.drop k) ?_ n
  have e := congrArg flsO (List.take_append_drop k l)
  unfold flsO at e h2 h4
  rw [List.foldl_append, h4, h2] at e
  exact e
theorem time_at {l : List En} (h : (feedC l).1 = 0) (i : Nat) (hi : i < l.length) : newL (l.take i) ≤ l[i].time := by
  have := (feed_zero h).2 i hi
  rw [bad_at hi] at this
  exact (ent_zero this).2.2.2.1
theorem new_take {l : List En} {i : Nat} (hi : i < l.length) : newL (l.take (i + 1)) = l[i].time := by
  rw [newL_last (m := i) (by rw [List.length_take]; omega)]
  rw [List.getElem_take]
theorem new_mono {l : List En} (h : (feedC l).1 = 0) (j k : Nat) (hk : j + k ≤ l.length) : newL (l.take j) ≤ newL (l.take (j + k)) := by
  induction k with
  | zero => exact Int.le_refl _
  | succ k ih =>
    refine Int.le_trans (ih (by omega)) ?_
    rw [show j + (k + 1) = j + k + 1 by omega, new_take (by omega)]
    exact time_at h _ (by omega)
theorem txt_data (l : List UInt8) : (txt l).data.toList = l := by rw [txt_list]

/-- What is taken with a head that was made of all. -/
theorem take_made {s : Fo} {m : List En} {time : Int} (hc : (headC s.key (s.l ++ m) time).1 = 0) (ht : s.time ≤ time) :
    takeC s (txt (headT s.key (s.l ++ m) time)) m = 0 ∧ takeS s (txt (headT s.key (s.l ++ m) time)) m = ⟨s.key, s.l ++ m, txt (headT s.key (s.l ++ m) time), time⟩ := by
  obtain ⟨h1, h2⟩ := head_open hc
  obtain ⟨_, hf, _, _⟩ := headC_zero hc
  unfold takeC takeS
  rw [txt_list, h1, h2, if_pos rfl]
  dsimp only
  rw [if_neg (by omega), if_pos (by rw [List.length_append]; omega), if_pos (floors_zero hf).1, if_pos]
  · exact ⟨rfl, rfl⟩
  · unfold tellsB
    rw [hf]
    simp
theorem open_empty (key : Int) : openHC key [] ≠ 0 := by
  have h1 : Sl.lookE [] = 1 := rfl
  have : Sl.openE key [] ≠ 0 := by
    unfold Sl.openE
    rw [h1]
    split
    · rw [if_neg (by decide)]; decide
    · decide
  unfold openHC
  rw [if_neg this]
  exact this
/-- What a Take without an error says. -/
theorem take_zero {s : Fo} {h : ByteArray} {m : List En} (h0 : takeC s h m = 0) : openHC s.key h.data.toList = 0 ∧ s.time ≤ (openHR s.key h.data.toList).t ∧ (openHR s.key h.data.toList).n = (s.l.length : Int) + (m.length : Int) ∧ (floorsC (s.l ++ m)).1 = 0 := by
  unfold takeC at h0
  by_cases h1 : openHC s.key h.data.toList = 0
  · rw [if_pos h1] at h0
    by_cases h2 : (openHR s.key h.data.toList).t < s.time
    · rw [if_pos h2] at h0; cases h0
    · rw [if_neg h2] at h0
      by_cases h3 : (openHR s.key h.data.toList).n = (s.l.length : Int) + (m.length : Int)
      · rw [if_pos h3] at h0
        refine ⟨h1, by omega, h3, ?_⟩
        by_cases h4 : (feedC (s.l ++ m)).1 = 0
        · rw [if_pos h4] at h0
          by_cases h5 : tellsB (openHR s.key h.data.toList) (s.l ++ m) = true
          · unfold tellsB at h5
            simp only [Bool.and_eq_true, decide_eq_true_eq] at h5
            exact h5.1
          · rw [if_neg h5] at h0; cases h0
        · rw [if_neg h4] at h0; exact absurd h0 h4
      · rw [if_neg h3] at h0; cases h0
  · rw [if_neg h1] at h0; exact absurd h0 h1
/-- What one has behind a Take of news of a feed is a beginning of it, if it was. -/
theorem take_news {key : Int} {l : List En} {k many from' : Nat} {hd : ByteArray} {tm time : Int} (hm : many ≤ l.length) (hk : k ≤ l.length) (hf : from' ≤ many)
    (h0 : takeC ⟨key, l.take k, hd, tm⟩ (headX key (l.take many) time) ((l.take many).drop from') = 0) :
    k ≤ many ∧ (takeS ⟨key, l.take k, hd, tm⟩ (headX key (l.take many) time) ((l.take many).drop from')).l = l.take many ∧ tm ≤ (takeS ⟨key, l.take k, hd, tm⟩ (headX key (l.take many) time) ((l.take many).drop from')).time ∧ (floorsC (l.take many)).1 = 0 := by
  obtain ⟨h1, h2, h3, h4⟩ := take_zero h0
  dsimp only at h1 h2 h3 h4
  have hc : (headC key (l.take many) time).1 = 0 := by
    refine Decidable.byContradiction fun hn => ?_
    unfold headX at h1
    rw [if_neg hn] at h1
    exact open_empty key h1
  have hx : headX key (l.take many) time = txt (headT key (l.take many) time) := if_pos hc
  obtain ⟨e1, e2⟩ := head_open hc
  rw [hx, txt_list, e2] at h3
  dsimp only at h3
  rw [List.length_drop, List.length_take, List.length_take, Nat.min_eq_left hm, Nat.min_eq_left hk] at h3
  have hfk : from' = k := by omega
  subst hfk
  have hap : l.take from' ++ (l.take many).drop from' = l.take many := by
    have := List.take_append_drop from' (l.take many)
    rwa [List.take_take, Nat.min_eq_left hf] at this
  refine ⟨hf, hap, h2, ?_⟩
  rw [hap] at h4
  exact h4

theorem take_ann : takeC ⟨7, [], ⟨#[]⟩, -1⟩ (txt (headT 7 [enAnn] 4)) [enAnn] = 0 ∧ takeS ⟨7, [], ⟨#[]⟩, -1⟩ (txt (headT 7 [enAnn] 4)) [enAnn] = ⟨7, [enAnn], txt (headT 7 [enAnn] 4), 4⟩ :=
  take_made (s := ⟨7, [], ⟨#[]⟩, -1⟩) (m := [enAnn]) (time := 4) (by show (headC 7 [enAnn] 4).1 = 0; rw [head_ann]) (by decide)

set_option maxRecDepth 100000 in
set_option maxHeartbeats 4000000 in
theorem followed_any (a : Nat → Addr) (w : World) (h : EnvW a w) :
    Calls Tryz.prog 30 #[] w fun e w' => e = .returned (.bool true) ∧ Below w.heap.size w w' := by
  have HNw := hide (foNew_any a 7 w h)
  have HAd := hide (fun w h => fdAdd_any a (.slice none 0 0) [] 3 ⟨fAnn, 2⟩ w h (Or.inl ⟨none, 0, rfl, rfl⟩) (fun e he => by cases he) (by decide) (by simp))
  rw [add_ann.1, add_ann.2] at HAd
  have HMk := hide (fun v w h hv => fdMake_any a 7 v [enAnn] 4 w h hv (fun e he => by rw [List.mem_singleton.1 he]; decide) (by simp))
  rw [head_ann] at HMk
  have HTk := hide (fun p v vl w hE hF hv => foTake_any a p v ⟨7, [], ⟨#[]⟩, -1⟩ (txt (headT 7 [enAnn] 4)) vl [enAnn] w hE hF hv (fun e he => by cases he) (fun e he => by rw [List.mem_singleton.1 he]; decide) (by decide))
  rw [take_ann.1, take_ann.2] at HTk
  have HFl := hide (fun p v w hE hF => foFloors_any a w p v ⟨7, [enAnn], txt (headT 7 [enAnn] 4), 4⟩ hE hF (fun e he => by rw [List.mem_singleton.1 he]; decide) (by simp))
  dsimp only at HFl
  rw [floors_ann.2] at HFl
  have HSq := hide (fun p v w hF => foSeq_any w p v ⟨7, [enAnn], txt (headT 7 [enAnn] 4), 4⟩ hF)
  have HTm := hide (fun p v w hF => foTime_any w p v ⟨7, [enAnn], txt (headT 7 [enAnn] 4), 4⟩ hF)
  dsimp only at HSq HTm
  rw [show ((([enAnn] : List En).length : Nat) : Int) = 1 from rfl] at HSq
  have HE := hide h
  unfold Fl.val at HAd
  clear h
  generalize headT 7 [enAnn] 4 = tx at *
  go_enter Tryz.func30, Tryz.ntmps30
  go_wp2_with fail
  refine HNw.out.mono ?_
  rintro e w1 ⟨hb, ⟨_, p, hpw, rfl, hF⟩ | ⟨hn, _⟩⟩
  · have HB1 := hide hb
    have HF1 := hide hF
    clear hb hF HNw
    go_wp2_with fail
    refine (HAd.out _ (HE.out.below HB1.out).f.errs).mono ?_
    rintro e w2 ⟨⟨v2, ev, rfl, hown, herr, hnil⟩, hb⟩
    obtain rfl := herr.none rfl
    have HB2 : Hid (Below w.heap.size w w2) := HB1.out.trans (hb.mono HB1.out.size)
    have HF2 := hide (HF1.out.below hb)
    have HO2 := hide hown
    clear hnil hb herr hown HAd HB1 HF1
    go_wp2_with fail
    refine (HMk.out _ _ (HE.out.below HB2.out).f HO2.out.enAt).mono ?_
    rintro e w3 ⟨hp, hb⟩
    rcases hp with ⟨_, rfl⟩ | ⟨hn, _⟩
    · have HB3 : Hid (Below w.heap.size w w3) := HB2.out.trans (hb.mono HB2.out.size)
      have HF3 := hide (HF2.out.below hb)
      have HO3 := hide (HO2.out.below hb)
      clear hb HMk HB2 HF2 HO2
      go_wp2_with fail
      refine (HTk.out _ _ _ _ (HE.out.below HB3.out) HF3.out HO3.out.enAt).mono ?_
      rintro e w4 (⟨hn, _⟩ | ⟨_, rfl, hg, v4, hF4⟩)
      · exact absurd rfl hn
      · have HB4 : Hid (Below w.heap.size w w4) := HB3.out.grown hg HB3.out.size (fun k hk => by cases hk; exact hpw)
        have HF4 := hide hF4
        clear hg hF4 HTk HB3 HF3 HO3
        go_wp2_with fail
        refine (HFl.out _ _ _ (HE.out.below HB4.out).f.errs HF4.out).mono ?_
        rintro e w5 ⟨v5, rfl, hown, hb⟩
        have HB5 : Hid (Below w.heap.size w w5) := HB4.out.trans (hb.mono HB4.out.size)
        have HF5 := hide (HF4.out.below hb)
        obtain ⟨b5, off5, cap5, rfl, hcap, hlt, hcell⟩ := hown.flAt.at (by decide)
        have c1 : w5.cell? ⟨b5, off5 + 1, none⟩ = some (.int .i64 2) := (hcell 0 (by decide)).2
        rw [show ([⟨fAnn, 2⟩] : List Fl).length = 1 from rfl] at hcap ⊢
        clear hown hb HB4 HF4 HFl hcell
        go_wp2_with fail
        refine (HSq.out _ _ _ HF5.out).mono ?_
        rintro e w6 ⟨rfl, hw6⟩
        subst hw6
        go_wp2_with fail
        refine (HTm.out _ _ _ HF5.out).mono ?_
        rintro e w7 ⟨rfl, hw7⟩
        subst hw7
        go_wp2
        go_ret
        exact ⟨rfl, HB5.out⟩
    · exact absurd rfl hn
  · exact absurd ⟨by decide, by decide⟩ hn
end Go.Proofs.YtgagekcjdapkfacGreatDoor

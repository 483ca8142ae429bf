/-
  The law of FollowSame: whoever takes a feed at once has what one has who took it step by step: it returns true for every input.
-/
import Derived.Test.YtgagekcjdapkfacGreatDoorFollowLaw
import Derived.Deep.DeepCutAuto
namespace Go.Proofs.YtgagekcjdapkfacGreatDoor
open Go.RowKit Go.Extern.Stop Go.Stop Go.Extern Go.Proofs

/-- Numbers that came in. -/
def IntsIn (w : World) (v : Value) (st : List Int) : Prop := ∃ ad cap, v = .slice ad st.length cap ∧ st.length ≤ cap ∧ (0 < st.length → ∃ b o, ad = some ⟨b, o, none⟩ ∧ b < w.heap.size ∧ ∀ i x, st[i]? = some x → w.cell? ⟨b, o + i, none⟩ = some (.int .i64 x))
theorem shortE {l : List En} (h : longE l = false) : (∀ e ∈ l, e.fl.who.size ≤ maxLen) ∧ l.length ≤ 61 := ⟨fun e he => by
  have := (longE_no h).2 e he
  unfold maxLen; omega, (longE_no h).1⟩
/-- Both followers in memory: one who took all, one who has a beginning. -/
structure Both (w wr : World) (p q : Nat) (key : Int) (l : List En) (hd : ByteArray) (time : Int) (k : Nat) : Prop where
  below : Below w.heap.size w wr
  f : ∃ vf, FoAt wr p vf ⟨key, l, hd, time⟩
  g : ∃ vg h2 tm, FoAt wr q vg ⟨key, l.take k, h2, tm⟩ ∧ tm ≤ newL (l.take k)
theorem Both.step {w wr wz : World} {p q : Nat} {key : Int} {l : List En} {hd : ByteArray} {time : Int} {k : Nat} (h : Both w wr p q key l hd time k) (hb : Below wr.heap.size wr wz) : Both w wz p q key l hd time k := by
  obtain ⟨h1, ⟨vf, h2⟩, ⟨vg, x, tm, h3, h4⟩⟩ := h
  exact ⟨h1.trans (hb.mono h1.size), ⟨vf, h2.below hb⟩, ⟨vg, x, tm, h3.below hb, h4⟩⟩
theorem Both.turn {w wr wz : World} {p q : Nat} {key : Int} {l : List En} {hd : ByteArray} {time : Int} {k k' : Nat} (h : Both w wr p q key l hd time k) (hq : w.heap.size ≤ q) (hpq : p ≠ q) (hg : wr.grownBy wz (some q)) {v' : Value} {h2 : ByteArray} (hF : FoAt wz q v' ⟨key, l.take k', h2, newL (l.take k')⟩) : Both w wz p q key l hd time k' := by
  obtain ⟨h1, ⟨vf, h3⟩, ⟨vg, x, tm, h4, h5⟩⟩ := h
  exact ⟨h1.grown hg h1.size (fun j hj => by cases hj; exact hq), ⟨vf, h3.grown h4.row hpq hg⟩, ⟨v', h2, _, hF, Int.le_refl _⟩⟩

/-- What lies in a part of entries. -/
theorem EnAt.part {w : World} {ad : Option Addr} {n cap : Nat} {l : List En} (h : EnAt w (.slice ad n cap) l) (k j : Nat) (hkj : k ≤ j) (hj : j ≤ l.length) (hc : n ≤ cap) :
    EnAt w (.slice (if cap = k then ad else ad.map (·.add (k * 4))) (j - k) (cap - k)) ((l.take j).drop k) := by
  rcases h with ⟨ad', cap', e, rfl⟩ | ⟨b, off, cap', e, h2, h3⟩
  · have hj0 : j = 0 := by simpa using hj
    subst hj0
    exact Or.inl ⟨_, _, by rw [Nat.zero_sub], by simp⟩
  · injection e with e1 e2 e3
    subst e1; subst e3; subst e2
    by_cases hck : cap = k
    · rw [if_pos hck]
      have : j = k := by omega
      subst this
      exact Or.inl ⟨_, _, by rw [Nat.sub_self], by rw [List.drop_of_length_le (by rw [List.length_take]; omega)]⟩
    · rw [if_neg hck]
      refine Or.inr ⟨b, off + k * 4, cap - k, ?_, ?_, fun i u hu => ?_⟩
      · rw [List.length_drop, List.length_take, Nat.min_eq_left hj]
        show Value.slice (some ((⟨b, off, none⟩ : Addr).add (k * 4))) _ _ = _
        rw [Addr.add_lit]
      · rw [List.length_drop, List.length_take, Nat.min_eq_left hj]
        omega
      · rw [cellsE_drop, List.getElem?_drop, cellsE_take, List.getElem?_take] at hu
        split at hu
        · rw [Nat.add_assoc]; exact h3 _ u hu
        · cases hu
theorem EnAt.first {w : World} {ad : Option Addr} {n cap : Nat} {l : List En} (h : EnAt w (.slice ad n cap) l) (j : Nat) (hj : j ≤ l.length) : EnAt w (.slice ad j cap) (l.take j) := by
  rcases h with ⟨ad', cap', e, rfl⟩ | ⟨b, off, cap', e, h2, h3⟩
  · have hj0 : j = 0 := by simpa using hj
    subst hj0
    exact Or.inl ⟨_, _, rfl, by simp⟩
  · injection e with e1 e2 e3
    subst e1; subst e3
    exact EnAt.take h2 h3 j hj

theorem EnAt.cut {w : World} {ad : Option Addr} {n cap : Nat} {l : List En} (h : EnAt w (.slice ad n cap) l) (k j : Nat) (hkj : k ≤ j) (hj : j ≤ l.length) (hc : n ≤ cap) :
    (cap = k → EnAt w (.slice ad (j - k) 0) ((l.take j).drop k)) ∧ (¬ cap = k → EnAt w (.slice (Option.map (fun x => x.add (k * 4)) ad) (j - k) (cap - k)) ((l.take j).drop k)) := by
  have hp := EnAt.part h k j hkj hj hc
  refine ⟨fun e => ?_, fun e => ?_⟩
  · rw [if_pos e, show cap - k = 0 by omega] at hp
    exact hp
  · rw [if_neg e] at hp
    exact hp
/-- A head of a beginning; what is taken behind a beginning. -/
theorem head_take {key : Int} {l : List En} {time : Int} (hc : (headC key l time).1 = 0) (m : Nat) (hm : m ≤ l.length) : (headC key (l.take m) (newL (l.take m))).1 = 0 := by
  obtain ⟨h1, h2, h3, h4⟩ := headC_zero hc
  have hf := (floors_zero h2).1
  have hn := new_mono hf m (l.length - m) (by omega)
  rw [show m + (l.length - m) = l.length by omega, List.take_length] at hn
  have h0 := new_nonneg (feed_take hf m)
  unfold headC
  rw [if_pos h1, if_pos (floors_take h2 m), if_pos ⟨⟨h0, by omega⟩, Int.le_refl _⟩]
theorem take_rest {key : Int} {l : List En} {time : Int} (hc : (headC key l time).1 = 0) {k : Nat} (hk : k ≤ l.length) {h2 : ByteArray} {tm : Int} (ht : tm ≤ newL (l.take k)) :
    takeC ⟨key, l.take k, h2, tm⟩ (txt (headT key l time)) (l.drop k) = 0 ∧ takeS ⟨key, l.take k, h2, tm⟩ (txt (headT key l time)) (l.drop k) = ⟨key, l, txt (headT key l time), time⟩ := by
  obtain ⟨h1, h3, h4, h5⟩ := headC_zero hc
  have hn := new_mono (floors_zero h3).1 k (l.length - k) (by omega)
  rw [show k + (l.length - k) = l.length by omega, List.take_length] at hn
  have h := take_made (s := ⟨key, l.take k, h2, tm⟩) (m := l.drop k) (time := time) (by show (headC key (l.take k ++ l.drop k) time).1 = 0; rw [List.take_append_drop]; exact hc) (by show tm ≤ time; omega)
  dsimp only at h
  rw [List.take_append_drop] at h
  exact h

set_option maxRecDepth 100000 in
set_option maxHeartbeats 8000000 in
theorem followSame_law (a : Nat → Addr) (key : Int) (v : Value) (l : List En) (vs : Value) (st : List Int) (time : Int) (w : World) (h : EnvW a w) (hv : EnAt w v l) (hst : IntsIn w vs st) :
    Calls Tryz.prog 6 #[.int .i64 key, v, vs, .int .i64 time] w fun e w' => e = .returned (.bool true) ∧ Below w.heap.size w w' := by
  have HFd := hide (followed_any a w h)
  have HLg := hide (fun w h => longEntries_any v l w h)
  have HE := hide h
  have HV := hide hv
  obtain ⟨ads, caps, rfl, hcs, hcells⟩ := hst
  have HSt := hide hcells
  obtain ⟨ad, cap, rfl, hcap⟩ := hv.form
  clear h hv hcells
  go_enter Tryz.func6, Tryz.ntmps6
  go_wp2_with fail
  refine HFd.out.mono ?_
  rintro e w1 ⟨rfl, hb⟩
  have HB1 := hide hb
  clear hb HFd
  go_wp2_with fail
  refine (HLg.out _ (HV.out.below HB1.out)).mono ?_
  rintro e w2 ⟨rfl, hw2⟩
  subst hw2
  clear HLg
  cases hlong : longE l with
  | true =>
    rw [if_pos rfl]
    clear hlong
    go_wp2
    go_ret
    exact ⟨rfl, HB1.out⟩
  | false =>
    rw [if_neg (by decide)]
    obtain ⟨hsm, hl61⟩ := shortE hlong
    have HSm := hide hsm
    clear hlong hsm
    by_cases h20 : 20 < st.length
    · have h20z : (20 : Int) < (st.length : Int) := by omega
      clear HSt
      generalize st.length = sn at *
      go_wp2
      go_ret
      exact ⟨rfl, HB1.out⟩
    · have h20z : ¬ (20 : Int) < (st.length : Int) := by omega
      have HCk := hide (fdCheck_any a _ l _ (HE.out.below HB1.out).f.errs (HV.out.below HB1.out) HSm.out (by omega))
      go_wp2_with fail
      refine HCk.out.mono ?_
      rintro e w3 ⟨ev, rfl, herr, hb⟩
      have HB3 : Hid (Below w.heap.size w w3) := HB1.out.trans (hb.mono HB1.out.size)
      clear hb HB1 HCk
      rcases herr.cases with ⟨z0, rfl⟩ | ⟨z0, tt, pp, rfl⟩
      · have HOk := hide z0
        have HNw := hide (foNew_any a key w3 (HE.out.below HB3.out))
        clear herr z0
        go_wp2_with fail
        refine HNw.out.mono ?_
        clear HNw
        rintro e w4 ⟨hb, ⟨hkey, p, hpw, rfl, hF⟩ | ⟨hkey, rfl⟩⟩
        · have HB4 : Hid (Below w.heap.size w w4) := HB3.out.trans (hb.mono HB3.out.size)
          have hpw2 : w.heap.size ≤ p := Nat.le_trans HB3.out.size hpw
          have HF4 := hide hF
          have HNw := hide (foNew_any a key w4 (HE.out.below HB4.out))
          have HKey := hide hkey
          clear hb hF HB3 hpw
          go_wp2_with fail
          refine HNw.out.mono ?_
          clear HNw hkey
          rintro e w5 ⟨hb, ⟨_, q, hqw, rfl, hG⟩ | ⟨hkey, _⟩⟩
          · have HB5 : Hid (Below w.heap.size w w5) := HB4.out.trans (hb.mono HB4.out.size)
            have hpq : p ≠ q := by have := row_lt HF4.out.row; omega
            have hqw2 : w.heap.size ≤ q := Nat.le_trans HB4.out.size hqw
            have HF5 := hide (HF4.out.below hb)
            have HG5 := hide hG
            have HMk := hide (fdMake_any a key _ l time w5 (HE.out.below HB5.out).f (HV.out.below HB5.out) HSm.out (by omega))
            clear hb hG HB4 HF4 hqw
            go_wp2_with fail
            refine HMk.out.mono ?_
            clear HMk
            rintro e w6 ⟨hp, hb⟩
            have HB6 : Hid (Below w.heap.size w w6) := HB5.out.trans (hb.mono HB5.out.size)
            rcases hp with ⟨hc0, rfl⟩ | ⟨hc0, tt, pp, rfl, _⟩
            · have HTm := hide (take_made (s := ⟨key, [], ⟨#[]⟩, -1⟩) (m := l) (time := time) hc0 (by have := (headC_zero hc0).2.2.1.1; show (-1 : Int) ≤ time; omega))
              have HTk := hide (foTake_any a p _ ⟨key, [], ⟨#[]⟩, -1⟩ (txt (headT key l time)) _ l w6 (HE.out.below HB6.out) (HF5.out.below hb) (HV.out.below HB6.out) (fun e he => by cases he) HSm.out (by simp; omega))
              have HG6 := hide (HG5.out.below hb)
              have HR6 := hide (HF5.out.below hb).row
              have HC0 := hide hc0
              dsimp only [List.nil_append] at HTm
              rw [HTm.out.1, HTm.out.2] at HTk
              clear hb HB5 HF5 HG5 hc0 HTm
              go_wp2_with fail
              refine HTk.out.mono ?_
              clear HTk
              rintro e w7 (⟨hn, _⟩ | ⟨_, rfl, hg, v7, hF7⟩)
              · exact absurd rfl hn
              · have HI : Hid (Both w w7 p q key l (txt (headT key l time)) time 0) := ⟨HB6.out.grown hg HB6.out.size (fun j hj => by cases hj; exact hpw2), ⟨v7, hF7⟩, ⟨_, _, -1, HG6.out.grown HR6.out (Ne.symm hpq) hg, by rw [List.take_zero, newL_nil]; decide⟩⟩
                clear hg hF7 HB6 HG6 HR6
                have HHd := hide (headC_zero HC0.out)
                generalize hn : st.length = sn at *
                generalize hln : l.length = n at *
                have HN := hide hn
                have HLn := hide hln
                clear hn hln
                have HTl := hide (fun k hk h2 tm ht => take_rest HC0.out (k := k) hk (h2 := h2) (tm := tm) ht)
                generalize txt (headT key l time) = tx at *
                go_wp2
                go_loopg [16, 17, 18, 19, 20, 21] sn (fun gg s16 s17 _ _ _ _ wr => ∃ k i : Nat, i ≤ sn ∧ sn - i ≤ gg ∧ s17 = .int .i64 i ∧ s16 = .int .i64 k ∧ k ≤ n ∧ Hid (Both w wr p q key l tx time k))
                case atStart => exact ⟨0, 0, by omega, by omega, rfl, rfl, by omega, HI⟩
                case round =>
                  clear HI
                  obtain ⟨k, i, hi, hgg, rfl, rfl, hkn, HI⟩ := hrel
                  by_cases hlt : i < sn
                  · have hltz : (i : Int) < (sn : Int) := by omega
                    obtain ⟨b, o, rfl, hbl, hcell⟩ := HSt.out (by omega)
                    have hil : i < st.length := by rw [HN.out]; exact hlt
                    have c0 := (HI.out.below.cell (p := ⟨b, o + i, none⟩) hbl).trans (hcell i _ (List.getElem?_eq_getElem hil))
                    clear hcell
                    generalize st[i] = x at *
                    by_cases hx : x < (k : Int)
                    · go_wp2
                      go_roundg (sn - (i + 1))
                      case measure => omega
                      case rel => exact ⟨k, i + 1, by omega, by omega, by go_num, rfl, hkn, HI⟩
                    · by_cases hx2 : (n : Int) < x
                      · go_wp2
                        go_roundg (sn - (i + 1))
                        case measure => omega
                        case rel => exact ⟨k, i + 1, by omega, by omega, by go_num, rfl, hkn, HI⟩
                      · obtain ⟨m, rfl⟩ : ∃ m : Nat, x = (m : Int) := ⟨x.toNat, by omega⟩
                        have hkm : k ≤ m := by omega
                        have hmn : m ≤ n := by omega
                        have hkmz : (k : Int) ≤ (m : Int) := by omega
                        have hmcz : (m : Int) ≤ (cap : Int) := by omega
                        go_upto_if 99 with fail
                        go_cut [19] (fun s19 wc => s19 = .int .i64 (newL (l.take m)) ∧ wr = wc)
                        case first =>
                          by_cases hm0 : m = 0
                          · subst hm0
                            go_wp2
                            go_meet
                            exact ⟨rfl, rfl⟩
                          · obtain ⟨m1, rfl⟩ : ∃ m1, m = m1 + 1 := ⟨m - 1, by omega⟩
                            have hml : m1 < l.length := by rw [HLn.out]; omega
                            have hvr := HV.out.below HI.out.below
                            rw [← HLn.out] at hvr
                            obtain ⟨b2, off2, cap2, e2, hc2, hb2, _, hce⟩ := hvr.at (by omega)
                            injection e2 with e3 e4 e5
                            subst e3; subst e5
                            have c1 := (hce m1 hml).2.1
                            have hT : Hid (newL (l.take (m1 + 1)) = l[m1].time) := new_take hml
                            have hz0 : (0 : Int) < ((m1 + 1 : Nat) : Int) := by omega
                            have hzz : ((m1 + 1 : Nat) : Int) - 1 = (m1 : Int) := by omega
                            have hzl : (m1 : Int) < (n : Int) := by omega
                            clear hce hvr
                            generalize l[m1].time = t1 at *
                            go_wp2
                            go_meet
                            exact ⟨by rw [hT.out], rfl⟩
                        case rest =>
                          obtain ⟨rfl, rfl⟩ := hcut
                          have hm0z : (0 : Int) ≤ (m : Int) := by omega
                          have hk0z : (0 : Int) ≤ (k : Int) := by omega
                          have hml : m ≤ l.length := by rw [HLn.out]; exact hmn
                          have HVw : Hid (EnAt wr (.slice ad n cap) l) := HV.out.below HI.out.below
                          have HSk : Hid (∀ e ∈ l.take m, e.fl.who.size ≤ maxLen) := fun e he => HSm.out e (List.mem_of_mem_take he)
                          have HMk := hide (fdMake_any a key _ (l.take m) (newL (l.take m)) wr (HE.out.below HI.out.below).f (EnAt.first HVw.out m hml) HSk.out (by rw [List.length_take]; omega))
                          have HCm := hide (head_take HC0.out m hml)
                          go_wp2_with fail
                          refine HMk.out.mono ?_
                          clear HMk
                          rintro e w8 ⟨hp, hb⟩
                          rcases hp with ⟨_, rfl⟩ | ⟨hn8, _⟩
                          · have HI8 := hide (HI.out.step hb)
                            have HPt := hide (EnAt.cut (HV.out.below HI8.out.below) k m hkm hml hcap)
                            have HLen : Hid (((l.take m).drop k).length ≤ 1000000) := by show _ ≤ _; rw [List.length_drop, List.length_take]; omega
                            obtain ⟨vg, x2, tm, hG8, htm⟩ := HI8.out.g
                            have HG8 := hide hG8
                            have HTr := take_rest (l := l.take m) (time := newL (l.take m)) HCm.out (k := k) (by rw [List.length_take]; omega) (h2 := x2) (tm := tm) (by rw [List.take_take, Nat.min_eq_left hkm]; exact htm)
                            rw [List.take_take, Nat.min_eq_left hkm] at HTr
                            have HTk := hide (fun v9 w9 hE hF hv => foTake_any a q vg ⟨key, l.take k, x2, tm⟩ (txt (headT key (l.take m) (newL (l.take m)))) v9 ((l.take m).drop k) w9 hE hF hv (fun e he => HSm.out e (List.mem_of_mem_take he)) (fun e he => HSk.out e (List.mem_of_mem_drop he)) (by dsimp only; rw [List.length_drop, List.length_take, List.length_take]; omega))
                            rw [HTr.1, HTr.2] at HTk
                            clear hb HI hG8 htm HTr HSk HVw HCm hml
                            generalize txt (headT key (l.take m) (newL (l.take m))) = tx8 at *
                            go_wp2_with fail
                            all_goals
                              refine (ownEntries_any _ ((l.take m).drop k) w8 (by first | exact HPt.out.1 (by assumption) | exact HPt.out.2 (by assumption)) HLen.out).mono ?_
                              rintro e w9 ⟨v9, rfl, hown, hb⟩
                              have HI9 := hide (HI8.out.step hb)
                              have HTk9 := hide (HTk.out _ _ (HE.out.below HI9.out.below) (HG8.out.below hb) hown.enAt)
                              clear hown hb HI8 HG8 HTk HPt HLen
                              go_wp2_with fail
                              refine HTk9.out.mono ?_
                              rintro e w10 (⟨hn, _⟩ | ⟨_, rfl, hg, v10, hF10⟩)
                              · exact absurd rfl hn
                              · have HI10 := hide (HI9.out.turn hqw2 hpq hg hF10)
                                clear hg hF10 HI9 HTk9
                                first | (have hck : ¬ cap = k := (by assumption)) | (have hck : cap = k := (by assumption); subst hck)
                                go_wp2
                                go_roundg (sn - (i + 1))
                                case measure => omega
                                case rel => exact ⟨m, i + 1, by omega, by omega, by go_num, rfl, hmn, HI10⟩
                          · exact absurd HCm.out hn8
                  · have hk0z : (0 : Int) ≤ (k : Int) := by omega
                    have hknz : (k : Int) ≤ (n : Int) := by omega
                    have hltz : ¬ (i : Int) < (sn : Int) := by omega
                    have hll : l.length ≤ 61 := by rw [HLn.out]; exact hl61
                    have hln : List.drop k (List.take n l) = List.drop k l := by rw [List.take_of_length_le (by rw [HLn.out]; exact Nat.le_refl _)]
                    have HPt := hide (EnAt.cut (HV.out.below HI.out.below) k n hkn (by rw [HLn.out]; exact Nat.le_refl _) hcap)
                    rw [hln] at HPt
                    have HLen : Hid ((l.drop k).length ≤ 1000000) := by show _ ≤ _; rw [List.length_drop]; omega
                    obtain ⟨vg, x2, tm, hG8, htm⟩ := HI.out.g
                    have HG8 := hide hG8
                    have HTr := HTl.out k (by rw [HLn.out]; exact hkn) x2 tm htm
                    have HTk := hide (fun v9 w9 hE hF hv => foTake_any a q vg ⟨key, l.take k, x2, tm⟩ tx v9 (l.drop k) w9 hE hF hv (fun e he => HSm.out e (List.mem_of_mem_take he)) (fun e he => HSm.out e (List.mem_of_mem_drop he)) (by dsimp only; rw [List.length_drop, List.length_take]; omega))
                    rw [HTr.1, HTr.2] at HTk
                    have hqq : (tx.toList == tx.toList) = true := by simp
                    clear hG8 htm HTr hln
                    go_wp2_with fail
                    all_goals
                      refine (ownEntries_any _ (l.drop k) wr (by first | exact HPt.out.1 (by assumption) | exact HPt.out.2 (by assumption)) HLen.out).mono ?_
                      rintro e w9 ⟨v9, rfl, hown, hb⟩
                      have HI9 := hide (HI.out.step hb)
                      have HTk9 := hide (HTk.out _ _ (HE.out.below HI9.out.below) (HG8.out.below hb) hown.enAt)
                      clear hown hb HI HG8 HTk HPt HLen
                      go_wp2_with fail
                      refine HTk9.out.mono ?_
                      rintro e w10 (⟨hn, _⟩ | ⟨_, rfl, hg, v10, hF10⟩)
                      · exact absurd rfl hn
                      · obtain ⟨vf, hP9⟩ := HI9.out.f
                        obtain ⟨_, _, _, hQ9, _⟩ := HI9.out.g
                        have HP := hide (hP9.grown hQ9.row hpq hg)
                        have HQ := hide hF10
                        have HB10 : Hid (Below w.heap.size w w10) := HI9.out.below.grown hg HI9.out.below.size (fun j hj => by cases hj; exact hqw2)
                        have HSmL := hide (fun v1 v2 w h1 h2 => sameEntries_eq v1 v2 l w h1 h2 (by omega))
                        have HSf := hide (fun v1 v2 w h1 h2 => sameFloors_eq v1 v2 (floorsR l) w h1 h2 (by have := (floors_right l).2; omega))
                        have HEn := hide (fun p v w h => foEntries_any w p v ⟨key, l, tx, time⟩ h (by show l.length ≤ _; omega))
                        have HFl := hide (fun p v w hE h => foFloors_any a w p v ⟨key, l, tx, time⟩ hE h HSm.out (by show l.length ≤ _; omega))
                        clear hg hF10 HI9 HTk9 hP9 hQ9
                        go_wp2_with fail
                        refine (foSeq_any w10 p vf _ HP.out).mono ?_
                        rintro e w11 ⟨rfl, hw⟩
                        subst hw
                        go_wp2_with fail
                        refine (foSeq_any _ q v10 _ HQ.out).mono ?_
                        rintro e w11 ⟨rfl, hw⟩
                        subst hw
                        go_wp2_with fail
                        refine (foTime_any _ p vf _ HP.out).mono ?_
                        rintro e w11 ⟨rfl, hw⟩
                        subst hw
                        go_wp2_with fail
                        refine (foTime_any _ q v10 _ HQ.out).mono ?_
                        rintro e w11 ⟨rfl, hw⟩
                        subst hw
                        go_wp2_with fail
                        refine (foHead_any _ p vf _ HP.out).mono ?_
                        rintro e w11 ⟨rfl, hw⟩
                        subst hw
                        go_wp2_with fail
                        refine (foHead_any _ q v10 _ HQ.out).mono ?_
                        rintro e w11 ⟨rfl, hw⟩
                        subst hw
                        go_wp2_with fail
                        refine (HEn.out _ _ _ HP.out).mono ?_
                        rintro e w12 ⟨v12, rfl, hown, hb⟩
                        have HB12 : Hid (Below w.heap.size w w12) := HB10.out.trans (hb.mono HB10.out.size)
                        have HP12 := hide (HP.out.below hb)
                        have HQ12 := hide (HQ.out.below hb)
                        have HE12 := hide hown.enAt
                        clear hb hown HP HQ HB10
                        go_wp2_with fail
                        refine (HEn.out _ _ _ HQ12.out).mono ?_
                        rintro e w13 ⟨v13, rfl, hown, hb⟩
                        have HB13 : Hid (Below w.heap.size w w13) := HB12.out.trans (hb.mono HB12.out.size)
                        have HP13 := hide (HP12.out.below hb)
                        have HQ13 := hide (HQ12.out.below hb)
                        have HE13 := hide (HE12.out.below hb)
                        have HD13 := hide hown.enAt
                        clear hb hown HP12 HQ12 HB12 HE12 HEn
                        go_wp2_with fail
                        refine (HSmL.out _ _ _ HE13.out HD13.out).mono ?_
                        rintro e w14 ⟨rfl, hb⟩
                        have HB14 : Hid (Below w.heap.size w w14) := HB13.out.trans (hb.mono HB13.out.size)
                        have HP14 := hide (HP13.out.below hb)
                        have HQ14 := hide (HQ13.out.below hb)
                        clear hb HP13 HQ13 HB13 HE13 HD13 HSmL
                        go_wp2_with fail
                        refine (HFl.out _ _ _ (HE.out.below HB14.out).f.errs HP14.out).mono ?_
                        rintro e w15 ⟨v15, rfl, hown, hb⟩
                        have HB15 : Hid (Below w.heap.size w w15) := HB14.out.trans (hb.mono HB14.out.size)
                        have HQ15 := hide (HQ14.out.below hb)
                        have HE15 := hide hown.flAt
                        clear hb hown HP14 HQ14 HB14
                        go_wp2_with fail
                        refine (HFl.out _ _ _ (HE.out.below HB15.out).f.errs HQ15.out).mono ?_
                        rintro e w16 ⟨v16, rfl, hown, hb⟩
                        have HB16 : Hid (Below w.heap.size w w16) := HB15.out.trans (hb.mono HB15.out.size)
                        have HE16 := hide (HE15.out.below hb)
                        have HD16 := hide hown.flAt
                        clear hb hown HQ15 HB15 HE15 HFl
                        go_wp2_with fail
                        refine (HSf.out _ _ _ HE16.out HD16.out).mono ?_
                        rintro e w17 ⟨rfl, hb⟩
                        have HB17 : Hid (Below w.heap.size w w17) := HB16.out.trans (hb.mono HB16.out.size)
                        clear hb HB16 HE16 HD16 HSf
                        go_wp2
                        go_ret
                        exact ⟨rfl, HB17.out⟩
            · clear hb HB5 HF5 HG5
              go_wp2
              go_ret
              exact ⟨rfl, HB6.out⟩
          · exact absurd HKey.out hkey
        · have HB4 : Hid (Below w.heap.size w w4) := HB3.out.trans (hb.mono HB3.out.size)
          have HNw := hide (foNew_any a key w4 (HE.out.below HB4.out))
          have HKey := hide hkey
          clear hb HB3 hkey
          go_wp2_with fail
          refine HNw.out.mono ?_
          clear HNw
          rintro e w5 ⟨hb, ⟨hkey, _⟩ | ⟨_, rfl⟩⟩
          · exact absurd hkey HKey.out
          · have HB5 : Hid (Below w.heap.size w w5) := HB4.out.trans (hb.mono HB4.out.size)
            clear hb HB4
            go_wp2
            go_ret
            exact ⟨rfl, HB5.out⟩
      · clear herr z0
        go_wp2
        go_ret
        exact ⟨rfl, HB3.out⟩
end Go.Proofs.YtgagekcjdapkfacGreatDoor

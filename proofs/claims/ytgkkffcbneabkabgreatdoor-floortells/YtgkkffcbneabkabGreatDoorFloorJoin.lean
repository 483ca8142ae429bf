/-
  What package floor's Join gives: of each the greater, in new memory, or an error; for any two lists. And floors of own memory.
-/
import Derived.Test.YtgkkffcbneabkabGreatDoorFloorLaw
namespace Go.Proofs.YtgkkffcbneabkabGreatDoor
open Go.RowKit Go.Extern.Stop Go.Stop Go.Extern Go.Proofs

def joinC (a b : List Fl) : Nat × Int := if (checkL a).1 = 0 then (if (checkL b).1 = 0 then checkL (joinL a b) else checkL b) else checkL a
def joinR (a b : List Fl) : List Fl := if (joinC a b).1 = 0 then joinL a b else []
theorem len_fold : ∀ (b a : List Fl), (b.foldl raisedL a).length ≤ a.length + b.length
  | [], a => by simp
  | f :: b, a => by
    have h1 := len_fold b (raisedL a f)
    have h2 := len_raised a f
    rw [List.foldl_cons, List.length_cons]
    omega
theorem small_fold : ∀ (b a : List Fl), (∀ g ∈ a, g.who.size ≤ maxLen) → (∀ g ∈ b, g.who.size ≤ maxLen) → ∀ g ∈ b.foldl raisedL a, g.who.size ≤ maxLen
  | [], _, h, _ => h
  | f :: b, a, h, hb => small_fold b (raisedL a f) (small_raised h (hb f (by simp))) (fun g hg => hb g (by simp [hg]))
theorem fold_snoc (b a : List Fl) (k : Nat) (hk : k < b.length) : (b.take (k + 1)).foldl raisedL a = raisedL ((b.take k).foldl raisedL a) b[k] := by
  rw [List.take_succ_eq_append_getElem hk, List.foldl_append]
  rfl

set_option maxRecDepth 100000 in
set_option maxHeartbeats 4000000 in
theorem join_any (a : Nat → Addr) (v1 v2 : Value) (l1 l2 : List Fl) (w : World) (h : EV flS a w) (hv1 : FlAt w v1 l1) (hv2 : FlAt w v2 l2) (hs1 : ∀ g ∈ l1, g.who.size ≤ maxLen) (hs2 : ∀ g ∈ l2, g.who.size ≤ maxLen) (hl1 : l1.length ≤ 400000) (hl2 : l2.length ≤ 400000) :
    Calls Tryz.prog 36 #[v1, v2] w fun e w' => ListPost a (joinC l1 l2) (joinR l1 l2) w.heap.size e w' ∧ Below w.heap.size w w' := by
  have HE := hide h
  have HV1 := hide hv1
  have HV2 := hide hv2
  have HC1 := hide (fun w h hv => check_any a v1 l1 w h hv hs1 (by omega))
  have HC2 := hide (fun w h hv => check_any a v2 l2 w h hv hs2 (by omega))
  have HCl := hide (fun w h => clone_any v1 l1 w h (by omega))
  have HCk := hide (fun v w h hv => checked_fl a v (joinL l1 l2) w h hv (small_fold l2 l1 hs1 hs2) (by have := len_fold l2 l1; unfold joinL; omega))
  have HR : Hid (joinC l1 l2 = if (checkL l1).1 = 0 then (if (checkL l2).1 = 0 then checkL (joinL l1 l2) else checkL l2) else checkL l1) := rfl
  have HRR : Hid (joinR l1 l2 = if (joinC l1 l2).1 = 0 then joinL l1 l2 else []) := rfl
  have HG1 : Hid ((checkL l1).1 = 0 → RightF l1) := fun h => (right_of_check h).1
  have HG2 : Hid ((checkL l2).1 = 0 → RightF l2) := fun h => (right_of_check h).1
  have HJ : Hid (joinL l1 l2 = l2.foldl raisedL l1) := rfl
  clear h hv1 hs1 hs2
  generalize joinR l1 l2 = rr at *
  generalize joinC l1 l2 = rc at *
  generalize joinL l1 l2 = rd at *
  generalize checkL rd = cr at *
  generalize checkL l1 = c1 at *
  generalize checkL l2 = c2 at *
  by_cases h1 : c1.1 = 0
  · rw [if_pos h1] at HR
    by_cases h2 : c2.1 = 0
    · rw [if_pos h2] at HR
      have hg1 := hide (HG1.out h1)
      have hg2 := hide (HG2.out h2)
      obtain ⟨ad, cap, rfl, hcap⟩ := hv2.form
      generalize hn : l2.length = n at *
      have HN := hide hn
      clear hv2 hn HG1 HG2
      go_enter Tryz.func36, Tryz.ntmps36
      go_wp2_with fail
      refine (HC1.out _ HE.out HV1.out).mono ?_
      rintro e w1 ⟨ev, rfl, he, hb⟩
      obtain rfl := he.none h1
      have HB1 := hide hb
      clear he hb
      go_wp2_with fail
      refine (HC2.out _ (HE.out.below HB1.out) (HV2.out.below HB1.out)).mono ?_
      rintro e w2 ⟨ev, rfl, he, hb⟩
      obtain rfl := he.none h2
      have HB2 : Hid (Below w.heap.size w w2) := HB1.out.trans (hb.mono HB1.out.size)
      clear he hb
      go_wp2_with fail
      refine (HCl.out _ (HV1.out.below HB2.out)).mono ?_
      rintro e w3 ⟨v3, rfl, hown, hb⟩
      have HB3 : Hid (Below w.heap.size w w3) := HB2.out.trans (hb.mono HB2.out.size)
      have HO3 : Hid (OwnF w3 w.heap.size v3 l1) := OwnF.less hown HB2.out.size
      clear hown hb HB1 HB2 h1 h2 HC1 HC2 HCl
      go_wp2
      go_loopg [8, 10, 25] n (fun gg s8 _ s25 wr => ∃ k : Nat, k ≤ n ∧ n - k ≤ gg ∧ s25 = .int .i64 k ∧ Hid (Below w.heap.size w wr) ∧ Hid (OwnF wr w.heap.size s8 ((l2.take k).foldl raisedL l1)))
      case atStart => exact ⟨0, Nat.zero_le _, by omega, rfl, HB3.out, (by show OwnF _ _ _ _; simpa using HO3.out)⟩
      case round =>
        clear HB3 HO3
        obtain ⟨k, hk, hgg, rfl, HB, HO⟩ := hrel
        by_cases hlt : k < n
        · have hltz : (k : Int) < (n : Int) := by omega
          have hkl : k < l2.length := by rw [HN.out]; exact hlt
          have hvr := HV2.out.below HB.out
          rw [← HN.out] at hvr
          obtain ⟨b, off, cap', e, hc', hb, hcell⟩ := hvr.at (by omega)
          injection e with e1 e2 e3
          subst e1; subst e3
          obtain ⟨c0, c1⟩ := hcell k hkl
          have hri : RisingF ((l2.take k).foldl raisedL l1) := (right_fold (l2.take k) hg1.out (fun f hf => hg2.out.one f (List.mem_of_mem_take hf))).rising
          have hll : ((l2.take k).foldl raisedL l1).length ≤ 900000 := by have := len_fold (l2.take k) l1; rw [List.length_take] at this; omega
          have HRa := hide (raised_any w.heap.size l2[k] u8 ((l2.take k).foldl raisedL l1) (wr.alloc (.cells #[.string l2[k].who, .int .i64 l2[k].ep] 51)) (HO.out.alloc _) hri (by have := HB.out.size; simp; omega) hll)
          rw [← fold_snoc l2 l1 k hkl] at HRa
          unfold Fl.val at HRa
          have HBa : Hid (Below w.heap.size w (wr.alloc (.cells #[.string l2[k].who, .int .i64 l2[k].ep] 51))) := HB.out.alloc HB.out.size _
          clear hcell hvr hri hll
          generalize l2[k].who = who at *
          generalize l2[k].ep = ep at *
          go_wp2_with fail
          refine HRa.out.mono ?_
          rintro e w4 ⟨v4, rfl, hown, hb4⟩
          have HO4 := hide hown
          have HB4 : Hid (Below w.heap.size w w4) := HBa.out.trans hb4
          clear hown hb4
          go_wp2
          go_roundg (n - (k + 1))
          case measure => omega
          case rel => exact ⟨k + 1, by omega, by omega, by go_num, HB4, HO4⟩
        · obtain rfl : k = n := by omega
          have hltz : ¬ (k : Int) < (k : Int) := by omega
          have HOe : Hid (OwnF wr w.heap.size u8 rd) := by
            have := HO.out
            rw [List.take_of_length_le (Nat.le_of_eq HN.out), ← HJ.out] at this
            exact this
          by_cases h3 : cr.1 = 0
          · have HH3 := hide h3
            clear h3
            go_wp2_with fail
            refine (HCk.out _ _ (HE.out.below HB.out) HOe.out.flAt).mono ?_
            rintro e w5 ⟨hcp, hb5⟩
            obtain rfl := hcp.yes HH3.out
            have HB5 : Hid (Below w.heap.size w w5) := HB.out.trans (hb5.mono HB.out.size)
            have HO5 := hide (HOe.out.below hb5)
            clear hcp hb5
            go_wp2
            go_ret2
            have hrc : rc.1 = 0 := by rw [HR.out]; exact HH3.out
            exact ⟨⟨_, _, rfl, by rw [HRR.out, if_pos hrc]; exact HO5.out, Or.inl ⟨hrc, rfl⟩, fun h => absurd hrc h⟩, HB5.out⟩
          · have HH3 := hide h3
            clear h3
            go_wp2_with fail
            refine (HCk.out _ _ (HE.out.below HB.out) HOe.out.flAt).mono ?_
            rintro e w5 ⟨hcp, hb5⟩
            obtain ⟨tt, pp, rfl, herr⟩ := hcp.no HH3.out
            have HEr := hide herr
            have HB5 : Hid (Below w.heap.size w w5) := HB.out.trans (hb5.mono HB.out.size)
            clear hcp hb5 herr
            go_wp2
            go_ret2
            have hrc : ¬ rc.1 = 0 := by rw [HR.out]; exact HH3.out
            exact ⟨⟨_, _, rfl, by rw [HRR.out, if_neg hrc]; exact OwnF.nil _ _, by rw [HR.out]; exact HEr.out, fun _ => rfl⟩, HB5.out⟩
    · rw [if_neg h2] at HR
      have HH2 := hide h2
      clear h2 HG1 HG2 hv2
      go_enter Tryz.func36, Tryz.ntmps36
      go_wp2_with fail
      refine (HC1.out _ HE.out HV1.out).mono ?_
      rintro e w1 ⟨ev, rfl, he, hb⟩
      obtain rfl := he.none h1
      have HB1 := hide hb
      clear he hb
      go_wp2_with fail
      refine (HC2.out _ (HE.out.below HB1.out) (HV2.out.below HB1.out)).mono ?_
      rintro e w2 ⟨ev, rfl, he, hb⟩
      have HEr := hide he
      have HB2 : Hid (Below w.heap.size w w2) := HB1.out.trans (hb.mono HB1.out.size)
      rcases he.cases with ⟨e0, _⟩ | ⟨_, tt, pp, rfl⟩
      · exact absurd e0 HH2.out
      · clear he hb
        go_wp2
        go_ret2
        have hrc : ¬ rc.1 = 0 := by rw [HR.out]; exact HH2.out
        exact ⟨⟨_, _, rfl, by rw [HRR.out, if_neg hrc]; exact OwnF.nil _ _, by rw [HR.out]; exact HEr.out, fun _ => rfl⟩, HB2.out⟩
  · rw [if_neg h1] at HR
    have HH1 := hide h1
    clear h1 HG1 HG2 hv2
    go_enter Tryz.func36, Tryz.ntmps36
    go_wp2_with fail
    refine (HC1.out _ HE.out HV1.out).mono ?_
    rintro e w1 ⟨ev, rfl, he, hb⟩
    have HEr := hide he
    have HB1 := hide hb
    rcases he.cases with ⟨e0, _⟩ | ⟨_, tt, pp, rfl⟩
    · exact absurd e0 HH1.out
    · clear he hb
      go_wp2
      go_ret2
      have hrc : ¬ rc.1 = 0 := by rw [HR.out]; exact HH1.out
      exact ⟨⟨_, _, rfl, by rw [HRR.out, if_neg hrc]; exact OwnF.nil _ _, by rw [HR.out]; exact HEr.out, fun _ => rfl⟩, HB1.out⟩

set_option maxRecDepth 100000 in
set_option maxHeartbeats 1000000 in
theorem ownFloors_any (v : Value) (l : List Fl) (w : World) (hv : FlAt w v l) (hl : l.length ≤ 1000000) :
    Calls Tryz.prog 24 #[v] w fun e w' => ∃ v', e = .returned v' ∧ OwnF w' w.heap.size v' l ∧ Below w.heap.size w w' := by
  obtain ⟨i0, hi, hz0, hz1, hz2⟩ := info_parts Tryz.infoFloor
  have HEnd : Hid (∀ v' w1, w1.ownsRow w.heap.size 51 2 v' (0 + l.length) ([] ++ cellsF l) → w.grownBy w1 (Value.slice none 0 0).ownBlock → OwnF w1 w.heap.size v' l ∧ Below w.heap.size w w1) := fun v' w1 h1 h2 =>
    ⟨by simpa using h1, (Below.refl _ w).grown h2 (Nat.le_refl _) (fun k hk => by cases hk)⟩
  rcases hv with ⟨ad, cap, rfl, rfl⟩ | ⟨b, off, cap, rfl, hc, hcell⟩
  · cases ad with
    | none =>
      have hno : ∀ ty c, (Builtin.append_ #[49, 49] ty #[.slice none 0 0, .slice none 0 c]).run Tryz.prog w = .ok (.slice none 0 0) w := fun ty c => by kernel_rfl
      go_enter Tryz.func24, Tryz.ntmps24
      go_wp2_with (at_builtin; refine Lib.wpList_append_run _ rfl _ _ _ _ rfl _ _ rfl rfl _ _ (hno _ _) ?_)
      go_ret
      exact ⟨_, rfl, OwnF.nil _ _, Below.refl _ _⟩
    | some ad =>
      go_enter Tryz.func24, Tryz.ntmps24
      go_wp2_with (at_builtin; refine wpList_append_own _ rfl _ _ 49 rfl w.heap.size 51 i0 _ 2 24 Tryz.underlying49 hi hz0 hz1 hz2 rfl (by decide) _ _ _ rfl (World.ownsRow_nil _ _ _ _) ad 0 cap [] rfl rfl (fun j u hj => by simp at hj) (by simp) (by unfold maxLen; omega) (by omega) (Nat.le_refl _) ?_; intro v' w1 hown hgrow hnil)
      go_wp2
      go_ret
      exact ⟨v', rfl, HEnd.out v' w1 hown hgrow⟩
  · have HS : Hid (∀ j u, (cellsF l)[j]? = some u → w.cell? ((⟨b, off, none⟩ : Addr).add j) = some u) := fun j u hu => by rw [Addr.add_lit]; exact hcell j u hu
    have HLn := hide (cellsF_len l)
    have HOne := hide (cellsF_one l)
    clear hcell
    generalize cellsF l = cs at *
    generalize hn : l.length = n at *
    go_enter Tryz.func24, Tryz.ntmps24
    go_wp2_with (at_builtin; refine wpList_append_own _ rfl _ _ 49 rfl w.heap.size 51 i0 _ 2 24 Tryz.underlying49 hi hz0 hz1 hz2 rfl (by decide) _ _ _ rfl (World.ownsRow_nil _ _ _ _) ⟨b, off, none⟩ n cap cs rfl HLn.out HS.out HOne.out (by unfold maxLen; omega) (by omega) (Nat.le_refl _) ?_; intro v' w1 hown hgrow hnil)
    go_wp2
    go_ret
    exact ⟨v', rfl, HEnd.out v' w1 hown hgrow⟩
end Go.Proofs.YtgkkffcbneabkabGreatDoor

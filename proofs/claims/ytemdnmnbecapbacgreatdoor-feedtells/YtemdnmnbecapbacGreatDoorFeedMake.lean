/-
  What package feed's Make gives: a head's text, sealed, or an error; for every key, list and time.
-/
import Derived.Test.YtemdnmnbecapbacGreatDoorFeedPackA
import Derived.Test.YtemdnmnbecapbacGreatDoorFeedHead
import Derived.Test.YtemdnmnbecapbacGreatDoorFloorSum
namespace Go.Proofs.YtemdnmnbecapbacGreatDoor
open Go.RowKit Go.Extern.Stop Go.Stop Go.Extern Go.Proofs

/-- The number of Make's error, and its place; the text. -/
def headC (key : Int) (l : List En) (time : Int) : Nat × Int :=
  if 1 ≤ key ∧ key ≤ 1000000006 then (if (floorsC l).1 = 0 then (if (0 ≤ time ∧ time ≤ 1000000) ∧ newL l ≤ time then (0, -1) else (2, -1)) else floorsC l) else (10, -1)
def headT (key : Int) (l : List En) (time : Int) : List UInt8 := Sl.sealL key (headW (l.length : Int) time (sumL (floorsR l)))
theorem sum_bd (l : List Fl) : 0 ≤ sumL l ∧ sumL l ≤ 1000000006 := by
  unfold sumL
  split
  · unfold moreN
    split
    · have := Mk.mk_bd 1 1 (by omega) (textL l)
      omega
    · omega
  · omega
theorem headC_zero {key : Int} {l : List En} {time : Int} (h : (headC key l time).1 = 0) : (1 ≤ key ∧ key ≤ 1000000006) ∧ (floorsC l).1 = 0 ∧ (0 ≤ time ∧ time ≤ 1000000) ∧ newL l ≤ time := by
  unfold headC at h
  split at h
  · rename_i h1
    split at h
    · rename_i h2
      split at h
      · rename_i h3
        exact ⟨h1, h2, h3⟩
      · cases h
    · rename_i h2; exact absurd h h2
  · cases h
theorem headC_le (key : Int) (l : List En) (time : Int) : (headC key l time).1 ≤ 16 := by
  unfold headC
  have := floors_le l
  repeat' split
  all_goals first | assumption | decide
/-- A head tells what it was made of. -/
theorem head_open {key : Int} {l : List En} {time : Int} (h : (headC key l time).1 = 0) : openHC key (headT key l time) = 0 ∧ openHR key (headT key l time) = ⟨l.length, time, sumL (floorsR l)⟩ := by
  obtain ⟨hk, h2, ht, _⟩ := headC_zero h
  have h60 := (feed_zero (floors_zero h2).1).1
  exact open_made key hk _ _ _ ⟨by omega, by omega⟩ ht (sum_bd _)

set_option maxRecDepth 100000 in
set_option maxHeartbeats 8000000 in
theorem fdMake_any (a : Nat → Addr) (key : Int) (v : Value) (l : List En) (time : Int) (w : World) (h : EnvF a w) (hv : EnAt w v l) (hs : ∀ e ∈ l, e.fl.who.size ≤ maxLen) (hl : l.length ≤ 100000) :
    Calls Tryz.prog 9 #[.int .i64 key, v, .int .i64 time] w fun e w' => TextPost a (headC key l time) (headT key l time) e w' ∧ Below w.heap.size w w' := by
  have HOf := hide (of_ev slS rfl rfl a key ⟨#[]⟩ w h.errs.sl (by decide))
  rw [key_more] at HOf
  have HE := hide h
  have HV := hide hv
  have HFl := hide (fun w h hv => floors_any a v l w h hv hs (by omega))
  have HTm := hide (fun w => fdTime_any time w)
  have HNw := hide (fun w h => newest_any v l w h (by omega))
  by_cases hk : 1 ≤ key ∧ key ≤ 1000000006
  · rw [if_pos hk, errV_zero] at HOf
    generalize moreN key key _ = m0 at *
    have hC : headC key l time = (if (floorsC l).1 = 0 then (if (0 ≤ time ∧ time ≤ 1000000) ∧ newL l ≤ time then (0, -1) else (2, -1)) else floorsC l) := if_pos hk
    by_cases h1 : (floorsC l).1 = 0
    · rw [if_pos h1] at hC
      have h60 := (feed_zero (floors_zero h1).1).1
      by_cases h2 : 0 ≤ time ∧ time ≤ 1000000
      · rw [decide_eq_true h2] at HTm
        by_cases h3 : newL l ≤ time
        · rw [if_pos ⟨h2, h3⟩] at hC
          have HSm := hide (fun v w h ht hv => sum_ev fdS (by decide) rfl a v (floorsR l) w h ht hv (small_floors hs) (by have := (floors_right l).2; omega))
          obtain ⟨hs0, hs1⟩ := sum_bd (floorsR l)
          have HW := hide (fun w h => fdWords_any (l.length : Int) time (sumL (floorsR l)) w h ⟨by omega, by omega⟩ ⟨by omega, by omega⟩ ⟨by omega, by omega⟩)
          have hmm : ((headW (l.length : Int) time (sumL (floorsR l))).map Sl.ofL).map (·.data.toList) = headW (l.length : Int) time (sumL (floorsR l)) := rfl
          have HMk := hide (fun b w h hx => make_ok_ev a key b 0 4 4 ((headW (l.length : Int) time (sumL (floorsR l))).map Sl.ofL) w h hk (Nat.le_refl _) hx rfl (by rw [hmm]; exact headW_ok _ _ _ (by omega) (by omega) (by omega)))
          rw [hmm] at HMk
          have hT : Sl.sealL key (headW (l.length : Int) time (sumL (floorsR l))) = headT key l time := rfl
          rw [hT] at HMk
          rw [hC]
          have h3z : ¬ time < newL l := by omega
          obtain ⟨ad, cap, rfl, hcap⟩ := hv.form
          clear hC hT hmm h hv hs hk
          generalize headW (l.length : Int) time (sumL (floorsR l)) = ws at *
          generalize headT key l time = ht at *
          generalize floorsC l = fc at *
          generalize floorsR l = fr at *
          generalize sumL fr = sm at *
          generalize newL l = nw at *
          generalize hn : l.length = n at *
          clear hn
          go_enter Tryz.func9, Tryz.ntmps9
          go_wp2_with fail
          refine HOf.out.mono ?_
          rintro e w1 ⟨rfl, hb⟩
          have HB1 := hide hb
          clear hb HOf
          go_wp2_with fail
          refine (HFl.out _ (HE.out.below HB1.out).errs (HV.out.below HB1.out)).mono ?_
          rintro e w2 ⟨⟨v2, ev2, rfl, hown, herr, _⟩, hb⟩
          obtain rfl := herr.none h1
          have HB2 : Hid (Below w.heap.size w w2) := HB1.out.trans (hb.mono HB1.out.size)
          have HF2 := hide hown.flAt
          clear herr hown hb HFl HB1 h1
          go_wp2_with fail
          refine (HTm.out _).mono ?_
          rintro e w3 ⟨rfl, rfl⟩
          go_wp2_with fail
          refine (HNw.out _ (HV.out.below HB2.out)).mono ?_
          rintro e w4 ⟨rfl, rfl⟩
          go_wp2_with fail
          refine (HSm.out _ _ (HE.out.below HB2.out).errs (HE.out.below HB2.out).tab HF2.out).mono ?_
          rintro e w5 ⟨rfl, hb⟩
          have HB5 : Hid (Below w.heap.size w w5) := HB2.out.trans (hb.mono HB2.out.size)
          clear hb HSm HF2 HB2
          go_wp2_with fail
          refine (HW.out _ (HE.out.below HB5.out).tab).mono ?_
          rintro e w6 ⟨b6, hx, rfl, hb⟩
          have HB6 : Hid (Below w.heap.size w w6) := HB5.out.trans (hb.mono HB5.out.size)
          have HX6 := hide hx
          clear hb hx HW HB5
          go_wp2_with fail
          refine (HMk.out _ _ (HE.out.below HB6.out).e HX6.out).mono ?_
          rintro e w7 ⟨rfl, hb⟩
          have HB7 : Hid (Below w.heap.size w w7) := HB6.out.trans (hb.mono HB6.out.size)
          clear hb HMk HX6 HB6
          go_wp2
          go_ret2
          exact ⟨Or.inl ⟨rfl, rfl⟩, HB7.out⟩
        · rw [if_neg (fun h => h3 h.2)] at hC
          rw [hC]
          have h3z : time < newL l := by omega
          generalize headT key l time = ht at *
          clear hC h hv hs hk
          generalize floorsC l = fc at *
          generalize floorsR l = fr at *
          generalize newL l = nw at *
          go_enter Tryz.func9, Tryz.ntmps9
          go_wp2_with fail
          refine HOf.out.mono ?_
          rintro e w1 ⟨rfl, hb⟩
          have HB1 := hide hb
          clear hb HOf
          go_wp2_with fail
          refine (HFl.out _ (HE.out.below HB1.out).errs (HV.out.below HB1.out)).mono ?_
          rintro e w2 ⟨⟨v2, ev2, rfl, hown, herr, _⟩, hb⟩
          obtain rfl := herr.none h1
          have HB2 : Hid (Below w.heap.size w w2) := HB1.out.trans (hb.mono HB1.out.size)
          have hvv : w2.cell? ⟨1, 0, none⟩ = some (eV (a 1)) := (HE.out.below HB2.out).errs.var 1 (by decide) rfl
          clear herr hown hb HFl HB1 h1
          go_wp2_with fail
          refine (HTm.out _).mono ?_
          rintro e w3 ⟨rfl, rfl⟩
          go_wp2_with fail
          refine (HNw.out _ (HV.out.below HB2.out)).mono ?_
          rintro e w4 ⟨rfl, rfl⟩
          go_wp2
          go_quiet (fail)
          go_wp2
          go_ret2
          exact ⟨Or.inr ⟨by decide, _, _, rfl, Or.inr (Or.inl ⟨by decide, rfl, rfl⟩)⟩, below_drewN HB2.out _⟩
      · rw [if_neg (fun h => h2 h.1)] at hC
        rw [hC]
        rw [decide_eq_false h2] at HTm
        generalize headT key l time = ht at *
        clear hC h hv hs hk h2 HNw
        generalize floorsC l = fc at *
        generalize floorsR l = fr at *
        go_enter Tryz.func9, Tryz.ntmps9
        go_wp2_with fail
        refine HOf.out.mono ?_
        rintro e w1 ⟨rfl, hb⟩
        have HB1 := hide hb
        clear hb HOf
        go_wp2_with fail
        refine (HFl.out _ (HE.out.below HB1.out).errs (HV.out.below HB1.out)).mono ?_
        rintro e w2 ⟨⟨v2, ev2, rfl, hown, herr, _⟩, hb⟩
        obtain rfl := herr.none h1
        have HB2 : Hid (Below w.heap.size w w2) := HB1.out.trans (hb.mono HB1.out.size)
        have hvv : w2.cell? ⟨1, 0, none⟩ = some (eV (a 1)) := (HE.out.below HB2.out).errs.var 1 (by decide) rfl
        clear herr hown hb HFl HB1 h1
        go_wp2_with fail
        refine (HTm.out _).mono ?_
        rintro e w3 ⟨rfl, rfl⟩
        go_wp2
        go_quiet (fail)
        go_wp2
        go_ret2
        exact ⟨Or.inr ⟨by decide, _, _, rfl, Or.inr (Or.inl ⟨by decide, rfl, rfl⟩)⟩, below_drewN HB2.out _⟩
    · rw [if_neg h1] at hC
      rw [hC]
      generalize headT key l time = ht at *
      clear hC h hv hs hk HNw HTm
      generalize floorsC l = fc at *
      generalize floorsR l = fr at *
      have HH := hide h1
      go_enter Tryz.func9, Tryz.ntmps9
      go_wp2_with fail
      refine HOf.out.mono ?_
      rintro e w1 ⟨rfl, hb⟩
      have HB1 := hide hb
      clear hb HOf
      go_wp2_with fail
      refine (HFl.out _ (HE.out.below HB1.out).errs (HV.out.below HB1.out)).mono ?_
      rintro e w2 ⟨⟨v2, ev2, rfl, hown, herr, hnil⟩, hb⟩
      have HEr := hide herr
      have HB2 : Hid (Below w.heap.size w w2) := HB1.out.trans (hb.mono HB1.out.size)
      rcases herr.cases with ⟨e0, _⟩ | ⟨_, tt, pp, rfl⟩
      · exact absurd e0 HH.out
      · clear herr hown hb hnil h1 HFl HB1
        go_wp2
        go_ret2
        exact ⟨Or.inr ⟨HH.out, _, _, rfl, HEr.out⟩, HB2.out⟩
  · have hC : headC key l time = (10, -1) := if_neg hk
    rw [if_neg hk, show errV a 10 = eV (a 9) from rfl] at HOf
    rw [hC]
    generalize moreN key key _ = m0 at *
    generalize headT key l time = ht at *
    clear hC h hv hs hk HNw HTm HFl
    go_enter Tryz.func9, Tryz.ntmps9
    go_wp2_with fail
    refine HOf.out.mono ?_
    rintro e w1 ⟨rfl, hb⟩
    have HB1 := hide hb
    clear hb HOf
    go_wp2
    go_ret2
    exact ⟨Or.inr ⟨by decide, _, _, rfl, Or.inr (Or.inl ⟨by decide, rfl, rfl⟩)⟩, HB1.out⟩
end Go.Proofs.YtemdnmnbecapbacGreatDoor

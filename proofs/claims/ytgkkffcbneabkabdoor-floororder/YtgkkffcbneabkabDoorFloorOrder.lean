/-
  FloorOrder's law: in whatever order two floors are raised, it is the same in the end; for every list and any two floors.
-/
import Derived.Test.YtgkkffcbneabkabDoorFloorLaw
namespace Go.Proofs.YtgkkffcbneabkabDoor
open Go.RowKit Go.Extern.Stop Go.Stop Go.Extern Go.Proofs

/-- Whoever can raise f, then g, can raise g, then f, and has the same; and f again changes nothing. -/
theorem order_plain {l : List Fl} {f g : Fl} (h1 : (raiseC l f).1 = 0) (h2 : (raiseC l g).1 = 0) : raiseC (raiseR l f) g = raiseC (raiseR l g) f ∧ raiseR (raiseR l f) g = raiseR (raiseR l g) f ∧ ((raiseC (raiseR l f) g).1 = 0 → (raiseC (raiseR (raiseR l f) g) f).1 = 0 ∧ raiseR (raiseR (raiseR l f) g) f = raiseR (raiseR l f) g) := by
  obtain ⟨r1, o1, r2, n1, n2, e1⟩ := raiseC_zero h1
  obtain ⟨_, o2, r3, _, n3, e2⟩ := raiseC_zero h2
  have hc : raiseC (raiseR l f) g = raiseC (raiseR l g) f := by
    rw [e1, e2, raiseC_right r2 n2 o2, raiseC_right r3 n3 o1, raised_comm r1 o1 o2]
  have hr : raiseR (raiseR l f) g = raiseR (raiseR l g) f := by
    unfold raiseR
    rw [← show raiseR l f = if (raiseC l f).1 = 0 then raisedL l f else [] from rfl, ← show raiseR l g = if (raiseC l g).1 = 0 then raisedL l g else [] from rfl, hc, e1, e2, raised_comm r1 o1 o2]
  refine ⟨hc, hr, fun h3 => ?_⟩
  obtain ⟨r4, _, r5, n4, n5, e3⟩ := raiseC_zero h3
  have ha : raisedL (raiseR (raiseR l f) g) f = raiseR (raiseR l f) g := by rw [e3, e1]; exact raised_again r1 o1 o2
  have hz : (raiseC (raiseR (raiseR l f) g) f).1 = 0 := by
    rw [raiseC_right (by rw [e3]; exact r5) (by rw [e3]; exact n5) o1, ha, e3, if_neg (by omega)]
  exact ⟨hz, by rw [(raiseC_zero hz).2.2.2.2.2, ha]⟩
theorem small_raiseR {l : List Fl} {f : Fl} (h : ∀ g ∈ l, g.who.size ≤ maxLen) (hf : f.who.size ≤ maxLen) : ∀ g ∈ raiseR l f, g.who.size ≤ maxLen := by
  intro g hg
  unfold raiseR at hg
  split at hg
  · exact small_raised h hf g hg
  · cases hg
theorem len_raiseR (l : List Fl) (f : Fl) : (raiseR l f).length ≤ l.length + 1 := by
  unfold raiseR
  split
  · exact len_raised l f
  · simp

set_option maxRecDepth 100000 in
set_option maxHeartbeats 8000000 in
theorem floorOrder_law (a : Nat → Addr) (v : Value) (l : List Fl) (f g : Fl) (w : World) (h : EV flS a w) (hv : FlAt w v l) (hfm : f.who.size ≤ maxLen) (hgm : g.who.size ≤ maxLen) :
    Calls Tryd.prog 5 #[v, f.val, g.val] w fun e w' => e = .returned (.bool true) ∧ Below w.heap.size w w' := by
  have HBa : Hid (Below w.heap.size w ((w.alloc (.cells #[.string f.who, .int .i64 f.ep] 56)).alloc (.cells #[.string g.who, .int .i64 g.ep] 56))) := ((Below.refl _ _).alloc (Nat.le_refl _) _).alloc (by simp) _
  have HF0 : Hid (((w.alloc (.cells #[.string f.who, .int .i64 f.ep] 56)).alloc (.cells #[.string g.who, .int .i64 g.ep] 56)).heap[w.heap.size]? = some (.cells #[.string f.who, .int .i64 f.ep] 56 (0, 0))) := by
    show _ = _
    rw [Below.heap_alloc _ _ _ (by simp)]
    exact heap_alloc_new _ _
  have HG0 : Hid (((w.alloc (.cells #[.string f.who, .int .i64 f.ep] 56)).alloc (.cells #[.string g.who, .int .i64 g.ep] 56)).heap[w.heap.size + 1]? = some (.cells #[.string g.who, .int .i64 g.ep] 56 (0, 0))) := by
    have := heap_alloc_new (w.alloc (.cells #[.string f.who, .int .i64 f.ep] 56)) (.cells #[.string g.who, .int .i64 g.ep] 56)
    rwa [World.size_alloc] at this
  have HE := hide h
  have HV := hide hv
  have HFl := hide (fun w h => floored_any a w h)
  have HLo := hide (fun w h => longFloors_any v l w h)
  have HOr : Hid ((raiseC l f).1 = 0 → (raiseC l g).1 = 0 → raiseC (raiseR l f) g = raiseC (raiseR l g) f ∧ raiseR (raiseR l f) g = raiseR (raiseR l g) f ∧ ((raiseC (raiseR l f) g).1 = 0 → (raiseC (raiseR (raiseR l f) g) f).1 = 0 ∧ raiseR (raiseR (raiseR l f) g) f = raiseR (raiseR l f) g)) := fun h1 h2 => order_plain h1 h2
  have HR := hide (fun (l : List Fl) (f : Fl) (v : Value) w h hv hs hfs hl => raise_any a v l f w h hv hs hfs hl)
  show Calls Tryd.prog 5 #[v, .agg #[.string f.who, .int .i64 f.ep], .agg #[.string g.who, .int .i64 g.ep]] w _
  clear h hv
  have hlong : (longF l = true) ∨ (longF l = false ∧ 20 < f.who.size) ∨ (longF l = false ∧ f.who.size ≤ 20 ∧ 20 < g.who.size) ∨ (longF l = false ∧ f.who.size ≤ 20 ∧ g.who.size ≤ 20) := by
    cases longF l
    · by_cases h1 : 20 < f.who.size
      · exact Or.inr (Or.inl ⟨rfl, h1⟩)
      · by_cases h2 : 20 < g.who.size
        · exact Or.inr (Or.inr (Or.inl ⟨rfl, by omega, h2⟩))
        · exact Or.inr (Or.inr (Or.inr ⟨rfl, by omega, by omega⟩))
    · exact Or.inl rfl
  rcases hlong with hlo | ⟨hlo, h1⟩ | ⟨hlo, h1, h2⟩ | ⟨hlo, h1, h2⟩
  · rw [if_pos hlo] at HLo
    clear hlo HR HOr
    generalize f.who = fw at *
    generalize f.ep = fe at *
    generalize g.who = gw at *
    generalize g.ep = ge at *
    go_enter Tryd.func5, Tryd.ntmps5
    go_wp2_with fail
    refine (HFl.out _ (HE.out.below HBa.out)).mono ?_
    rintro e w1 ⟨rfl, hb⟩
    have HB1 : Hid (Below w.heap.size w w1) := HBa.out.trans (hb.mono HBa.out.size)
    clear hb
    go_wp2_with fail
    refine (HLo.out _ (HV.out.below HB1.out)).mono ?_
    rintro e w2 ⟨rfl, rfl⟩
    go_wp2
    go_ret
    exact ⟨rfl, HB1.out⟩
  · rw [if_neg (by rw [hlo]; decide)] at HLo
    clear hlo HR HOr
    generalize f.who = fw at *
    generalize f.ep = fe at *
    generalize g.who = gw at *
    generalize g.ep = ge at *
    have h1z : (20 : Int) < (fw.size : Int) := by omega
    go_enter Tryd.func5, Tryd.ntmps5
    go_wp2_with fail
    refine (HFl.out _ (HE.out.below HBa.out)).mono ?_
    rintro e w1 ⟨rfl, hb⟩
    have HB1 : Hid (Below w.heap.size w w1) := HBa.out.trans (hb.mono HBa.out.size)
    have hrow : w1.heap[w.heap.size]? = some (.cells #[.string fw, .int .i64 fe] 56 (0, 0)) := by rw [hb.block _ (by simp; omega)]; exact HF0.out
    have hc0 : w1.cell? ⟨w.heap.size, 0, none⟩ = some (.string fw) := cell_of_row w1 _ 0 _ _ _ hrow
    clear hb hrow
    go_wp2_with fail
    refine (HLo.out _ (HV.out.below HB1.out)).mono ?_
    rintro e w2 ⟨rfl, rfl⟩
    go_wp2
    go_ret
    exact ⟨rfl, HB1.out⟩
  · rw [if_neg (by rw [hlo]; decide)] at HLo
    clear hlo HR HOr
    generalize f.who = fw at *
    generalize f.ep = fe at *
    generalize g.who = gw at *
    generalize g.ep = ge at *
    have h1z : ¬ (20 : Int) < (fw.size : Int) := by omega
    have h2z : (20 : Int) < (gw.size : Int) := by omega
    go_enter Tryd.func5, Tryd.ntmps5
    go_wp2_with fail
    refine (HFl.out _ (HE.out.below HBa.out)).mono ?_
    rintro e w1 ⟨rfl, hb⟩
    have HB1 : Hid (Below w.heap.size w w1) := HBa.out.trans (hb.mono HBa.out.size)
    have hrow : w1.heap[w.heap.size]? = some (.cells #[.string fw, .int .i64 fe] 56 (0, 0)) := by rw [hb.block _ (by simp; omega)]; exact HF0.out
    have hc0 : w1.cell? ⟨w.heap.size, 0, none⟩ = some (.string fw) := cell_of_row w1 _ 0 _ _ _ hrow
    have hrow2 : w1.heap[w.heap.size + 1]? = some (.cells #[.string gw, .int .i64 ge] 56 (0, 0)) := by rw [hb.block _ (by simp)]; exact HG0.out
    have hd0 : w1.cell? ⟨w.heap.size + 1, 0, none⟩ = some (.string gw) := cell_of_row w1 _ 0 _ _ _ hrow2
    clear hb hrow hrow2
    go_wp2_with fail
    refine (HLo.out _ (HV.out.below HB1.out)).mono ?_
    rintro e w2 ⟨rfl, rfl⟩
    go_wp2
    go_ret
    exact ⟨rfl, HB1.out⟩
  · rw [if_neg (by rw [hlo]; decide)] at HLo
    obtain ⟨hl25, hls⟩ := longF_no hlo
    have hs : ∀ q ∈ l, q.who.size ≤ maxLen := fun q hq => by have := hls q hq; unfold maxLen; omega
    -- the five raises
    have HR1 := hide (fun v w h hv => HR.out l f v w h hv hs hfm (by omega))
    have HR2 := hide (fun v w h hv => HR.out l g v w h hv hs hgm (by omega))
    have HR3 := hide (fun v w h hv => HR.out (raiseR l f) g v w h hv (small_raiseR hs hfm) hgm (by have := len_raiseR l f; omega))
    have HR4 := hide (fun v w h hv => HR.out (raiseR l g) f v w h hv (small_raiseR hs hgm) hfm (by have := len_raiseR l g; omega))
    have HR5 := hide (fun v w h hv => HR.out (raiseR (raiseR l f) g) f v w h hv (small_raiseR (small_raiseR hs hfm) hgm) hfm (by have := len_raiseR l f; have := len_raiseR (raiseR l f) g; omega))
    have HLn : Hid ((raiseR (raiseR l f) g).length ≤ 1000000) := by have := len_raiseR l f; have := len_raiseR (raiseR l f) g; show _ ≤ _; omega
    have HLx : Hid ((raiseC l f).1 ≠ 0 → raiseR l f = []) := raiseR_bad
    have HLy : Hid ((raiseC (raiseR l f) g).1 ≠ 0 → raiseR (raiseR l f) g = []) := raiseR_bad
    unfold Fl.val at HR1 HR2 HR3 HR4 HR5
    clear HR hlo hs hls
    generalize raiseR (raiseR (raiseR l f) g) f = l5 at *
    generalize raiseC (raiseR (raiseR l f) g) f = c5 at *
    generalize raiseR (raiseR l f) g = l3 at *
    generalize raiseC (raiseR l f) g = c3 at *
    generalize raiseR (raiseR l g) f = l4 at *
    generalize raiseC (raiseR l g) f = c4 at *
    generalize raiseR l f = l1 at *
    generalize raiseC l f = c1 at *
    generalize raiseR l g = l2 at *
    generalize raiseC l g = c2 at *
    generalize f.who = fw at *
    generalize f.ep = fe at *
    generalize g.who = gw at *
    generalize g.ep = ge at *
    have h1z : ¬ (20 : Int) < (fw.size : Int) := by omega
    have h2z : ¬ (20 : Int) < (gw.size : Int) := by omega
    go_enter Tryd.func5, Tryd.ntmps5
    go_wp2_with fail
    refine (HFl.out _ (HE.out.below HBa.out)).mono ?_
    rintro e w1 ⟨rfl, hb⟩
    have HB1 : Hid (Below w.heap.size w w1) := HBa.out.trans (hb.mono HBa.out.size)
    have HF1 : Hid (w1.heap[w.heap.size]? = some (.cells #[.string fw, .int .i64 fe] 56 (0, 0))) := by show _ = _; rw [hb.block _ (by simp; omega)]; exact HF0.out
    have hc0 : w1.cell? ⟨w.heap.size, 0, none⟩ = some (.string fw) := cell_of_row w1 _ 0 _ _ _ HF1.out
    have hc1 : w1.cell? ⟨w.heap.size, 1, none⟩ = some (.int .i64 fe) := cell_of_row w1 _ 1 _ _ _ HF1.out
    have HG1 : Hid (w1.heap[w.heap.size + 1]? = some (.cells #[.string gw, .int .i64 ge] 56 (0, 0))) := by show _ = _; rw [hb.block _ (by simp)]; exact HG0.out
    have hd0 : w1.cell? ⟨w.heap.size + 1, 0, none⟩ = some (.string gw) := cell_of_row w1 _ 0 _ _ _ HG1.out
    clear hb HF0 HG0 HBa HFl
    go_wp2_with fail
    refine (HLo.out _ (HV.out.below HB1.out)).mono ?_
    rintro e w2 ⟨rfl, rfl⟩
    clear HLo
    go_wp2_with fail
    refine (HR1.out _ _ (HE.out.below HB1.out) (HV.out.below HB1.out)).mono ?_
    rintro e w3 ⟨⟨v1, ev1, rfl, hown, herr, hnil⟩, hb⟩
    have HO1 := hide hown
    have HX1 := hide herr
    have HN1 := hide hnil
    have HB3 : Hid (Below w.heap.size w w3) := HB1.out.trans (hb.mono HB1.out.size)
    have HF3 : Hid (w3.heap[w.heap.size]? = some (.cells #[.string fw, .int .i64 fe] 56 (0, 0))) := (hb.block _ (row_lt HF1.out)).trans HF1.out
    have HG3 : Hid (w3.heap[w.heap.size + 1]? = some (.cells #[.string gw, .int .i64 ge] 56 (0, 0))) := (hb.block _ (row_lt HG1.out)).trans HG1.out
    clear hown herr hnil hb hc0 hc1 hd0
    have hd0 : w3.cell? ⟨w.heap.size + 1, 0, none⟩ = some (.string gw) := cell_of_row w3 _ 0 _ _ _ HG3.out
    have hd1 : w3.cell? ⟨w.heap.size + 1, 1, none⟩ = some (.int .i64 ge) := cell_of_row w3 _ 1 _ _ _ HG3.out
    clear HF1 HG1 HB1
    go_wp2_with fail
    refine (HR2.out _ _ (HE.out.below HB3.out) (HV.out.below HB3.out)).mono ?_
    rintro e w4 ⟨⟨v2, ev2, rfl, hown, herr, hnil⟩, hb⟩
    have HO2 := hide hown
    have HX2 := hide herr
    have HO1b := hide (HO1.out.below hb)
    have HB4 : Hid (Below w.heap.size w w4) := HB3.out.trans (hb.mono HB3.out.size)
    have HF4 : Hid (w4.heap[w.heap.size]? = some (.cells #[.string fw, .int .i64 fe] 56 (0, 0))) := (hb.block _ (row_lt HF3.out)).trans HF3.out
    have HG4 : Hid (w4.heap[w.heap.size + 1]? = some (.cells #[.string gw, .int .i64 ge] 56 (0, 0))) := (hb.block _ (row_lt HG3.out)).trans HG3.out
    clear hown herr hnil hb hd0 hd1
    have hd0 : w4.cell? ⟨w.heap.size + 1, 0, none⟩ = some (.string gw) := cell_of_row w4 _ 0 _ _ _ HG4.out
    have hd1 : w4.cell? ⟨w.heap.size + 1, 1, none⟩ = some (.int .i64 ge) := cell_of_row w4 _ 1 _ _ _ HG4.out
    clear HF3 HG3 HB3 HO1
    rcases HX1.out.cases with ⟨hz1, rfl⟩ | ⟨hz1, t1, p1, rfl⟩
    rotate_left
    · have hv1 := HN1.out hz1
      subst hv1
      go_wp2
      go_ret
      exact ⟨rfl, HB4.out⟩
    rcases HX2.out.cases with ⟨hz2, rfl⟩ | ⟨hz2, t2, p2, rfl⟩
    rotate_left
    · go_wp2
      go_ret
      exact ⟨rfl, HB4.out⟩
    obtain ⟨hcc, hll, hag⟩ := HOr.out hz1 hz2
    subst hcc
    subst hll
    have HAg := hide hag
    clear hag HOr HX1 HX2 HN1 HLx hz1 hz2
    go_wp2_with fail
    refine (HR3.out _ _ (HE.out.below HB4.out) HO1b.out.flAt).mono ?_
    rintro e w5 ⟨⟨v3, ev3, rfl, hown, herr, hnil⟩, hb⟩
    have HO3 := hide hown
    have HX3 := hide herr
    have HN3 := hide hnil
    have HO2b := hide (HO2.out.below hb)
    have HB5 : Hid (Below w.heap.size w w5) := HB4.out.trans (hb.mono HB4.out.size)
    have HF5 : Hid (w5.heap[w.heap.size]? = some (.cells #[.string fw, .int .i64 fe] 56 (0, 0))) := (hb.block _ (row_lt HF4.out)).trans HF4.out
    clear hown herr hnil hb hd0 hd1
    have hd0 : w5.cell? ⟨w.heap.size, 0, none⟩ = some (.string fw) := cell_of_row w5 _ 0 _ _ _ HF5.out
    have hd1 : w5.cell? ⟨w.heap.size, 1, none⟩ = some (.int .i64 fe) := cell_of_row w5 _ 1 _ _ _ HF5.out
    clear HF4 HG4 HB4 HO2
    go_wp2_with fail
    refine (HR4.out _ _ (HE.out.below HB5.out) HO2b.out.flAt).mono ?_
    rintro e w6 ⟨⟨v4, ev4, rfl, hown, herr, hnil⟩, hb⟩
    have HO4 := hide hown
    have HX4 := hide herr
    have HO3b := hide (HO3.out.below hb)
    have HB6 : Hid (Below w.heap.size w w6) := HB5.out.trans (hb.mono HB5.out.size)
    have HF6 : Hid (w6.heap[w.heap.size]? = some (.cells #[.string fw, .int .i64 fe] 56 (0, 0))) := (hb.block _ (row_lt HF5.out)).trans HF5.out
    clear hown herr hnil hb hd0 hd1
    have hd0 : w6.cell? ⟨w.heap.size, 0, none⟩ = some (.string fw) := cell_of_row w6 _ 0 _ _ _ HF6.out
    have hd1 : w6.cell? ⟨w.heap.size, 1, none⟩ = some (.int .i64 fe) := cell_of_row w6 _ 1 _ _ _ HF6.out
    clear HF5 HB5 HO3
    rcases HX3.out.cases with ⟨hz3, rfl⟩ | ⟨hz3, t3, p3, rfl⟩
    rotate_left
    · have hv3 := HN3.out hz3
      subst hv3
      rcases HX4.out.cases with ⟨hz4, rfl⟩ | ⟨hz4, t4, p4, rfl⟩
      · exact absurd hz4 hz3
      · go_wp2
        go_ret
        exact ⟨rfl, HB6.out⟩
    obtain rfl := HX4.out.none hz3
    obtain ⟨hz5, hl5⟩ := HAg.out hz3
    subst hl5
    have HZ5 := hide hz5
    clear HAg HX3 HX4 HN3 HLy hz3 hz5
    go_wp2_with fail
    refine (HR5.out _ _ (HE.out.below HB6.out) HO3b.out.flAt).mono ?_
    rintro e w7 ⟨⟨v5, ev5, rfl, hown, herr, hnil⟩, hb⟩
    obtain rfl := herr.none HZ5.out
    have HB7 : Hid (Below w.heap.size w w7) := HB6.out.trans (hb.mono HB6.out.size)
    have HS1 := hide (sameFloors_eq v3 v4 _ w7 (HO3b.out.flAt.below hb) (HO4.out.flAt.below hb) HLn.out)
    have HS2 := hide (fun w h1 h2 => sameFloors_eq v5 v3 _ w h1 h2 HLn.out)
    have HA5 := hide hown.flAt
    have HA3 := hide (HO3b.out.flAt.below hb)
    clear hown herr hnil hb hd0 hd1 HF6
    go_wp2_with fail
    refine HS1.out.mono ?_
    rintro e w8 ⟨rfl, hb⟩
    have HB8 : Hid (Below w.heap.size w w8) := HB7.out.trans (hb.mono HB7.out.size)
    have HS3 := hide (HS2.out w8 (HA5.out.below hb) (HA3.out.below hb))
    clear hb
    go_wp2_with fail
    refine HS3.out.mono ?_
    rintro e w9 ⟨rfl, hb⟩
    have HB9 : Hid (Below w.heap.size w w9) := HB8.out.trans (hb.mono HB8.out.size)
    clear hb
    go_wp2
    go_ret
    exact ⟨rfl, HB9.out⟩
end Go.Proofs.YtgkkffcbneabkabDoor

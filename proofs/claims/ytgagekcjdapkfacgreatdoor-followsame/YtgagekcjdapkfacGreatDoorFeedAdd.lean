/-
  What package feed's Add gives: the entries with one more, in new memory, or an error; for every list and floor.
-/
import Derived.Test.YtgagekcjdapkfacGreatDoorFeedPb
import Derived.Deep.RegionHeld3
import Derived.Deep.AppendLies
namespace Go.Proofs.YtgagekcjdapkfacGreatDoor
open Go.RowKit Go.Extern.Stop Go.Stop Go.Extern Go.Proofs

theorem small_add {l : List En} {time : Int} {f : Fl} (hs : ∀ e ∈ l, e.fl.who.size ≤ maxLen) (hf : f.who.size ≤ maxLen) : ∀ e ∈ addL l time f, e.fl.who.size ≤ maxLen := by
  intro e he
  unfold addL at he
  rcases List.mem_append.1 he with g | g
  · exact hs e g
  · rw [List.mem_singleton.1 g]; exact hf
theorem own_add {w : World} {B : Nat} {v : Value} {l : List En} {time : Int} {f : Fl} {n : Nat} (hn : l.length = n) (h : w.ownsRow B 80 4 v (n + 1) (cellsE l ++ [.int .i64 ((n : Int) + 1), .int .i64 time, .string f.who, .int .i64 f.ep])) : OwnE w B v (addL l time f) := by
  show w.ownsRow B _ 4 v (addL l time f).length (cellsE (addL l time f))
  rw [addL_len, hn]
  unfold addL
  rw [cellsE_append, hn]
  exact h

set_option maxRecDepth 100000 in
set_option maxHeartbeats 8000000 in
theorem fdAdd_any (a : Nat → Addr) (v : Value) (l : List En) (time : Int) (f : Fl) (w : World) (h : EV fdS a w) (hv : EnAt w v l) (hs : ∀ e ∈ l, e.fl.who.size ≤ maxLen) (hfs : f.who.size ≤ maxLen) (hl : l.length ≤ 100000) :
    Calls Tryz.prog 19 #[v, .int .i64 time, f.val] w fun e w' => FeedPost a (addC l time f) (addR l time f) w.heap.size e w' ∧ Below w.heap.size w w' := by
  have HB0 : Hid (Below w.heap.size w (w.alloc (.cells #[.string f.who, .int .i64 f.ep] 24))) := (Below.refl _ _).alloc (Nat.le_refl _) _
  have HC0 : Hid ((w.alloc (.cells #[.string f.who, .int .i64 f.ep] 24)).heap[w.heap.size]? = some (.cells #[.string f.who, .int .i64 f.ep] 24 (0, 0))) := heap_alloc_new _ _
  have HC := hide (fun w h hv => fdCheck_any a v l w h hv hs (by omega))
  have HC2 := hide (fun v w h hv => fdCheck_any a v (addL l time f) w h hv (small_add hs hfs) (by rw [addL_len]; omega))
  have HCl := hide (fun w h => cloneE_any v l w h (by omega))
  have HE := hide h
  have HV := hide hv
  obtain ⟨i0, hi, hz0, hz1, hz2⟩ := info_parts Tryz.infoEntry
  unfold Fl.val
  obtain ⟨ad, cap, rfl, hcap⟩ := hv.form
  by_cases h0 : (feedC l).1 = 0
  · have hR : addC l time f = (newE l time f, -1) := if_pos h0
    have hRR : addR l time f = if newE l time f = 0 then addL l time f else [] := by unfold addR; rw [hR]
    have hF := feed_add h0 time f
    rw [hR, hRR]
    have HOw : Hid (∀ {w : World} {B : Nat} {v : Value}, w.ownsRow B 80 4 v (l.length + 1) (cellsE l ++ [.int .i64 ((l.length : Int) + 1), .int .i64 time, .string f.who, .int .i64 f.ep]) → OwnE w B v (addL l time f)) := fun h => own_add rfl h
    have HF := hide hF
    clear hR hRR h hv hs hfs hF
    generalize newE l time f = ne at *
    generalize addL l time f = al at *
    generalize feedC al = c2 at *
    generalize feedC l = c at *
    generalize hn : l.length = n at *
    have HN := hide hn
    generalize f.who = who at *
    generalize f.ep = ep at *
    clear hn
    go_enter Tryz.func19, Tryz.ntmps19
    go_wp2_with fail
    refine (HC.out _ (HE.out.below HB0.out) (HV.out.below HB0.out)).mono ?_
    rintro e w1 ⟨ev, rfl, he, hb⟩
    obtain rfl := he.none h0
    have HB1 : Hid (Below w.heap.size w w1) := HB0.out.trans (hb.mono HB0.out.size)
    have HRo1 : Hid (w1.heap[w.heap.size]? = some (.cells #[.string who, .int .i64 ep] 24 (0, 0))) := by show _ = _; rw [hb.block _ (by simp)]; exact HC0.out
    have HLt : Hid (w.heap.size < w1.heap.size) := row_lt HRo1.out
    have hc0 : w1.cell? ⟨w.heap.size, 0, none⟩ = some (.string who) := cell_of_row w1 _ 0 _ _ _ HRo1.out
    have hc1 : w1.cell? ⟨w.heap.size, 1, none⟩ = some (.int .i64 ep) := cell_of_row w1 _ 1 _ _ _ HRo1.out
    have HEA : Hid (EnAt w1.drew (.slice ad n cap) l) := HV.out.below HB1.out.drew
    have HBA : Hid (Below w.heap.size w w1.drew) := HB1.out.drew
    have HBB : Hid (Below w.heap.size w (w1.alloc (.cells #[.int .i64 ((n : Int) + 1), .int .i64 time, .string who, .int .i64 ep] 80)).drew) := (HB1.out.alloc HB1.out.size _).drew
    have HEB : Hid (EnAt (w1.alloc (.cells #[.int .i64 ((n : Int) + 1), .int .i64 time, .string who, .int .i64 ep] 80)).drew (.slice ad n cap) l) := HV.out.below HBB.out
    have HRB : Hid ((w1.alloc (.cells #[.int .i64 ((n : Int) + 1), .int .i64 time, .string who, .int .i64 ep] 80)).drew.heap[w1.heap.size]? = some (.cells #[.int .i64 ((n : Int) + 1), .int .i64 time, .string who, .int .i64 ep] 80 (0, 0))) := heap_alloc_new _ _
    have hw1 : IntKind.i64.wrap ((n : Int) + 1) = (n : Int) + 1 := by rw [IntKind.wrap_i64]; omega
    clear he hb h0 HC0 HB0 HC
    go_wp2_with fail
    have HRoB : Hid ((w1.alloc (.cells #[.int .i64 ((n : Int) + 1), .int .i64 time, .string who, .int .i64 ep] 80)).drew.heap[w.heap.size]? = some (.cells #[.string who, .int .i64 ep] 24 (0, 0))) := (heap_alloc_old w1 (.cells #[.int .i64 ((n : Int) + 1), .int .i64 time, .string who, .int .i64 ep] 80) HLt.out).trans HRo1.out
    have HLtB : Hid (w.heap.size < (w1.alloc (.cells #[.int .i64 ((n : Int) + 1), .int .i64 time, .string who, .int .i64 ep] 80)).drew.heap.size) := row_lt HRoB.out
    have HLe : Hid (w1.heap.size ≤ (w1.alloc (.cells #[.int .i64 ((n : Int) + 1), .int .i64 time, .string who, .int .i64 ep] 80)).drew.heap.size) := Nat.le_of_lt (row_lt HRB.out)
    go_region_held3 (fun w' => w'.cell? ⟨w.heap.size, 0, none⟩ = some (.string who) ∧ w'.cell? ⟨w.heap.size, 1, none⟩ = some (.int .i64 ep)) (first | go_keep | assumption | (go_split_ands; refine ⟨?_, ?_⟩ <;> assumption))
      (first
        | (go_at_call 63; refine (HCl.out _ HEA.out).mono ?_; rintro e w6 ⟨v6, rfl, hown, hb⟩; have HB6 : Hid (Below w.heap.size w w6) := HBA.out.trans (hb.mono HBA.out.size); have HO6 : Hid (w6.ownsRow w1.heap.size 80 4 v6 n (cellsE l)) := (by show World.ownsRow _ _ _ _ _ _ _; rw [← HN.out]; exact hown); have HG6 : Hid (w1.heap.size ≤ w6.heap.size) := hb.size; have HW6 : Hid (w6.heap[w.heap.size]? = some (.cells #[.string who, .int .i64 ep] 24 (0, 0))) := (hb.block _ HLt.out).trans HRo1.out; have e1 : w6.cell? ⟨w.heap.size, 0, none⟩ = some (.string who) := cell_of_row w6 _ 0 _ _ _ HW6.out; have e2 : w6.cell? ⟨w.heap.size, 1, none⟩ = some (.int .i64 ep) := cell_of_row w6 _ 1 _ _ _ HW6.out; clear hown hb)
        | (go_at_call 63; refine (HCl.out _ HEB.out).mono ?_; rintro e w6 ⟨v6, rfl, hown, hb⟩; have HB6 : Hid (Below w.heap.size w w6) := HBB.out.trans (hb.mono HBB.out.size); have HO6 : Hid (w6.ownsRow w1.heap.size 80 4 v6 n (cellsE l)) := (by show World.ownsRow _ _ _ _ _ _ _; rw [← HN.out]; exact OwnE.less hown HLe.out); have HG6 : Hid (w1.heap.size ≤ w6.heap.size) := Nat.le_trans HLe.out hb.size; have HW6 : Hid (w6.heap[w.heap.size]? = some (.cells #[.string who, .int .i64 ep] 24 (0, 0))) := (hb.block _ HLtB.out).trans HRoB.out; have HS6 : Hid (w6.heap[w1.heap.size]? = some (.cells #[.int .i64 ((n : Int) + 1), .int .i64 time, .string who, .int .i64 ep] 80 (0, 0))) := (hb.block _ (row_lt HRB.out)).trans HRB.out; have e1 : w6.cell? ⟨w.heap.size, 0, none⟩ = some (.string who) := cell_of_row w6 _ 0 _ _ _ HW6.out; have e2 : w6.cell? ⟨w.heap.size, 1, none⟩ = some (.int .i64 ep) := cell_of_row w6 _ 1 _ _ _ HW6.out; clear hown hb)
        | (refine step_append_lies _ (by rfl) _ _ _ (by rfl) w1.heap.size 80 i0 _ 4 40 Tryz.underlying22 hi hz0 hz1 hz2 rfl (by omega) v6 n (cellsE l) (by rfl) (HO6.out.alloc _) ⟨w6.heap.size, 0, none⟩ 1 1 [.int .i64 ((n : Int) + 1), .int .i64 time, .string who, .int .i64 ep] (by rfl) (by rfl) (World.news_of_block (cs := #[.int .i64 ((n : Int) + 1), .int .i64 time, .string who, .int .i64 ep]) (t := 80) (fr := (0, 0)) (heap_alloc_new w6 _)) (by simp [Value.oneCell']) (by omega) (by unfold maxLen; omega) (by omega) (Nat.le_trans HG6.out (by simp)) (w6.heap.size + 1) (by simp) ?_; intro gg cp w7 hown1 hgrow hat hlt; have HB7 : Hid (Below w.heap.size w w7) := (HB6.out.alloc HB6.out.size _).grown hgrow (Nat.le_trans HB6.out.size (by simp)) (fun q hq => Nat.le_trans HB1.out.size (HO6.out.lt q hq).1); have HO7 := hide (HOw.out hown1); have hne : v6.ownBlock ≠ some w.heap.size := (fun e => absurd (HO6.out.lt _ e).1 (Nat.not_le.2 HLt.out)); have e3 : w7.cell? ⟨w.heap.size, 0, none⟩ = some (.string who) := (hgrow.cell_far ⟨w.heap.size, 0, none⟩ (Nat.lt_of_lt_of_le HLt.out (Nat.le_trans HG6.out (by simp))) (Ne.symm hne)).trans (((Below.refl _ w6).alloc (Nat.le_refl _) _).cell (p := ⟨w.heap.size, 0, none⟩) (row_lt HW6.out) |>.trans e1); have e4 : w7.cell? ⟨w.heap.size, 1, none⟩ = some (.int .i64 ep) := (hgrow.cell_far ⟨w.heap.size, 1, none⟩ (Nat.lt_of_lt_of_le HLt.out (Nat.le_trans HG6.out (by simp))) (Ne.symm hne)).trans (((Below.refl _ w6).alloc (Nat.le_refl _) _).cell (p := ⟨w.heap.size, 1, none⟩) (row_lt HW6.out) |>.trans e2); clear hne hown1 hgrow hat hlt)
        | (refine step_append_lies _ (by rfl) _ _ _ (by rfl) w1.heap.size 80 i0 _ 4 40 Tryz.underlying22 hi hz0 hz1 hz2 rfl (by omega) v6 n (cellsE l) (by rfl) HO6.out ⟨w1.heap.size, 0, none⟩ 1 1 [.int .i64 ((n : Int) + 1), .int .i64 time, .string who, .int .i64 ep] (by rfl) (by rfl) (World.news_of_block (cs := #[.int .i64 ((n : Int) + 1), .int .i64 time, .string who, .int .i64 ep]) (t := 80) (fr := (0, 0)) HS6.out) (by simp [Value.oneCell']) (by omega) (by unfold maxLen; omega) (by omega) HG6.out w6.heap.size rfl ?_; intro gg cp w7 hown1 hgrow hat hlt; have HB7 : Hid (Below w.heap.size w w7) := HB6.out.grown hgrow HB6.out.size (fun q hq => Nat.le_trans HB1.out.size (HO6.out.lt q hq).1); have HO7 := hide (HOw.out hown1); have hne : v6.ownBlock ≠ some w.heap.size := (fun e => absurd (HO6.out.lt _ e).1 (Nat.not_le.2 HLt.out)); have e3 : w7.cell? ⟨w.heap.size, 0, none⟩ = some (.string who) := (hgrow.cell_far ⟨w.heap.size, 0, none⟩ (row_lt HW6.out) (Ne.symm hne)).trans e1; have e4 : w7.cell? ⟨w.heap.size, 1, none⟩ = some (.int .i64 ep) := (hgrow.cell_far ⟨w.heap.size, 1, none⟩ (row_lt HW6.out) (Ne.symm hne)).trans e2; clear hne hown1 hgrow hat hlt))
    all_goals
      clear e1 e2 e3 e4 HO6 HB6 HG6 HW6 HRB HRoB HLe HLtB HEA HEB HBA HBB hc0 hc1 HRo1 HOw HCl
      have HE7 := hide (HE.out.below HB7.out)
      go_wp2_with fail
      refine (HC2.out _ _ HE7.out HO7.out.enAt).mono ?_
      rintro e w8 ⟨ev, rfl, he, hb⟩
      have HB8 : Hid (Below w.heap.size w w8) := HB7.out.trans (hb.mono HB7.out.size)
      have HO8 := hide (OwnE.below (OwnE.less HO7.out HB1.out.size) hb)
      have HEr := hide he
      clear HE7 HC2 HE
      rcases he.cases with ⟨z0, rfl⟩ | ⟨z0, tt, pp, rfl⟩
      · have HNz : Hid (ne = 0) := HF.out.symm.trans z0
        clear he hb z0
        go_wp2
        go_ret2
        exact ⟨⟨_, _, rfl, by first | exact HO8.out | (rw [if_pos HNz.out]; exact HO8.out), Or.inl ⟨by first | rfl | exact HNz.out, rfl⟩, fun h => absurd (by first | rfl | exact HNz.out) h⟩, HB8.out⟩
      · have HNz : Hid (ne ≠ 0) := fun e => z0 (HF.out.trans e)
        have HBr := hide (fdBare_any a c2 (.iface tt pp) w8 HEr.out)
        rw [HF.out, errV_pos a HNz.out] at HBr
        clear he hb z0
        generalize hea : a (ne - 1) = ea at HBr
        have HEa := hide hea
        clear hea
        go_wp2_with fail
        refine HBr.out.mono ?_
        rintro e w9 ⟨rfl, rfl⟩
        go_wp2
        go_ret2
        exact ⟨⟨_, _, rfl, by first | exact OwnE.nil _ _ | (rw [if_neg HNz.out]; exact OwnE.nil _ _), Or.inr (Or.inl ⟨HNz.out, rfl, by rw [HEa.out]; rfl⟩), fun _ => rfl⟩, HB8.out⟩
  · have hR : addC l time f = feedC l := if_neg h0
    have hRR : addR l time f = [] := by unfold addR; rw [hR, if_neg h0]
    rw [hR, hRR]
    clear hR hRR hv hs hfs h HC2 HCl
    generalize feedC l = c at *
    generalize f.who = who at *
    generalize f.ep = ep at *
    have HH := hide h0
    go_enter Tryz.func19, Tryz.ntmps19
    go_wp2_with fail
    refine (HC.out _ (HE.out.below HB0.out) (HV.out.below HB0.out)).mono ?_
    rintro e w1 ⟨ev, rfl, he, hb⟩
    have HEr := hide he
    have HB1 : Hid (Below w.heap.size w w1) := HB0.out.trans (hb.mono HB0.out.size)
    rcases he.cases with ⟨e0, _⟩ | ⟨_, tt, pp, rfl⟩
    · exact absurd e0 HH.out
    · clear he hb h0
      go_wp2
      go_ret2
      exact ⟨⟨_, _, rfl, OwnE.nil _ _, HEr.out, fun _ => rfl⟩, HB1.out⟩
end Go.Proofs.YtgagekcjdapkfacGreatDoor

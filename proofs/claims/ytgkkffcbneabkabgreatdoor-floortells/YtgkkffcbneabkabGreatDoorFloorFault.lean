/-
  What the document's answer's FloorsFault gives: the fault of any list; and that an error of the program with that number and place is faulted.
-/
import Derived.Test.YtgkkffcbneabkabGreatDoorFloorRef
import Derived.Test.YtgkkffcbneabkabGreatDoorFloorCheck
import Derived.Test.YtgkkffcbneabkabGreatDoorFloorReadOne
import Derived.Test.YtgkkffcbneabkabGreatDoorCoded
namespace Go.Proofs.YtgkkffcbneabkabGreatDoor
open Go.RowKit Go.Extern.Stop Go.Stop Go.Extern Go.Proofs

theorem faulted2_same (ev : Value) (c at0 : Int) (w : World)
    (hc : ∀ w', Below w.heap.size w w' → Calls Tryz.prog 53 #[ev] w' fun e w'' => e = .returned (.tuple #[.int .i64 c, .int .i64 at0]) ∧ Below w'.heap.size w' w'') :
    Calls Tryz.prog 27 #[ev, .agg #[.int .i64 c, .int .i64 at0]] w fun e w' => e = .returned (.bool true) ∧ Below w.heap.size w w' := by
  have HB0 : Hid (Below w.heap.size w (w.alloc (.cells #[.int .i64 c, .int .i64 at0] 55))) := (Below.refl _ _).alloc (Nat.le_refl _) _
  have HC := hide (hc _ HB0.out)
  have hq1 : (c == c) = true := by simp
  have hq2 : (at0 == at0) = true := by simp
  clear hc
  by_cases h0 : c = 0
  · have hq : (c == 0) = true := by simpa using h0
    clear h0
    go_enter Tryz.func27, Tryz.ntmps27
    go_wp2_with fail
    refine HC.out.mono ?_
    rintro e w1 ⟨rfl, hb⟩
    have h1 : w1.cell? ⟨w.heap.size, 0, none⟩ = some (.int .i64 c) := by rw [hb.cell (p := ⟨w.heap.size, 0, none⟩) (by simp)]; simp
    have HB1 : Hid (Below w.heap.size w w1) := HB0.out.trans (hb.mono HB0.out.size)
    clear hb HC
    go_wp2
    go_ret
    exact ⟨rfl, HB1.out⟩
  · have hq : (c == 0) = false := by simpa using h0
    clear h0
    go_enter Tryz.func27, Tryz.ntmps27
    go_wp2_with fail
    refine HC.out.mono ?_
    rintro e w1 ⟨rfl, hb⟩
    have h1 : w1.cell? ⟨w.heap.size, 0, none⟩ = some (.int .i64 c) := by rw [hb.cell (p := ⟨w.heap.size, 0, none⟩) (by simp)]; simp
    have h2 : w1.cell? ⟨w.heap.size, 1, none⟩ = some (.int .i64 at0) := by rw [hb.cell (p := ⟨w.heap.size, 1, none⟩) (by simp)]; simp
    have HB1 : Hid (Below w.heap.size w w1) := HB0.out.trans (hb.mono HB0.out.size)
    clear hb HC
    go_wp2
    go_ret
    exact ⟨rfl, HB1.out⟩
/-- An error of package floor's, and the document's own. -/
theorem faulted_fl {a : Nat → Addr} {c : Nat × Int} {ev : Value} {w : World} (h : Errs a w) (he : FlErr a w c ev) (h16 : c.1 < 16) (h0 : c.1 = 0 → c.2 = -1) :
    Calls Tryz.prog 27 #[ev, fltV c] w fun e w' => e = .returned (.bool true) ∧ Below w.heap.size w w' := by
  refine faulted2_same ev (c.1 : Int) c.2 w (fun w' hb => ?_)
  rcases he with ⟨hz, rfl⟩ | ⟨hz, hn, rfl⟩ | ⟨hz, b, rfl, hrow⟩
  · rw [h0 hz, hz]
    exact (code_nil w').mono (by rintro e w'' ⟨rfl, rfl⟩; exact ⟨rfl, Below.refl _ _⟩)
  · have := code_err a (c.1 - 1) (by omega) w' (h.below hb)
    rw [hn]
    rwa [show ((c.1 - 1 : Nat) : Int) + 1 = (c.1 : Int) by omega] at this
  · have hr : w'.heap[b]? = some (.cells #[.int .i64 c.2, eV (a (c.1 - 1))] 101 (0, 0)) := (hb.block _ (row_lt hrow)).trans hrow
    have := code_at a (c.1 - 1) (by omega) b 0 c.2 w' (h.below hb) (cell_of_row w' b 0 _ _ _ hr) (cell_of_row w' b 1 _ _ _ hr)
    rwa [show ((c.1 - 1 : Nat) : Int) + 1 = (c.1 : Int) by omega] at this

/-! ### The fault of a list -/
theorem shape_first {l : List Fl} {k : Nat} (hk : k < l.length) (h0 : k = 0) (h1 : oneE l[k] = 0) : badAt l k = 0 ∧ (l[k].nm ≠ star → topL l < l[k].ep) := by
  subst h0
  match l, hk with
  | f :: l, _ =>
    change oneE f = 0 at h1
    have h2 := one_pos h1
    show behindE [] f = 0 ∧ (f.nm ≠ star → topL (f :: l) < f.ep)
    refine ⟨?_, fun hn => ?_⟩
    · unfold behindE
      rw [if_pos h1, if_neg (by rintro ⟨g, hg, _⟩; cases hg), if_neg (by have : topL [] = 0 := rfl; omega)]
    · rw [topL_cons, if_neg hn]
      omega
theorem top_take {l : List Fl} {k : Nat} (hk : 0 < k) : topL (l.take k) = topL l := by
  match l, k, hk with
  | [], k + 1, _ => rfl
  | f :: l, k + 1, _ => rfl
theorem last_take {l : List Fl} {m : Nat} (hm : m + 1 < l.length) : (l.take (m + 1)).getLast? = some (l[m]'(by omega)) := by
  rw [List.take_succ_eq_append_getElem (by omega), List.getLast?_concat]
theorem bad_next {l : List Fl} {m : Nat} (hm : m + 1 < l.length) (h1 : oneE l[m + 1] = 0) : badAt l (m + 1) = if (l[m]'(by omega)).nm < l[m + 1].nm then (if l[m + 1].ep ≤ topL l then 3 else 0) else 8 := by
  unfold badAt
  rw [List.getElem?_eq_getElem hm]
  show behindE (l.take (m + 1)) l[m + 1] = _
  unfold behindE
  rw [if_pos h1, last_take hm, top_take (by omega)]
  by_cases h : (l[m]'(by omega)).nm < l[m + 1].nm
  · rw [if_pos h, if_neg (by rintro ⟨g, hg, hn⟩; injection hg with hg; subst hg; exact hn h)]
  · rw [if_neg h, if_pos ⟨_, rfl, h⟩]
theorem bad_one {l : List Fl} {k : Nat} (hk : k < l.length) (h1 : oneE l[k] ≠ 0) : badAt l k = oneE l[k] := by
  unfold badAt
  rw [List.getElem?_eq_getElem hk]
  show behindE (l.take k) l[k] = _
  unfold behindE
  rw [if_neg h1]
theorem faultEnd {a : Act} {w : World} {R : Ending → World → Prop} (g : Nat) (cs : Array Value) (hp : a.tmps.getD 2 undef = .pointer (some ⟨g, 0, none⟩)) (hg : w.heap[g]? = some (.cells cs 55 (0, 0))) (hn : cs.size = 2) (hd : a.defers = [])
    (hR : R (.returned (.agg cs)) w) : bodyPost Tryz.prog Tryz.f25 R .ret a w :=
  bodyPost_ret (results_cell_row rfl a.tmps w g _ cs (0, 0) _ hp hg Tryz.underlying55 rfl (by rw [hn]; kernel_rfl)) hd hR

set_option maxRecDepth 100000 in
set_option maxHeartbeats 8000000 in
theorem refFault_any (v : Value) (l : List Fl) (w : World) (hv : FlAt w v l) (hs : ∀ f ∈ l, f.who.size ≤ maxLen) (hl : l.length ≤ 1000000) :
    Calls Tryz.prog 25 #[v] w fun e w' => e = .returned (fltV (checkL l)) ∧ Below w.heap.size w w' := by
  have HB0 : Hid (Below w.heap.size w (w.alloc (.cells #[.int .i64 0, .int .i64 0] 55))) := (Below.refl _ _).alloc (Nat.le_refl _) _
  have HR0 : Hid ((w.alloc (.cells #[.int .i64 0, .int .i64 0] 55)).heap[w.heap.size]? = some (.cells #[.int .i64 0, .int .i64 0] 55 (0, 0))) := heap_alloc_new _ _
  -- a fault laid down, and given
  have HEnd : Hid (∀ (W : World) (x y : Value), Below w.heap.size w W → W.heap[w.heap.size]? = some (.cells #[.int .i64 0, .int .i64 0] 55 (0, 0)) → ((W.setCell ⟨w.heap.size, 0, none⟩ x).setCell ⟨w.heap.size, 0 + 1, none⟩ y).heap[w.heap.size]? = some (.cells #[x, y] 55 (0, 0)) ∧ Below w.heap.size w ((W.setCell ⟨w.heap.size, 0, none⟩ x).setCell ⟨w.heap.size, 0 + 1, none⟩ y)) := fun W x y hb hr =>
    ⟨set2_row hr _ _, (hb.setCell (p := ⟨w.heap.size, 0, none⟩) (Nat.le_refl _) _).setCell (p := ⟨w.heap.size, 0 + 1, none⟩) (Nat.le_refl _) _⟩
  have HCl : Hid (∀ (W : World), W.heap[w.heap.size]? = some (.cells #[.int .i64 0, .int .i64 0] 55 (0, 0)) → W.cell? ⟨w.heap.size, 0, none⟩ = some (.int .i64 0) ∧ W.cell? ⟨w.heap.size, 1, none⟩ = some (.int .i64 0) ∧ W.frozen? ⟨w.heap.size, 0, none⟩ = false ∧ W.frozen? ⟨w.heap.size, 1, none⟩ = false) := fun W h =>
    ⟨cell_of_row W _ 0 _ _ _ h, cell_of_row W _ 1 _ _ _ h, frozen_of_row W _ 0 _ _ h, frozen_of_row W _ 1 _ _ h⟩
  obtain ⟨ad, cap, rfl, hc⟩ := hv.form
  have HV := hide hv
  have HS := hide hs
  by_cases h21 : 21 < l.length
  · rw [check_full h21]
    have HBa := hide (fun w => bare_any 7 w)
    generalize l.length = n at *
    have hz : (21 : Int) < (n : Int) := by omega
    clear hv hs
    go_enter Tryz.func25, Tryz.ntmps25
    go_wp2_with fail
    refine (HBa.out _).mono ?_
    rintro e w1 ⟨rfl, hb⟩
    have HR1 : Hid (w1.heap[w.heap.size]? = some (.cells #[.int .i64 0, .int .i64 0] 55 (0, 0))) := (hb.block _ (row_lt HR0.out)).trans HR0.out
    have HB1 : Hid (Below w.heap.size w w1) := HB0.out.trans (hb.mono HB0.out.size)
    obtain ⟨c0, c1, z0, z1⟩ := HCl.out w1 HR1.out
    clear hb
    go_wp2
    obtain ⟨e1, e2⟩ := HEnd.out w1 _ _ HB1.out HR1.out
    refine faultEnd w.heap.size _ rfl e1 rfl rfl ?_
    exact ⟨rfl, e2⟩
  · have HG : Hid ((∀ j, j < l.length → badAt l j = 0) → checkL l = (0, -1)) := fun h => check_good h21 h
    have HBd : Hid (∀ k, k < l.length → (∀ j, j < k → badAt l j = 0) → badAt l k ≠ 0 → checkL l = (badAt l k, (k : Int))) := fun k hk h1 h2 => check_bad h21 hk h1 h2
    have HT := hide (fun w h => refTop_any (.slice ad l.length cap) l w h hl)
    have HF := hide (fun w => fine_any w)
    generalize checkL l = res at *
    generalize hn : l.length = n at *
    have HN := hide hn
    have hz : ¬ (21 : Int) < (n : Int) := by omega
    clear hv hs hn
    go_enter Tryz.func25, Tryz.ntmps25
    go_wp2
    go_loopw [3] (fun i wr => ∃ k : Nat, k ≤ n ∧ i = .int .i64 k ∧ Hid (∀ j, j < k → badAt l j = 0) ∧ Hid (Below w.heap.size w wr ∧ wr.heap[w.heap.size]? = some (.cells #[.int .i64 0, .int .i64 0] 55 (0, 0)))) (fun i _ => n - (intOf i).toNat)
    case atStart => exact ⟨0, Nat.zero_le _, rfl, (show Hid _ from fun j hj => absurd hj (Nat.not_lt_zero _)), (show Hid _ from ⟨HB0.out, HR0.out⟩)⟩
    case round =>
      obtain ⟨k, hk, rfl, HP, HW⟩ := hrel
      clear HB0 HR0
      by_cases hlt : k < n
      · have hkl : k < l.length := by rw [HN.out]; exact hlt
        have hvr := HV.out.below HW.out.1
        rw [← HN.out] at hvr
        obtain ⟨b, off, cap', e, hc', hb, hcell⟩ := hvr.at (by omega)
        injection e with e1 e2 e3
        subst e1; subst e3
        obtain ⟨c0, c1⟩ := hcell k hkl
        have hltz : (k : Int) < (n : Int) := by omega
        have HCells : Hid (∀ W, Below wr.heap.size wr W → W.cell? ⟨b, off + k * 2, none⟩ = some (.string (l[k]'hkl).who) ∧ W.cell? ⟨b, off + k * 2 + 1, none⟩ = some (.int .i64 (l[k]'hkl).ep)) := fun W hbW => ⟨by rw [hbW.cell (p := ⟨b, off + k * 2, none⟩) hb]; exact (hcell k hkl).1, by rw [hbW.cell (p := ⟨b, off + k * 2 + 1, none⟩) hb]; exact (hcell k hkl).2⟩
        have HO := hide (refOne_any (l[k]'hkl) wr (HS.out _ (List.getElem_mem hkl)))
        unfold Fl.val at HO
        have HNx : Hid (∀ W, Below wr.heap.size wr W → Below w.heap.size w W ∧ W.heap[w.heap.size]? = some (.cells #[.int .i64 0, .int .i64 0] 55 (0, 0))) := fun W hbW => ⟨HW.out.1.trans (hbW.mono HW.out.1.size), (hbW.block _ (row_lt HW.out.2)).trans HW.out.2⟩
        by_cases h1 : oneE (l[k]'hkl) = 0
        · by_cases hk0 : k = 0
          · obtain ⟨hbad, hsh⟩ := shape_first hkl hk0 h1
            have HBad := hide hbad
            have hq := star_who (l[k]'hkl)
            rw [h1] at HO
            have hk0n : ¬ (0 : Int) < (k : Int) := by omega
            clear hcell hvr h1 hbad hk0
            by_cases hst : (l[k]'hkl).nm = star
            · rw [decide_eq_true hst] at hq
              clear hst hsh
              generalize (l[k]'hkl).who = who at *
              generalize (l[k]'hkl).ep = ep at *
              go_wp2_with fail
              refine HO.out.mono ?_
              rintro e w1 ⟨rfl, hb1⟩
              have HBw := hide hb1
              clear c0 c1
              obtain ⟨c0, c1⟩ := HCells.out w1 hb1
              clear hb1
              go_wp2
              go_quiet (fail)
              go_wp2
              go_roundw
              case rel =>
                refine ⟨k + 1, by omega, by go_num, (show Hid _ from fun j hj => ?_), (show Hid _ from HNx.out _ (below_drewN HBw.out nq))⟩
                by_cases e : j = k
                · rw [e]; exact HBad.out
                · exact HP.out j (by omega)
              case measure => simp [intOf]; omega
            · have hd : decide ((l[k]'hkl).ep ≤ topL l) = false := decide_eq_false (by have := hsh hst; omega)
              rw [decide_eq_false hst] at hq
              clear hst hsh
              generalize (l[k]'hkl).who = who at *
              generalize (l[k]'hkl).ep = ep at *
              go_wp2_with fail
              refine HO.out.mono ?_
              rintro e w1 ⟨rfl, hb1⟩
              have HBw := hide hb1
              clear c0 c1
              obtain ⟨c0, c1⟩ := HCells.out w1 hb1
              clear hb1
              go_wp2
              go_quiet (first | (go_at_call 63; exact Calls.quiet_of_same (HT.out _ ((HV.out.below HW.out.1).below (below_drewN HBw.out _)))))
              go_wp2
              go_roundw
              case rel =>
                refine ⟨k + 1, by omega, by go_num, (show Hid _ from fun j hj => ?_), (show Hid _ from HNx.out _ (below_drewN HBw.out nq))⟩
                by_cases e : j = k
                · rw [e]; exact HBad.out
                · exact HP.out j (by omega)
              case measure => simp [intOf]; omega
          · obtain ⟨m, rfl⟩ : ∃ m, k = m + 1 := ⟨k - 1, by omega⟩
            have hml : m < l.length := by omega
            have HPrev : Hid (∀ W, Below wr.heap.size wr W → W.cell? ⟨b, off + m * 2, none⟩ = some (.string (l[m]'hml).who)) := fun W hbW => by rw [hbW.cell (p := ⟨b, off + m * 2, none⟩) hb]; exact (hcell m hml).1
            have hbn := bad_next hkl h1
            have hrk : (m + 1 : Int) - 1 = (m : Int) := by omega
            have hmz : (m : Int) < (n : Int) := by omega
            have h1p : oneE (l[m]'hml) = 0 := by
              have := bad_zero hml (HP.out m (by omega))
              exact behind_one this
            have hq := star_who (l[m + 1]'hkl)
            rw [h1] at HO
            have hk0z : (0 : Int) < (m : Int) + 1 := by omega
            rcases names_cases (l[m + 1]'hkl).who (l[m]'hml).who with ⟨hlt1, hq1, hq2⟩ | ⟨hlt1, hq1, hq2⟩ | ⟨hlt1, hq1, hq2⟩
            · have hno : ¬ (l[m]'hml).nm < (l[m + 1]'hkl).nm := fun e => List.lt_irrefl _ (List.lt_trans hlt1 e)
              have HRes := hide (HBd.out (m + 1) (by omega) HP.out (by rw [hbn, if_neg hno]; decide))
              rw [hbn, if_neg hno] at HRes
              clear hcell hvr h1 hk0 hbn hlt1 h1p hno
              generalize (l[m]'hml).who = pw at *
              generalize (l[m + 1]'hkl).who = who at *
              generalize (l[m + 1]'hkl).ep = ep at *
              go_wp2_with fail
              refine HO.out.mono ?_
              rintro e w1 ⟨rfl, hb1⟩
              have d0 : w1.cell? ⟨b, off + m * 2, none⟩ = some (.string pw) := HPrev.out w1 hb1
              have HBw := hide hb1
              clear c0 c1
              obtain ⟨c0, c1⟩ := HCells.out w1 hb1
              clear hb1
              go_wp2
              go_quiet (fail)
              obtain ⟨w2, hw2⟩ : ∃ w2, w1.drewN nq = w2 := ⟨_, rfl⟩
              rw [hw2]
              have HBw2 : Hid (Below wr.heap.size wr w2) := by rw [← hw2]; exact below_drewN HBw.out nq
              clear c0 c1 d0 HBw
              obtain ⟨c0, c1⟩ := HCells.out w2 HBw2.out
              clear hw2 nq
              go_wp2
              go_quiet (fail)
              obtain ⟨HB3, HR3⟩ := HNx.out _ (below_drewN HBw2.out nq)
              obtain ⟨x0, x1, z0, z1⟩ := HCl.out _ HR3
              clear HB3 HR3
              go_wp2
              obtain ⟨HB3, HR3⟩ := HNx.out _ (below_drewN HBw2.out nq)
              obtain ⟨e1, e2⟩ := HEnd.out _ _ _ HB3 HR3
              refine faultEnd w.heap.size _ rfl e1 rfl rfl ?_
              exact ⟨by rw [HRes.out]; rfl, e2⟩
            · have hno : ¬ (l[m]'hml).nm < (l[m + 1]'hkl).nm := fun e => by unfold Fl.nm at e; rw [hlt1] at e; exact List.lt_irrefl _ e
              have HRes := hide (HBd.out (m + 1) (by omega) HP.out (by rw [hbn, if_neg hno]; decide))
              rw [hbn, if_neg hno] at HRes
              clear hcell hvr h1 hk0 hbn hlt1 h1p hno
              generalize (l[m]'hml).who = pw at *
              generalize (l[m + 1]'hkl).who = who at *
              generalize (l[m + 1]'hkl).ep = ep at *
              go_wp2_with fail
              refine HO.out.mono ?_
              rintro e w1 ⟨rfl, hb1⟩
              have d0 : w1.cell? ⟨b, off + m * 2, none⟩ = some (.string pw) := HPrev.out w1 hb1
              have HBw := hide hb1
              clear c0 c1
              obtain ⟨c0, c1⟩ := HCells.out w1 hb1
              clear hb1
              go_wp2
              go_quiet (fail)
              obtain ⟨w2, hw2⟩ : ∃ w2, w1.drewN nq = w2 := ⟨_, rfl⟩
              rw [hw2]
              have HBw2 : Hid (Below wr.heap.size wr w2) := by rw [← hw2]; exact below_drewN HBw.out nq
              clear c0 c1 d0 HBw
              obtain ⟨c0, c1⟩ := HCells.out w2 HBw2.out
              clear hw2 nq
              go_wp2
              go_quiet (fail)
              obtain ⟨HB3, HR3⟩ := HNx.out _ (below_drewN HBw2.out nq)
              obtain ⟨x0, x1, z0, z1⟩ := HCl.out _ HR3
              clear HB3 HR3
              go_wp2
              obtain ⟨HB3, HR3⟩ := HNx.out _ (below_drewN HBw2.out nq)
              obtain ⟨e1, e2⟩ := HEnd.out _ _ _ HB3 HR3
              refine faultEnd w.heap.size _ rfl e1 rfl rfl ?_
              exact ⟨by rw [HRes.out]; rfl, e2⟩
            · rw [if_pos (show (l[m]'hml).nm < (l[m + 1]'hkl).nm from hlt1)] at hbn
              have hst : (l[m + 1]'hkl).nm ≠ star := fun e => not_below_star h1p (by rw [← e]; exact hlt1)
              rw [decide_eq_false hst] at hq
              by_cases hsh : (l[m + 1]'hkl).ep ≤ topL l
              · rw [if_pos hsh] at hbn
                have HRes := hide (HBd.out (m + 1) (by omega) HP.out (by rw [hbn]; decide))
                rw [hbn] at HRes
                have hd := decide_eq_true hsh
                clear hcell hvr h1 hk0 hbn hlt1 h1p hst hsh
                generalize (l[m]'hml).who = pw at *
                generalize (l[m + 1]'hkl).who = who at *
                generalize (l[m + 1]'hkl).ep = ep at *
                go_wp2_with fail
                refine HO.out.mono ?_
                rintro e w1 ⟨rfl, hb1⟩
                have d0 : w1.cell? ⟨b, off + m * 2, none⟩ = some (.string pw) := HPrev.out w1 hb1
                have HBw := hide hb1
                clear c0 c1
                obtain ⟨c0, c1⟩ := HCells.out w1 hb1
                clear hb1
                go_wp2
                go_quiet (fail)
                obtain ⟨w2, hw2⟩ : ∃ w2, w1.drewN nq = w2 := ⟨_, rfl⟩
                rw [hw2]
                have HBw2 : Hid (Below wr.heap.size wr w2) := by rw [← hw2]; exact below_drewN HBw.out nq
                clear c0 c1 d0 HBw
                obtain ⟨c0, c1⟩ := HCells.out w2 HBw2.out
                clear hw2 nq
                go_wp2
                go_quiet (first | (go_at_call 63; exact Calls.quiet_of_same (HT.out _ ((HV.out.below HW.out.1).below (below_drewN HBw2.out _)))))
                obtain ⟨HB3, HR3⟩ := HNx.out _ (below_drewN HBw2.out nq)
                obtain ⟨x0, x1, z0, z1⟩ := HCl.out _ HR3
                clear HB3 HR3
                go_wp2
                obtain ⟨HB3, HR3⟩ := HNx.out _ (below_drewN HBw2.out nq)
                obtain ⟨e1, e2⟩ := HEnd.out _ _ _ HB3 HR3
                refine faultEnd w.heap.size _ rfl e1 rfl rfl ?_
                exact ⟨by rw [HRes.out]; rfl, e2⟩
              · rw [if_neg hsh] at hbn
                have HBad := hide hbn
                have hd := decide_eq_false hsh
                clear hcell hvr h1 hk0 hbn hlt1 h1p hst hsh
                generalize (l[m]'hml).who = pw at *
                generalize (l[m + 1]'hkl).who = who at *
                generalize (l[m + 1]'hkl).ep = ep at *
                go_wp2_with fail
                refine HO.out.mono ?_
                rintro e w1 ⟨rfl, hb1⟩
                have d0 : w1.cell? ⟨b, off + m * 2, none⟩ = some (.string pw) := HPrev.out w1 hb1
                have HBw := hide hb1
                clear c0 c1
                obtain ⟨c0, c1⟩ := HCells.out w1 hb1
                clear hb1
                go_wp2
                go_quiet (fail)
                obtain ⟨w2, hw2⟩ : ∃ w2, w1.drewN nq = w2 := ⟨_, rfl⟩
                rw [hw2]
                have HBw2 : Hid (Below wr.heap.size wr w2) := by rw [← hw2]; exact below_drewN HBw.out nq
                clear c0 c1 d0 HBw
                obtain ⟨c0, c1⟩ := HCells.out w2 HBw2.out
                clear hw2 nq
                go_wp2
                go_quiet (first | (go_at_call 63; exact Calls.quiet_of_same (HT.out _ ((HV.out.below HW.out.1).below (below_drewN HBw2.out _)))))
                go_wp2
                go_roundw
                case rel =>
                  refine ⟨m + 1 + 1, by omega, by go_num, (show Hid _ from fun j hj => ?_), (show Hid _ from HNx.out _ (below_drewN HBw2.out nq))⟩
                  by_cases e : j = m + 1
                  · rw [e]; exact HBad.out
                  · exact HP.out j (by omega)
                case measure => simp [intOf]; omega
        · -- it is no floor
          have HRes := hide (HBd.out k (by omega) HP.out (by rw [bad_one hkl h1]; exact h1))
          rw [bad_one hkl h1] at HRes
          have hq : ((oneE (l[k]'hkl) : Int) == 0) = false := by rw [beq_eq_false_iff_ne]; omega
          have hq2 : (0 : Int) < (oneE (l[k]'hkl) : Int) := by omega
          clear h1 hcell hvr
          generalize oneE (l[k]'hkl) = c at *
          generalize (l[k]'hkl).who = who at *
          generalize (l[k]'hkl).ep = ep at *
          go_wp2_with fail
          refine HO.out.mono ?_
          rintro e w1 ⟨rfl, hb1⟩
          obtain ⟨HB1, HR1⟩ := HNx.out w1 hb1
          replace HB1 := hide HB1
          replace HR1 := hide HR1
          clear hb1 c0 c1 HCells
          go_wp2
          go_quiet (fail)
          obtain ⟨d0, d1, z0, z1⟩ := HCl.out (w1.drewN nq) HR1.out
          go_wp2
          obtain ⟨e1, e2⟩ := HEnd.out (w1.drewN nq) _ _ (below_drewN HB1.out nq) HR1.out
          refine faultEnd w.heap.size _ rfl e1 rfl rfl ?_
          exact ⟨by rw [HRes.out], e2⟩
      · have hkn : k = n := by omega
        subst hkn
        have hltz : ¬ (k : Int) < (k : Int) := by omega
        have HRes := hide (HG.out HP.out)
        go_wp2_with fail
        refine (HF.out _).mono ?_
        rintro e w1 ⟨rfl, hb⟩
        have HB1 : Hid (Below w.heap.size w w1) := HW.out.1.trans (hb.mono HW.out.1.size)
        have HR1 : Hid (w1.heap[w.heap.size]? = some (.cells #[.int .i64 0, .int .i64 0] 55 (0, 0))) := (hb.block _ (row_lt HW.out.2)).trans HW.out.2
        obtain ⟨c0, c1, z0, z1⟩ := HCl.out w1 HR1.out
        clear hb
        go_wp2
        obtain ⟨e1, e2⟩ := HEnd.out w1 _ _ HB1.out HR1.out
        refine faultEnd w.heap.size _ rfl e1 rfl rfl ?_
        exact ⟨by rw [HRes.out]; rfl, e2⟩
end Go.Proofs.YtgkkffcbneabkabGreatDoor

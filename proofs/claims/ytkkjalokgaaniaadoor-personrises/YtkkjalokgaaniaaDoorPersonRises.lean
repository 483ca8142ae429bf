/-
  PersonRises: with whatever acts, the statement's function answers true: epochs only rise, nobody goes, and with an error nothing changes.
-/
import Derived.Test.YtkkjalokgaaniaaDoorBookLaw
import Derived.Test.YtkkjalokgaaniaaDoorQuietBelow
import Derived.Laws.Cover1
import Derived.Deep.CutBlock
import Derived.Deep.DeepCutAuto
namespace Go.Proofs.YtkkjalokgaaniaaDoor
open Go Go.RowKit Go.Extern.Stop Go.Stop Go.Extern Go.Maps

/-- The acts, each in one form. -/
def ActPost (a : Nat → Addr) (bp mb : Nat) (L : List Per) (w : World) (ev : Value) (w' : World) : Prop := ∃ c L', ev = errV a c ∧ Acted L (c, L') ∧ BookAt w' bp mb L' ∧ w.grownBy w' (some mb)
theorem act_add (a : Nat → Addr) (bp mb : Nat) (L : List Per) (name : ByteArray) (key : Int) (w : World) (h : BookAt w bp mb L) (hE : EV perS a w) (hs : name.size ≤ maxLen) :
    Calls Tryd.prog 22 #[.pointer (some ⟨bp, 0, none⟩), .string name, .int .i64 key] w fun e w' => ∃ ev, e = .returned ev ∧ ActPost a bp mb L w ev w' :=
  (add_any a bp mb L name key w h hE hs).mono fun _ _ ⟨he, h1, h2⟩ => ⟨_, he, _, _, rfl, add_acted h.good name key, h1, h2⟩
theorem act_rekey (a : Nat → Addr) (bp mb : Nat) (L : List Per) (name : ByteArray) (key : Int) (w : World) (h : BookAt w bp mb L) (hE : EV perS a w) (hs : name.size ≤ maxLen) :
    Calls Tryd.prog 23 #[.pointer (some ⟨bp, 0, none⟩), .string name, .int .i64 key] w fun e w' => ∃ ev, e = .returned ev ∧ ActPost a bp mb L w ev w' :=
  (rekey_any a bp mb L name key w h hE hs).mono fun _ _ ⟨he, h1, h2⟩ => ⟨_, he, _, _, rfl, rekey_acted h.good name key, h1, h2⟩
theorem act_off (a : Nat → Addr) (bp mb : Nat) (L : List Per) (name : ByteArray) (off : Bool) (w : World) (h : BookAt w bp mb L) (hE : EV perS a w) (hs : name.size ≤ maxLen) :
    Calls Tryd.prog 25 #[.pointer (some ⟨bp, 0, none⟩), .string name, .bool off] w fun e w' => ∃ ev, e = .returned ev ∧ ActPost a bp mb L w ev w' :=
  (off_any a bp mb L name off w h hE hs).mono fun _ _ ⟨he, h1, h2⟩ => ⟨_, he, _, _, rfl, off_acted h.good name off, h1, h2⟩
theorem act_raise (a : Nat → Addr) (bp mb : Nat) (L : List Per) (name : ByteArray) (w : World) (h : BookAt w bp mb L) (hE : EV perS a w) (hs : name.size ≤ maxLen) :
    Calls Tryd.prog 24 #[.pointer (some ⟨bp, 0, none⟩), .string name] w fun e w' => ∃ n ev, e = .returned (.tuple #[.int .i64 n, ev]) ∧ ActPost a bp mb L w ev w' :=
  (praise_any a bp mb L name w h hE hs).mono fun _ _ ⟨he, h1, h2⟩ => ⟨_, _, he, _, _, rfl, raise_acted h.good name, h1, h2⟩

set_option maxRecDepth 100000 in
set_option maxHeartbeats 4000000 in
theorem personRises_any (a : Nat → Addr) (v : Value) (l : List ActD) (W : World) (hE : EV perS a W) (hA : ActsAt W v l) (hm : l.length ≤ maxLen) (hs : ∀ x ∈ l, x.kind.size ≤ maxLen ∧ x.name.size ≤ maxLen) :
    Calls Tryd.prog 6 #[v] W fun e w' => e = .returned (.bool true) ∧ Below W.heap.size W w' := by
  have HE := hide hE
  have HLong := hide (fun w hb => longActs_any v l w (hA.below hb) hm hs)
  have HPe := hide (peopled_any a W hE)
  have HS := hide hs
  obtain ⟨ad, cap, rfl, hcap, hC⟩ := hA
  have HC := hide hC
  clear hE hs hC
  generalize hl : l.length = n at hcap hm ⊢
  rw [hl] at HLong
  have HL := hide hl
  clear hl
  go_enter Tryd.func6, Tryd.ntmps6
  go_wp2_with fail
  refine HPe.out.mono ?_
  rintro e w1 ⟨rfl, hb⟩
  have HB1 := hide hb
  clear hb
  go_wp2_with fail
  refine (HLong.out w1 HB1.out).mono ?_
  rintro e w2 ⟨⟨b, rfl, hsh⟩, rfl⟩
  have HSh := hide hsh
  clear hsh HLong HPe
  cases b with
  | true =>
    go_wp2
    go_ret
    exact ⟨rfl, HB1.out⟩
  | false =>
    have hn80 : n ≤ 80 := by have := (HSh.out rfl).1; rw [HL.out] at this; exact this
    clear HSh hm
    have HN := hide (new_any w2)
    go_wp2_with fail
    refine HN.out.mono ?_
    rintro e w3 ⟨rfl, hk, hb⟩
    have HB3 : Hid (Below W.heap.size W w3) := HB1.out.trans (hb.mono HB1.out.size)
    have HK3 := hide hk
    have HMb : Hid (W.heap.size ≤ w2.heap.size) := HB1.out.size
    clear hk hb HN
    generalize w2.heap.size = mb at *
    go_wp2
    go_loopg [5] n (fun g s5 wr => ∃ k : Nat, k ≤ n ∧ n - k ≤ g ∧ s5 = .int .i64 k ∧ Hid (Below W.heap.size W wr) ∧ Hid (∃ L, BookAt wr (mb + 1) mb L))
    case atStart => exact ⟨0, Nat.zero_le _, by omega, rfl, HB3.out, ⟨_, HK3.out⟩⟩
    case round =>
      obtain ⟨k, hk, hg, rfl, HB, HK⟩ := hrel
      obtain ⟨L, hbk⟩ := HK.out
      have HBk := hide hbk
      clear HK hbk HB3 HK3
      by_cases hlt : k < n
      · obtain ⟨b, o, rfl, hbw, hcs⟩ := HC.out (by rw [HL.out]; omega)
        obtain ⟨x, hx⟩ : ∃ x, l[k]? = some x := ⟨l[k]'(by rw [HL.out]; exact hlt), List.getElem?_eq_getElem _⟩
        obtain ⟨c0, c1, c2, c3⟩ := hcs k x hx
        have HX := hide (HS.out x (List.mem_of_getElem? hx))
        rw [← HB.out.cell (p := ⟨b, _, none⟩) hbw] at c0 c1 c2 c3
        clear hcs hx
        obtain ⟨kind, name, key, is⟩ := x
        have HA0 : Hid (Below wr.heap.size wr (wr.alloc (.cells #[.string kind, .string name, .int .i64 key, .bool is] 50))) := (Below.refl _ _).alloc (Nat.le_refl _) _
        have HRow : Hid ((wr.alloc (.cells #[.string kind, .string name, .int .i64 key, .bool is] 50)).heap[wr.heap.size]? = some (.cells #[.string kind, .string name, .int .i64 key, .bool is] 50 (0, 0))) := heap_alloc_new _ _
        have HAll := hide (all_any (mb + 1) mb L _ (HBk.out.below HA0.out))
        go_wp2_with fail
        refine HAll.out.mono ?_
        rintro e w4 ⟨v1, rfl, ho1, hb4⟩
        have HB4 : Hid (Below wr.heap.size wr w4) := HA0.out.trans (hb4.mono HA0.out.size)
        have hrow : w4.heap[wr.heap.size]? = some (.cells #[.string kind, .string name, .int .i64 key, .bool is] 50 (0, 0)) := by rw [hb4.block _ (by simp)]; exact HRow.out
        have d0 : w4.cell? ⟨wr.heap.size, 0, none⟩ = some (.string kind) := cell_of_row w4 _ 0 _ _ _ hrow
        have d1 : w4.cell? ⟨wr.heap.size, 1, none⟩ = some (.string name) := cell_of_row w4 _ 1 _ _ _ hrow
        have d2 : w4.cell? ⟨wr.heap.size, 2, none⟩ = some (.int .i64 key) := cell_of_row w4 _ 2 _ _ _ hrow
        have d3 : w4.cell? ⟨wr.heap.size, 3, none⟩ = some (.bool is) := cell_of_row w4 _ 3 _ _ _ hrow
        obtain ⟨ad1, cap1, rfl, hc1⟩ := row_form ho1
        have HO1 := hide ho1
        have HK4 := hide (HBk.out.below HB4.out)
        have HBB4 : Hid (Below W.heap.size W w4) := HB.out.trans (HB4.out.mono HB.out.size)
        clear hb4 hrow ho1 c0 c1 c2 c3 HAll HRow HA0
        go_upto_block 2 with fail
        go_cut [8] from 25 to 155 (fun s8 wc => Hid (ActPost a (mb + 1) mb L w4 s8 wc))
        case first =>
          have HEv := hide (HE.out.below HBB4.out)
          have h20 := hide (act_add a (mb + 1) mb L name key w4 HK4.out HEv.out HX.out.2)
          have h21 := hide (act_rekey a (mb + 1) mb L name key w4 HK4.out HEv.out HX.out.2)
          have h22 := hide (act_raise a (mb + 1) mb L name w4 HK4.out HEv.out HX.out.2)
          have h23 := hide (act_off a (mb + 1) mb L name is w4 HK4.out HEv.out HX.out.2)
          go_wp2_with (first
            | (go_at_call 22; refine h20.out.mono ?_; rintro e w5 ⟨ev, rfl, hpost⟩; have HPost := hide hpost; clear hpost)
            | (go_at_call 23; refine h21.out.mono ?_; rintro e w5 ⟨ev, rfl, hpost⟩; have HPost := hide hpost; clear hpost)
            | (go_at_call 24; refine h22.out.mono ?_; rintro e w5 ⟨nn, ev, rfl, hpost⟩; have HPost := hide hpost; clear hpost)
            | (go_at_call 25; refine h23.out.mono ?_; rintro e w5 ⟨ev, rfl, hpost⟩; have HPost := hide hpost; clear hpost))
          all_goals
            go_meet
            case rel => exact HPost
        case rest =>
          obtain ⟨c, L', rfl, hact, hbk, hgr⟩ := hcut.out
          have HAct := hide hact
          have HBB5 : Hid (Below W.heap.size W wc) := HBB4.out.grown hgr HBB4.out.size (fun j hj => by cases hj; exact HMb.out)
          have HO5 : Hid (wc.ownsRow (mb + 1) 58 4 (.slice ad1 L.length cap1) L.length (cellsP L)) := by
            have hlt1 := HBk.out.own.lt
            refine ownsRow_base_a (HO1.out.kept hgr ?_) (by simp; omega)
            refine Or.inr fun e => ?_
            have := (HO1.out.lt mb e).1
            simp at this
            omega
          have HAll := hide (all_any (mb + 1) mb L' wc hbk)
          have HBk5 := hide hbk
          clear hact hbk hgr hcut d0 d1 d2 d3 HO1 HK4
          go_wp2_with fail
          refine HAll.out.mono ?_
          rintro e w6 ⟨v2, rfl, ho2, hb6⟩
          have HBB6 : Hid (Below W.heap.size W w6) := HBB5.out.trans (hb6.mono HBB5.out.size)
          have HBk6 := hide (HBk5.out.below hb6)
          have HO6 : Hid (w6.ownsRow (mb + 1) 58 4 (.slice ad1 L.length cap1) L.length (cellsP L)) := HO5.out.kept (grown_of_below hb6 none) (Classical.em _)
          obtain ⟨ad2, cap2, rfl, hc2⟩ := row_form ho2
          have HO2 := hide ho2
          have HFew : Hid (L.length ≤ 20 ∧ L'.length ≤ 20) := ⟨HBk.out.good.few, HBk6.out.good.few⟩
          clear ho2 hb6 HAll HO5 HBk5 HBB5
          by_cases hc0 : c = 0
          · subst hc0
            rw [errV_zero]
            have HRis := hide HAct.out.risen
            clear HAct
            have HC1 := hide (fun h => prow_cells HO6.out h)
            have HC2 := hide (fun h => prow_cells HO2.out h)
            obtain ⟨hf1, hf2⟩ := HFew.out
            clear HO6 HO2 HFew
            generalize hl1 : L.length = m1 at hf1 hc1 ⊢
            generalize hl2 : L'.length = m2 at hf2 hc2 ⊢
            have HL1 := hide hl1
            have HL2 := hide hl2
            clear hl1 hl2
            go_wp2
            go_loopg [10] m1 (fun g s10 wi => ∃ j : Nat, j ≤ m1 ∧ m1 - j ≤ g ∧ s10 = .int .i64 j ∧ Hid (Below w6.heap.size w6 wi))
            case atStart => exact ⟨0, Nat.zero_le _, by omega, rfl, Below.refl _ _⟩
            case round =>
              obtain ⟨j, hj, hgj, rfl, HBi⟩ := hrel
              by_cases hjl : j < m1
              · obtain ⟨g1, rfl, _, hcs⟩ := HC1.out (by rw [HL1.out]; omega)
                obtain ⟨q, hq⟩ : ∃ q, L[j]? = some q := ⟨L[j]'(by rw [HL1.out]; exact hjl), List.getElem?_eq_getElem _⟩
                obtain ⟨x0, x1, x2, x3⟩ := hcs j q hq
                obtain ⟨p, hgp, hpe, hpk⟩ := HRis.out q (List.mem_of_getElem? hq)
                have hqs := small_name (HBk.out.good.fine q (List.mem_of_getElem? hq))
                have HG1 : Hid (g1 < w6.heap.size) := cell_lt x0
                rw [← HBi.out.cell (p := ⟨g1, _, none⟩) HG1.out] at x0 x1 x2 x3
                have HGet := hide (get_yes (mb + 1) mb L' q.name wr (HBk6.out.below HBi.out) hqs p hgp)
                clear hcs hq hgp hqs
                go_wp2_with fail
                refine HGet.out.mono ?_
                rintro e w8 ⟨rfl, hb8⟩
                have HB8 : Hid (Below w6.heap.size w6 (w8.alloc (.cells #[.string p.name, .int .i64 p.key, .int .i64 p.epoch, .bool p.off] 58))) := (HBi.out.trans (hb8.mono HBi.out.size)).trans (((Below.refl w8.heap.size w8).alloc (Nat.le_refl _) _).mono (Nat.le_trans HBi.out.size hb8.size))
                have hrow1 : ∀ i, (⟨g1, i, none⟩ : Addr).block < w8.heap.size := fun i => Nat.lt_of_lt_of_le (Nat.lt_of_lt_of_le HG1.out HBi.out.size) hb8.size
                have hx : ∀ i u, wr.cell? ⟨g1, i, none⟩ = some u → ∀ o, (w8.alloc o).cell? ⟨g1, i, none⟩ = some u := fun i u hu o => by
                  rw [((Below.refl w8.heap.size w8).alloc (Nat.le_refl _) o).cell (p := ⟨g1, i, none⟩) (hrow1 i), hb8.cell (p := ⟨g1, i, none⟩) (Nat.lt_of_lt_of_le HG1.out HBi.out.size)]
                  exact hu
                have y1 := hx _ _ x1
                have y2 := hx _ _ x2
                have he1 : decide (p.epoch < q.epoch) = false := decide_eq_false (by omega)
                clear hb8 hrow1 hx x0 x1 x2 x3 HGet
                by_cases hkk : p.key = q.key
                · have hk1 : (p.key == q.key) = true := by simpa using hkk
                  have hk2 : (p.key != q.key) = false := by simpa using hkk
                  clear hkk hpk hpe
                  go_wp2_with fail
                  go_quiet (fail)
                  go_wp2
                  go_roundg (m1 - (j + 1))
                  case measure => omega
                  case rel => exact ⟨j + 1, by omega, Nat.le_refl _, by go_num, below_drewN HB8.out _⟩
                · have hk1 : (p.key == q.key) = false := by simpa using hkk
                  have hk2 : (p.key != q.key) = true := by simpa using hkk
                  have hee : p.epoch ≠ q.epoch := by
                    rcases hpk with g | g
                    · exact absurd g hkk
                    · exact g
                  have hk3 : (p.epoch == q.epoch) = false := by simpa using hee
                  clear hkk hpk hpe hee
                  go_wp2_with fail
                  go_quiet (fail)
                  go_wp2
                  go_roundg (m1 - (j + 1))
                  case measure => omega
                  case rel => exact ⟨j + 1, by omega, Nat.le_refl _, by go_num, below_drewN HB8.out _⟩
              · clear HC1 HRis HL1
                go_wp2
                clear HBk
                go_loopg [13] m2 (fun g s13 wj => ∃ j : Nat, j ≤ m2 ∧ m2 - j ≤ g ∧ s13 = .int .i64 j ∧ Hid (Below w6.heap.size w6 wj))
                case atStart => exact ⟨0, Nat.zero_le _, by omega, rfl, HBi.out⟩
                case round =>
                  clear HBi hj hgj hjl
                  obtain ⟨j, hj, hgj, rfl, HBi⟩ := hrel
                  by_cases hjl : j < m2
                  · obtain ⟨g2, rfl, _, hcs⟩ := HC2.out (by rw [HL2.out]; omega)
                    obtain ⟨q, hq⟩ : ∃ q, L'[j]? = some q := ⟨L'[j]'(by rw [HL2.out]; exact hjl), List.getElem?_eq_getElem _⟩
                    obtain ⟨x0, x1, x2, x3⟩ := hcs j q hq
                    have HG2 : Hid (g2 < w6.heap.size) := cell_lt x0
                    rw [← HBi.out.cell (p := ⟨g2, _, none⟩) HG2.out] at x0 x1 x2 x3
                    have hqe := HBk6.out.good.fine q (List.mem_of_getElem? hq)
                    have HChk : Hid (∀ w, EV perS a w → Calls Tryd.prog 28 #[.agg #[.string q.name, .int .i64 q.key, .int .i64 q.epoch, .bool q.off]] w fun e w' => e = .returned .nilIface ∧ Below w.heap.size w w') := fun w hE => by
                      have := pcheck_any a q w hE (small_name hqe)
                      rw [hqe] at this
                      exact this
                    have HEv : Hid (EV perS a wr) := HE.out.below (HBB6.out.trans (HBi.out.mono HBB6.out.size))
                    have HCalls : Hid (∀ p : BelowAt wr, Calls Tryd.prog 28 #[.agg #[.string q.name, .int .i64 q.key, .int .i64 q.epoch, .bool q.off]] p.to fun e w'' => e = .returned .nilIface ∧ ∃ q : BelowAt wr, w'' = q.to) := fun p => BelowAt.calls (HChk.out _ (HEv.out.below p.below))
                    have hgl : g2 < wr.heap.size := Nat.lt_of_lt_of_le HG2.out HBi.out.size
                    have z0 := fun p : BelowAt wr => p.cell x0 hgl
                    have z1 := fun p : BelowAt wr => p.cell x1 hgl
                    have z2 := fun p : BelowAt wr => p.cell x2 hgl
                    have z3 := fun p : BelowAt wr => p.cell x3 hgl
                    have hjz : (j : Int) < (m2 : Int) := by omega
                    have any1 : Nonempty (BelowAt wr) := BelowAt.any wr
                    clear x0 x1 x2 x3 HChk HEv hqe
                    by_cases hj0 : j = 0
                    · have hgd : decide (0 < j) = false := decide_eq_false (by omega)
                      clear hcs hq hj0
                      go_wp2_with fail
                      refine wp_region_below (by kernel_rfl) (by kernel_rfl) ?_
                      repeat (go_big_quiet_step (exact HCalls.out _))
                      refine wpQuiet_nil ?_
                      intro _ hw'
                      obtain ⟨pq, hw''⟩ := hw'
                      subst hw''
                      have HBq : Hid (Below w6.heap.size w6 pq.to) := HBi.out.trans (pq.below.mono HBi.out.size)
                      go_wp2
                      go_roundg (m2 - (j + 1))
                      case measure => omega
                      case rel => exact ⟨j + 1, by omega, Nat.le_refl _, by go_num, HBq⟩
                    · have hgd : 0 < j := by omega
                      obtain ⟨i, hi⟩ : ∃ i, j = i + 1 := ⟨j - 1, by omega⟩
                      have hij : (j : Int) - 1 = (i : Int) := by omega
                      have hiz : (i : Int) < (m2 : Int) := by omega
                      obtain ⟨q', hq'⟩ : ∃ q, L'[i]? = some q := ⟨L'[i]'(by rw [HL2.out]; omega), List.getElem?_eq_getElem _⟩
                      have y0 := (hcs i q' hq').1
                      rw [← HBi.out.cell (p := ⟨g2, _, none⟩) HG2.out] at y0
                      have t0 := fun p : BelowAt wr => p.cell y0 hgl
                      have hrise := HBk6.out.good.rise
                      have hnm : q'.nm < q.nm := by
                        obtain ⟨h1, rfl⟩ := List.getElem?_eq_some_iff.1 hq
                        obtain ⟨h2, rfl⟩ := List.getElem?_eq_some_iff.1 hq'
                        exact List.pairwise_iff_getElem.1 hrise i j h2 h1 (by omega)
                      have hl1 : Op.bytesLess q.name.toList q'.name.toList = false := by
                        rw [bytesLess_eq, Lib.toList_data, Lib.toList_data]
                        exact decide_eq_false fun e => List.lt_irrefl _ (List.lt_trans e hnm)
                      have hl2 : (q.name.toList == q'.name.toList) = false := by
                        rw [Lib.toList_data, Lib.toList_data]
                        exact beq_eq_false_iff_ne.2 fun e => by
                          unfold Per.nm at hnm
                          rw [e] at hnm
                          exact List.lt_irrefl _ hnm
                      clear hcs hq hq' hj0 hi hrise hnm y0
                      go_wp2_with fail
                      refine wp_region_below (by kernel_rfl) (by kernel_rfl) ?_
                      repeat (go_big_quiet_step (exact HCalls.out _))
                      refine wpQuiet_nil ?_
                      intro _ hw'
                      obtain ⟨pq, hw''⟩ := hw'
                      subst hw''
                      have HBq : Hid (Below w6.heap.size w6 pq.to) := HBi.out.trans (pq.below.mono HBi.out.size)
                      go_wp2
                      go_roundg (m2 - (j + 1))
                      case measure => omega
                      case rel => exact ⟨j + 1, by omega, Nat.le_refl _, by go_num, HBq⟩
                  · clear HC2 HL2
                    have HBBj : Hid (Below W.heap.size W wr) := HBB6.out.trans (HBi.out.mono HBB6.out.size)
                    have HBkj : Hid (∃ L, BookAt wr (mb + 1) mb L) := ⟨_, HBk6.out.below HBi.out⟩
                    go_wp2
                    go_roundg (n - (k + 1))
                    case measure => omega
                    case rel => exact ⟨k + 1, by omega, Nat.le_refl _, by go_num, HBBj, HBkj⟩
          · rw [errV_pos a hc0]
            have hLL : L' = L := HAct.out.same hc0
            subst hLL
            have HSame := hide (samePeople_eq _ _ _ _ L' w6 HO6.out HO2.out (by have := HFew.out.1; omega))
            clear HAct hc0
            generalize L'.length = m at *
            go_wp2_with fail
            refine HSame.out.mono ?_
            rintro e w7 ⟨rfl, hb7⟩
            have HBB7 : Hid (Below W.heap.size W w7) := HBB6.out.trans (hb7.mono HBB6.out.size)
            have HBk7 : Hid (∃ L, BookAt w7 (mb + 1) mb L) := ⟨_, HBk6.out.below hb7⟩
            clear hb7 HSame
            go_wp2
            go_roundg (n - (k + 1))
            case measure => omega
            case rel => exact ⟨k + 1, by omega, Nat.le_refl _, by go_num, HBB7, HBk7⟩
      · have HAll := hide (all_any (mb + 1) mb L wr HBk.out)
        have hfew := HBk.out.good.few
        clear HBk
        go_wp2_with fail
        refine HAll.out.mono ?_
        rintro e w4 ⟨v1, rfl, ho1, hb4⟩
        obtain ⟨ad1, cap1, rfl, hc1⟩ := row_form ho1
        have HBB : Hid (Below W.heap.size W w4) := HB.out.trans (hb4.mono HB.out.size)
        clear ho1 hb4 HAll
        generalize L.length = m at *
        go_wp2
        go_ret
        exact ⟨by simp; omega, HBB.out⟩
end Go.Proofs.YtkkjalokgaaniaaDoor

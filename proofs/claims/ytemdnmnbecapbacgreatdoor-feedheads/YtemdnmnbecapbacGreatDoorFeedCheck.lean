/-
  What package feed's Check answers, for every list: the number of the first error, and its place.
-/
import Derived.Test.YtemdnmnbecapbacGreatDoorFeedDo
namespace Go.Proofs.YtemdnmnbecapbacGreatDoor
open Go.RowKit Go.Extern.Stop Go.Stop Go.Extern Go.Proofs

set_option maxRecDepth 100000 in
set_option maxHeartbeats 4000000 in
theorem fdCheck_any (a : Nat → Addr) (v : Value) (l : List En) (w : World) (h : EV fdS a w) (hv : EnAt w v l) (hs : ∀ e ∈ l, e.fl.who.size ≤ maxLen) (hl : l.length ≤ 1000000) :
    Calls Tryz.prog 7 #[v] w fun e w' => ∃ ev, e = .returned ev ∧ FlErr a w' (feedC l) ev ∧ Below w.heap.size w w' := by
  by_cases h60 : 60 < l.length
  · obtain ⟨ad, cap, rfl, hc⟩ := hv.form
    rw [feed_full h60]
    have hvv : w.cell? ⟨0, 0, none⟩ = some (eV (a 6)) := h.var 6 (by decide) rfl
    clear h hv hs
    generalize l.length = n at *
    have hz : (60 : Int) < (n : Int) := by omega
    go_enter Tryz.func7, Tryz.ntmps7
    go_wp2
    go_ret
    exact ⟨_, rfl, Or.inr (Or.inl ⟨by decide, rfl, rfl⟩), Below.refl _ _⟩
  · obtain ⟨ad, cap, rfl, hc⟩ := hv.form
    have HV := hide hv
    have HE := hide h
    have HS := hide hs
    have HL := hide h60
    generalize hn : l.length = n at *
    have HN := hide hn
    have hz : ¬ (60 : Int) < (n : Int) := by omega
    clear h hv hs hn
    go_enter Tryz.func7, Tryz.ntmps7
    go_wp2
    go_loopg [3, 4, 5, 12] n (fun gg _ _ _ s12 wr => ∃ k : Nat, k ≤ n ∧ n - k ≤ gg ∧ s12 = .int .i64 k ∧ Hid (Below w.heap.size w wr) ∧ Hid (∀ j, j < k → badE l j = 0))
    case atStart => exact ⟨0, Nat.zero_le _, by omega, rfl, Below.refl _ _, fun j hj => absurd hj (Nat.not_lt_zero _)⟩
    case round =>
      obtain ⟨k, hk, hg, rfl, HB, A⟩ := hrel
      by_cases hlt : k < n
      · have hltz : (k : Int) < (n : Int) := by omega
        have hkl : k < l.length := by rw [HN.out]; exact hlt
        have hvr := HV.out.below HB.out
        rw [← HN.out] at hvr
        obtain ⟨b, off, cap', e, hc', hb, hcl, hcell⟩ := hvr.at (by omega)
        injection e with e1 e2 e3
        subst e1; subst e3
        obtain ⟨c0, c1, c2, c3⟩ := hcell k hkl
        obtain ⟨f, hf⟩ : ∃ f, f = l[k] := ⟨_, rfl⟩
        have hbad : badE l k = entE (l.take k).length (newL (l.take k)) f := by rw [bad_at hkl, hf, List.length_take, Nat.min_eq_left (Nat.le_of_lt hkl)]
        have hfs : f.fl.who.size ≤ maxLen := HS.out f (by rw [hf]; exact List.getElem_mem _)
        rw [← hf] at c0 c1 c2 c3
        have HT : Hid (EnAt wr (.slice (some ⟨b, off, none⟩) k cap) (l.take k)) := EnAt.take hc' hcl k (by omega)
        have HCk := hide (fun w h hv => fdBehind_any a (.slice (some ⟨b, off, none⟩) k cap) (l.take k) f w h hfs hv (by rw [List.length_take]; omega))
        rw [← hbad] at HCk
        have HEr := hide (HE.out.below HB.out)
        have HA : Hid (Below wr.heap.size wr (wr.alloc (.cells #[.int .i64 f.seq, .int .i64 f.time, .string f.fl.who, .int .i64 f.fl.ep] 64))) := (Below.refl _ _).alloc (Nat.le_refl _) _
        have HR : Hid ((wr.alloc (.cells #[.int .i64 f.seq, .int .i64 f.time, .string f.fl.who, .int .i64 f.fl.ep] 64)).heap[wr.heap.size]? = some (.cells #[.int .i64 f.seq, .int .i64 f.time, .string f.fl.who, .int .i64 f.fl.ep] 64 (0, 0))) := heap_alloc_new _ _
        have HCa : Hid (∀ p : BelowAt (wr.alloc (.cells #[.int .i64 f.seq, .int .i64 f.time, .string f.fl.who, .int .i64 f.fl.ep] 64)), Calls Tryz.prog 26 #[.slice (some ⟨b, off, none⟩) k cap, .agg #[.int .i64 f.seq, .int .i64 f.time, .string f.fl.who, .int .i64 f.fl.ep]] p.to fun e w'' => e = .returned (errV a (badE l k)) ∧ ∃ q : BelowAt (wr.alloc (.cells #[.int .i64 f.seq, .int .i64 f.time, .string f.fl.who, .int .i64 f.fl.ep] 64)), w'' = q.to) :=
          fun p => BelowAt.calls (HCk.out p.to ((HEr.out.below HA.out).below p.below) ((HT.out.below HA.out).below p.below))
        clear hcell hcl hvr hf hbad hfs HT HCk HEr hb
        generalize f.seq = sq at *
        generalize f.time = tm at *
        generalize f.fl.who = who at *
        generalize f.fl.ep = ep at *
        clear f
        have hco : k ≤ cap := by omega
        go_wp2_with fail
        generalize hw2 : wr.alloc (.cells #[.int .i64 sq, .int .i64 tm, .string who, .int .i64 ep] 64) = w2 at *
        obtain ⟨hd0, hd1, hd2, hd3⟩ := en_row HR.out
        have hgl : wr.heap.size < w2.heap.size := row_lt HR.out
        have z0 := fun p : BelowAt w2 => p.cell hd0 hgl
        have z1 := fun p : BelowAt w2 => p.cell hd1 hgl
        have z2 := fun p : BelowAt w2 => p.cell hd2 hgl
        have z3 := fun p : BelowAt w2 => p.cell hd3 hgl
        have any1 : Nonempty (BelowAt w2) := BelowAt.any w2
        have HB2 : Hid (Below w.heap.size w w2) := HB.out.trans (HA.out.mono HB.out.size)
        clear c0 c1 c2 c3 hd0 hd1 hd2 hd3
        by_cases hb0 : badE l k = 0
        · rw [hb0, errV_zero] at HCa
          refine wp_region_below (by kernel_rfl) (by kernel_rfl) ?_
          repeat (go_big_quiet_step (exact HCa.out _))
          refine wpQuiet_nil ?_
          intro _ hw'
          obtain ⟨pq, hw''⟩ := hw'
          subst hw''
          have HB3 : Hid (Below w.heap.size w pq.to) := HB2.out.trans (pq.below.mono HB2.out.size)
          clear z0 z1 z2 z3 HCa HA HR
          go_wp2
          go_roundg (n - (k + 1))
          case measure => omega
          case rel =>
            refine ⟨k + 1, by omega, by omega, by go_num, HB3, (show Hid _ from fun j hj => ?_)⟩
            by_cases e : j = k
            · subst e; exact hb0
            · exact A.out j (by omega)
        · rw [errV_pos a hb0] at HCa
          have HK := hide (feed_bad (l := l) (by rw [HN.out]; exact HL.out) hkl A.out hb0)
          have HBa := hide hb0
          generalize badE l k = c at *
          refine wp_region_below (by kernel_rfl) (by kernel_rfl) ?_
          repeat (go_big_quiet_step (exact HCa.out _))
          refine wpQuiet_nil ?_
          intro _ hw'
          obtain ⟨pq, hw''⟩ := hw'
          subst hw''
          have HB3 : Hid (Below w.heap.size w pq.to) := HB2.out.trans (pq.below.mono HB2.out.size)
          clear z0 z1 z2 z3 HCa HA HR hb0
          generalize hea : a (c - 1) = ea at *
          have HEa := hide hea
          clear hea
          go_wp2
          go_ret
          exact ⟨_, rfl, by rw [HK.out]; exact Or.inr (Or.inr ⟨HBa.out, _, rfl, by rw [HEa.out]; exact heap_alloc_new _ _⟩), HB3.out.alloc HB3.out.size _⟩
      · have : k = n := by omega
        subst this
        have HK := hide (feed_good (l := l) (by rw [HN.out]; exact HL.out) (by rw [HN.out]; exact A.out))
        have hltz : ¬ (k : Int) < (k : Int) := by omega
        go_wp2
        go_ret
        exact ⟨_, rfl, by rw [HK.out]; exact Or.inl ⟨rfl, rfl⟩, HB.out⟩
end Go.Proofs.YtemdnmnbecapbacGreatDoor

/-
  What package floor's Check and checked answer, for every list: the number of the first error, and its place.
-/
import Derived.Test.YteabincmopeljaeGreatDoorFloorDo
namespace Go.Proofs.YteabincmopeljaeGreatDoor
open Go.RowKit Go.Extern.Stop Go.Stop Go.Extern

/-- An error by its number and place: none, a plain one, or one with a place. -/
def FlErr (a : Nat → Addr) (w : World) (c : Nat × Int) (ev : Value) : Prop :=
  (c.1 = 0 ∧ ev = .nilIface) ∨ (c.1 ≠ 0 ∧ c.2 = -1 ∧ ev = eV (a (c.1 - 1))) ∨ (c.1 ≠ 0 ∧ ∃ b, ev = fV b 0 ∧ w.heap[b]? = some (.cells #[.int .i64 c.2, eV (a (c.1 - 1))] 90 (0, 0)))
theorem FlErr.below {a : Nat → Addr} {w w' : World} {c : Nat × Int} {ev : Value} (h : FlErr a w c ev) (hb : Below w.heap.size w w') : FlErr a w' c ev := by
  rcases h with h | h | ⟨h1, b, h2, h3⟩
  · exact Or.inl h
  · exact Or.inr (Or.inl h)
  · exact Or.inr (Or.inr ⟨h1, b, h2, by rw [hb.block b (row_lt h3)]; exact h3⟩)
theorem FlErr.cases {a : Nat → Addr} {w : World} {c : Nat × Int} {ev : Value} (h : FlErr a w c ev) : (c.1 = 0 ∧ ev = .nilIface) ∨ (c.1 ≠ 0 ∧ ∃ t p, ev = .iface t p) := by
  rcases h with h | ⟨h1, h2, h3⟩ | ⟨h1, b, h2, h3⟩
  · exact Or.inl h
  · exact Or.inr ⟨h1, _, _, h3⟩
  · exact Or.inr ⟨h1, _, _, h2⟩
theorem FlErr.none {a : Nat → Addr} {w : World} {c : Nat × Int} {ev : Value} (h : FlErr a w c ev) (hc : c.1 = 0) : ev = .nilIface := by
  rcases h.cases with ⟨_, e⟩ | ⟨e, _⟩
  · exact e
  · exact absurd hc e

set_option maxRecDepth 100000 in
set_option maxHeartbeats 4000000 in
theorem check_any (a : Nat → Addr) (v : Value) (l : List Fl) (w : World) (h : EV flS a w) (hv : FlAt w v l) (hs : ∀ f ∈ l, f.who.size ≤ maxLen) (hl : l.length ≤ 1000000) :
    Calls Tryz.prog 27 #[v] w fun e w' => ∃ ev, e = .returned ev ∧ FlErr a w' (checkL l) ev ∧ Below w.heap.size w w' := by
  by_cases h21 : 21 < l.length
  · obtain ⟨ad, cap, rfl, hc⟩ := hv.form
    rw [check_full h21]
    have hvv : w.cell? ⟨0, 0, none⟩ = some (eV (a 6)) := h.var 6 (by decide) rfl
    clear h hv hs
    generalize l.length = n at *
    have hz : (21 : Int) < (n : Int) := by omega
    go_enter Tryz.func27, Tryz.ntmps27
    go_wp2
    go_ret
    exact ⟨_, rfl, Or.inr (Or.inl ⟨by decide, rfl, rfl⟩), Below.refl _ _⟩
  · obtain ⟨ad, cap, rfl, hc⟩ := hv.form
    have HV := hide hv
    have HE := hide h
    have HS := hide hs
    have HL := hide h21
    generalize hn : l.length = n at *
    have HN := hide hn
    have hz : ¬ (21 : Int) < (n : Int) := by omega
    clear h hv hs hn
    go_enter Tryz.func27, Tryz.ntmps27
    go_wp2
    go_loopg [3, 4, 5, 12] n (fun gg _ _ _ s12 wr => ∃ k : Nat, k ≤ n ∧ n - k ≤ gg ∧ s12 = .int .i64 k ∧ Hid (Below w.heap.size w wr) ∧ Hid (∀ j, j < k → badAt l j = 0))
    case atStart => exact ⟨0, Nat.zero_le _, by omega, rfl, Below.refl _ _, fun j hj => absurd hj (Nat.not_lt_zero _)⟩
    case round =>
      obtain ⟨k, hk, hg, rfl, HB, A⟩ := hrel
      by_cases hlt : k < n
      · have hltz : (k : Int) < (n : Int) := by omega
        have hkl : k < l.length := by rw [HN.out]; exact hlt
        have hvr := HV.out.below HB.out
        rw [← HN.out] at hvr
        obtain ⟨b, off, cap', e, hc', hb, hcell⟩ := hvr.at (by omega)
        injection e with e1 e2 e3
        subst e1; subst e3
        have hcl : ∀ j u, (cellsF l)[j]? = some u → wr.cell? ⟨b, off + j, none⟩ = some u := by
          rcases hvr with ⟨_, _, _, e⟩ | ⟨b', off', cap', e, _, h3⟩
          · rw [e] at hkl; simp at hkl
          · injection e with e1 e2 e3
            injection e1 with e1
            injection e1 with e1 e4
            subst e1; subst e4
            exact h3
        obtain ⟨c0, c1⟩ := hcell k hkl
        obtain ⟨f, hf⟩ : ∃ f, f = l[k] := ⟨_, rfl⟩
        have hbad : badAt l k = behindE (l.take k) f := by unfold badAt; rw [List.getElem?_eq_getElem hkl, hf]
        have hfs : f.who.size ≤ maxLen := HS.out f (by rw [hf]; exact List.getElem_mem _)
        rw [← hf] at c0 c1
        have HT : Hid (FlAt wr (.slice (some ⟨b, off, none⟩) k cap) (l.take k)) := FlAt.take hc' hcl k (by omega)
        have HCk := hide (fun w h hv => checkBehind_any a (.slice (some ⟨b, off, none⟩) k cap) (l.take k) f w h hfs hv (by rw [List.length_take]; omega))
        rw [← hbad] at HCk
        have HEr := hide (HE.out.below HB.out)
        have HA : Hid (Below wr.heap.size wr (wr.alloc (.cells #[.string f.who, .int .i64 f.ep] 61))) := (Below.refl _ _).alloc (Nat.le_refl _) _
        have HR : Hid ((wr.alloc (.cells #[.string f.who, .int .i64 f.ep] 61)).heap[wr.heap.size]? = some (.cells #[.string f.who, .int .i64 f.ep] 61 (0, 0))) := heap_alloc_new _ _
        have HCa : Hid (∀ p : BelowAt (wr.alloc (.cells #[.string f.who, .int .i64 f.ep] 61)), Calls Tryz.prog 42 #[.slice (some ⟨b, off, none⟩) k cap, .agg #[.string f.who, .int .i64 f.ep]] p.to fun e w'' => e = .returned (errV a (badAt l k)) ∧ ∃ q : BelowAt (wr.alloc (.cells #[.string f.who, .int .i64 f.ep] 61)), w'' = q.to) :=
          fun p => BelowAt.calls (HCk.out p.to ((HEr.out.below HA.out).below p.below) ((HT.out.below HA.out).below p.below))
        clear hcell hcl hvr hf hbad hfs HT HCk HEr hb
        generalize f.who = who at *
        generalize f.ep = ep at *
        clear f
        have hco : k ≤ cap := by omega
        go_wp2_with fail
        generalize hw2 : wr.alloc (.cells #[.string who, .int .i64 ep] 61) = w2 at *
        have hd0 : w2.cell? ⟨wr.heap.size, 0, none⟩ = some (.string who) := cell_of_row w2 _ 0 _ _ _ HR.out
        have hd1 : w2.cell? ⟨wr.heap.size, 1, none⟩ = some (.int .i64 ep) := cell_of_row w2 _ 1 _ _ _ HR.out
        have hgl : wr.heap.size < w2.heap.size := row_lt HR.out
        have z0 := fun p : BelowAt w2 => p.cell hd0 hgl
        have z1 := fun p : BelowAt w2 => p.cell hd1 hgl
        have any1 : Nonempty (BelowAt w2) := BelowAt.any w2
        have HB2 : Hid (Below w.heap.size w w2) := HB.out.trans (HA.out.mono HB.out.size)
        clear c0 c1 hd0 hd1
        by_cases hb0 : badAt l k = 0
        · rw [hb0, errV_zero] at HCa
          refine wp_region_below (by kernel_rfl) (by kernel_rfl) ?_
          repeat (go_big_quiet_step (exact HCa.out _))
          refine wpQuiet_nil ?_
          intro _ hw'
          obtain ⟨pq, hw''⟩ := hw'
          subst hw''
          have HB3 : Hid (Below w.heap.size w pq.to) := HB2.out.trans (pq.below.mono HB2.out.size)
          clear z0 z1 HCa HA HR
          go_wp2
          go_roundg (n - (k + 1))
          case measure => omega
          case rel =>
            refine ⟨k + 1, by omega, by omega, by go_num, HB3, (show Hid _ from fun j hj => ?_)⟩
            by_cases e : j = k
            · subst e; exact hb0
            · exact A.out j (by omega)
        · rw [errV_pos a hb0] at HCa
          have HK := hide (check_bad (l := l) (by rw [HN.out]; exact HL.out) hkl A.out hb0)
          have HBa := hide hb0
          generalize badAt l k = c at *
          refine wp_region_below (by kernel_rfl) (by kernel_rfl) ?_
          repeat (go_big_quiet_step (exact HCa.out _))
          refine wpQuiet_nil ?_
          intro _ hw'
          obtain ⟨pq, hw''⟩ := hw'
          subst hw''
          have HB3 : Hid (Below w.heap.size w pq.to) := HB2.out.trans (pq.below.mono HB2.out.size)
          clear z0 z1 HCa HA HR hb0
          generalize hea : a (c - 1) = ea at *
          have HEa := hide hea
          clear hea
          go_wp2
          go_ret
          exact ⟨_, rfl, by rw [HK.out]; exact Or.inr (Or.inr ⟨HBa.out, _, rfl, by rw [HEa.out]; exact heap_alloc_new _ _⟩), HB3.out.alloc HB3.out.size _⟩
      · have : k = n := by omega
        subst this
        have HK := hide (check_good (l := l) (by rw [HN.out]; exact HL.out) (by rw [HN.out]; exact A.out))
        have hltz : ¬ (k : Int) < (k : Int) := by omega
        go_wp2
        go_ret
        exact ⟨_, rfl, by rw [HK.out]; exact Or.inl ⟨rfl, rfl⟩, HB.out⟩
end Go.Proofs.YteabincmopeljaeGreatDoor

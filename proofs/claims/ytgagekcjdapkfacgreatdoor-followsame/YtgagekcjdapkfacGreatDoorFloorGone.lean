/-
  What goes where a floor is raised: the closure of package floor's raised, and the library's IndexFunc with it.
-/
import Derived.Test.YtgagekcjdapkfacGreatDoorFloorFind
namespace Go.Proofs.YtgagekcjdapkfacGreatDoor
open Go.RowKit Go.Extern.Stop Go.Stop Go.Extern Go.Proofs

/-- A floor's block. -/
abbrev flO (f : Fl) : Obj := .cells #[.string f.who, .int .i64 f.ep] 24 (0, 0)

set_option maxRecDepth 100000 in
set_option maxHeartbeats 1000000 in
theorem raised1_any (fb : Nat) (f o : Fl) (W : World) (h : W.heap[fb]? = some (flO f)) :
    Calls Tryz.prog 116 #[.agg #[.string o.who, .int .i64 o.ep], .pointer (some ⟨fb, 0, none⟩)] W fun e w' => e = .returned (.bool (goesF f o)) ∧ Below W.heap.size W w' := by
  have hlt := row_lt h
  have h2 : (W.alloc (.cells #[.string o.who, .int .i64 o.ep] 24)).heap[fb]? = some (flO f) := by rw [Below.heap_alloc _ _ _ hlt]; exact h
  have c0 : (W.alloc (.cells #[.string o.who, .int .i64 o.ep] 24)).cell? ⟨fb, 0, none⟩ = some (.string f.who) := cell_of_row _ _ 0 _ _ _ h2
  have c1 : (W.alloc (.cells #[.string o.who, .int .i64 o.ep] 24)).cell? ⟨fb, 1, none⟩ = some (.int .i64 f.ep) := cell_of_row _ _ 1 _ _ _ h2
  have hq1 := same_names o.who f.who
  have hq2 := star_who f
  have hg : goesF f o = (decide (o.who.data.toList = f.who.data.toList) || (decide (f.nm = star) && decide (o.ep ≤ f.ep))) := rfl
  rw [hg, ← hq1, ← hq2]
  clear h h2 hg hlt
  cases e1 : (o.who.toList == f.who.toList) with
  | true =>
    clear hq1 hq2
    generalize f.who = who at *
    generalize f.ep = ep at *
    go_enter Tryz.func116, Tryz.ntmps116
    go_wp2
    go_ret
    exact ⟨rfl, (Below.refl _ _).alloc (Nat.le_refl _) _⟩
  | false =>
    cases e2 : (f.who.toList == [42]) with
    | false =>
      clear hq1 hq2
      generalize f.who = who at *
      generalize f.ep = ep at *
      go_enter Tryz.func116, Tryz.ntmps116
      go_wp2
      go_ret
      exact ⟨rfl, (Below.refl _ _).alloc (Nat.le_refl _) _⟩
    | true =>
      clear hq1 hq2
      generalize f.who = who at *
      generalize f.ep = ep at *
      generalize o.who = owho at *
      generalize o.ep = oep at *
      by_cases he : oep ≤ ep
      · rw [decide_eq_true he]
        go_enter Tryz.func116, Tryz.ntmps116
        go_wp2
        go_ret
        exact ⟨rfl, (Below.refl _ _).alloc (Nat.le_refl _) _⟩
      · rw [decide_eq_false he]
        go_enter Tryz.func116, Tryz.ntmps116
        go_wp2
        go_ret
        exact ⟨rfl, (Below.refl _ _).alloc (Nat.le_refl _) _⟩

/-- The first that goes, as a number: -1 where none does. -/
def goneI (l : List Fl) (f : Fl) : Int := match l.findIdx? (goesF f) with | some i => (i : Int) | none => -1
theorem goneI_some (l : List Fl) (f : Fl) (k : Nat) (hk : k < l.length) (h : goesF f l[k] = true) (hb : ∀ j (hj : j < l.length), j < k → goesF f l[j] = false) : goneI l f = k := by
  have : l.findIdx? (goesF f) = some k := by
    rw [List.findIdx?_eq_some_iff_getElem]
    exact ⟨hk, h, fun j hj => by simp [hb j (by omega) hj]⟩
  unfold goneI
  rw [this]
theorem goneI_none (l : List Fl) (f : Fl) (h : ∀ j (hj : j < l.length), goesF f l[j] = false) : goneI l f = -1 := by
  have : l.findIdx? (goesF f) = none := by
    rw [List.findIdx?_eq_none_iff]
    intro x hx
    obtain ⟨j, hj, rfl⟩ := List.getElem_of_mem hx
    exact h j hj
  unfold goneI
  rw [this]
theorem goneI_cases (l : List Fl) (f : Fl) : (goneI l f = -1 ∧ ∀ j (hj : j < l.length), goesF f l[j] = false) ∨ ∃ k : Nat, ∃ hk : k < l.length, goneI l f = k ∧ goesF f l[k] = true ∧ ∀ j (hj : j < l.length), j < k → goesF f l[j] = false := by
  unfold goneI
  cases hf : l.findIdx? (goesF f) with
  | none =>
    rw [List.findIdx?_eq_none_iff] at hf
    exact Or.inl ⟨rfl, fun j hj => hf _ (List.getElem_mem _)⟩
  | some k =>
    rw [List.findIdx?_eq_some_iff_getElem] at hf
    obtain ⟨hk, h1, h2⟩ := hf
    exact Or.inr ⟨k, hk, rfl, h1, fun j hj hjk => by simpa using h2 j hjk⟩

set_option maxRecDepth 100000 in
set_option maxHeartbeats 2000000 in
theorem indexFuncF (fb : Nat) (f : Fl) (v : Value) (l : List Fl) (w : World) (hf : w.heap[fb]? = some (flO f)) (hv : FlAt w v l) (hl : l.length ≤ 1000000) :
    Calls Tryz.prog 146 #[v, .func (.func 116) #[] #[.pointer (some ⟨fb, 0, none⟩)]] w fun e w' => e = .returned (.int .i64 (goneI l f)) ∧ Below w.heap.size w w' := by
  obtain ⟨ad, cap, rfl, hc⟩ := hv.form
  have HV := hide hv
  have HF := hide hf
  have HP := hide (fun o W h => raised1_any fb f o W h)
  have eg : ∀ args w, (callFunc 116 args).run Tryz.prog w = .ok (.enter 116 args) w := enters_of Tryz.func116 (by kernel_rfl) rfl
  generalize hn : l.length = n at *
  have HN := hide hn
  clear hv hf hn
  go_enter Tryz.func146, Tryz.ntmps146
  go_wp2
  go_loopg [5, 8] n (fun gg _ s8 wr => ∃ kk : Nat, kk ≤ n ∧ n - kk ≤ gg ∧ s8 = .int .i64 kk ∧ Hid (Below w.heap.size w wr) ∧ Hid (∀ j (hj : j < l.length), j < kk → goesF f l[j] = false))
  case atStart => exact ⟨0, Nat.zero_le _, by omega, rfl, Below.refl _ _, fun j _ hj => absurd hj (Nat.not_lt_zero _)⟩
  case round =>
    obtain ⟨kk, hkk, hg, rfl, HB, A⟩ := hrel
    by_cases hlt : kk < n
    · have hltz : (kk : Int) < (n : Int) := by omega
      have hkl : kk < l.length := by rw [HN.out]; exact hlt
      have hvr := HV.out.below HB.out
      rw [← HN.out] at hvr
      obtain ⟨b, off, cap', e, hc', hb, hcell⟩ := hvr.at (by omega)
      injection e with e1 e2 e3
      subst e1; subst e3
      obtain ⟨c0, c1⟩ := hcell kk hkl
      have HC := hide (HP.out (l[kk]'hkl) wr (by rw [HB.out.block _ (row_lt HF.out)]; exact HF.out))
      cases hq : goesF f (l[kk]'hkl) with
      | true =>
        have HR := hide hq
        rw [hq] at HC
        clear hcell hvr hq
        generalize (l[kk]'hkl).who = who at c0 HC
        generalize (l[kk]'hkl).ep = ep at c1 HC
        go_wp2_with fail
        refine HC.out.mono ?_
        rintro e w' ⟨rfl, hb1⟩
        have HB2 : Hid (Below w.heap.size w w') := HB.out.trans (hb1.mono HB.out.size)
        clear hb1
        go_wp2
        go_ret
        exact ⟨by rw [goneI_some l f kk hkl HR.out A.out]; rfl, HB2.out⟩
      | false =>
        have HR := hide hq
        rw [hq] at HC
        clear hcell hvr hq
        generalize (l[kk]'hkl).who = who at c0 HC
        generalize (l[kk]'hkl).ep = ep at c1 HC
        go_wp2_with fail
        refine HC.out.mono ?_
        rintro e w' ⟨rfl, hb1⟩
        have HB2 : Hid (Below w.heap.size w w') := HB.out.trans (hb1.mono HB.out.size)
        clear hb1
        go_wp2
        go_roundg (n - (kk + 1))
        case measure => omega
        case rel =>
          refine ⟨kk + 1, by omega, by omega, by go_num, HB2, (show Hid _ from fun j hj hjk => ?_)⟩
          by_cases e : j = kk
          · subst e; exact HR.out
          · exact A.out j hj (by omega)
    · have hltz : ¬ (kk : Int) < (n : Int) := by omega
      have : kk = n := by omega
      subst this
      go_wp2
      go_ret
      exact ⟨by rw [goneI_none l f (fun j hj => A.out j hj (by rw [← HN.out]; exact hj))]; rfl, HB.out⟩
end Go.Proofs.YtgagekcjdapkfacGreatDoor

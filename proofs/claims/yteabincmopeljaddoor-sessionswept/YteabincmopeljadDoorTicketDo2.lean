/-
  What package ticket's checked, Good and Renew give, for every ticket, time and serial.
-/
import Derived.Test.YteabincmopeljadDoorTicketDo
import Derived.Test.YteabincmopeljadDoorSealTake
namespace Go.Proofs.YteabincmopeljadDoor
open Go.RowKit Go.Extern.Stop Go.Stop Go.Extern

/-- The end of a function whose first result is a ticket in a block of its own. -/
theorem tkEnd {fn : Func} {p u : Tmp} (hr : fn.results = #[.cell p 52, .tmp u]) {a : Act} {w : World} {R : Ending → World → Prop} (g : Nat) (t : Tk) (hp : a.tmps.getD p undef = .pointer (some ⟨g, 0, none⟩)) (hg : w.heap[g]? = some (tkO t)) (hd : a.defers = [])
    (hR : R (.returned (.tuple #[t.val, a.tmps.getD u undef])) w) : bodyPost Tryd.prog fn R .ret a w :=
  bodyPost_ret (results_row_tmp hr a.tmps w g _ _ (0, 0) _ hp hg Tryd.underlying52 rfl (by kernel_rfl)) hd hR
/-- A block of six cells, written whole. -/
theorem row_set6 {w : World} {g : Nat} {t : TypeId} {x0 x1 x2 x3 x4 x5 : Value} (h : w.heap[g]? = some (.cells #[x0, x1, x2, x3, x4, x5] t (0, 0))) (a b c d e f : Value) :
    ((((((w.setCell ⟨g, 0, none⟩ a).setCell ⟨g, 1, none⟩ b).setCell ⟨g, 2, none⟩ c).setCell ⟨g, 3, none⟩ d).setCell ⟨g, 4, none⟩ e).setCell ⟨g, 5, none⟩ f).heap[g]? = some (.cells #[a, b, c, d, e, f] t (0, 0)) := by
  have h1 := heap_setCell_same w g 0 _ t a h
  have h2 := heap_setCell_same _ g 1 _ t b h1
  have h3 := heap_setCell_same _ g 2 _ t c h2
  have h4 := heap_setCell_same _ g 3 _ t d h3
  have h5 := heap_setCell_same _ g 4 _ t e h4
  have h6 := heap_setCell_same _ g 5 _ t f h5
  exact h6
theorem row_frozen6 {w : World} {g : Nat} {t : Tk} (h : w.heap[g]? = some (tkO t)) :
    w.frozen? ⟨g, 0, none⟩ = false ∧ w.frozen? ⟨g, 1, none⟩ = false ∧ w.frozen? ⟨g, 2, none⟩ = false ∧ w.frozen? ⟨g, 3, none⟩ = false ∧ w.frozen? ⟨g, 4, none⟩ = false ∧ w.frozen? ⟨g, 5, none⟩ = false :=
  ⟨frozen_of_row w g 0 _ _ h, frozen_of_row w g 1 _ _ h, frozen_of_row w g 2 _ _ h, frozen_of_row w g 3 _ _ h, frozen_of_row w g 4 _ _ h, frozen_of_row w g 5 _ _ h⟩
theorem below_set6 {n : Nat} {w0 w : World} {g : Nat} (h : Below n w0 w) (hg : n ≤ g) (a b c d e f : Value) :
    Below n w0 ((((((w.setCell ⟨g, 0, none⟩ a).setCell ⟨g, 1, none⟩ b).setCell ⟨g, 2, none⟩ c).setCell ⟨g, 3, none⟩ d).setCell ⟨g, 4, none⟩ e).setCell ⟨g, 5, none⟩ f) :=
  (((((h.setCell hg _).setCell hg _).setCell hg _).setCell hg _).setCell hg _).setCell hg _

theorem okT_no (c : Nat) (t : Tk) (h : c ≠ 0) : okT c t = tk0 := by unfold okT; rw [if_neg h]
theorem okT_yes (t : Tk) : okT 0 t = t := rfl

set_option maxRecDepth 100000 in
set_option maxHeartbeats 2000000 in
theorem good_err (a : Nat → Addr) (t : Tk) (now : Int) (w : World) (h : EV tkS a w) (hs : t.who.size ≤ maxLen) (hs2 : t.dst.size ≤ maxLen) (h0 : t.err ≠ 0) :
    Calls Tryd.prog 36 #[t.val, .int .i64 now] w fun e w' => e = .returned (errV a t.err) ∧ Below w.heap.size w w' := by
  have HB0 : Hid (Below w.heap.size w (w.alloc (tkO t))) := (Below.refl _ w).alloc (Nat.le_refl _) _
  have HCall := hide (tkCheck_ev a t _ (h.below HB0.out) hs hs2)
  have e1 : errV a t.err = eV (a (t.err - 1)) := by unfold errV; rw [if_neg h0]
  rw [e1] at HCall ⊢
  generalize a (t.err - 1) = ad at *
  clear h hs hs2 h0 e1
  rw [tk_val] at HCall ⊢
  obtain ⟨who, dst, epoch, frm, til, ser⟩ := t
  dsimp only at *
  go_enter Tryd.func36, Tryd.ntmps36
  go_wp2_with fail
  refine HCall.out.mono ?_
  rintro e w1 ⟨rfl, hb⟩
  have HB1 : Hid (Below w.heap.size w w1) := HB0.out.trans (hb.mono HB0.out.size)
  clear hb HB0 HCall
  go_wp2
  go_ret
  exact ⟨rfl, HB1.out⟩

/-- What Good answers of a ticket that Check lets by. -/
def goodE (t : Tk) (now : Int) : Nat := if 0 ≤ now ∧ now ≤ 1000000 then (if now < t.frm then 11 else if t.til ≤ now then 12 else 0) else 2

set_option maxRecDepth 100000 in
set_option maxHeartbeats 2000000 in
theorem good_ok (a : Nat → Addr) (t : Tk) (now : Int) (w : World) (h : EV tkS a w) (hs : t.who.size ≤ maxLen) (hs2 : t.dst.size ≤ maxLen) (h0 : t.err = 0) :
    Calls Tryd.prog 36 #[t.val, .int .i64 now] w fun e w' => e = .returned (errV a (goodE t now)) ∧ Below w.heap.size w w' := by
  have HB0 : Hid (Below w.heap.size w (w.alloc (tkO t))) := (Below.refl _ w).alloc (Nat.le_refl _) _
  have HCall := hide (tkCheck_ev a t _ (h.below HB0.out) hs hs2)
  rw [h0, show errV a 0 = Value.nilIface from rfl] at HCall
  have HE := hide h
  have HT := hide (fun w => isTime_any now w)
  have HR0 : Hid ((w.alloc (tkO t)).heap[w.heap.size]? = some (tkO t)) := heap_alloc_new _ _
  have hcase : (¬ (0 ≤ now ∧ now ≤ 1000000) ∧ goodE t now = 2) ∨ ((0 ≤ now ∧ now ≤ 1000000) ∧ now < t.frm ∧ goodE t now = 11) ∨ ((0 ≤ now ∧ now ≤ 1000000) ∧ t.frm ≤ now ∧ t.til ≤ now ∧ goodE t now = 12) ∨ ((0 ≤ now ∧ now ≤ 1000000) ∧ t.frm ≤ now ∧ now < t.til ∧ goodE t now = 0) := by
    unfold goodE
    by_cases g1 : 0 ≤ now ∧ now ≤ 1000000
    · by_cases g2 : now < t.frm
      · exact Or.inr (Or.inl ⟨g1, g2, by rw [if_pos g1, if_pos g2]⟩)
      · by_cases g3 : t.til ≤ now
        · exact Or.inr (Or.inr (Or.inl ⟨g1, by omega, g3, by rw [if_pos g1, if_neg g2, if_pos g3]⟩))
        · exact Or.inr (Or.inr (Or.inr ⟨g1, by omega, by omega, by rw [if_pos g1, if_neg g2, if_neg g3]⟩))
    · exact Or.inl ⟨g1, by rw [if_neg g1]⟩
  clear h hs hs2 h0
  generalize goodE t now = c at hcase ⊢
  rw [tk_val] at HCall ⊢
  obtain ⟨who, dst, epoch, frm, til, ser⟩ := t
  dsimp only at *
  rcases hcase with ⟨g, rfl⟩ | ⟨g, g1, rfl⟩ | ⟨g, g1, g2, rfl⟩ | ⟨g, g1, g2, rfl⟩
  · rw [decide_eq_false g] at HT
    rw [show errV a 2 = eV (a 1) from rfl]
    clear g
    go_enter Tryd.func36, Tryd.ntmps36
    go_wp2_with fail
    refine HCall.out.mono ?_
    rintro e w1 ⟨rfl, hb⟩
    have HB1 : Hid (Below w.heap.size w w1) := HB0.out.trans (hb.mono HB0.out.size)
    have hv : w1.cell? ⟨0, 0, none⟩ = some (eV (a 1)) := (HE.out.below HB1.out).var 1 (by decide) rfl
    clear hb HB0 HCall HE
    go_wp2_with fail
    refine (HT.out _).mono ?_
    rintro e w2 ⟨rfl, rfl⟩
    go_wp2
    go_ret
    exact ⟨rfl, HB1.out⟩
  · rw [decide_eq_true g] at HT
    rw [show errV a 11 = eV (a 10) from rfl]
    clear g
    go_enter Tryd.func36, Tryd.ntmps36
    go_wp2_with fail
    refine HCall.out.mono ?_
    rintro e w1 ⟨rfl, hb⟩
    have HB1 : Hid (Below w.heap.size w w1) := HB0.out.trans (hb.mono HB0.out.size)
    have hv : w1.cell? ⟨5, 0, none⟩ = some (eV (a 10)) := (HE.out.below HB1.out).var 10 (by decide) rfl
    have HT0 : Hid (w1.heap[w.heap.size]? = some (tkO ⟨who, dst, epoch, frm, til, ser⟩)) := by show _ = _; rw [hb.block _ (by simp)]; exact HR0.out
    obtain ⟨hc0, hc1, hc2, hc3, hc4, hc5⟩ := tk_row HT0.out
    dsimp only at hc0 hc1 hc2 hc3 hc4 hc5
    clear hb HB0 HCall HE HR0 HT0
    go_wp2_with fail
    refine (HT.out _).mono ?_
    rintro e w2 ⟨rfl, rfl⟩
    go_wp2
    go_ret
    exact ⟨rfl, HB1.out⟩
  · rw [decide_eq_true g] at HT
    rw [show errV a 12 = eV (a 11) from rfl]
    clear g
    go_enter Tryd.func36, Tryd.ntmps36
    go_wp2_with fail
    refine HCall.out.mono ?_
    rintro e w1 ⟨rfl, hb⟩
    have HB1 : Hid (Below w.heap.size w w1) := HB0.out.trans (hb.mono HB0.out.size)
    have hv : w1.cell? ⟨6, 0, none⟩ = some (eV (a 11)) := (HE.out.below HB1.out).var 11 (by decide) rfl
    have HT0 : Hid (w1.heap[w.heap.size]? = some (tkO ⟨who, dst, epoch, frm, til, ser⟩)) := by show _ = _; rw [hb.block _ (by simp)]; exact HR0.out
    obtain ⟨hc0, hc1, hc2, hc3, hc4, hc5⟩ := tk_row HT0.out
    dsimp only at hc0 hc1 hc2 hc3 hc4 hc5
    clear hb HB0 HCall HE HR0 HT0
    go_wp2_with fail
    refine (HT.out _).mono ?_
    rintro e w2 ⟨rfl, rfl⟩
    go_wp2
    go_ret
    exact ⟨rfl, HB1.out⟩
  · rw [decide_eq_true g] at HT
    rw [show errV a 0 = Value.nilIface from rfl]
    clear g
    go_enter Tryd.func36, Tryd.ntmps36
    go_wp2_with fail
    refine HCall.out.mono ?_
    rintro e w1 ⟨rfl, hb⟩
    have HB1 : Hid (Below w.heap.size w w1) := HB0.out.trans (hb.mono HB0.out.size)
    have HT0 : Hid (w1.heap[w.heap.size]? = some (tkO ⟨who, dst, epoch, frm, til, ser⟩)) := by show _ = _; rw [hb.block _ (by simp)]; exact HR0.out
    obtain ⟨hc0, hc1, hc2, hc3, hc4, hc5⟩ := tk_row HT0.out
    dsimp only at hc0 hc1 hc2 hc3 hc4 hc5
    clear hb HB0 HCall HE HR0 HT0
    go_wp2_with fail
    refine (HT.out _).mono ?_
    rintro e w2 ⟨rfl, rfl⟩
    go_wp2
    go_ret
    exact ⟨rfl, HB1.out⟩

theorem good_ev (a : Nat → Addr) (t : Tk) (now : Int) (w : World) (h : EV tkS a w) (hs : t.who.size ≤ maxLen) (hs2 : t.dst.size ≤ maxLen) :
    Calls Tryd.prog 36 #[t.val, .int .i64 now] w fun e w' => e = .returned (errV a (t.good now)) ∧ Below w.heap.size w w' := by
  by_cases h0 : t.err = 0
  · have e : t.good now = goodE t now := by unfold Tk.good goodE; rw [if_pos h0]
    rw [e]
    exact good_ok a t now w h hs hs2 h0
  · have e : t.good now = t.err := by unfold Tk.good; rw [if_neg h0]
    rw [e]
    exact good_err a t now w h hs hs2 h0
theorem good_any (a : Nat → Addr) (t : Tk) (now : Int) (w : World) (h : Errs a w) (hs : t.who.size ≤ maxLen) (hs2 : t.dst.size ≤ maxLen) :
    Calls Tryd.prog 36 #[t.val, .int .i64 now] w fun e w' => e = .returned (errV a (t.good now)) ∧ Below w.heap.size w w' := good_ev a t now w (h.ev _) hs hs2
end Go.Proofs.YteabincmopeljadDoor

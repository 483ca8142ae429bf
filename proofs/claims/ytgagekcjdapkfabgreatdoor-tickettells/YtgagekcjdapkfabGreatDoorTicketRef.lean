/-
  What the document's answer's TicketError, GoodError and RenewOf give, for every ticket, times and serial.
-/
import Derived.Test.YtgagekcjdapkfabGreatDoorTicketRenew
import Derived.Test.YtgagekcjdapkfabGreatDoorSealRef
namespace Go.Proofs.YtgagekcjdapkfabGreatDoor
open Go.RowKit Go.Extern.Stop Go.Stop Go.Extern

set_option maxRecDepth 100000 in
set_option maxHeartbeats 4000000 in
theorem refTk_any (t : Tk) (w : World) (hs : t.who.size ≤ maxLen) (hs2 : t.dst.size ≤ maxLen) :
    Calls Tryz.prog 16 #[t.val] w fun e w' => e = .returned (.int .i64 (t.err : Int)) ∧ Below w.heap.size w w' := by
  have e4 : t.names = false → t.err = 4 := fun g => by unfold Tk.err; rw [g]; rfl
  have e2 : t.names = true → ¬ t.nums → t.err = 2 := fun g g2 => by unfold Tk.err; rw [if_pos g, if_neg g2]
  have HB0 : Hid (Below w.heap.size w (w.alloc (tkO t))) := (Below.refl _ w).alloc (Nat.le_refl _) _
  have HN := hide (fun w => refName_any t.who w hs)
  have HN2 := hide (fun w => refName_any t.dst w hs2)
  have hcase : ((Sl.nameL t.who.data.toList = false ∨ Sl.nameL t.dst.data.toList = false) ∧ t.err = 4) ∨ (Sl.nameL t.who.data.toList = true ∧ Sl.nameL t.dst.data.toList = true ∧
      ((t.epoch < 1 ∧ t.err = 2) ∨ (1 ≤ t.epoch ∧ 1073741824 < t.epoch ∧ t.err = 2) ∨ (1 ≤ t.epoch ∧ t.epoch ≤ 1073741824 ∧ t.ser < 1 ∧ t.err = 2) ∨ (1 ≤ t.epoch ∧ t.epoch ≤ 1073741824 ∧ 1 ≤ t.ser ∧ 1073741824 < t.ser ∧ t.err = 2) ∨
       (1 ≤ t.epoch ∧ t.epoch ≤ 1073741824 ∧ 1 ≤ t.ser ∧ t.ser ≤ 1073741824 ∧ t.frm < 0 ∧ t.err = 2) ∨ (1 ≤ t.epoch ∧ t.epoch ≤ 1073741824 ∧ 1 ≤ t.ser ∧ t.ser ≤ 1073741824 ∧ 0 ≤ t.frm ∧ 1000000 < t.frm ∧ t.err = 2) ∨
       (1 ≤ t.epoch ∧ t.epoch ≤ 1073741824 ∧ 1 ≤ t.ser ∧ t.ser ≤ 1073741824 ∧ 0 ≤ t.frm ∧ t.frm ≤ 1000000 ∧ t.til < t.frm ∧ t.err = 2) ∨ (1 ≤ t.epoch ∧ t.epoch ≤ 1073741824 ∧ 1 ≤ t.ser ∧ t.ser ≤ 1073741824 ∧ 0 ≤ t.frm ∧ t.frm ≤ 1000000 ∧ t.frm ≤ t.til ∧ 1000000 < t.til ∧ t.err = 2) ∨
       (1 ≤ t.epoch ∧ t.epoch ≤ 1073741824 ∧ 1 ≤ t.ser ∧ t.ser ≤ 1073741824 ∧ 0 ≤ t.frm ∧ t.frm ≤ 1000000 ∧ t.frm ≤ t.til ∧ t.til ≤ 1000000 ∧ t.err = 0))) := by
    cases hn : Sl.nameL t.who.data.toList with
    | false => exact Or.inl ⟨Or.inl rfl, e4 (by unfold Tk.names; rw [hn]; rfl)⟩
    | true =>
      cases hn2 : Sl.nameL t.dst.data.toList with
      | false => exact Or.inl ⟨Or.inr rfl, e4 (by unfold Tk.names; rw [hn, hn2]; rfl)⟩
      | true =>
        refine Or.inr ⟨rfl, rfl, ?_⟩
        have hnm : t.names = true := by unfold Tk.names; rw [hn, hn2]; rfl
        have k2 := e2 hnm
        rcases Int.lt_or_le t.epoch 1 with a1 | a1
        · exact Or.inl ⟨a1, k2 (fun g => by have := g.1.1; omega)⟩
        rcases Int.lt_or_le 1073741824 t.epoch with a2 | a2
        · exact Or.inr (Or.inl ⟨a1, a2, k2 (fun g => by have := g.1.2; omega)⟩)
        rcases Int.lt_or_le t.ser 1 with a3 | a3
        · exact Or.inr (Or.inr (Or.inl ⟨a1, a2, a3, k2 (fun g => by have := g.2.1.1; omega)⟩))
        rcases Int.lt_or_le 1073741824 t.ser with a4 | a4
        · exact Or.inr (Or.inr (Or.inr (Or.inl ⟨a1, a2, a3, a4, k2 (fun g => by have := g.2.1.2; omega)⟩)))
        rcases Int.lt_or_le t.frm 0 with a5 | a5
        · exact Or.inr (Or.inr (Or.inr (Or.inr (Or.inl ⟨a1, a2, a3, a4, a5, k2 (fun g => by have := g.2.2.1.1; omega)⟩))))
        rcases Int.lt_or_le 1000000 t.frm with a6 | a6
        · exact Or.inr (Or.inr (Or.inr (Or.inr (Or.inr (Or.inl ⟨a1, a2, a3, a4, a5, a6, k2 (fun g => by have := g.2.2.1.2; omega)⟩)))))
        rcases Int.lt_or_le t.til t.frm with a7 | a7
        · exact Or.inr (Or.inr (Or.inr (Or.inr (Or.inr (Or.inr (Or.inl ⟨a1, a2, a3, a4, a5, a6, a7, k2 (fun g => by have := g.2.2.2.1; omega)⟩))))))
        rcases Int.lt_or_le 1000000 t.til with a8 | a8
        · exact Or.inr (Or.inr (Or.inr (Or.inr (Or.inr (Or.inr (Or.inr (Or.inl ⟨a1, a2, a3, a4, a5, a6, a7, a8, k2 (fun g => by have := g.2.2.2.2; omega)⟩)))))))
        exact Or.inr (Or.inr (Or.inr (Or.inr (Or.inr (Or.inr (Or.inr (Or.inr ⟨a1, a2, a3, a4, a5, a6, a7, a8, t.err_iff.2 ⟨hnm, ⟨a1, a2⟩, ⟨a3, a4⟩, ⟨a5, a6⟩, a7, a8⟩⟩)))))))
  generalize t.err = c at hcase ⊢
  clear e4 e2 hs hs2
  rw [tk_val]
  obtain ⟨who, dst, epoch, frm, til, ser⟩ := t
  dsimp only at *
  rcases hcase with ⟨hno, rfl⟩ | ⟨h1, h2, hc⟩
  · have hno2 : (Sl.nameL who.data.toList = false) ∨ (Sl.nameL who.data.toList = true ∧ Sl.nameL dst.data.toList = false) := by
      cases h : Sl.nameL who.data.toList with
      | false => exact Or.inl rfl
      | true =>
        rcases hno with g | g
        · rw [h] at g; cases g
        · exact Or.inr ⟨rfl, g⟩
    clear hno
    rcases hno2 with h1 | ⟨h1, h2⟩
    · rw [h1] at HN
      clear h1
      generalize Sl.nameL dst.data.toList = b2 at *
      go_enter Tryz.func16, Tryz.ntmps16
      go_wp2_with fail
      refine (HN.out _).mono ?_
      rintro e w1 ⟨rfl, rfl⟩
      go_wp2_with fail
      refine (HN2.out _).mono ?_
      rintro e w1 ⟨rfl, rfl⟩
      go_wp2
      go_ret
      exact ⟨rfl, HB0.out⟩
    · rw [h1] at HN
      rw [h2] at HN2
      clear h1 h2
      go_enter Tryz.func16, Tryz.ntmps16
      go_wp2_with fail
      refine (HN.out _).mono ?_
      rintro e w1 ⟨rfl, rfl⟩
      go_wp2_with fail
      refine (HN2.out _).mono ?_
      rintro e w1 ⟨rfl, rfl⟩
      go_wp2
      go_ret
      exact ⟨rfl, HB0.out⟩
  · rw [h1] at HN
    rw [h2] at HN2
    clear h1 h2
    rcases hc with ⟨g1, rfl⟩ | ⟨g1, g2, rfl⟩ | ⟨g1, g2, g3, rfl⟩ | ⟨g1, g2, g3, g4, rfl⟩ | ⟨g1, g2, g3, g4, g5, rfl⟩ | ⟨g1, g2, g3, g4, g5, g6, rfl⟩ | ⟨g1, g2, g3, g4, g5, g6, g7, rfl⟩ | ⟨g1, g2, g3, g4, g5, g6, g7, g8, rfl⟩ | ⟨g1, g2, g3, g4, g5, g6, g7, g8, rfl⟩
    all_goals
      go_enter Tryz.func16, Tryz.ntmps16
      go_wp2_with fail
      refine (HN.out _).mono ?_
      rintro e w1 ⟨rfl, rfl⟩
      go_wp2_with fail
      refine (HN2.out _).mono ?_
      rintro e w1 ⟨rfl, rfl⟩
      go_wp2
      go_ret
      exact ⟨rfl, HB0.out⟩

set_option maxRecDepth 100000 in
set_option maxHeartbeats 2000000 in
theorem refGood_any (t : Tk) (now : Int) (w : World) (hs : t.who.size ≤ maxLen) (hs2 : t.dst.size ≤ maxLen) :
    Calls Tryz.prog 17 #[t.val, .int .i64 now] w fun e w' => e = .returned (.int .i64 (t.good now : Int)) ∧ Below w.heap.size w w' := by
  have HB0 : Hid (Below w.heap.size w (w.alloc (tkO t))) := (Below.refl _ w).alloc (Nat.le_refl _) _
  have HR0 : Hid ((w.alloc (tkO t)).heap[w.heap.size]? = some (tkO t)) := heap_alloc_new _ _
  have HCall := hide (refTk_any t (w.alloc (tkO t)) hs hs2)
  have hle := t.err_le
  have hcase : (1 ≤ t.err ∧ t.good now = t.err) ∨ (t.err = 0 ∧ now < 0 ∧ t.good now = 2) ∨ (t.err = 0 ∧ 0 ≤ now ∧ 1000000 < now ∧ t.good now = 2) ∨ (t.err = 0 ∧ 0 ≤ now ∧ now ≤ 1000000 ∧ now < t.frm ∧ t.good now = 11) ∨ (t.err = 0 ∧ 0 ≤ now ∧ now ≤ 1000000 ∧ t.frm ≤ now ∧ t.til ≤ now ∧ t.good now = 12) ∨ (t.err = 0 ∧ 0 ≤ now ∧ now ≤ 1000000 ∧ t.frm ≤ now ∧ now < t.til ∧ t.good now = 0) := by
    unfold Tk.good
    by_cases g0 : t.err = 0
    · rw [if_pos g0]
      refine Or.inr ?_
      by_cases g1 : 0 ≤ now ∧ now ≤ 1000000
      · rw [if_pos g1]
        by_cases g2 : now < t.frm
        · rw [if_pos g2]; omega
        · rw [if_neg g2]
          by_cases g3 : t.til ≤ now
          · rw [if_pos g3]; omega
          · rw [if_neg g3]; omega
      · rw [if_neg g1]; omega
    · rw [if_neg g0]; omega
  generalize t.good now = c at hcase ⊢
  clear hs hs2
  rw [tk_val] at HCall ⊢
  rcases hcase with ⟨g, rfl⟩ | ⟨g, g1, rfl⟩ | ⟨g, g1, g2, rfl⟩ | ⟨g, g1, g2, g3, rfl⟩ | ⟨g, g1, g2, g3, g4, rfl⟩ | ⟨g, g1, g2, g3, g4, rfl⟩
  · have hz : (0 : Int) < (t.err : Int) := by omega
    have hz2 : (t.err : Int) ≤ 16 := by omega
    generalize (t.err : Int) = z at *
    clear g hle
    obtain ⟨who, dst, epoch, frm, til, ser⟩ := t
    dsimp only at *
    go_enter Tryz.func17, Tryz.ntmps17
    go_wp2_with fail
    refine HCall.out.mono ?_
    rintro e w1 ⟨rfl, hb⟩
    have HB1 : Hid (Below w.heap.size w w1) := HB0.out.trans (hb.mono HB0.out.size)
    clear hb HB0 HCall
    go_wp2
    go_ret
    exact ⟨rfl, HB1.out⟩
  all_goals
    rw [g] at HCall
    clear g hle
    obtain ⟨who, dst, epoch, frm, til, ser⟩ := t
    dsimp only at *
    go_enter Tryz.func17, Tryz.ntmps17
    go_wp2_with fail
    refine HCall.out.mono ?_
    rintro e w1 ⟨rfl, hb⟩
    have HB1 : Hid (Below w.heap.size w w1) := HB0.out.trans (hb.mono HB0.out.size)
    have HT0 : Hid (w1.heap[w.heap.size]? = some (tkO ⟨who, dst, epoch, frm, til, ser⟩)) := (hb.block _ (row_lt HR0.out)).trans HR0.out
    obtain ⟨hc0, hc1, hc2, hc3, hc4, hc5⟩ := tk_row HT0.out
    dsimp only at hc0 hc1 hc2 hc3 hc4 hc5
    clear hb HB0 HCall HR0 HT0
    go_wp2
    go_ret
    exact ⟨rfl, HB1.out⟩
end Go.Proofs.YtgagekcjdapkfabGreatDoor

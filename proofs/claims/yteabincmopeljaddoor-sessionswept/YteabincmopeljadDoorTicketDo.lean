/-
  What package ticket's isNum, isTime, Check, checked, Good and Renew give, for every ticket, time and serial.
-/
import Derived.Test.YteabincmopeljadDoorTicketPlain
import Derived.Test.YteabincmopeljadDoorSealWords
import Derived.Laws.NewBlocks
import Derived.RegionTactic
namespace Go.Proofs.YteabincmopeljadDoor
open Go.RowKit Go.Extern.Stop Go.Stop Go.Extern

theorem isNum_any (n : Int) (w : World) :
    Calls Tryd.prog 74 #[.int .i64 n] w fun e w' => e = .returned (.bool (decide (1 ≤ n ∧ n ≤ 1073741824))) ∧ w' = w := by
  by_cases h1 : 1 ≤ n
  · by_cases h2 : n ≤ 1073741824
    · rw [decide_eq_true ⟨h1, h2⟩]
      go_enter Tryd.func74, Tryd.ntmps74
      go_wp2
      go_ret
      exact ⟨rfl, rfl⟩
    · rw [decide_eq_false (fun h => h2 h.2)]
      go_enter Tryd.func74, Tryd.ntmps74
      go_wp2
      go_ret
      exact ⟨by simp_all, rfl⟩
  · rw [decide_eq_false (fun h => h1 h.1)]
    go_enter Tryd.func74, Tryd.ntmps74
    go_wp2
    go_ret
    exact ⟨rfl, rfl⟩
theorem isTime_any (n : Int) (w : World) :
    Calls Tryd.prog 55 #[.int .i64 n] w fun e w' => e = .returned (.bool (decide (0 ≤ n ∧ n ≤ 1000000))) ∧ w' = w := by
  by_cases h1 : 0 ≤ n
  · by_cases h2 : n ≤ 1000000
    · rw [decide_eq_true ⟨h1, h2⟩]
      go_enter Tryd.func55, Tryd.ntmps55
      go_wp2
      go_ret
      exact ⟨rfl, rfl⟩
    · rw [decide_eq_false (fun h => h2 h.2)]
      go_enter Tryd.func55, Tryd.ntmps55
      go_wp2
      go_ret
      exact ⟨by simp_all, rfl⟩
  · rw [decide_eq_false (fun h => h1 h.1)]
    go_enter Tryd.func55, Tryd.ntmps55
    go_wp2
    go_ret
    exact ⟨rfl, rfl⟩

/-- A ticket's block. -/
abbrev tkO (t : Tk) : Obj := .cells #[.string t.who, .string t.dst, .int .i64 t.epoch, .int .i64 t.frm, .int .i64 t.til, .int .i64 t.ser] 52 (0, 0)
/-- The six cells of a ticket's block. -/
theorem tk_row {w : World} {g : Nat} {t : Tk} (h : w.heap[g]? = some (tkO t)) :
    w.cell? ⟨g, 0, none⟩ = some (.string t.who) ∧ w.cell? ⟨g, 1, none⟩ = some (.string t.dst) ∧ w.cell? ⟨g, 2, none⟩ = some (.int .i64 t.epoch) ∧ w.cell? ⟨g, 3, none⟩ = some (.int .i64 t.frm) ∧ w.cell? ⟨g, 4, none⟩ = some (.int .i64 t.til) ∧ w.cell? ⟨g, 5, none⟩ = some (.int .i64 t.ser) :=
  ⟨cell_of_row w g 0 _ _ _ h, cell_of_row w g 1 _ _ _ h, cell_of_row w g 2 _ _ _ h, cell_of_row w g 3 _ _ _ h, cell_of_row w g 4 _ _ _ h, cell_of_row w g 5 _ _ _ h⟩
theorem tk_val (t : Tk) : t.val = .agg #[.string t.who, .string t.dst, .int .i64 t.epoch, .int .i64 t.frm, .int .i64 t.til, .int .i64 t.ser] := rfl

/-- The four errors that a ticket's Check and Good give. -/
def tkS (i : Nat) : Bool := i == 1 || i == 3 || i == 10 || i == 11
set_option maxRecDepth 100000 in
set_option maxHeartbeats 1000000 in
theorem tkCheck_name1 (a : Nat → Addr) (t : Tk) (w : World) (h : EV tkS a w) (hs : t.who.size ≤ maxLen) (hn : Sl.nameL t.who.data.toList = false) :
    Calls Tryd.prog 54 #[t.val] w fun e w' => e = .returned (eV (a 3)) ∧ Below w.heap.size w w' := by
  rw [tk_val]
  obtain ⟨who, dst, epoch, frm, til, ser⟩ := t
  have HN := hide (fun w => name_any who w hs)
  rw [hn] at HN
  have HE := hide h
  have HB : Hid (∀ o, Below w.heap.size w (w.alloc o)) := fun o => (Below.refl _ _).alloc (Nat.le_refl _) _
  clear h hn hs
  go_enter Tryd.func54, Tryd.ntmps54
  go_wp2_with fail
  refine (HN.out _).mono ?_
  rintro e w1 ⟨rfl, hb⟩
  have HB1 : Hid (Below w.heap.size w w1) := (HB.out _).trans (hb.mono (HB.out _).size)
  have hv : w1.cell? ⟨8, 0, none⟩ = some (eV (a 3)) := (HE.out.below HB1.out).var 3 (by decide) rfl
  clear hb
  go_wp2
  go_ret
  exact ⟨rfl, HB1.out⟩

set_option maxRecDepth 100000 in
set_option maxHeartbeats 1000000 in
theorem tkCheck_name2 (a : Nat → Addr) (t : Tk) (w : World) (h : EV tkS a w) (hs : t.who.size ≤ maxLen) (hs2 : t.dst.size ≤ maxLen) (hn : Sl.nameL t.who.data.toList = true) (hn2 : Sl.nameL t.dst.data.toList = false) :
    Calls Tryd.prog 54 #[t.val] w fun e w' => e = .returned (eV (a 3)) ∧ Below w.heap.size w w' := by
  have HRow : Hid ((w.alloc (tkO t)).heap[w.heap.size]? = some (tkO t)) := heap_alloc_new _ _
  rw [tk_val]
  obtain ⟨who, dst, epoch, frm, til, ser⟩ := t
  have HN := hide (fun w => name_any who w hs)
  have HN2 := hide (fun w => name_any dst w hs2)
  rw [hn] at HN
  rw [hn2] at HN2
  have HE := hide h
  have HB : Hid (∀ o, Below w.heap.size w (w.alloc o)) := fun o => (Below.refl _ _).alloc (Nat.le_refl _) _
  clear h hn hs hn2 hs2
  go_enter Tryd.func54, Tryd.ntmps54
  go_wp2_with fail
  refine (HN.out _).mono ?_
  rintro e w1 ⟨rfl, hb⟩
  have HB1 : Hid (Below w.heap.size w w1) := (HB.out _).trans (hb.mono (HB.out _).size)
  have HR1 : Hid (w1.heap[w.heap.size]? = some (tkO ⟨who, dst, epoch, frm, til, ser⟩)) := by show _ = _; rw [hb.block _ (by simp)]; exact HRow.out
  have hc1 := (tk_row HR1.out).2.1
  dsimp only at hc1
  clear hb
  go_wp2_with fail
  refine (HN2.out _).mono ?_
  rintro e w2 ⟨rfl, hb⟩
  have HB2 : Hid (Below w.heap.size w w2) := HB1.out.trans (hb.mono HB1.out.size)
  have hv : w2.cell? ⟨8, 0, none⟩ = some (eV (a 3)) := (HE.out.below HB2.out).var 3 (by decide) rfl
  clear hb hc1
  go_wp2
  go_ret
  exact ⟨rfl, HB2.out⟩

set_option maxRecDepth 100000 in
set_option maxHeartbeats 2000000 in
theorem tkCheck_epoch (a : Nat → Addr) (t : Tk) (w : World) (h : EV tkS a w) (hs : t.who.size ≤ maxLen) (hs2 : t.dst.size ≤ maxLen) (hn : Sl.nameL t.who.data.toList = true) (hn2 : Sl.nameL t.dst.data.toList = true) (h0 : ¬ (1 ≤ t.epoch ∧ t.epoch ≤ 1073741824)) :
    Calls Tryd.prog 54 #[t.val] w fun e w' => e = .returned (eV (a 1)) ∧ Below w.heap.size w w' := by
  have HRow : Hid ((w.alloc (tkO t)).heap[w.heap.size]? = some (tkO t)) := heap_alloc_new _ _
  have HC0 := hide (fun w => isNum_any t.epoch w)
  rw [decide_eq_false h0] at HC0
  have HN := hide (fun w => name_any t.who w hs)
  have HN2 := hide (fun w => name_any t.dst w hs2)
  rw [hn] at HN
  rw [hn2] at HN2
  rw [tk_val]
  obtain ⟨who, dst, epoch, frm, til, ser⟩ := t
  have HE := hide h
  have HB : Hid (∀ o, Below w.heap.size w (w.alloc o)) := fun o => (Below.refl _ _).alloc (Nat.le_refl _) _
  dsimp only at *
  clear h hn hs hn2 hs2 h0
  go_enter Tryd.func54, Tryd.ntmps54
  go_wp2_with fail
  refine (HN.out _).mono ?_
  rintro e w1 ⟨rfl, hb⟩
  have HB1 : Hid (Below w.heap.size w w1) := (HB.out _).trans (hb.mono (HB.out _).size)
  have HR1 : Hid (w1.heap[w.heap.size]? = some (tkO ⟨who, dst, epoch, frm, til, ser⟩)) := by show _ = _; rw [hb.block _ (by simp)]; exact HRow.out
  have hc1 := (tk_row HR1.out).2.1
  have HS1 : Hid (w.heap.size < w1.heap.size) := row_lt HR1.out
  clear hb HRow HN HB
  dsimp only at hc1
  go_wp2_with fail
  refine (HN2.out _).mono ?_
  rintro e w2 ⟨rfl, hb⟩
  have HB2 : Hid (Below w.heap.size w w2) := HB1.out.trans (hb.mono HB1.out.size)
  have HR2 : Hid (w2.heap[w.heap.size]? = some (tkO ⟨who, dst, epoch, frm, til, ser⟩)) := by show _ = _; rw [hb.block _ HS1.out]; exact HR1.out
  obtain ⟨hd0, hd1, hd2, hd3, hd4, hd5⟩ := tk_row HR2.out
  dsimp only at hd0 hd1 hd2 hd3 hd4 hd5
  have hv : w2.cell? ⟨0, 0, none⟩ = some (eV (a 1)) := (HE.out.below HB2.out).var 1 (by decide) rfl
  clear hb hc1 HB1 HS1 HR1 HR2 HN2 HE
  go_wp2_with fail
  refine (HC0.out _).mono ?_
  rintro e w3 ⟨rfl, rfl⟩
  go_wp2
  go_ret
  exact ⟨rfl, HB2.out⟩
set_option maxRecDepth 100000 in
set_option maxHeartbeats 2000000 in
theorem tkCheck_ser (a : Nat → Addr) (t : Tk) (w : World) (h : EV tkS a w) (hs : t.who.size ≤ maxLen) (hs2 : t.dst.size ≤ maxLen) (hn : Sl.nameL t.who.data.toList = true) (hn2 : Sl.nameL t.dst.data.toList = true) (h0 : 1 ≤ t.epoch ∧ t.epoch ≤ 1073741824) (h1 : ¬ (1 ≤ t.ser ∧ t.ser ≤ 1073741824)) :
    Calls Tryd.prog 54 #[t.val] w fun e w' => e = .returned (eV (a 1)) ∧ Below w.heap.size w w' := by
  have HRow : Hid ((w.alloc (tkO t)).heap[w.heap.size]? = some (tkO t)) := heap_alloc_new _ _
  have HC0 := hide (fun w => isNum_any t.epoch w)
  rw [decide_eq_true h0] at HC0
  have HC1 := hide (fun w => isNum_any t.ser w)
  rw [decide_eq_false h1] at HC1
  have HN := hide (fun w => name_any t.who w hs)
  have HN2 := hide (fun w => name_any t.dst w hs2)
  rw [hn] at HN
  rw [hn2] at HN2
  rw [tk_val]
  obtain ⟨who, dst, epoch, frm, til, ser⟩ := t
  have HE := hide h
  have HB : Hid (∀ o, Below w.heap.size w (w.alloc o)) := fun o => (Below.refl _ _).alloc (Nat.le_refl _) _
  dsimp only at *
  clear h hn hs hn2 hs2 h0 h1
  go_enter Tryd.func54, Tryd.ntmps54
  go_wp2_with fail
  refine (HN.out _).mono ?_
  rintro e w1 ⟨rfl, hb⟩
  have HB1 : Hid (Below w.heap.size w w1) := (HB.out _).trans (hb.mono (HB.out _).size)
  have HR1 : Hid (w1.heap[w.heap.size]? = some (tkO ⟨who, dst, epoch, frm, til, ser⟩)) := by show _ = _; rw [hb.block _ (by simp)]; exact HRow.out
  have hc1 := (tk_row HR1.out).2.1
  have HS1 : Hid (w.heap.size < w1.heap.size) := row_lt HR1.out
  clear hb HRow HN HB
  dsimp only at hc1
  go_wp2_with fail
  refine (HN2.out _).mono ?_
  rintro e w2 ⟨rfl, hb⟩
  have HB2 : Hid (Below w.heap.size w w2) := HB1.out.trans (hb.mono HB1.out.size)
  have HR2 : Hid (w2.heap[w.heap.size]? = some (tkO ⟨who, dst, epoch, frm, til, ser⟩)) := by show _ = _; rw [hb.block _ HS1.out]; exact HR1.out
  obtain ⟨hd0, hd1, hd2, hd3, hd4, hd5⟩ := tk_row HR2.out
  dsimp only at hd0 hd1 hd2 hd3 hd4 hd5
  have hv : w2.cell? ⟨0, 0, none⟩ = some (eV (a 1)) := (HE.out.below HB2.out).var 1 (by decide) rfl
  clear hb hc1 HB1 HS1 HR1 HR2 HN2 HE
  go_wp2_with fail
  refine (HC0.out _).mono ?_
  rintro e w3 ⟨rfl, rfl⟩
  go_wp2_with fail
  refine (HC1.out _).mono ?_
  rintro e w3 ⟨rfl, rfl⟩
  go_wp2
  go_ret
  exact ⟨rfl, HB2.out⟩
set_option maxRecDepth 100000 in
set_option maxHeartbeats 2000000 in
theorem tkCheck_frm (a : Nat → Addr) (t : Tk) (w : World) (h : EV tkS a w) (hs : t.who.size ≤ maxLen) (hs2 : t.dst.size ≤ maxLen) (hn : Sl.nameL t.who.data.toList = true) (hn2 : Sl.nameL t.dst.data.toList = true) (h0 : 1 ≤ t.epoch ∧ t.epoch ≤ 1073741824) (h1 : 1 ≤ t.ser ∧ t.ser ≤ 1073741824) (h2 : ¬ (0 ≤ t.frm ∧ t.frm ≤ 1000000)) :
    Calls Tryd.prog 54 #[t.val] w fun e w' => e = .returned (eV (a 1)) ∧ Below w.heap.size w w' := by
  have HRow : Hid ((w.alloc (tkO t)).heap[w.heap.size]? = some (tkO t)) := heap_alloc_new _ _
  have HC0 := hide (fun w => isNum_any t.epoch w)
  rw [decide_eq_true h0] at HC0
  have HC1 := hide (fun w => isNum_any t.ser w)
  rw [decide_eq_true h1] at HC1
  have HC2 := hide (fun w => isTime_any t.frm w)
  rw [decide_eq_false h2] at HC2
  have HN := hide (fun w => name_any t.who w hs)
  have HN2 := hide (fun w => name_any t.dst w hs2)
  rw [hn] at HN
  rw [hn2] at HN2
  rw [tk_val]
  obtain ⟨who, dst, epoch, frm, til, ser⟩ := t
  have HE := hide h
  have HB : Hid (∀ o, Below w.heap.size w (w.alloc o)) := fun o => (Below.refl _ _).alloc (Nat.le_refl _) _
  dsimp only at *
  clear h hn hs hn2 hs2 h0 h1 h2
  go_enter Tryd.func54, Tryd.ntmps54
  go_wp2_with fail
  refine (HN.out _).mono ?_
  rintro e w1 ⟨rfl, hb⟩
  have HB1 : Hid (Below w.heap.size w w1) := (HB.out _).trans (hb.mono (HB.out _).size)
  have HR1 : Hid (w1.heap[w.heap.size]? = some (tkO ⟨who, dst, epoch, frm, til, ser⟩)) := by show _ = _; rw [hb.block _ (by simp)]; exact HRow.out
  have hc1 := (tk_row HR1.out).2.1
  have HS1 : Hid (w.heap.size < w1.heap.size) := row_lt HR1.out
  clear hb HRow HN HB
  dsimp only at hc1
  go_wp2_with fail
  refine (HN2.out _).mono ?_
  rintro e w2 ⟨rfl, hb⟩
  have HB2 : Hid (Below w.heap.size w w2) := HB1.out.trans (hb.mono HB1.out.size)
  have HR2 : Hid (w2.heap[w.heap.size]? = some (tkO ⟨who, dst, epoch, frm, til, ser⟩)) := by show _ = _; rw [hb.block _ HS1.out]; exact HR1.out
  obtain ⟨hd0, hd1, hd2, hd3, hd4, hd5⟩ := tk_row HR2.out
  dsimp only at hd0 hd1 hd2 hd3 hd4 hd5
  have hv : w2.cell? ⟨0, 0, none⟩ = some (eV (a 1)) := (HE.out.below HB2.out).var 1 (by decide) rfl
  clear hb hc1 HB1 HS1 HR1 HR2 HN2 HE
  go_wp2_with fail
  refine (HC0.out _).mono ?_
  rintro e w3 ⟨rfl, rfl⟩
  go_wp2_with fail
  refine (HC1.out _).mono ?_
  rintro e w3 ⟨rfl, rfl⟩
  go_wp2_with fail
  refine (HC2.out _).mono ?_
  rintro e w3 ⟨rfl, rfl⟩
  go_wp2
  go_ret
  exact ⟨rfl, HB2.out⟩
set_option maxRecDepth 100000 in
set_option maxHeartbeats 2000000 in
theorem tkCheck_til (a : Nat → Addr) (t : Tk) (w : World) (h : EV tkS a w) (hs : t.who.size ≤ maxLen) (hs2 : t.dst.size ≤ maxLen) (hn : Sl.nameL t.who.data.toList = true) (hn2 : Sl.nameL t.dst.data.toList = true) (h0 : 1 ≤ t.epoch ∧ t.epoch ≤ 1073741824) (h1 : 1 ≤ t.ser ∧ t.ser ≤ 1073741824) (h2 : 0 ≤ t.frm ∧ t.frm ≤ 1000000) (h3 : ¬ (0 ≤ t.til ∧ t.til ≤ 1000000)) :
    Calls Tryd.prog 54 #[t.val] w fun e w' => e = .returned (eV (a 1)) ∧ Below w.heap.size w w' := by
  have HRow : Hid ((w.alloc (tkO t)).heap[w.heap.size]? = some (tkO t)) := heap_alloc_new _ _
  have HC0 := hide (fun w => isNum_any t.epoch w)
  rw [decide_eq_true h0] at HC0
  have HC1 := hide (fun w => isNum_any t.ser w)
  rw [decide_eq_true h1] at HC1
  have HC2 := hide (fun w => isTime_any t.frm w)
  rw [decide_eq_true h2] at HC2
  have HC3 := hide (fun w => isTime_any t.til w)
  rw [decide_eq_false h3] at HC3
  have HN := hide (fun w => name_any t.who w hs)
  have HN2 := hide (fun w => name_any t.dst w hs2)
  rw [hn] at HN
  rw [hn2] at HN2
  rw [tk_val]
  obtain ⟨who, dst, epoch, frm, til, ser⟩ := t
  have HE := hide h
  have HB : Hid (∀ o, Below w.heap.size w (w.alloc o)) := fun o => (Below.refl _ _).alloc (Nat.le_refl _) _
  dsimp only at *
  clear h hn hs hn2 hs2 h0 h1 h2 h3
  go_enter Tryd.func54, Tryd.ntmps54
  go_wp2_with fail
  refine (HN.out _).mono ?_
  rintro e w1 ⟨rfl, hb⟩
  have HB1 : Hid (Below w.heap.size w w1) := (HB.out _).trans (hb.mono (HB.out _).size)
  have HR1 : Hid (w1.heap[w.heap.size]? = some (tkO ⟨who, dst, epoch, frm, til, ser⟩)) := by show _ = _; rw [hb.block _ (by simp)]; exact HRow.out
  have hc1 := (tk_row HR1.out).2.1
  have HS1 : Hid (w.heap.size < w1.heap.size) := row_lt HR1.out
  clear hb HRow HN HB
  dsimp only at hc1
  go_wp2_with fail
  refine (HN2.out _).mono ?_
  rintro e w2 ⟨rfl, hb⟩
  have HB2 : Hid (Below w.heap.size w w2) := HB1.out.trans (hb.mono HB1.out.size)
  have HR2 : Hid (w2.heap[w.heap.size]? = some (tkO ⟨who, dst, epoch, frm, til, ser⟩)) := by show _ = _; rw [hb.block _ HS1.out]; exact HR1.out
  obtain ⟨hd0, hd1, hd2, hd3, hd4, hd5⟩ := tk_row HR2.out
  dsimp only at hd0 hd1 hd2 hd3 hd4 hd5
  have hv : w2.cell? ⟨0, 0, none⟩ = some (eV (a 1)) := (HE.out.below HB2.out).var 1 (by decide) rfl
  clear hb hc1 HB1 HS1 HR1 HR2 HN2 HE
  go_wp2_with fail
  refine (HC0.out _).mono ?_
  rintro e w3 ⟨rfl, rfl⟩
  go_wp2_with fail
  refine (HC1.out _).mono ?_
  rintro e w3 ⟨rfl, rfl⟩
  go_wp2_with fail
  refine (HC2.out _).mono ?_
  rintro e w3 ⟨rfl, rfl⟩
  go_wp2_with fail
  refine (HC3.out _).mono ?_
  rintro e w3 ⟨rfl, rfl⟩
  go_wp2
  go_ret
  exact ⟨rfl, HB2.out⟩
set_option maxRecDepth 100000 in
set_option maxHeartbeats 2000000 in
theorem tkCheck_span (a : Nat → Addr) (t : Tk) (w : World) (h : EV tkS a w) (hs : t.who.size ≤ maxLen) (hs2 : t.dst.size ≤ maxLen) (hn : Sl.nameL t.who.data.toList = true) (hn2 : Sl.nameL t.dst.data.toList = true) (h0 : 1 ≤ t.epoch ∧ t.epoch ≤ 1073741824) (h1 : 1 ≤ t.ser ∧ t.ser ≤ 1073741824) (h2 : 0 ≤ t.frm ∧ t.frm ≤ 1000000) (h3 : 0 ≤ t.til ∧ t.til ≤ 1000000) (h4 : t.til < t.frm) :
    Calls Tryd.prog 54 #[t.val] w fun e w' => e = .returned (eV (a 1)) ∧ Below w.heap.size w w' := by
  have HRow : Hid ((w.alloc (tkO t)).heap[w.heap.size]? = some (tkO t)) := heap_alloc_new _ _
  have HC0 := hide (fun w => isNum_any t.epoch w)
  rw [decide_eq_true h0] at HC0
  have HC1 := hide (fun w => isNum_any t.ser w)
  rw [decide_eq_true h1] at HC1
  have HC2 := hide (fun w => isTime_any t.frm w)
  rw [decide_eq_true h2] at HC2
  have HC3 := hide (fun w => isTime_any t.til w)
  rw [decide_eq_true h3] at HC3
  have HN := hide (fun w => name_any t.who w hs)
  have HN2 := hide (fun w => name_any t.dst w hs2)
  rw [hn] at HN
  rw [hn2] at HN2
  rw [tk_val]
  obtain ⟨who, dst, epoch, frm, til, ser⟩ := t
  have HE := hide h
  have HB : Hid (∀ o, Below w.heap.size w (w.alloc o)) := fun o => (Below.refl _ _).alloc (Nat.le_refl _) _
  dsimp only at *
  clear h hn hs hn2 hs2 h0 h1 h2 h3
  go_enter Tryd.func54, Tryd.ntmps54
  go_wp2_with fail
  refine (HN.out _).mono ?_
  rintro e w1 ⟨rfl, hb⟩
  have HB1 : Hid (Below w.heap.size w w1) := (HB.out _).trans (hb.mono (HB.out _).size)
  have HR1 : Hid (w1.heap[w.heap.size]? = some (tkO ⟨who, dst, epoch, frm, til, ser⟩)) := by show _ = _; rw [hb.block _ (by simp)]; exact HRow.out
  have hc1 := (tk_row HR1.out).2.1
  have HS1 : Hid (w.heap.size < w1.heap.size) := row_lt HR1.out
  clear hb HRow HN HB
  dsimp only at hc1
  go_wp2_with fail
  refine (HN2.out _).mono ?_
  rintro e w2 ⟨rfl, hb⟩
  have HB2 : Hid (Below w.heap.size w w2) := HB1.out.trans (hb.mono HB1.out.size)
  have HR2 : Hid (w2.heap[w.heap.size]? = some (tkO ⟨who, dst, epoch, frm, til, ser⟩)) := by show _ = _; rw [hb.block _ HS1.out]; exact HR1.out
  obtain ⟨hd0, hd1, hd2, hd3, hd4, hd5⟩ := tk_row HR2.out
  dsimp only at hd0 hd1 hd2 hd3 hd4 hd5
  have hv : w2.cell? ⟨0, 0, none⟩ = some (eV (a 1)) := (HE.out.below HB2.out).var 1 (by decide) rfl
  clear hb hc1 HB1 HS1 HR1 HR2 HN2 HE
  go_wp2_with fail
  refine (HC0.out _).mono ?_
  rintro e w3 ⟨rfl, rfl⟩
  go_wp2_with fail
  refine (HC1.out _).mono ?_
  rintro e w3 ⟨rfl, rfl⟩
  go_wp2_with fail
  refine (HC2.out _).mono ?_
  rintro e w3 ⟨rfl, rfl⟩
  go_wp2_with fail
  refine (HC3.out _).mono ?_
  rintro e w3 ⟨rfl, rfl⟩
  go_wp2
  go_ret
  exact ⟨rfl, HB2.out⟩
set_option maxRecDepth 100000 in
set_option maxHeartbeats 2000000 in
theorem tkCheck_ok (a : Nat → Addr) (t : Tk) (w : World) (h : EV tkS a w) (hs : t.who.size ≤ maxLen) (hs2 : t.dst.size ≤ maxLen) (hn : Sl.nameL t.who.data.toList = true) (hn2 : Sl.nameL t.dst.data.toList = true) (h0 : 1 ≤ t.epoch ∧ t.epoch ≤ 1073741824) (h1 : 1 ≤ t.ser ∧ t.ser ≤ 1073741824) (h2 : 0 ≤ t.frm ∧ t.frm ≤ 1000000) (h3 : 0 ≤ t.til ∧ t.til ≤ 1000000) (h4 : t.frm ≤ t.til) :
    Calls Tryd.prog 54 #[t.val] w fun e w' => e = .returned .nilIface ∧ Below w.heap.size w w' := by
  have HRow : Hid ((w.alloc (tkO t)).heap[w.heap.size]? = some (tkO t)) := heap_alloc_new _ _
  have HC0 := hide (fun w => isNum_any t.epoch w)
  rw [decide_eq_true h0] at HC0
  have HC1 := hide (fun w => isNum_any t.ser w)
  rw [decide_eq_true h1] at HC1
  have HC2 := hide (fun w => isTime_any t.frm w)
  rw [decide_eq_true h2] at HC2
  have HC3 := hide (fun w => isTime_any t.til w)
  rw [decide_eq_true h3] at HC3
  have HN := hide (fun w => name_any t.who w hs)
  have HN2 := hide (fun w => name_any t.dst w hs2)
  rw [hn] at HN
  rw [hn2] at HN2
  rw [tk_val]
  obtain ⟨who, dst, epoch, frm, til, ser⟩ := t
  have HE := hide h
  have HB : Hid (∀ o, Below w.heap.size w (w.alloc o)) := fun o => (Below.refl _ _).alloc (Nat.le_refl _) _
  dsimp only at *
  clear h hn hs hn2 hs2 h0 h1 h2 h3
  go_enter Tryd.func54, Tryd.ntmps54
  go_wp2_with fail
  refine (HN.out _).mono ?_
  rintro e w1 ⟨rfl, hb⟩
  have HB1 : Hid (Below w.heap.size w w1) := (HB.out _).trans (hb.mono (HB.out _).size)
  have HR1 : Hid (w1.heap[w.heap.size]? = some (tkO ⟨who, dst, epoch, frm, til, ser⟩)) := by show _ = _; rw [hb.block _ (by simp)]; exact HRow.out
  have hc1 := (tk_row HR1.out).2.1
  have HS1 : Hid (w.heap.size < w1.heap.size) := row_lt HR1.out
  clear hb HRow HN HB
  dsimp only at hc1
  go_wp2_with fail
  refine (HN2.out _).mono ?_
  rintro e w2 ⟨rfl, hb⟩
  have HB2 : Hid (Below w.heap.size w w2) := HB1.out.trans (hb.mono HB1.out.size)
  have HR2 : Hid (w2.heap[w.heap.size]? = some (tkO ⟨who, dst, epoch, frm, til, ser⟩)) := by show _ = _; rw [hb.block _ HS1.out]; exact HR1.out
  obtain ⟨hd0, hd1, hd2, hd3, hd4, hd5⟩ := tk_row HR2.out
  dsimp only at hd0 hd1 hd2 hd3 hd4 hd5
  have hv : w2.cell? ⟨0, 0, none⟩ = some (eV (a 1)) := (HE.out.below HB2.out).var 1 (by decide) rfl
  clear hb hc1 HB1 HS1 HR1 HR2 HN2 HE
  go_wp2_with fail
  refine (HC0.out _).mono ?_
  rintro e w3 ⟨rfl, rfl⟩
  go_wp2_with fail
  refine (HC1.out _).mono ?_
  rintro e w3 ⟨rfl, rfl⟩
  go_wp2_with fail
  refine (HC2.out _).mono ?_
  rintro e w3 ⟨rfl, rfl⟩
  go_wp2_with fail
  refine (HC3.out _).mono ?_
  rintro e w3 ⟨rfl, rfl⟩
  go_wp2
  go_ret
  exact ⟨rfl, HB2.out⟩

/-- Check: the error by its number. -/
theorem tkCheck_ev (a : Nat → Addr) (t : Tk) (w : World) (h : EV tkS a w) (hs : t.who.size ≤ maxLen) (hs2 : t.dst.size ≤ maxLen) :
    Calls Tryd.prog 54 #[t.val] w fun e w' => e = .returned (errV a t.err) ∧ Below w.heap.size w w' := by
  have e4 : t.names = false → t.err = 4 := fun g => by unfold Tk.err; rw [g]; rfl
  have e2 : t.names = true → ¬ t.nums → t.err = 2 := fun g g2 => by unfold Tk.err; rw [if_pos g, if_neg g2]
  cases hn : Sl.nameL t.who.data.toList with
  | false =>
    rw [e4 (by unfold Tk.names; rw [hn]; rfl)]
    exact tkCheck_name1 a t w h hs hn
  | true =>
    cases hn2 : Sl.nameL t.dst.data.toList with
    | false =>
      rw [e4 (by unfold Tk.names; rw [hn, hn2]; rfl)]
      exact tkCheck_name2 a t w h hs hs2 hn hn2
    | true =>
      have hnm : t.names = true := by unfold Tk.names; rw [hn, hn2]; rfl
      by_cases h0 : 1 ≤ t.epoch ∧ t.epoch ≤ 1073741824
      · by_cases h1 : 1 ≤ t.ser ∧ t.ser ≤ 1073741824
        · by_cases h2 : 0 ≤ t.frm ∧ t.frm ≤ 1000000
          · by_cases h3 : 0 ≤ t.til ∧ t.til ≤ 1000000
            · by_cases h4 : t.til < t.frm
              · rw [e2 hnm (fun g => by have := g.2.2.2.1; omega)]
                exact tkCheck_span a t w h hs hs2 hn hn2 h0 h1 h2 h3 h4
              · rw [(t.err_iff.2 ⟨hnm, h0, h1, h2, by omega, h3.2⟩)]
                exact tkCheck_ok a t w h hs hs2 hn hn2 h0 h1 h2 h3 (by omega)
            · rw [e2 hnm (fun g => h3 ⟨by have := g.2.2.2.1; omega, g.2.2.2.2⟩)]
              exact tkCheck_til a t w h hs hs2 hn hn2 h0 h1 h2 h3
          · rw [e2 hnm (fun g => h2 g.2.2.1)]
            exact tkCheck_frm a t w h hs hs2 hn hn2 h0 h1 h2
        · rw [e2 hnm (fun g => h1 g.2.1)]
          exact tkCheck_ser a t w h hs hs2 hn hn2 h0 h1
      · rw [e2 hnm (fun g => h0 g.1)]
        exact tkCheck_epoch a t w h hs hs2 hn hn2 h0
theorem tkCheck_any (a : Nat → Addr) (t : Tk) (w : World) (h : Errs a w) (hs : t.who.size ≤ maxLen) (hs2 : t.dst.size ≤ maxLen) :
    Calls Tryd.prog 54 #[t.val] w fun e w' => e = .returned (errV a t.err) ∧ Below w.heap.size w w' := tkCheck_ev a t w (h.ev _) hs hs2
end Go.Proofs.YteabincmopeljadDoor

/-
  What the functions of these parts do, and what holds of their plain forms: TicketDo, TicketDo2, TicketRenew, TicketRef, TicketRef2.
-/
import Derived.Test.YtabpnjchocgakaaGreatDoorPk00
import Derived.Test.YtabpnjchocgakaaGreatDoorSealWords
import Derived.Laws.NewBlocks
import Derived.RegionTactic
import Derived.Test.YtabpnjchocgakaaGreatDoorPk01
import Derived.Test.YtabpnjchocgakaaGreatDoorSealRef
namespace Go.Proofs.YtabpnjchocgakaaGreatDoor
open Go.RowKit Go.Extern.Stop Go.Stop Go.Extern
theorem isNum_any (n : Int) (w : World) :
  Calls Tryz.prog 189 #[.int .i64 n] w fun e w' => e = .returned (.bool (decide (1 ≤ n ∧ n ≤ 1073741824))) ∧ w' = w := by
 by_cases h1 : 1 ≤ n
 ·
  by_cases h2 : n ≤ 1073741824
  ·
   rw [decide_eq_true ⟨h1, h2⟩]
   go_enter Tryz.func189, Tryz.ntmps189
   go_wp2
   go_ret
   exact ⟨rfl, rfl⟩
  ·
   rw [decide_eq_false (fun h => h2 h.2)]
   go_enter Tryz.func189, Tryz.ntmps189
   go_wp2
   go_ret
   exact ⟨by simp_all, rfl⟩
 ·
  rw [decide_eq_false (fun h => h1 h.1)]
  go_enter Tryz.func189, Tryz.ntmps189
  go_wp2
  go_ret
  exact ⟨rfl, rfl⟩
theorem isTime_any (n : Int) (w : World) :
  Calls Tryz.prog 163 #[.int .i64 n] w fun e w' => e = .returned (.bool (decide (0 ≤ n ∧ n ≤ 1000000))) ∧ w' = w := by
 by_cases h1 : 0 ≤ n
 ·
  by_cases h2 : n ≤ 1000000
  ·
   rw [decide_eq_true ⟨h1, h2⟩]
   go_enter Tryz.func163, Tryz.ntmps163
   go_wp2
   go_ret
   exact ⟨rfl, rfl⟩
  ·
   rw [decide_eq_false (fun h => h2 h.2)]
   go_enter Tryz.func163, Tryz.ntmps163
   go_wp2
   go_ret
   exact ⟨by simp_all, rfl⟩
 ·
  rw [decide_eq_false (fun h => h1 h.1)]
  go_enter Tryz.func163, Tryz.ntmps163
  go_wp2
  go_ret
  exact ⟨rfl, rfl⟩
abbrev tkO (t : Tk) : Obj := .cells #[.string t.who, .string t.dst, .int .i64 t.epoch, .int .i64 t.frm, .int .i64 t.til, .int .i64 t.ser] 51 (0, 0)
theorem tk_row {w : World} {g : Nat} {t : Tk} (h : w.heap[g]? = some (tkO t)) :
  w.cell? ⟨g, 0, none⟩ = some (.string t.who) ∧ w.cell? ⟨g, 1, none⟩ = some (.string t.dst) ∧ w.cell? ⟨g, 2, none⟩ = some (.int .i64 t.epoch) ∧ w.cell? ⟨g, 3, none⟩ = some (.int .i64 t.frm) ∧ w.cell? ⟨g, 4, none⟩ = some (.int .i64 t.til) ∧ w.cell? ⟨g, 5, none⟩ = some (.int .i64 t.ser) :=
 ⟨cell_of_row w g 0 _ _ _ h, cell_of_row w g 1 _ _ _ h, cell_of_row w g 2 _ _ _ h, cell_of_row w g 3 _ _ _ h, cell_of_row w g 4 _ _ _ h, cell_of_row w g 5 _ _ _ h⟩
theorem tk_val (t : Tk) : t.val = .agg #[.string t.who, .string t.dst, .int .i64 t.epoch, .int .i64 t.frm, .int .i64 t.til, .int .i64 t.ser] := rfl
def tkS (i : Nat) : Bool := i == 1 || i == 3 || i == 10 || i == 11
set_option maxRecDepth 100000 in
set_option maxHeartbeats 1000000 in
theorem tkCheck_name1 (a : Nat → Addr) (t : Tk) (w : World) (h : EV tkS a w) (hs : t.who.size ≤ maxLen) (hn : Sl.nameL t.who.data.toList = false) :
  Calls Tryz.prog 148 #[t.val] w fun e w' => e = .returned (eV (a 3)) ∧ Below w.heap.size w w' := by
 rw [tk_val]
 obtain ⟨who, dst, epoch, frm, til, ser⟩ := t
 have HN := hide (fun w => name_any who w hs)
 rw [hn] at HN
 have HE := hide h
 have HB : Hid (∀ o, Below w.heap.size w (w.alloc o)) := fun o => (Below.refl _ _).alloc (Nat.le_refl _) _
 clear h hn hs
 go_enter Tryz.func148, Tryz.ntmps148
 go_wp2_with fail
 refine (HN.out _).mono ?_
 rintro e w1 ⟨rfl, hb⟩
 have HB1 : Hid (Below w.heap.size w w1) := (HB.out _).trans (hb.mono (HB.out _).size)
 have hv : w1.cell? ⟨2, 0, none⟩ = some (eV (a 3)) := (HE.out.below HB1.out).var 3 (by decide) rfl
 clear hb
 go_wp2
 go_ret
 exact ⟨rfl, HB1.out⟩
set_option maxRecDepth 100000 in
set_option maxHeartbeats 1000000 in
theorem tkCheck_name2 (a : Nat → Addr) (t : Tk) (w : World) (h : EV tkS a w) (hs : t.who.size ≤ maxLen) (hs2 : t.dst.size ≤ maxLen) (hn : Sl.nameL t.who.data.toList = true) (hn2 : Sl.nameL t.dst.data.toList = false) :
  Calls Tryz.prog 148 #[t.val] w fun e w' => e = .returned (eV (a 3)) ∧ Below w.heap.size w w' := by
 have HRow : Hid ((w.alloc (tkO t)).heap[w.heap.size]? = some (tkO t)) := heap_alloc_new _ _
 rw [tk_val]
 obtain ⟨who, dst, epoch, frm, til, ser⟩ := t
 have HN := hide (fun w => name_any who w hs)
 have HN2 := hide (fun w => name_any dst w hs2)
 rw [hn] at HN
 rw [hn2] at HN2
 have HE := hide h
 have HB : Hid (∀ o, Below w.heap.size w (w.alloc o)) := fun o => (Below.refl _ _).alloc (Nat.le_refl _) _
 clear h hn hs hn2 hs2
 go_enter Tryz.func148, Tryz.ntmps148
 go_wp2_with fail
 refine (HN.out _).mono ?_
 rintro e w1 ⟨rfl, hb⟩
 have HB1 : Hid (Below w.heap.size w w1) := (HB.out _).trans (hb.mono (HB.out _).size)
 have HR1 : Hid (w1.heap[w.heap.size]? = some (tkO ⟨who, dst, epoch, frm, til, ser⟩)) := by show _ = _; rw [hb.block _ (by simp)]; exact HRow.out
 have hc1 := (tk_row HR1.out).2.1
 dsimp only at hc1
 clear hb
 go_wp2_with fail
 refine (HN2.out _).mono ?_
 rintro e w2 ⟨rfl, hb⟩
 have HB2 : Hid (Below w.heap.size w w2) := HB1.out.trans (hb.mono HB1.out.size)
 have hv : w2.cell? ⟨2, 0, none⟩ = some (eV (a 3)) := (HE.out.below HB2.out).var 3 (by decide) rfl
 clear hb hc1
 go_wp2
 go_ret
 exact ⟨rfl, HB2.out⟩
set_option maxRecDepth 100000 in
set_option maxHeartbeats 2000000 in
theorem tkCheck_epoch (a : Nat → Addr) (t : Tk) (w : World) (h : EV tkS a w) (hs : t.who.size ≤ maxLen) (hs2 : t.dst.size ≤ maxLen) (hn : Sl.nameL t.who.data.toList = true) (hn2 : Sl.nameL t.dst.data.toList = true) (h0 : ¬ (1 ≤ t.epoch ∧ t.epoch ≤ 1073741824)) :
  Calls Tryz.prog 148 #[t.val] w fun e w' => e = .returned (eV (a 1)) ∧ Below w.heap.size w w' := by
 have HRow : Hid ((w.alloc (tkO t)).heap[w.heap.size]? = some (tkO t)) := heap_alloc_new _ _
 have HC0 := hide (fun w => isNum_any t.epoch w)
 rw [decide_eq_false h0] at HC0
 have HN := hide (fun w => name_any t.who w hs)
 have HN2 := hide (fun w => name_any t.dst w hs2)
 rw [hn] at HN
 rw [hn2] at HN2
 rw [tk_val]
 obtain ⟨who, dst, epoch, frm, til, ser⟩ := t
 have HE := hide h
 have HB : Hid (∀ o, Below w.heap.size w (w.alloc o)) := fun o => (Below.refl _ _).alloc (Nat.le_refl _) _
 dsimp only at *
 clear h hn hs hn2 hs2 h0
 go_enter Tryz.func148, Tryz.ntmps148
 go_wp2_with fail
 refine (HN.out _).mono ?_
 rintro e w1 ⟨rfl, hb⟩
 have HB1 : Hid (Below w.heap.size w w1) := (HB.out _).trans (hb.mono (HB.out _).size)
 have HR1 : Hid (w1.heap[w.heap.size]? = some (tkO ⟨who, dst, epoch, frm, til, ser⟩)) := by show _ = _; rw [hb.block _ (by simp)]; exact HRow.out
 have hc1 := (tk_row HR1.out).2.1
 have HS1 : Hid (w.heap.size < w1.heap.size) := row_lt HR1.out
 clear hb HRow HN HB
 dsimp only at hc1
 go_wp2_with fail
 refine (HN2.out _).mono ?_
 rintro e w2 ⟨rfl, hb⟩
 have HB2 : Hid (Below w.heap.size w w2) := HB1.out.trans (hb.mono HB1.out.size)
 have HR2 : Hid (w2.heap[w.heap.size]? = some (tkO ⟨who, dst, epoch, frm, til, ser⟩)) := by show _ = _; rw [hb.block _ HS1.out]; exact HR1.out
 obtain ⟨hd0, hd1, hd2, hd3, hd4, hd5⟩ := tk_row HR2.out
 dsimp only at hd0 hd1 hd2 hd3 hd4 hd5
 have hv : w2.cell? ⟨0, 0, none⟩ = some (eV (a 1)) := (HE.out.below HB2.out).var 1 (by decide) rfl
 clear hb hc1 HB1 HS1 HR1 HR2 HN2 HE
 go_wp2_with fail
 refine (HC0.out _).mono ?_
 rintro e w3 ⟨rfl, rfl⟩
 go_wp2
 go_ret
 exact ⟨rfl, HB2.out⟩
set_option maxRecDepth 100000 in
set_option maxHeartbeats 2000000 in
theorem tkCheck_ser (a : Nat → Addr) (t : Tk) (w : World) (h : EV tkS a w) (hs : t.who.size ≤ maxLen) (hs2 : t.dst.size ≤ maxLen) (hn : Sl.nameL t.who.data.toList = true) (hn2 : Sl.nameL t.dst.data.toList = true) (h0 : 1 ≤ t.epoch ∧ t.epoch ≤ 1073741824) (h1 : ¬ (1 ≤ t.ser ∧ t.ser ≤ 1073741824)) :
  Calls Tryz.prog 148 #[t.val] w fun e w' => e = .returned (eV (a 1)) ∧ Below w.heap.size w w' := by
 have HRow : Hid ((w.alloc (tkO t)).heap[w.heap.size]? = some (tkO t)) := heap_alloc_new _ _
 have HC0 := hide (fun w => isNum_any t.epoch w)
 rw [decide_eq_true h0] at HC0
 have HC1 := hide (fun w => isNum_any t.ser w)
 rw [decide_eq_false h1] at HC1
 have HN := hide (fun w => name_any t.who w hs)
 have HN2 := hide (fun w => name_any t.dst w hs2)
 rw [hn] at HN
 rw [hn2] at HN2
 rw [tk_val]
 obtain ⟨who, dst, epoch, frm, til, ser⟩ := t
 have HE := hide h
 have HB : Hid (∀ o, Below w.heap.size w (w.alloc o)) := fun o => (Below.refl _ _).alloc (Nat.le_refl _) _
 dsimp only at *
 clear h hn hs hn2 hs2 h0 h1
 go_enter Tryz.func148, Tryz.ntmps148
 go_wp2_with fail
 refine (HN.out _).mono ?_
 rintro e w1 ⟨rfl, hb⟩
 have HB1 : Hid (Below w.heap.size w w1) := (HB.out _).trans (hb.mono (HB.out _).size)
 have HR1 : Hid (w1.heap[w.heap.size]? = some (tkO ⟨who, dst, epoch, frm, til, ser⟩)) := by show _ = _; rw [hb.block _ (by simp)]; exact HRow.out
 have hc1 := (tk_row HR1.out).2.1
 have HS1 : Hid (w.heap.size < w1.heap.size) := row_lt HR1.out
 clear hb HRow HN HB
 dsimp only at hc1
 go_wp2_with fail
 refine (HN2.out _).mono ?_
 rintro e w2 ⟨rfl, hb⟩
 have HB2 : Hid (Below w.heap.size w w2) := HB1.out.trans (hb.mono HB1.out.size)
 have HR2 : Hid (w2.heap[w.heap.size]? = some (tkO ⟨who, dst, epoch, frm, til, ser⟩)) := by show _ = _; rw [hb.block _ HS1.out]; exact HR1.out
 obtain ⟨hd0, hd1, hd2, hd3, hd4, hd5⟩ := tk_row HR2.out
 dsimp only at hd0 hd1 hd2 hd3 hd4 hd5
 have hv : w2.cell? ⟨0, 0, none⟩ = some (eV (a 1)) := (HE.out.below HB2.out).var 1 (by decide) rfl
 clear hb hc1 HB1 HS1 HR1 HR2 HN2 HE
 go_wp2_with fail
 refine (HC0.out _).mono ?_
 rintro e w3 ⟨rfl, rfl⟩
 go_wp2_with fail
 refine (HC1.out _).mono ?_
 rintro e w3 ⟨rfl, rfl⟩
 go_wp2
 go_ret
 exact ⟨rfl, HB2.out⟩
set_option maxRecDepth 100000 in
set_option maxHeartbeats 2000000 in
theorem tkCheck_frm (a : Nat → Addr) (t : Tk) (w : World) (h : EV tkS a w) (hs : t.who.size ≤ maxLen) (hs2 : t.dst.size ≤ maxLen) (hn : Sl.nameL t.who.data.toList = true) (hn2 : Sl.nameL t.dst.data.toList = true) (h0 : 1 ≤ t.epoch ∧ t.epoch ≤ 1073741824) (h1 : 1 ≤ t.ser ∧ t.ser ≤ 1073741824) (h2 : ¬ (0 ≤ t.frm ∧ t.frm ≤ 1000000)) :
  Calls Tryz.prog 148 #[t.val] w fun e w' => e = .returned (eV (a 1)) ∧ Below w.heap.size w w' := by
 have HRow : Hid ((w.alloc (tkO t)).heap[w.heap.size]? = some (tkO t)) := heap_alloc_new _ _
 have HC0 := hide (fun w => isNum_any t.epoch w)
 rw [decide_eq_true h0] at HC0
 have HC1 := hide (fun w => isNum_any t.ser w)
 rw [decide_eq_true h1] at HC1
 have HC2 := hide (fun w => isTime_any t.frm w)
 rw [decide_eq_false h2] at HC2
 have HN := hide (fun w => name_any t.who w hs)
 have HN2 := hide (fun w => name_any t.dst w hs2)
 rw [hn] at HN
 rw [hn2] at HN2
 rw [tk_val]
 obtain ⟨who, dst, epoch, frm, til, ser⟩ := t
 have HE := hide h
 have HB : Hid (∀ o, Below w.heap.size w (w.alloc o)) := fun o => (Below.refl _ _).alloc (Nat.le_refl _) _
 dsimp only at *
 clear h hn hs hn2 hs2 h0 h1 h2
 go_enter Tryz.func148, Tryz.ntmps148
 go_wp2_with fail
 refine (HN.out _).mono ?_
 rintro e w1 ⟨rfl, hb⟩
 have HB1 : Hid (Below w.heap.size w w1) := (HB.out _).trans (hb.mono (HB.out _).size)
 have HR1 : Hid (w1.heap[w.heap.size]? = some (tkO ⟨who, dst, epoch, frm, til, ser⟩)) := by show _ = _; rw [hb.block _ (by simp)]; exact HRow.out
 have hc1 := (tk_row HR1.out).2.1
 have HS1 : Hid (w.heap.size < w1.heap.size) := row_lt HR1.out
 clear hb HRow HN HB
 dsimp only at hc1
 go_wp2_with fail
 refine (HN2.out _).mono ?_
 rintro e w2 ⟨rfl, hb⟩
 have HB2 : Hid (Below w.heap.size w w2) := HB1.out.trans (hb.mono HB1.out.size)
 have HR2 : Hid (w2.heap[w.heap.size]? = some (tkO ⟨who, dst, epoch, frm, til, ser⟩)) := by show _ = _; rw [hb.block _ HS1.out]; exact HR1.out
 obtain ⟨hd0, hd1, hd2, hd3, hd4, hd5⟩ := tk_row HR2.out
 dsimp only at hd0 hd1 hd2 hd3 hd4 hd5
 have hv : w2.cell? ⟨0, 0, none⟩ = some (eV (a 1)) := (HE.out.below HB2.out).var 1 (by decide) rfl
 clear hb hc1 HB1 HS1 HR1 HR2 HN2 HE
 go_wp2_with fail
 refine (HC0.out _).mono ?_
 rintro e w3 ⟨rfl, rfl⟩
 go_wp2_with fail
 refine (HC1.out _).mono ?_
 rintro e w3 ⟨rfl, rfl⟩
 go_wp2_with fail
 refine (HC2.out _).mono ?_
 rintro e w3 ⟨rfl, rfl⟩
 go_wp2
 go_ret
 exact ⟨rfl, HB2.out⟩
set_option maxRecDepth 100000 in
set_option maxHeartbeats 2000000 in
theorem tkCheck_til (a : Nat → Addr) (t : Tk) (w : World) (h : EV tkS a w) (hs : t.who.size ≤ maxLen) (hs2 : t.dst.size ≤ maxLen) (hn : Sl.nameL t.who.data.toList = true) (hn2 : Sl.nameL t.dst.data.toList = true) (h0 : 1 ≤ t.epoch ∧ t.epoch ≤ 1073741824) (h1 : 1 ≤ t.ser ∧ t.ser ≤ 1073741824) (h2 : 0 ≤ t.frm ∧ t.frm ≤ 1000000) (h3 : ¬ (0 ≤ t.til ∧ t.til ≤ 1000000)) :
  Calls Tryz.prog 148 #[t.val] w fun e w' => e = .returned (eV (a 1)) ∧ Below w.heap.size w w' := by
 have HRow : Hid ((w.alloc (tkO t)).heap[w.heap.size]? = some (tkO t)) := heap_alloc_new _ _
 have HC0 := hide (fun w => isNum_any t.epoch w)
 rw [decide_eq_true h0] at HC0
 have HC1 := hide (fun w => isNum_any t.ser w)
 rw [decide_eq_true h1] at HC1
 have HC2 := hide (fun w => isTime_any t.frm w)
 rw [decide_eq_true h2] at HC2
 have HC3 := hide (fun w => isTime_any t.til w)
 rw [decide_eq_false h3] at HC3
 have HN := hide (fun w => name_any t.who w hs)
 have HN2 := hide (fun w => name_any t.dst w hs2)
 rw [hn] at HN
 rw [hn2] at HN2
 rw [tk_val]
 obtain ⟨who, dst, epoch, frm, til, ser⟩ := t
 have HE := hide h
 have HB : Hid (∀ o, Below w.heap.size w (w.alloc o)) := fun o => (Below.refl _ _).alloc (Nat.le_refl _) _
 dsimp only at *
 clear h hn hs hn2 hs2 h0 h1 h2 h3
 go_enter Tryz.func148, Tryz.ntmps148
 go_wp2_with fail
 refine (HN.out _).mono ?_
 rintro e w1 ⟨rfl, hb⟩
 have HB1 : Hid (Below w.heap.size w w1) := (HB.out _).trans (hb.mono (HB.out _).size)
 have HR1 : Hid (w1.heap[w.heap.size]? = some (tkO ⟨who, dst, epoch, frm, til, ser⟩)) := by show _ = _; rw [hb.block _ (by simp)]; exact HRow.out
 have hc1 := (tk_row HR1.out).2.1
 have HS1 : Hid (w.heap.size < w1.heap.size) := row_lt HR1.out
 clear hb HRow HN HB
 dsimp only at hc1
 go_wp2_with fail
 refine (HN2.out _).mono ?_
 rintro e w2 ⟨rfl, hb⟩
 have HB2 : Hid (Below w.heap.size w w2) := HB1.out.trans (hb.mono HB1.out.size)
 have HR2 : Hid (w2.heap[w.heap.size]? = some (tkO ⟨who, dst, epoch, frm, til, ser⟩)) := by show _ = _; rw [hb.block _ HS1.out]; exact HR1.out
 obtain ⟨hd0, hd1, hd2, hd3, hd4, hd5⟩ := tk_row HR2.out
 dsimp only at hd0 hd1 hd2 hd3 hd4 hd5
 have hv : w2.cell? ⟨0, 0, none⟩ = some (eV (a 1)) := (HE.out.below HB2.out).var 1 (by decide) rfl
 clear hb hc1 HB1 HS1 HR1 HR2 HN2 HE
 go_wp2_with fail
 refine (HC0.out _).mono ?_
 rintro e w3 ⟨rfl, rfl⟩
 go_wp2_with fail
 refine (HC1.out _).mono ?_
 rintro e w3 ⟨rfl, rfl⟩
 go_wp2_with fail
 refine (HC2.out _).mono ?_
 rintro e w3 ⟨rfl, rfl⟩
 go_wp2_with fail
 refine (HC3.out _).mono ?_
 rintro e w3 ⟨rfl, rfl⟩
 go_wp2
 go_ret
 exact ⟨rfl, HB2.out⟩
set_option maxRecDepth 100000 in
set_option maxHeartbeats 2000000 in
theorem tkCheck_span (a : Nat → Addr) (t : Tk) (w : World) (h : EV tkS a w) (hs : t.who.size ≤ maxLen) (hs2 : t.dst.size ≤ maxLen) (hn : Sl.nameL t.who.data.toList = true) (hn2 : Sl.nameL t.dst.data.toList = true) (h0 : 1 ≤ t.epoch ∧ t.epoch ≤ 1073741824) (h1 : 1 ≤ t.ser ∧ t.ser ≤ 1073741824) (h2 : 0 ≤ t.frm ∧ t.frm ≤ 1000000) (h3 : 0 ≤ t.til ∧ t.til ≤ 1000000) (h4 : t.til < t.frm) :
  Calls Tryz.prog 148 #[t.val] w fun e w' => e = .returned (eV (a 1)) ∧ Below w.heap.size w w' := by
 have HRow : Hid ((w.alloc (tkO t)).heap[w.heap.size]? = some (tkO t)) := heap_alloc_new _ _
 have HC0 := hide (fun w => isNum_any t.epoch w)
 rw [decide_eq_true h0] at HC0
 have HC1 := hide (fun w => isNum_any t.ser w)
 rw [decide_eq_true h1] at HC1
 have HC2 := hide (fun w => isTime_any t.frm w)
 rw [decide_eq_true h2] at HC2
 have HC3 := hide (fun w => isTime_any t.til w)
 rw [decide_eq_true h3] at HC3
 have HN := hide (fun w => name_any t.who w hs)
 have HN2 := hide (fun w => name_any t.dst w hs2)
 rw [hn] at HN
 rw [hn2] at HN2
 rw [tk_val]
 obtain ⟨who, dst, epoch, frm, til, ser⟩ := t
 have HE := hide h
 have HB : Hid (∀ o, Below w.heap.size w (w.alloc o)) := fun o => (Below.refl _ _).alloc (Nat.le_refl _) _
 dsimp only at *
 clear h hn hs hn2 hs2 h0 h1 h2 h3
 go_enter Tryz.func148, Tryz.ntmps148
 go_wp2_with fail
 refine (HN.out _).mono ?_
 rintro e w1 ⟨rfl, hb⟩
 have HB1 : Hid (Below w.heap.size w w1) := (HB.out _).trans (hb.mono (HB.out _).size)
 have HR1 : Hid (w1.heap[w.heap.size]? = some (tkO ⟨who, dst, epoch, frm, til, ser⟩)) := by show _ = _; rw [hb.block _ (by simp)]; exact HRow.out
 have hc1 := (tk_row HR1.out).2.1
 have HS1 : Hid (w.heap.size < w1.heap.size) := row_lt HR1.out
 clear hb HRow HN HB
 dsimp only at hc1
 go_wp2_with fail
 refine (HN2.out _).mono ?_
 rintro e w2 ⟨rfl, hb⟩
 have HB2 : Hid (Below w.heap.size w w2) := HB1.out.trans (hb.mono HB1.out.size)
 have HR2 : Hid (w2.heap[w.heap.size]? = some (tkO ⟨who, dst, epoch, frm, til, ser⟩)) := by show _ = _; rw [hb.block _ HS1.out]; exact HR1.out
 obtain ⟨hd0, hd1, hd2, hd3, hd4, hd5⟩ := tk_row HR2.out
 dsimp only at hd0 hd1 hd2 hd3 hd4 hd5
 have hv : w2.cell? ⟨0, 0, none⟩ = some (eV (a 1)) := (HE.out.below HB2.out).var 1 (by decide) rfl
 clear hb hc1 HB1 HS1 HR1 HR2 HN2 HE
 go_wp2_with fail
 refine (HC0.out _).mono ?_
 rintro e w3 ⟨rfl, rfl⟩
 go_wp2_with fail
 refine (HC1.out _).mono ?_
 rintro e w3 ⟨rfl, rfl⟩
 go_wp2_with fail
 refine (HC2.out _).mono ?_
 rintro e w3 ⟨rfl, rfl⟩
 go_wp2_with fail
 refine (HC3.out _).mono ?_
 rintro e w3 ⟨rfl, rfl⟩
 go_wp2
 go_ret
 exact ⟨rfl, HB2.out⟩
set_option maxRecDepth 100000 in
set_option maxHeartbeats 2000000 in
theorem tkCheck_ok (a : Nat → Addr) (t : Tk) (w : World) (h : EV tkS a w) (hs : t.who.size ≤ maxLen) (hs2 : t.dst.size ≤ maxLen) (hn : Sl.nameL t.who.data.toList = true) (hn2 : Sl.nameL t.dst.data.toList = true) (h0 : 1 ≤ t.epoch ∧ t.epoch ≤ 1073741824) (h1 : 1 ≤ t.ser ∧ t.ser ≤ 1073741824) (h2 : 0 ≤ t.frm ∧ t.frm ≤ 1000000) (h3 : 0 ≤ t.til ∧ t.til ≤ 1000000) (h4 : t.frm ≤ t.til) :
  Calls Tryz.prog 148 #[t.val] w fun e w' => e = .returned .nilIface ∧ Below w.heap.size w w' := by
 have HRow : Hid ((w.alloc (tkO t)).heap[w.heap.size]? = some (tkO t)) := heap_alloc_new _ _
 have HC0 := hide (fun w => isNum_any t.epoch w)
 rw [decide_eq_true h0] at HC0
 have HC1 := hide (fun w => isNum_any t.ser w)
 rw [decide_eq_true h1] at HC1
 have HC2 := hide (fun w => isTime_any t.frm w)
 rw [decide_eq_true h2] at HC2
 have HC3 := hide (fun w => isTime_any t.til w)
 rw [decide_eq_true h3] at HC3
 have HN := hide (fun w => name_any t.who w hs)
 have HN2 := hide (fun w => name_any t.dst w hs2)
 rw [hn] at HN
 rw [hn2] at HN2
 rw [tk_val]
 obtain ⟨who, dst, epoch, frm, til, ser⟩ := t
 have HE := hide h
 have HB : Hid (∀ o, Below w.heap.size w (w.alloc o)) := fun o => (Below.refl _ _).alloc (Nat.le_refl _) _
 dsimp only at *
 clear h hn hs hn2 hs2 h0 h1 h2 h3
 go_enter Tryz.func148, Tryz.ntmps148
 go_wp2_with fail
 refine (HN.out _).mono ?_
 rintro e w1 ⟨rfl, hb⟩
 have HB1 : Hid (Below w.heap.size w w1) := (HB.out _).trans (hb.mono (HB.out _).size)
 have HR1 : Hid (w1.heap[w.heap.size]? = some (tkO ⟨who, dst, epoch, frm, til, ser⟩)) := by show _ = _; rw [hb.block _ (by simp)]; exact HRow.out
 have hc1 := (tk_row HR1.out).2.1
 have HS1 : Hid (w.heap.size < w1.heap.size) := row_lt HR1.out
 clear hb HRow HN HB
 dsimp only at hc1
 go_wp2_with fail
 refine (HN2.out _).mono ?_
 rintro e w2 ⟨rfl, hb⟩
 have HB2 : Hid (Below w.heap.size w w2) := HB1.out.trans (hb.mono HB1.out.size)
 have HR2 : Hid (w2.heap[w.heap.size]? = some (tkO ⟨who, dst, epoch, frm, til, ser⟩)) := by show _ = _; rw [hb.block _ HS1.out]; exact HR1.out
 obtain ⟨hd0, hd1, hd2, hd3, hd4, hd5⟩ := tk_row HR2.out
 dsimp only at hd0 hd1 hd2 hd3 hd4 hd5
 have hv : w2.cell? ⟨0, 0, none⟩ = some (eV (a 1)) := (HE.out.below HB2.out).var 1 (by decide) rfl
 clear hb hc1 HB1 HS1 HR1 HR2 HN2 HE
 go_wp2_with fail
 refine (HC0.out _).mono ?_
 rintro e w3 ⟨rfl, rfl⟩
 go_wp2_with fail
 refine (HC1.out _).mono ?_
 rintro e w3 ⟨rfl, rfl⟩
 go_wp2_with fail
 refine (HC2.out _).mono ?_
 rintro e w3 ⟨rfl, rfl⟩
 go_wp2_with fail
 refine (HC3.out _).mono ?_
 rintro e w3 ⟨rfl, rfl⟩
 go_wp2
 go_ret
 exact ⟨rfl, HB2.out⟩
theorem tkCheck_ev (a : Nat → Addr) (t : Tk) (w : World) (h : EV tkS a w) (hs : t.who.size ≤ maxLen) (hs2 : t.dst.size ≤ maxLen) :
  Calls Tryz.prog 148 #[t.val] w fun e w' => e = .returned (errV a t.err) ∧ Below w.heap.size w w' := by
 have e4 : t.names = false → t.err = 4 := fun g => by unfold Tk.err; rw [g]; rfl
 have e2 : t.names = true → ¬ t.nums → t.err = 2 := fun g g2 => by unfold Tk.err; rw [if_pos g, if_neg g2]
 cases hn : Sl.nameL t.who.data.toList with
 | false =>
  rw [e4 (by unfold Tk.names; rw [hn]; rfl)]
  exact tkCheck_name1 a t w h hs hn
 | true =>
  cases hn2 : Sl.nameL t.dst.data.toList with
  | false =>
   rw [e4 (by unfold Tk.names; rw [hn, hn2]; rfl)]
   exact tkCheck_name2 a t w h hs hs2 hn hn2
  | true =>
   have hnm : t.names = true := by unfold Tk.names; rw [hn, hn2]; rfl
   by_cases h0 : 1 ≤ t.epoch ∧ t.epoch ≤ 1073741824
   ·
    by_cases h1 : 1 ≤ t.ser ∧ t.ser ≤ 1073741824
    ·
     by_cases h2 : 0 ≤ t.frm ∧ t.frm ≤ 1000000
     ·
      by_cases h3 : 0 ≤ t.til ∧ t.til ≤ 1000000
      ·
       by_cases h4 : t.til < t.frm
       ·
        rw [e2 hnm (fun g => by have := g.2.2.2.1; omega)]
        exact tkCheck_span a t w h hs hs2 hn hn2 h0 h1 h2 h3 h4
       ·
        rw [(t.err_iff.2 ⟨hnm, h0, h1, h2, by omega, h3.2⟩)]
        exact tkCheck_ok a t w h hs hs2 hn hn2 h0 h1 h2 h3 (by omega)
      ·
       rw [e2 hnm (fun g => h3 ⟨by have := g.2.2.2.1; omega, g.2.2.2.2⟩)]
       exact tkCheck_til a t w h hs hs2 hn hn2 h0 h1 h2 h3
     ·
      rw [e2 hnm (fun g => h2 g.2.2.1)]
      exact tkCheck_frm a t w h hs hs2 hn hn2 h0 h1 h2
    ·
     rw [e2 hnm (fun g => h1 g.2.1)]
     exact tkCheck_ser a t w h hs hs2 hn hn2 h0 h1
   ·
    rw [e2 hnm (fun g => h0 g.1)]
    exact tkCheck_epoch a t w h hs hs2 hn hn2 h0
theorem tkCheck_any (a : Nat → Addr) (t : Tk) (w : World) (h : Errs a w) (hs : t.who.size ≤ maxLen) (hs2 : t.dst.size ≤ maxLen) :
  Calls Tryz.prog 148 #[t.val] w fun e w' => e = .returned (errV a t.err) ∧ Below w.heap.size w w' := tkCheck_ev a t w (h.ev _) hs hs2
theorem tkEnd {fn : Func} {p u : Tmp} (hr : fn.results = #[.cell p 51, .tmp u]) {a : Act} {w : World} {R : Ending → World → Prop} (g : Nat) (t : Tk) (hp : a.tmps.getD p undef = .pointer (some ⟨g, 0, none⟩)) (hg : w.heap[g]? = some (tkO t)) (hd : a.defers = [])
  (hR : R (.returned (.tuple #[t.val, a.tmps.getD u undef])) w) : bodyPost Tryz.prog fn R .ret a w :=
 bodyPost_ret (results_row_tmp hr a.tmps w g _ _ (0, 0) _ hp hg Tryz.underlying51 rfl (by kernel_rfl)) hd hR
theorem row_set6 {w : World} {g : Nat} {t : TypeId} {x0 x1 x2 x3 x4 x5 : Value} (h : w.heap[g]? = some (.cells #[x0, x1, x2, x3, x4, x5] t (0, 0))) (a b c d e f : Value) :
  ((((((w.setCell ⟨g, 0, none⟩ a).setCell ⟨g, 1, none⟩ b).setCell ⟨g, 2, none⟩ c).setCell ⟨g, 3, none⟩ d).setCell ⟨g, 4, none⟩ e).setCell ⟨g, 5, none⟩ f).heap[g]? = some (.cells #[a, b, c, d, e, f] t (0, 0)) := by
 have h1 := heap_setCell_same w g 0 _ t a h
 have h2 := heap_setCell_same _ g 1 _ t b h1
 have h3 := heap_setCell_same _ g 2 _ t c h2
 have h4 := heap_setCell_same _ g 3 _ t d h3
 have h5 := heap_setCell_same _ g 4 _ t e h4
 have h6 := heap_setCell_same _ g 5 _ t f h5
 exact h6
theorem row_frozen6 {w : World} {g : Nat} {t : Tk} (h : w.heap[g]? = some (tkO t)) :
  w.frozen? ⟨g, 0, none⟩ = false ∧ w.frozen? ⟨g, 1, none⟩ = false ∧ w.frozen? ⟨g, 2, none⟩ = false ∧ w.frozen? ⟨g, 3, none⟩ = false ∧ w.frozen? ⟨g, 4, none⟩ = false ∧ w.frozen? ⟨g, 5, none⟩ = false :=
 ⟨frozen_of_row w g 0 _ _ h, frozen_of_row w g 1 _ _ h, frozen_of_row w g 2 _ _ h, frozen_of_row w g 3 _ _ h, frozen_of_row w g 4 _ _ h, frozen_of_row w g 5 _ _ h⟩
theorem below_set6 {n : Nat} {w0 w : World} {g : Nat} (h : Below n w0 w) (hg : n ≤ g) (a b c d e f : Value) :
  Below n w0 ((((((w.setCell ⟨g, 0, none⟩ a).setCell ⟨g, 1, none⟩ b).setCell ⟨g, 2, none⟩ c).setCell ⟨g, 3, none⟩ d).setCell ⟨g, 4, none⟩ e).setCell ⟨g, 5, none⟩ f) :=
 (((((h.setCell hg _).setCell hg _).setCell hg _).setCell hg _).setCell hg _).setCell hg _
theorem okT_no (c : Nat) (t : Tk) (h : c ≠ 0) : okT c t = tk0 := by unfold okT; rw [if_neg h]
theorem okT_yes (t : Tk) : okT 0 t = t := rfl
set_option maxRecDepth 100000 in
set_option maxHeartbeats 2000000 in
theorem checked_any (a : Nat → Addr) (t : Tk) (w : World) (h : Errs a w) (hs : t.who.size ≤ maxLen) (hs2 : t.dst.size ≤ maxLen) :
  Calls Tryz.prog 105 #[t.val] w fun e w' => e = .returned (.tuple #[(okT t.err t).val, errV a t.err]) ∧ Below w.heap.size w w' := by
 have HC := hide (fun w h => tkCheck_any a t w h hs hs2)
 have HB0 : Hid (Below w.heap.size w ((w.alloc (tkO t)).alloc (tkO tk0))) := ((Below.refl _ w).alloc (Nat.le_refl _) _).alloc (by simp) _
 have HR0 : Hid (((w.alloc (tkO t)).alloc (tkO tk0)).heap[w.heap.size]? = some (tkO t)) := (heap_alloc_old _ _ (by simp)).trans (heap_alloc_new _ _)
 have HR1 : Hid (((w.alloc (tkO t)).alloc (tkO tk0)).heap[w.heap.size + 1]? = some (tkO tk0)) := by
  have := heap_alloc_new (w.alloc (tkO t)) (tkO tk0)
  rw [show (w.alloc (tkO t)).heap.size = w.heap.size + 1 by simp] at this
  exact this
 have HE := hide (h.below HB0.out)
 have HOk : Hid (t.err = 0 → (okT t.err t).val = t.val) := fun g => by rw [g]; rfl
 have HNo : Hid (t.err ≠ 0 → (okT t.err t).val = tk0.val ∧ errV a t.err = eV (a (t.err - 1))) := fun g => by rw [okT_no _ _ g]; exact ⟨rfl, by unfold errV; rw [if_neg g]⟩
 have HCall := hide (HC.out _ HE.out)
 clear h hs hs2 HC
 by_cases h0 : t.err = 0
 ·
  rw [HOk.out h0]
  rw [h0] at HCall ⊢
  rw [show errV a 0 = Value.nilIface from rfl] at HCall ⊢
  clear HNo HOk h0 HE
  rw [tk_val] at HCall ⊢
  obtain ⟨who, dst, epoch, frm, til, ser⟩ := t
  dsimp only at *
  go_enter Tryz.func105, Tryz.ntmps105
  go_wp2_with fail
  refine HCall.out.mono ?_
  rintro e w1 ⟨rfl, hb⟩
  have HB1 : Hid (Below w.heap.size w w1) := HB0.out.trans (hb.mono HB0.out.size)
  have HT0 : Hid (w1.heap[w.heap.size]? = some (tkO ⟨who, dst, epoch, frm, til, ser⟩)) := by show _ = _; rw [hb.block _ (by simp; omega)]; exact HR0.out
  have HT1 : Hid (w1.heap[w.heap.size + 1]? = some (tkO tk0)) := by show _ = _; rw [hb.block _ (by simp)]; exact HR1.out
  clear hb HR0 HR1 HB0 HCall
  obtain ⟨hc0, hc1, hc2, hc3, hc4, hc5⟩ := tk_row HT0.out
  obtain ⟨hd0, hd1, hd2, hd3, hd4, hd5⟩ := tk_row HT1.out
  obtain ⟨hf0, hf1, hf2, hf3, hf4, hf5⟩ := row_frozen6 HT1.out
  dsimp only [tk0] at hc0 hc1 hc2 hc3 hc4 hc5 hd0 hd1 hd2 hd3 hd4 hd5
  go_wp2
  refine tkEnd rfl (w.heap.size + 1) ⟨who, dst, epoch, frm, til, ser⟩ rfl (row_set6 HT1.out _ _ _ _ _ _) rfl ?_
  exact ⟨rfl, below_set6 HB1.out (by omega) _ _ _ _ _ _⟩
 ·
  rw [(HNo.out h0).1]
  rw [(HNo.out h0).2] at HCall ⊢
  clear HNo HOk h0 HE
  generalize a (t.err - 1) = ad at *
  rw [tk_val] at HCall
  rw [tk_val t]
  obtain ⟨who, dst, epoch, frm, til, ser⟩ := t
  dsimp only at *
  go_enter Tryz.func105, Tryz.ntmps105
  go_wp2_with fail
  refine HCall.out.mono ?_
  rintro e w1 ⟨rfl, hb⟩
  have HB1 : Hid (Below w.heap.size w w1) := HB0.out.trans (hb.mono HB0.out.size)
  have HT1 : Hid (w1.heap[w.heap.size + 1]? = some (tkO tk0)) := by show _ = _; rw [hb.block _ (by simp)]; exact HR1.out
  clear hb HR0 HR1 HB0 HCall
  obtain ⟨hd0, hd1, hd2, hd3, hd4, hd5⟩ := tk_row HT1.out
  obtain ⟨hf0, hf1, hf2, hf3, hf4, hf5⟩ := row_frozen6 HT1.out
  dsimp only [tk0] at hd0 hd1 hd2 hd3 hd4 hd5
  go_wp2
  refine tkEnd rfl (w.heap.size + 1) tk0 rfl (row_set6 HT1.out _ _ _ _ _ _) rfl ?_
  exact ⟨rfl, below_set6 HB1.out (by omega) _ _ _ _ _ _⟩
set_option maxRecDepth 100000 in
set_option maxHeartbeats 2000000 in
theorem good_err (a : Nat → Addr) (t : Tk) (now : Int) (w : World) (h : EV tkS a w) (hs : t.who.size ≤ maxLen) (hs2 : t.dst.size ≤ maxLen) (h0 : t.err ≠ 0) :
  Calls Tryz.prog 117 #[t.val, .int .i64 now] w fun e w' => e = .returned (errV a t.err) ∧ Below w.heap.size w w' := by
 have HB0 : Hid (Below w.heap.size w (w.alloc (tkO t))) := (Below.refl _ w).alloc (Nat.le_refl _) _
 have HCall := hide (tkCheck_ev a t _ (h.below HB0.out) hs hs2)
 have e1 : errV a t.err = eV (a (t.err - 1)) := by unfold errV; rw [if_neg h0]
 rw [e1] at HCall ⊢
 generalize a (t.err - 1) = ad at *
 clear h hs hs2 h0 e1
 rw [tk_val] at HCall ⊢
 obtain ⟨who, dst, epoch, frm, til, ser⟩ := t
 dsimp only at *
 go_enter Tryz.func117, Tryz.ntmps117
 go_wp2_with fail
 refine HCall.out.mono ?_
 rintro e w1 ⟨rfl, hb⟩
 have HB1 : Hid (Below w.heap.size w w1) := HB0.out.trans (hb.mono HB0.out.size)
 clear hb HB0 HCall
 go_wp2
 go_ret
 exact ⟨rfl, HB1.out⟩
def goodE (t : Tk) (now : Int) : Nat := if 0 ≤ now ∧ now ≤ 1000000 then (if now < t.frm then 11 else if t.til ≤ now then 12 else 0) else 2
set_option maxRecDepth 100000 in
set_option maxHeartbeats 2000000 in
theorem good_ok (a : Nat → Addr) (t : Tk) (now : Int) (w : World) (h : EV tkS a w) (hs : t.who.size ≤ maxLen) (hs2 : t.dst.size ≤ maxLen) (h0 : t.err = 0) :
  Calls Tryz.prog 117 #[t.val, .int .i64 now] w fun e w' => e = .returned (errV a (goodE t now)) ∧ Below w.heap.size w w' := by
 have HB0 : Hid (Below w.heap.size w (w.alloc (tkO t))) := (Below.refl _ w).alloc (Nat.le_refl _) _
 have HCall := hide (tkCheck_ev a t _ (h.below HB0.out) hs hs2)
 rw [h0, show errV a 0 = Value.nilIface from rfl] at HCall
 have HE := hide h
 have HT := hide (fun w => isTime_any now w)
 have HR0 : Hid ((w.alloc (tkO t)).heap[w.heap.size]? = some (tkO t)) := heap_alloc_new _ _
 have hcase : (¬ (0 ≤ now ∧ now ≤ 1000000) ∧ goodE t now = 2) ∨ ((0 ≤ now ∧ now ≤ 1000000) ∧ now < t.frm ∧ goodE t now = 11) ∨ ((0 ≤ now ∧ now ≤ 1000000) ∧ t.frm ≤ now ∧ t.til ≤ now ∧ goodE t now = 12) ∨ ((0 ≤ now ∧ now ≤ 1000000) ∧ t.frm ≤ now ∧ now < t.til ∧ goodE t now = 0) := by
  unfold goodE
  by_cases g1 : 0 ≤ now ∧ now ≤ 1000000
  ·
   by_cases g2 : now < t.frm
   ·
    exact Or.inr (Or.inl ⟨g1, g2, by rw [if_pos g1, if_pos g2]⟩)
   ·
    by_cases g3 : t.til ≤ now
    ·
     exact Or.inr (Or.inr (Or.inl ⟨g1, by omega, g3, by rw [if_pos g1, if_neg g2, if_pos g3]⟩))
    ·
     exact Or.inr (Or.inr (Or.inr ⟨g1, by omega, by omega, by rw [if_pos g1, if_neg g2, if_neg g3]⟩))
  ·
   exact Or.inl ⟨g1, by rw [if_neg g1]⟩
 clear h hs hs2 h0
 generalize goodE t now = c at hcase ⊢
 rw [tk_val] at HCall ⊢
 obtain ⟨who, dst, epoch, frm, til, ser⟩ := t
 dsimp only at *
 rcases hcase with ⟨g, rfl⟩ | ⟨g, g1, rfl⟩ | ⟨g, g1, g2, rfl⟩ | ⟨g, g1, g2, rfl⟩
 ·
  rw [decide_eq_false g] at HT
  rw [show errV a 2 = eV (a 1) from rfl]
  clear g
  go_enter Tryz.func117, Tryz.ntmps117
  go_wp2_with fail
  refine HCall.out.mono ?_
  rintro e w1 ⟨rfl, hb⟩
  have HB1 : Hid (Below w.heap.size w w1) := HB0.out.trans (hb.mono HB0.out.size)
  have hv : w1.cell? ⟨0, 0, none⟩ = some (eV (a 1)) := (HE.out.below HB1.out).var 1 (by decide) rfl
  clear hb HB0 HCall HE
  go_wp2_with fail
  refine (HT.out _).mono ?_
  rintro e w2 ⟨rfl, rfl⟩
  go_wp2
  go_ret
  exact ⟨rfl, HB1.out⟩
 ·
  rw [decide_eq_true g] at HT
  rw [show errV a 11 = eV (a 10) from rfl]
  clear g
  go_enter Tryz.func117, Tryz.ntmps117
  go_wp2_with fail
  refine HCall.out.mono ?_
  rintro e w1 ⟨rfl, hb⟩
  have HB1 : Hid (Below w.heap.size w w1) := HB0.out.trans (hb.mono HB0.out.size)
  have hv : w1.cell? ⟨12, 0, none⟩ = some (eV (a 10)) := (HE.out.below HB1.out).var 10 (by decide) rfl
  have HT0 : Hid (w1.heap[w.heap.size]? = some (tkO ⟨who, dst, epoch, frm, til, ser⟩)) := by show _ = _; rw [hb.block _ (by simp)]; exact HR0.out
  obtain ⟨hc0, hc1, hc2, hc3, hc4, hc5⟩ := tk_row HT0.out
  dsimp only at hc0 hc1 hc2 hc3 hc4 hc5
  clear hb HB0 HCall HE HR0 HT0
  go_wp2_with fail
  refine (HT.out _).mono ?_
  rintro e w2 ⟨rfl, rfl⟩
  go_wp2
  go_ret
  exact ⟨rfl, HB1.out⟩
 ·
  rw [decide_eq_true g] at HT
  rw [show errV a 12 = eV (a 11) from rfl]
  clear g
  go_enter Tryz.func117, Tryz.ntmps117
  go_wp2_with fail
  refine HCall.out.mono ?_
  rintro e w1 ⟨rfl, hb⟩
  have HB1 : Hid (Below w.heap.size w w1) := HB0.out.trans (hb.mono HB0.out.size)
  have hv : w1.cell? ⟨13, 0, none⟩ = some (eV (a 11)) := (HE.out.below HB1.out).var 11 (by decide) rfl
  have HT0 : Hid (w1.heap[w.heap.size]? = some (tkO ⟨who, dst, epoch, frm, til, ser⟩)) := by show _ = _; rw [hb.block _ (by simp)]; exact HR0.out
  obtain ⟨hc0, hc1, hc2, hc3, hc4, hc5⟩ := tk_row HT0.out
  dsimp only at hc0 hc1 hc2 hc3 hc4 hc5
  clear hb HB0 HCall HE HR0 HT0
  go_wp2_with fail
  refine (HT.out _).mono ?_
  rintro e w2 ⟨rfl, rfl⟩
  go_wp2
  go_ret
  exact ⟨rfl, HB1.out⟩
 ·
  rw [decide_eq_true g] at HT
  rw [show errV a 0 = Value.nilIface from rfl]
  clear g
  go_enter Tryz.func117, Tryz.ntmps117
  go_wp2_with fail
  refine HCall.out.mono ?_
  rintro e w1 ⟨rfl, hb⟩
  have HB1 : Hid (Below w.heap.size w w1) := HB0.out.trans (hb.mono HB0.out.size)
  have HT0 : Hid (w1.heap[w.heap.size]? = some (tkO ⟨who, dst, epoch, frm, til, ser⟩)) := by show _ = _; rw [hb.block _ (by simp)]; exact HR0.out
  obtain ⟨hc0, hc1, hc2, hc3, hc4, hc5⟩ := tk_row HT0.out
  dsimp only at hc0 hc1 hc2 hc3 hc4 hc5
  clear hb HB0 HCall HE HR0 HT0
  go_wp2_with fail
  refine (HT.out _).mono ?_
  rintro e w2 ⟨rfl, rfl⟩
  go_wp2
  go_ret
  exact ⟨rfl, HB1.out⟩
theorem good_ev (a : Nat → Addr) (t : Tk) (now : Int) (w : World) (h : EV tkS a w) (hs : t.who.size ≤ maxLen) (hs2 : t.dst.size ≤ maxLen) :
  Calls Tryz.prog 117 #[t.val, .int .i64 now] w fun e w' => e = .returned (errV a (t.good now)) ∧ Below w.heap.size w w' := by
 by_cases h0 : t.err = 0
 ·
  have e : t.good now = goodE t now := by unfold Tk.good goodE; rw [if_pos h0]
  rw [e]
  exact good_ok a t now w h hs hs2 h0
 ·
  have e : t.good now = t.err := by unfold Tk.good; rw [if_neg h0]
  rw [e]
  exact good_err a t now w h hs hs2 h0
theorem good_any (a : Nat → Addr) (t : Tk) (now : Int) (w : World) (h : Errs a w) (hs : t.who.size ≤ maxLen) (hs2 : t.dst.size ≤ maxLen) :
  Calls Tryz.prog 117 #[t.val, .int .i64 now] w fun e w' => e = .returned (errV a (t.good now)) ∧ Below w.heap.size w w' := good_ev a t now w (h.ev _) hs hs2
set_option maxRecDepth 100000 in
set_option maxHeartbeats 2000000 in
theorem renew_no (a : Nat → Addr) (t : Tk) (now til2 ser2 : Int) (w : World) (h : Errs a w) (hs : t.who.size ≤ maxLen) (hs2 : t.dst.size ≤ maxLen) (h0 : t.good now ≠ 0) :
  Calls Tryz.prog 67 #[t.val, .int .i64 now, .int .i64 til2, .int .i64 ser2] w fun e w' => e = .returned (.tuple #[tk0.val, errV a (t.good now)]) ∧ Below w.heap.size w w' := by
 have HB0 : Hid (Below w.heap.size w ((w.alloc (tkO t)).alloc (tkO tk0))) := ((Below.refl _ w).alloc (Nat.le_refl _) _).alloc (by simp) _
 have HR1 : Hid (((w.alloc (tkO t)).alloc (tkO tk0)).heap[w.heap.size + 1]? = some (tkO tk0)) := by
  have := heap_alloc_new (w.alloc (tkO t)) (tkO tk0)
  rw [show (w.alloc (tkO t)).heap.size = w.heap.size + 1 by simp] at this
  exact this
 have HCall := hide (good_any a t now _ (h.below HB0.out) hs hs2)
 have e1 : errV a (t.good now) = eV (a (t.good now - 1)) := by unfold errV; rw [if_neg h0]
 rw [e1] at HCall ⊢
 generalize a (t.good now - 1) = ad at *
 clear h hs hs2 h0 e1
 rw [tk_val] at HCall
 rw [tk_val t]
 obtain ⟨who, dst, epoch, frm, til, ser⟩ := t
 dsimp only at *
 go_enter Tryz.func67, Tryz.ntmps67
 go_wp2_with fail
 refine HCall.out.mono ?_
 rintro e w1 ⟨rfl, hb⟩
 have HB1 : Hid (Below w.heap.size w w1) := HB0.out.trans (hb.mono HB0.out.size)
 have HT1 : Hid (w1.heap[w.heap.size + 1]? = some (tkO tk0)) := by show _ = _; rw [hb.block _ (by simp)]; exact HR1.out
 clear hb HR1 HB0 HCall
 obtain ⟨hd0, hd1, hd2, hd3, hd4, hd5⟩ := tk_row HT1.out
 obtain ⟨hf0, hf1, hf2, hf3, hf4, hf5⟩ := row_frozen6 HT1.out
 dsimp only [tk0] at hd0 hd1 hd2 hd3 hd4 hd5
 go_wp2
 refine tkEnd rfl (w.heap.size + 1) tk0 rfl (row_set6 HT1.out _ _ _ _ _ _) rfl ?_
 exact ⟨rfl, below_set6 HB1.out (by omega) _ _ _ _ _ _⟩
set_option maxRecDepth 100000 in
set_option maxHeartbeats 2000000 in
theorem renew_yes (a : Nat → Addr) (t : Tk) (now til2 ser2 : Int) (w : World) (h : Errs a w) (hs : t.who.size ≤ maxLen) (hs2 : t.dst.size ≤ maxLen) (h0 : t.good now = 0) :
  Calls Tryz.prog 67 #[t.val, .int .i64 now, .int .i64 til2, .int .i64 ser2] w fun e w' => e = .returned (.tuple #[(okT (t.anew now til2 ser2).err (t.anew now til2 ser2)).val, errV a (t.anew now til2 ser2).err]) ∧ Below w.heap.size w w' := by
 have HB0 : Hid (Below w.heap.size w ((w.alloc (tkO t)).alloc (tkO tk0))) := ((Below.refl _ w).alloc (Nat.le_refl _) _).alloc (by simp) _
 have HR0 : Hid (((w.alloc (tkO t)).alloc (tkO tk0)).heap[w.heap.size]? = some (tkO t)) := (heap_alloc_old _ _ (by simp)).trans (heap_alloc_new _ _)
 have HR1 : Hid (((w.alloc (tkO t)).alloc (tkO tk0)).heap[w.heap.size + 1]? = some (tkO tk0)) := by
  have := heap_alloc_new (w.alloc (tkO t)) (tkO tk0)
  rw [show (w.alloc (tkO t)).heap.size = w.heap.size + 1 by simp] at this
  exact this
 have HCall := hide (good_any a t now _ (h.below HB0.out) hs hs2)
 rw [h0, show errV a 0 = Value.nilIface from rfl] at HCall
 have HK := hide (fun w h => checked_any a (t.anew now til2 ser2) w h hs hs2)
 have HE := hide h
 generalize (okT (t.anew now til2 ser2).err (t.anew now til2 ser2)) = r at *
 generalize errV a (t.anew now til2 ser2).err = rv at *
 clear h hs hs2 h0
 rw [tk_val] at HCall
 rw [tk_val t, tk_val r]
 rw [tk_val, tk_val r] at HK
 obtain ⟨who, dst, epoch, frm, til, ser⟩ := t
 obtain ⟨rwho, rdst, repoch, rfrm, rtil, rser⟩ := r
 dsimp only [Tk.anew] at *
 go_enter Tryz.func67, Tryz.ntmps67
 go_wp2_with fail
 refine HCall.out.mono ?_
 rintro e w1 ⟨rfl, hb⟩
 have HB1 : Hid (Below w.heap.size w w1) := HB0.out.trans (hb.mono HB0.out.size)
 have HT0 : Hid (w1.heap[w.heap.size]? = some (tkO ⟨who, dst, epoch, frm, til, ser⟩)) := by show _ = _; rw [hb.block _ (by simp; omega)]; exact HR0.out
 have HT1 : Hid (w1.heap[w.heap.size + 1]? = some (tkO tk0)) := by show _ = _; rw [hb.block _ (by simp)]; exact HR1.out
 clear hb HR0 HR1 HB0 HCall
 obtain ⟨hc0, hc1, hc2, hc3, hc4, hc5⟩ := tk_row HT0.out
 obtain ⟨hf0, hf1, hf2, hf3, hf4, hf5⟩ := row_frozen6 HT0.out
 dsimp only at hc0 hc1 hc2 hc3 hc4 hc5
 go_wp2_with fail
 have HB2 : Hid (Below w.heap.size w (((w1.setCell ⟨w.heap.size, 3, none⟩ (.int .i64 now)).setCell ⟨w.heap.size, 4, none⟩ (.int .i64 (min til2 til))).setCell ⟨w.heap.size, 5, none⟩ (.int .i64 ser2))) := ((HB1.out.setCell (Nat.le_refl _) _).setCell (Nat.le_refl _) _).setCell (Nat.le_refl _) _
 have HT2 : Hid ((((w1.setCell ⟨w.heap.size, 3, none⟩ (.int .i64 now)).setCell ⟨w.heap.size, 4, none⟩ (.int .i64 (min til2 til))).setCell ⟨w.heap.size, 5, none⟩ (.int .i64 ser2)).heap[w.heap.size + 1]? = some (tkO tk0)) := by
  show _ = _
  rw [heap_setCell_other _ _ _ _ (by simp), heap_setCell_other _ _ _ _ (by simp), heap_setCell_other _ _ _ _ (by simp)]
  exact HT1.out
 generalize ((w1.setCell ⟨w.heap.size, 3, none⟩ (.int .i64 now)).setCell ⟨w.heap.size, 4, none⟩ (.int .i64 (min til2 til))).setCell ⟨w.heap.size, 5, none⟩ (.int .i64 ser2) = W at *
 refine (HK.out W (HE.out.below HB2.out)).mono ?_
 rintro e w2 ⟨rfl, hb⟩
 have HB3 : Hid (Below w.heap.size w w2) := HB2.out.trans (hb.mono HB2.out.size)
 have HT3 : Hid (w2.heap[w.heap.size + 1]? = some (tkO tk0)) := by show _ = _; rw [hb.block _ (row_lt HT2.out)]; exact HT2.out
 clear hb HT2 HB2 HT1 HT0 HB1 HE hc0 hc1 hc2 hc3 hc4 hc5 hf0 hf1 hf2 hf3 hf4 hf5 HK
 obtain ⟨hd0, hd1, hd2, hd3, hd4, hd5⟩ := tk_row HT3.out
 obtain ⟨hf0, hf1, hf2, hf3, hf4, hf5⟩ := row_frozen6 HT3.out
 dsimp only [tk0] at hd0 hd1 hd2 hd3 hd4 hd5
 go_wp2
 refine tkEnd rfl (w.heap.size + 1) ⟨rwho, rdst, repoch, rfrm, rtil, rser⟩ rfl (row_set6 HT3.out _ _ _ _ _ _) rfl ?_
 exact ⟨rfl, below_set6 HB3.out (by omega) _ _ _ _ _ _⟩
theorem renew_any (a : Nat → Addr) (t : Tk) (now til2 ser2 : Int) (w : World) (h : Errs a w) (hs : t.who.size ≤ maxLen) (hs2 : t.dst.size ≤ maxLen) :
  Calls Tryz.prog 67 #[t.val, .int .i64 now, .int .i64 til2, .int .i64 ser2] w fun e w' => e = .returned (.tuple #[(okT (t.renewE now til2 ser2) (t.anew now til2 ser2)).val, errV a (t.renewE now til2 ser2)]) ∧ Below w.heap.size w w' := by
 by_cases h0 : t.good now = 0
 ·
  have e : t.renewE now til2 ser2 = (t.anew now til2 ser2).err := by unfold Tk.renewE; rw [if_pos h0]
  rw [e]
  exact renew_yes a t now til2 ser2 w h hs hs2 h0
 ·
  have e : t.renewE now til2 ser2 = t.good now := by unfold Tk.renewE; rw [if_neg h0]
  rw [e, okT_no _ _ h0]
  exact renew_no a t now til2 ser2 w h hs hs2 h0
set_option maxRecDepth 100000 in
set_option maxHeartbeats 4000000 in
theorem refTk_any (t : Tk) (w : World) (hs : t.who.size ≤ maxLen) (hs2 : t.dst.size ≤ maxLen) :
  Calls Tryz.prog 130 #[t.val] w fun e w' => e = .returned (.int .i64 (t.err : Int)) ∧ Below w.heap.size w w' := by
 have e4 : t.names = false → t.err = 4 := fun g => by unfold Tk.err; rw [g]; rfl
 have e2 : t.names = true → ¬ t.nums → t.err = 2 := fun g g2 => by unfold Tk.err; rw [if_pos g, if_neg g2]
 have HB0 : Hid (Below w.heap.size w (w.alloc (tkO t))) := (Below.refl _ w).alloc (Nat.le_refl _) _
 have HN := hide (fun w => refName_any t.who w hs)
 have HN2 := hide (fun w => refName_any t.dst w hs2)
 have hcase : ((Sl.nameL t.who.data.toList = false ∨ Sl.nameL t.dst.data.toList = false) ∧ t.err = 4) ∨ (Sl.nameL t.who.data.toList = true ∧ Sl.nameL t.dst.data.toList = true ∧
   ((t.epoch < 1 ∧ t.err = 2) ∨ (1 ≤ t.epoch ∧ 1073741824 < t.epoch ∧ t.err = 2) ∨ (1 ≤ t.epoch ∧ t.epoch ≤ 1073741824 ∧ t.ser < 1 ∧ t.err = 2) ∨ (1 ≤ t.epoch ∧ t.epoch ≤ 1073741824 ∧ 1 ≤ t.ser ∧ 1073741824 < t.ser ∧ t.err = 2) ∨
     (1 ≤ t.epoch ∧ t.epoch ≤ 1073741824 ∧ 1 ≤ t.ser ∧ t.ser ≤ 1073741824 ∧ t.frm < 0 ∧ t.err = 2) ∨ (1 ≤ t.epoch ∧ t.epoch ≤ 1073741824 ∧ 1 ≤ t.ser ∧ t.ser ≤ 1073741824 ∧ 0 ≤ t.frm ∧ 1000000 < t.frm ∧ t.err = 2) ∨
     (1 ≤ t.epoch ∧ t.epoch ≤ 1073741824 ∧ 1 ≤ t.ser ∧ t.ser ≤ 1073741824 ∧ 0 ≤ t.frm ∧ t.frm ≤ 1000000 ∧ t.til < t.frm ∧ t.err = 2) ∨ (1 ≤ t.epoch ∧ t.epoch ≤ 1073741824 ∧ 1 ≤ t.ser ∧ t.ser ≤ 1073741824 ∧ 0 ≤ t.frm ∧ t.frm ≤ 1000000 ∧ t.frm ≤ t.til ∧ 1000000 < t.til ∧ t.err = 2) ∨
     (1 ≤ t.epoch ∧ t.epoch ≤ 1073741824 ∧ 1 ≤ t.ser ∧ t.ser ≤ 1073741824 ∧ 0 ≤ t.frm ∧ t.frm ≤ 1000000 ∧ t.frm ≤ t.til ∧ t.til ≤ 1000000 ∧ t.err = 0))) := by
  cases hn : Sl.nameL t.who.data.toList with
  | false => exact Or.inl ⟨Or.inl rfl, e4 (by unfold Tk.names; rw [hn]; rfl)⟩
  | true =>
   cases hn2 : Sl.nameL t.dst.data.toList with
   | false => exact Or.inl ⟨Or.inr rfl, e4 (by unfold Tk.names; rw [hn, hn2]; rfl)⟩
   | true =>
    refine Or.inr ⟨rfl, rfl, ?_⟩
    have hnm : t.names = true := by unfold Tk.names; rw [hn, hn2]; rfl
    have k2 := e2 hnm
    rcases Int.lt_or_le t.epoch 1 with a1 | a1
    ·
     exact Or.inl ⟨a1, k2 (fun g => by have := g.1.1; omega)⟩
    rcases Int.lt_or_le 1073741824 t.epoch with a2 | a2
    ·
     exact Or.inr (Or.inl ⟨a1, a2, k2 (fun g => by have := g.1.2; omega)⟩)
    rcases Int.lt_or_le t.ser 1 with a3 | a3
    ·
     exact Or.inr (Or.inr (Or.inl ⟨a1, a2, a3, k2 (fun g => by have := g.2.1.1; omega)⟩))
    rcases Int.lt_or_le 1073741824 t.ser with a4 | a4
    ·
     exact Or.inr (Or.inr (Or.inr (Or.inl ⟨a1, a2, a3, a4, k2 (fun g => by have := g.2.1.2; omega)⟩)))
    rcases Int.lt_or_le t.frm 0 with a5 | a5
    ·
     exact Or.inr (Or.inr (Or.inr (Or.inr (Or.inl ⟨a1, a2, a3, a4, a5, k2 (fun g => by have := g.2.2.1.1; omega)⟩))))
    rcases Int.lt_or_le 1000000 t.frm with a6 | a6
    ·
     exact Or.inr (Or.inr (Or.inr (Or.inr (Or.inr (Or.inl ⟨a1, a2, a3, a4, a5, a6, k2 (fun g => by have := g.2.2.1.2; omega)⟩)))))
    rcases Int.lt_or_le t.til t.frm with a7 | a7
    ·
     exact Or.inr (Or.inr (Or.inr (Or.inr (Or.inr (Or.inr (Or.inl ⟨a1, a2, a3, a4, a5, a6, a7, k2 (fun g => by have := g.2.2.2.1; omega)⟩))))))
    rcases Int.lt_or_le 1000000 t.til with a8 | a8
    ·
     exact Or.inr (Or.inr (Or.inr (Or.inr (Or.inr (Or.inr (Or.inr (Or.inl ⟨a1, a2, a3, a4, a5, a6, a7, a8, k2 (fun g => by have := g.2.2.2.2; omega)⟩)))))))
    exact Or.inr (Or.inr (Or.inr (Or.inr (Or.inr (Or.inr (Or.inr (Or.inr ⟨a1, a2, a3, a4, a5, a6, a7, a8, t.err_iff.2 ⟨hnm, ⟨a1, a2⟩, ⟨a3, a4⟩, ⟨a5, a6⟩, a7, a8⟩⟩)))))))
 generalize t.err = c at hcase ⊢
 clear e4 e2 hs hs2
 rw [tk_val]
 obtain ⟨who, dst, epoch, frm, til, ser⟩ := t
 dsimp only at *
 rcases hcase with ⟨hno, rfl⟩ | ⟨h1, h2, hc⟩
 ·
  have hno2 : (Sl.nameL who.data.toList = false) ∨ (Sl.nameL who.data.toList = true ∧ Sl.nameL dst.data.toList = false) := by
   cases h : Sl.nameL who.data.toList with
   | false => exact Or.inl rfl
   | true =>
    rcases hno with g | g
    ·
     rw [h] at g; cases g
    ·
     exact Or.inr ⟨rfl, g⟩
  clear hno
  rcases hno2 with h1 | ⟨h1, h2⟩
  ·
   rw [h1] at HN
   clear h1
   generalize Sl.nameL dst.data.toList = b2 at *
   go_enter Tryz.func130, Tryz.ntmps130
   go_wp2_with fail
   refine (HN.out _).mono ?_
   rintro e w1 ⟨rfl, rfl⟩
   go_wp2_with fail
   refine (HN2.out _).mono ?_
   rintro e w1 ⟨rfl, rfl⟩
   go_wp2
   go_ret
   exact ⟨rfl, HB0.out⟩
  ·
   rw [h1] at HN
   rw [h2] at HN2
   clear h1 h2
   go_enter Tryz.func130, Tryz.ntmps130
   go_wp2_with fail
   refine (HN.out _).mono ?_
   rintro e w1 ⟨rfl, rfl⟩
   go_wp2_with fail
   refine (HN2.out _).mono ?_
   rintro e w1 ⟨rfl, rfl⟩
   go_wp2
   go_ret
   exact ⟨rfl, HB0.out⟩
 ·
  rw [h1] at HN
  rw [h2] at HN2
  clear h1 h2
  rcases hc with ⟨g1, rfl⟩ | ⟨g1, g2, rfl⟩ | ⟨g1, g2, g3, rfl⟩ | ⟨g1, g2, g3, g4, rfl⟩ | ⟨g1, g2, g3, g4, g5, rfl⟩ | ⟨g1, g2, g3, g4, g5, g6, rfl⟩ | ⟨g1, g2, g3, g4, g5, g6, g7, rfl⟩ | ⟨g1, g2, g3, g4, g5, g6, g7, g8, rfl⟩ | ⟨g1, g2, g3, g4, g5, g6, g7, g8, rfl⟩
  all_goals
   go_enter Tryz.func130, Tryz.ntmps130
   go_wp2_with fail
   refine (HN.out _).mono ?_
   rintro e w1 ⟨rfl, rfl⟩
   go_wp2_with fail
   refine (HN2.out _).mono ?_
   rintro e w1 ⟨rfl, rfl⟩
   go_wp2
   go_ret
   exact ⟨rfl, HB0.out⟩
set_option maxRecDepth 100000 in
set_option maxHeartbeats 2000000 in
theorem refGood_any (t : Tk) (now : Int) (w : World) (hs : t.who.size ≤ maxLen) (hs2 : t.dst.size ≤ maxLen) :
  Calls Tryz.prog 133 #[t.val, .int .i64 now] w fun e w' => e = .returned (.int .i64 (t.good now : Int)) ∧ Below w.heap.size w w' := by
 have HB0 : Hid (Below w.heap.size w (w.alloc (tkO t))) := (Below.refl _ w).alloc (Nat.le_refl _) _
 have HR0 : Hid ((w.alloc (tkO t)).heap[w.heap.size]? = some (tkO t)) := heap_alloc_new _ _
 have HCall := hide (refTk_any t (w.alloc (tkO t)) hs hs2)
 have hle := t.err_le
 have hcase : (1 ≤ t.err ∧ t.good now = t.err) ∨ (t.err = 0 ∧ now < 0 ∧ t.good now = 2) ∨ (t.err = 0 ∧ 0 ≤ now ∧ 1000000 < now ∧ t.good now = 2) ∨ (t.err = 0 ∧ 0 ≤ now ∧ now ≤ 1000000 ∧ now < t.frm ∧ t.good now = 11) ∨ (t.err = 0 ∧ 0 ≤ now ∧ now ≤ 1000000 ∧ t.frm ≤ now ∧ t.til ≤ now ∧ t.good now = 12) ∨ (t.err = 0 ∧ 0 ≤ now ∧ now ≤ 1000000 ∧ t.frm ≤ now ∧ now < t.til ∧ t.good now = 0) := by
  unfold Tk.good
  by_cases g0 : t.err = 0
  ·
   rw [if_pos g0]
   refine Or.inr ?_
   by_cases g1 : 0 ≤ now ∧ now ≤ 1000000
   ·
    rw [if_pos g1]
    by_cases g2 : now < t.frm
    ·
     rw [if_pos g2]; omega
    ·
     rw [if_neg g2]
     by_cases g3 : t.til ≤ now
     ·
      rw [if_pos g3]; omega
     ·
      rw [if_neg g3]; omega
   ·
    rw [if_neg g1]; omega
  ·
   rw [if_neg g0]; omega
 generalize t.good now = c at hcase ⊢
 clear hs hs2
 rw [tk_val] at HCall ⊢
 rcases hcase with ⟨g, rfl⟩ | ⟨g, g1, rfl⟩ | ⟨g, g1, g2, rfl⟩ | ⟨g, g1, g2, g3, rfl⟩ | ⟨g, g1, g2, g3, g4, rfl⟩ | ⟨g, g1, g2, g3, g4, rfl⟩
 ·
  have hz : (0 : Int) < (t.err : Int) := by omega
  have hz2 : (t.err : Int) ≤ 16 := by omega
  generalize (t.err : Int) = z at *
  clear g hle
  obtain ⟨who, dst, epoch, frm, til, ser⟩ := t
  dsimp only at *
  go_enter Tryz.func133, Tryz.ntmps133
  go_wp2_with fail
  refine HCall.out.mono ?_
  rintro e w1 ⟨rfl, hb⟩
  have HB1 : Hid (Below w.heap.size w w1) := HB0.out.trans (hb.mono HB0.out.size)
  clear hb HB0 HCall
  go_wp2
  go_ret
  exact ⟨rfl, HB1.out⟩
 all_goals
  rw [g] at HCall
  clear g hle
  obtain ⟨who, dst, epoch, frm, til, ser⟩ := t
  dsimp only at *
  go_enter Tryz.func133, Tryz.ntmps133
  go_wp2_with fail
  refine HCall.out.mono ?_
  rintro e w1 ⟨rfl, hb⟩
  have HB1 : Hid (Below w.heap.size w w1) := HB0.out.trans (hb.mono HB0.out.size)
  have HT0 : Hid (w1.heap[w.heap.size]? = some (tkO ⟨who, dst, epoch, frm, til, ser⟩)) := (hb.block _ (row_lt HR0.out)).trans HR0.out
  obtain ⟨hc0, hc1, hc2, hc3, hc4, hc5⟩ := tk_row HT0.out
  dsimp only at hc0 hc1 hc2 hc3 hc4 hc5
  clear hb HB0 HCall HR0 HT0
  go_wp2
  go_ret
  exact ⟨rfl, HB1.out⟩
set_option maxRecDepth 100000 in
set_option maxHeartbeats 2000000 in
theorem refRenew_no (t : Tk) (now til2 ser2 : Int) (w : World) (hs : t.who.size ≤ maxLen) (hs2 : t.dst.size ≤ maxLen) (h0 : t.good now ≠ 0) :
  Calls Tryz.prog 88 #[t.val, .int .i64 now, .int .i64 til2, .int .i64 ser2] w fun e w' => e = .returned (.tuple #[tk0.val, .int .i64 (t.good now : Int)]) ∧ Below w.heap.size w w' := by
 have HB0 : Hid (Below w.heap.size w ((w.alloc (tkO t)).alloc (tkO tk0))) := ((Below.refl _ w).alloc (Nat.le_refl _) _).alloc (by simp) _
 have HR1 : Hid (((w.alloc (tkO t)).alloc (tkO tk0)).heap[w.heap.size + 1]? = some (tkO tk0)) := by
  have := heap_alloc_new (w.alloc (tkO t)) (tkO tk0)
  rw [show (w.alloc (tkO t)).heap.size = w.heap.size + 1 by simp] at this
  exact this
 have HCall := hide (refGood_any t now ((w.alloc (tkO t)).alloc (tkO tk0)) hs hs2)
 have hz : (0 : Int) < (t.good now : Int) := by omega
 have hz2 : (t.good now : Int) ≤ 16 := by have := t.good_le now; omega
 generalize (t.good now : Int) = z at *
 clear hs hs2 h0
 rw [tk_val] at HCall
 rw [tk_val t]
 obtain ⟨who, dst, epoch, frm, til, ser⟩ := t
 dsimp only at *
 go_enter Tryz.func88, Tryz.ntmps88
 go_wp2_with fail
 refine HCall.out.mono ?_
 rintro e w1 ⟨rfl, hb⟩
 have HB1 : Hid (Below w.heap.size w w1) := HB0.out.trans (hb.mono HB0.out.size)
 have HT1 : Hid (w1.heap[w.heap.size + 1]? = some (tkO tk0)) := (hb.block _ (row_lt HR1.out)).trans HR1.out
 clear hb HR1 HB0 HCall
 obtain ⟨hd0, hd1, hd2, hd3, hd4, hd5⟩ := tk_row HT1.out
 obtain ⟨hf0, hf1, hf2, hf3, hf4, hf5⟩ := row_frozen6 HT1.out
 dsimp only [tk0] at hd0 hd1 hd2 hd3 hd4 hd5
 go_wp2
 refine tkEnd rfl (w.heap.size + 1) tk0 rfl (row_set6 HT1.out _ _ _ _ _ _) rfl ?_
 exact ⟨rfl, below_set6 HB1.out (by omega) _ _ _ _ _ _⟩
theorem set3_other (w : World) (g k : Nat) (hk : k ≠ g) (i j l : Nat) (x y z : Value) : (((w.setCell ⟨g, i, none⟩ x).setCell ⟨g, j, none⟩ y).setCell ⟨g, l, none⟩ z).heap[k]? = w.heap[k]? := by
 rw [heap_setCell_other _ _ _ _ hk, heap_setCell_other _ _ _ _ hk, heap_setCell_other _ _ _ _ hk]
theorem set2_other (w : World) (g k : Nat) (hk : k ≠ g) (i j : Nat) (x y : Value) : ((w.setCell ⟨g, i, none⟩ x).setCell ⟨g, j, none⟩ y).heap[k]? = w.heap[k]? := by
 rw [heap_setCell_other _ _ _ _ hk, heap_setCell_other _ _ _ _ hk]
theorem tk_set3 {w : World} {g : Nat} {t : Tk} (h : w.heap[g]? = some (tkO t)) (a b c : Int) : (((w.setCell ⟨g, 3, none⟩ (.int .i64 a)).setCell ⟨g, 4, none⟩ (.int .i64 b)).setCell ⟨g, 5, none⟩ (.int .i64 c)).heap[g]? = some (tkO ⟨t.who, t.dst, t.epoch, a, b, c⟩) := by
 have h1 := heap_setCell_same w g 3 _ _ (.int .i64 a) h
 have h2 := heap_setCell_same _ g 4 _ _ (.int .i64 b) h1
 exact heap_setCell_same _ g 5 _ _ (.int .i64 c) h2
theorem tk_set2 {w : World} {g : Nat} {t : Tk} (h : w.heap[g]? = some (tkO t)) (a c : Int) : ((w.setCell ⟨g, 3, none⟩ (.int .i64 a)).setCell ⟨g, 5, none⟩ (.int .i64 c)).heap[g]? = some (tkO ⟨t.who, t.dst, t.epoch, a, t.til, c⟩) := by
 have h1 := heap_setCell_same w g 3 _ _ (.int .i64 a) h
 exact heap_setCell_same _ g 5 _ _ (.int .i64 c) h1
set_option maxRecDepth 100000 in
set_option maxHeartbeats 2000000 in
theorem refRenew_lt0 (t : Tk) (now til2 ser2 : Int) (w : World) (hs : t.who.size ≤ maxLen) (hs2 : t.dst.size ≤ maxLen) (h0 : t.good now = 0) (hm : til2 < t.til) (he : (t.anew now til2 ser2).err = 0) :
  Calls Tryz.prog 88 #[t.val, .int .i64 now, .int .i64 til2, .int .i64 ser2] w fun e w' => e = .returned (.tuple #[(t.anew now til2 ser2).val, .int .i64 0]) ∧ Below w.heap.size w w' := by
 have HB0 : Hid (Below w.heap.size w ((w.alloc (tkO t)).alloc (tkO tk0))) := ((Below.refl _ w).alloc (Nat.le_refl _) _).alloc (by simp) _
 have HR0 : Hid (((w.alloc (tkO t)).alloc (tkO tk0)).heap[w.heap.size]? = some (tkO t)) := (heap_alloc_old _ _ (by simp)).trans (heap_alloc_new _ _)
 have HR1 : Hid (((w.alloc (tkO t)).alloc (tkO tk0)).heap[w.heap.size + 1]? = some (tkO tk0)) := by
  have := heap_alloc_new (w.alloc (tkO t)) (tkO tk0)
  rw [show (w.alloc (tkO t)).heap.size = w.heap.size + 1 by simp] at this
  exact this
 have HCall := hide (refGood_any t now ((w.alloc (tkO t)).alloc (tkO tk0)) hs hs2)
 rw [h0] at HCall
 have ea : t.anew now til2 ser2 = ⟨t.who, t.dst, t.epoch, now, til2, ser2⟩ := by unfold Tk.anew; rw [show min til2 t.til = til2 by omega]
 have HK := hide (fun w => refTk_any (t.anew now til2 ser2) w hs hs2)
 rw [he] at HK
 rw [ea] at HK ⊢
 clear hs hs2 h0 he ea
 rw [tk_val] at HCall HK
 rw [tk_val t, tk_val]
 obtain ⟨who, dst, epoch, frm, til, ser⟩ := t
 dsimp only at *
 go_enter Tryz.func88, Tryz.ntmps88
 go_wp2_with fail
 refine HCall.out.mono ?_
 rintro e w1 ⟨rfl, hb⟩
 have HB1 : Hid (Below w.heap.size w w1) := HB0.out.trans (hb.mono HB0.out.size)
 have HT0 : Hid (w1.heap[w.heap.size]? = some (tkO ⟨who, dst, epoch, frm, til, ser⟩)) := (hb.block _ (row_lt HR0.out)).trans HR0.out
 have HT1 : Hid (w1.heap[w.heap.size + 1]? = some (tkO tk0)) := (hb.block _ (row_lt HR1.out)).trans HR1.out
 clear hb HR0 HR1 HB0 HCall
 obtain ⟨hc0, hc1, hc2, hc3, hc4, hc5⟩ := tk_row HT0.out
 obtain ⟨hf0, hf1, hf2, hf3, hf4, hf5⟩ := row_frozen6 HT0.out
 dsimp only at hc0 hc1 hc2 hc3 hc4 hc5
 go_wp2_with fail
 have HB2 : Hid (Below w.heap.size w (((w1.setCell ⟨w.heap.size, 3, none⟩ (.int .i64 now)).setCell ⟨w.heap.size, 4, none⟩ (.int .i64 til2)).setCell ⟨w.heap.size, 5, none⟩ (.int .i64 ser2))) := ((HB1.out.setCell (Nat.le_refl _) _).setCell (Nat.le_refl _) _).setCell (Nat.le_refl _) _
 have HT2 : Hid ((((w1.setCell ⟨w.heap.size, 3, none⟩ (.int .i64 now)).setCell ⟨w.heap.size, 4, none⟩ (.int .i64 til2)).setCell ⟨w.heap.size, 5, none⟩ (.int .i64 ser2)).heap[w.heap.size + 1]? = some (tkO tk0)) := (set3_other w1 w.heap.size (w.heap.size + 1) (by omega) 3 4 5 _ _ _).trans HT1.out
 have HX2 : Hid ((((w1.setCell ⟨w.heap.size, 3, none⟩ (.int .i64 now)).setCell ⟨w.heap.size, 4, none⟩ (.int .i64 til2)).setCell ⟨w.heap.size, 5, none⟩ (.int .i64 ser2)).heap[w.heap.size]? = some (tkO ⟨who, dst, epoch, now, til2, ser2⟩)) := tk_set3 HT0.out now til2 ser2
 generalize ((w1.setCell ⟨w.heap.size, 3, none⟩ (.int .i64 now)).setCell ⟨w.heap.size, 4, none⟩ (.int .i64 til2)).setCell ⟨w.heap.size, 5, none⟩ (.int .i64 ser2) = W at *
 refine (HK.out W).mono ?_
 rintro e w2 ⟨rfl, hb⟩
 have HB3 : Hid (Below w.heap.size w w2) := HB2.out.trans (hb.mono HB2.out.size)
 have HT3 : Hid (w2.heap[w.heap.size + 1]? = some (tkO tk0)) := (hb.block _ (row_lt HT2.out)).trans HT2.out
 have HX3 : Hid (w2.heap[w.heap.size]? = some (tkO ⟨who, dst, epoch, now, til2, ser2⟩)) := (hb.block _ (row_lt HX2.out)).trans HX2.out
 clear hb HT2 HB2 HT1 HT0 HB1 HX2 hc0 hc1 hc2 hc3 hc4 hc5 hf0 hf1 hf2 hf3 hf4 hf5 HK
 obtain ⟨hc0, hc1, hc2, hc3, hc4, hc5⟩ := tk_row HX3.out
 obtain ⟨hd0, hd1, hd2, hd3, hd4, hd5⟩ := tk_row HT3.out
 obtain ⟨hf0, hf1, hf2, hf3, hf4, hf5⟩ := row_frozen6 HT3.out
 dsimp only [tk0] at hc0 hc1 hc2 hc3 hc4 hc5 hd0 hd1 hd2 hd3 hd4 hd5
 go_wp2
 refine tkEnd rfl (w.heap.size + 1) ⟨who, dst, epoch, now, til2, ser2⟩ rfl (row_set6 HT3.out _ _ _ _ _ _) rfl ?_
 exact ⟨rfl, below_set6 HB3.out (by omega) _ _ _ _ _ _⟩
set_option maxRecDepth 100000 in
set_option maxHeartbeats 2000000 in
theorem refRenew_lt (t : Tk) (now til2 ser2 : Int) (w : World) (hs : t.who.size ≤ maxLen) (hs2 : t.dst.size ≤ maxLen) (h0 : t.good now = 0) (hm : til2 < t.til) (he : (t.anew now til2 ser2).err ≠ 0) :
  Calls Tryz.prog 88 #[t.val, .int .i64 now, .int .i64 til2, .int .i64 ser2] w fun e w' => e = .returned (.tuple #[tk0.val, .int .i64 ((t.anew now til2 ser2).err : Int)]) ∧ Below w.heap.size w w' := by
 have HB0 : Hid (Below w.heap.size w ((w.alloc (tkO t)).alloc (tkO tk0))) := ((Below.refl _ w).alloc (Nat.le_refl _) _).alloc (by simp) _
 have HR0 : Hid (((w.alloc (tkO t)).alloc (tkO tk0)).heap[w.heap.size]? = some (tkO t)) := (heap_alloc_old _ _ (by simp)).trans (heap_alloc_new _ _)
 have HR1 : Hid (((w.alloc (tkO t)).alloc (tkO tk0)).heap[w.heap.size + 1]? = some (tkO tk0)) := by
  have := heap_alloc_new (w.alloc (tkO t)) (tkO tk0)
  rw [show (w.alloc (tkO t)).heap.size = w.heap.size + 1 by simp] at this
  exact this
 have HCall := hide (refGood_any t now ((w.alloc (tkO t)).alloc (tkO tk0)) hs hs2)
 rw [h0] at HCall
 have ea : t.anew now til2 ser2 = ⟨t.who, t.dst, t.epoch, now, til2, ser2⟩ := by unfold Tk.anew; rw [show min til2 t.til = til2 by omega]
 have HK := hide (fun w => refTk_any (t.anew now til2 ser2) w hs hs2)
 have hz : (0 : Int) < ((t.anew now til2 ser2).err : Int) := by omega
 have hz2 : ((t.anew now til2 ser2).err : Int) ≤ 16 := by have := (t.anew now til2 ser2).err_le; omega
 generalize ((t.anew now til2 ser2).err : Int) = z at *
 rw [ea] at HK
 clear hs hs2 h0 he ea
 rw [tk_val] at HCall HK
 rw [tk_val t]
 obtain ⟨who, dst, epoch, frm, til, ser⟩ := t
 dsimp only at *
 go_enter Tryz.func88, Tryz.ntmps88
 go_wp2_with fail
 refine HCall.out.mono ?_
 rintro e w1 ⟨rfl, hb⟩
 have HB1 : Hid (Below w.heap.size w w1) := HB0.out.trans (hb.mono HB0.out.size)
 have HT0 : Hid (w1.heap[w.heap.size]? = some (tkO ⟨who, dst, epoch, frm, til, ser⟩)) := (hb.block _ (row_lt HR0.out)).trans HR0.out
 have HT1 : Hid (w1.heap[w.heap.size + 1]? = some (tkO tk0)) := (hb.block _ (row_lt HR1.out)).trans HR1.out
 clear hb HR0 HR1 HB0 HCall
 obtain ⟨hc0, hc1, hc2, hc3, hc4, hc5⟩ := tk_row HT0.out
 obtain ⟨hf0, hf1, hf2, hf3, hf4, hf5⟩ := row_frozen6 HT0.out
 dsimp only at hc0 hc1 hc2 hc3 hc4 hc5
 go_wp2_with fail
 have HB2 : Hid (Below w.heap.size w (((w1.setCell ⟨w.heap.size, 3, none⟩ (.int .i64 now)).setCell ⟨w.heap.size, 4, none⟩ (.int .i64 til2)).setCell ⟨w.heap.size, 5, none⟩ (.int .i64 ser2))) := ((HB1.out.setCell (Nat.le_refl _) _).setCell (Nat.le_refl _) _).setCell (Nat.le_refl _) _
 have HT2 : Hid ((((w1.setCell ⟨w.heap.size, 3, none⟩ (.int .i64 now)).setCell ⟨w.heap.size, 4, none⟩ (.int .i64 til2)).setCell ⟨w.heap.size, 5, none⟩ (.int .i64 ser2)).heap[w.heap.size + 1]? = some (tkO tk0)) := (set3_other w1 w.heap.size (w.heap.size + 1) (by omega) 3 4 5 _ _ _).trans HT1.out
 have HX2 : Hid ((((w1.setCell ⟨w.heap.size, 3, none⟩ (.int .i64 now)).setCell ⟨w.heap.size, 4, none⟩ (.int .i64 til2)).setCell ⟨w.heap.size, 5, none⟩ (.int .i64 ser2)).heap[w.heap.size]? = some (tkO ⟨who, dst, epoch, now, til2, ser2⟩)) := tk_set3 HT0.out now til2 ser2
 generalize ((w1.setCell ⟨w.heap.size, 3, none⟩ (.int .i64 now)).setCell ⟨w.heap.size, 4, none⟩ (.int .i64 til2)).setCell ⟨w.heap.size, 5, none⟩ (.int .i64 ser2) = W at *
 refine (HK.out W).mono ?_
 rintro e w2 ⟨rfl, hb⟩
 have HB3 : Hid (Below w.heap.size w w2) := HB2.out.trans (hb.mono HB2.out.size)
 have HT3 : Hid (w2.heap[w.heap.size + 1]? = some (tkO tk0)) := (hb.block _ (row_lt HT2.out)).trans HT2.out
 have HX3 : Hid (w2.heap[w.heap.size]? = some (tkO ⟨who, dst, epoch, now, til2, ser2⟩)) := (hb.block _ (row_lt HX2.out)).trans HX2.out
 clear hb HT2 HB2 HT1 HT0 HB1 HX2 hc0 hc1 hc2 hc3 hc4 hc5 hf0 hf1 hf2 hf3 hf4 hf5 HK
 obtain ⟨hc0, hc1, hc2, hc3, hc4, hc5⟩ := tk_row HX3.out
 obtain ⟨hd0, hd1, hd2, hd3, hd4, hd5⟩ := tk_row HT3.out
 obtain ⟨hf0, hf1, hf2, hf3, hf4, hf5⟩ := row_frozen6 HT3.out
 dsimp only [tk0] at hc0 hc1 hc2 hc3 hc4 hc5 hd0 hd1 hd2 hd3 hd4 hd5
 go_wp2
 refine tkEnd rfl (w.heap.size + 1) tk0 rfl (row_set6 HT3.out _ _ _ _ _ _) rfl ?_
 exact ⟨rfl, below_set6 HB3.out (by omega) _ _ _ _ _ _⟩
set_option maxRecDepth 100000 in
set_option maxHeartbeats 2000000 in
theorem refRenew_ge0 (t : Tk) (now til2 ser2 : Int) (w : World) (hs : t.who.size ≤ maxLen) (hs2 : t.dst.size ≤ maxLen) (h0 : t.good now = 0) (hm : t.til ≤ til2) (he : (t.anew now til2 ser2).err = 0) :
  Calls Tryz.prog 88 #[t.val, .int .i64 now, .int .i64 til2, .int .i64 ser2] w fun e w' => e = .returned (.tuple #[(t.anew now til2 ser2).val, .int .i64 0]) ∧ Below w.heap.size w w' := by
 have HB0 : Hid (Below w.heap.size w ((w.alloc (tkO t)).alloc (tkO tk0))) := ((Below.refl _ w).alloc (Nat.le_refl _) _).alloc (by simp) _
 have HR0 : Hid (((w.alloc (tkO t)).alloc (tkO tk0)).heap[w.heap.size]? = some (tkO t)) := (heap_alloc_old _ _ (by simp)).trans (heap_alloc_new _ _)
 have HR1 : Hid (((w.alloc (tkO t)).alloc (tkO tk0)).heap[w.heap.size + 1]? = some (tkO tk0)) := by
  have := heap_alloc_new (w.alloc (tkO t)) (tkO tk0)
  rw [show (w.alloc (tkO t)).heap.size = w.heap.size + 1 by simp] at this
  exact this
 have HCall := hide (refGood_any t now ((w.alloc (tkO t)).alloc (tkO tk0)) hs hs2)
 rw [h0] at HCall
 have ea : t.anew now til2 ser2 = ⟨t.who, t.dst, t.epoch, now, t.til, ser2⟩ := by unfold Tk.anew; rw [show min til2 t.til = t.til by omega]
 have HK := hide (fun w => refTk_any (t.anew now til2 ser2) w hs hs2)
 rw [he] at HK
 rw [ea] at HK ⊢
 clear hs hs2 h0 he ea
 rw [tk_val] at HCall HK
 rw [tk_val t, tk_val]
 obtain ⟨who, dst, epoch, frm, til, ser⟩ := t
 dsimp only at *
 go_enter Tryz.func88, Tryz.ntmps88
 go_wp2_with fail
 refine HCall.out.mono ?_
 rintro e w1 ⟨rfl, hb⟩
 have HB1 : Hid (Below w.heap.size w w1) := HB0.out.trans (hb.mono HB0.out.size)
 have HT0 : Hid (w1.heap[w.heap.size]? = some (tkO ⟨who, dst, epoch, frm, til, ser⟩)) := (hb.block _ (row_lt HR0.out)).trans HR0.out
 have HT1 : Hid (w1.heap[w.heap.size + 1]? = some (tkO tk0)) := (hb.block _ (row_lt HR1.out)).trans HR1.out
 clear hb HR0 HR1 HB0 HCall
 obtain ⟨hc0, hc1, hc2, hc3, hc4, hc5⟩ := tk_row HT0.out
 obtain ⟨hf0, hf1, hf2, hf3, hf4, hf5⟩ := row_frozen6 HT0.out
 dsimp only at hc0 hc1 hc2 hc3 hc4 hc5
 go_wp2_with fail
 have HB2 : Hid (Below w.heap.size w ((w1.setCell ⟨w.heap.size, 3, none⟩ (.int .i64 now)).setCell ⟨w.heap.size, 5, none⟩ (.int .i64 ser2))) := (HB1.out.setCell (Nat.le_refl _) _).setCell (Nat.le_refl _) _
 have HT2 : Hid (((w1.setCell ⟨w.heap.size, 3, none⟩ (.int .i64 now)).setCell ⟨w.heap.size, 5, none⟩ (.int .i64 ser2)).heap[w.heap.size + 1]? = some (tkO tk0)) := (set2_other w1 w.heap.size (w.heap.size + 1) (by omega) 3 5 _ _).trans HT1.out
 have HX2 : Hid (((w1.setCell ⟨w.heap.size, 3, none⟩ (.int .i64 now)).setCell ⟨w.heap.size, 5, none⟩ (.int .i64 ser2)).heap[w.heap.size]? = some (tkO ⟨who, dst, epoch, now, til, ser2⟩)) := tk_set2 HT0.out now ser2
 generalize (w1.setCell ⟨w.heap.size, 3, none⟩ (.int .i64 now)).setCell ⟨w.heap.size, 5, none⟩ (.int .i64 ser2) = W at *
 refine (HK.out W).mono ?_
 rintro e w2 ⟨rfl, hb⟩
 have HB3 : Hid (Below w.heap.size w w2) := HB2.out.trans (hb.mono HB2.out.size)
 have HT3 : Hid (w2.heap[w.heap.size + 1]? = some (tkO tk0)) := (hb.block _ (row_lt HT2.out)).trans HT2.out
 have HX3 : Hid (w2.heap[w.heap.size]? = some (tkO ⟨who, dst, epoch, now, til, ser2⟩)) := (hb.block _ (row_lt HX2.out)).trans HX2.out
 clear hb HT2 HB2 HT1 HT0 HB1 HX2 hc0 hc1 hc2 hc3 hc4 hc5 hf0 hf1 hf2 hf3 hf4 hf5 HK
 obtain ⟨hc0, hc1, hc2, hc3, hc4, hc5⟩ := tk_row HX3.out
 obtain ⟨hd0, hd1, hd2, hd3, hd4, hd5⟩ := tk_row HT3.out
 obtain ⟨hf0, hf1, hf2, hf3, hf4, hf5⟩ := row_frozen6 HT3.out
 dsimp only [tk0] at hc0 hc1 hc2 hc3 hc4 hc5 hd0 hd1 hd2 hd3 hd4 hd5
 go_wp2
 refine tkEnd rfl (w.heap.size + 1) ⟨who, dst, epoch, now, til, ser2⟩ rfl (row_set6 HT3.out _ _ _ _ _ _) rfl ?_
 exact ⟨rfl, below_set6 HB3.out (by omega) _ _ _ _ _ _⟩
set_option maxRecDepth 100000 in
set_option maxHeartbeats 2000000 in
theorem refRenew_ge (t : Tk) (now til2 ser2 : Int) (w : World) (hs : t.who.size ≤ maxLen) (hs2 : t.dst.size ≤ maxLen) (h0 : t.good now = 0) (hm : t.til ≤ til2) (he : (t.anew now til2 ser2).err ≠ 0) :
  Calls Tryz.prog 88 #[t.val, .int .i64 now, .int .i64 til2, .int .i64 ser2] w fun e w' => e = .returned (.tuple #[tk0.val, .int .i64 ((t.anew now til2 ser2).err : Int)]) ∧ Below w.heap.size w w' := by
 have HB0 : Hid (Below w.heap.size w ((w.alloc (tkO t)).alloc (tkO tk0))) := ((Below.refl _ w).alloc (Nat.le_refl _) _).alloc (by simp) _
 have HR0 : Hid (((w.alloc (tkO t)).alloc (tkO tk0)).heap[w.heap.size]? = some (tkO t)) := (heap_alloc_old _ _ (by simp)).trans (heap_alloc_new _ _)
 have HR1 : Hid (((w.alloc (tkO t)).alloc (tkO tk0)).heap[w.heap.size + 1]? = some (tkO tk0)) := by
  have := heap_alloc_new (w.alloc (tkO t)) (tkO tk0)
  rw [show (w.alloc (tkO t)).heap.size = w.heap.size + 1 by simp] at this
  exact this
 have HCall := hide (refGood_any t now ((w.alloc (tkO t)).alloc (tkO tk0)) hs hs2)
 rw [h0] at HCall
 have ea : t.anew now til2 ser2 = ⟨t.who, t.dst, t.epoch, now, t.til, ser2⟩ := by unfold Tk.anew; rw [show min til2 t.til = t.til by omega]
 have HK := hide (fun w => refTk_any (t.anew now til2 ser2) w hs hs2)
 have hz : (0 : Int) < ((t.anew now til2 ser2).err : Int) := by omega
 have hz2 : ((t.anew now til2 ser2).err : Int) ≤ 16 := by have := (t.anew now til2 ser2).err_le; omega
 generalize ((t.anew now til2 ser2).err : Int) = z at *
 rw [ea] at HK
 clear hs hs2 h0 he ea
 rw [tk_val] at HCall HK
 rw [tk_val t]
 obtain ⟨who, dst, epoch, frm, til, ser⟩ := t
 dsimp only at *
 go_enter Tryz.func88, Tryz.ntmps88
 go_wp2_with fail
 refine HCall.out.mono ?_
 rintro e w1 ⟨rfl, hb⟩
 have HB1 : Hid (Below w.heap.size w w1) := HB0.out.trans (hb.mono HB0.out.size)
 have HT0 : Hid (w1.heap[w.heap.size]? = some (tkO ⟨who, dst, epoch, frm, til, ser⟩)) := (hb.block _ (row_lt HR0.out)).trans HR0.out
 have HT1 : Hid (w1.heap[w.heap.size + 1]? = some (tkO tk0)) := (hb.block _ (row_lt HR1.out)).trans HR1.out
 clear hb HR0 HR1 HB0 HCall
 obtain ⟨hc0, hc1, hc2, hc3, hc4, hc5⟩ := tk_row HT0.out
 obtain ⟨hf0, hf1, hf2, hf3, hf4, hf5⟩ := row_frozen6 HT0.out
 dsimp only at hc0 hc1 hc2 hc3 hc4 hc5
 go_wp2_with fail
 have HB2 : Hid (Below w.heap.size w ((w1.setCell ⟨w.heap.size, 3, none⟩ (.int .i64 now)).setCell ⟨w.heap.size, 5, none⟩ (.int .i64 ser2))) := (HB1.out.setCell (Nat.le_refl _) _).setCell (Nat.le_refl _) _
 have HT2 : Hid (((w1.setCell ⟨w.heap.size, 3, none⟩ (.int .i64 now)).setCell ⟨w.heap.size, 5, none⟩ (.int .i64 ser2)).heap[w.heap.size + 1]? = some (tkO tk0)) := (set2_other w1 w.heap.size (w.heap.size + 1) (by omega) 3 5 _ _).trans HT1.out
 have HX2 : Hid (((w1.setCell ⟨w.heap.size, 3, none⟩ (.int .i64 now)).setCell ⟨w.heap.size, 5, none⟩ (.int .i64 ser2)).heap[w.heap.size]? = some (tkO ⟨who, dst, epoch, now, til, ser2⟩)) := tk_set2 HT0.out now ser2
 generalize (w1.setCell ⟨w.heap.size, 3, none⟩ (.int .i64 now)).setCell ⟨w.heap.size, 5, none⟩ (.int .i64 ser2) = W at *
 refine (HK.out W).mono ?_
 rintro e w2 ⟨rfl, hb⟩
 have HB3 : Hid (Below w.heap.size w w2) := HB2.out.trans (hb.mono HB2.out.size)
 have HT3 : Hid (w2.heap[w.heap.size + 1]? = some (tkO tk0)) := (hb.block _ (row_lt HT2.out)).trans HT2.out
 have HX3 : Hid (w2.heap[w.heap.size]? = some (tkO ⟨who, dst, epoch, now, til, ser2⟩)) := (hb.block _ (row_lt HX2.out)).trans HX2.out
 clear hb HT2 HB2 HT1 HT0 HB1 HX2 hc0 hc1 hc2 hc3 hc4 hc5 hf0 hf1 hf2 hf3 hf4 hf5 HK
 obtain ⟨hc0, hc1, hc2, hc3, hc4, hc5⟩ := tk_row HX3.out
 obtain ⟨hd0, hd1, hd2, hd3, hd4, hd5⟩ := tk_row HT3.out
 obtain ⟨hf0, hf1, hf2, hf3, hf4, hf5⟩ := row_frozen6 HT3.out
 dsimp only [tk0] at hc0 hc1 hc2 hc3 hc4 hc5 hd0 hd1 hd2 hd3 hd4 hd5
 go_wp2
 refine tkEnd rfl (w.heap.size + 1) tk0 rfl (row_set6 HT3.out _ _ _ _ _ _) rfl ?_
 exact ⟨rfl, below_set6 HB3.out (by omega) _ _ _ _ _ _⟩
theorem refRenew_any (t : Tk) (now til2 ser2 : Int) (w : World) (hs : t.who.size ≤ maxLen) (hs2 : t.dst.size ≤ maxLen) :
  Calls Tryz.prog 88 #[t.val, .int .i64 now, .int .i64 til2, .int .i64 ser2] w fun e w' => e = .returned (.tuple #[(okT (t.renewE now til2 ser2) (t.anew now til2 ser2)).val, .int .i64 (t.renewE now til2 ser2 : Int)]) ∧ Below w.heap.size w w' := by
 by_cases h0 : t.good now = 0
 ·
  have e : t.renewE now til2 ser2 = (t.anew now til2 ser2).err := by unfold Tk.renewE; rw [if_pos h0]
  rw [e]
  by_cases he : (t.anew now til2 ser2).err = 0
  ·
   rw [he, okT_yes]
   by_cases hm : til2 < t.til
   ·
    exact refRenew_lt0 t now til2 ser2 w hs hs2 h0 hm he
   ·
    exact refRenew_ge0 t now til2 ser2 w hs hs2 h0 (by omega) he
  ·
   rw [okT_no _ _ he]
   by_cases hm : til2 < t.til
   ·
    exact refRenew_lt t now til2 ser2 w hs hs2 h0 hm he
   ·
    exact refRenew_ge t now til2 ser2 w hs hs2 h0 (by omega) he
 ·
  have e : t.renewE now til2 ser2 = t.good now := by unfold Tk.renewE; rw [if_neg h0]
  rw [e, okT_no _ _ h0]
  exact refRenew_no t now til2 ser2 w hs hs2 h0
end Go.Proofs.YtabpnjchocgakaaGreatDoor

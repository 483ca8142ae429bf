/-
  A desk of sessions in memory: its block, and its map; what package session's New, Ask, Close, Copy, and its own isTime and stays give, for every desk, ticket, number and time.
-/
import Derived.Test.YteabincmopeljaeGreatDoorSessMap
import Derived.Test.YteabincmopeljaeGreatDoorSessLays
import Derived.Test.YteabincmopeljaeGreatDoorTkPa
import Derived.Test.YteabincmopeljaeGreatDoorFloorFind
import Derived.Test.YteabincmopeljaeGreatDoorQuietBelow
import Derived.Shelf.SlMaps.Clone
import Derived.Laws.Rows
import Derived.Laws.NewBlocks
import Derived.Laws.ResultCell
import Derived.RegionTactic
namespace Go.Proofs.YteabincmopeljaeGreatDoor
open Go.RowKit Go.Extern.Stop Go.Stop Go.Extern Go.Maps Go.Shelf

/-- The errors of the chapter. -/
def dsS (i : Nat) : Bool := i == 1 || i == 2 || i == 3 || i == 4 || i == 6 || i == 7 || i == 10 || i == 11
theorem EV.tkd {a : Nat → Addr} {w : World} (h : EV dsS a w) : EV tkS a w := ⟨fun i hi hs => h.var i hi (by
  unfold tkS at hs
  unfold dsS
  simp only [Bool.or_eq_true, beq_iff_eq] at hs ⊢
  omega)⟩
theorem EV.fld {a : Nat → Addr} {w : World} (h : EV dsS a w) : EV flS a w := ⟨fun i hi hs => h.var i hi (by
  unfold flS at hs
  unfold dsS
  simp only [Bool.or_eq_true, beq_iff_eq] at hs ⊢
  omega)⟩
theorem row_two (w : World) (o o' : Obj) : ((w.alloc o).alloc o').heap[w.heap.size]? = some o := (Below.heap_alloc _ _ _ (by simp)).trans (heap_alloc_new w o)
theorem desk_grown {w w' : World} (h : Below w.heap.size w w') (row : Option Nat) : w.grownBy w' row := ⟨h.os, h.tape, h.output, h.size, fun k hk _ => h.block k hk⟩
theorem own_tightT {w : World} {b n : Nat} {D : DataW Unit} (h : w.ownsMap Tryz.prog 3 tkR b n D) : w.ownsMap Tryz.prog 3 tkR b (Maps.size D) D := by
  obtain ⟨es, clock, hb, F, hs, hD⟩ := h
  refine ⟨es, clock, hb, F, ?_, hD⟩
  rw [hD]
  simp [Maps.size, length_sorted]
/-- A number that is one of the language. -/
abbrev NumOk (n : Int) : Prop := (Lit.int IntKind.i64 n).wf = true
theorem num_ok (n : Int) (h : 0 ≤ n) (h2 : n ≤ 1000001) : NumOk n := by
  show (decide (-9223372036854775808 ≤ n) && decide (n ≤ 9223372036854775807)) = true
  rw [Bool.and_eq_true, decide_eq_true_eq, decide_eq_true_eq]
  omega
abbrev deO (many : Int) (m : Nat) : Obj := .cells #[.int .i64 many, .map (some m)] 66 (0, 0)
/-- A desk, in memory. -/
structure DeskAt (w : World) (p m : Nat) (d : Dk) : Prop where
  row : w.heap[p]? = some (deO d.many m)
  own : w.ownsMap Tryz.prog 3 tkR m d.l.length (dOfT d.l)
  good : GoodD d
theorem DeskAt.ne {w : World} {p m : Nat} {d : Dk} (h : DeskAt w p m d) : p ≠ m := fun e => by
  obtain ⟨es, clock, hb, _⟩ := h.own
  rw [← e, h.row] at hb
  cases hb
theorem DeskAt.same {w w' : World} {p m : Nat} {d : Dk} (h : DeskAt w p m d) (h1 : w'.heap[p]? = w.heap[p]?) (h2 : w'.heap[m]? = w.heap[m]?) : DeskAt w' p m d := by
  obtain ⟨es, clock, hb, F, hs, hD⟩ := h.own
  exact ⟨h1.trans h.row, ⟨es, clock, h2.trans hb, F, hs, hD⟩, h.good⟩
theorem DeskAt.kept {w w' : World} {p m : Nat} {d : Dk} (h : DeskAt w p m d) {row : Option Nat} (hg : w.grownBy w' row) (h1 : some p ≠ row) (h2 : some m ≠ row) : DeskAt w' p m d :=
  h.same (hg.block p (row_lt h.row) h1) (hg.block m h.own.lt h2)
theorem DeskAt.below {w w' : World} {p m : Nat} {d : Dk} (h : DeskAt w p m d) (hb : Below w.heap.size w w') : DeskAt w' p m d :=
  h.kept (desk_grown hb none) (by simp) (by simp)
theorem de_cells {w : World} {p m : Nat} {many : Int} (h : w.heap[p]? = some (deO many m)) : w.cell? ⟨p, 0, none⟩ = some (.int .i64 many) ∧ w.cell? ⟨p, 1, none⟩ = some (.map (some m)) ∧ w.frozen? ⟨p, 0, none⟩ = false ∧ w.frozen? ⟨p, 1, none⟩ = false :=
  ⟨cell_of_row w p 0 _ _ _ h, cell_of_row w p 1 _ _ _ h, frozen_of_row w p 0 _ _ h, frozen_of_row w p 1 _ _ h⟩
/-- Its map written. -/
theorem DeskAt.turn {w w' : World} {p m n : Nat} {d : Dk} {L' : List Os} (h : DeskAt w p m d) (ho : w'.ownsMap Tryz.prog 3 tkR m n (dOfT L')) (hg : w.grownBy w' (some m)) (hL : GoodD ⟨d.many, L'⟩) : DeskAt w' p m ⟨d.many, L'⟩ := by
  refine ⟨(hg.block p (row_lt h.row) (by have := h.ne; simpa using this)).trans h.row, ?_, hL⟩
  have := own_tightT ho
  rwa [dOfT_size] at this

theorem deIsTime_any (n : Int) (w : World) :
    Calls Tryz.prog 28 #[.int .i64 n] w fun e w' => e = .returned (.bool (decide (0 ≤ n ∧ n ≤ 1000000))) ∧ w' = w := by
  by_cases h1 : 0 ≤ n
  · by_cases h2 : n ≤ 1000000
    · rw [decide_eq_true ⟨h1, h2⟩]
      go_enter Tryz.func28, Tryz.ntmps28
      go_wp2
      go_ret
      exact ⟨rfl, rfl⟩
    · rw [decide_eq_false (fun h => h2 h.2)]
      go_enter Tryz.func28, Tryz.ntmps28
      go_wp2
      go_ret
      exact ⟨by simp_all, rfl⟩
  · rw [decide_eq_false (fun h => h1 h.1)]
    go_enter Tryz.func28, Tryz.ntmps28
    go_wp2
    go_ret
    exact ⟨rfl, rfl⟩

set_option maxRecDepth 100000 in
set_option maxHeartbeats 1000000 in
theorem stays_any (a : Nat → Addr) (o : Os) (now : Int) (v : Value) (fl : List Fl) (w : World) (hE : EV tkS a w) (hs : o.tk.who.size ≤ maxLen) (hs2 : o.tk.dst.size ≤ maxLen) (hv : FlAt w v fl) (hr : RisingF fl) (hl : fl.length ≤ 1000000) :
    Calls Tryz.prog 29 #[o.tk.val, v, .int .i64 now] w fun e w' => e = .returned (.bool (staysO fl now o)) ∧ Below w.heap.size w w' := by
  obtain ⟨n, t⟩ := o
  have HB0 : Hid (Below w.heap.size w (w.alloc (tkO t))) := (Below.refl _ w).alloc (Nat.le_refl _) _
  have HR0 : Hid ((w.alloc (tkO t)).heap[w.heap.size]? = some (tkO t)) := heap_alloc_new _ _
  have HG := hide (good_ev a t now (w.alloc (tkO t)) (hE.below HB0.out) hs hs2)
  have HV := hide hv
  have HP := hide (fun W h => passes_any v fl t.who t.epoch W h hr hl)
  rw [show staysO fl now ⟨n, t⟩ = (decide (t.good now = 0) && decide (ofL fl t.who.data.toList ≤ t.epoch)) from rfl]
  dsimp only at *
  clear hE hs hs2 hv hr hl
  generalize decide (ofL fl t.who.data.toList ≤ t.epoch) = q at *
  by_cases h0 : t.good now = 0
  · rw [h0, show errV a 0 = Value.nilIface from rfl] at HG
    rw [decide_eq_true h0, Bool.true_and]
    rw [tk_val] at HG ⊢
    clear h0
    obtain ⟨who, dst, epoch, frm, til, ser⟩ := t
    dsimp only at *
    go_enter Tryz.func29, Tryz.ntmps29
    go_wp2_with fail
    refine HG.out.mono ?_
    rintro e w1 ⟨rfl, hb⟩
    have HB1 : Hid (Below w.heap.size w w1) := HB0.out.trans (hb.mono HB0.out.size)
    have HR1 : Hid (w1.heap[w.heap.size]? = some (tkO ⟨who, dst, epoch, frm, til, ser⟩)) := (hb.block _ (row_lt HR0.out)).trans HR0.out
    obtain ⟨hc0, hc1, hc2, hc3, hc4, hc5⟩ := tk_row HR1.out
    dsimp only at hc0 hc1 hc2 hc3 hc4 hc5
    clear hb HG
    go_wp2_with fail
    refine (HP.out _ (HV.out.below HB1.out)).mono ?_
    rintro e w2 ⟨rfl, hb⟩
    have HB2 : Hid (Below w.heap.size w w2) := HB1.out.trans (hb.mono HB1.out.size)
    clear hb
    go_wp2
    go_ret
    exact ⟨rfl, HB2.out⟩
  · rw [decide_eq_false h0, Bool.false_and]
    rw [show errV a (t.good now) = eV (a (t.good now - 1)) by unfold errV; rw [if_neg h0]] at HG
    generalize a (t.good now - 1) = ad at *
    rw [tk_val] at HG ⊢
    clear h0 HP
    obtain ⟨who, dst, epoch, frm, til, ser⟩ := t
    dsimp only at *
    go_enter Tryz.func29, Tryz.ntmps29
    go_wp2_with fail
    refine HG.out.mono ?_
    rintro e w1 ⟨rfl, hb⟩
    have HB1 : Hid (Below w.heap.size w w1) := HB0.out.trans (hb.mono HB0.out.size)
    clear hb HG
    go_wp2
    go_ret
    exact ⟨rfl, HB1.out⟩

set_option maxRecDepth 100000 in
set_option maxHeartbeats 1000000 in
theorem deNew_any (w : World) :
    Calls Tryz.prog 6 #[] w fun e w' => e = .returned (.pointer (some ⟨w.heap.size + 1, 0, none⟩)) ∧ DeskAt w' (w.heap.size + 1) w.heap.size ⟨0, []⟩ ∧ Below w.heap.size w w' := by
  have hmm := @run_makeMap Tryz.prog
  have HW : Hid (∀ w' : World, w' = (w.alloc (.map #[] 0)).alloc (deO 0 w.heap.size) → DeskAt w' (w.heap.size + 1) w.heap.size ⟨0, []⟩ ∧ Below w.heap.size w w') := fun w' e => by
    subst e
    refine ⟨⟨?_, ?_, GoodD.zero⟩, ((Below.refl _ _).alloc (Nat.le_refl _) _).alloc (by simp) _⟩
    · have := heap_alloc_new (w.alloc (.map #[] 0)) (deO 0 w.heap.size)
      rwa [World.size_alloc] at this
    · exact (World.ownsMap_made w Tryz.prog 3 tkR).alloc _
  go_enter Tryz.func6, Tryz.ntmps6
  go_wp2
  go_ret
  exact ⟨by simp, HW.out _ rfl⟩

theorem Tryz.zeroTicket (w : World) : (zeroValue 32).run Tryz.prog w = .ok (.agg #[.string ⟨#[]⟩, .string ⟨#[]⟩, .int .i64 0, .int .i64 0, .int .i64 0, .int .i64 0]) w := by kernel_rfl
section
variable {ops : Array Oper} {rest : List Oper} {o : Oper} {act : Act} {Q : Exit → Act → World → Prop}
/-- A look-up of a number that is not open. -/
theorem tlook_no (w : World) (hg : o.guard = none) (m x : Operand) (hop : o.op = Op.lookup 64 m x true) (b n : Nat) (L : List Os) (num : Int) (hm : act.eval m = .map (some b)) (hown : w.ownsMap Tryz.prog 3 tkR b n (dOfT L)) (hx : act.eval x = .int .i64 num) (hw : NumOk num) (hL : findO L num = none)
    (hK : wpList Tryz.prog ops Q rest (act.put o.dst (.tuple #[.agg #[.string ⟨#[]⟩, .string ⟨#[]⟩, .int .i64 0, .int .i64 0, .int .i64 0, .int .i64 0], .bool false])) w) : wpList Tryz.prog ops Q (o :: rest) act w :=
  wpList_lookup_own_ok w hg m x _ hop 3 32 (int_keyed Tryz.underlying3) Tryz.underlying64 tkR (Tryz.zeroTicket w) (tkD tk0) [] (tkR_val tk0) b n _ hm hown _ _ hx (Maps.keyOf_int_mk Tryz.underlying3 hw) (fun v ps hv => by
    rw [dOfT_at, hL] at hv
    obtain ⟨t, rfl, hz⟩ := tkR_inv hv
    obtain rfl : tk0 = t := tkD_inj (congrArg Prod.fst hz)
    rw [dOfT_has, hL]
    exact hK)
/-- A look-up of a number that is open. -/
theorem tlook_yes (w : World) (hg : o.guard = none) (m x : Operand) (hop : o.op = Op.lookup 64 m x true) (b n : Nat) (L : List Os) (num : Int) (hm : act.eval m = .map (some b)) (hown : w.ownsMap Tryz.prog 3 tkR b n (dOfT L)) (hx : act.eval x = .int .i64 num) (hw : NumOk num) (q : Os) (hL : findO L num = some q)
    (hK : wpList Tryz.prog ops Q rest (act.put o.dst (.tuple #[.agg #[.string q.tk.who, .string q.tk.dst, .int .i64 q.tk.epoch, .int .i64 q.tk.frm, .int .i64 q.tk.til, .int .i64 q.tk.ser], .bool true])) w) : wpList Tryz.prog ops Q (o :: rest) act w :=
  wpList_lookup_own_ok w hg m x _ hop 3 32 (int_keyed Tryz.underlying3) Tryz.underlying64 tkR (Tryz.zeroTicket w) (tkD tk0) [] (tkR_val tk0) b n _ hm hown _ _ hx (Maps.keyOf_int_mk Tryz.underlying3 hw) (fun v ps hv => by
    rw [dOfT_at, hL] at hv
    obtain ⟨t, rfl, hz⟩ := tkR_inv hv
    obtain rfl : q.tk = t := tkD_inj (congrArg Prod.fst hz)
    rw [dOfT_has, hL]
    exact hK)
end

set_option maxRecDepth 100000 in
set_option maxHeartbeats 2000000 in
theorem deAsk_none (a : Nat → Addr) (p m : Nat) (d : Dk) (num now : Int) (w : World) (h : DeskAt w p m d) (hE : EV dsS a w) (hw : NumOk num) (hf : findO d.l num = none) :
    Calls Tryz.prog 10 #[.pointer (some ⟨p, 0, none⟩), .int .i64 num, .int .i64 now] w fun e w' => e = .returned (.tuple #[(askK d.l num now).val, errV a (askO d.l num now)]) ∧ Below w.heap.size w w' := by
  have hB0 : ∀ o, Below w.heap.size w (w.alloc o) := fun o => (Below.refl _ w).alloc (Nat.le_refl _) _
  have hc1 : ∀ o, (w.alloc o).cell? ⟨p, 1, none⟩ = some (.map (some m)) := fun o => (de_cells (h.below (hB0 o)).row).2.1
  have HO := hide (fun o => (h.below (hB0 o)).own)
  have HB1 : Hid (∀ o o', Below w.heap.size w ((w.alloc o).alloc o')) := fun o o' => (hB0 o).alloc (hB0 o).size _
  have HR1 : Hid (∀ o o', ((w.alloc o).alloc o').heap[w.heap.size]? = some o) := fun o o' => row_two w o o'
  have HT1 : Hid (∀ o o', ((w.alloc o).alloc o').heap[w.heap.size + 1]? = some o') := fun o o' => by
    have := heap_alloc_new (w.alloc o) o'
    rwa [World.size_alloc] at this
  have e1 : askO d.l num now = 5 ∧ askK d.l num now = tk0 := by unfold askO askK; rw [hf]; exact ⟨rfl, rfl⟩
  rw [e1.1, e1.2]
  have HW := hide (⟨HB1.out (tkO tk0) (tkO tk0), HR1.out (tkO tk0) (tkO tk0)⟩ : Below w.heap.size w ((w.alloc (tkO tk0)).alloc (tkO tk0)) ∧ ((w.alloc (tkO tk0)).alloc (tkO tk0)).heap[w.heap.size]? = some (tkO tk0))
  have hE1 := hE.below HW.out.1
  have hlt : 1 < w.heap.size := cell_lt (hE.var 4 (by decide) rfl)
  have hne : 1 ≠ w.heap.size := Nat.ne_of_lt hlt
  have hne2 : w.heap.size ≠ 1 := Ne.symm hne
  have HV : Hid (((w.alloc (tkO tk0)).alloc (tkO tk0)).cell? ⟨1, 0, none⟩ = some (eV (a 4))) := hE1.var 4 (by decide) rfl
  clear e1 h hE hE1 hB0 HB1 HR1 HT1
  go_enter Tryz.func10, Tryz.ntmps10
  go_wp2_with (first | (at_lookup; refine tlook_no _ rfl _ _ rfl m d.l.length d.l num rfl (HO.out _) rfl hw hf ?_) | go_in)
  obtain ⟨HB2, HR2⟩ := HW.out
  have hv := HV.out
  dsimp only [tkO, tk0] at HB2 HR2 hv ⊢
  generalize (w.alloc (.cells #[.string ⟨#[]⟩, .string ⟨#[]⟩, .int .i64 0, .int .i64 0, .int .i64 0, .int .i64 0] 32)).alloc (.cells #[.string ⟨#[]⟩, .string ⟨#[]⟩, .int .i64 0, .int .i64 0, .int .i64 0, .int .i64 0] 32) = W1 at *
  have HR3 : W1.heap[w.heap.size]? = some (tkO tk0) := HR2
  obtain ⟨g0, g1, g2, g3, g4, g5⟩ := row_frozen6 HR3
  obtain ⟨x0, x1, x2, x3, x4, x5⟩ := tk_row HR3
  dsimp only [tk0] at x0 x1 x2 x3 x4 x5
  have HB3 := hide HB2
  have HR4 := hide HR3
  clear HB2 HR2 HR3
  go_region
  go_wp2
  have hrow := row_set6 HR4.out (.string ⟨#[]⟩) (.string ⟨#[]⟩) (.int .i64 0) (.int .i64 0) (.int .i64 0) (.int .i64 0)
  have hbel := below_set6 HB3.out (Nat.le_refl _) (.string ⟨#[]⟩) (.string ⟨#[]⟩) (.int .i64 0) (.int .i64 0) (.int .i64 0) (.int .i64 0)
  generalize (((((W1.setCell ⟨w.heap.size, 0, none⟩ (.string ⟨#[]⟩)).setCell ⟨w.heap.size, 1, none⟩ (.string ⟨#[]⟩)).setCell ⟨w.heap.size, 2, none⟩ (.int .i64 0)).setCell ⟨w.heap.size, 3, none⟩ (.int .i64 0)).setCell ⟨w.heap.size, 4, none⟩ (.int .i64 0)).setCell ⟨w.heap.size, 5, none⟩ (.int .i64 0) = W2 at hrow hbel ⊢
  refine tkEnd rfl w.heap.size tk0 rfl (show W2.drew.heap[w.heap.size]? = some (tkO tk0) from hrow) rfl ?_
  exact ⟨rfl, hbel.drew⟩

set_option maxRecDepth 100000 in
set_option maxHeartbeats 2000000 in
theorem deAsk_good (a : Nat → Addr) (p m : Nat) (d : Dk) (num now : Int) (w : World) (h : DeskAt w p m d) (hE : EV dsS a w) (hw : NumOk num) (o : Os) (hf : findO d.l num = some o) (hg : o.tk.good now = 0) :
    Calls Tryz.prog 10 #[.pointer (some ⟨p, 0, none⟩), .int .i64 num, .int .i64 now] w fun e w' => e = .returned (.tuple #[(askK d.l num now).val, errV a (askO d.l num now)]) ∧ Below w.heap.size w w' := by
  have hB0 : ∀ o, Below w.heap.size w (w.alloc o) := fun o => (Below.refl _ w).alloc (Nat.le_refl _) _
  have hc1 : ∀ o, (w.alloc o).cell? ⟨p, 1, none⟩ = some (.map (some m)) := fun o => (de_cells (h.below (hB0 o)).row).2.1
  have HO := hide (fun o => (h.below (hB0 o)).own)
  have HB1 : Hid (∀ o o', Below w.heap.size w ((w.alloc o).alloc o')) := fun o o' => (hB0 o).alloc (hB0 o).size _
  have HR1 : Hid (∀ o o', ((w.alloc o).alloc o').heap[w.heap.size]? = some o) := fun o o' => row_two w o o'
  have HT1 : Hid (∀ o o', ((w.alloc o).alloc o').heap[w.heap.size + 1]? = some o') := fun o o' => by
    have := heap_alloc_new (w.alloc o) o'
    rwa [World.size_alloc] at this
  obtain ⟨ho, _⟩ := findO_some hf
  have hsz := h.good.len o ho
  have e1 : askO d.l num now = o.tk.good now ∧ askK d.l num now = okT (o.tk.good now) o.tk := by unfold askO askK; rw [hf]; exact ⟨rfl, rfl⟩
  rw [e1.1, e1.2]
  have HG := hide (fun o' => good_ev a o.tk now ((w.alloc o').alloc (tkO o.tk)) ((hE.tkd).below (HB1.out _ _)) hsz.1 hsz.2)
  have hy0 : ∀ o', ((w.alloc o').alloc (tkO o.tk)).cell? ⟨w.heap.size + 1, 0, none⟩ = some (.string o.tk.who) := fun o' => cell_of_row _ _ 0 _ _ _ (HT1.out o' _)
  have hy1 : ∀ o', ((w.alloc o').alloc (tkO o.tk)).cell? ⟨w.heap.size + 1, 1, none⟩ = some (.string o.tk.dst) := fun o' => cell_of_row _ _ 1 _ _ _ (HT1.out o' _)
  have hy2 : ∀ o', ((w.alloc o').alloc (tkO o.tk)).cell? ⟨w.heap.size + 1, 2, none⟩ = some (.int .i64 o.tk.epoch) := fun o' => cell_of_row _ _ 2 _ _ _ (HT1.out o' _)
  have hy3 : ∀ o', ((w.alloc o').alloc (tkO o.tk)).cell? ⟨w.heap.size + 1, 3, none⟩ = some (.int .i64 o.tk.frm) := fun o' => cell_of_row _ _ 3 _ _ _ (HT1.out o' _)
  have hy4 : ∀ o', ((w.alloc o').alloc (tkO o.tk)).cell? ⟨w.heap.size + 1, 4, none⟩ = some (.int .i64 o.tk.til) := fun o' => cell_of_row _ _ 4 _ _ _ (HT1.out o' _)
  have hy5 : ∀ o', ((w.alloc o').alloc (tkO o.tk)).cell? ⟨w.heap.size + 1, 5, none⟩ = some (.int .i64 o.tk.ser) := fun o' => cell_of_row _ _ 5 _ _ _ (HT1.out o' _)
  rw [tk_val] at HG
  clear e1 h hE ho hsz hB0
  rw [hg, show errV a 0 = Value.nilIface from rfl] at HG
  rw [hg, okT_yes, tk_val]
  clear hg
  go_enter Tryz.func10, Tryz.ntmps10
  go_wp2_with (first | (at_lookup; refine tlook_yes _ rfl _ _ rfl m d.l.length d.l num rfl (HO.out _) rfl hw o hf ?_) | (go_at_call 24; refine (HG.out _).mono ?_; rintro e w1 ⟨rfl, hb⟩; have HBa : Hid (Below w.heap.size w w1) := (HB1.out _ _).trans (hb.mono (HB1.out _ _).size); have HRa : Hid (w1.heap[w.heap.size]? = some (tkO tk0)) := (hb.block _ (row_lt (HR1.out _ _))).trans (HR1.out (tkO tk0) (tkO o.tk)); have HTa : Hid (w1.heap[w.heap.size + 1]? = some (tkO o.tk)) := (hb.block _ (row_lt (HT1.out _ _))).trans (HT1.out (tkO tk0) (tkO o.tk)); obtain ⟨g0, g1, g2, g3, g4, g5⟩ := row_frozen6 HRa.out; obtain ⟨x0, x1, x2, x3, x4, x5⟩ := tk_row HRa.out; obtain ⟨z0, z1, z2, z3, z4, z5⟩ := tk_row HTa.out; dsimp only [tk0] at x0 x1 x2 x3 x4 x5; clear hb HG hy0 hy1 hy2 hy3 hy4 hy5) | go_in)
  refine tkEnd rfl w.heap.size o.tk rfl (row_set6 HRa.out _ _ _ _ _ _) rfl ?_
  exact ⟨rfl, below_set6 HBa.out (Nat.le_refl _) _ _ _ _ _ _⟩

set_option maxRecDepth 100000 in
set_option maxHeartbeats 2000000 in
theorem deAsk_bad (a : Nat → Addr) (p m : Nat) (d : Dk) (num now : Int) (w : World) (h : DeskAt w p m d) (hE : EV dsS a w) (hw : NumOk num) (o : Os) (hf : findO d.l num = some o) (hg : o.tk.good now ≠ 0) :
    Calls Tryz.prog 10 #[.pointer (some ⟨p, 0, none⟩), .int .i64 num, .int .i64 now] w fun e w' => e = .returned (.tuple #[(askK d.l num now).val, errV a (askO d.l num now)]) ∧ Below w.heap.size w w' := by
  have hB0 : ∀ o, Below w.heap.size w (w.alloc o) := fun o => (Below.refl _ w).alloc (Nat.le_refl _) _
  have hc1 : ∀ o, (w.alloc o).cell? ⟨p, 1, none⟩ = some (.map (some m)) := fun o => (de_cells (h.below (hB0 o)).row).2.1
  have HO := hide (fun o => (h.below (hB0 o)).own)
  have HB1 : Hid (∀ o o', Below w.heap.size w ((w.alloc o).alloc o')) := fun o o' => (hB0 o).alloc (hB0 o).size _
  have HR1 : Hid (∀ o o', ((w.alloc o).alloc o').heap[w.heap.size]? = some o) := fun o o' => row_two w o o'
  have HT1 : Hid (∀ o o', ((w.alloc o).alloc o').heap[w.heap.size + 1]? = some o') := fun o o' => by
    have := heap_alloc_new (w.alloc o) o'
    rwa [World.size_alloc] at this
  obtain ⟨ho, _⟩ := findO_some hf
  have hsz := h.good.len o ho
  have e1 : askO d.l num now = o.tk.good now ∧ askK d.l num now = okT (o.tk.good now) o.tk := by unfold askO askK; rw [hf]; exact ⟨rfl, rfl⟩
  rw [e1.1, e1.2]
  have HG := hide (fun o' => good_ev a o.tk now ((w.alloc o').alloc (tkO o.tk)) ((hE.tkd).below (HB1.out _ _)) hsz.1 hsz.2)
  have hy0 : ∀ o', ((w.alloc o').alloc (tkO o.tk)).cell? ⟨w.heap.size + 1, 0, none⟩ = some (.string o.tk.who) := fun o' => cell_of_row _ _ 0 _ _ _ (HT1.out o' _)
  have hy1 : ∀ o', ((w.alloc o').alloc (tkO o.tk)).cell? ⟨w.heap.size + 1, 1, none⟩ = some (.string o.tk.dst) := fun o' => cell_of_row _ _ 1 _ _ _ (HT1.out o' _)
  have hy2 : ∀ o', ((w.alloc o').alloc (tkO o.tk)).cell? ⟨w.heap.size + 1, 2, none⟩ = some (.int .i64 o.tk.epoch) := fun o' => cell_of_row _ _ 2 _ _ _ (HT1.out o' _)
  have hy3 : ∀ o', ((w.alloc o').alloc (tkO o.tk)).cell? ⟨w.heap.size + 1, 3, none⟩ = some (.int .i64 o.tk.frm) := fun o' => cell_of_row _ _ 3 _ _ _ (HT1.out o' _)
  have hy4 : ∀ o', ((w.alloc o').alloc (tkO o.tk)).cell? ⟨w.heap.size + 1, 4, none⟩ = some (.int .i64 o.tk.til) := fun o' => cell_of_row _ _ 4 _ _ _ (HT1.out o' _)
  have hy5 : ∀ o', ((w.alloc o').alloc (tkO o.tk)).cell? ⟨w.heap.size + 1, 5, none⟩ = some (.int .i64 o.tk.ser) := fun o' => cell_of_row _ _ 5 _ _ _ (HT1.out o' _)
  rw [tk_val] at HG
  clear e1 h hE ho hsz hB0
  rw [okT_no _ _ hg]
  rw [show errV a (o.tk.good now) = eV (a (o.tk.good now - 1)) by unfold errV; rw [if_neg hg]] at HG ⊢
  generalize a (o.tk.good now - 1) = ad at *
  clear hg
  go_enter Tryz.func10, Tryz.ntmps10
  go_wp2_with (first | (at_lookup; refine tlook_yes _ rfl _ _ rfl m d.l.length d.l num rfl (HO.out _) rfl hw o hf ?_) | (go_at_call 24; refine (HG.out _).mono ?_; rintro e w1 ⟨rfl, hb⟩; have HBa : Hid (Below w.heap.size w w1) := (HB1.out _ _).trans (hb.mono (HB1.out _ _).size); have HRa : Hid (w1.heap[w.heap.size]? = some (tkO tk0)) := (hb.block _ (row_lt (HR1.out _ _))).trans (HR1.out (tkO tk0) (tkO o.tk)); have HTa : Hid (w1.heap[w.heap.size + 1]? = some (tkO o.tk)) := (hb.block _ (row_lt (HT1.out _ _))).trans (HT1.out (tkO tk0) (tkO o.tk)); obtain ⟨g0, g1, g2, g3, g4, g5⟩ := row_frozen6 HRa.out; obtain ⟨x0, x1, x2, x3, x4, x5⟩ := tk_row HRa.out; dsimp only [tk0] at x0 x1 x2 x3 x4 x5; clear hb HG hy0 hy1 hy2 hy3 hy4 hy5) | go_in)
  refine tkEnd rfl w.heap.size tk0 rfl (row_set6 HRa.out _ _ _ _ _ _) rfl ?_
  exact ⟨rfl, below_set6 HBa.out (Nat.le_refl _) _ _ _ _ _ _⟩


theorem deAsk_any (a : Nat → Addr) (p m : Nat) (d : Dk) (num now : Int) (w : World) (h : DeskAt w p m d) (hE : EV dsS a w) (hw : NumOk num) :
    Calls Tryz.prog 10 #[.pointer (some ⟨p, 0, none⟩), .int .i64 num, .int .i64 now] w fun e w' => e = .returned (.tuple #[(askK d.l num now).val, errV a (askO d.l num now)]) ∧ Below w.heap.size w w' := by
  cases hf : findO d.l num with
  | none => exact deAsk_none a p m d num now w h hE hw hf
  | some o =>
    by_cases hg : o.tk.good now = 0
    · exact deAsk_good a p m d num now w h hE hw o hf hg
    · exact deAsk_bad a p m d num now w h hE hw o hf hg

set_option maxRecDepth 100000 in
set_option maxHeartbeats 2000000 in
theorem deClose_any (a : Nat → Addr) (p m : Nat) (d : Dk) (num : Int) (w : World) (h : DeskAt w p m d) (hE : EV dsS a w) (hw : NumOk num) :
    Calls Tryz.prog 12 #[.pointer (some ⟨p, 0, none⟩), .int .i64 num] w fun e w' => e = .returned (errV a (closeO d.l num)) ∧ DeskAt w' p m ⟨d.many, closeL d.l num⟩ ∧ w.grownBy w' (some m) := by
  have hB0 : ∀ o, Below w.heap.size w (w.alloc o) := fun o => (Below.refl _ w).alloc (Nat.le_refl _) _
  have hc1 := (de_cells h.row).2.1
  cases hf : findO d.l num with
  | none =>
    have e1 : closeO d.l num = 5 := by unfold closeO; rw [hf]; rfl
    rw [e1, closeL_none hf]
    have hv : ∀ o, (w.alloc o).cell? ⟨1, 0, none⟩ = some (eV (a 4)) := fun o => (hE.below (hB0 o)).var 4 (by decide) rfl
    have HH : Hid (∀ o, DeskAt (w.alloc o) p m d ∧ w.grownBy (w.alloc o) (some m)) := fun o => ⟨h.below (hB0 o), desk_grown (hB0 o) _⟩
    have HO := hide h.own
    clear e1 h hE hB0
    go_enter Tryz.func12, Tryz.ntmps12
    go_wp2_with (first | (at_lookup; refine tlook_no _ rfl _ _ rfl m d.l.length d.l num rfl HO.out rfl hw hf ?_) | go_in)
    go_ret
    exact ⟨rfl, HH.out _⟩
  | some o =>
    have e1 : closeO d.l num = 0 := by unfold closeO; rw [hf]; rfl
    rw [e1]
    have HO := hide h.own
    have HO1 := hide (fun o => (h.below (hB0 o)).own)
    have hc2 : ∀ o, (w.alloc o).cell? ⟨p, 1, none⟩ = some (.map (some m)) := fun o => (de_cells (h.below (hB0 o)).row).2.1
    have HH : Hid (∀ o w', (w.alloc o).mapTurned w' m → w'.ownsMap Tryz.prog 3 tkR m d.l.length ((dOfT d.l).del (.int .i64 num)) → DeskAt w' p m ⟨d.many, closeL d.l num⟩ ∧ w.grownBy w' (some m)) := fun o w' ht ho => by
      rw [dOfT_del] at ho
      exact ⟨(h.below (hB0 o)).turn ho ht.grown (h.good.part _), (desk_grown (hB0 o) (some m)).trans ht.grown⟩
    clear e1 h hE hB0
    go_enter Tryz.func12, Tryz.ntmps12
    go_wp2_with (first | (at_lookup; refine tlook_yes _ rfl _ _ rfl m d.l.length d.l num rfl HO.out rfl hw o hf ?_) | (at_delete; refine wpList_delete_own _ rfl _ _ 64 3 rfl 32 (int_keyed Tryz.underlying3) Tryz.underlying64 tkR m d.l.length (dOfT d.l) rfl (HO1.out _) _ _ rfl (Maps.keyOf_int_mk Tryz.underlying3 hw) ?_; intro w1 hown1 hturn1; have HQ := hide (HH.out _ _ hturn1 hown1); clear hown1 hturn1) | go_in)
    go_ret
    exact ⟨rfl, HQ.out⟩

set_option maxRecDepth 100000 in
set_option maxHeartbeats 2000000 in
theorem deCopy_any (p m : Nat) (d : Dk) (w : World) (h : DeskAt w p m d) :
    Calls Tryz.prog 19 #[.pointer (some ⟨p, 0, none⟩)] w fun e w' => ∃ b c, e = .returned (.pointer (some ⟨b, 0, none⟩)) ∧ DeskAt w' b c d ∧ Below w.heap.size w w' := by
  have hc0 := (de_cells h.row).1
  have hc1 := (de_cells h.row).2.1
  have HC : Hid (∀ W : World, W.heap = w.heap → Calls Tryz.prog 34 #[.map (some m)] W fun e w' => e = .returned (.map (some W.heap.size)) ∧ w'.ownsMap Tryz.prog 3 tkR W.heap.size d.l.length (dOfT d.l) ∧ w'.ownsMap Tryz.prog 3 tkR m d.l.length (dOfT d.l) ∧ Below W.heap.size W w') := fun W hW => by
    have ho : W.ownsMap Tryz.prog 3 tkR m d.l.length (dOfT d.l) := by
      obtain ⟨es, clock, hb, F, hs, hD⟩ := h.own
      exact ⟨es, clock, by rw [hW]; exact hb, F, hs, hD⟩
    have := AnyW.maps_Clone_owns Tryz.cloneT 3 tkR m d.l.length (dOfT d.l) W ho
    exact this
  have HG := hide h.good
  have HP : Hid (p < w.heap.size) := row_lt h.row
  clear h
  go_enter Tryz.func19, Tryz.ntmps19
  go_wp2_with fail
  go_region_with (refine (HC.out _ (by rfl)).mono ?_; rintro e w1 ⟨rfl, ho, _, hb⟩; have y0 : w1.cell? ⟨p, 0, none⟩ = some (.int .i64 d.many) := (hb.cell (p := ⟨p, 0, none⟩) HP.out).trans hc0; have y1 : w1.cell? ⟨p, 1, none⟩ = some (.map (some m)) := (hb.cell (p := ⟨p, 1, none⟩) HP.out).trans hc1; have HO := hide ho; have HBw : Hid (Below w.heap.size w w1) := (Below.refl w.heap.size w).drew.trans hb; clear ho hb)
  all_goals
    go_wp2
    go_ret
    exact ⟨_, w.heap.size, rfl, ⟨heap_alloc_new _ _, HO.out.alloc _, HG.out⟩, HBw.out.alloc HBw.out.size _⟩
end Go.Proofs.YteabincmopeljaeGreatDoor

/-
  What package session's Sweep gives, and what it does: its map is written, and nothing else; for every desk, floors and time.
-/
import Derived.Test.YteabincmopeljadDoorSessAdd
import Derived.Test.YteabincmopeljadDoorSessSort
import Derived.Test.YteabincmopeljadDoorSessNum
import Derived.Laws.AppendOwnNone
import Derived.Test.YteabincmopeljadDoorFloorCheck
import Derived.Maps.RangeWalk
import Derived.Maps.AppendAt
import Derived.BigQuiet
namespace Go.Proofs.YteabincmopeljadDoor
open Go Go.RowKit Go.Extern.Stop Go.Stop Go.Extern Go.Maps Go.Shelf Go.Proofs

/-- A cell stays while a map is written. -/
theorem map_cell {w w' : World} {p m : Nat} {d : Dk} (h : DeskAt w p m d) (hg : w.grownBy w' (some m)) {i o : Nat} {v : Value} (hc : w.cell? ⟨i, o, none⟩ = some v) : w'.cell? ⟨i, o, none⟩ = some v := by
  refine hg.cell hc ?_
  obtain ⟨es, clock, hb, _⟩ := h.own
  intro e
  have e2 : i = m := Option.some.inj e
  subst e2
  simp [World.cell?, hb] at hc
theorem FlAt.turned {w w' : World} {p m : Nat} {d : Dk} {v : Value} {l : List Fl} (h : DeskAt w p m d) (hg : w.grownBy w' (some m)) (hf : FlAt w v l) : FlAt w' v l := by
  rcases hf with hf | ⟨b, off, cap, h1, h2, h3⟩
  · exact Or.inl hf
  · exact Or.inr ⟨b, off, cap, h1, h2, fun j u hu => map_cell h hg (h3 j u hu)⟩
theorem EV.turned {S : Nat → Bool} {a : Nat → Addr} {w w' : World} {p m : Nat} {d : Dk} (he : EV S a w) (h : DeskAt w p m d) (hg : w.grownBy w' (some m)) : EV S a w' := ⟨fun i hi hS => map_cell h hg (he.var i hi hS)⟩

/-- What Sweep gives. -/
def SwpPost (a : Nat → Addr) (w : World) (p m : Nat) (d : Dk) (fl : List Fl) (now : Int) (e : Ending) (w' : World) : Prop :=
  ((sweepC fl now).1 ≠ 0 ∧ ∃ t q, e = .returned (.tuple #[.slice none 0 0, .iface t q]) ∧ FlErr a w' (sweepC fl now) (.iface t q) ∧ Below w.heap.size w w') ∨
  ((sweepC fl now).1 = 0 ∧ ∃ v, e = .returned (.tuple #[v, .nilIface]) ∧ OwnNum w' w.heap.size v (sweepN fl now d.l) ∧ DeskAt w' p m ⟨d.many, sweepL fl now d.l⟩ ∧ w.grownBy w' (some m))

set_option maxRecDepth 100000 in
set_option maxHeartbeats 2000000 in
theorem deSweep_err (a : Nat → Addr) (p m : Nat) (d : Dk) (vf : Value) (fl : List Fl) (now : Int) (w : World) (hE : EV dsS a w) (hf : FlAt w vf fl) (hs : ∀ f ∈ fl, f.who.size ≤ maxLen) (hl : fl.length ≤ 1000000) (he : (sweepC fl now).1 ≠ 0) :
    Calls Tryd.prog 23 #[.pointer (some ⟨p, 0, none⟩), vf, .int .i64 now] w fun e w' => SwpPost a w p m d fl now e w' := by
  have HC := hide (check_any a vf fl w hE.fld hf hs hl)
  by_cases hc : (checkL fl).1 = 0
  · have hn : ¬ (0 ≤ now ∧ now ≤ 1000000) := fun g => by
      unfold sweepC at he
      rw [if_neg (by simpa using hc), if_pos g] at he
      exact he hc
    have HW : Hid (∀ w', Below w.heap.size w w' → SwpPost a w p m d fl now (.returned (.tuple #[.slice none 0 0, eV (a 1)])) w') := fun w' hb => by
      have e2 : sweepC fl now = (2, -1) := by unfold sweepC; rw [if_neg (by simpa using hc), if_neg hn]
      refine Or.inl ⟨he, _, _, rfl, ?_, hb⟩
      rw [e2]
      exact Or.inr (Or.inl ⟨by decide, rfl, rfl⟩)
    have HT := hide (fun w => deIsTime_any now w)
    rw [decide_eq_false hn] at HT
    have HE := hide hE
    have HZ := hide hc
    clear hf hs hl he hc hn hE
    go_enter Tryd.func23, Tryd.ntmps23
    go_wp2_with fail
    refine HC.out.mono ?_
    rintro e w1 ⟨ev, rfl, hfe, hb⟩
    obtain rfl := hfe.none HZ.out
    have HB1 := hide hb
    have hv : ∀ nq, (w1.drewN nq).cell? ⟨0, 0, none⟩ = some (eV (a 1)) := fun nq => (HE.out.below hb).var 1 (by decide) rfl
    clear hb hfe HC
    go_wp2_with fail
    refine (HT.out _).mono ?_
    rintro e w2 ⟨rfl, rfl⟩
    go_wp2_with fail
    go_quiet (fail)
    go_wp2
    go_ret2
    exact HW.out _ (below_drewN HB1.out _)
  · have HW : Hid (∀ w' t q, FlErr a w' (checkL fl) (.iface t q) → Below w.heap.size w w' → SwpPost a w p m d fl now (.returned (.tuple #[.slice none 0 0, .iface t q])) w') := fun w' t q h1 hb => by
      have e2 : sweepC fl now = checkL fl := by unfold sweepC; rw [if_pos hc]
      refine Or.inl ⟨he, _, _, rfl, ?_, hb⟩
      rw [e2]
      exact h1
    have HZ := hide hc
    clear hf hs hl he hc hE
    go_enter Tryd.func23, Tryd.ntmps23
    go_wp2_with fail
    refine HC.out.mono ?_
    rintro e w1 ⟨ev, rfl, hfe, hb⟩
    obtain ⟨t, q, rfl⟩ : ∃ t q, ev = .iface t q := by
      rcases hfe.cases with ⟨h0, _⟩ | ⟨_, h1⟩
      · exact absurd h0 HZ.out
      · exact h1
    have HQ := hide (HW.out _ _ _ hfe hb)
    clear hfe hb HC
    go_wp2
    go_ret2
    exact HQ.out

theorem num_below {w w' : World} {B : Nat} {v : Value} {xs : List Int} (h : OwnNum w B v xs) (hb : Below w.heap.size w w') : OwnNum w' B v xs :=
  h.kept (desk_grown hb none) (by cases hv : v.ownBlock <;> simp)
theorem sweep_ok {fl : List Fl} {now : Int} (he : (sweepC fl now).1 = 0) : (checkL fl).1 = 0 ∧ (0 ≤ now ∧ now ≤ 1000000) := by
  unfold sweepC at he
  by_cases hc : (checkL fl).1 = 0
  · rw [if_neg (by simpa using hc)] at he
    refine ⟨hc, ?_⟩
    by_cases hn : 0 ≤ now ∧ now ≤ 1000000
    · exact hn
    · rw [if_neg hn] at he; cases he
  · rw [if_pos hc] at he
    exact absurd he hc
/-- Behind the last round. -/
theorem sweep_end {w wr w' : World} {p m n r cnt : Nat} {d : Dk} {fl : List Fl} {now : Int} {left : Lit → Bool} {v : Value} {E : List Int} (hD : DeskAt w p m d) (hg1 : w.grownBy wr (some m))
    (hrg : wr.ranges Tryd.prog 3 tkR m r n (dOfT (leftO (staysO fl now) d.l left)) left cnt) (hl : ∀ kl, left kl = false) (hO : OwnNum wr w.heap.size v E) (ho : OwnNum w' w.heap.size v (sweepN fl now d.l)) (hw : wr.grownBy w' v.ownBlock) :
    OwnNum w' w.heap.size v (sweepN fl now d.l) ∧ DeskAt w' p m ⟨d.many, sweepL fl now d.l⟩ ∧ w.grownBy w' (some m) := by
  have hpl := row_lt hD.row
  have hml := hD.own.lt
  have hown := own_tightT hrg.owns
  rw [leftO_end hl, dOfT_size] at hown
  have hdr : DeskAt wr p m ⟨d.many, sweepL fl now d.l⟩ := ⟨(hg1.block p hpl (by have := hD.ne; simpa using this)).trans hD.row, hown, hD.good.part _⟩
  exact ⟨ho, hdr.kept hw (row_ne_low hO hpl) (row_ne_low hO hml), hg1.andThen hw (fun j hj => Or.inl (hO.lt j hj).1)⟩

set_option maxRecDepth 100000 in
set_option maxHeartbeats 8000000 in
theorem deSweep_ok (a : Nat → Addr) (p m : Nat) (d : Dk) (vf : Value) (fl : List Fl) (now : Int) (w : World) (h : DeskAt w p m d) (hE : EV dsS a w) (hf : FlAt w vf fl) (hs : ∀ f ∈ fl, f.who.size ≤ maxLen) (hl : fl.length ≤ 1000000) (he : (sweepC fl now).1 = 0) :
    Calls Tryd.prog 23 #[.pointer (some ⟨p, 0, none⟩), vf, .int .i64 now] w fun e w' => ∃ v, e = .returned (.tuple #[v, .nilIface]) ∧ OwnNum w' w.heap.size v (sweepN fl now d.l) ∧ DeskAt w' p m ⟨d.many, sweepL fl now d.l⟩ ∧ w.grownBy w' (some m) := by
  obtain ⟨i0, hi, hz0, hz1, hz2⟩ := info_parts Tryd.infoNum
  obtain ⟨hc, hn⟩ := sweep_ok he
  have HR := hide (right_of_check hc).1.rising
  have HC := hide (check_any a vf fl w hE.fld hf hs hl)
  have HT := hide (fun w => deIsTime_any now w)
  rw [decide_eq_true hn] at HT
  have HD := hide h
  have HF := hide hf
  have HE := hide hE
  have HL := hide hl
  have HZ := hide hc
  have h40 := h.good.few
  clear h hE hf hs hl he hc hn
  go_enter Tryd.func23, Tryd.ntmps23
  go_wp2_with fail
  refine HC.out.mono ?_
  rintro e w1 ⟨ev, rfl, hfe, hb⟩
  obtain rfl := hfe.none HZ.out
  have HB1 := hide hb
  have HD1 := hide (HD.out.below hb)
  have hc1 := (de_cells HD1.out.row).2.1
  clear hb hfe HC
  go_wp2_with fail
  refine (HT.out _).mono ?_
  rintro e w2 ⟨rfl, rfl⟩
  clear HT
  go_wp2_with (first | (at_range; refine wpList_range_own _ rfl _ 85 rfl 3 52 (int_keyed Tryd.underlying3) Tryd.underlying85 tkR m d.l.length (dOfT d.l) rfl HD1.out.own ?_; intro w0 hrg0 hg0 hs0) | go_in)
  go_frame
  clear hc1
  go_loopw [9] (fun u wr => ∃ (left : Lit → Bool) (cnt : Nat) (E : List Int), wr.ranges Tryd.prog 3 tkR m w2.heap.size d.l.length (dOfT (leftO (staysO fl now) d.l left)) left cnt ∧ Hid (E.Perm ((goneO (staysO fl now) d.l left).map Os.n)) ∧ Hid (OwnNum wr w.heap.size u E) ∧ Hid (w.grownBy wr (some m))) (fun _ wr => wr.rangeLeft m w2.heap.size)
  case atStart =>
    exact ⟨_, _, [], by rw [leftO_start]; exact hrg0, by rw [goneO_start]; exact List.Perm.refl _, World.ownsRow_nil _ _ _ _, (desk_grown HB1.out (some m)).trans (hg0.but _)⟩
  case round =>
    obtain ⟨left, cnt, E, hrg, HP, HO, HG⟩ := hrel
    have hrow : wr.heap[p]? = some (deO d.many m) := (HG.out.block p (row_lt HD.out.row) (by have := HD.out.ne; simpa using this)).trans HD.out.row
    have HRow := hide hrow
    clear hrow
    go_wp2_with (first
      | (at_next; refine wpList_next_ranges _ rfl _ rfl 3 (int_keyed Tryd.underlying3) tkR (Value.int .i64) (fun t : Tk => .agg #[.string t.who, .string t.dst, .int .i64 t.epoch, .int .i64 t.frm, .int .i64 t.til, .int .i64 t.ser]) (fun key kl hk => by obtain ⟨x, hx, _⟩ := Maps.keyOf_int_inv Tryd.underlying3 hk; exact ⟨x, hx⟩) (fun v _ h => by obtain ⟨t, ht, _⟩ := tkR_inv h; exact ⟨t, ht⟩) m w2.heap.size d.l.length _ _ _ rfl hrg ?_ ?_)
      | go_in)
    · intro hc0 hl0
      have hP : E.Perm (sweepN fl now d.l) := by
        have := HP.out
        rw [goneO_end hl0] at this
        exact this
      have hlen : (sweepN fl now d.l).length ≤ 1000 := by
        unfold sweepN
        rw [List.length_map]
        exact Nat.le_trans (List.length_filter_le _ _) (Nat.le_trans h40 (by decide))
      have HS := hide (sortI_any w.heap.size u9 E (sweepN fl now d.l) wr HO.out (nums_rising (List.Pairwise.filter _ HD.out.good.rising)) hP hlen)
      have HEnd := hide (fun w' => sweep_end (w' := w') HD.out HG.out hrg hl0 HO.out)
      clear hP hlen hrg hl0 hc0
      go_wp2_with fail
      refine HS.out.mono ?_
      rintro e w4 ⟨rfl, ho, hg⟩
      have HQ := hide (HEnd.out _ ho hg)
      clear ho hg
      go_wp2
      go_ret2
      exact ⟨_, rfl, HQ.out⟩
    · intro x c kl yd yp w5 cnt5 hkey hlk hv hat hrg5 hlt hg5 hs5 hen
      obtain ⟨x', ex, rfl, hwx⟩ := Maps.keyOf_int_inv Tryd.underlying3 hkey
      obtain rfl : x = x' := by cases ex; rfl
      obtain ⟨q, hq, rfl, hyd⟩ := at_open hat
      obtain rfl : c = q.tk := by
        have hv' : tkR c.val = some (yd, yp) := hv
        rw [tkR_val, hyd] at hv'
        simp only [Option.some.injEq, Prod.mk.injEq] at hv'
        exact tkD_inj hv'.1
      have hqL : q ∈ d.l := (List.mem_filter.1 hq).1
      have hsz := HD1.out.good.len q hqL
      have hG5 : w.grownBy w5 (some m) := HG.out.andThen hg5 (fun j hj => by cases hj; exact Or.inl HB1.out.size)
      have hBt : Below w5.heap.size w5 (w5.alloc (tkO q.tk)) := (Below.refl _ w5).alloc (Nat.le_refl _) _
      have hrow5 : w5.heap[p]? = some (deO d.many m) := (hG5.block p (row_lt HD.out.row) (by have := HD.out.ne; simpa using this)).trans HD.out.row
      have HSt := hide (stays_any a q now vf fl (w5.alloc (tkO q.tk)) ((HE.out.tkd.turned HD.out hG5).below hBt) hsz.1 hsz.2 ((HF.out.turned HD.out hG5).below hBt) HR.out HL.out)
      obtain ⟨x0, x1, x2, x3, x4, x5⟩ := tk_row (w := w5.alloc (tkO q.tk)) (heap_alloc_new _ _)
      have HO5 : Hid (OwnNum w5 w.heap.size u9 E) := HO.out.kept hg5 (Or.inr (Ne.symm (row_ne_iter HO.out hrg)))
      have HRow5 := hide hrow5
      have HG5 := hide hG5
      have HBt := hide hBt
      have HQL := hide hqL
      have HLk := hide hlk
      have HCnt := hide hrg.left_eq
      have HRg5 := hide hrg5
      have HLt := hide hlt
      rw [tk_val] at HSt
      clear hkey hlk hv hat hrg5 hlt hg5 hs5 ex hq hyd hqL hsz hG5 hBt hrow5 hrg
      cases hst : staysO fl now q with
      | true =>
        rw [hst] at HSt
        go_wp2_with fail
        refine HSt.out.mono ?_
        rintro e w6 ⟨rfl, hb⟩
        have hB6 : Below w5.heap.size w5 w6 := HBt.out.trans (hb.mono HBt.out.size)
        have HRg6 : Hid (w6.ranges Tryd.prog 3 tkR m w2.heap.size d.l.length (dOfT (leftO (staysO fl now) d.l fun z => left z && !z.sameKey (.int .i64 q.n))) (fun z => left z && !z.sameKey (.int .i64 q.n)) cnt5) := by
          show World.ranges _ _ _ _ _ _ _ _ _ _
          rw [← leftO_stays HD1.out.good.rising HQL.out hst]
          exact HRg5.out.kept (desk_grown hB6 none) (by simp) (by simp)
        have HP6 : Hid (E.Perm ((goneO (staysO fl now) d.l fun z => left z && !z.sameKey (.int .i64 q.n)).map Os.n)) := by
          show List.Perm _ _
          rw [goneO_stays HD1.out.good.rising HQL.out hst]
          exact HP.out
        have HO6 := hide (num_below HO5.out hB6)
        have HG6 : Hid (w.grownBy w6 (some m)) := HG5.out.andThen (desk_grown hB6 none) (fun j hj => by cases hj)
        clear hb hB6 HSt x0 x1 x2 x3 x4 x5
        go_wp2
        go_roundw
        case rel => exact ⟨_, cnt5, E, HRg6.out, HP6, HO6, HG6⟩
        case measure => rw [HRg6.out.left_eq, HCnt.out]; exact HLt.out
      | false =>
        rw [hst] at HSt
        go_wp2_with fail
        refine HSt.out.mono ?_
        rintro e w6 ⟨rfl, hb⟩
        have hB6 : Below w5.heap.size w5 w6 := HBt.out.trans (hb.mono HBt.out.size)
        have hrg6 := HRg5.out.kept (desk_grown hB6 none) (by simp) (by simp)
        have hrow6 := (hB6.block p (row_lt HRow5.out)).trans HRow5.out
        obtain ⟨hc0, hc1, _, _⟩ := de_cells hrow6
        have HO6 := hide (num_below HO5.out hB6)
        have HG6 : Hid (w.grownBy w6 (some m)) := HG5.out.andThen (desk_grown hB6 none) (fun j hj => by cases hj)
        have HP6 : Hid ((E ++ [q.n]).Perm ((goneO (staysO fl now) d.l fun z => left z && !z.sameKey (.int .i64 q.n)).map Os.n)) := by
          have h1 := (goneO_struck HD1.out.good.rising HQL.out HLk.out hst).map Os.n
          exact ((List.perm_append_singleton q.n E).trans (HP.out.cons q.n)).trans h1.symm
        have hEl : E.length ≤ 40 := by
          have := HP.out.length_eq
          rw [List.length_map] at this
          rw [this]
          exact Nat.le_trans (List.length_filter_le _ _) h40
        have HRg6 := hide hrg6
        clear hb hB6 HSt x0 x1 x2 x3 x4 x5 hrg6 hrow6
        go_wp2_with (first
          | (at_delete; refine wpList_delete_ranges _ rfl _ _ 85 3 rfl 52 (int_keyed Tryd.underlying3) Tryd.underlying85 tkR m w2.heap.size d.l.length _ _ _ rfl HRg6.out _ _ rfl (Maps.keyOf_int_mk Tryd.underlying3 hwx) ?_; intro w7 cnt7 hrg7 hle7 hturn7; have HRg7 := hide hrg7; have HLe7 := hide hle7; have HO7 : Hid (OwnNum w7 w.heap.size u9 E) := HO6.out.kept hturn7.grown (Or.inr (Ne.symm (row_ne_low HO6.out HD.out.own.lt))); have HG7 : Hid (w.grownBy w7 (some m)) := HG6.out.trans hturn7.grown; have hsz7 : w.heap.size ≤ w7.heap.size := HG7.out.size; clear hrg7 hle7 hturn7; go_frame)
          | (at_builtin; refine wpList_append_own _ rfl (.tmp 41) (.tmp 43) 31 rfl w.heap.size 3 i0 (.int .i64 0) 1 8 Tryd.underlying31 hi hz0 hz1 hz2 rfl (by decide) _ _ _ rfl (HO7.out.alloc _) ⟨w7.heap.size, 0, none⟩ 1 1 [.int .i64 q.n] rfl rfl (new_num w7 q.n) (new_num1 q.n) (by unfold maxLen; omega) (by omega) (Nat.le_trans hsz7 (by simp)) ?_; intro v8 w8 hown8 hgrow8 hnn8; have HO8 := hide hown8; have HG8 := hide hgrow8; clear hown8 hgrow8 hnn8)
          | go_in)
        have h7 := HRg7.out
        rw [strike_twice, dOfT_del, leftO_struck HD1.out.good.rising HQL.out hst] at h7
        have HRg8 := hide ((h7.alloc (.cells #[.int .i64 q.n] 3)).kept HG8.out (row_ne_low HO7.out HD.out.own.lt) (row_ne_iter HO7.out HRg7.out))
        have HO9 : Hid (OwnNum w8 w.heap.size v8 (E ++ [q.n])) := by
          show World.ownsRow _ _ _ _ _ (E ++ [q.n]).length (cellsNum (E ++ [q.n]))
          rw [List.length_append, List.length_singleton, show cellsNum (E ++ [q.n]) = cellsNum E ++ [.int .i64 q.n] by simp [cellsNum]]
          exact HO8.out
        have HG9 : Hid (w.grownBy w8 (some m)) := (HG7.out.trans (World.grownBy_alloc w7 (.cells #[.int .i64 q.n] 3) (some m))).andThen HG8.out (fun j hj => Or.inl (HO7.out.lt j hj).1)
        clear h7
        go_roundw
        case rel => exact ⟨_, cnt7, E ++ [q.n], HRg8.out, HP6, HO9, HG9⟩
        case measure =>
          rw [HRg8.out.left_eq, HCnt.out]
          exact Nat.lt_of_le_of_lt HLe7.out HLt.out

theorem deSweep_any (a : Nat → Addr) (p m : Nat) (d : Dk) (vf : Value) (fl : List Fl) (now : Int) (w : World) (h : DeskAt w p m d) (hE : EV dsS a w) (hf : FlAt w vf fl) (hs : ∀ f ∈ fl, f.who.size ≤ maxLen) (hl : fl.length ≤ 1000000) :
    Calls Tryd.prog 23 #[.pointer (some ⟨p, 0, none⟩), vf, .int .i64 now] w fun e w' => SwpPost a w p m d fl now e w' := by
  by_cases he : (sweepC fl now).1 = 0
  · exact (deSweep_ok a p m d vf fl now w h hE hf hs hl he).mono fun e w' hq => Or.inr ⟨he, hq⟩
  · exact deSweep_err a p m d vf fl now w hE hf hs hl he
end Go.Proofs.YteabincmopeljadDoor

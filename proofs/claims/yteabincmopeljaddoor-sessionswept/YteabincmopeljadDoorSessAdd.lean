/-
  What package session's Open gives, and what it does: the desk's block and its map are written, and nothing else; for every desk, ticket and time.
-/
import Derived.Test.YteabincmopeljadDoorSessDo
import Derived.Test.YteabincmopeljadDoorSessKept
namespace Go.Proofs.YteabincmopeljadDoor
open Go.RowKit Go.Extern.Stop Go.Stop Go.Extern Go.Maps Go.Shelf

/-- What an act leaves: a desk, and all else. -/
def DeskPost (w : World) (p m : Nat) (d : Dk) (w' : World) : Prop := DeskAt w' p m d ∧ KeptD (fun k => k = p ∨ k = m) w w'
theorem DeskPost.same {w w' : World} {p m : Nat} {d : Dk} (h : DeskAt w p m d) (hb : Below w.heap.size w w') : DeskPost w p m d w' := ⟨h.below hb, KeptD.of_below _ hb⟩
theorem DeskPost.turn {w w' : World} {p m : Nat} {d : Dk} (h : DeskAt w' p m d) (hg : w.grownBy w' (some m)) : DeskPost w p m d w' := ⟨h, (KeptD.refl _ w).grown hg (fun k hk => by cases hk; exact Or.inl (Or.inr rfl))⟩
/-- A store of the next number's ticket. -/
theorem desk_put {w : World} {p m : Nat} {d : Dk} (t : Tk) (hrow : w.heap[p]? = some (deO (d.many + 1) m)) (own : w.ownsMap Tryd.prog 3 tkR m d.l.length (dOfT d.l)) (hg : GoodD d) (hg2 : GoodD ⟨d.many + 1, d.l ++ [⟨d.many + 1, t⟩]⟩) (hpm : p ≠ m) (hm : d.many ≤ 1000000) :
    ∃ w', (Instr.mapUpdate 85 (.map (some m)) (.int .i64 (d.many + 1)) (.agg #[.string t.who, .string t.dst, .int .i64 t.epoch, .int .i64 t.frm, .int .i64 t.til, .int .i64 t.ser])).run Tryd.prog w = .ok () w' ∧ DeskAt w' p m ⟨d.many + 1, d.l ++ [⟨d.many + 1, t⟩]⟩ ∧ w.grownBy w' (some m) := by
  obtain ⟨w', hrun, ho, ht⟩ := own.store (e := 52) (int_keyed Tryd.underlying3) Tryd.underlying85 (Nat.lt_of_le_of_lt hg.few (by unfold maxLen; omega)) (Maps.keyOf_int_mk Tryd.underlying3 (num_ok (d.many + 1) (by have := hg.many; omega) (by omega))) (tkR_val t)
  have e := dOfT_put d.l ⟨d.many + 1, t⟩ (fun o ho => by have := (hg.upto o ho).2; show o.n < d.many + 1; omega)
  dsimp only at e
  rw [e] at ho
  refine ⟨w', hrun, ⟨(ht.grown.block p (row_lt hrow) (by simpa using hpm)).trans hrow, ?_, hg2⟩, ht.grown⟩
  have := own_tightT ho
  rwa [dOfT_size] at this

set_option maxRecDepth 100000 in
set_option maxHeartbeats 2000000 in
theorem deOpen_bad (a : Nat → Addr) (p : Nat) (t : Tk) (now : Int) (w : World) (hE : EV dsS a w) (hs : t.who.size ≤ maxLen) (hs2 : t.dst.size ≤ maxLen) (hg : t.good now ≠ 0) :
    Calls Tryd.prog 20 #[.pointer (some ⟨p, 0, none⟩), t.val, .int .i64 now] w fun e w' => e = .returned (.tuple #[.int .i64 0, errV a (t.good now)]) ∧ Below w.heap.size w w' := by
  have HB0 : Hid (Below w.heap.size w (w.alloc (tkO t))) := (Below.refl _ w).alloc (Nat.le_refl _) _
  obtain ⟨x0, x1, x2, x3, x4, x5⟩ := tk_row (w := w.alloc (tkO t)) (heap_alloc_new _ _)
  have HG := hide (good_ev a t now (w.alloc (tkO t)) (hE.tkd.below HB0.out) hs hs2)
  rw [tk_val] at HG ⊢
  rw [show errV a (t.good now) = eV (a (t.good now - 1)) by unfold errV; rw [if_neg hg]] at HG ⊢
  generalize a (t.good now - 1) = ad at *
  clear hg hE
  go_enter Tryd.func20, Tryd.ntmps20
  go_wp2_with fail
  refine HG.out.mono ?_
  rintro e w1 ⟨rfl, hb⟩
  have HB1 : Hid (Below w.heap.size w w1) := HB0.out.trans (hb.mono HB0.out.size)
  clear hb HG
  go_wp2
  go_ret2
  exact ⟨rfl, HB1.out⟩

set_option maxRecDepth 100000 in
set_option maxHeartbeats 2000000 in
theorem deOpen_full (a : Nat → Addr) (p m : Nat) (d : Dk) (t : Tk) (now : Int) (w : World) (h : DeskAt w p m d) (hE : EV dsS a w) (hs : t.who.size ≤ maxLen) (hs2 : t.dst.size ≤ maxLen) (hg : t.good now = 0) (h40 : 40 ≤ d.l.length) :
    Calls Tryd.prog 20 #[.pointer (some ⟨p, 0, none⟩), t.val, .int .i64 now] w fun e w' => e = .returned (.tuple #[.int .i64 0, eV (a 6)]) ∧ Below w.heap.size w w' := by
  have HB0 : Hid (Below w.heap.size w (w.alloc (tkO t))) := (Below.refl _ w).alloc (Nat.le_refl _) _
  obtain ⟨x0, x1, x2, x3, x4, x5⟩ := tk_row (w := w.alloc (tkO t)) (heap_alloc_new _ _)
  have HG := hide (good_ev a t now (w.alloc (tkO t)) (hE.tkd.below HB0.out) hs hs2)
  rw [tk_val] at HG ⊢
  rw [hg, show errV a 0 = Value.nilIface from rfl] at HG
  have HD := hide h
  have HE := hide hE
  have hsz := dOfT_size d.l
  have hz : (40 : Int) ≤ (d.l.length : Int) := by omega
  clear hg h hE
  go_enter Tryd.func20, Tryd.ntmps20
  go_wp2_with fail
  refine HG.out.mono ?_
  rintro e w1 ⟨rfl, hb⟩
  have HB1 : Hid (Below w.heap.size w w1) := HB0.out.trans (hb.mono HB0.out.size)
  have HD1 := hide (HD.out.below HB1.out)
  have hc1 := (de_cells HD1.out.row).2.1
  have hv : ∀ nq, (w1.drewN nq).cell? ⟨2, 0, none⟩ = some (eV (a 6)) := fun nq => (HE.out.below HB1.out).var 6 (by decide) rfl
  clear hb HG
  go_wp2_with (first | (at_len; refine wpList_len_own _ rfl _ 85 rfl 3 52 Tryd.underlying85 tkR m d.l.length (dOfT d.l) rfl HD1.out.own ?_; rw [hsz]) | go_in)
  go_quiet (fail)
  go_wp2
  go_ret2
  exact ⟨rfl, below_drewN HB1.out _⟩

set_option maxRecDepth 100000 in
set_option maxHeartbeats 4000000 in
theorem deOpen_ok (a : Nat → Addr) (p m : Nat) (d : Dk) (t : Tk) (now : Int) (w : World) (h : DeskAt w p m d) (hE : EV dsS a w) (hs : t.who.size ≤ maxLen) (hs2 : t.dst.size ≤ maxLen) (hm : d.many ≤ 1000000) (he : openO d.l t now = 0) :
    Calls Tryd.prog 20 #[.pointer (some ⟨p, 0, none⟩), t.val, .int .i64 now] w fun e w' => e = .returned (.tuple #[.int .i64 (d.many + 1), .nilIface]) ∧ DeskPost w p m ⟨d.many + 1, d.l ++ [⟨d.many + 1, t⟩]⟩ w' := by
  obtain ⟨hg, h40⟩ := openO_zero he
  have hgo := h.good.opens t now
  unfold Dk.opens at hgo
  rw [if_pos he] at hgo
  have HB0 : Hid (Below w.heap.size w (w.alloc (tkO t))) := (Below.refl _ w).alloc (Nat.le_refl _) _
  have HR0 : Hid ((w.alloc (tkO t)).heap[w.heap.size]? = some (tkO t)) := heap_alloc_new _ _
  obtain ⟨x0, x1, x2, x3, x4, x5⟩ := tk_row HR0.out
  have HG := hide (good_ev a t now (w.alloc (tkO t)) (hE.tkd.below HB0.out) hs hs2)
  rw [tk_val] at HG ⊢
  rw [hg, show errV a 0 = Value.nilIface from rfl] at HG
  have HD := hide h
  have HGo := hide hgo
  have HPl : Hid (p < w.heap.size) := row_lt h.row
  have HPm : Hid (p ≠ m) := h.ne
  have HM := hide hm
  have hsz := dOfT_size d.l
  have hz : ¬ (40 : Int) ≤ (d.l.length : Int) := by omega
  have hm0 := h.good.many
  have hw1 : IntKind.i64.wrap (d.many + 1) = d.many + 1 := by rw [IntKind.wrap_i64]; omega
  clear hg h hE he hgo hm hm0
  go_enter Tryd.func20, Tryd.ntmps20
  go_wp2_with fail
  refine HG.out.mono ?_
  rintro e w1 ⟨rfl, hb⟩
  have HB1 : Hid (Below w.heap.size w w1) := HB0.out.trans (hb.mono HB0.out.size)
  have HD1 := hide (HD.out.below HB1.out)
  have HR1 : Hid (w1.heap[w.heap.size]? = some (tkO t)) := (hb.block _ (row_lt HR0.out)).trans HR0.out
  obtain ⟨hc0, hc1, hf0, hf1⟩ := de_cells HD1.out.row
  clear hb HG HB0 HR0 x0 x1 x2 x3 x4 x5
  go_wp2_with (first | (at_len; refine wpList_len_own _ rfl _ 85 rfl 3 52 Tryd.underlying85 tkR m d.l.length (dOfT d.l) rfl HD1.out.own ?_; rw [hsz]) | go_in)
  have hrow2 : (w1.setCell ⟨p, 0, none⟩ (.int .i64 (d.many + 1))).heap[p]? = some (deO (d.many + 1) m) := heap_setCell_same w1 p 0 _ _ (.int .i64 (d.many + 1)) HD1.out.row
  have hown2 : (w1.setCell ⟨p, 0, none⟩ (.int .i64 (d.many + 1))).ownsMap Tryd.prog 3 tkR m d.l.length (dOfT d.l) := HD1.out.own.setCell (a := ⟨p, 0, none⟩) (Ne.symm HPm.out) _
  have hne : w.heap.size ≠ p := fun e => by have := HPl.out; omega
  have hrowt : (w1.setCell ⟨p, 0, none⟩ (.int .i64 (d.many + 1))).heap[w.heap.size]? = some (tkO t) := by rw [heap_setCell_other w1 _ _ _ hne]; exact HR1.out
  have hk2 : KeptD (fun k => k = p ∨ k = m) w (w1.setCell ⟨p, 0, none⟩ (.int .i64 (d.many + 1))) := (KeptD.of_below _ HB1.out).setCell (Or.inl rfl) _
  have HRow2 := hide hrow2
  have HOw2 := hide hown2
  have HRt := hide hrowt
  have HK2 := hide hk2
  clear hrow2 hown2 hrowt hk2 hc0 hc1 hf0 hf1 hne
  generalize w1.setCell ⟨p, 0, none⟩ (.int .i64 (d.many + 1)) = w2 at *
  obtain ⟨hc0, hc1, hf0, hf1⟩ := de_cells HRow2.out
  obtain ⟨x0, x1, x2, x3, x4, x5⟩ := tk_row HRt.out
  have hown3 : w2.drew.ownsMap Tryd.prog 3 tkR m d.l.length (dOfT d.l) := HOw2.out
  obtain ⟨w3, hrun, hd3, hg3⟩ := desk_put (w := w2.drew) (p := p) t HRow2.out hown3 HD.out.good HGo.out HPm.out HM.out
  have HQ : Hid (DeskAt w3 p m ⟨d.many + 1, d.l ++ [⟨d.many + 1, t⟩]⟩ ∧ KeptD (fun k => k = p ∨ k = m) w w3) := ⟨hd3, (HK2.out.trans (KeptD.of_below _ (Below.refl _ w2).drew)).grown hg3 (fun k hk => by cases hk; exact Or.inl (Or.inr rfl))⟩
  have hc3 : w3.cell? ⟨p, 0, none⟩ = some (.int .i64 (d.many + 1)) := (de_cells hd3.row).1
  clear hown3 hd3 hg3
  go_region
  go_wp2
  go_ret2
  exact ⟨rfl, HQ.out⟩

theorem deOpen_any (a : Nat → Addr) (p m : Nat) (d : Dk) (t : Tk) (now : Int) (w : World) (h : DeskAt w p m d) (hE : EV dsS a w) (hs : t.who.size ≤ maxLen) (hs2 : t.dst.size ≤ maxLen) (hm : d.many ≤ 1000000) :
    Calls Tryd.prog 20 #[.pointer (some ⟨p, 0, none⟩), t.val, .int .i64 now] w fun e w' => e = .returned (.tuple #[.int .i64 (if openO d.l t now = 0 then d.many + 1 else 0), errV a (openO d.l t now)]) ∧ DeskPost w p m (d.opens t now) w' := by
  by_cases hg : t.good now = 0
  · by_cases h40 : 40 ≤ d.l.length
    · have e7 : openO d.l t now = 7 := by unfold openO; rw [if_neg (by simpa using hg), if_pos h40]
      have ed : d.opens t now = d := by unfold Dk.opens; rw [e7]; rfl
      rw [e7, ed]
      exact (deOpen_full a p m d t now w h hE hs hs2 hg h40).mono fun e w' ⟨h1, h2⟩ => ⟨by rw [h1]; rfl, DeskPost.same h h2⟩
    · have e7 : openO d.l t now = 0 := by unfold openO; rw [if_neg (by simpa using hg), if_neg h40]
      have ed : d.opens t now = ⟨d.many + 1, d.l ++ [⟨d.many + 1, t⟩]⟩ := by unfold Dk.opens; rw [if_pos e7]
      rw [e7, ed, if_pos rfl]
      exact (deOpen_ok a p m d t now w h hE hs hs2 hm e7).mono fun e w' ⟨h1, h2⟩ => ⟨by rw [h1]; rfl, h2⟩
  · have e7 : openO d.l t now = t.good now := by unfold openO; rw [if_pos hg]
    have ed : d.opens t now = d := by unfold Dk.opens; rw [if_neg (by rw [e7]; exact hg)]
    rw [e7, ed, if_neg hg]
    exact (deOpen_bad a p t now w hE hs hs2 hg).mono fun e w' ⟨h1, h2⟩ => ⟨h1, DeskPost.same h h2⟩
theorem opens_many {d : Dk} (t : Tk) (now : Int) : (d.opens t now).many ≤ d.many + 1 := by
  unfold Dk.opens
  split
  · exact Int.le_refl _
  · omega
end Go.Proofs.YteabincmopeljadDoor

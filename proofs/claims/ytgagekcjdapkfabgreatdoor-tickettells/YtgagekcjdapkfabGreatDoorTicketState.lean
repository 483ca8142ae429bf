/-
  Three tickets in memory, each in a block of its own, as the call of TicketTells has them; and which errors and numbers go together.
-/
import Derived.Test.YtgagekcjdapkfabGreatDoorTicketLaw
import Derived.Test.YtgagekcjdapkfabGreatDoorTicketRef5
namespace Go.Proofs.YtgagekcjdapkfabGreatDoor
open Go.RowKit Go.Extern.Stop Go.Stop Go.Extern

/-- A ticket written into a block. -/
abbrev putT (w : World) (g : Nat) (t : Tk) : World := (((((w.setCell ⟨g, 0, none⟩ (.string t.who)).setCell ⟨g, 1, none⟩ (.string t.dst)).setCell ⟨g, 2, none⟩ (.int .i64 t.epoch)).setCell ⟨g, 3, none⟩ (.int .i64 t.frm)).setCell ⟨g, 4, none⟩ (.int .i64 t.til)).setCell ⟨g, 5, none⟩ (.int .i64 t.ser)
theorem putT_same {w : World} {g : Nat} {t0 : Tk} (h : w.heap[g]? = some (tkO t0)) (t : Tk) : (putT w g t).heap[g]? = some (tkO t) := row_set6 h _ _ _ _ _ _
theorem putT_other (w : World) (g k : Nat) (hk : k ≠ g) (t : Tk) : (putT w g t).heap[k]? = w.heap[k]? := by
  show ((((((w.setCell ⟨g, 0, none⟩ _).setCell ⟨g, 1, none⟩ _).setCell ⟨g, 2, none⟩ _).setCell ⟨g, 3, none⟩ _).setCell ⟨g, 4, none⟩ _).setCell ⟨g, 5, none⟩ _).heap[k]? = _
  rw [heap_setCell_other _ _ _ _ hk, heap_setCell_other _ _ _ _ hk, heap_setCell_other _ _ _ _ hk, heap_setCell_other _ _ _ _ hk, heap_setCell_other _ _ _ _ hk, heap_setCell_other _ _ _ _ hk]

structure TSt (w : World) (t y v : Tk) (gy gv : Nat) (W : World) : Prop where
  below : Below w.heap.size w W
  r0 : W.heap[w.heap.size]? = some (tkO t)
  ry : W.heap[gy]? = some (tkO y)
  rv : W.heap[gv]? = some (tkO v)
  o1 : w.heap.size < gy
  o2 : gy < gv
theorem TSt.step {w : World} {t y v : Tk} {gy gv : Nat} {W W' : World} (h : TSt w t y v gy gv W) (hb : Below W.heap.size W W') : TSt w t y v gy gv W' :=
  ⟨h.below.trans (hb.mono h.below.size), row_kept h.r0 hb, row_kept h.ry hb, row_kept h.rv hb, h.o1, h.o2⟩
theorem TSt.putY {w : World} {t y v : Tk} {gy gv : Nat} {W : World} (h : TSt w t y v gy gv W) (y2 : Tk) : TSt w t y2 v gy gv (putT W gy y2) := by
  have h1 := h.o1
  have h2 := h.o2
  exact ⟨below_set6 h.below (by omega) _ _ _ _ _ _, (putT_other W gy _ (by omega) y2).trans h.r0, putT_same h.ry y2, (putT_other W gy _ (by omega) y2).trans h.rv, h1, h2⟩
theorem TSt.putV {w : World} {t y v : Tk} {gy gv : Nat} {W : World} (h : TSt w t y v gy gv W) (v2 : Tk) : TSt w t y v2 gy gv (putT W gv v2) := by
  have h1 := h.o1
  have h2 := h.o2
  exact ⟨below_set6 h.below (by omega) _ _ _ _ _ _, (putT_other W gv _ (by omega) v2).trans h.r0, (putT_other W gv _ (by omega) v2).trans h.ry, putT_same h.rv v2, h1, h2⟩

/-- An error and its number. -/
def PairOf (a : Nat → Addr) (v : Value) (z : Int) : Prop := ∃ c : Nat, c ≤ 16 ∧ v = errV a c ∧ z = (c : Int)
theorem coded_pair (a : Nat → Addr) (v : Value) (z : Int) (hp : PairOf a v z) (w : World) (h : Errs a w) :
    Calls Tryz.prog 14 #[v, .int .i64 z] w fun e w' => e = .returned (.bool true) ∧ Below w.heap.size w w' := by
  obtain ⟨c, hc, rfl, rfl⟩ := hp
  exact coded_self a c hc w h
theorem tkOpenE_le (key : Int) (l : List UInt8) : tkOpenE key l ≤ 16 := by
  have := openE_le key l
  have := readE_le (Sl.lookW l)
  unfold tkOpenE
  split <;> omega
theorem tkLookE_le (l : List UInt8) : tkLookE l ≤ 16 := by
  have := lookE_le l
  have := readE_le (Sl.lookW l)
  unfold tkLookE
  split <;> omega
end Go.Proofs.YtgagekcjdapkfabGreatDoor

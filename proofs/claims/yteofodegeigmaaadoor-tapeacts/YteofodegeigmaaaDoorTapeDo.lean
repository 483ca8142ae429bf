/-
  What package tape's NewDisk, Cut, On, Power and Bytes do to a disk in memory.
-/
import Derived.Test.YteofodegeigmaaaDoorTapeMem
namespace Go.Proofs.YteofodegeigmaaaDoor
open Go Go.RowKit Go.Extern.Stop Go.Stop Go.Extern Go.Proofs

/-- The four errors of package tape. -/
def tpS (i : Nat) : Bool := i == 1 || i == 2 || i == 6 || i == 15
/-- A new disk. -/
def NewD (w : World) (b : List UInt8) (e : Ending) (w' : World) : Prop := ∃ d v, e = .returned (.tuple #[.pointer (some ⟨d, 0, none⟩), .nilIface]) ∧ w.heap.size ≤ d ∧ DiskAt w' w.heap.size d v ⟨b, false, -1⟩ ∧ Below w.heap.size w w'
set_option maxRecDepth 100000 in
theorem newDisk_any (s : ByteArray) (w : World) (hs : s.size ≤ 262144) :
    Calls Tryd.prog 6 #[.string s] w (NewD w s.data.toList) := by
  obtain ⟨w1, v1, hconv, hown, hb, hl⟩ := own_made s w (by omega)
  obtain ⟨g, cap, rfl, _, _⟩ := hown.form
  have hsz : s.data.toList.length = s.size := by simp
  rw [hsz] at hown hconv
  have HO := hide hown
  have HB := hide hb
  have HL := hide hl
  have hz : ¬ (262144 : Int) < (s.size : Int) := by omega
  clear hown hb hl hs hsz
  go_enter Tryd.func6, Tryd.ntmps6
  go_wp2
  go_ret2
  have HB2 : Below w1.heap.size w1 (w1.alloc (dkY (.slice (some ⟨g, 0, none⟩) s.size cap) false false 0)) := (Below.refl _ _).alloc (Nat.le_refl _) _
  exact ⟨_, _, rfl, Nat.le_of_lt HL.out, ⟨heap_alloc_new w1 _, HO.out.below HB2⟩, HB.out.alloc HB.out.size _⟩
theorem power_any (B d : Nat) (v : Value) (t : Tp) (w : World) (h : DiskAt w B d v t) :
    Calls Tryd.prog 11 #[.pointer (some ⟨d, 0, none⟩)] w fun e w' => e = .returned (.bool (!t.off)) ∧ w' = w := by
  obtain ⟨⟨c0, c1, c2, c3⟩, _⟩ := dky_cells h.row
  clear h
  go_enter Tryd.func11, Tryd.ntmps11
  go_wp2
  go_ret
  exact ⟨rfl, rfl⟩
theorem bytesD_any (B d : Nat) (v : Value) (t : Tp) (w : World) (h : DiskAt w B d v t) :
    Calls Tryd.prog 13 #[.pointer (some ⟨d, 0, none⟩)] w fun e w' => e = .returned (.string (txt t.b)) ∧ w' = w := by
  obtain ⟨⟨c0, c1, c2, c3⟩, _⟩ := dky_cells h.row
  obtain ⟨g, cap, rfl, _, hc⟩ := h.own.form
  have hconv := run_convert_bytes_back (P := Tryd.prog) w 49 9 5 ⟨g, 0, none⟩ cap t.b Tryd.underlying49 Tryd.underlying5 Tryd.underlying9 (fun j hj => by
    have e : (Addr.add ⟨g, 0, none⟩ j) = ⟨g, j, none⟩ := by
      simp only [Addr.add, Nat.zero_add]
      split <;> simp_all
    rw [e]; exact hc j hj)
  clear h hc
  go_enter Tryd.func13, Tryd.ntmps13
  go_wp2
  go_ret
  exact ⟨rfl, rfl⟩
/-- What an act leaves of a disk that lay at d: what it reads as then; all but its two blocks as they were. -/
def DPost (w : World) (B d : Nat) (v : Value) (t : Tp) (w' : World) : Prop := ∃ v', DiskAt w' B d v' t ∧ KeptD (fun k => k = d ∨ v.ownBlock = some k) w w'
theorem on_any (B d : Nat) (v : Value) (t : Tp) (w : World) (h : DiskAt w B d v t) :
    Calls Tryd.prog 17 #[.pointer (some ⟨d, 0, none⟩)] w fun e w' => e = .returned (.tuple #[]) ∧ DPost w B d v t.onR w' := by
  obtain ⟨⟨c0, c1, c2, c3⟩, f0, f1, f2, f3⟩ := dky_cells h.row
  have hk := ((KeptD.refl (fun k => k = d ∨ v.ownBlock = some k) w).setCell (p := ⟨d, 1, none⟩) (Or.inl rfl) (.bool false)).setCell (p := ⟨d, 2, none⟩) (Or.inl rfl) (.bool false) |>.setCell (p := ⟨d, 3, none⟩) (Or.inl rfl) (.int .i64 0)
  have hr := heap_setCell_same _ d 3 _ _ (.int .i64 0) (heap_setCell_same _ d 2 _ _ (.bool false) (heap_setCell_same w d 1 _ _ (.bool false) h.row))
  have ho : OwnY (((w.setCell ⟨d, 1, none⟩ (.bool false)).setCell ⟨d, 2, none⟩ (.bool false)).setCell ⟨d, 3, none⟩ (.int .i64 0)) B v t.b := ((h.own.setCell h.ne _).setCell h.ne _).setCell h.ne _
  have HP : Hid (DPost w B d v t.onR (((w.setCell ⟨d, 1, none⟩ (.bool false)).setCell ⟨d, 2, none⟩ (.bool false)).setCell ⟨d, 3, none⟩ (.int .i64 0))) := ⟨v, ⟨hr, ho⟩, hk⟩
  clear h hk hr ho
  go_enter Tryd.func17, Tryd.ntmps17
  go_wp2
  first | go_end0 | refine bodyPost_ret (results_none rfl _ _ _) rfl ?_
  exact ⟨rfl, HP.out⟩
theorem cutD_any (a : Nat → Addr) (B d : Nat) (v : Value) (t : Tp) (n : Int) (w : World) (h : DiskAt w B d v t) (hE : EV tpS a w) :
    Calls Tryd.prog 7 #[.pointer (some ⟨d, 0, none⟩), .int .i64 n] w fun e w' => e = .returned (errV a (t.cutC n)) ∧ DPost w B d v (t.cutR n) w' := by
  obtain ⟨⟨c0, c1, c2, c3⟩, f0, f1, f2, f3⟩ := dky_cells h.row
  have v1 := hE.var 1 (by decide) rfl
  have v15 := hE.var 15 (by decide) rfl
  simp only [errG, List.getD_cons_zero, List.getD_cons_succ] at v1 v15
  have HS : Hid (DPost w B d v t w) := ⟨v, h, KeptD.refl _ _⟩
  have hk := ((KeptD.refl (fun k => k = d ∨ v.ownBlock = some k) w).setCell (p := ⟨d, 2, none⟩) (Or.inl rfl) (.bool true)).setCell (p := ⟨d, 3, none⟩) (Or.inl rfl) (.int .i64 n)
  have hr := heap_setCell_same _ d 3 _ _ (.int .i64 n) (heap_setCell_same w d 2 _ _ (.bool true) h.row)
  have ho : OwnY ((w.setCell ⟨d, 2, none⟩ (.bool true)).setCell ⟨d, 3, none⟩ (.int .i64 n)) B v t.b := (h.own.setCell h.ne _).setCell h.ne _
  by_cases hn : n < 0
  · have e1 : t.cutC n = 2 := if_pos hn
    have e2 : t.cutR n = t := if_neg (by rw [e1]; decide)
    rw [e1, e2]
    clear h hE hk hr ho e1 e2
    go_enter Tryd.func7, Tryd.ntmps7
    go_wp2
    go_ret
    exact ⟨rfl, HS.out⟩
  · cases hof : t.off with
    | true =>
      have e1 : t.cutC n = 16 := by unfold Tp.cutC; rw [if_neg hn, hof]; rfl
      have e2 : t.cutR n = t := if_neg (by rw [e1]; decide)
      rw [e1, e2]
      rw [hof] at c1
      clear h hE hk hr ho e1 e2 hof
      go_enter Tryd.func7, Tryd.ntmps7
      go_wp2
      go_ret
      exact ⟨rfl, HS.out⟩
    | false =>
      have e1 : t.cutC n = 0 := by unfold Tp.cutC; rw [if_neg hn, hof]; rfl
      have e2 : t.cutR n = ⟨t.b, t.off, n⟩ := if_pos e1
      have HP : Hid (DPost w B d v ⟨t.b, t.off, n⟩ ((w.setCell ⟨d, 2, none⟩ (.bool true)).setCell ⟨d, 3, none⟩ (.int .i64 n))) := by
        refine ⟨v, ⟨?_, ho⟩, hk⟩
        have hl : (⟨t.b, t.off, n⟩ : Tp).left = n := if_pos (by show 0 ≤ n; omega)
        have hd : decide (0 ≤ (⟨t.b, t.off, n⟩ : Tp).cut) = true := decide_eq_true (by show 0 ≤ n; omega)
        rw [hl, hd]
        exact hr
      rw [e1, e2]
      rw [hof] at c1
      clear h hE hk hr ho e1 e2 hof HS
      go_enter Tryd.func7, Tryd.ntmps7
      go_wp2
      go_ret
      exact ⟨rfl, HP.out⟩
end Go.Proofs.YteofodegeigmaaaDoor

/-
  What package tape's record, write and Append do: a record's bytes; as many as there is power for; an error, or a record more.
-/
import Derived.Test.YteofodegeigmaaaDoorTapeDo
import Derived.Test.YteofodegeigmaaaDoorFloorText
namespace Go.Proofs.YteofodegeigmaaaDoor
open Go Go.RowKit Go.Extern.Stop Go.Stop Go.Extern Go.Proofs

theorem rec_txt (s : ByteArray) : txt (Lib.decDigits s.size) ++ ⟨#[58]⟩ ++ s ++ ⟨#[10, 46]⟩ = txt (recL s.data.toList) := by
  refine Go.WideShapes.bytes_inj ?_
  have e : s.data.toList.length = s.size := by simp
  rw [txt_list]
  unfold recL
  rw [e]
  simp
theorem recT_any (s : ByteArray) (w : World) (hT : Tab10 w) (hs : s.size ≤ 4000) :
    Calls Tryd.prog 20 #[.string s] w fun e w' => e = .returned (.string (txt (recL s.data.toList))) ∧ Below w.heap.size w w' := by
  have HI := hide (itoa_fl (s.size : Int) w hT (by omega) (by omega))
  rw [Int.toNat_natCast] at HI
  have HR := hide (rec_txt s)
  have hD : (txt (Lib.decDigits s.size)).size ≤ 20 := by
    rw [txt_size]
    have := (Sl.numOk_iff _).1 (Sl.dec_ok s.size (by omega))
    omega
  generalize txt (Lib.decDigits s.size) = D at *
  have hz1 : D.size + 1 ≤ 9223372036854775807 := by omega
  have hz2 : D.size + 1 + s.size ≤ 9223372036854775807 := by omega
  have hz3 : D.size + 1 + s.size + 2 ≤ 9223372036854775807 := by omega
  clear hT
  go_enter Tryd.func20, Tryd.ntmps20
  go_wp2_with fail
  refine HI.out.mono ?_
  rintro e w1 ⟨rfl, hb⟩
  have HB := hide hb
  clear hb HI
  go_wp2
  go_ret
  exact ⟨congrArg (fun x => Ending.returned (Value.string x)) HR.out, HB.out⟩
/-- What writing bytes gives, and leaves. -/
def Tp.wrC (d : Tp) (n : Nat) : Nat := if d.off = true then 16 else if 0 ≤ d.cut ∧ d.cut < n then 16 else 0
def Tp.wrR (d : Tp) (r : List UInt8) : Tp :=
  if d.off = true then d else if 0 ≤ d.cut ∧ d.cut < r.length then ⟨d.b ++ r.take d.cut.toNat, true, d.cut⟩ else ⟨d.b ++ r, false, if 0 ≤ d.cut then d.cut - r.length else d.cut⟩
/-- What is left of a disk when bytes came behind its own. -/
theorem write_end {W w0 w w' : World} {d g g' n cap cap' : Nat} {t : Tp} {l : List UInt8} (h : DiskAt w W.heap.size d (.slice (some ⟨g, 0, none⟩) n cap) t)
    (h0 : w0 = w ∨ w0 = w.drew) (ho : OwnY w' W.heap.size (.slice (some ⟨g', 0, none⟩) l.length cap') l) (hg : w0.grownBy w' (Value.slice (some ⟨g, 0, none⟩) n cap).ownBlock) (V : Value) (hV : V = .slice (some ⟨g', 0, none⟩) l.length cap') :
    (w'.heap[d]? = some (dkY (.slice (some ⟨g, 0, none⟩) n cap) t.off (decide (0 ≤ t.cut)) t.left)) ∧ (w'.setCell ⟨d, 0, none⟩ V).heap[d]? = some (dkY V t.off (decide (0 ≤ t.cut)) t.left) ∧
    OwnY (w'.setCell ⟨d, 0, none⟩ V) W.heap.size V l ∧ KeptD (fun k => k = d ∨ (Value.slice (some ⟨g, 0, none⟩) n cap).ownBlock = some k) w (w'.setCell ⟨d, 0, none⟩ V) ∧ V.ownBlock ≠ some d := by
  subst hV
  have hb0 : Below w.heap.size w w0 := by
    rcases h0 with rfl | rfl
    · exact Below.refl _ _
    · exact (Below.refl _ _).drew
  have hrow := h.row
  have hdl := row_lt hrow
  have hr1 : w'.heap[d]? = some (dkY (.slice (some ⟨g, 0, none⟩) n cap) t.off (decide (0 ≤ t.cut)) t.left) := (hg.block d (Nat.lt_of_lt_of_le hdl hb0.size) (fun e => h.ne e.symm)).trans ((hb0.block d hdl).trans hrow)
  have hne := ho.apart hr1 (by decide)
  exact ⟨hr1, heap_setCell_same w' d 0 _ _ _ hr1, ho.setCell hne _, ((KeptD.of_below (fun k => k = d ∨ (Value.slice (some ⟨g, 0, none⟩) n cap).ownBlock = some k) hb0).grown hg fun k e => Or.inl (Or.inr e)).setCell (p := ⟨d, 0, none⟩) (Or.inl rfl) _, hne⟩
theorem glob_at {a : Nat → Addr} {W w : World} (hE : EV tpS a W) (hW : Below W.heap.size W w) : w.cell? ⟨0, 0, none⟩ = some (eV (a 1)) ∧ w.cell? ⟨2, 0, none⟩ = some (eV (a 2)) ∧ w.cell? ⟨3, 0, none⟩ = some (eV (a 6)) ∧ w.cell? ⟨1, 0, none⟩ = some (eV (a 15)) := by
  have h := hE.below hW
  have v1 := h.var 1 (by decide) rfl
  have v2 := h.var 2 (by decide) rfl
  have v6 := h.var 6 (by decide) rfl
  have v15 := h.var 15 (by decide) rfl
  simp only [errG, List.getD_cons_zero, List.getD_cons_succ] at v1 v2 v6 v15
  exact ⟨v1, v2, v6, v15⟩
set_option maxRecDepth 100000 in
set_option maxHeartbeats 4000000 in
theorem write_any (a : Nat → Addr) (W : World) (d : Nat) (v : Value) (t : Tp) (s : ByteArray) (w : World) (hE : EV tpS a W) (hW : Below W.heap.size W w) (hd : W.heap.size ≤ d) (h : DiskAt w W.heap.size d v t) (hR : t.Right) (hs : t.b.length + s.size ≤ 262144) :
    Calls Tryd.prog 21 #[.pointer (some ⟨d, 0, none⟩), .string s] w fun e w' => e = .returned (errV a (t.wrC s.size)) ∧ DPost w W.heap.size d v (t.wrR s.data.toList) w' := by
  obtain ⟨⟨c0, c1, c2, c3⟩, f0, f1, f2, f3⟩ := dky_cells h.row
  obtain ⟨_, _, _, v15⟩ := glob_at hE hW
  have el : s.data.toList.length = s.size := by simp
  have hlo := hR.lo
  have hhi := hR.hi
  have HH := hide h
  have HW := hide hW
  cases hof : t.off with
  | true =>
    have e1 : t.wrC s.size = 16 := if_pos hof
    have e2 : t.wrR s.data.toList = t := if_pos hof
    have HS : Hid (DPost w W.heap.size d v t w) := ⟨v, h, KeptD.refl _ _⟩
    rw [e1, e2]
    rw [hof] at c1
    clear h hE e1 e2 hof hR hW
    go_enter Tryd.func21, Tryd.ntmps21
    go_wp2
    go_ret
    exact ⟨rfl, HS.out⟩
  | false =>
    rw [hof] at c1
    by_cases hc : 0 ≤ t.cut ∧ t.cut < s.size
    · have e1 : t.wrC s.size = 16 := by unfold Tp.wrC; rw [hof, if_neg (by decide), if_pos hc]
      have e2 : t.wrR s.data.toList = ⟨t.b ++ s.data.toList.take t.cut.toNat, true, t.cut⟩ := by unfold Tp.wrR; rw [hof, if_neg (by decide), el, if_pos hc]
      have hl : t.left = t.cut := if_pos hc.1
      have hdc : decide (0 ≤ t.cut) = true := decide_eq_true hc.1
      rw [e1, e2]
      rw [hdc] at c2
      rw [hl] at c3
      obtain ⟨k, hk⟩ : ∃ k : Nat, t.cut = (k : Int) := ⟨t.cut.toNat, by omega⟩
      obtain ⟨g, cap, rfl, hcap, _⟩ := h.own.form
      have hkt : t.cut.toNat = k := by omega
      have hkl : k ≤ s.size := by omega
      have hx : (s.extract 0 k).data.toList = s.data.toList.take k := by rw [Lib.extract_data]; simp
      have hxs : (s.extract 0 k).size = k := by
        have := congrArg List.length hx
        rw [size_list, List.length_take, el] at this
        omega
      have hkz : (k : Int) < (s.size : Int) := by omega
      rw [hk] at c3
      have HO : Hid (OwnY w.drew W.heap.size (.slice (some ⟨g, 0, none⟩) t.b.length cap) t.b) := HH.out.own.below ((Below.refl _ _).drew)
      have hx0 : (s.extract 0 k).size ≤ 262144 - t.b.length := by omega
      have HX0 : Hid (t.b.length + (s.extract 0 k).size ≤ 1000000) := by show _ ≤ _; omega
      have HWz : Hid (W.heap.size ≤ w.drew.heap.size) := hW.size
      have HEnd : Hid (∀ g' cap' w', OwnY w' W.heap.size (.slice (some ⟨g', 0, none⟩) (t.b.length + (s.extract 0 k).size) cap') (t.b ++ (s.extract 0 k).data.toList) → w.drew.grownBy w' (Value.slice (some ⟨g, 0, none⟩) t.b.length cap).ownBlock →
          (w'.cell? ⟨d, 0, none⟩ = some (.slice (some ⟨g, 0, none⟩) t.b.length cap) ∧ w'.frozen? ⟨d, 0, none⟩ = false ∧ w'.frozen? ⟨d, 1, none⟩ = false ∧ w'.cell? ⟨d, 1, none⟩ = some (.bool false)) ∧
          (((w'.setCell ⟨d, 0, none⟩ (.slice (some ⟨g', 0, none⟩) (t.b.length + k) cap')).setCell ⟨d, 1, none⟩ (.bool true)).cell? ⟨1, 0, none⟩ = some (eV (a 15)) ∧
          DPost w W.heap.size d (.slice (some ⟨g, 0, none⟩) t.b.length cap) ⟨t.b ++ s.data.toList.take t.cut.toNat, true, t.cut⟩ ((w'.setCell ⟨d, 0, none⟩ (.slice (some ⟨g', 0, none⟩) (t.b.length + k) cap')).setCell ⟨d, 1, none⟩ (.bool true)))) := fun g' cap' w' ho hg => by
        have e3 : t.b.length + k = (t.b ++ (s.extract 0 k).data.toList).length := by rw [List.length_append, size_list, hxs]
        rw [hxs, e3] at ho
        rw [e3]
        obtain ⟨r1, r2, r3, r4, r5⟩ := write_end h (Or.inr rfl) ho hg _ rfl
        obtain ⟨⟨z0, z1, _, _⟩, y0, y1, _, _⟩ := dky_cells r1
        rw [hof] at z1
        have hkk := r4.setCell (p := ⟨d, 1, none⟩) (Or.inl rfl) (.bool true)
        have hlow := below_kept hW hkk (Nat.le_refl _) (fun j hj => by
          rcases hj with rfl | hj
          · exact hd
          · exact (h.own.lt j hj).1)
        refine ⟨⟨z0, y0, y1, z1⟩, (glob_at hE hlow).2.2.2, .slice (some ⟨g', 0, none⟩) (t.b ++ (s.extract 0 k).data.toList).length cap', ⟨?_, ?_⟩, hkk⟩
        · exact heap_setCell_same _ d 1 _ _ _ r2
        · rw [hkt, ← hx]
          exact r3.setCell r5 _
      clear h hE e1 e2 hof hR hx hl hdc hc hcap hxs hk hkt hx0 hW
      go_enter Tryd.func21, Tryd.ntmps21
      go_wp2_with fail
      go_region_law
        (refine step_append_y (by rfl) (.tmp 27) (.tmp 33) (by rfl) HO.out HWz.out (s.extract 0 k) HX0.out (by rfl) (by rfl) ?_; intro g1 cap1 w1 ho1 hg1; obtain ⟨⟨z0, z1, z2, z3⟩, z4, hP⟩ := HEnd.out g1 cap1 w1 ho1 hg1; have HPo := hide hP; clear hP ho1 hg1)
      all_goals
        go_wp2
        go_ret
        exact ⟨rfl, HPo.out⟩
    · have e1 : t.wrC s.size = 0 := by unfold Tp.wrC; rw [hof, if_neg (by decide), if_neg hc]
      have e2 : t.wrR s.data.toList = ⟨t.b ++ s.data.toList, false, if 0 ≤ t.cut then t.cut - s.size else t.cut⟩ := by unfold Tp.wrR; rw [hof, if_neg (by decide), el, if_neg hc]
      rw [e1, e2]
      obtain ⟨g, cap, rfl, hcap, _⟩ := h.own.form
      have HO : Hid (OwnY w W.heap.size (.slice (some ⟨g, 0, none⟩) t.b.length cap) t.b) := HH.out.own
      have HX0 : Hid (t.b.length + s.size ≤ 1000000) := by show _ ≤ _; omega
      have HWz : Hid (W.heap.size ≤ w.heap.size) := hW.size
      by_cases hq : 0 ≤ t.cut
      · have hl : t.left = t.cut := if_pos hq
        have hdc : decide (0 ≤ t.cut) = true := decide_eq_true hq
        rw [hdc] at c2
        rw [hl] at c3
        rw [if_pos hq]
        have HEnd : Hid (∀ g' cap' w', OwnY w' W.heap.size (.slice (some ⟨g', 0, none⟩) (t.b.length + s.size) cap') (t.b ++ s.data.toList) → w.grownBy w' (Value.slice (some ⟨g, 0, none⟩) t.b.length cap).ownBlock →
            (w'.cell? ⟨d, 0, none⟩ = some (.slice (some ⟨g, 0, none⟩) t.b.length cap) ∧ w'.frozen? ⟨d, 0, none⟩ = false ∧ w'.cell? ⟨d, 2, none⟩ = some (.bool true) ∧ w'.cell? ⟨d, 3, none⟩ = some (.int .i64 t.cut) ∧ w'.frozen? ⟨d, 3, none⟩ = false) ∧
            DPost w W.heap.size d (.slice (some ⟨g, 0, none⟩) t.b.length cap) ⟨t.b ++ s.data.toList, false, t.cut - s.size⟩ ((w'.setCell ⟨d, 0, none⟩ (.slice (some ⟨g', 0, none⟩) (t.b.length + s.size) cap')).setCell ⟨d, 3, none⟩ (.int .i64 (t.cut - s.size)))) := fun g' cap' w' ho hg => by
          have e3 : t.b.length + s.size = (t.b ++ s.data.toList).length := by rw [List.length_append, el]
          rw [e3] at ho ⊢
          obtain ⟨r1, r2, r3, r4, r5⟩ := write_end h (Or.inl rfl) ho hg _ rfl
          obtain ⟨⟨z0, z1, z2, z3⟩, y0, y1, y2, y3⟩ := dky_cells r1
          rw [hdc] at z2
          rw [hl] at z3
          have hkk := r4.setCell (p := ⟨d, 3, none⟩) (Or.inl rfl) (.int .i64 (t.cut - s.size))
          refine ⟨⟨z0, y0, z2, z3, y3⟩, .slice (some ⟨g', 0, none⟩) (t.b ++ s.data.toList).length cap', ⟨?_, r3.setCell r5 _⟩, hkk⟩
          have h1 : (⟨t.b ++ s.data.toList, false, t.cut - s.size⟩ : Tp).left = t.cut - s.size := if_pos (by show 0 ≤ t.cut - (s.size : Int); omega)
          have h2 : decide (0 ≤ (⟨t.b ++ s.data.toList, false, t.cut - s.size⟩ : Tp).cut) = true := decide_eq_true (by show 0 ≤ t.cut - (s.size : Int); omega)
          rw [h1, h2]
          have := heap_setCell_same _ d 3 _ _ (.int .i64 (t.cut - s.size)) r2
          rw [hof, hdc] at this
          exact this
        have hq1 : ¬ t.cut < (s.size : Int) := by omega
        have hw1 : IntKind.i64.wrap (t.cut - (s.size : Int)) = t.cut - (s.size : Int) := by rw [IntKind.wrap_i64]; omega
        clear h hE e1 e2 hof hR hl hdc hc hcap hW HH
        go_enter Tryd.func21, Tryd.ntmps21
        go_wp2_with (first
          | (at_builtin; refine wpList_append_y (by rfl) (.tmp 45) (.tmp 46) (by rfl) HO.out HWz.out s HX0.out (by rfl) (by rfl) ?_; intro g1 cap1 w1 ho1 hg1; obtain ⟨⟨z0, z1, z2, z3, z4⟩, hP⟩ := HEnd.out g1 cap1 w1 ho1 hg1; have HPo := hide hP; clear hP ho1 hg1))
        go_ret
        exact ⟨rfl, HPo.out⟩
      · have hl : t.left = 0 := if_neg hq
        have hdc : decide (0 ≤ t.cut) = false := decide_eq_false hq
        rw [hdc] at c2
        rw [if_neg hq]
        have HEnd : Hid (∀ g' cap' w', OwnY w' W.heap.size (.slice (some ⟨g', 0, none⟩) (t.b.length + s.size) cap') (t.b ++ s.data.toList) → w.grownBy w' (Value.slice (some ⟨g, 0, none⟩) t.b.length cap).ownBlock →
            (w'.cell? ⟨d, 0, none⟩ = some (.slice (some ⟨g, 0, none⟩) t.b.length cap) ∧ w'.frozen? ⟨d, 0, none⟩ = false ∧ w'.cell? ⟨d, 2, none⟩ = some (.bool false)) ∧
            DPost w W.heap.size d (.slice (some ⟨g, 0, none⟩) t.b.length cap) ⟨t.b ++ s.data.toList, false, t.cut⟩ (w'.setCell ⟨d, 0, none⟩ (.slice (some ⟨g', 0, none⟩) (t.b.length + s.size) cap'))) := fun g' cap' w' ho hg => by
          have e3 : t.b.length + s.size = (t.b ++ s.data.toList).length := by rw [List.length_append, el]
          rw [e3] at ho ⊢
          obtain ⟨r1, r2, r3, r4, r5⟩ := write_end h (Or.inl rfl) ho hg _ rfl
          obtain ⟨⟨z0, z1, z2, z3⟩, y0, y1, y2, y3⟩ := dky_cells r1
          rw [hdc] at z2
          refine ⟨⟨z0, y0, z2⟩, .slice (some ⟨g', 0, none⟩) (t.b ++ s.data.toList).length cap', ⟨?_, r3⟩, r4⟩
          have h1 : (⟨t.b ++ s.data.toList, false, t.cut⟩ : Tp).left = t.left := rfl
          rw [h1]
          rw [hof] at r2
          exact r2
        clear h hE e1 e2 hof hR hl hdc hc hcap hW HH
        go_enter Tryd.func21, Tryd.ntmps21
        go_wp2_with (first
          | (at_builtin; refine wpList_append_y (by rfl) (.tmp 45) (.tmp 46) (by rfl) HO.out HWz.out s HX0.out (by rfl) (by rfl) ?_; intro g1 cap1 w1 ho1 hg1; obtain ⟨⟨z0, z1, z2⟩, hP⟩ := HEnd.out g1 cap1 w1 ho1 hg1; have HPo := hide hP; clear hP ho1 hg1))
        go_ret
        exact ⟨rfl, HPo.out⟩
end Go.Proofs.YteofodegeigmaaaDoor

/-
  A disk in memory, and the document's tape: what reads as a tape; bytes that are owned stay owned, and grow by a text.
-/
import Derived.Test.YteofodegeigmaaaDoorTapeOne
import Derived.Test.YteofodegeigmaaaDoorMark
import Derived.Test.YteofodegeigmaaaDoorSessKept
import Derived.Lib.AppendStr
import Derived.Laws.IdiomStrings
import Derived.Deep.AppendLies
import Derived.Deep.RegionLaw
namespace Go.Proofs.YteofodegeigmaaaDoor
open Go Go.RowKit Go.Extern.Stop Go.Stop Go.Extern Go.Proofs

/-- Bytes as cells. -/
def bC (l : List UInt8) : List Value := l.map fun b => Value.int .u8 b.toNat
theorem bC_len (l : List UInt8) : (bC l).length = l.length := by simp [bC]
theorem bC_cat (l r : List UInt8) : bC (l ++ r) = bC l ++ bC r := by simp [bC]
theorem bC_take (l : List UInt8) (n : Nat) : (bC l).take n = bC (l.take n) := by simp [bC, List.map_take]
theorem bC_str (s : ByteArray) : Lib.strCells s = bC s.data.toList := rfl
theorem bC_one (l : List UInt8) : ∀ u ∈ bC l, u.oneCell' = true := by
  intro u hu
  simp only [bC, List.mem_map] at hu
  obtain ⟨b, _, rfl⟩ := hu
  rfl
/-- A slice whose bytes lie in a block of its own, from B on, no cell of it frozen. -/
def OwnY (w : World) (B : Nat) (v : Value) (l : List UInt8) : Prop :=
  ∃ g cap cur fz, v = .slice (some ⟨g, 0, none⟩) l.length cap ∧ B ≤ g ∧ w.heap[g]? = some (.cells cur 5 fz) ∧ (∀ j, j < cap → ¬ (fz.1 ≤ j ∧ j < fz.2)) ∧ l.length ≤ cap ∧ cap ≤ maxLen ∧ cur.size = cap ∧ cur.toList.take l.length = bC l
theorem OwnY.keep {w w' : World} {B : Nat} {v : Value} {l : List UInt8} (h : OwnY w B v l) (hb : ∀ g, v.ownBlock = some g → w'.heap[g]? = w.heap[g]?) : OwnY w' B v l := by
  obtain ⟨g, cap, cur, fz, rfl, hB, hg, rest⟩ := h
  exact ⟨g, cap, cur, fz, rfl, hB, (hb g rfl).trans hg, rest⟩
theorem OwnY.lt {w : World} {B : Nat} {v : Value} {l : List UInt8} (h : OwnY w B v l) : ∀ g, v.ownBlock = some g → B ≤ g ∧ g < w.heap.size := by
  obtain ⟨g, cap, cur, fz, rfl, hB, hg, rest⟩ := h
  intro k hk
  simp only [Value.ownBlock, Option.some.injEq] at hk
  subst hk
  exact ⟨hB, row_lt hg⟩
theorem OwnY.below {w w' : World} {B : Nat} {v : Value} {l : List UInt8} (h : OwnY w B v l) (hb : Below w.heap.size w w') : OwnY w' B v l := h.keep fun g hg => hb.block g (h.lt g hg).2
theorem OwnY.apart {w : World} {B : Nat} {v : Value} {l : List UInt8} (h : OwnY w B v l) {d : Nat} {cs : Array Value} {T : TypeId} {fr : Nat × Nat} (hd : w.heap[d]? = some (.cells cs T fr)) (hT : T ≠ 5) : v.ownBlock ≠ some d := by
  obtain ⟨g, cap, cur, fz, rfl, hB, hg, rest⟩ := h
  intro e
  simp only [Value.ownBlock, Option.some.injEq] at e
  subst e
  rw [hg] at hd
  simp only [Option.some.injEq, Obj.cells.injEq] at hd
  exact hT hd.2.1.symm
theorem OwnY.less {w : World} {B C : Nat} {v : Value} {l : List UInt8} (h : OwnY w B v l) (hC : C ≤ B) : OwnY w C v l := by
  obtain ⟨g, cap, cur, fz, rfl, hB, rest⟩ := h
  exact ⟨g, cap, cur, fz, rfl, Nat.le_trans hC hB, rest⟩
theorem OwnY.form {w : World} {B : Nat} {v : Value} {l : List UInt8} (h : OwnY w B v l) : ∃ g cap, v = .slice (some ⟨g, 0, none⟩) l.length cap ∧ l.length ≤ cap ∧ (∀ j (hj : j < l.length), w.cell? ⟨g, j, none⟩ = some (.int .u8 (l[j].toNat : Int))) := by
  obtain ⟨g, cap, cur, fz, rfl, hB, hg, hf, h1, h2, h3, h4⟩ := h
  refine ⟨g, cap, rfl, h1, fun j hj => ?_⟩
  rw [cell_of_row w g j cur _ _ hg]
  have e1 : (bC l)[j]? = some (.int .u8 (l[j].toNat : Int)) := by
    unfold bC
    rw [List.getElem?_map, List.getElem?_eq_getElem hj]
    rfl
  rw [← h4, List.getElem?_take, if_pos hj] at e1
  simpa using e1
theorem OwnY.cut {w : World} {B : Nat} {l : List UInt8} {g n cap m : Nat} (h : OwnY w B (.slice (some ⟨g, 0, none⟩) m cap) l) (hn : n ≤ l.length) : OwnY w B (.slice (some ⟨g, 0, none⟩) n cap) (l.take n) := by
  obtain ⟨g', cap', cur, fz, e, hB, hg, hf, h1, h2, h3, h4⟩ := h
  injection e with e1 e2 e3
  subst e3
  injection e1 with e1
  injection e1 with e1
  subst e1
  have hl : (l.take n).length = n := by rw [List.length_take]; omega
  refine ⟨g, cap, cur, fz, by rw [hl], hB, hg, hf, by omega, h2, h3, ?_⟩
  rw [hl, ← bC_take, ← h4, List.take_take, Nat.min_eq_left hn]
/-- What []byte(s) lays. -/
theorem own_made (s : ByteArray) (w : World) (hs : s.size ≤ 1000000) : ∃ (w' : World) (v : Value), (convert 9 49 (.string s)).run Tryd.prog w = .ok v w' ∧ OwnY w' w.heap.size v s.data.toList ∧ Below w.heap.size w w' ∧ w.heap.size < w'.heap.size := by
  have hge := grownCap_ge w s.size 0 5
  have hcm := grownCap_le_maxLen w s.size 0 5 (by unfold maxLen; omega)
  have hsz : s.data.toList.length = s.size := by simp
  refine ⟨_, _, run_bytes_of_string (P := Tryd.prog) w 9 49 5 s Tryd.underlying9 Tryd.underlying49 Tryd.underlying5, ?_, (Below.refl _ _).drew.alloc (Nat.le_refl _) _, by simp⟩
  have hrs : (bytesRow s (grownCap w s.size 0 5)).size = grownCap w s.size 0 5 := by
    unfold bytesRow
    have : s.data.size = s.size := rfl
    simp only [Array.size_append, Array.size_map, Array.size_replicate, this]
    omega
  refine ⟨w.heap.size, grownCap w s.size 0 5, _, _, by rw [hsz], Nat.le_refl _, heap_alloc_new w.drew _, fun j hj h => ?_, by omega, hcm, hrs, ?_⟩
  · have := h.1
    simp only at this
    omega
  · unfold bytesRow bC
    rw [Array.toList_append, Array.toList_map, hsz]
    exact List.take_left' (by simp)
theorem store_y (P : Program) (g : Nat) (t : TypeId) (fz : Nat × Nat) : ∀ (vs : List Value) (o i : Nat) (cur : Array Value) (w : World), w.heap[g]? = some (.cells cur t fz) → (∀ j, j < cur.size → ¬ (fz.1 ≤ j ∧ j < fz.2)) → o + i + vs.length ≤ cur.size → (∀ v ∈ vs, v.oneCell' = true) →
    (storeCells ⟨g, o, none⟩ vs i).run P w = .ok () (w.setRow g (cur.toList.take (o + i) ++ vs ++ cur.toList.drop (o + i + vs.length)).toArray)
  | [], o, i, cur, w, hg, _, _, _ => by
    simp only [storeCells, List.append_nil, List.length_nil, Nat.add_zero, List.take_append_drop, Array.toArray_toList]
    rw [setRow_self w g cur t fz hg]
    rfl
  | v :: rest, o, i, cur, w, hg, hfz, hl, h1 => by
    have hi : o + i < cur.size := by simp at hl; omega
    have hadd : (⟨g, o, none⟩ : Addr).add i = ⟨g, o + i, none⟩ := by unfold Addr.add; split <;> simp_all
    have hcell : w.cell? ⟨g, o + i, none⟩ = some cur[o + i] := by simp [World.cell?, hg, hi]
    have hfro : w.frozen? ⟨g, o + i, none⟩ = false := by
      have := hfz (o + i) hi
      simp only [World.frozen?, hg, Bool.and_eq_false_iff, decide_eq_false_iff_not]
      omega
    have hst : (store ((⟨g, o, none⟩ : Addr).add i) v).run P w = .ok () (w.setRow g (cur.setIfInBounds (o + i) v)) := by
      rw [hadd, run_store P w _ v _ (h1 v (by simp)), hcell]
      simp [hfro, setCell_eq_setRow w g (o + i) cur t fz v hg]
    have ih := store_y P g t fz rest o (i + 1) (cur.setIfInBounds (o + i) v) (w.setRow g (cur.setIfInBounds (o + i) v)) (setRow_heap w g cur _ t _ hg) (by simpa using hfz) (by simp at hl ⊢; omega) (fun x hx => h1 x (by simp [hx]))
    simp only [storeCells, Sem.run_bind, hst, Result.andThen_ok, ih, setRow_setRow]
    congr 3
    have e := list_seg_step cur.toList (o + i) v rest (by simp at hl ⊢; omega)
    simpa [Array.toList_setIfInBounds, Nat.add_assoc] using e
theorem Tryd.infoByteY : (Tryd.prog.info? 5).map (fun i => (i.zero, i.size, i.bytes)) = some (some (.int .u8 0), 1, 1) := by kernel_rfl
/-- A text behind bytes that are owned. -/
theorem run_append_y (ty : TypeId) {B : Nat} {v : Value} {l : List UInt8} {w : World} (h : OwnY w B v l) (hB : B ≤ w.heap.size) (s : ByteArray) (hs : l.length + s.size ≤ 1000000) :
    ∃ g cap w', (Builtin.append_ #[49, 9] ty #[v, .string s]).run Tryd.prog w = .ok (.slice (some ⟨g, 0, none⟩) (l.length + s.size) cap) w' ∧ OwnY w' B (.slice (some ⟨g, 0, none⟩) (l.length + s.size) cap) (l ++ s.data.toList) ∧ w.grownBy w' v.ownBlock := by
  obtain ⟨i, hi, hz, hsz, hby⟩ := info_parts Tryd.infoByteY
  obtain ⟨g, cap, cur, fz, rfl, hBg, hg, hf, h1, h2, h3, h4⟩ := h
  have el : (l ++ s.data.toList).length = l.length + s.size := by simp
  have hsl : s.data.toList.length = s.size := by simp
  have hcl : (Lib.strCells s).length = s.size := Lib.strCells_length s
  by_cases hroom : l.length + s.size ≤ cap
  · have hst := store_y Tryd.prog g 5 fz (Lib.strCells s) l.length 0 cur w hg (by rw [h3]; exact hf) (by rw [hcl]; omega) (Lib.strCells_oneCell s)
    have hfc := Lib.run_firstCells_string (P := Tryd.prog) w 1 s
    refine ⟨g, cap, w.setRow g (cur.toList.take l.length ++ Lib.strCells s ++ cur.toList.drop (l.length + s.size)).toArray, ?_, ⟨g, cap, _, fz, by rw [el], hBg, setRow_heap w g cur _ _ _ hg, hf, by rw [el]; exact hroom, h2, ?_, ?_⟩, ⟨rfl, rfl, rfl, by simp, fun k _ hk => setRow_other w g k _ (fun e => hk (by simp [Value.ownBlock, e]))⟩⟩
    · simp only [Nat.add_zero, hcl] at hst
      simp [Builtin.append_, run_underlying Tryd.underlying49, run_underlying Tryd.underlying9, sizeOf, typeInfo, hi, hsz, Builtin.lenOf, hroom, hfc, Addr.add_lit, hst]
    · simp only [List.size_toArray, List.length_append, List.length_take, List.length_drop, Array.length_toList, hcl]
      omega
    · rw [h4, el, bC_cat, ← bC_str]
      have : (bC l ++ Lib.strCells s).length = l.length + s.size := by rw [List.length_append, bC_len, hcl]
      rw [← this]
      exact List.take_left
  · have holds : ∀ j u, (bC l)[j]? = some u → w.cell? ((⟨g, 0, none⟩ : Addr).add j) = some u := fun j u hu => by
      have hadd : (⟨g, 0, none⟩ : Addr).add j = ⟨g, j, none⟩ := by unfold Addr.add; split <;> simp_all
      rw [hadd, cell_of_row w g j cur _ _ hg]
      rw [← h4, List.getElem?_take] at hu
      split at hu
      · simpa using hu
      · cases hu
    have hge := grownCap_ge w (l.length + s.size) cap 5
    have hcm := grownCap_le_maxLen w (l.length + s.size) cap 5 (by unfold maxLen; omega)
    have hr := Lib.run_append_grow_string (P := Tryd.prog) w 49 9 ty 5 i (.int .u8 0) Tryd.underlying49 Tryd.underlying9 hi hz ⟨g, 0, none⟩ l.length cap (bC l) (by rw [hsz, bC_len, Nat.mul_one]) holds s (by omega) (by omega) (by rw [hby]; exact growslice_fits (by omega) (by omega))
    refine ⟨w.heap.size, _, _, hr, ⟨w.heap.size, _, _, (0, 0), by rw [el], hB, heap_alloc_new w.drew _, fun j _ hj => absurd hj.2 (by simp), by rw [el]; exact hge, hcm, ?_, ?_⟩, ⟨rfl, rfl, rfl, by simp, fun k hk _ => by show (w.heap.push _)[k]? = _; rw [Array.getElem?_push, if_neg (Nat.ne_of_lt hk)]⟩⟩
    · have hz1 : (Value.int IntKind.u8 0).cells.size = 1 := rfl
      simp only [Array.size_append, List.size_toArray, size_zeroCells, hz1, bC_len, hcl]
      omega
    · simp only [Array.toList_append, List.append_assoc]
      rw [bC_cat, ← bC_str, ← List.append_assoc]
      have : (bC l ++ Lib.strCells s).length = (l ++ s.data.toList).length := by rw [List.length_append, bC_len, hcl, el]
      rw [← this]
      exact List.take_left
theorem wp_append_y {o : Oper} {a : Act} {w : World} {K : Act → World → Prop} {Q : Exit → Act → World → Prop} (x y : Operand)
    (ho : o.op = .call { callee := .builtin .append, args := #[x, y], argTypes := #[49, 9] })
    {B : Nat} {v : Value} {l : List UInt8} (hown : OwnY w B v l) (hB : B ≤ w.heap.size) (s : ByteArray) (hs : l.length + s.size ≤ 1000000) (hx : a.eval x = v) (hy : a.eval y = .string s)
    (h : ∀ g cap w', OwnY w' B (.slice (some ⟨g, 0, none⟩) (l.length + s.size) cap) (l ++ s.data.toList) → w.grownBy w' v.ownBlock → K (a.put o.dst (.slice (some ⟨g, 0, none⟩) (l.length + s.size) cap)) w') : o.wp Tryd.prog a w K Q := by
  obtain ⟨g, cap, w', hr, h2, h3⟩ := run_append_y o.type hown hB s hs
  unfold Oper.wp execOp
  simp only [ho, resolve, invoke, builtin, Sem.run_bind, Sem.run_pure, Result.andThen_ok, List.map_toArray, List.map_cons, List.map_nil, hx, hy, hr]
  exact h g cap w' h2 h3
theorem wpList_append_y {ops : Array Oper} {rest : List Oper} {o : Oper} {a : Act} {w : World} {Q : Exit → Act → World → Prop} (hgd : o.guard = none) (x y : Operand)
    (ho : o.op = .call { callee := .builtin .append, args := #[x, y], argTypes := #[49, 9] })
    {B : Nat} {v : Value} {l : List UInt8} (hown : OwnY w B v l) (hB : B ≤ w.heap.size) (s : ByteArray) (hs : l.length + s.size ≤ 1000000) (hx : a.eval x = v) (hy : a.eval y = .string s)
    (h : ∀ g cap w', OwnY w' B (.slice (some ⟨g, 0, none⟩) (l.length + s.size) cap) (l ++ s.data.toList) → w.grownBy w' v.ownBlock → wpList Tryd.prog ops Q rest (a.put o.dst (.slice (some ⟨g, 0, none⟩) (l.length + s.size) cap)) w') : wpList Tryd.prog ops Q (o :: rest) a w :=
  wpList_plain hgd fun _ hK => wp_append_y x y ho hown hB s hs hx hy fun g cap w' h2 h3 => hK _ _ (h g cap w' h2 h3)
theorem step_append_y {ops : Array Oper} {o : Oper} {a : Act} {w : World} {K : Act → World → Prop} {Q : Exit → Act → World → Prop} {E : Prop} (hgd : o.guard = none) (x y : Operand)
    (ho : o.op = .call { callee := .builtin .append, args := #[x, y], argTypes := #[49, 9] })
    {B : Nat} {v : Value} {l : List UInt8} (hown : OwnY w B v l) (hB : B ≤ w.heap.size) (s : ByteArray) (hs : l.length + s.size ≤ 1000000) (hx : a.eval x = v) (hy : a.eval y = .string s)
    (h : ∀ g cap w', OwnY w' B (.slice (some ⟨g, 0, none⟩) (l.length + s.size) cap) (l ++ s.data.toList) → w.grownBy w' v.ownBlock → K (a.put o.dst (.slice (some ⟨g, 0, none⟩) (l.length + s.size) cap)) w') :
    if Region.wanted o (yielded ops a.tmps) = true then Oper.wp Tryd.prog o a w K Q else E := by
  have hw : Region.wanted o (yielded ops a.tmps) = true := by simp [Region.wanted, hgd]
  rw [if_pos hw]
  exact wp_append_y x y ho hown hB s hs hx hy h
/-- A disk's block. -/
def dkY (v : Value) (off cut : Bool) (left : Int) : Obj := .cells #[v, .bool off, .bool cut, .int .i64 left] 51 (0, 0)
theorem dky_cells {w : World} {d : Nat} {v : Value} {off cut : Bool} {left : Int} (h : w.heap[d]? = some (dkY v off cut left)) :
    (w.cell? ⟨d, 0, none⟩ = some v ∧ w.cell? ⟨d, 1, none⟩ = some (.bool off) ∧ w.cell? ⟨d, 2, none⟩ = some (.bool cut) ∧ w.cell? ⟨d, 3, none⟩ = some (.int .i64 left)) ∧
    (w.frozen? ⟨d, 0, none⟩ = false ∧ w.frozen? ⟨d, 1, none⟩ = false ∧ w.frozen? ⟨d, 2, none⟩ = false ∧ w.frozen? ⟨d, 3, none⟩ = false) := by
  unfold dkY at h
  refine ⟨⟨?_, ?_, ?_, ?_⟩, ?_, ?_, ?_, ?_⟩ <;> simp [World.cell?, World.frozen?, h]
/-- A disk in memory reads as a tape; its bytes lie in a block of their own, from B on. -/
structure DiskAt (w : World) (B d : Nat) (v : Value) (t : Tp) : Prop where
  row : w.heap[d]? = some (dkY v t.off (decide (0 ≤ t.cut)) t.left)
  own : OwnY w B v t.b
theorem DiskAt.below {w w' : World} {B d : Nat} {v : Value} {t : Tp} (h : DiskAt w B d v t) (hb : Below w.heap.size w w') : DiskAt w' B d v t := ⟨(hb.block d (row_lt h.row)).trans h.row, h.own.below hb⟩
theorem DiskAt.ne {w : World} {B d : Nat} {v : Value} {t : Tp} (h : DiskAt w B d v t) : v.ownBlock ≠ some d := h.own.apart h.row (by decide)
theorem DiskAt.keep {S : Nat → Prop} {w w' : World} {B d : Nat} {v : Value} {t : Tp} (h : DiskAt w B d v t) (k : KeptD S w w') (h1 : ¬ S d) (h2 : ∀ g, v.ownBlock = some g → ¬ S g) : DiskAt w' B d v t :=
  ⟨(k.block d (row_lt h.row) h1).trans h.row, h.own.keep fun g hg => k.block g (h.own.lt g hg).2 (h2 g hg)⟩
theorem OwnY.setCell {w : World} {B : Nat} {v : Value} {l : List UInt8} (h : OwnY w B v l) {p : Addr} (hp : v.ownBlock ≠ some p.block) (u : Value) : OwnY (w.setCell p u) B v l :=
  h.keep fun g hg => heap_setCell_other w p g u fun e => hp (by rw [hg, e])
/-- The document's tape. -/
def rtY (t : Tp) : Obj := .cells #[.string (txt t.b), .bool t.off, .int .i64 t.cut] 41 (0, 0)
theorem rt_cells {w : World} {m : Nat} {t : Tp} (h : w.heap[m]? = some (rtY t)) :
    (w.cell? ⟨m, 0, none⟩ = some (.string (txt t.b)) ∧ w.cell? ⟨m, 1, none⟩ = some (.bool t.off) ∧ w.cell? ⟨m, 2, none⟩ = some (.int .i64 t.cut)) ∧
    (w.frozen? ⟨m, 0, none⟩ = false ∧ w.frozen? ⟨m, 1, none⟩ = false ∧ w.frozen? ⟨m, 2, none⟩ = false) := by
  unfold rtY at h
  refine ⟨⟨?_, ?_, ?_⟩, ?_, ?_, ?_⟩ <;> simp [World.cell?, World.frozen?, h]
end Go.Proofs.YteofodegeigmaaaDoor

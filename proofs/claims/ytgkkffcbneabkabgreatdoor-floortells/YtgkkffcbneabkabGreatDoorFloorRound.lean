/-
  One round of package floor's Read: a piece that is a floor is taken into the list; one that is none ends the loop with ErrText.
-/
import Derived.Test.YtgkkffcbneabkabGreatDoorFloorSplit
import Derived.Test.YtgkkffcbneabkabGreatDoorFloorInsert
import Derived.RangeFuncNested
import Derived.RangeFuncLeaves
import Derived.RangeFuncCalls
namespace Go.Proofs.YtgkkffcbneabkabGreatDoor
open Go Go.RowKit Go.Extern.Stop Go.Stop Go.Extern Go.Proofs

/-- Read's loop: how it takes what comes, and what it does with it. -/
def IsRd (cd : Code × Code) : Prop := cd = match Tryz.f38.body with
  | some (.seq _ (.seq _ (.seq _ (.seq (.seq _ (.block _ (.rangeFunc _ _ a b))) _)))) => (a, b)
  | _ => (.skip, .skip)
/-- The iterator's value. -/
abbrev rdSv (n0 : Nat) : Value := .func (.func 130) #[] #[.pointer (some ⟨n0 + 3 + 1, 0, none⟩), .pointer (some ⟨n0 + 3, 0, none⟩), .pointer (some ⟨n0 + 3 + 2, 0, none⟩)]
/-- Read's slots as they stood when the loop was entered. -/
abbrev rdTmps (s : ByteArray) (n0 : Nat) (x : Value) : Array Value := #[.string s, undef, .pointer (some ⟨n0, 0, none⟩), .pointer (some ⟨n0 + 1, 0, none⟩), .pointer (some ⟨n0 + 2, 0, none⟩), undef, undef, undef, .string s, .bool false, .string s, rdSv n0, x, undef, undef, undef, undef, undef, undef, undef, undef, undef, undef, undef, undef, undef, undef, undef, undef]
/-- The loop's record. -/
def rdRec (cd : Code × Code) (fn : FuncId) (s : ByteArray) (n0 : Nat) (st : LoopState) (pend : Option Code) : Loop :=
  { state := st, pending := pend, fn, tmps := rdTmps s n0 undef, params := #[12], assign := cd.1, body := cd.2, defers := n0 + 6 }
/-- Between two rounds. -/
structure RdAt (cd : Code × Code) (w0 : World) (fn : FuncId) (s : ByteArray) (ss : List Fl) (W : World) : Prop where
  r1 : W.heap[w0.heap.size]? = some (.cells #[.slice none 0 0] 49 (0, 0))
  r2 : W.heap[w0.heap.size + 1]? = some (.cells #[.nilIface] 27 (0, 0))
  box : ∃ v, W.heap[w0.heap.size + 2]? = some (.cells #[v] 49 (0, 0)) ∧ OwnF W (w0.heap.size + 8) v ss
  L : W.heap[w0.heap.size + 7]? = some (.loop (rdRec cd fn s w0.heap.size .ready none))
  K : W.heap[w0.heap.size + 6]? = some (.deferred (some []))
  below : Below w0.heap.size w0 W
  size : w0.heap.size + 8 ≤ W.heap.size
/-- Behind a round that ended the loop. -/
structure RdFail (a : Nat → Addr) (cd : Code × Code) (w0 : World) (fn : FuncId) (s : ByteArray) (W : World) : Prop where
  r1 : W.heap[w0.heap.size]? = some (.cells #[.slice none 0 0] 49 (0, 0))
  r2 : W.heap[w0.heap.size + 1]? = some (.cells #[eV (a 0)] 27 (0, 0))
  L : W.heap[w0.heap.size + 7]? = some (.loop (rdRec cd fn s w0.heap.size .done (some .ret)))
  K : W.heap[w0.heap.size + 6]? = some (.deferred (some []))
  below : Below w0.heap.size w0 W
  size : w0.heap.size + 8 ≤ W.heap.size
theorem RdAt.cellSet {cd : Code × Code} {w0 : World} {fn : FuncId} {s : ByteArray} {ss : List Fl} {W : World} (h : RdAt cd w0 fn s ss W) (t : ByteArray) : RdAt cd w0 fn s ss (W.setCell ⟨w0.heap.size + 3, 0, none⟩ (.string t)) := by
  have ho : ∀ k, k ≠ w0.heap.size + 3 → (W.setCell ⟨w0.heap.size + 3, 0, none⟩ (.string t)).heap[k]? = W.heap[k]? := fun k hk => heap_setCell_other W ⟨w0.heap.size + 3, 0, none⟩ k _ hk
  obtain ⟨v, hv, hown⟩ := h.box
  exact ⟨(ho _ (by omega)).trans h.r1, (ho _ (by omega)).trans h.r2, ⟨v, (ho _ (by omega)).trans hv, hown.keep (fun g hg => ho g (by have := (hown.lt g hg).1; omega))⟩, (ho _ (by omega)).trans h.L, (ho _ (by omega)).trans h.K, h.below.setCell (p := ⟨w0.heap.size + 3, 0, none⟩) (by show w0.heap.size ≤ w0.heap.size + 3; omega) _, by have := h.size; simpa using this⟩

set_option maxRecDepth 100000 in
set_option maxHeartbeats 4000000 in
theorem rdYield_yes (cd : Code × Code) (hcd : IsRd cd) (m : Nat) (hm : 1 ≤ m) (w0 : World) (fn : FuncId) (s p : ByteArray) (hp : p.size ≤ 4000) (f : Fl) (hf : readOneL p.data.toList = some f) (ss : List Fl) (hss : ss.length ≤ 4001) (W : World) (h : RdAt cd w0 fn s ss W) :
    YieldAt Fence.wide m Tryz.prog (w0.heap.size + 7) #[.string p] W fun e W' => e = .returned (.bool true) ∧ RdAt cd w0 fn s (ss ++ [f]) W' ∧ KeepB (w0.heap.size + 3) W W' := by
  obtain ⟨i0, hi, hz0, hz1, hz2⟩ := info_parts Tryz.infoFloor
  obtain ⟨v, hv, hown⟩ := h.box
  refine ⟨fn, rdTmps s w0.heap.size (.string p), cd.1, cd.2, by simpa [rdRec] using run_yield (P := Tryz.prog) (args := #[.string p]) h.L rfl, roundIn_of_wpIn trivial ?_⟩
  have hl : w0.heap.size + 7 < W.heap.size := row_lt h.L
  have hbr := run_beginRound (P := Tryz.prog) h.L rfl
  obtain ⟨W2, hW2⟩ : ∃ W2, W.putObj (w0.heap.size + 7) (.loop { rdRec cd fn s w0.heap.size .ready none with state := .busy }) = W2 := ⟨_, rfl⟩
  rw [hW2] at hbr
  have hg2 : W.grownBy W2 (some (w0.heap.size + 7)) := by rw [← hW2]; exact grownBy_putObj_a _ _ _
  have hL2 : W2.heap[w0.heap.size + 7]? = some (.loop { rdRec cd fn s w0.heap.size .ready none with state := .busy }) := by rw [← hW2]; exact World.putObj_heap_same hl
  have hs2 : W.heap.size ≤ W2.heap.size := hg2.size
  have hRO := readOne_any p W2 (by unfold maxLen; omega)
  rw [hf] at hRO
  have HRO : Hid (Calls Tryz.prog 76 #[.string p] W2 fun e w' => e = .returned (.tuple #[.agg #[.string f.who, .int .i64 f.ep], .bool true]) ∧ Below W2.heap.size W2 w') := hRO
  have HEnd : Hid (∀ w3 w5 v', Below W2.heap.size W2 w3 → w5.ownsRow (w0.heap.size + 8) 51 2 v' (ss.length + 1) (cellsF ss ++ f.cells) → ((w3.alloc (.cells #[.string f.who, .int .i64 f.ep] 51)).alloc (.cells #[.string f.who, .int .i64 f.ep] 51)).grownBy w5 v.ownBlock →
      ∃ vv W', (Instr.endRound (w0.heap.size + 7) none).run Tryz.prog (w5.setCell ⟨w0.heap.size + 2, 0, none⟩ v') = .ok vv W' ∧ vv = .bool true ∧ RdAt cd w0 fn s (ss ++ [f]) W' ∧ KeepB (w0.heap.size + 3) W W') := fun w3 w5 v' hb3 hown' hg5 => by
    have hsz : w0.heap.size + 8 ≤ W.heap.size := h.size
    -- blocks of the loop's own up to the store
    have hk5 : ∀ k, k < w0.heap.size + 8 → w5.heap[k]? = W2.heap[k]? := fun k hk => by
      rw [hg5.block k (by have := hb3.size; simp; omega) (fun e => by have := (hown.lt k e.symm).1; omega), Below.heap_alloc _ _ k (by have := hb3.size; simp; omega), Below.heap_alloc _ _ k (by have := hb3.size; omega), hb3.block k (by omega)]
    have hkW : ∀ k, k < w0.heap.size + 7 → w5.heap[k]? = W.heap[k]? := fun k hk => by
      rw [hk5 k (by omega)]
      exact hg2.block k (by omega) (fun e => by injection e with e; omega)
    have hk6 : ∀ k, k ≠ w0.heap.size + 2 → (w5.setCell ⟨w0.heap.size + 2, 0, none⟩ v').heap[k]? = w5.heap[k]? := fun k hk => heap_setCell_other w5 ⟨w0.heap.size + 2, 0, none⟩ k _ hk
    have hL6 : (w5.setCell ⟨w0.heap.size + 2, 0, none⟩ v').heap[w0.heap.size + 7]? = some (.loop { rdRec cd fn s w0.heap.size .ready none with state := .busy }) := by
      rw [hk6 _ (by omega), hk5 _ (by omega)]; exact hL2
    have hend := run_endRound (P := Tryz.prog) none hL6
    have hb6 : (w5.setCell ⟨w0.heap.size + 2, 0, none⟩ v').heap[w0.heap.size + 2]? = some (.cells #[v'] 49 (0, 0)) := heap_setCell_box_a v' ((hkW _ (by omega)).trans hv)
    have hlt6 := row_lt hL6
    refine ⟨_, _, hend, rfl, ⟨?_, ?_, ⟨v', ?_, ?_⟩, ?_, ?_, ?_, ?_⟩, ?_⟩
    · rw [World.putObj_heap_other (by omega), hk6 _ (by omega), hkW _ (by omega)]; exact h.r1
    · rw [World.putObj_heap_other (by omega), hk6 _ (by omega), hkW _ (by omega)]; exact h.r2
    · rw [World.putObj_heap_other (by omega)]; exact hb6
    · have e1 : (ss ++ [f]).length = ss.length + 1 := by simp
      have e2 : cellsF (ss ++ [f]) = cellsF ss ++ f.cells := by rw [cellsF_append]; simp [cellsF]
      have ho : OwnF w5 (w0.heap.size + 8) v' (ss ++ [f]) := by unfold OwnF; rw [e1, e2]; exact hown'
      refine ho.keep (fun g hg => ?_)
      have hgl := (ho.lt g hg).1
      rw [World.putObj_heap_other (by omega), hk6 _ (by omega)]
    · exact World.putObj_heap_same hlt6
    · rw [World.putObj_heap_other (by omega), hk6 _ (by omega), hkW _ (by omega)]; exact h.K
    · refine ⟨?_, ?_, ?_, ?_, fun k hk => ?_⟩
      · show w5.os = w0.os; rw [hg5.os]; exact (hb3.os.trans hg2.os).trans h.below.os
      · show w5.tape = w0.tape; rw [hg5.tape]; exact (hb3.tape.trans hg2.tape).trans h.below.tape
      · show w5.output = w0.output; rw [hg5.output]; exact (hb3.output.trans hg2.output).trans h.below.output
      · have := hg5.size; have := hb3.size; have := h.below.size; simp at *; omega
      · rw [World.putObj_heap_other (by omega), hk6 _ (by omega), hkW _ (by omega)]; exact h.below.block k hk
    · have := hg5.size; have := hb3.size; simp at *; omega
    · intro k hk1 hk2
      rw [World.putObj_heap_other (by omega), hk6 _ (by omega), hkW _ (by omega)]
  have hbox2 : W2.heap[w0.heap.size + 2]? = some (.cells #[v] 49 (0, 0)) := by rw [hg2.block _ (by omega) (fun e => by injection e with e; omega)]; exact hv
  have hown2 : OwnF W2 (w0.heap.size + 8) v ss := hown.keep (fun g hg => hg2.block g (hown.lt g hg).2 (fun e => by injection e with e; have := (hown.lt g hg).1; omega))
  have HBox := hide hbox2
  have HOwn := hide hown2
  have HSz : Hid (w0.heap.size + 8 ≤ W2.heap.size) := Nat.le_trans h.size hs2
  clear hW2 hg2 hL2 hv hown hRO h hf hl hs2 hbox2 hown2
  rw [show cd.1 = _ from congrArg Prod.fst hcd, show cd.2 = _ from congrArg Prod.snd hcd]
  dsimp only [Tryz.f38]
  gi_wp2_with gi_round_op_a
  refine ⟨W2, hbr, ?_⟩
  gi_wp2_with (first
    | (refine ⟨trivial, ?_⟩; gi_at_call 76; refine (CallsIn.inRound (w0.heap.size + 7) (callsIn_wide.2 HRO.out)).mono ?_; rintro e w3 ⟨rfl, hb3⟩; have HB3 := hide hb3; have hbx : ∀ o, (w3.alloc o).heap[w0.heap.size + 2]? = some (.cells #[v] 49 (0, 0)) := fun o => (Below.heap_alloc _ _ _ (Nat.lt_of_lt_of_le (row_lt HBox.out) hb3.size)).trans ((hb3.block _ (row_lt HBox.out)).trans HBox.out); have HBx := hide hbx; have hcb := fun o => (cell_of_box_a (hbx o)).1; have HO3 := hide (HOwn.out.below hb3); clear hb3 hbx)
    | (gi_at_builtin; refine wpListIn_append_own _ rfl _ _ 49 rfl (w0.heap.size + 8) 51 i0 _ 2 24 Tryz.underlying49 hi hz0 hz1 hz2 rfl (by decide) _ _ _ rfl ((HO3.out.alloc _).alloc _) ⟨w3.heap.size + 1, 0, none⟩ 1 1 f.cells rfl rfl (fun j u hj => by rw [← World.size_alloc w3 (.cells #[.string f.who, .int .i64 f.ep] 51)]; exact cells_src (heap_alloc_new _ _) j u hj) (cells_oneF f) (by unfold maxLen; omega) (by omega) (by have := HB3.out.size; have := HSz.out; simp; omega) ?_; intro v' w5 hown' hg5 hnil5
       have hb5 : w5.heap[w0.heap.size + 2]? = some (.cells #[v] 49 (0, 0)) := (hg5.block _ (by have := HB3.out.size; have := HSz.out; simp; omega) (fun e => by have := (HO3.out.lt _ e.symm).1; omega)).trans ((Below.heap_alloc _ _ _ (by have := HB3.out.size; have := HSz.out; simp; omega)).trans (HBx.out _))
       obtain ⟨hc5, hf5⟩ := cell_of_box_a hb5
       obtain ⟨g', cap', cur', rfl, hbase', hgb', hr1, hr2, hr3, hr4⟩ : ∃ g' cap' cur', v' = .slice (some ⟨g', 0, none⟩) (ss.length + 1) cap' ∧ w0.heap.size + 8 ≤ g' ∧ w5.heap[g']? = some (.cells cur' 51 (0, 0)) ∧ ss.length + 1 ≤ cap' ∧ cap' ≤ maxLen ∧ cur'.size = cap' * 2 ∧ cur'.toList.take ((ss.length + 1) * 2) = cellsF ss ++ f.cells := by
         rcases hown'.2 with ⟨_, h0⟩ | h'
         · exact absurd h0 (by omega)
         · exact h'
       have HE5 := hide (HEnd.out w3 w5 _ HB3.out hown' hg5)
       clear hown' hg5 hnil5 hb5 hgb' hr4
       go_frame)
    | gi_round_op_a)
  obtain ⟨vv, W', h1, rfl, h3, h4⟩ := HE5.out
  exact ⟨_, W', h1, rfl, h3, h4⟩

attribute [local go_sem] Oper.semAt_some

set_option maxRecDepth 100000 in
set_option maxHeartbeats 4000000 in
theorem rdYield_no (a : Nat → Addr) (cd : Code × Code) (hcd : IsRd cd) (m : Nat) (hm : 1 ≤ m) (w0 : World) (fn : FuncId) (s p : ByteArray) (hp : p.size ≤ 4000) (hE : w0.cell? ⟨5, 0, none⟩ = some (eV (a 0))) (hf : readOneL p.data.toList = none) (ss : List Fl) (W : World) (h : RdAt cd w0 fn s ss W) :
    YieldAt Fence.wide m Tryz.prog (w0.heap.size + 7) #[.string p] W fun e W' => e = .returned (.bool false) ∧ RdFail a cd w0 fn s W' := by
  refine ⟨fn, rdTmps s w0.heap.size (.string p), cd.1, cd.2, by simpa [rdRec] using run_yield (P := Tryz.prog) (args := #[.string p]) h.L rfl, roundIn_of_wpIn trivial ?_⟩
  have hl : w0.heap.size + 7 < W.heap.size := row_lt h.L
  have hbr := run_beginRound (P := Tryz.prog) h.L rfl
  obtain ⟨W2, hW2⟩ : ∃ W2, W.putObj (w0.heap.size + 7) (.loop { rdRec cd fn s w0.heap.size .ready none with state := .busy }) = W2 := ⟨_, rfl⟩
  rw [hW2] at hbr
  have hg2 : W.grownBy W2 (some (w0.heap.size + 7)) := by rw [← hW2]; exact grownBy_putObj_a _ _ _
  have hL2 : W2.heap[w0.heap.size + 7]? = some (.loop { rdRec cd fn s w0.heap.size .ready none with state := .busy }) := by rw [← hW2]; exact World.putObj_heap_same hl
  have hs2 : W.heap.size ≤ W2.heap.size := hg2.size
  have hRO := readOne_any p W2 (by unfold maxLen; omega)
  rw [hf] at hRO
  have HRO : Hid (Calls Tryz.prog 76 #[.string p] W2 fun e w' => e = .returned (.tuple #[.agg #[.string ByteArray.empty, .int .i64 0], .bool false]) ∧ Below W2.heap.size W2 w') := hRO
  have HK : Hid (∀ w3 o, Below W2.heap.size W2 w3 → ∀ k, k < w0.heap.size + 7 → (w3.alloc o).heap[k]? = W.heap[k]?) := fun w3 o hb3 k hk => by
    have hsz : w0.heap.size + 8 ≤ W.heap.size := h.size
    rw [Below.heap_alloc _ _ k (by have := hb3.size; omega), hb3.block k (by omega)]
    exact hg2.block k (by omega) (fun e => by injection e with e; omega)
  have HC : Hid (∀ w3 o, Below W2.heap.size W2 w3 → (w3.alloc o).cell? ⟨5, 0, none⟩ = some (eV (a 0)) ∧ (w3.alloc o).heap[w0.heap.size]? = some (.cells #[.slice none 0 0] 49 (0, 0)) ∧ (w3.alloc o).heap[w0.heap.size + 1]? = some (.cells #[.nilIface] 27 (0, 0))) := fun w3 o hb3 => by
    have hlt : 5 < w0.heap.size := cell_lt hE
    refine ⟨?_, ?_, ?_⟩
    · rw [World.cell?_of_block (w := W) (a := ⟨5, 0, none⟩) (HK.out w3 o hb3 5 (by omega)), h.below.cell (p := ⟨5, 0, none⟩) hlt]; exact hE
    · rw [HK.out w3 o hb3 _ (by omega)]; exact h.r1
    · rw [HK.out w3 o hb3 _ (by omega)]; exact h.r2
  have HEnd : Hid (∀ w3 o, Below W2.heap.size W2 w3 →
      ∃ vv W', (Instr.endRound (w0.heap.size + 7) (some .ret)).run Tryz.prog (((w3.alloc o).drew.setCell ⟨w0.heap.size, 0, none⟩ (.slice none 0 0)).setCell ⟨w0.heap.size + 1, 0, none⟩ (eV (a 0))) = .ok vv W' ∧ vv = .bool false ∧ RdFail a cd w0 fn s W') := fun w3 o hb3 => by
    have hsz : w0.heap.size + 8 ≤ W.heap.size := h.size
    have hk6 : ∀ k, k ≠ w0.heap.size → k ≠ w0.heap.size + 1 → (((w3.alloc o).drew.setCell ⟨w0.heap.size, 0, none⟩ (.slice none 0 0)).setCell ⟨w0.heap.size + 1, 0, none⟩ (eV (a 0))).heap[k]? = (w3.alloc o).heap[k]? := fun k h1 h2 => by
      rw [heap_setCell_other _ ⟨w0.heap.size + 1, 0, none⟩ k _ h2, heap_setCell_other _ ⟨w0.heap.size, 0, none⟩ k _ h1]
      rfl
    obtain ⟨_, hr1, hr2⟩ := HC.out w3 o hb3
    have hL6 : (((w3.alloc o).drew.setCell ⟨w0.heap.size, 0, none⟩ (.slice none 0 0)).setCell ⟨w0.heap.size + 1, 0, none⟩ (eV (a 0))).heap[w0.heap.size + 7]? = some (.loop { rdRec cd fn s w0.heap.size .ready none with state := .busy }) := by
      rw [hk6 _ (by omega) (by omega), Below.heap_alloc _ _ _ (by have := hb3.size; omega), hb3.block _ (by omega)]; exact hL2
    have hend := run_endRound (P := Tryz.prog) (some .ret) hL6
    have h1 : ((w3.alloc o).drew.setCell ⟨w0.heap.size, 0, none⟩ (.slice none 0 0)).heap[w0.heap.size]? = some (.cells #[.slice none 0 0] 49 (0, 0)) := heap_setCell_box_a (W := (w3.alloc o).drew) _ hr1
    have h2 : (((w3.alloc o).drew.setCell ⟨w0.heap.size, 0, none⟩ (.slice none 0 0)).setCell ⟨w0.heap.size + 1, 0, none⟩ (eV (a 0))).heap[w0.heap.size + 1]? = some (.cells #[eV (a 0)] 27 (0, 0)) := heap_setCell_box_a (v := .nilIface) _ (by rw [heap_setCell_other _ ⟨w0.heap.size, 0, none⟩ _ _ (by show w0.heap.size + 1 ≠ w0.heap.size; omega)]; exact hr2)
    refine ⟨_, _, hend, rfl, ⟨?_, ?_, ?_, ?_, ?_, ?_⟩⟩
    · rw [World.putObj_heap_other (by omega), heap_setCell_other _ ⟨w0.heap.size + 1, 0, none⟩ _ _ (by show w0.heap.size ≠ w0.heap.size + 1; omega)]; exact h1
    · rw [World.putObj_heap_other (by omega)]; exact h2
    · exact World.putObj_heap_same (row_lt hL6)
    · rw [World.putObj_heap_other (by omega), hk6 _ (by omega) (by omega), HK.out w3 o hb3 _ (by omega)]; exact h.K
    · refine ⟨?_, ?_, ?_, ?_, fun k hk => ?_⟩
      · show w3.os = w0.os; exact (hb3.os.trans hg2.os).trans h.below.os
      · show w3.tape = w0.tape; exact (hb3.tape.trans hg2.tape).trans h.below.tape
      · show w3.output = w0.output; exact (hb3.output.trans hg2.output).trans h.below.output
      · have := hb3.size; have := h.below.size; simp at *; omega
      · rw [World.putObj_heap_other (by omega), hk6 _ (by omega) (by omega), HK.out w3 o hb3 _ (by omega)]; exact h.below.block k hk
    · have := hb3.size; simp at *; omega
  clear hW2 hg2 hL2 hRO h hf hl hs2
  rw [show cd.1 = _ from congrArg Prod.fst hcd, show cd.2 = _ from congrArg Prod.snd hcd]
  dsimp only [Tryz.f38]
  gi_wp2_with gi_round_op_a
  refine ⟨W2, hbr, ?_⟩
  gi_wp2_with (first
    | (refine ⟨trivial, ?_⟩; gi_at_call 76; refine (CallsIn.inRound (w0.heap.size + 7) (callsIn_wide.2 HRO.out)).mono ?_; rintro e w3 ⟨rfl, hb3⟩; have HB3 := hide hb3; obtain ⟨q0, q1, q2⟩ := HC.out w3 (.cells #[.string ByteArray.empty, .int .i64 0] 51) hb3; have HE5 := hide (HEnd.out w3 (.cells #[.string ByteArray.empty, .int .i64 0] 51) hb3); have HQ1 := hide q1; have HQ2 := hide q2; obtain ⟨c1, f1⟩ := cell_of_box_a q1; obtain ⟨c2, f2⟩ := cell_of_box_a q2; clear hb3 q1 q2)
    | gi_round_op_a)
  clear c1 f1 c2 f2 q0
  obtain ⟨q0, _, _⟩ := HC.out w3 (.cells #[.string ByteArray.empty, .int .i64 0] 51) HB3.out
  have HLt : Hid (5 < w0.heap.size) := cell_lt hE
  generalize w3.alloc (.cells #[.string ByteArray.empty, .int .i64 0] 51) = X at *
  have d0 : X.drew.cell? ⟨5, 0, none⟩ = some (eV (a 0)) := q0
  have d1 : X.drew.cell? ⟨w0.heap.size, 0, none⟩ = some (.slice none 0 0) := (cell_of_box_a HQ1.out).1
  have f1 : X.drew.frozen? ⟨w0.heap.size, 0, none⟩ = false := (cell_of_box_a HQ1.out).2
  have d2 : X.drew.cell? ⟨w0.heap.size + 1, 0, none⟩ = some .nilIface := (cell_of_box_a HQ2.out).1
  have f2 : X.drew.frozen? ⟨w0.heap.size + 1, 0, none⟩ = false := (cell_of_box_a HQ2.out).2
  have e0 : X.cell? ⟨5, 0, none⟩ = some (eV (a 0)) := q0
  have e1 : X.cell? ⟨w0.heap.size, 0, none⟩ = some (.slice none 0 0) := (cell_of_box_a HQ1.out).1
  have g1 : X.frozen? ⟨w0.heap.size, 0, none⟩ = false := (cell_of_box_a HQ1.out).2
  have e2 : X.cell? ⟨w0.heap.size + 1, 0, none⟩ = some .nilIface := (cell_of_box_a HQ2.out).1
  have g2 : X.frozen? ⟨w0.heap.size + 1, 0, none⟩ = false := (cell_of_box_a HQ2.out).2
  have hne1 : ¬ (w0.heap.size + 1 = w0.heap.size) := by omega
  have hne2 : ¬ (w0.heap.size = w0.heap.size + 1) := by omega
  have hne3 : ¬ (5 = w0.heap.size) := by have := HLt.out; omega
  clear q0
  gi_region
  all_goals
    gi_wp2
    obtain ⟨vv, W', h1, rfl, h3⟩ := HE5.out
    exact ⟨_, W', h1, rfl, h3⟩
end Go.Proofs.YtgkkffcbneabkabGreatDoor

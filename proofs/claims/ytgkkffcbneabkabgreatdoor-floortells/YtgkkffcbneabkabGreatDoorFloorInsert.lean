/-
  The library's Insert of one floor into a row of one's own: behind it the floor stands at its place; nothing else that was there is written.
-/
import Derived.Test.YtgkkffcbneabkabGreatDoorFloorDelete
import Derived.Shelf.Spec.SlicesInsertGrow
namespace Go.Proofs.YtgkkffcbneabkabGreatDoor
open Go.RowKit Go.Extern.Stop Go.Stop Go.Extern Go.Proofs

theorem Tryz.infoFloor : (Tryz.prog.info? 51).map (fun i => (i.zero, i.size, i.bytes)) = some (some (.agg #[.string ByteArray.empty, .int .i64 0]), 2, 24) := by kernel_rfl
theorem Tryz.sizeFloor : (Tryz.prog.info? 51).map (·.size) = some 2 := by kernel_rfl

theorem copyF (w : World) (g o dLen : Nat) (a : Addr) (sLen : Nat) (cur : Array Value) (cs : List Value) (hg : w.heap[g]? = some (.cells cur 51 (0, 0))) (hn : cs.length = Nat.min sLen dLen * 2)
    (hsrc : ∀ j v, cs[j]? = some v → w.cell? (a.add j) = some v) (hfit : o + cs.length ≤ cur.size) (h1 : ∀ v ∈ cs, v.oneCell' = true) :
    ∃ W, (∀ ty dc sc, (Builtin.copy_ #[49, 49] ty #[.slice (some ⟨g, o, none⟩) dLen dc, .slice (some a) sLen sc]).run Tryz.prog w = .ok (goInt (Nat.min sLen dLen)) W) ∧
      W.heap[g]? = some (.cells (cur.toList.take o ++ cs ++ cur.toList.drop (o + cs.length)).toArray 51 (0, 0)) ∧ w.grownBy W (some g) :=
  ⟨_, fun ty dc sc => run_copy_rowK w _ _ ty _ 2 g o dLen dc a sLen sc cur _ cs Tryz.underlying49 Tryz.sizeFloor hg hn hsrc hfit h1, setRow_heap w g cur _ _ _ hg, grownBy_setRow _⟩
theorem grownBy_drew (w : World) (row : Option Nat) : w.grownBy w.drew row := ⟨rfl, rfl, rfl, Nat.le_refl _, fun _ _ _ => rfl⟩
theorem below_of_grown {w w' : World} {B g : Nat} (h : w.grownBy w' (some g)) (hw : B ≤ w.heap.size) (hg : B ≤ g) : Below B w w' :=
  ⟨h.os, h.tape, h.output, h.size, fun k hk => h.block k (by omega) (fun e => by injection e with e; omega)⟩
theorem shape_row {w : World} {b : Nat} {cs : Array Value} {t : TypeId} (h : w.heap[b]? = some (.cells cs t (0, 0))) : w.shape? b = some (t, cs.size) := by simp [World.shape?, h]
theorem cells_src {w : World} {vb : Nat} {f : Fl} (h : w.heap[vb]? = some (flO f)) : ∀ j v, f.cells[j]? = some v → w.cell? ((⟨vb, 0, none⟩ : Addr).add j) = some v := fun j v hj => by
  rw [Addr.add_lit, Nat.zero_add, cell_of_row w vb j _ _ _ h]
  have : (#[Value.string f.who, Value.int .i64 f.ep] : Array Value)[j]? = f.cells[j]? := by rw [← Array.getElem?_toList]; rfl
  rw [this]; exact hj
theorem cells_oneF (f : Fl) : ∀ v ∈ f.cells, v.oneCell' = true := by
  intro v hv
  simp only [Fl.cells, List.mem_cons, List.not_mem_nil, or_false] at hv
  rcases hv with rfl | rfl <;> rfl

set_option maxRecDepth 100000 in
set_option maxHeartbeats 4000000 in
/-- At the end. -/
theorem insert_end (B vb : Nat) (f : Fl) (v : Value) (k : List Fl) (w : World) (hf : w.heap[vb]? = some (flO f)) (hv : OwnF w B v k) (hB : B ≤ w.heap.size) (hl : k.length ≤ 1000000) :
    Calls Tryz.prog 101 #[v, .int .i64 k.length, .slice (some ⟨vb, 0, none⟩) 1 1] w fun e w' => ∃ v', e = .returned v' ∧ OwnF w' B v' (k ++ [f]) ∧ Below B w w' := by
  obtain ⟨i0, hi, hz0, hz1, hz2⟩ := info_parts Tryz.infoFloor
  have HS := hide (cells_src hf)
  have HV := hide hv
  have HEnd : Hid (∀ v' w', w'.ownsRow B 51 2 v' (k.length + 1) (cellsF k ++ f.cells) → w.grownBy w' v.ownBlock → OwnF w' B v' (k ++ [f]) ∧ Below B w w') := fun v' w' h1 h2 => by
    refine ⟨?_, (Below.refl B w).grown h2 hB (fun q hq => (hv.lt q hq).1)⟩
    have e1 : (k ++ [f]).length = k.length + 1 := by simp
    have e2 : cellsF (k ++ [f]) = cellsF k ++ f.cells := by rw [cellsF_append]; simp [cellsF]
    unfold OwnF
    rw [e1, e2]
    exact h1
  rcases hv.2 with ⟨rfl, h0⟩ | ⟨g, cap, cur, rfl, hb, hg, hc, hm, hs, ht⟩
  · generalize hn : k.length = n at *
    subst h0
    go_enter Tryz.func101, Tryz.ntmps101
    go_wp2_with (at_builtin; refine wpList_append_own _ rfl _ _ 49 rfl B 51 i0 _ 2 24 Tryz.underlying49 hi hz0 hz1 hz2 rfl (by decide) _ _ _ rfl (by have := HV.out; unfold OwnF at this; rw [hn] at this; exact this) ⟨vb, 0, none⟩ 1 1 f.cells rfl rfl HS.out (cells_oneF f) (by unfold maxLen; omega) (by omega) hB ?_; intro v' w' hown hgrow hnn)
    go_wp2
    go_ret
    exact ⟨_, rfl, HEnd.out _ _ hown hgrow⟩
  · generalize hn : k.length = n at *
    have hmz : (cap : Int) ≤ 9223372036854775807 := by unfold maxLen at hm; omega
    clear hg hs ht hf hv
    rcases Nat.eq_or_lt_of_le hc with hck | hck
    · subst hck
      go_enter Tryz.func101, Tryz.ntmps101
      go_wp2_with (at_builtin; refine wpList_append_own _ rfl _ _ 49 rfl B 51 i0 _ 2 24 Tryz.underlying49 hi hz0 hz1 hz2 rfl (by decide) _ _ _ rfl (by have := HV.out; unfold OwnF at this; rw [hn] at this; exact this) ⟨vb, 0, none⟩ 1 1 f.cells rfl rfl HS.out (cells_oneF f) (by unfold maxLen; omega) (by omega) hB ?_; intro v' w' hown hgrow hnn)
      go_wp2
      go_ret
      exact ⟨_, rfl, HEnd.out _ _ hown hgrow⟩
    · have hcn : ¬ cap = n := by omega
      go_enter Tryz.func101, Tryz.ntmps101
      go_wp2_with (at_builtin; refine wpList_append_own _ rfl _ _ 49 rfl B 51 i0 _ 2 24 Tryz.underlying49 hi hz0 hz1 hz2 rfl (by decide) _ _ _ rfl (by have := HV.out; unfold OwnF at this; rw [hn] at this; exact this) ⟨vb, 0, none⟩ 1 1 f.cells rfl rfl HS.out (cells_oneF f) (by unfold maxLen; omega) (by omega) hB ?_; intro v' w' hown hgrow hnn)
      go_wp2
      go_ret
      exact ⟨_, rfl, HEnd.out _ _ hown hgrow⟩
end Go.Proofs.YtgkkffcbneabkabGreatDoor

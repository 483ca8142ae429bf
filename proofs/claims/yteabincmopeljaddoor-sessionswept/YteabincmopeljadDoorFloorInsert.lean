/-
  The library's Insert of one floor into a row of one's own: behind it the floor stands at its place; nothing else that was there is written.
  The library's Insert of one floor into the middle of a row of one's own: in place where there is room, else in a new row.
-/
import Derived.Test.YteabincmopeljadDoorFloorDelete
import Derived.Shelf.Spec.SlicesInsertGrow
import Derived.Deep.RegionLaw
namespace Go.Proofs.YteabincmopeljadDoor
open Go.RowKit Go.Extern.Stop Go.Stop Go.Extern Go.Proofs

theorem Tryd.infoFloor : (Tryd.prog.info? 83).map (fun i => (i.zero, i.size, i.bytes)) = some (some (.agg #[.string ByteArray.empty, .int .i64 0]), 2, 24) := by kernel_rfl
theorem Tryd.sizeFloor : (Tryd.prog.info? 83).map (·.size) = some 2 := by kernel_rfl

theorem copyF (w : World) (g o dLen : Nat) (a : Addr) (sLen : Nat) (cur : Array Value) (cs : List Value) (hg : w.heap[g]? = some (.cells cur 83 (0, 0))) (hn : cs.length = Nat.min sLen dLen * 2)
    (hsrc : ∀ j v, cs[j]? = some v → w.cell? (a.add j) = some v) (hfit : o + cs.length ≤ cur.size) (h1 : ∀ v ∈ cs, v.oneCell' = true) :
    ∃ W, (∀ ty dc sc, (Builtin.copy_ #[46, 46] ty #[.slice (some ⟨g, o, none⟩) dLen dc, .slice (some a) sLen sc]).run Tryd.prog w = .ok (goInt (Nat.min sLen dLen)) W) ∧
      W.heap[g]? = some (.cells (cur.toList.take o ++ cs ++ cur.toList.drop (o + cs.length)).toArray 83 (0, 0)) ∧ w.grownBy W (some g) :=
  ⟨_, fun ty dc sc => run_copy_rowK w _ _ ty _ 2 g o dLen dc a sLen sc cur _ cs Tryd.underlying46 Tryd.sizeFloor hg hn hsrc hfit h1, setRow_heap w g cur _ _ _ hg, grownBy_setRow _⟩
theorem grownBy_drew (w : World) (row : Option Nat) : w.grownBy w.drew row := ⟨rfl, rfl, rfl, Nat.le_refl _, fun _ _ _ => rfl⟩
theorem below_of_grown {w w' : World} {B g : Nat} (h : w.grownBy w' (some g)) (hw : B ≤ w.heap.size) (hg : B ≤ g) : Below B w w' :=
  ⟨h.os, h.tape, h.output, h.size, fun k hk => h.block k (by omega) (fun e => by injection e with e; omega)⟩
theorem shape_row {w : World} {b : Nat} {cs : Array Value} {t : TypeId} (h : w.heap[b]? = some (.cells cs t (0, 0))) : w.shape? b = some (t, cs.size) := by simp [World.shape?, h]
theorem cells_src {w : World} {vb : Nat} {f : Fl} (h : w.heap[vb]? = some (flO f)) : ∀ j v, f.cells[j]? = some v → w.cell? ((⟨vb, 0, none⟩ : Addr).add j) = some v := fun j v hj => by
  rw [Addr.add_lit, Nat.zero_add, cell_of_row w vb j _ _ _ h]
  have : (#[Value.string f.who, Value.int .i64 f.ep] : Array Value)[j]? = f.cells[j]? := by rw [← Array.getElem?_toList]; rfl
  rw [this]; exact hj
theorem cells_oneF (f : Fl) : ∀ v ∈ f.cells, v.oneCell' = true := by
  intro v hv
  simp only [Fl.cells, List.mem_cons, List.not_mem_nil, or_false] at hv
  rcases hv with rfl | rfl <;> rfl

end Go.Proofs.YteabincmopeljadDoor

namespace Go.Proofs.YteabincmopeljadDoor
open Go.RowKit Go.Extern.Stop Go.Stop Go.Extern Go.Proofs

theorem seg_take {α : Type} (l cs : List α) (o : Nat) (h : o ≤ l.length) (t : List α) : (l.take o ++ cs ++ t).take o = l.take o := by
  rw [List.append_assoc, List.take_append_of_le_length (by rw [List.length_take]; omega), List.take_take, Nat.min_self]
theorem own_mid {w : World} {B g cap n i : Nat} {cur : Array Value} {k : List Fl} {f : Fl} {tl : List Value} (hg : w.heap[g]? = some (.cells cur 83 (0, 0))) (hB : B ≤ g) (hn : k.length = n) (hi : i ≤ n) (hc : n + 1 ≤ cap) (hm : cap ≤ maxLen) (hs : cur.size = cap * 2)
    (ht : cur.toList = cellsF (k.take i) ++ f.cells ++ cellsF (k.drop i) ++ tl) : OwnF w B (.slice (some ⟨g, 0, none⟩) (n + 1) cap) (k.take i ++ f :: k.drop i) := by
  have hl : (k.take i ++ f :: k.drop i).length = n + 1 := by rw [List.length_append, List.length_take, List.length_cons, List.length_drop]; omega
  have he : cellsF (k.take i ++ f :: k.drop i) = cellsF (k.take i) ++ f.cells ++ cellsF (k.drop i) := by rw [cellsF_append, List.append_assoc]; rfl
  refine ⟨by rw [cellsF_len], Or.inr ⟨g, cap, cur, by rw [hl], hB, hg, by rw [hl]; omega, hm, hs, ?_⟩⟩
  rw [hl, ht, ← he, List.take_append_of_le_length (by rw [cellsF_len, hl]; omega), List.take_of_length_le (by rw [cellsF_len, hl]; omega)]

theorem grown_new {w W : World} {row : Array Value} {t : TypeId} (h : W = w.drew.alloc (.cells row t)) : W.heap[w.heap.size]? = some (.cells row t (0, 0)) ∧ w.grownBy W none ∧ W.heap.size = w.heap.size + 1 := by
  subst h
  exact ⟨heap_alloc_new w.drew _, ⟨rfl, rfl, rfl, by simp, fun k hk _ => Below.heap_alloc w.drew _ k hk⟩, by simp⟩

end Go.Proofs.YteabincmopeljadDoor

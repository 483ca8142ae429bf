/-
  What goes where a floor is raised: the closure of package floor's raised, and the library's IndexFunc with it.
  A row of floors in memory of one's own: its cells, a floor written into it, its beginnings.
  The library's DeleteFunc with the closure of package floor's raised: of a row of one's own what is kept stays, in the same row; nothing else is written.
  The library's Insert of one floor into a row of one's own: behind it the floor stands at its place; nothing else that was there is written. The library's Insert of one floor into the middle of a row of one's own: in place where there is room, else in a new row.
  What package floor's raised does to a row of one's own, and what Raise gives: the list with the floor raised, in new memory, or an error; for every list and floor.
  The small functions of the chapter's statements: floors that are too long, floors that are the same, floors of own memory, and the closed fact that a floor is raised.
-/
import Derived.Test.YteabincmopeljaeGreatDoorFloorFind
import Derived.Laws.OwnMore
import Derived.Shelf.Spec.SlicesInsertGrow
import Derived.Deep.RegionLaw
import Derived.Deep.RegionHeld3
namespace Go.Proofs.YteabincmopeljaeGreatDoor
open Go.RowKit Go.Extern.Stop Go.Stop Go.Extern Go.Proofs

/-- A floor's block. -/
abbrev flO (f : Fl) : Obj := .cells #[.string f.who, .int .i64 f.ep] 61 (0, 0)

/-- The first that goes, as a number: -1 where none does. -/
def goneI (l : List Fl) (f : Fl) : Int := match l.findIdx? (goesF f) with | some i => (i : Int) | none => -1
theorem goneI_some (l : List Fl) (f : Fl) (k : Nat) (hk : k < l.length) (h : goesF f l[k] = true) (hb : ∀ j (hj : j < l.length), j < k → goesF f l[j] = false) : goneI l f = k := by
  have : l.findIdx? (goesF f) = some k := by
    rw [List.findIdx?_eq_some_iff_getElem]
    exact ⟨hk, h, fun j hj => by simp [hb j (by omega) hj]⟩
  unfold goneI
  rw [this]
theorem goneI_none (l : List Fl) (f : Fl) (h : ∀ j (hj : j < l.length), goesF f l[j] = false) : goneI l f = -1 := by
  have : l.findIdx? (goesF f) = none := by
    rw [List.findIdx?_eq_none_iff]
    intro x hx
    obtain ⟨j, hj, rfl⟩ := List.getElem_of_mem hx
    exact h j hj
  unfold goneI
  rw [this]
theorem goneI_cases (l : List Fl) (f : Fl) : (goneI l f = -1 ∧ ∀ j (hj : j < l.length), goesF f l[j] = false) ∨ ∃ k : Nat, ∃ hk : k < l.length, goneI l f = k ∧ goesF f l[k] = true ∧ ∀ j (hj : j < l.length), j < k → goesF f l[j] = false := by
  unfold goneI
  cases hf : l.findIdx? (goesF f) with
  | none =>
    rw [List.findIdx?_eq_none_iff] at hf
    exact Or.inl ⟨rfl, fun j hj => hf _ (List.getElem_mem _)⟩
  | some k =>
    rw [List.findIdx?_eq_some_iff_getElem] at hf
    obtain ⟨hk, h1, h2⟩ := hf
    exact Or.inr ⟨k, hk, rfl, h1, fun j hj hjk => by simpa using h2 j hjk⟩

end Go.Proofs.YteabincmopeljaeGreatDoor

namespace Go.Proofs.YteabincmopeljaeGreatDoor
open Go.RowKit Go.Extern.Stop Go.Stop Go.Extern Go.Proofs

/-- A row of floors of one's own, from a block number on. -/
abbrev OwnF (w : World) (B : Nat) (v : Value) (l : List Fl) : Prop := w.ownsRow B 61 2 v l.length (cellsF l)
theorem OwnF.flAt {w : World} {B : Nat} {v : Value} {l : List Fl} (h : OwnF w B v l) : FlAt w v l := by
  rcases h.2 with ⟨rfl, h0⟩ | ⟨g, cap, cur, rfl, hb, hg, hc, hm, hs, ht⟩
  · exact Or.inl ⟨none, 0, rfl, List.length_eq_zero_iff.1 h0⟩
  · refine Or.inr ⟨g, 0, cap, rfl, hc, fun j u hu => ?_⟩
    rw [cell_of_row w g (0 + j) cur _ _ hg, Nat.zero_add]
    rw [← ht, List.getElem?_take] at hu
    split at hu
    · simpa using hu
    · cases hu
theorem OwnF.keep {w w' : World} {B : Nat} {v : Value} {l : List Fl} (h : OwnF w B v l) (hk : ∀ g, v.ownBlock = some g → w'.heap[g]? = w.heap[g]?) : OwnF w' B v l := by
  refine ⟨h.1, ?_⟩
  rcases h.2 with g | ⟨g, cap, cur, rfl, hb, hg, hc, hm, hs, ht⟩
  · exact Or.inl g
  · exact Or.inr ⟨g, cap, cur, rfl, hb, by rw [hk g rfl]; exact hg, hc, hm, hs, ht⟩
theorem OwnF.below {w w' : World} {B : Nat} {v : Value} {l : List Fl} (h : OwnF w B v l) (hb : Below w.heap.size w w') : OwnF w' B v l :=
  h.keep (fun g hg => hb.block g (h.lt g hg).2)
theorem OwnF.less {w : World} {B B' : Nat} {v : Value} {l : List Fl} (h : OwnF w B v l) (hb : B' ≤ B) : OwnF w B' v l := by
  refine ⟨h.1, ?_⟩
  rcases h.2 with g | ⟨g, cap, cur, e, h1, h2⟩
  · exact Or.inl g
  · exact Or.inr ⟨g, cap, cur, e, Nat.le_trans hb h1, h2⟩
theorem OwnF.nil (w : World) (B : Nat) : OwnF w B (.slice none 0 0) [] := World.ownsRow_nil _ _ _ _

/-- A whole row: floors, then what lies behind them. -/
def RowF (w : World) (g : Nat) (tl : List Value) (d : List Fl) : Prop := ∃ cur, w.heap[g]? = some (.cells cur 61 (0, 0)) ∧ cur.toList = cellsF d ++ tl
theorem RowF.lt {w : World} {g : Nat} {tl : List Value} {d : List Fl} (h : RowF w g tl d) : g < w.heap.size := by
  obtain ⟨cur, h1, _⟩ := h
  exact row_lt h1
theorem RowF.keep {w w' : World} {g : Nat} {tl : List Value} {d : List Fl} (h : RowF w g tl d) (hb : w'.heap[g]? = w.heap[g]?) : RowF w' g tl d := by
  obtain ⟨cur, h1, h2⟩ := h
  exact ⟨cur, by rw [hb]; exact h1, h2⟩
theorem RowF.cell {w : World} {g : Nat} {tl : List Value} {d : List Fl} (h : RowF w g tl d) (i : Nat) (hi : i < d.length) : w.cell? ⟨g, i * 2, none⟩ = some (.string d[i].who) ∧ w.cell? ⟨g, i * 2 + 1, none⟩ = some (.int .i64 d[i].ep) := by
  obtain ⟨cur, h1, h2⟩ := h
  rw [cell_of_row w g (i * 2) cur _ _ h1, cell_of_row w g (i * 2 + 1) cur _ _ h1]
  have e : ∀ j : Nat, cur[j]? = (cellsF d ++ tl)[j]? := fun j => by rw [← h2, Array.getElem?_toList]
  rw [e, e, List.getElem?_append_left (by rw [cellsF_len]; omega), List.getElem?_append_left (by rw [cellsF_len]; omega)]
  exact ⟨cellsF_who d i hi, cellsF_ep d i hi⟩
theorem RowF.frozen {w : World} {g : Nat} {tl : List Value} {d : List Fl} (h : RowF w g tl d) (j : Nat) : w.frozen? ⟨g, j, none⟩ = false := by
  obtain ⟨cur, h1, _⟩ := h
  exact frozen_of_row w g j cur _ h1
theorem cellsF_set : ∀ (d : List Fl) (i : Nat) (f : Fl), i < d.length → ((cellsF d).set (i * 2) (.string f.who)).set (i * 2 + 1) (.int .i64 f.ep) = cellsF (d.set i f)
  | a :: d, 0, f, _ => rfl
  | a :: d, i + 1, f, hi => by
    have ih := cellsF_set d i f (by simpa using hi)
    rw [cellsF_cons, List.set_cons_succ, cellsF_cons, show (i + 1) * 2 = i * 2 + 1 + 1 by omega, List.set_cons_succ, List.set_cons_succ, List.set_cons_succ, List.set_cons_succ, ih]
/-- A floor written into a row. -/
theorem RowF.set {w : World} {g : Nat} {tl : List Value} {d : List Fl} (h : RowF w g tl d) (i : Nat) (hi : i < d.length) (f : Fl) : RowF ((w.setCell ⟨g, i * 2, none⟩ (.string f.who)).setCell ⟨g, i * 2 + 1, none⟩ (.int .i64 f.ep)) g tl (d.set i f) := by
  obtain ⟨cur, h1, h2⟩ := h
  refine ⟨(cur.setIfInBounds (i * 2) (.string f.who)).setIfInBounds (i * 2 + 1) (.int .i64 f.ep), heap_setCell_same _ g _ _ _ _ (heap_setCell_same w g _ cur _ _ h1), ?_⟩
  rw [Array.toList_setIfInBounds, Array.toList_setIfInBounds, h2, List.set_append_left _ _ (by rw [cellsF_len]; omega), List.set_append_left _ _ (by rw [List.length_set, cellsF_len]; omega), cellsF_set d i f hi]
/-- A beginning of a row is a row of one's own. -/
theorem RowF.own {w : World} {B g cap : Nat} {tl : List Value} {d : List Fl} (h : RowF w g tl d) (hB : B ≤ g) (hc : d.length * 2 + tl.length = cap * 2) (hm : cap ≤ maxLen) (i : Nat) (hi : i ≤ d.length) : OwnF w B (.slice (some ⟨g, 0, none⟩) i cap) (d.take i) := by
  obtain ⟨cur, h1, h2⟩ := h
  have hl : (d.take i).length = i := by rw [List.length_take]; omega
  refine ⟨by rw [cellsF_len], Or.inr ⟨g, cap, cur, by rw [hl], hB, h1, by rw [hl]; omega, hm, ?_, ?_⟩⟩
  · have := congrArg List.length h2
    rw [List.length_append, cellsF_len, Array.length_toList] at this
    omega
  · rw [h2, hl, cellsF_take, List.take_append_of_le_length (by rw [cellsF_len]; omega)]
theorem OwnF.row {w : World} {B : Nat} {v : Value} {l : List Fl} (h : OwnF w B v l) (hn : 0 < l.length) : ∃ g cap tl, v = .slice (some ⟨g, 0, none⟩) l.length cap ∧ B ≤ g ∧ RowF w g tl l ∧ l.length * 2 + tl.length = cap * 2 ∧ l.length ≤ cap ∧ cap ≤ maxLen := by
  rcases h.2 with ⟨rfl, h0⟩ | ⟨g, cap, cur, rfl, hb, hg, hc, hm, hs, ht⟩
  · omega
  · refine ⟨g, cap, cur.toList.drop (l.length * 2), rfl, hb, ⟨cur, hg, ?_⟩, ?_, hc, hm⟩
    · rw [← ht, List.take_append_drop]
    · rw [List.length_drop, show cur.toList.length = cap * 2 from hs]; omega
theorem kept_split (l : List Fl) (f : Fl) (j : Nat) (hj : j < l.length) : (l.take (j + 1)).filter (fun o => !goesF f o) = (l.take j).filter (fun o => !goesF f o) ++ (if goesF f l[j] = true then [] else [l[j]]) := by
  rw [List.take_succ_eq_append_getElem hj, List.filter_append]
  cases h : goesF f l[j] <;> simp [h]
theorem kept_none (l : List Fl) (f : Fl) (h : ∀ j (hj : j < l.length), goesF f l[j] = false) : keptF l f = l := by
  unfold keptF
  rw [List.filter_eq_self]
  intro o ho
  obtain ⟨j, hj, rfl⟩ := List.getElem_of_mem ho
  simp [h j hj]
theorem kept_first (l : List Fl) (f : Fl) (k : Nat) (hk : k < l.length) (h : goesF f l[k] = true) (hb : ∀ j (hj : j < l.length), j < k → goesF f l[j] = false) : (l.take (k + 1)).filter (fun o => !goesF f o) = l.take k := by
  rw [kept_split l f k hk, if_pos h, List.append_nil]
  refine kept_none (l.take k) f (fun j hj => ?_)
  rw [List.getElem_take]
  rw [List.length_take] at hj
  exact hb j (by omega) (by omega)
/-- What a round of DeleteFunc leaves: i floors that are kept of the first j, and those from j on. -/
structure KeptTo (l : List Fl) (f : Fl) (j i : Nat) (d : List Fl) : Prop where
  len : d.length = l.length
  lt : i < j
  head : d.take i = (l.take j).filter (fun o => !goesF f o)
  rest : d.drop j = l.drop j
theorem KeptTo.at {l : List Fl} {f : Fl} {j i : Nat} {d : List Fl} (h : KeptTo l f j i d) (hj : j < l.length) : d[j]'(by rw [h.len]; exact hj) = l[j] := by
  have e := congrArg (fun x => x[0]?) h.rest
  simp only [List.getElem?_drop, Nat.add_zero] at e
  rw [List.getElem?_eq_getElem hj, List.getElem?_eq_getElem (by rw [h.len]; exact hj)] at e
  exact Option.some.inj e
theorem KeptTo.skip {l : List Fl} {f : Fl} {j i : Nat} {d : List Fl} (h : KeptTo l f j i d) (hj : j < l.length) (hg : goesF f l[j] = true) : KeptTo l f (j + 1) i d where
  len := h.len
  lt := by have := h.lt; omega
  head := by rw [kept_split l f j hj, if_pos hg, List.append_nil]; exact h.head
  rest := by
    have e := congrArg (fun x => x.drop 1) h.rest
    simpa [List.drop_drop] using e
theorem KeptTo.keep {l : List Fl} {f : Fl} {j i : Nat} {d : List Fl} (h : KeptTo l f j i d) (hj : j < l.length) (hg : goesF f l[j] = false) : KeptTo l f (j + 1) (i + 1) (d.set i l[j]) where
  len := by rw [List.length_set]; exact h.len
  lt := by have := h.lt; omega
  head := by
    have h1 := h.lt
    have h2 := h.len
    rw [kept_split l f j hj, hg, ← h.head, List.take_succ_eq_append_getElem (by rw [List.length_set]; omega), List.getElem_set_self, List.take_set_of_le (Nat.le_refl _)]
    rfl
  rest := by
    have h1 := h.lt
    rw [List.drop_set_of_lt (by omega)]
    have e := congrArg (fun x => x.drop 1) h.rest
    simpa [List.drop_drop] using e
end Go.Proofs.YteabincmopeljaeGreatDoor

namespace Go.Proofs.YteabincmopeljaeGreatDoor
open Go.RowKit Go.Extern.Stop Go.Stop Go.Extern Go.Proofs

theorem Tryz.zeroFloor (w : World) : (zeroValue 61).run Tryz.prog w = .ok (.agg #[.string ByteArray.empty, .int .i64 0]) w := by kernel_rfl
theorem grownBy_trans {a b c : World} {row : Option Nat} (h : a.grownBy b row) (k : b.grownBy c row) : a.grownBy c row :=
  ⟨k.os.trans h.os, k.tape.trans h.tape, k.output.trans h.output, Nat.le_trans h.size k.size, fun i hi hn => (k.block i (Nat.lt_of_lt_of_le hi h.size) hn).trans (h.block i hi hn)⟩
theorem grownBy_refl (w : World) (row : Option Nat) : w.grownBy w row := ⟨rfl, rfl, rfl, Nat.le_refl _, fun _ _ _ => rfl⟩
theorem grownBy_of {w w' : World} (h : Below w.heap.size w w') (row : Option Nat) : w.grownBy w' row := ⟨h.os, h.tape, h.output, h.size, fun k hk _ => h.block k hk⟩
theorem grownBy_set (w : World) (g o : Nat) (u : Value) : w.grownBy (w.setCell ⟨g, o, none⟩ u) (some g) :=
  ⟨rfl, rfl, rfl, by simp, fun k _ hk => heap_setCell_other w ⟨g, o, none⟩ k u (fun e => hk (by rw [e]))⟩
theorem grownBy_setRow {w : World} {g : Nat} (cs : Array Value) : w.grownBy (w.setRow g cs) (some g) :=
  ⟨rfl, rfl, rfl, by simp, fun k _ hk => setRow_other w g k cs (fun e => hk (by rw [e]))⟩

theorem zeros_len (n : Nat) : (Builtin.zeroCells (Value.agg #[.string ByteArray.empty, .int .i64 0]).cells n).toList.length = n * 2 := by
  simp [Builtin.zeroCells, Value.cells]
theorem zeros_one (n : Nat) : ∀ v ∈ (Builtin.zeroCells (Value.agg #[.string ByteArray.empty, .int .i64 0]).cells n).toList, v.oneCell' = true := by
  intro v hv
  simp only [Builtin.zeroCells, Value.cells, Array.toList_map, List.mem_map] at hv
  obtain ⟨i, _, rfl⟩ := hv
  have h2 : i % 2 < 2 := Nat.mod_lt _ (by decide)
  rcases Nat.lt_or_ge (i % 2) 1 with g | g
  · have e : i % 2 = 0 := by omega
    show (#[Value.string ByteArray.empty, Value.int .i64 0][i % 2]!).oneCell' = true
    rw [e]; rfl
  · have e : i % 2 = 1 := by omega
    show (#[Value.string ByteArray.empty, Value.int .i64 0][i % 2]!).oneCell' = true
    rw [e]; rfl

end Go.Proofs.YteabincmopeljaeGreatDoor

namespace Go.Proofs.YteabincmopeljaeGreatDoor
open Go.RowKit Go.Extern.Stop Go.Stop Go.Extern Go.Proofs

theorem Tryz.infoFloor : (Tryz.prog.info? 61).map (fun i => (i.zero, i.size, i.bytes)) = some (some (.agg #[.string ByteArray.empty, .int .i64 0]), 2, 24) := by kernel_rfl
theorem Tryz.sizeFloor : (Tryz.prog.info? 61).map (·.size) = some 2 := by kernel_rfl

theorem copyF (w : World) (g o dLen : Nat) (a : Addr) (sLen : Nat) (cur : Array Value) (cs : List Value) (hg : w.heap[g]? = some (.cells cur 61 (0, 0))) (hn : cs.length = Nat.min sLen dLen * 2)
    (hsrc : ∀ j v, cs[j]? = some v → w.cell? (a.add j) = some v) (hfit : o + cs.length ≤ cur.size) (h1 : ∀ v ∈ cs, v.oneCell' = true) :
    ∃ W, (∀ ty dc sc, (Builtin.copy_ #[33, 33] ty #[.slice (some ⟨g, o, none⟩) dLen dc, .slice (some a) sLen sc]).run Tryz.prog w = .ok (goInt (Nat.min sLen dLen)) W) ∧
      W.heap[g]? = some (.cells (cur.toList.take o ++ cs ++ cur.toList.drop (o + cs.length)).toArray 61 (0, 0)) ∧ w.grownBy W (some g) :=
  ⟨_, fun ty dc sc => run_copy_rowK w _ _ ty _ 2 g o dLen dc a sLen sc cur _ cs Tryz.underlying33 Tryz.sizeFloor hg hn hsrc hfit h1, setRow_heap w g cur _ _ _ hg, grownBy_setRow _⟩
theorem grownBy_drew (w : World) (row : Option Nat) : w.grownBy w.drew row := ⟨rfl, rfl, rfl, Nat.le_refl _, fun _ _ _ => rfl⟩
theorem below_of_grown {w w' : World} {B g : Nat} (h : w.grownBy w' (some g)) (hw : B ≤ w.heap.size) (hg : B ≤ g) : Below B w w' :=
  ⟨h.os, h.tape, h.output, h.size, fun k hk => h.block k (by omega) (fun e => by injection e with e; omega)⟩
theorem shape_row {w : World} {b : Nat} {cs : Array Value} {t : TypeId} (h : w.heap[b]? = some (.cells cs t (0, 0))) : w.shape? b = some (t, cs.size) := by simp [World.shape?, h]
theorem cells_src {w : World} {vb : Nat} {f : Fl} (h : w.heap[vb]? = some (flO f)) : ∀ j v, f.cells[j]? = some v → w.cell? ((⟨vb, 0, none⟩ : Addr).add j) = some v := fun j v hj => by
  rw [Addr.add_lit, Nat.zero_add, cell_of_row w vb j _ _ _ h]
  have : (#[Value.string f.who, Value.int .i64 f.ep] : Array Value)[j]? = f.cells[j]? := by rw [← Array.getElem?_toList]; rfl
  rw [this]; exact hj
theorem cells_oneF (f : Fl) : ∀ v ∈ f.cells, v.oneCell' = true := by
  intro v hv
  simp only [Fl.cells, List.mem_cons, List.not_mem_nil, or_false] at hv
  rcases hv with rfl | rfl <;> rfl

end Go.Proofs.YteabincmopeljaeGreatDoor

namespace Go.Proofs.YteabincmopeljaeGreatDoor
open Go.RowKit Go.Extern.Stop Go.Stop Go.Extern Go.Proofs

theorem seg_take {α : Type} (l cs : List α) (o : Nat) (h : o ≤ l.length) (t : List α) : (l.take o ++ cs ++ t).take o = l.take o := by
  rw [List.append_assoc, List.take_append_of_le_length (by rw [List.length_take]; omega), List.take_take, Nat.min_self]
theorem own_mid {w : World} {B g cap n i : Nat} {cur : Array Value} {k : List Fl} {f : Fl} {tl : List Value} (hg : w.heap[g]? = some (.cells cur 61 (0, 0))) (hB : B ≤ g) (hn : k.length = n) (hi : i ≤ n) (hc : n + 1 ≤ cap) (hm : cap ≤ maxLen) (hs : cur.size = cap * 2)
    (ht : cur.toList = cellsF (k.take i) ++ f.cells ++ cellsF (k.drop i) ++ tl) : OwnF w B (.slice (some ⟨g, 0, none⟩) (n + 1) cap) (k.take i ++ f :: k.drop i) := by
  have hl : (k.take i ++ f :: k.drop i).length = n + 1 := by rw [List.length_append, List.length_take, List.length_cons, List.length_drop]; omega
  have he : cellsF (k.take i ++ f :: k.drop i) = cellsF (k.take i) ++ f.cells ++ cellsF (k.drop i) := by rw [cellsF_append, List.append_assoc]; rfl
  refine ⟨by rw [cellsF_len], Or.inr ⟨g, cap, cur, by rw [hl], hB, hg, by rw [hl]; omega, hm, hs, ?_⟩⟩
  rw [hl, ht, ← he, List.take_append_of_le_length (by rw [cellsF_len, hl]; omega), List.take_of_length_le (by rw [cellsF_len, hl]; omega)]

theorem grown_new {w W : World} {row : Array Value} {t : TypeId} (h : W = w.drew.alloc (.cells row t)) : W.heap[w.heap.size]? = some (.cells row t (0, 0)) ∧ w.grownBy W none ∧ W.heap.size = w.heap.size + 1 := by
  subst h
  exact ⟨heap_alloc_new w.drew _, ⟨rfl, rfl, rfl, by simp, fun k hk _ => Below.heap_alloc w.drew _ k hk⟩, by simp⟩

end Go.Proofs.YteabincmopeljaeGreatDoor

namespace Go.Proofs.YteabincmopeljaeGreatDoor
open Go.RowKit Go.Extern.Stop Go.Stop Go.Extern Go.Proofs

theorem own_ne {w : World} {B fb : Nat} {v : Value} {l : List Fl} (h : OwnF w B v l) (hw : w.heap.size ≤ fb) : v.ownBlock ≠ some fb := fun e => by
  have := (h.lt fb e).2
  omega

/-- What Raise gives: the error's number and place, and the list. -/
def raiseC (l : List Fl) (f : Fl) : Nat × Int := if (checkL l).1 = 0 then (if oneE f = 0 then checkL (raisedL l f) else (oneE f, -1)) else checkL l
def raiseR (l : List Fl) (f : Fl) : List Fl := if (raiseC l f).1 = 0 then raisedL l f else []
/-- A list in memory of one's own, and an error, by its number and place. -/
def ListPost (a : Nat → Addr) (c : Nat × Int) (r : List Fl) (B : Nat) (e : Ending) (w' : World) : Prop := ∃ v' ev, e = .returned (.tuple #[v', ev]) ∧ OwnF w' B v' r ∧ FlErr a w' c ev ∧ (c.1 ≠ 0 → v' = .slice none 0 0)
theorem FlErr.plain {a : Nat → Addr} {w : World} {c : Nat} (hc : c ≠ 0) : FlErr a w (c, -1) (eV (a (c - 1))) := Or.inr (Or.inl ⟨hc, rfl, rfl⟩)
theorem small_raised {l : List Fl} {f : Fl} (h : ∀ g ∈ l, g.who.size ≤ maxLen) (hf : f.who.size ≤ maxLen) : ∀ g ∈ raisedL l f, g.who.size ≤ maxLen := by
  intro g hg
  unfold raisedL at hg
  split at hg
  · exact h g hg
  · rcases mem_putF.1 hg with e | e
    · rw [e]; exact hf
    · exact h g (mem_keptF.1 e).1
theorem len_raised (l : List Fl) (f : Fl) : (raisedL l f).length ≤ l.length + 1 := by
  unfold raisedL
  split
  · omega
  · unfold putF
    have := List.length_filter_le (fun o => !goesF f o) l
    have e : (keptF l f).length = (l.filter (fun o => !goesF f o)).length := rfl
    rw [List.length_append, List.length_take, List.length_cons, List.length_drop]
    omega

end Go.Proofs.YteabincmopeljaeGreatDoor

namespace Go.Proofs.YteabincmopeljaeGreatDoor
open Go.RowKit Go.Extern.Stop Go.Stop Go.Extern Go.Proofs

/-- Too many, or too long. -/
def longF (l : List Fl) : Bool := decide (25 < l.length) || l.any (fun f => decide (20 < f.who.size))
theorem longF_no {l : List Fl} (h : longF l = false) : l.length ≤ 25 ∧ ∀ f ∈ l, f.who.size ≤ 20 := by
  unfold longF at h
  simp only [Bool.or_eq_false_iff, decide_eq_false_iff_not, Nat.not_lt, List.any_eq_false, decide_eq_true_eq] at h
  exact h

set_option maxRecDepth 100000 in
set_option maxHeartbeats 2000000 in
theorem longFloors_any (v : Value) (l : List Fl) (w : World) (hv : FlAt w v l) :
    Calls Tryz.prog 23 #[v] w fun e w' => e = .returned (.int .i64 (if longF l = true then 1 else 0)) ∧ w' = w := by
  obtain ⟨ad, cap, rfl, hc⟩ := hv.form
  have HV := hide hv
  by_cases h25 : 25 < l.length
  · rw [if_pos (by unfold longF; rw [decide_eq_true h25]; rfl)]
    generalize l.length = n at *
    have hz : (25 : Int) < (n : Int) := by omega
    clear hv
    go_enter Tryz.func23, Tryz.ntmps23
    go_wp2
    go_ret
    exact ⟨rfl, rfl⟩
  · have HQ : Hid (longF l = l.any (fun f => decide (20 < f.who.size))) := by show _ = _; unfold longF; rw [decide_eq_false h25]; rfl
    generalize hr : (if longF l = true then (1 : Int) else 0) = r
    have HR := hide hr
    generalize hn : l.length = n at *
    have HN := hide hn
    have hz : ¬ (25 : Int) < (n : Int) := by omega
    clear hv hr hn
    go_enter Tryz.func23, Tryz.ntmps23
    go_wp2
    go_loop [3] (fun i => ∃ k : Nat, k ≤ n ∧ i = .int .i64 k ∧ Hid (∀ j (hj : j < l.length), j < k → l[j].who.size ≤ 20)) (fun i => n - (intOf i).toNat)
    case atStart => exact ⟨0, Nat.zero_le _, rfl, fun j _ hj => absurd hj (Nat.not_lt_zero _)⟩
    case round =>
      obtain ⟨k, hk, rfl, A⟩ := hrel
      by_cases hlt : k < n
      · have hkl : k < l.length := by rw [HN.out]; exact hlt
        have hvr := HV.out
        rw [← HN.out] at hvr
        obtain ⟨b, off, cap', e, hc', hb, hcell⟩ := hvr.at (by omega)
        injection e with e1 e2 e3
        subst e1; subst e3
        obtain ⟨c0, c1⟩ := hcell k hkl
        have hltz : (k : Int) < (n : Int) := by omega
        by_cases h20 : 20 < (l[k]'hkl).who.size
        · have hr1 : r = 1 := by
            rw [← HR.out, if_pos]
            rw [HQ.out, List.any_eq_true]
            exact ⟨_, List.getElem_mem hkl, by simpa using h20⟩
          have HR1 := hide hr1
          clear hcell hvr hr1
          generalize (l[k]'hkl).who = who at c0 h20
          have h20z : (20 : Int) < (who.size : Int) := by omega
          go_wp2
          go_ret
          exact ⟨by rw [HR1.out]; rfl, rfl⟩
        · have H20 := hide (Nat.not_lt.1 h20)
          clear hcell hvr
          generalize (l[k]'hkl).who = who at c0 h20
          have h20z : ¬ (20 : Int) < (who.size : Int) := by omega
          go_wp2
          go_round
          case rel =>
            refine ⟨k + 1, by omega, by go_num, (show Hid _ from fun j hj hjk => ?_)⟩
            by_cases e : j = k
            · subst e; exact H20.out
            · exact A.out j hj (by omega)
          case measure => simp [intOf]; omega
      · obtain rfl : k = n := by omega
        have hltz : ¬ (k : Int) < (k : Int) := by omega
        have hr0 : r = 0 := by
          rw [← HR.out, if_neg]
          rw [HQ.out, Bool.not_eq_true, List.any_eq_false]
          intro f hf
          obtain ⟨j, hj, rfl⟩ := List.getElem_of_mem hf
          have := A.out j hj (by rw [← HN.out]; exact hj)
          simp only [decide_eq_true_eq]
          omega
        have HR0 := hide hr0
        clear hr0
        go_wp2
        go_ret
        exact ⟨by rw [HR0.out]; rfl, rfl⟩

/-- ann, bob and all. -/
abbrev fAnn : ByteArray := { data := #[97, 110, 110] }
abbrev fBob : ByteArray := { data := #[98, 111, 98] }
abbrev fAll : ByteArray := { data := #[42] }
theorem right_ann : RightF [⟨fAnn, 2⟩] where
  one f hf := by
    obtain rfl : f = ⟨fAnn, 2⟩ := by simpa using hf
    rfl
  rising := by simp
  above f hf := by
    obtain rfl : f = ⟨fAnn, 2⟩ := by simpa using hf
    exact Or.inr (by decide)
theorem raised_ann : raisedL [⟨fAnn, 2⟩] ⟨fAll, 3⟩ = [⟨fAll, 3⟩] := by rfl
theorem right_all : RightF [⟨fAll, 3⟩] := raised_ann ▸ right_raised right_ann (f := ⟨fAll, 3⟩) rfl
theorem raiseC_right {l : List Fl} {f : Fl} (h : RightF l) (hl : l.length ≤ 21) (hf : oneE f = 0) : raiseC l f = if 21 < (raisedL l f).length then (7, -1) else (0, -1) := by
  have h0 : checkL l = (0, -1) := by rw [check_right h, if_neg (by omega)]
  unfold raiseC
  rw [h0, if_pos rfl, if_pos hf, check_right (right_raised h hf)]
theorem raiseC_zero {l : List Fl} {f : Fl} (h : (raiseC l f).1 = 0) : RightF l ∧ oneE f = 0 ∧ RightF (raisedL l f) ∧ l.length ≤ 21 ∧ (raisedL l f).length ≤ 21 ∧ raiseR l f = raisedL l f := by
  have hR : raiseR l f = raisedL l f := if_pos h
  unfold raiseC at h
  split at h
  · rename_i h1
    split at h
    · rename_i h2
      exact ⟨(right_of_check h1).1, h2, (right_of_check h).1, (right_of_check h1).2, (right_of_check h).2, hR⟩
    · rename_i h2; exact absurd h h2
  · rename_i h1; exact absurd h h1
theorem raiseR_bad {l : List Fl} {f : Fl} (h : (raiseC l f).1 ≠ 0) : raiseR l f = [] := if_neg h

end Go.Proofs.YteabincmopeljaeGreatDoor

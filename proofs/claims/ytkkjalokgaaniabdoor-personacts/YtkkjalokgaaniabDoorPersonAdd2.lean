/-
  The document's answer's Add of a person who is not there yet: the person stands by names.
-/
import Derived.Test.YtkkjalokgaaniabDoorPersonAdd
import Derived.Laws.AppendOwnNone
namespace Go.Proofs.YtkkjalokgaaniabDoor
open Go.RowKit Go.Extern.Stop Go.Stop Go.Extern

/-- Whose name comes ahead. -/
def lessP (name : ByteArray) (p : Per) : Bool := Op.bytesLess p.name.toList name.toList
/-- Where a name goes, and people with one more. -/
def placeP (L : List Per) (name : ByteArray) : Nat := (L.takeWhile (lessP name)).length
def insertP (L : List Per) (p : Per) : List Per := L.take (placeP L p.name) ++ p :: L.drop (placeP L p.name)
theorem place_eq : ∀ (L : List Per) (name : ByteArray) (k : Nat), k ≤ L.length → (∀ j (hj : j < L.length), j < k → lessP name L[j] = true) → (∀ hk : k < L.length, lessP name L[k] = false) → placeP L name = k
  | [], name, k, hk, _, _ => by
    have : k = 0 := by simpa using hk
    subst this
    rfl
  | p :: L, name, 0, _, _, h2 => by
    have := h2 (by simp)
    unfold placeP
    rw [List.takeWhile_cons_of_neg (by simpa using this)]
    rfl
  | p :: L, name, k + 1, hk, h1, h2 => by
    have hp := h1 0 (by simp) (by omega)
    have ih := place_eq L name k (by simpa using hk) (fun j hj hjk => h1 (j + 1) (by simpa using hj) (by omega)) (fun hk2 => h2 (by simpa using hk2))
    unfold placeP at ih ⊢
    rw [List.takeWhile_cons_of_pos (by simpa using hp), List.length_cons, ih]
theorem cellsP_one (L : List Per) : ∀ u ∈ cellsP L, u.oneCell' = true := fun u hu => by
  obtain ⟨p, _, hp⟩ := List.mem_flatMap.1 hu
  exact cells_one p u hp

theorem own_mono {w : World} {base base' : Nat} {e : TypeId} {size : Nat} {v : Value} {n : Nat} {xs : List Value} (h : w.ownsRow base e size v n xs) (hb : base' ≤ base) : w.ownsRow base' e size v n xs := by
  refine ⟨h.1, ?_⟩
  rcases h.2 with g | ⟨g, cap, cur, rfl, hg, r⟩
  · exact Or.inl g
  · exact Or.inr ⟨g, cap, cur, rfl, Nat.le_trans hb hg, r⟩
/-- Behind an append onto a row of its own: where it lies, and that all else lies as it did. -/
theorem after_append {w0 w w' : World} {B bb : Nat} {v v' old : Value} {n : Nat} {xs : List Value} (hb0 : Below B w0 w) (hB : B ≤ w.heap.size) (hv : ∀ k, v.ownBlock = some k → B ≤ k) (hbb : bb < B) (hw0 : w0.heap[bb]? = some (.cells #[old] 37 (0, 0)))
    (hown : w'.ownsRow B 24 4 v' n xs) (hn : n ≠ 0) (hgrow : w.grownBy w' v.ownBlock) :
    ∃ g cap, v' = .slice (some ⟨g, 0, none⟩) n cap ∧ B ≤ g ∧ g < w'.heap.size ∧ w'.cell? ⟨bb, 0, none⟩ = some old ∧ w'.frozen? ⟨bb, 0, none⟩ = false ∧ Below B w0 w' := by
  have hb := hb0.grown hgrow hB hv
  have hrow : w'.heap[bb]? = some (.cells #[old] 37 (0, 0)) := by rw [hb.block bb hbb]; exact hw0
  rcases hown.2 with ⟨_, h0⟩ | ⟨g, cap, cur, rfl, hg, hgr, _⟩
  · exact absurd h0 hn
  · exact ⟨g, cap, rfl, hg, row_lt hgr, cell_of_row w' bb 0 _ _ _ hrow, frozen_of_row w' bb 0 _ _ hrow, hb⟩

/-- The new row stored into the book. -/
theorem close_add {B : Nat} {w w2 w3 : World} {bb g1 cap1 n : Nat} {old : Value} {L' : List Per} {xs : List Value} (hb1 : Below w.heap.size w w2) (hbb : bb < w.heap.size) (hrow : w2.heap[bb]? = some (.cells #[old] 37 (0, 0))) (hb3 : Below w2.heap.size w2 w3) (hg : w2.heap.size ≤ g1)
    (hown : w3.ownsRow w2.heap.size 24 4 (.slice (some ⟨g1, 0, none⟩) n cap1) n xs) (hn : n = L'.length) (hBw : B ≤ w.heap.size) (hxs : xs = cellsP L') :
    ∃ v', RefBookB B (w3.setCell ⟨bb, 0, none⟩ (.slice (some ⟨g1, 0, none⟩) n cap1)) bb v' L' ∧ (∀ g, v'.ownBlock = some g → w.heap.size ≤ g) ∧ Kept (fun k => k = bb) w (w3.setCell ⟨bb, 0, none⟩ (.slice (some ⟨g1, 0, none⟩) n cap1)) := by
  have hs1 := hb1.size
  have hbb2 : bb < w2.heap.size := Nat.lt_of_lt_of_le hbb hs1
  have hrow3 : w3.heap[bb]? = some (.cells #[old] 37 (0, 0)) := by rw [hb3.block bb hbb2]; exact hrow
  subst hn; subst hxs
  refine ⟨_, ⟨heap_setCell_same w3 bb 0 _ _ _ hrow3, own_mono (ownsRow_setCell_below hown hbb2 _) (by omega)⟩, fun g e => ?_, ?_⟩
  · have : g1 = g := by simpa [Value.ownBlock] using e
    omega
  · exact Kept.setCell (S := fun k => k = bb) (p := ⟨bb, 0, none⟩) ((Kept.of_below _ hb1).trans (Kept.of_below _ hb3)) rfl _

set_option maxRecDepth 100000 in
set_option maxHeartbeats 4000000 in
theorem refAdd_first {B : Nat} (bb : Nat) (name : ByteArray) (key : Int) (w : World) (hBw : B ≤ w.heap.size) (h : RefBookB B w bb (.slice none 0 0) []) (hs : name.size ≤ maxLen) (he : (newP name key).err = 0) :
    Calls Tryd.prog 13 #[.pointer (some ⟨bb, 0, none⟩), .string name, .int .i64 key] w fun e w' => e = .returned (.int .i64 0) ∧ ∃ v', RefBookB B w' bb v' (insertP [] (newP name key)) ∧ (∀ g, v'.ownBlock = some g → w.heap.size ≤ g) ∧ Kept (fun k => k = bb) w w' := by
  obtain ⟨i0, hi, hz0, hz1, hz2⟩ := info_parts Tryd.infoPerson
  have HP := hide (fun w => refPerson_any (newP name key) w hs)
  rw [he] at HP
  have HP2 : Hid (∀ w, Calls Tryd.prog 10 #[.agg #[.string name, .int .i64 key, .int .i64 1, .bool false]] w fun e w' => e = .returned (.int .i64 0) ∧ Below w.heap.size w w') := HP.out
  have HF : Hid (∀ w, RefBook w bb [] → Calls Tryd.prog 21 #[.pointer (some ⟨bb, 0, none⟩), .string name] w fun e w' => e = .returned (.int .i64 (-1)) ∧ w' = w) := fun w h => refFind_any bb [] name w h (by decide)
  have HB0 : Hid (Below w.heap.size w (w.alloc (.cells #[.string name, .int .i64 key, .int .i64 1, .bool false] 24))) := (Below.refl _ _).alloc (Nat.le_refl _) _
  have hcp : (w.alloc (.cells #[.string name, .int .i64 key, .int .i64 1, .bool false] 24)).heap[w.heap.size]? = some (.cells #[.string name, .int .i64 key, .int .i64 1, .bool false] 24 (0, 0)) := heap_alloc_new _ _
  have HCp := hide hcp
  have HB := hide h
  have HBb := hide (row_lt h.1)
  clear h he HP hcp
  go_enter Tryd.func13, Tryd.ntmps13
  go_wp2_with fail
  refine (HP2.out _).mono ?_
  rintro e w1 ⟨rfl, hb⟩
  have HB1 : Hid (Below w.heap.size w w1) := HB0.out.trans (hb.mono HB0.out.size)
  have HK1 := hide (HB.out.below HB1.out)
  have HC1 : Hid (w1.heap[w.heap.size]? = some (.cells #[.string name, .int .i64 key, .int .i64 1, .bool false] 24 (0, 0))) := by show _ = _; rw [hb.block _ (by simp)]; exact HCp.out
  clear hb HCp
  go_wp2_with fail
  refine (HF.out _ HK1.out.book).mono ?_
  rintro e w2 ⟨rfl, rfl⟩
  have hcb : w2.cell? ⟨bb, 0, none⟩ = some (.slice none 0 0) := cell_of_row w2 bb 0 _ _ _ HK1.out.1
  have hc0 : w2.cell? ⟨w.heap.size, 0, none⟩ = some (.string name) := cell_of_row w2 _ 0 _ _ _ HC1.out
  have hc1 : w2.cell? ⟨w.heap.size, 1, none⟩ = some (.int .i64 key) := cell_of_row w2 _ 1 _ _ _ HC1.out
  have hc2 : w2.cell? ⟨w.heap.size, 2, none⟩ = some (.int .i64 1) := cell_of_row w2 _ 2 _ _ _ HC1.out
  have hc3 : w2.cell? ⟨w.heap.size, 3, none⟩ = some (.bool false) := cell_of_row w2 _ 3 _ _ _ HC1.out
  go_wp2
  go_loop [9] (fun i => i = .int .i64 0) (fun _ => 0)
  case atStart => exact rfl
  case round =>
    subst hrel
    have Hnew : Hid (∀ j u, (newP name key).cells[j]? = some u → (w2.alloc (.cells #[.string name, .int .i64 key, .int .i64 1, .bool false] 24)).cell? ((⟨w2.heap.size, 0, none⟩ : Addr).add j) = some u) := fun j u hj => by
      rw [Go.WideShapes.add_plain, World.cell?_alloc_at _ _ _ _ rfl, Nat.zero_add]
      match j, hj with
      | 0, hj => exact hj
      | 1, hj => exact hj
      | 2, hj => exact hj
      | 3, hj => exact hj
      | j + 4, hj => simp [Per.cells] at hj
    have HbB : Hid (w2.heap.size ≤ (w2.alloc (.cells #[.string name, .int .i64 key, .int .i64 1, .bool false] 24)).heap.size) := by
      show _ ≤ _
      simp
    have HA := hide (fun (v1 : Value) (w3 : World) hown hgrow => after_append (w0 := w2) (w := w2.alloc (.cells #[.string name, .int .i64 key, .int .i64 1, .bool false] 24)) (w' := w3) (B := w2.heap.size) (bb := bb) (v := .slice none 0 0) (v' := v1) (n := 0 + 1) (xs := [] ++ (newP name key).cells) ((Below.refl _ _).alloc (Nat.le_refl _) _) HbB.out (fun k hk => by cases hk) (row_lt HK1.out.1) HK1.out.1 hown (by decide) hgrow)
    go_wp2_with (first
      | (at_builtin; refine wpList_append_own _ rfl (.tmp 58) (.tmp 60) 35 rfl w2.heap.size 24 i0 _ 4 40 Tryd.underlying35 hi hz0 hz1 hz2 rfl (by decide) _ _ _ rfl (World.ownsRow_nil _ _ _ _) ⟨w2.heap.size, 0, none⟩ 1 1 (newP name key).cells rfl rfl Hnew.out (cells_one _) (by unfold maxLen; omega) (by omega) HbB.out ?_; intro v1 w3 hown hgrow hnn; obtain ⟨g1, cap1, rfl, hg1, hg2, hcb3, hfz3, hb3⟩ := HA.out v1 w3 hown hgrow; have HO := hide hown; have HB3 := hide hb3; clear hown hgrow hnn hb3 HA)
      | (at_builtin; refine wpList_append_own_none rfl (.tmp 63) (.tmp 69) 35 rfl w2.heap.size 24 i0 4 Tryd.underlying35 hi _ _ _ rfl HO.out rfl ?_))
    go_ret
    exact ⟨rfl, close_add HB1.out HBb.out HK1.out.1 HB3.out hg1 HO.out rfl hBw rfl⟩

theorem cellsP_cut (L : List Per) (k : Nat) : cellsP L = cellsP (L.take k) ++ cellsP (L.drop k) := by rw [← cellsP_append, List.take_append_drop]
theorem cellsP_take (L : List Per) (k : Nat) (j : Nat) (u : Value) (h : (cellsP (L.take k))[j]? = some u) : (cellsP L)[j]? = some u := by
  obtain ⟨hj, _⟩ := List.getElem?_eq_some_iff.1 h
  rw [cellsP_cut L k, List.getElem?_append_left hj]
  exact h
theorem cellsP_drop (L : List Per) (k : Nat) (hk : k ≤ L.length) (j : Nat) (u : Value) (h : (cellsP (L.drop k))[j]? = some u) : (cellsP L)[k * 4 + j]? = some u := by
  have hl : (cellsP (L.take k)).length = k * 4 := by rw [cellsP_len, List.length_take]; omega
  rw [cellsP_cut L k, List.getElem?_append_right (by omega), hl, show k * 4 + j - k * 4 = j by omega]
  exact h
/-- The cells of people at a row. -/
theorem own_cells {w : World} {base g cap : Nat} {L : List Per} (h : w.ownsRow base 24 4 (.slice (some ⟨g, 0, none⟩) L.length cap) L.length (cellsP L)) (j : Nat) (u : Value) (hu : (cellsP L)[j]? = some u) : w.cell? ⟨g, j, none⟩ = some u := by
  have := h.cells (g := g) rfl j u hu
  rwa [Go.WideShapes.add_plain, Nat.zero_add] at this

/-- Behind an append in whose course nothing is asked of where the row lies. -/
theorem after_any {w0 w w' : World} {B bb pb : Nat} {v v' old x0 x1 x2 x3 : Value} {n : Nat} {xs : List Value} (hb0 : Below B w0 w) (hB : B ≤ w.heap.size) (hv : ∀ k, v.ownBlock = some k → B ≤ k) (hbb : bb < B) (hpb : pb < B) (hw0 : w0.heap[bb]? = some (.cells #[old] 37 (0, 0))) (hp0 : w0.heap[pb]? = some (.cells #[x0, x1, x2, x3] 24 (0, 0)))
    (hown : w'.ownsRow B 24 4 v' n xs) (hgrow : w.grownBy w' v.ownBlock) :
    Below B w0 w' ∧ (∀ k, v'.ownBlock = some k → B ≤ k) ∧ w'.cell? ⟨bb, 0, none⟩ = some old ∧ w'.frozen? ⟨bb, 0, none⟩ = false ∧ w'.cell? ⟨pb, 0, none⟩ = some x0 ∧ w'.cell? ⟨pb, 1, none⟩ = some x1 ∧ w'.cell? ⟨pb, 2, none⟩ = some x2 ∧ w'.cell? ⟨pb, 3, none⟩ = some x3 ∧ B ≤ w'.heap.size := by
  have hb := hb0.grown hgrow hB hv
  have hrow : w'.heap[bb]? = some (.cells #[old] 37 (0, 0)) := by rw [hb.block bb hbb]; exact hw0
  have hprow : w'.heap[pb]? = some (.cells #[x0, x1, x2, x3] 24 (0, 0)) := by rw [hb.block pb hpb]; exact hp0
  exact ⟨hb, fun k hk => (hown.lt k hk).1, cell_of_row w' bb 0 _ _ _ hrow, frozen_of_row w' bb 0 _ _ hrow, cell_of_row w' pb 0 _ _ _ hprow, cell_of_row w' pb 1 _ _ _ hprow, cell_of_row w' pb 2 _ _ _ hprow, cell_of_row w' pb 3 _ _ _ hprow, Nat.le_trans hB hgrow.size⟩
end Go.Proofs.YtkkjalokgaaniabDoor

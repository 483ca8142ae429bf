/-
  The library's Insert of one floor into a row of one's own: behind it the floor stands at its place; nothing else that was there is written.
  The library's Insert of one floor into the middle of a row of one's own: in place where there is room, else in a new row.
-/
import Derived.Test.YtabpnjchocgakaaGreatDoorFloorDelete
import Derived.Shelf.Spec.SlicesInsertGrow
import Derived.Deep.RegionLaw
namespace Go.Proofs.YtabpnjchocgakaaGreatDoor
open Go.RowKit Go.Extern.Stop Go.Stop Go.Extern Go.Proofs
theorem Tryz.infoFloor : (Tryz.prog.info? 112).map (fun i => (i.zero, i.size, i.bytes)) = some (some (.agg #[.string ByteArray.empty, .int .i64 0]), 2, 24) := by kernel_rfl
theorem Tryz.sizeFloor : (Tryz.prog.info? 112).map (·.size) = some 2 := by kernel_rfl
theorem copyF (w : World) (g o dLen : Nat) (a : Addr) (sLen : Nat) (cur : Array Value) (cs : List Value) (hg : w.heap[g]? = some (.cells cur 112 (0, 0))) (hn : cs.length = Nat.min sLen dLen * 2)
  (hsrc : ∀ j v, cs[j]? = some v → w.cell? (a.add j) = some v) (hfit : o + cs.length ≤ cur.size) (h1 : ∀ v ∈ cs, v.oneCell' = true) :
  ∃ W, (∀ ty dc sc, (Builtin.copy_ #[54, 54] ty #[.slice (some ⟨g, o, none⟩) dLen dc, .slice (some a) sLen sc]).run Tryz.prog w = .ok (goInt (Nat.min sLen dLen)) W) ∧
   W.heap[g]? = some (.cells (cur.toList.take o ++ cs ++ cur.toList.drop (o + cs.length)).toArray 112 (0, 0)) ∧ w.grownBy W (some g) :=
 ⟨_, fun ty dc sc => run_copy_rowK w _ _ ty _ 2 g o dLen dc a sLen sc cur _ cs Tryz.underlying54 Tryz.sizeFloor hg hn hsrc hfit h1, setRow_heap w g cur _ _ _ hg, grownBy_setRow _⟩
theorem grownBy_drew (w : World) (row : Option Nat) : w.grownBy w.drew row := ⟨rfl, rfl, rfl, Nat.le_refl _, fun _ _ _ => rfl⟩
theorem below_of_grown {w w' : World} {B g : Nat} (h : w.grownBy w' (some g)) (hw : B ≤ w.heap.size) (hg : B ≤ g) : Below B w w' :=
 ⟨h.os, h.tape, h.output, h.size, fun k hk => h.block k (by omega) (fun e => by injection e with e; omega)⟩
theorem shape_row {w : World} {b : Nat} {cs : Array Value} {t : TypeId} (h : w.heap[b]? = some (.cells cs t (0, 0))) : w.shape? b = some (t, cs.size) := by simp [World.shape?, h]
theorem cells_src {w : World} {vb : Nat} {f : Fl} (h : w.heap[vb]? = some (flO f)) : ∀ j v, f.cells[j]? = some v → w.cell? ((⟨vb, 0, none⟩ : Addr).add j) = some v := fun j v hj => by
 rw [Addr.add_lit, Nat.zero_add, cell_of_row w vb j _ _ _ h]
 have : (#[Value.string f.who, Value.int .i64 f.ep] : Array Value)[j]? = f.cells[j]? := by rw [← Array.getElem?_toList]; rfl
 rw [this]; exact hj
theorem cells_oneF (f : Fl) : ∀ v ∈ f.cells, v.oneCell' = true := by
 intro v hv
 simp only [Fl.cells, List.mem_cons, List.not_mem_nil, or_false] at hv
 rcases hv with rfl | rfl <;> rfl
set_option maxRecDepth 100000 in
set_option maxHeartbeats 4000000 in
theorem insert_end (B vb : Nat) (f : Fl) (v : Value) (k : List Fl) (w : World) (hf : w.heap[vb]? = some (flO f)) (hv : OwnF w B v k) (hB : B ≤ w.heap.size) (hl : k.length ≤ 1000000) :
  Calls Tryz.prog 161 #[v, .int .i64 k.length, .slice (some ⟨vb, 0, none⟩) 1 1] w fun e w' => ∃ v', e = .returned v' ∧ OwnF w' B v' (k ++ [f]) ∧ Below B w w' := by
 obtain ⟨i0, hi, hz0, hz1, hz2⟩ := info_parts Tryz.infoFloor
 have HS := hide (cells_src hf)
 have HV := hide hv
 have HEnd : Hid (∀ v' w', w'.ownsRow B 112 2 v' (k.length + 1) (cellsF k ++ f.cells) → w.grownBy w' v.ownBlock → OwnF w' B v' (k ++ [f]) ∧ Below B w w') := fun v' w' h1 h2 => by
  refine ⟨?_, (Below.refl B w).grown h2 hB (fun q hq => (hv.lt q hq).1)⟩
  have e1 : (k ++ [f]).length = k.length + 1 := by simp
  have e2 : cellsF (k ++ [f]) = cellsF k ++ f.cells := by rw [cellsF_append]; simp [cellsF]
  unfold OwnF
  rw [e1, e2]
  exact h1
 rcases hv.2 with ⟨rfl, h0⟩ | ⟨g, cap, cur, rfl, hb, hg, hc, hm, hs, ht⟩
 ·
  generalize hn : k.length = n at *
  subst h0
  go_enter Tryz.func161, Tryz.ntmps161
  go_wp2_with (at_builtin; refine wpList_append_own _ rfl _ _ 54 rfl B 112 i0 _ 2 24 Tryz.underlying54 hi hz0 hz1 hz2 rfl (by decide) _ _ _ rfl (by have := HV.out; unfold OwnF at this; rw [hn] at this; exact this) ⟨vb, 0, none⟩ 1 1 f.cells rfl rfl HS.out (cells_oneF f) (by unfold maxLen; omega) (by omega) hB ?_; intro v' w' hown hgrow hnn)
  go_wp2
  go_ret
  exact ⟨_, rfl, HEnd.out _ _ hown hgrow⟩
 ·
  generalize hn : k.length = n at *
  have hmz : (cap : Int) ≤ 9223372036854775807 := by unfold maxLen at hm; omega
  clear hg hs ht hf hv
  rcases Nat.eq_or_lt_of_le hc with hck | hck
  ·
   subst hck
   go_enter Tryz.func161, Tryz.ntmps161
   go_wp2_with (at_builtin; refine wpList_append_own _ rfl _ _ 54 rfl B 112 i0 _ 2 24 Tryz.underlying54 hi hz0 hz1 hz2 rfl (by decide) _ _ _ rfl (by have := HV.out; unfold OwnF at this; rw [hn] at this; exact this) ⟨vb, 0, none⟩ 1 1 f.cells rfl rfl HS.out (cells_oneF f) (by unfold maxLen; omega) (by omega) hB ?_; intro v' w' hown hgrow hnn)
   go_wp2
   go_ret
   exact ⟨_, rfl, HEnd.out _ _ hown hgrow⟩
  ·
   have hcn : ¬ cap = n := by omega
   go_enter Tryz.func161, Tryz.ntmps161
   go_wp2_with (at_builtin; refine wpList_append_own _ rfl _ _ 54 rfl B 112 i0 _ 2 24 Tryz.underlying54 hi hz0 hz1 hz2 rfl (by decide) _ _ _ rfl (by have := HV.out; unfold OwnF at this; rw [hn] at this; exact this) ⟨vb, 0, none⟩ 1 1 f.cells rfl rfl HS.out (cells_oneF f) (by unfold maxLen; omega) (by omega) hB ?_; intro v' w' hown hgrow hnn)
   go_wp2
   go_ret
   exact ⟨_, rfl, HEnd.out _ _ hown hgrow⟩
theorem own_mid {w : World} {B g cap n i : Nat} {cur : Array Value} {k : List Fl} {f : Fl} {tl : List Value} (hg : w.heap[g]? = some (.cells cur 112 (0, 0))) (hB : B ≤ g) (hn : k.length = n) (hi : i ≤ n) (hc : n + 1 ≤ cap) (hm : cap ≤ maxLen) (hs : cur.size = cap * 2)
  (ht : cur.toList = cellsF (k.take i) ++ f.cells ++ cellsF (k.drop i) ++ tl) : OwnF w B (.slice (some ⟨g, 0, none⟩) (n + 1) cap) (k.take i ++ f :: k.drop i) := by
 have hl : (k.take i ++ f :: k.drop i).length = n + 1 := by rw [List.length_append, List.length_take, List.length_cons, List.length_drop]; omega
 have he : cellsF (k.take i ++ f :: k.drop i) = cellsF (k.take i) ++ f.cells ++ cellsF (k.drop i) := by rw [cellsF_append, List.append_assoc]; rfl
 refine ⟨by rw [cellsF_len], Or.inr ⟨g, cap, cur, by rw [hl], hB, hg, by rw [hl]; omega, hm, hs, ?_⟩⟩
 rw [hl, ht, ← he, List.take_append_of_le_length (by rw [cellsF_len, hl]; omega), List.take_of_length_le (by rw [cellsF_len, hl]; omega)]
set_option maxRecDepth 100000 in
set_option maxHeartbeats 8000000 in
theorem insert_shift (B vb i : Nat) (f : Fl) (g cap : Nat) (tl : List Value) (k : List Fl) (w : World) (hf : w.heap[vb]? = some (flO f)) (hrow : RowF w g tl k) (hBg : B ≤ g) (htl : k.length * 2 + tl.length = cap * 2) (hmax : cap ≤ maxLen) (hne : g ≠ vb) (hB : B ≤ w.heap.size) (hl : k.length ≤ 1000000) (hi : i < k.length) (hroom : k.length + 1 ≤ cap) :
  Calls Tryz.prog 161 #[.slice (some ⟨g, 0, none⟩) k.length cap, .int .i64 i, .slice (some ⟨vb, 0, none⟩) 1 1] w fun e w' => ∃ v', e = .returned v' ∧ OwnF w' B v' (k.take i ++ f :: k.drop i) ∧ Below B w w' := by
 obtain ⟨cur, hc1, hc2⟩ := hrow
 have hcs : cur.size = cap * 2 := by
  have := congrArg List.length hc2
  rw [List.length_append, cellsF_len, Array.length_toList] at this
  omega
 have hlen : cur.toList.length = cap * 2 := hcs
 have hov : ∀ lb cb, (callFunc 202 #[.slice (some ⟨vb, 0, none⟩) 1 1, .slice (some ⟨g, (i + 1) * 2, none⟩) lb cb]).run Tryz.prog w = .ok (.value (.bool false)) w := fun lb cb => by
  rw [run_callFunc_extern Tryz.func202 (by kernel_rfl) (by kernel_rfl) (by kernel_rfl) (e := Extern.SlicesOverlaps.overlaps #[54, 54] #[4]) (by kernel_rfl),
   Lib.run_overlaps_apart w 54 4 112 Tryz.underlying54 2 Tryz.sizeOf112 ⟨vb, 0, none⟩ ⟨g, (i + 1) * 2, none⟩ 1 1 lb cb (Ne.symm hne) _ _ _ _ (shape_row hf) (shape_row hc1) (by omega) (frozen_of_row w vb 0 _ _ hf) (frozen_of_row w vb _ _ _ hf)]
  rfl
 have hdl : (cellsF (k.drop i)).length = (k.length - i) * 2 := by rw [cellsF_len, List.length_drop]
 obtain ⟨W1, hr1, hw1, hg1⟩ := copyF w.drew g ((i + 1) * 2) (k.length - i) ⟨g, i * 2, none⟩ (k.length + 1 - i) cur (cellsF (k.drop i)) hc1 (by rw [hdl]; congr 1; show _ = min _ _; omega)
  (fun j u hu => by
   show w.cell? _ = some u
   rw [Addr.add_lit, cell_of_row w g _ cur _ _ hc1]
   have e : cur[i * 2 + j]? = (cellsF k ++ tl)[i * 2 + j]? := by rw [← hc2, Array.getElem?_toList]
   rw [cellsF_drop, List.getElem?_drop] at hu
   rw [e, List.getElem?_append_left (List.getElem?_eq_some_iff.1 hu).1]
   exact hu) (by rw [hdl, hcs]; omega) (cellsF_one _)
 have hvb1 : W1.heap[vb]? = some (flO f) := by rw [hg1.block vb (row_lt hf) (by intro e; injection e with e; exact hne e.symm)]; exact hf
 have hfit : i * 2 + f.cells.length ≤ (cur.toList.take ((i + 1) * 2) ++ cellsF (k.drop i) ++ cur.toList.drop ((i + 1) * 2 + (cellsF (k.drop i)).length)).toArray.size := by
  rw [List.size_toArray, List.length_append, List.length_append, List.length_take, hlen]
  show i * 2 + 2 ≤ _
  omega
 obtain ⟨W2, hr2, hw2, hg2⟩ := copyF W1 g (i * 2) (k.length + 1 - i) ⟨vb, 0, none⟩ 1 _ f.cells hw1 (by rw [show Nat.min 1 (k.length + 1 - i) = 1 by show min _ _ = 1; omega]; rfl) (cells_src hvb1) hfit (cells_oneF f)
 have HEnd : Hid (OwnF W2 B (.slice (some ⟨g, 0, none⟩) (k.length + 1) cap) (k.take i ++ f :: k.drop i) ∧ Below B w W2) := by
  refine ⟨own_mid hw2 hBg rfl (by omega) hroom hmax ?_ (tl := cur.toList.drop ((i + 1) * 2 + (cellsF (k.drop i)).length)) ?_, below_of_grown (grownBy_trans (grownBy_drew w _) (grownBy_trans hg1 hg2)) hB hBg⟩
  ·
   rw [List.size_toArray]
   have hfc : f.cells.length = 2 := rfl
   have hln : (cur.toList.take ((i + 1) * 2) ++ cellsF (k.drop i) ++ cur.toList.drop ((i + 1) * 2 + (cellsF (k.drop i)).length)).length = cap * 2 := by
    rw [List.length_append, List.length_append, List.length_take, List.length_drop, hlen, hdl]
    omega
   rw [List.length_append, List.length_append, List.length_take, List.length_drop, hln, hfc]
   omega
  ·
   show _ ++ _ ++ _ = _
   rw [show f.cells.length = 2 from rfl]
   have e1 : (cur.toList.take ((i + 1) * 2) ++ cellsF (k.drop i) ++ cur.toList.drop ((i + 1) * 2 + (cellsF (k.drop i)).length)).take (i * 2) = cellsF (k.take i) := by
    rw [List.append_assoc, List.take_append_of_le_length (by rw [List.length_take, hlen]; omega), List.take_take, Nat.min_eq_left (by omega), hc2, List.take_append_of_le_length (by rw [cellsF_len]; omega), cellsF_take]
   have e2 : (cur.toList.take ((i + 1) * 2) ++ cellsF (k.drop i) ++ cur.toList.drop ((i + 1) * 2 + (cellsF (k.drop i)).length)).drop (i * 2 + 2) = cellsF (k.drop i) ++ cur.toList.drop ((i + 1) * 2 + (cellsF (k.drop i)).length) := by
    have h2 : (cur.toList.take ((i + 1) * 2)).length = i * 2 + 2 := by rw [List.length_take, hlen]; omega
    rw [List.append_assoc, ← h2, List.drop_left]
   rw [e1, e2]
   simp [List.append_assoc]
 clear hw1 hw2 hg1 hg2 hfit hvb1 hc1 hc2 hcs hlen hf htl hdl
 generalize k.take i ++ f :: k.drop i = res at *
 generalize k.length = n at *
 have hz2 : ¬ ((i : Int) = (n : Int)) := by omega
 have hw1 : IntKind.i64.wrap ((i : Int) + 1) = (i : Int) + 1 := by rw [IntKind.wrap_i64]; omega
 have hin : i ≤ n := by omega
 have hb1 : (0 : Int) ≤ (i : Int) + 1 := by omega
 have hb3 : (i : Int) ≤ (n : Int) + 1 := by omega
 have hmz : (cap : Int) ≤ 9223372036854775807 := by unfold maxLen at hmax; omega
 have hb2 : ¬ (cap = i + 1) := by omega
 have hb4 : ¬ (cap = i) := by omega
 have hroomz : (n : Int) + 1 ≤ (cap : Int) := by omega
 go_enter Tryz.func161, Tryz.ntmps161
 go_wp2_with (simp only [hov])
 go_region_law (refine step_copy_runI rfl _ _ 54 54 rfl _ _ (by simp [Act.eval, Act.put]) (by simp [Act.eval, Act.put]) (hr1 _ _ _) ?_)
 go_wp2_with (at_builtin; refine wpList_copy_runI _ rfl _ _ 54 54 rfl _ _ rfl rfl (hr2 _ _ _) ?_)
 go_ret
 exact ⟨_, rfl, HEnd.out⟩
theorem grown_new {w W : World} {row : Array Value} {t : TypeId} (h : W = w.drew.alloc (.cells row t)) : W.heap[w.heap.size]? = some (.cells row t (0, 0)) ∧ w.grownBy W none ∧ W.heap.size = w.heap.size + 1 := by
 subst h
 exact ⟨heap_alloc_new w.drew _, ⟨rfl, rfl, rfl, by simp, fun k hk _ => Below.heap_alloc w.drew _ k hk⟩, by simp⟩
set_option maxRecDepth 100000 in
set_option maxHeartbeats 8000000 in
theorem insert_grow (B vb i : Nat) (f : Fl) (g cap : Nat) (tl : List Value) (k : List Fl) (w : World) (hf : w.heap[vb]? = some (flO f)) (hrow : RowF w g tl k) (hB : B ≤ w.heap.size) (hl : k.length ≤ 1000000) (hi : i < k.length) (hcap : k.length = cap) :
  Calls Tryz.prog 161 #[.slice (some ⟨g, 0, none⟩) k.length cap, .int .i64 i, .slice (some ⟨vb, 0, none⟩) 1 1] w fun e w' => ∃ v', e = .returned v' ∧ OwnF w' B v' (k.take i ++ f :: k.drop i) ∧ Below B w w' := by
 obtain ⟨i0, hi0, hz0, hz1, hz2⟩ := info_parts Tryz.infoFloor
 have hgl := hrow.lt
 obtain ⟨cur, hc1, hc2⟩ := hrow
 have hsrc : ∀ j u, (cellsF k)[j]? = some u → w.cell? ⟨g, j, none⟩ = some u := fun j u hu => by
  rw [cell_of_row w g _ cur _ _ hc1]
  have e : cur[j]? = (cellsF k ++ tl)[j]? := by rw [← hc2, Array.getElem?_toList]
  rw [e, List.getElem?_append_left (List.getElem?_eq_some_iff.1 hu).1]
  exact hu
 have htl : (cellsF (k.take i)).length = i * 2 := by rw [cellsF_len, List.length_take]; omega
 have hold : (Builtin.firstCells i0.size i (.slice (some ⟨g, 0, none⟩) i cap)).run Tryz.prog w.drew = .ok (cellsF (k.take i)).toArray w.drew := by
  rw [hz1]
  refine run_firstCells_some w.drew 2 i ⟨g, 0, none⟩ i cap (cellsF (k.take i)) htl (fun j u hu => ?_)
  show w.cell? _ = some u
  rw [Addr.add_lit, Nat.zero_add]
  rw [cellsF_take, List.getElem?_take] at hu
  split at hu
  ·
   exact hsrc j u hu
  ·
   cases hu
 have hkk : (k.length : Int) + 1 - (i : Int) = ((k.length + 1 - i : Nat) : Int) := by omega
 have hik : i + (k.length + 1 - i) = k.length + 1 := by omega
 obtain ⟨G, hG⟩ : ∃ G, G = grownCap w (k.length + 1) cap 112 := ⟨_, rfl⟩
 obtain ⟨zs, hzs, hzl⟩ : ∃ zs : List Value, zs = (Builtin.zeroCells (Value.agg #[.string ByteArray.empty, .int .i64 0]).cells (k.length + 1 - i)).toList ++ (Builtin.zeroCells (Value.agg #[.string ByteArray.empty, .int .i64 0]).cells (G - (k.length + 1))).toList ∧ zs.length = (k.length + 1 - i) * 2 + (G - (k.length + 1)) * 2 := ⟨_, rfl, by rw [List.length_append, zeros_len, zeros_len]⟩
 obtain ⟨W1, hr1, hw1, hg1, hs1⟩ : ∃ W1, (∀ ty, (Builtin.append_ #[54, 3] ty #[.slice (some ⟨g, 0, none⟩) i cap, .int .i64 ((k.length : Int) + 1 - (i : Int))]).run Tryz.prog w = .ok (.slice (some ⟨w.heap.size, 0, none⟩) (k.length + 1) G) W1) ∧ W1.heap[w.heap.size]? = some (.cells (cellsF (k.take i) ++ zs).toArray 112 (0, 0)) ∧ w.grownBy W1 none ∧ W1.heap.size = w.heap.size + 1 := by
  have h := fun ty => Lib.run_append_grow_zeros w 54 3 ty 112 i0 _ .i64 .i64 Tryz.underlying54 Tryz.underlying3 hi0 hz0 (some ⟨g, 0, none⟩) i cap (cellsF (k.take i)) hold (k.length + 1 - i) (by omega) (by omega) (by omega) (by omega) (by rw [hz2]; omega) (by rw [hz2, hik]; exact growslice_fits (by omega) (by omega))
  rw [hik, ← hG] at h
  have hrow2 : ((cellsF (k.take i)).toArray ++ Builtin.zeroCells (Value.agg #[.string ByteArray.empty, .int .i64 0]).cells (k.length + 1 - i) ++ Builtin.zeroCells (Value.agg #[.string ByteArray.empty, .int .i64 0]).cells (G - (k.length + 1))) = (cellsF (k.take i) ++ zs).toArray := by
   apply Array.ext'
   rw [Array.toList_append, Array.toList_append, hzs, List.append_assoc]
  rw [hrow2] at h
  refine ⟨_, fun ty => by rw [hkk]; exact h ty, ?_⟩
  exact grown_new rfl
 have hGn : k.length + 1 ≤ G := by rw [hG]; exact grownCap_ge w _ _ _
 have hGm : G ≤ maxLen := by rw [hG]; exact grownCap_le_maxLen w _ _ _ (by unfold maxLen; omega)
 have hvb1 : W1.heap[vb]? = some (flO f) := by rw [hg1.block vb (row_lt hf) (by simp)]; exact hf
 have hfc : f.cells.length = 2 := rfl
 obtain ⟨W2, hr2, hw2, hg2⟩ := copyF W1 w.heap.size (i * 2) (k.length + 1 - i) ⟨vb, 0, none⟩ 1 _ f.cells hw1 (by rw [show Nat.min 1 (k.length + 1 - i) = 1 by show min _ _ = 1; omega]; rfl) (cells_src hvb1) (by rw [List.size_toArray, List.length_append, htl, hzl, hfc]; omega) (cells_oneF f)
 have hrow2 : (((cellsF (k.take i) ++ zs).toArray.toList.take (i * 2) ++ f.cells ++ (cellsF (k.take i) ++ zs).toArray.toList.drop (i * 2 + f.cells.length)).toArray) = (cellsF (k.take i) ++ f.cells ++ zs.drop 2).toArray := by
  congr 1
  show (cellsF (k.take i) ++ zs).take (i * 2) ++ f.cells ++ (cellsF (k.take i) ++ zs).drop (i * 2 + f.cells.length) = _
  rw [← htl, List.take_left, ← List.drop_drop, List.drop_left, hfc]
 rw [hrow2] at hw2
 have hdl : (cellsF (k.drop i)).length = (k.length - i) * 2 := by rw [cellsF_len, List.length_drop]
 have hg2b : W2.heap[g]? = w.heap[g]? := by rw [hg2.block g (by omega) (by intro e; injection e with e; omega), hg1.block g hgl (by simp)]
 obtain ⟨W3, hr3, hw3, hg3⟩ := copyF W2.drew w.heap.size ((i + 1) * 2) (k.length - i) ⟨g, i * 2, none⟩ (k.length - i) _ (cellsF (k.drop i)) hw2 (by rw [hdl]; congr 1; show _ = min _ _; omega)
  (fun j u hu => by
   show W2.cell? _ = some u
   rw [Addr.add_lit, World.cell?_of_block (w := w) (a := ⟨g, i * 2 + j, none⟩) hg2b]
   rw [cellsF_drop, List.getElem?_drop] at hu
   exact hsrc _ u hu) (by rw [List.size_toArray, List.length_append, List.length_append, htl, hfc, List.length_drop, hzl, hdl]; omega) (cellsF_one _)
 have HEnd : Hid (OwnF W3 B (.slice (some ⟨w.heap.size, 0, none⟩) (k.length + 1) G) (k.take i ++ f :: k.drop i) ∧ Below B w W3) := by
  refine ⟨own_mid hw3 hB rfl (by omega) hGn hGm ?_ (tl := (cellsF (k.take i) ++ f.cells ++ zs.drop 2).drop ((i + 1) * 2 + (cellsF (k.drop i)).length)) ?_, ?_⟩
  ·
   have hln : (cellsF (k.take i) ++ f.cells ++ zs.drop 2).toArray.toList.length = G * 2 := by
    show (cellsF (k.take i) ++ f.cells ++ zs.drop 2).length = _
    rw [List.length_append, List.length_append, htl, hfc, List.length_drop, hzl]
    omega
   rw [List.size_toArray, List.length_append, List.length_append, List.length_take, List.length_drop, hln, hdl]
   omega
  ·
   show (cellsF (k.take i) ++ f.cells ++ zs.drop 2).take ((i + 1) * 2) ++ cellsF (k.drop i) ++ (cellsF (k.take i) ++ f.cells ++ zs.drop 2).drop ((i + 1) * 2 + (cellsF (k.drop i)).length) = _
   have h2 : (cellsF (k.take i) ++ f.cells).length = (i + 1) * 2 := by rw [List.length_append, htl, hfc]; omega
   rw [← h2, List.take_left]
  ·
   exact ((Below.refl B w).trans (below_of_grown (g := w.heap.size) ⟨hg1.os, hg1.tape, hg1.output, hg1.size, fun q hq _ => hg1.block q hq (by simp)⟩ hB hB)).trans (below_of_grown (grownBy_trans hg2 (grownBy_trans (grownBy_drew W2 _) hg3)) (by omega) hB)
 clear hw1 hw2 hg1 hg2 hw3 hg3 hrow2 hvb1 hc1 hc2 hf htl hdl hold hsrc hik hkk hzs hzl hG hg2b hfc hgl hs1
 generalize k.take i ++ f :: k.drop i = res at *
 generalize k.length = n at *
 subst hcap
 generalize w.heap.size = nb at *
 have hz2 : ¬ ((i : Int) = (n : Int)) := by omega
 have hz3 : (n : Int) < (n : Int) + 1 := by omega
 have hw1 : IntKind.i64.wrap ((i : Int) + 1) = (i : Int) + 1 := by rw [IntKind.wrap_i64]; omega
 have hin : i ≤ n := by omega
 have hb1 : (0 : Int) ≤ (i : Int) + 1 := by omega
 have hb3 : (i : Int) ≤ (n : Int) + 1 := by omega
 have hmz : (G : Int) ≤ 9223372036854775807 := by unfold maxLen at hGm; omega
 have hGi : ¬ (G = i) := by omega
 have hGim : ¬ (G = i + 1) := by omega
 have hci : ¬ (n = i) := by omega
 have hb5 : (i : Int) ≤ (n : Int) := by omega
 go_enter Tryz.func161, Tryz.ntmps161
 go_wp2_with (first
  | (at_builtin; refine Lib.wpList_append_run _ rfl _ _ _ _ rfl _ _ rfl rfl _ _ (hr1 _) ?_)
  | (at_builtin; refine wpList_copy_runI _ rfl _ _ 54 54 rfl _ _ rfl rfl (hr2 _ _ _) ?_))
 go_region_law (refine step_copy_runI rfl _ _ 54 54 rfl _ _ (by simp [Act.eval, Act.put]) (by simp [Act.eval, Act.put]) (hr3 _ _ _) ?_)
 go_wp2
 go_ret
 exact ⟨_, rfl, HEnd.out⟩
theorem insert_any (B vb : Nat) (f : Fl) (v : Value) (k : List Fl) (w : World) (i : Nat) (hf : w.heap[vb]? = some (flO f)) (hv : OwnF w B v k) (hne : v.ownBlock ≠ some vb) (hB : B ≤ w.heap.size) (hl : k.length ≤ 1000000) (hi : i ≤ k.length) :
  Calls Tryz.prog 161 #[v, .int .i64 i, .slice (some ⟨vb, 0, none⟩) 1 1] w fun e w' => ∃ v', e = .returned v' ∧ OwnF w' B v' (k.take i ++ f :: k.drop i) ∧ Below B w w' := by
 rcases Nat.eq_or_lt_of_le hi with e | hlt
 ·
  subst e
  rw [List.take_length, List.drop_length]
  exact insert_end B vb f v k w hf hv hB hl
 ·
  obtain ⟨g, cap, tl, rfl, hBg, hrow, htl, hcap, hmax⟩ := hv.row (by omega)
  rcases Nat.eq_or_lt_of_le hcap with e | hlt2
  ·
   exact insert_grow B vb i f g cap tl k w hf hrow hB hl hlt e
  ·
   exact insert_shift B vb i f g cap tl k w hf hrow hBg htl hmax (fun e => hne (by rw [e]; rfl)) hB hl hlt hlt2
end Go.Proofs.YtabpnjchocgakaaGreatDoor

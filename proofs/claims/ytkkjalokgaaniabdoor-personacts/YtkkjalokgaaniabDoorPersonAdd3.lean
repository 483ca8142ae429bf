/-
  The document's answer's Add to a book that has people: the person stands by names; nothing else is written but the book's row.
-/
import Derived.Test.YtkkjalokgaaniabDoorPersonAdd2
namespace Go.Proofs.YtkkjalokgaaniabDoor
open Go.RowKit Go.Extern.Stop Go.Stop Go.Extern

theorem insert_cells (L : List Per) (p : Per) (k : Nat) (hk : placeP L p.name = k) : [] ++ cellsP (L.take k) ++ p.cells ++ cellsP (L.drop k) = cellsP (insertP L p) := by
  unfold insertP
  rw [hk, cellsP_append, List.nil_append, List.append_assoc]
  rfl
theorem insert_len (L : List Per) (p : Per) (n k : Nat) (hl : L.length = n) (hk : placeP L p.name = k) (hkn : k ≤ n) : k + 1 + (n - k) = (insertP L p).length := by
  unfold insertP
  rw [hk, List.length_append, List.length_take, List.length_cons, List.length_drop]
  omega
theorem own_block_lt {w : World} {base g cap : Nat} {L : List Per} (h : w.ownsRow base 24 4 (.slice (some ⟨g, 0, none⟩) L.length cap) L.length (cellsP L)) : g < w.heap.size := (h.lt g rfl).2

set_option maxRecDepth 100000 in
set_option maxHeartbeats 8000000 in
theorem refAdd_some {B : Nat} (bb g cap n : Nat) (L : List Per) (name : ByteArray) (key : Int) (w : World) (hBw : B ≤ w.heap.size) (h : RefBookB B w bb (.slice (some ⟨g, 0, none⟩) L.length cap) L) (hln : L.length = n) (h1 : 1 ≤ n) (hn : n < 20) (hs : name.size ≤ maxLen) (he : (newP name key).err = 0) (hf : findP L name = -1) :
    Calls Tryd.prog 13 #[.pointer (some ⟨bb, 0, none⟩), .string name, .int .i64 key] w fun e w' => e = .returned (.int .i64 0) ∧ ∃ v', RefBookB B w' bb v' (insertP L (newP name key)) ∧ (∀ g, v'.ownBlock = some g → w.heap.size ≤ g) ∧ Kept (fun k => k = bb) w w' := by
  obtain ⟨i0, hi, hz0, hz1, hz2⟩ := info_parts Tryd.infoPerson
  have HP := hide (fun w => refPerson_any (newP name key) w hs)
  rw [he] at HP
  have HP2 : Hid (∀ w, Calls Tryd.prog 10 #[.agg #[.string name, .int .i64 key, .int .i64 1, .bool false]] w fun e w' => e = .returned (.int .i64 0) ∧ Below w.heap.size w w') := HP.out
  have HF := hide (fun w h => refFind_any bb L name w h (by omega))
  rw [hf] at HF
  have HB0 : Hid (Below w.heap.size w (w.alloc (.cells #[.string name, .int .i64 key, .int .i64 1, .bool false] 24))) := (Below.refl _ _).alloc (Nat.le_refl _) _
  have HCp : Hid ((w.alloc (.cells #[.string name, .int .i64 key, .int .i64 1, .bool false] 24)).heap[w.heap.size]? = some (.cells #[.string name, .int .i64 key, .int .i64 1, .bool false] 24 (0, 0))) := heap_alloc_new _ _
  have HB := hide h
  have HBb := hide (row_lt h.1)
  have HLn := hide hln
  clear h he HP hln hf
  go_enter Tryd.func13, Tryd.ntmps13
  go_wp2_with fail
  refine (HP2.out _).mono ?_
  rintro e w1 ⟨rfl, hb⟩
  have HB1 : Hid (Below w.heap.size w w1) := HB0.out.trans (hb.mono HB0.out.size)
  have HK1 := hide (HB.out.below HB1.out)
  have HC1 : Hid (w1.heap[w.heap.size]? = some (.cells #[.string name, .int .i64 key, .int .i64 1, .bool false] 24 (0, 0))) := by show _ = _; rw [hb.block _ (by simp)]; exact HCp.out
  clear hb HCp HB0
  go_wp2_with fail
  refine (HF.out _ HK1.out.book).mono ?_
  rintro e w2 ⟨rfl, rfl⟩
  have hne : L ≠ [] := by intro e; have := HLn.out; rw [e] at this; simp at this; omega
  obtain ⟨g', cap', e', hcap, _, hcells⟩ := owned_at HK1.out.2 hne
  have hcap : n ≤ cap := by
    injection e' with _ _ e3
    have := HLn.out
    omega
  have HNm : Hid (∀ i (hi : i < L.length), w2.cell? ⟨g, i * 4, none⟩ = some (.string L[i].name)) := fun i hi => by
    injection e' with e1 _ _
    injection e1 with e1
    injection e1 with e1
    subst e1
    exact (hcells i hi).1
  have hcb : w2.cell? ⟨bb, 0, none⟩ = some (.slice (some ⟨g, 0, none⟩) n cap) := by rw [← HLn.out]; exact cell_of_row w2 bb 0 _ _ _ HK1.out.1
  have hrow2 : w2.heap[bb]? = some (.cells #[.slice (some ⟨g, 0, none⟩) n cap] 37 (0, 0)) := by rw [← HLn.out]; exact HK1.out.1
  have HR2 := hide hrow2
  have HPb : Hid (w.heap.size < w2.heap.size) := row_lt HC1.out
  have HBb2 : Hid (bb < w2.heap.size) := row_lt hrow2
  have hc0 : w2.cell? ⟨w.heap.size, 0, none⟩ = some (.string name) := cell_of_row w2 _ 0 _ _ _ HC1.out
  have hc1 : w2.cell? ⟨w.heap.size, 1, none⟩ = some (.int .i64 key) := cell_of_row w2 _ 1 _ _ _ HC1.out
  have hc2 : w2.cell? ⟨w.heap.size, 2, none⟩ = some (.int .i64 1) := cell_of_row w2 _ 2 _ _ _ HC1.out
  have hc3 : w2.cell? ⟨w.heap.size, 3, none⟩ = some (.bool false) := cell_of_row w2 _ 3 _ _ _ HC1.out
  clear e' hcells hne hrow2
  go_wp2
  go_loop [9] (fun i => ∃ k : Nat, k ≤ n ∧ i = .int .i64 k ∧ Hid (∀ j (hj : j < L.length), j < k → lessP name L[j] = true)) (fun i => n - (intOf i).toNat)
  case atStart => exact ⟨0, Nat.zero_le _, rfl, fun j _ hj => absurd hj (Nat.not_lt_zero _)⟩
  case round =>
    obtain ⟨k, hk, rfl, A⟩ := hrel
    by_cases hlt : k < n
    · have hkl : k < L.length := by rw [HLn.out]; exact hlt
      have hnm := HNm.out k hkl
      cases hls : lessP name L[k] with
      | true =>
        have HLs := hide hls
        have hq : Op.bytesLess L[k].name.toList name.toList = true := hls
        clear hls
        generalize L[k].name = y at hnm hq
        go_wp2
        go_round
        case rel =>
          refine ⟨k + 1, by omega, by go_num, (show Hid _ from fun j hj hjk => ?_)⟩
          by_cases e : j = k
          · subst e; exact HLs.out
          · exact A.out j hj (by omega)
        case measure => simp [intOf]; omega
      | false =>
        have HPl := hide (place_eq L name k (by omega) A.out (fun _ => hls))
        have hq : Op.bytesLess L[k].name.toList name.toList = false := hls
        clear hls
        generalize L[k].name = y at hnm hq
        have Hnew1 : Hid (∀ j u, (cellsP (L.take k))[j]? = some u → w2.cell? ((⟨g, 0, none⟩ : Addr).add j) = some u) := fun j u hj => by
          rw [Go.WideShapes.add_plain, Nat.zero_add]
          exact own_cells HK1.out.2 j u (cellsP_take L k j u hj)
        have Hl1 : Hid ((cellsP (L.take k)).length = k * 4) := by show _ = _; rw [cellsP_len, List.length_take, HLn.out]; omega
        have HA1 := hide (fun (v1 : Value) (w3 : World) hown hgrow => after_any (w0 := w2) (w := w2) (w' := w3) (B := w2.heap.size) (bb := bb) (pb := w.heap.size) (v := .slice none 0 0) (v' := v1) (n := 0 + k) (xs := [] ++ cellsP (L.take k)) (Below.refl _ _) (Nat.le_refl _) (fun k hk => by cases hk) HBb2.out HPb.out HR2.out HC1.out hown hgrow)
        have HA2 := hide (fun (v1 : Value) (w3 : World) (v2 : Value) (w4 : World) (hb3 : Below w2.heap.size w2 w3) hv1 hown hgrow => after_any (w0 := w2) (w := w3.alloc (.cells #[.string name, .int .i64 key, .int .i64 1, .bool false] 24)) (w' := w4) (B := w2.heap.size) (bb := bb) (pb := w.heap.size) (v := v1) (v' := v2) (n := 0 + k + 1) (xs := [] ++ cellsP (L.take k) ++ (newP name key).cells) (hb3.alloc hb3.size _) (Nat.le_trans hb3.size (by simp)) hv1 HBb2.out HPb.out HR2.out HC1.out hown hgrow)
        have Hnew3 : Hid (∀ w4, Below w2.heap.size w2 w4 → ∀ j u, (cellsP (L.drop k))[j]? = some u → w4.cell? ((⟨g, k * 4, none⟩ : Addr).add j) = some u) := fun w4 hb j u hj => by
          rw [Go.WideShapes.add_plain, hb.cell (p := ⟨g, k * 4 + j, none⟩) (own_block_lt HK1.out.2)]
          exact own_cells HK1.out.2 _ u (cellsP_drop L k (by rw [HLn.out]; omega) j u hj)
        have Hl3 : Hid ((cellsP (L.drop k)).length = (n - k) * 4) := by show _ = _; rw [cellsP_len, List.length_drop, HLn.out]
        have HA3 := hide (fun (v2 : Value) (w4 : World) (v3 : Value) (w5 : World) (hb4 : Below w2.heap.size w2 w4) hv2 hown hgrow => after_append (w0 := w2) (w := w4) (w' := w5) (B := w2.heap.size) (bb := bb) (v := v2) (v' := v3) (n := 0 + k + 1 + (n - k)) (xs := [] ++ cellsP (L.take k) ++ (newP name key).cells ++ cellsP (L.drop k)) hb4 hb4.size hv2 HBb2.out HR2.out hown (by omega) hgrow)
        clear hc0 hc1 hc2 hc3
        go_wp2_with (first
          | (at_builtin; refine wpList_append_own _ rfl (.tmp 50) (.tmp 56) 35 rfl w2.heap.size 24 i0 _ 4 40 Tryd.underlying35 hi hz0 hz1 hz2 rfl (by decide) _ _ _ rfl (World.ownsRow_nil _ _ _ _) ⟨g, 0, none⟩ k cap (cellsP (L.take k)) rfl Hl1.out Hnew1.out (cellsP_one _) (by unfold maxLen; omega) (by omega) (Nat.le_refl _) ?_; intro v1 w3 hown hgrow hnn; obtain ⟨hb3, hv1, hcb3, hfz3, hd0, hd1, hd2, hd3, hsz3⟩ := HA1.out v1 w3 hown hgrow; have HO1 := hide hown; have HB3 := hide hb3; have HV1 := hide hv1; clear hown hgrow hnn hb3 hv1 HA1)
          | (at_builtin; refine wpList_append_own _ rfl (.tmp 58) (.tmp 60) 35 rfl w2.heap.size 24 i0 _ 4 40 Tryd.underlying35 hi hz0 hz1 hz2 rfl (by decide) _ _ _ rfl (HO1.out.alloc _) ⟨w3.heap.size, 0, none⟩ 1 1 (newP name key).cells rfl rfl (new_cells w3 (newP name key)) (cells_one _) (by unfold maxLen; omega) (by omega) (Nat.le_trans HB3.out.size (by simp)) ?_; intro v2 w4 hown hgrow hnn; obtain ⟨hb4, hv2, hcb4, hfz4, he0, he1, he2, he3, hsz4⟩ := HA2.out v1 w3 v2 w4 HB3.out HV1.out hown hgrow; have HO2 := hide hown; have HB4 := hide hb4; have HV2 := hide hv2; clear hown hgrow hnn hb4 hv2 HA2 he0 he1 he2 he3)
          | (at_builtin; refine wpList_append_own _ rfl (.tmp 63) (.tmp 69) 35 rfl w2.heap.size 24 i0 _ 4 40 Tryd.underlying35 hi hz0 hz1 hz2 rfl (by decide) _ _ _ rfl HO2.out ⟨g, k * 4, none⟩ (n - k) (cap - k) (cellsP (L.drop k)) rfl Hl3.out (Hnew3.out _ HB4.out) (cellsP_one _) (by unfold maxLen; omega) (by omega) HB4.out.size ?_; intro v3 w5 hown hgrow hnn; obtain ⟨g3, cap3, rfl, hg3, hg4, hcb5, hfz5, hb5⟩ := HA3.out v2 w4 v3 w5 HB4.out HV2.out hown hgrow; rw [Nat.zero_add] at hown; have HO3 := hide hown; have HB5 := hide hb5; clear hown hgrow hnn hb5 HA3))
        go_ret
        exact ⟨rfl, close_add HB1.out HBb.out HR2.out HB5.out hg3 HO3.out (insert_len L (newP name key) n k HLn.out HPl.out (by omega)) hBw (insert_cells L (newP name key) k HPl.out)⟩

    · obtain rfl : k = n := by omega
      have HPl := hide (place_eq L name k (by rw [HLn.out]; exact Nat.le_refl _) A.out (fun hk => absurd hk (by rw [HLn.out]; exact hlt)))
      have Hnew1 : Hid (∀ j u, (cellsP (L.take k))[j]? = some u → w2.cell? ((⟨g, 0, none⟩ : Addr).add j) = some u) := fun j u hj => by
        rw [Go.WideShapes.add_plain, Nat.zero_add]
        exact own_cells HK1.out.2 j u (cellsP_take L k j u hj)
      have Hl1 : Hid ((cellsP (L.take k)).length = k * 4) := by show _ = _; rw [cellsP_len, List.length_take, HLn.out]; omega
      have HA1 := hide (fun (v1 : Value) (w3 : World) hown hgrow => after_any (w0 := w2) (w := w2) (w' := w3) (B := w2.heap.size) (bb := bb) (pb := w.heap.size) (v := .slice none 0 0) (v' := v1) (n := 0 + k) (xs := [] ++ cellsP (L.take k)) (Below.refl _ _) (Nat.le_refl _) (fun k hk => by cases hk) HBb2.out HPb.out HR2.out HC1.out hown hgrow)
      have HA2 := hide (fun (v1 : Value) (w3 : World) (v2 : Value) (w4 : World) (hb3 : Below w2.heap.size w2 w3) hv1 hown hgrow => after_any (w0 := w2) (w := w3.alloc (.cells #[.string name, .int .i64 key, .int .i64 1, .bool false] 24)) (w' := w4) (B := w2.heap.size) (bb := bb) (pb := w.heap.size) (v := v1) (v' := v2) (n := 0 + k + 1) (xs := [] ++ cellsP (L.take k) ++ (newP name key).cells) (hb3.alloc hb3.size _) (Nat.le_trans hb3.size (by simp)) hv1 HBb2.out HPb.out HR2.out HC1.out hown hgrow)
      have HA3 := hide (fun (v2 : Value) (w4 : World) (v3 : Value) (w5 : World) (hb4 : Below w2.heap.size w2 w4) hv2 hown hgrow => after_append (w0 := w2) (w := w4) (w' := w5) (B := w2.heap.size) (bb := bb) (v := v2) (v' := v3) (n := 0 + k + 1 + 0) (xs := [] ++ cellsP (L.take k) ++ (newP name key).cells ++ []) hb4 hb4.size hv2 HBb2.out HR2.out hown (by omega) hgrow)
      clear hc0 hc1 hc2 hc3
      rcases Nat.eq_or_lt_of_le hcap with hck | hck
      · subst hck
        go_wp2_with (first
          | (at_builtin; refine wpList_append_own _ rfl (.tmp 50) (.tmp 56) 35 rfl w2.heap.size 24 i0 _ 4 40 Tryd.underlying35 hi hz0 hz1 hz2 rfl (by decide) _ _ _ rfl (World.ownsRow_nil _ _ _ _) ⟨g, 0, none⟩ k _ (cellsP (L.take k)) rfl Hl1.out Hnew1.out (cellsP_one _) (by unfold maxLen; omega) (by omega) (Nat.le_refl _) ?_; intro v1 w3 hown hgrow hnn; obtain ⟨hb3, hv1, hcb3, hfz3, hd0, hd1, hd2, hd3, hsz3⟩ := HA1.out v1 w3 hown hgrow; have HO1 := hide hown; have HB3 := hide hb3; have HV1 := hide hv1; clear hown hgrow hnn hb3 hv1 HA1)
          | (at_builtin; refine wpList_append_own _ rfl (.tmp 58) (.tmp 60) 35 rfl w2.heap.size 24 i0 _ 4 40 Tryd.underlying35 hi hz0 hz1 hz2 rfl (by decide) _ _ _ rfl (HO1.out.alloc _) ⟨w3.heap.size, 0, none⟩ 1 1 (newP name key).cells rfl rfl (new_cells w3 (newP name key)) (cells_one _) (by unfold maxLen; omega) (by omega) (Nat.le_trans HB3.out.size (by simp)) ?_; intro v2 w4 hown hgrow hnn; obtain ⟨hb4, hv2, hcb4, hfz4, he0, he1, he2, he3, hsz4⟩ := HA2.out v1 w3 v2 w4 HB3.out HV1.out hown hgrow; have HO2 := hide hown; have HB4 := hide hb4; have HV2 := hide hv2; clear hown hgrow hnn hb4 hv2 HA2 he0 he1 he2 he3)
          | (at_builtin; refine wpList_append_own _ rfl (.tmp 63) (.tmp 69) 35 rfl w2.heap.size 24 i0 _ 4 40 Tryd.underlying35 hi hz0 hz1 hz2 rfl (by decide) _ _ _ rfl HO2.out _ 0 _ [] rfl rfl (fun j u hj => by simp at hj) (by simp) (by unfold maxLen; omega) (by omega) HB4.out.size ?_; intro v3 w5 hown hgrow hnn; obtain ⟨g3, cap3, rfl, hg3, hg4, hcb5, hfz5, hb5⟩ := HA3.out v2 w4 v3 w5 HB4.out HV2.out hown hgrow; rw [Nat.zero_add, Nat.add_zero] at hown; have HO3 := hide hown; have HB5 := hide hb5; clear hown hgrow hnn hb5 HA3))
        go_ret
        exact ⟨rfl, close_add HB1.out HBb.out HR2.out HB5.out hg3 HO3.out (by have := insert_len L (newP name key) k k HLn.out HPl.out (Nat.le_refl _); omega) hBw (by rw [← insert_cells L (newP name key) k HPl.out, List.drop_of_length_le (Nat.le_of_eq HLn.out)]; rfl)⟩
      · have hcn : ¬ cap = k := by omega
        go_wp2_with (first
          | (at_builtin; refine wpList_append_own _ rfl (.tmp 50) (.tmp 56) 35 rfl w2.heap.size 24 i0 _ 4 40 Tryd.underlying35 hi hz0 hz1 hz2 rfl (by decide) _ _ _ rfl (World.ownsRow_nil _ _ _ _) ⟨g, 0, none⟩ k _ (cellsP (L.take k)) rfl Hl1.out Hnew1.out (cellsP_one _) (by unfold maxLen; omega) (by omega) (Nat.le_refl _) ?_; intro v1 w3 hown hgrow hnn; obtain ⟨hb3, hv1, hcb3, hfz3, hd0, hd1, hd2, hd3, hsz3⟩ := HA1.out v1 w3 hown hgrow; have HO1 := hide hown; have HB3 := hide hb3; have HV1 := hide hv1; clear hown hgrow hnn hb3 hv1 HA1)
          | (at_builtin; refine wpList_append_own _ rfl (.tmp 58) (.tmp 60) 35 rfl w2.heap.size 24 i0 _ 4 40 Tryd.underlying35 hi hz0 hz1 hz2 rfl (by decide) _ _ _ rfl (HO1.out.alloc _) ⟨w3.heap.size, 0, none⟩ 1 1 (newP name key).cells rfl rfl (new_cells w3 (newP name key)) (cells_one _) (by unfold maxLen; omega) (by omega) (Nat.le_trans HB3.out.size (by simp)) ?_; intro v2 w4 hown hgrow hnn; obtain ⟨hb4, hv2, hcb4, hfz4, he0, he1, he2, he3, hsz4⟩ := HA2.out v1 w3 v2 w4 HB3.out HV1.out hown hgrow; have HO2 := hide hown; have HB4 := hide hb4; have HV2 := hide hv2; clear hown hgrow hnn hb4 hv2 HA2 he0 he1 he2 he3)
          | (at_builtin; refine wpList_append_own _ rfl (.tmp 63) (.tmp 69) 35 rfl w2.heap.size 24 i0 _ 4 40 Tryd.underlying35 hi hz0 hz1 hz2 rfl (by decide) _ _ _ rfl HO2.out _ 0 _ [] rfl rfl (fun j u hj => by simp at hj) (by simp) (by unfold maxLen; omega) (by omega) HB4.out.size ?_; intro v3 w5 hown hgrow hnn; obtain ⟨g3, cap3, rfl, hg3, hg4, hcb5, hfz5, hb5⟩ := HA3.out v2 w4 v3 w5 HB4.out HV2.out hown hgrow; rw [Nat.zero_add, Nat.add_zero] at hown; have HO3 := hide hown; have HB5 := hide hb5; clear hown hgrow hnn hb5 HA3))
        go_ret
        exact ⟨rfl, close_add HB1.out HBb.out HR2.out HB5.out hg3 HO3.out (by have := insert_len L (newP name key) k k HLn.out HPl.out (Nat.le_refl _); omega) hBw (by rw [← insert_cells L (newP name key) k HPl.out, List.drop_of_length_le (Nat.le_of_eq HLn.out)]; rfl)⟩
end Go.Proofs.YtkkjalokgaaniabDoor

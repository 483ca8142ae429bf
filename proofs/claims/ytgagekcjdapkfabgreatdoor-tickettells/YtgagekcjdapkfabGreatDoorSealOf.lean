/-
  What the document's answer's SealOf gives: a fault of ErrKey, ErrShape, or ErrText at the first that is no word, else the sealed text and no fault; for every key and words.
-/
import Derived.Test.YtgagekcjdapkfabGreatDoorSealAnswer
namespace Go.Proofs.YtgagekcjdapkfabGreatDoor
open Go.RowKit Go.Extern.Stop Go.Stop Go.Extern

theorem results_tmp_row {P : Program} {fn : Func} {p u : Tmp} {ty : TypeId} (h : fn.results = #[.tmp u, .cell p ty]) (tmps : Array Value) (w : World) (g : Nat) (t : TypeId) (cs : Array Value) (fr : Nat × Nat) (d : TypeDesc)
    (hp : tmps.getD p undef = .pointer (some ⟨g, 0, none⟩)) (hg : w.heap[g]? = some (.cells cs t fr))
    (hu : P.underlying ty = some d) (hd : (match d with | .struct _ | .array _ _ => true | _ => false) = true) (hi : (P.info? ty).map (·.size) = some cs.size) :
    (results fn tmps).run P w = .ok (.tuple #[tmps.getD u undef, .agg cs]) w := by
  have hp' : tmps[p]?.getD undef = .pointer (some ⟨g, 0, none⟩) := by simpa using hp
  simp [results, h, hp', asAddr, run_loadVar_row w g t ty cs fr d hg hu hd hi]
theorem sealOfEnd {a : Act} {w : World} {R : Ending → World → Prop} (g : Nat) (cs : Array Value) (hp : a.tmps.getD 5 undef = .pointer (some ⟨g, 0, none⟩)) (hg : w.heap[g]? = some (.cells cs 55 (0, 0))) (hn : cs.size = 2) (hd : a.defers = [])
    (hR : R (.returned (.tuple #[a.tmps.getD 4 undef, .agg cs])) w) : bodyPost Tryz.prog Tryz.f51 R .ret a w :=
  bodyPost_ret (results_tmp_row rfl a.tmps w g _ cs (0, 0) _ hp hg Tryz.underlying55 rfl (by rw [hn]; kernel_rfl)) hd hR
theorem row_set2 {w : World} {g : Nat} {t : TypeId} {x y : Value} (h : w.heap[g]? = some (.cells #[x, y] t (0, 0))) (a b : Value) :
    ((w.setCell ⟨g, 0, none⟩ a).setCell ⟨g, 1, none⟩ b).heap[g]? = some (.cells #[a, b] t (0, 0)) := by
  have h1 := heap_setCell_same w g 0 _ t a h
  exact heap_setCell_same _ g 1 _ t b h1
theorem row_cells2 {w : World} {g : Nat} {t : TypeId} {x y : Value} (h : w.heap[g]? = some (.cells #[x, y] t (0, 0))) :
    w.cell? ⟨g, 0, none⟩ = some x ∧ w.cell? ⟨g, 1, none⟩ = some y ∧ w.frozen? ⟨g, 0, none⟩ = false ∧ w.frozen? ⟨g, 1, none⟩ = false :=
  ⟨cell_of_row w g 0 _ t _ h, cell_of_row w g 1 _ t _ h, frozen_of_row w g 0 _ t h, frozen_of_row w g 1 _ t h⟩

/-- The block of SealOf's fault, new. -/
abbrev fault0 : Obj := .cells #[.int .i64 0, .int .i64 0] 55

set_option maxRecDepth 100000 in
set_option maxHeartbeats 1000000 in
theorem sealOf_key (key : Int) (v : Value) (w : World) (hk : ¬ (1 ≤ key ∧ key ≤ 1000000006)) :
    Calls Tryz.prog 51 #[.int .i64 key, v] w fun e w' => e = .returned (.tuple #[.string ⟨#[]⟩, .agg #[.int .i64 10, .int .i64 (-1)]]) ∧ Below w.heap.size w w' := by
  have HK := hide (fun w => refKey_any key w)
  rw [decide_eq_false hk] at HK
  have HBr := hide (fun w => refBare_any 10 w)
  clear hk
  go_enter Tryz.func51, Tryz.ntmps51
  go_wp2_with fail
  refine (HK.out _).mono ?_
  rintro e w1 ⟨rfl, rfl⟩
  go_wp2_with fail
  refine (HBr.out _).mono ?_
  rintro e w2 ⟨rfl, hb⟩
  have HR : Hid (w2.heap[w.heap.size]? = some (.cells #[.int .i64 0, .int .i64 0] 55 (0, 0))) := by show _ = _; rw [hb.block _ (by simp)]; exact heap_alloc_new _ _
  have HB : Hid (Below w.heap.size w w2) := ((Below.refl _ w).alloc (Nat.le_refl _) _).trans (hb.mono (by simp))
  obtain ⟨hc0, hc1, hf0, hf1⟩ := row_cells2 HR.out
  clear hb
  go_wp2
  refine sealOfEnd w.heap.size _ rfl (row_set2 HR.out _ _) rfl rfl ?_
  exact ⟨rfl, (HB.out.setCell (Nat.le_refl _) _).setCell (Nat.le_refl _) _⟩

set_option maxRecDepth 100000 in
set_option maxHeartbeats 1000000 in
theorem sealOf_count (key : Int) (ad : Option Addr) (n c : Nat) (w : World) (hk : 1 ≤ key ∧ key ≤ 1000000006) (hn : ¬ (1 ≤ n ∧ n ≤ 10)) :
    Calls Tryz.prog 51 #[.int .i64 key, .slice ad n c] w fun e w' => e = .returned (.tuple #[.string ⟨#[]⟩, .agg #[.int .i64 3, .int .i64 (-1)]]) ∧ Below w.heap.size w w' := by
  have HK := hide (fun w => refKey_any key w)
  rw [decide_eq_true hk] at HK
  have HBr := hide (fun w => refBare_any 3 w)
  have hn2 : n < 1 ∨ (1 ≤ n ∧ 10 < n) := by omega
  clear hk hn
  rcases hn2 with hn | ⟨hn, hn3⟩
  all_goals
    go_enter Tryz.func51, Tryz.ntmps51
    go_wp2_with fail
    refine (HK.out _).mono ?_
    rintro e w1 ⟨rfl, rfl⟩
    go_wp2_with fail
    refine (HBr.out _).mono ?_
    rintro e w2 ⟨rfl, hb⟩
    have HR : Hid (w2.heap[w.heap.size]? = some (.cells #[.int .i64 0, .int .i64 0] 55 (0, 0))) := by show _ = _; rw [hb.block _ (by simp)]; exact heap_alloc_new _ _
    have HB : Hid (Below w.heap.size w w2) := ((Below.refl _ w).alloc (Nat.le_refl _) _).trans (hb.mono (by simp))
    obtain ⟨hc0, hc1, hf0, hf1⟩ := row_cells2 HR.out
    clear hb
    go_wp2
    refine sealOfEnd w.heap.size _ rfl (row_set2 HR.out _ _) rfl rfl ?_
    exact ⟨rfl, (HB.out.setCell (Nat.le_refl _) _).setCell (Nat.le_refl _) _⟩

set_option maxRecDepth 100000 in
set_option maxHeartbeats 1000000 in
theorem sealOf_wrong (key : Int) (b o n c : Nat) (xs : List ByteArray) (w : World) (hk : 1 ≤ key ∧ key ≤ 1000000006) (hn : 1 ≤ n ∧ n ≤ 10) (hx : Texts w b o xs) (hl : xs.length = n) (hs : ∀ x ∈ xs, x.size ≤ maxLen) (z : Nat) (hz : z < xs.length) (hw : Sl.wordL xs[z].data.toList = false) (hbef : ∀ j (hj : j < xs.length), j < z → Sl.wordL xs[j].data.toList = true) :
    Calls Tryz.prog 51 #[.int .i64 key, .slice (some ⟨b, o, none⟩) n c] w fun e w' => e = .returned (.tuple #[.string ⟨#[]⟩, .agg #[.int .i64 1, .int .i64 z]]) ∧ Below w.heap.size w w' := by
  have HK := hide (fun w => refKey_any key w)
  rw [decide_eq_true hk] at HK
  have HX : Hid (Texts (w.alloc fault0) b o xs) := hx.below ((Below.refl _ w).alloc (Nat.le_refl _) _)
  have HB0 : Hid (Below w.heap.size w (w.alloc fault0)) := (Below.refl _ w).alloc (Nat.le_refl _) _
  have HR0 : Hid ((w.alloc fault0).heap[w.heap.size]? = some (.cells #[.int .i64 0, .int .i64 0] 55 (0, 0))) := heap_alloc_new _ _
  have HS := hide hs
  have HL := hide hl
  have HW := hide hw
  have HBe := hide hbef
  have hzn : z < n := by omega
  obtain ⟨hn1, hn2⟩ := hn
  clear hx hl hs hw hbef hk
  go_enter Tryz.func51, Tryz.ntmps51
  go_wp2_with fail
  refine (HK.out _).mono ?_
  rintro e w1 ⟨rfl, rfl⟩
  clear HK
  go_wp2
  generalize w.alloc (.cells #[.int .i64 0, .int .i64 0] 55) = w0 at *
  go_loop [7] (fun i => ∃ k : Nat, k ≤ z ∧ i = .int .i64 k) (fun i => z - (intOf i).toNat)
  case atStart => exact ⟨0, Nat.zero_le _, rfl⟩
  case round =>
    obtain ⟨k, hk, rfl⟩ := hrel
    have hkn : k < n := by omega
    have hkl : k < xs.length := by rw [HL.out]; exact hkn
    have hcell := HX.out k hkl
    have HWd := hide (fun w => refWord_any xs[k] w (HS.out _ (List.getElem_mem _)))
    by_cases hkz : k = z
    · subst hkz
      rw [HW.out] at HWd
      generalize xs[k] = y at hcell HWd
      obtain ⟨hc0, hc1, hf0, hf1⟩ := row_cells2 HR0.out
      go_wp2_with fail
      refine (HWd.out _).mono ?_
      rintro e w3 ⟨rfl, rfl⟩
      go_wp2
      refine sealOfEnd w.heap.size _ rfl (row_set2 HR0.out _ _) rfl rfl ?_
      exact ⟨rfl, (HB0.out.setCell (Nat.le_refl _) _).setCell (Nat.le_refl _) _⟩
    · rw [HBe.out k hkl (by omega)] at HWd
      generalize xs[k] = y at hcell HWd
      go_wp2_with fail
      refine (HWd.out _).mono ?_
      rintro e w3 ⟨rfl, rfl⟩
      go_wp2
      go_round
      case rel => exact ⟨k + 1, by omega, by go_num⟩
      case measure => simp [intOf]; omega

set_option maxRecDepth 100000 in
set_option maxHeartbeats 2000000 in
theorem sealOf_ok (key : Int) (b o n c : Nat) (xs : List ByteArray) (w : World) (hk : 1 ≤ key ∧ key ≤ 1000000006) (hx : Texts w b o xs) (hl : xs.length = n) (hw : Sl.wordsOk (toLs xs) = true) :
    Calls Tryz.prog 51 #[.int .i64 key, .slice (some ⟨b, o, none⟩) n c] w fun e w' => e = .returned (.tuple #[.string (Sl.ofL (Sl.sealL key (toLs xs))), .agg #[.int .i64 0, .int .i64 (-1)]]) ∧ Below w.heap.size w w' := by
  have HK := hide (fun w => refKey_any key w)
  rw [decide_eq_true hk] at HK
  obtain ⟨⟨h1, h10⟩, hall⟩ := (Sl.wordsOk_iff _).1 hw
  rw [List.length_map, hl] at h1 h10
  have hone : ∀ x ∈ xs, Sl.wordL x.data.toList = true := fun x hm => hall _ (List.mem_map.2 ⟨x, hm, rfl⟩)
  have HX : Hid (Texts (w.alloc fault0) b o xs) := hx.below ((Below.refl _ w).alloc (Nat.le_refl _) _)
  have HB0 : Hid (Below w.heap.size w (w.alloc fault0)) := (Below.refl _ w).alloc (Nat.le_refl _) _
  have HR0 : Hid ((w.alloc fault0).heap[w.heap.size]? = some (.cells #[.int .i64 0, .int .i64 0] 55 (0, 0))) := heap_alloc_new _ _
  have HT0 : Hid (w.heap.size < (w.alloc fault0).heap.size) := by show _ < _; simp
  have HOne := hide hone
  have hgl : (Sl.glue (toLs xs)).length ≤ 210 := by
    have := Sl.glue_len 20 (toLs xs) (fun l hm => (Sl.word_len l (hall l hm)).2)
    rw [List.length_map, hl] at this
    omega
  have HG := hide (fun w hx => refGlue_any xs b o n c w hl (by omega) hx (by omega))
  have HM := hide (fun w => refOf_any key (Sl.ofL (Sl.glue (toLs xs))) w (by rw [Sl.ofL_size]; unfold maxLen; omega))
  rw [show moreN key key (Sl.ofL (Sl.glue (toLs xs))).data.toList = (Sl.sealM key (toLs xs) : Int) by rw [Sl.sealM_mk key hk, Sl.toL_ofL]; simp [moreN, key_more, hk]] at HM
  rw [show ((moreE key key : Nat) : Int) = 0 by rw [key_more, if_pos hk]; rfl] at HM
  have HD := hide (fun w => refDecimal_any (Sl.sealM key (toLs xs)) (by have := Sl.sealM_le key hk (toLs xs); omega) w)
  have hz1 : (Sl.ofL (Sl.glue (toLs xs))).size ≤ 210 := by rw [Sl.ofL_size]; exact hgl
  have hz2 := dec_size (Sl.sealM key (toLs xs)) (by have := Sl.sealM_le key hk (toLs xs); omega)
  have HRs : Hid (Sl.ofL (Sl.glue (toLs xs)) ++ ⟨#[32]⟩ ++ Sl.ofL (Lib.decDigits (Sl.sealM key (toLs xs))) = Sl.ofL (Sl.sealL key (toLs xs))) := by
    show _ = _
    refine Sl.ba_ext ?_
    rw [ba_toList, ba_toList]
    unfold Sl.sealL
    simp only [Sl.toL_ofL]
    simp
  have HL := hide hl
  have HFi := hide (fun w => refFine_any w)
  clear hk hx hl hw hone hall hgl
  generalize Sl.ofL (Sl.sealL key (toLs xs)) = res at *
  generalize Sl.ofL (Lib.decDigits (Sl.sealM key (toLs xs))) = dg at *
  generalize (Sl.sealM key (toLs xs) : Int) = m at *
  generalize Sl.ofL (Sl.glue (toLs xs)) = g at *
  go_enter Tryz.func51, Tryz.ntmps51
  go_wp2_with fail
  refine (HK.out _).mono ?_
  rintro e w1 ⟨rfl, rfl⟩
  clear HK
  go_wp2
  generalize w.alloc (.cells #[.int .i64 0, .int .i64 0] 55) = w0 at *
  go_loop [7] (fun i => ∃ k : Nat, k ≤ n ∧ i = .int .i64 k) (fun i => n - (intOf i).toNat)
  case atStart => exact ⟨0, Nat.zero_le _, rfl⟩
  case round =>
    obtain ⟨k, hk, rfl⟩ := hrel
    by_cases hkn : k < n
    · have hkl : k < xs.length := by rw [HL.out]; exact hkn
      have hcell := HX.out k hkl
      have HWd := hide (fun w => refWord_any xs[k] w (by have := (Sl.word_len _ (HOne.out _ (List.getElem_mem hkl))).2; rw [size_list] at this; unfold maxLen; omega))
      rw [HOne.out _ (List.getElem_mem hkl)] at HWd
      generalize xs[k] = y at hcell HWd
      go_wp2_with fail
      refine (HWd.out _).mono ?_
      rintro e w3 ⟨rfl, rfl⟩
      go_wp2
      go_round
      case rel => exact ⟨k + 1, by omega, by go_num⟩
      case measure => simp [intOf]; omega
    · go_wp2_with fail
      refine (HG.out _ HX.out).mono ?_
      rintro e w3 ⟨rfl, rfl⟩
      go_wp2_with fail
      refine (HM.out _).mono ?_
      rintro e w4 ⟨rfl, rfl⟩
      go_wp2_with fail
      refine (HD.out _).mono ?_
      rintro e w5 ⟨rfl, hb⟩
      have HR5 : Hid (w5.heap[w.heap.size]? = some (.cells #[.int .i64 0, .int .i64 0] 55 (0, 0))) := by show _ = _; rw [hb.block _ HT0.out]; exact HR0.out
      have HB5 : Hid (Below w.heap.size w w5) := HB0.out.trans (hb.mono HB0.out.size)
      have HT5 : Hid (w.heap.size < w5.heap.size) := Nat.lt_of_lt_of_le HT0.out hb.size
      clear hb HR0 HB0 HT0 HX HG HM HD
      go_wp2_with fail
      refine (HFi.out _).mono ?_
      rintro e w6 ⟨rfl, hb⟩
      have HR6 : Hid (w6.heap[w.heap.size]? = some (.cells #[.int .i64 0, .int .i64 0] 55 (0, 0))) := by show _ = _; rw [hb.block _ HT5.out]; exact HR5.out
      have HB6 : Hid (Below w.heap.size w w6) := HB5.out.trans (hb.mono HB5.out.size)
      clear hb HR5 HB5 HT5
      obtain ⟨hc0, hc1, hf0, hf1⟩ := row_cells2 HR6.out
      go_wp2
      refine sealOfEnd w.heap.size _ rfl (row_set2 HR6.out _ _) rfl rfl ?_
      exact ⟨by rw [← HRs.out]; rfl, (HB6.out.setCell (Nat.le_refl _) _).setCell (Nat.le_refl _) _⟩
end Go.Proofs.YtgagekcjdapkfabGreatDoor

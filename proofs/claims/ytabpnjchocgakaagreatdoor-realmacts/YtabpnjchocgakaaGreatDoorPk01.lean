/-
  What the functions of these parts do, and what holds of their plain forms: SealNumber, SealTake.
-/
import Derived.Test.YtabpnjchocgakaaGreatDoorSealWords
import Derived.Test.YtabpnjchocgakaaGreatDoorPk00
import Derived.Lib.AtoiErrMem
import Derived.Laws.NewBlocks
import Derived.Laws.ResultCell
import Derived.Laws.Rows
namespace Go.Proofs.YtabpnjchocgakaaGreatDoor
open Go.RowKit Go.Extern.Stop Go.Stop Go.Extern
def numB (l : List UInt8) (most : Int) : Bool := Sl.numOk l && decide ((Sl.valL l : Int) ≤ most)
def numV (l : List UInt8) (most : Int) : Int := if numB l most = true then (Sl.valL l : Int) else 0
theorem head_at (s : ByteArray) (h : 0 < s.size) : s.data.toList.head? = some s[0] := by
 have : s.data.toList[0]? = some s[0] := by
  rw [List.getElem?_eq_getElem (by rw [size_list]; exact h)]
  rfl
 rw [← this, List.head?_eq_getElem?]
theorem below_bytes (w : World) (t : ByteArray) : Below w.heap.size w (Lib.bytesWorld w 5 t) := Lib.bytesWorld_below w _ t
set_option maxRecDepth 100000 in
set_option maxHeartbeats 1000000 in
theorem number_any (s : ByteArray) (most : Int) (w : World) (hs : s.size ≤ maxLen) :
  Calls Tryz.prog 104 #[.string s, .int .i64 most] w fun e w' => e = .returned (.tuple #[.int .i64 (numV s.data.toList most), .bool (numB s.data.toList most)]) ∧ Below w.heap.size w w' := by
 have el : s.data.toList.length = s.size := size_list s
 have H := hide (madeOf_any 155 Sl.digB (enters_of Tryz.func155 (by kernel_rfl) rfl) fits_digit s 10 w hs)
 unfold maxLen at hs
 cases hm : Sl.madeL Sl.digB 10 s.data.toList with
 | false =>
  have hb : numB s.data.toList most = false := by simp [numB, Sl.numOk, hm]
  rw [show numV s.data.toList most = 0 by simp [numV, hb], hb]
  rw [hm] at H
  clear hm hb el
  go_enter Tryz.func104, Tryz.ntmps104
  go_wp2_with fail
  refine H.out.mono ?_
  rintro e w1 ⟨rfl, hb⟩
  go_wp2
  go_ret2
  exact ⟨rfl, hb⟩
 | true =>
  rw [hm] at H
  have hm' := hm
  unfold Sl.madeL at hm'
  rw [Bool.and_eq_true, decide_eq_true_eq, el] at hm'
  obtain ⟨⟨h1, h10⟩, hall⟩ := hm'
  have HP := hide (fun w => Tryz.strconv_ParseInt_10_at64_ok s (by omega) (Sl.valL s.data.toList : Int) (Sl.parse_ok _ (by omega) (by omega) hall) w)
  have HV : Hid (Sl.valL s.data.toList < 10000000000) := Sl.valL_lt _ hall (by omega)
  by_cases hz : 1 < s.size ∧ s[0] = 48
  ·
   have hb : numB s.data.toList most = false := by
    have : s.data.toList.head? = some 48 := by rw [head_at s (by omega), hz.2]
    simp [numB, Sl.numOk, this, el, hz.1]
   rw [show numV s.data.toList most = 0 by simp [numV, hb], hb]
   obtain ⟨hz1, hz2⟩ := hz
   have hz3 : ((s[0].toNat : Int) == 48) = true := by rw [hz2]; decide
   clear hm hb el HP HV hall hz2
   go_enter Tryz.func104, Tryz.ntmps104
   go_wp2_with fail
   refine H.out.mono ?_
   rintro e w1 ⟨rfl, hb⟩
   go_wp2
   go_ret2
   exact ⟨rfl, hb⟩
  ·
   have hok : Sl.numOk s.data.toList = true := by
    rw [Sl.numOk_iff]
    refine ⟨by omega, hall, fun h => ?_⟩
    rw [head_at s (by omega)]
    intro e
    exact hz ⟨by omega, Option.some.inj e⟩
   have hz' : s.size = 1 ∨ (1 < s.size ∧ ((s[0].toNat : Int) == 48) = false) := by
    by_cases g : s.size = 1
    ·
     exact Or.inl g
    ·
     refine Or.inr ⟨by omega, ?_⟩
     rw [beq_eq_false_iff_ne]
     intro e
     refine hz ⟨by omega, UInt8.toNat_inj.1 ?_⟩
     have : (48 : UInt8).toNat = 48 := by decide
     omega
   have HBn : Hid (numB s.data.toList most = decide ((Sl.valL s.data.toList : Int) ≤ most)) := by show _ = _; simp [numB, hok]
   have HVn : Hid (numV s.data.toList most = if (Sl.valL s.data.toList : Int) ≤ most then (Sl.valL s.data.toList : Int) else 0) := by
    show _ = _
    unfold numV
    rw [HBn.out]
    simp
   rw [HVn.out, HBn.out]
   clear HVn HBn hok hz hm hall el
   generalize Sl.valL s.data.toList = v at *
   have hv0 : (0 : Int) ≤ (v : Int) := by omega
   have hv1 : (v : Int) < 10000000000 := by have := HV.out; omega
   clear HV
   generalize (v : Int) = x at *
   by_cases hmo : x ≤ most
   ·
    rw [if_pos hmo, decide_eq_true hmo]
    rcases hz' with g | ⟨g, g2⟩
    ·
     go_enter Tryz.func104, Tryz.ntmps104
     go_wp2_with fail
     refine H.out.mono ?_
     rintro e w1 ⟨rfl, hb⟩
     have HB := hide hb
     clear hb
     go_wp2_with fail
     refine (HP.out _).mono ?_
     rintro e w2 ⟨rfl, hw⟩
     have HB2 : Hid (Below w.heap.size w w2) := by
      rcases hw with rfl | ⟨t, rfl⟩
      ·
       exact HB.out
      ·
       exact HB.out.trans ((below_bytes w1 t).mono HB.out.size)
     clear hw HB
     go_wp2
     go_ret2
     exact ⟨rfl, HB2.out⟩
    ·
     go_enter Tryz.func104, Tryz.ntmps104
     go_wp2_with fail
     refine H.out.mono ?_
     rintro e w1 ⟨rfl, hb⟩
     have HB := hide hb
     clear hb
     go_wp2_with fail
     refine (HP.out _).mono ?_
     rintro e w2 ⟨rfl, hw⟩
     have HB2 : Hid (Below w.heap.size w w2) := by
      rcases hw with rfl | ⟨t, rfl⟩
      ·
       exact HB.out
      ·
       exact HB.out.trans ((below_bytes w1 t).mono HB.out.size)
     clear hw HB
     go_wp2
     go_ret2
     exact ⟨rfl, HB2.out⟩
   ·
    rw [if_neg hmo, decide_eq_false hmo]
    rcases hz' with g | ⟨g, g2⟩
    ·
     go_enter Tryz.func104, Tryz.ntmps104
     go_wp2_with fail
     refine H.out.mono ?_
     rintro e w1 ⟨rfl, hb⟩
     have HB := hide hb
     clear hb
     go_wp2_with fail
     refine (HP.out _).mono ?_
     rintro e w2 ⟨rfl, hw⟩
     have HB2 : Hid (Below w.heap.size w w2) := by
      rcases hw with rfl | ⟨t, rfl⟩
      ·
       exact HB.out
      ·
       exact HB.out.trans ((below_bytes w1 t).mono HB.out.size)
     clear hw HB
     go_wp2
     go_ret2
     exact ⟨rfl, HB2.out⟩
    ·
     go_enter Tryz.func104, Tryz.ntmps104
     go_wp2_with fail
     refine H.out.mono ?_
     rintro e w1 ⟨rfl, hb⟩
     have HB := hide hb
     clear hb
     go_wp2_with fail
     refine (HP.out _).mono ?_
     rintro e w2 ⟨rfl, hw⟩
     have HB2 : Hid (Below w.heap.size w w2) := by
      rcases hw with rfl | ⟨t, rfl⟩
      ·
       exact HB.out
      ·
       exact HB.out.trans ((below_bytes w1 t).mono HB.out.size)
     clear hw HB
     go_wp2
     go_ret2
     exact ⟨rfl, HB2.out⟩
theorem Tryz.pow10 : Tryz.prog.globalNamed "internal/strconv.uint64pow10" = some 18 := by kernel_rfl
structure EnvE (a : Nat → Addr) (w : World) : Prop where
 errs : EV slS a w
 len : ∃ m, w.cell? ⟨17, 0, none⟩ = some (.int .i64 m)
 tab : Lib.TabIs Tryz.prog w "internal/strconv.uint64pow10" .u64 Lib.pow10Tab
theorem EnvE.below {a : Nat → Addr} {w w' : World} (h : EnvE a w) (hb : Below w.heap.size w w') : EnvE a w' := by
 refine ⟨h.errs.below hb, ?_, ?_⟩
 ·
  obtain ⟨m, hm⟩ := h.len
  exact ⟨m, by rw [hb.cell (p := ⟨17, 0, none⟩) (cell_lt hm)]; exact hm⟩
 ·
  have hc := h.tab.cell Tryz.pow10 0 (by decide)
  exact var?_below hb Tryz.pow10 (cell_lt hc) h.tab
structure Env (a : Nat → Addr) (w : World) : Prop where
 errs : Errs a w
 len : ∃ m, w.cell? ⟨17, 0, none⟩ = some (.int .i64 m)
 tab : Lib.TabIs Tryz.prog w "internal/strconv.uint64pow10" .u64 Lib.pow10Tab
theorem Env.s {a : Nat → Addr} {w : World} (h : Env a w) : EnvE a w := ⟨h.errs.ev _, h.len, h.tab⟩
theorem Env.below {a : Nat → Addr} {w w' : World} (h : Env a w) (hb : Below w.heap.size w w') : Env a w' := ⟨h.errs.below hb, (h.s.below hb).len, (h.s.below hb).tab⟩
theorem lastIndex_any (s : ByteArray) (w : World) (hs : s.size ≤ 4000) :
  Calls Tryz.prog 150 #[.string s, .string ⟨#[32]⟩] w fun e w' => e = .returned (.int .i64 (Lib.lastIndexByte s 32)) ∧ w' = w :=
 Tryz.strings_LastIndex_one s ⟨#[32]⟩ rfl (by omega) w
theorem data_at (l : List UInt8) (j : Nat) : (Sl.ofL l).data[j]! = l[j]! := by
 show l.toArray[j]! = l[j]!
 simp
theorem list_bang (l : List UInt8) (j : Nat) (hj : j < l.length) : l[j]! = l[j] := getElem!_pos l j hj
theorem lastIdx_none (s : ByteArray) (h : (32 : UInt8) ∉ s.data.toList) : Lib.lastIndexByte s 32 = -1 := by
 rcases Lib.lastIndexByte_spec s 32 with ⟨e, _⟩ | ⟨i, hi, _, hc, _⟩
 ·
  exact e
 ·
  exfalso
  rw [← Sl.ofL_toL s, data_at] at hc
  have hi' : i < s.data.toList.length := by rw [size_list]; exact hi
  rw [list_bang _ _ hi'] at hc
  have h32 : (32 : UInt8).toNat = 32 := by decide
  have : s.data.toList[i] = 32 := UInt8.toNat_inj.1 (by omega)
  exact h (this ▸ List.getElem_mem hi')
theorem lastIdx_cut (s : ByteArray) (a t : List UInt8) (hs : s.data.toList = a ++ 32 :: t) (ht : (32 : UInt8) ∉ t) : Lib.lastIndexByte s 32 = (a.length : Int) := by
 have h32 : (32 : UInt8).toNat = 32 := by decide
 have hsz : s.size = a.length + 1 + t.length := by rw [← size_list, hs]; simp; omega
 have hat : ∀ j (hj : j < (a ++ 32 :: t).length), s.data[j]! = (a ++ 32 :: t)[j] := fun j hj => by
  rw [← Sl.ofL_toL s, data_at, hs, list_bang _ _ hj]
 have hlen : (a ++ 32 :: t).length = a.length + 1 + t.length := by simp; omega
 have ha : s.data[a.length]! = 32 := by
  rw [hat a.length (by omega)]
  simp
 rcases Lib.lastIndexByte_spec s 32 with ⟨_, hn⟩ | ⟨i, hi, e, hc, hn⟩
 ·
  exfalso
  refine hn a.length (by omega) ?_
  rw [ha]; rfl
 ·
  rw [e]
  rcases Nat.lt_trichotomy i a.length with g | g | g
  ·
   exfalso
   refine hn a.length g (by omega) ?_
   rw [ha]; rfl
  ·
   rw [g]
  ·
   exfalso
   obtain ⟨k, rfl⟩ : ∃ k, i = a.length + 1 + k := ⟨i - a.length - 1, by omega⟩
   rw [hat _ (by omega), List.getElem_append_right (by omega)] at hc
   have hk : k < t.length := by omega
   have : (32 :: t)[a.length + 1 + k - a.length]? = some t[k] := by
    rw [show a.length + 1 + k - a.length = k + 1 by omega, List.getElem?_cons_succ, List.getElem?_eq_getElem hk]
   rw [List.getElem?_eq_getElem (by simp; omega)] at this
   rw [Option.some.inj this] at hc
   have : t[k] = 32 := UInt8.toNat_inj.1 (by omega)
   exact ht (this ▸ List.getElem_mem hk)
theorem split_any (a : Nat → Addr) (s : ByteArray) (w : World) (h : EnvE a w) (hs : s.size ≤ 4000) :
  Calls Tryz.prog 151 #[.string s, .string ⟨#[32]⟩] w fun e w' =>
   e = .returned (.slice (some ⟨w.heap.size, 0, none⟩) (Sl.pieces s.data.toList).length (Sl.pieces s.data.toList).length) ∧ Texts w' w.heap.size 0 ((Sl.pieces s.data.toList).map Sl.ofL) ∧ Below w.heap.size w w' := by
 obtain ⟨m, hm⟩ := h.len
 have hcnt : Lib.countB s ⟨#[32]⟩ = s.data.toList.count 32 := Lib.count_one 32 s.data.toList
 have hdata : (Lib.splitB ⟨#[32]⟩ 0 (Lib.countB s ⟨#[32]⟩) s).map (·.data.toList) = Sl.pieces s.data.toList := by
  rw [Lib.splitB_data, hcnt]
  exact Sl.splitK_pieces _ _ rfl
 have hxs : Lib.splitB ⟨#[32]⟩ 0 (Lib.countB s ⟨#[32]⟩) s = (Sl.pieces s.data.toList).map Sl.ofL := by rw [← hdata, Sl.map_ofL]
 have hlen : (Sl.pieces s.data.toList).length = Lib.countB s ⟨#[32]⟩ + 1 := by
  rw [← hdata, List.length_map]
  exact Lib.splitB_all ⟨#[32]⟩ (by decide) 0 _ s rfl
 refine (Tryz.strings_Split s ⟨#[32]⟩ m w (by omega) hm (by decide)).mono ?_
 rintro e w' ⟨rfl, rfl⟩
 rw [← hlen, hxs]
 refine ⟨rfl, fun j hj => ?_, (Below.refl _ w).alloc (Nat.le_refl _) _⟩
 rw [World.cell?_alloc_at _ _ _ _ rfl]
 rw [List.getElem?_toArray, List.getElem?_map, Nat.zero_add, List.getElem?_eq_getElem hj]
 rfl
theorem results_row_tmp {P : Program} {fn : Func} {p u : Tmp} {ty : TypeId} (h : fn.results = #[.cell p ty, .tmp u]) (tmps : Array Value) (w : World) (g : Nat) (t : TypeId) (cs : Array Value) (fr : Nat × Nat) (d : TypeDesc)
  (hp : tmps.getD p undef = .pointer (some ⟨g, 0, none⟩)) (hg : w.heap[g]? = some (.cells cs t fr))
  (hu : P.underlying ty = some d) (hd : (match d with | .struct _ | .array _ _ => true | _ => false) = true) (hi : (P.info? ty).map (·.size) = some cs.size) :
  (results fn tmps).run P w = .ok (.tuple #[.agg cs, tmps.getD u undef]) w := by
 rw [results_cell_tmp h, hp]
 simp [asAddr, run_loadVar_row w g t ty cs fr d hg hu hd hi, Result.andThen]
theorem takeEnd {a : Act} {w : World} {R : Ending → World → Prop} (g : Nat) (cs : Array Value) (hp : a.tmps.getD 2 undef = .pointer (some ⟨g, 0, none⟩)) (hg : w.heap[g]? = some (.cells cs 150 (0, 0))) (hn : cs.size = 3) (hd : a.defers = [])
  (hR : R (.returned (.tuple #[.agg cs, a.tmps.getD 3 undef])) w) : bodyPost Tryz.prog Tryz.f103 R .ret a w :=
 bodyPost_ret (results_row_tmp rfl a.tmps w g _ cs (0, 0) _ hp hg Tryz.underlying150 rfl (by rw [hn]; kernel_rfl)) hd hR
theorem EV.later {S : Nat → Bool} {a : Nat → Addr} {w : World} (h : EV S a w) (i : Nat) (hi : i < 16) (hs : S i = true) (o : Obj) : (w.alloc o).cell? ⟨errG.getD i 0, 0, none⟩ = some (eV (a i)) := by
 have := h.var i hi hs
 rw [((Below.refl w.heap.size w).alloc (Nat.le_refl _) o).cell (p := ⟨errG.getD i 0, 0, none⟩) (cell_lt this)]; exact this
theorem Errs.later {a : Nat → Addr} {w : World} (h : Errs a w) (i : Nat) (hi : i < 16) (o : Obj) : (w.alloc o).cell? ⟨errG.getD i 0, 0, none⟩ = some (eV (a i)) := by
 have := h.var i hi
 rw [((Below.refl w.heap.size w).alloc (Nat.le_refl _) o).cell (p := ⟨errG.getD i 0, 0, none⟩) (cell_lt this)]; exact this
set_option maxRecDepth 100000 in
set_option maxHeartbeats 2000000 in
theorem take_long (a : Nat → Addr) (s : ByteArray) (w : World) (h : EnvE a w) (hs : 4000 < s.size) :
  Calls Tryz.prog 103 #[.string s] w fun e w' => e = .returned (.tuple #[.agg #[.string ⟨#[]⟩, .slice none 0 0, .int .i64 0], eV (a 1)]) ∧ Below w.heap.size w w' := by
 have hv := h.errs.later 1 (by decide) rfl
 simp only [errG, List.getD_cons_zero, List.getD_cons_succ] at hv
 clear h
 go_enter Tryz.func103, Tryz.ntmps103
 go_wp2
 go_region
 go_wp2
 refine takeEnd w.heap.size _ rfl (heap_alloc_new _ _) rfl rfl ?_
 exact ⟨rfl, ((Below.refl _ w).alloc (Nat.le_refl _) _).drew⟩
set_option maxRecDepth 100000 in
set_option maxHeartbeats 2000000 in
theorem take_none (a : Nat → Addr) (s : ByteArray) (w : World) (h : EnvE a w) (hs : s.size ≤ 4000) (hb : (32 : UInt8) ∉ s.data.toList) :
  Calls Tryz.prog 103 #[.string s] w fun e w' => e = .returned (.tuple #[.agg #[.string ⟨#[]⟩, .slice none 0 0, .int .i64 0], eV (a 0)]) ∧ Below w.heap.size w w' := by
 have hv := h.errs.later 0 (by decide) rfl
 simp only [errG, List.getD_cons_zero] at hv
 have HL := hide (fun w => lastIndex_any s w hs)
 have e1 := lastIdx_none s hb
 rw [e1] at HL
 clear h hb e1
 go_enter Tryz.func103, Tryz.ntmps103
 go_wp2_with fail
 refine (HL.out _).mono ?_
 rintro e w1 ⟨rfl, rfl⟩
 go_wp2
 go_region
 go_wp2
 refine takeEnd w.heap.size _ rfl (heap_alloc_new _ _) rfl rfl ?_
 exact ⟨rfl, ((Below.refl _ w).alloc (Nat.le_refl _) _).drew⟩
theorem pieces_len : ∀ l : List UInt8, (Sl.pieces l).length ≤ l.length + 1
 | [] => by simp [Sl.pieces]
 | b :: l => by
  have ih := pieces_len l
  unfold Sl.pieces
  split
  ·
   simp; omega
  ·
   simp; omega
theorem pieces_part (l w : List UInt8) (h : w ∈ Sl.pieces l) : w.length ≤ l.length := by
 have e := Sl.join_pieces l
 have hlen : ∀ (ws : List (List UInt8)), w ∈ ws → w.length ≤ (Lib.join ws [32]).length := by
  intro ws
  induction ws with
  | nil => intro h; simp at h
  | cons x r ih =>
   intro h
   by_cases hr : r = []
   ·
    subst hr
    rw [Lib.join_one]
    have : w = x := by simpa using h
    rw [this]; exact Nat.le_refl _
   ·
    rw [Sl.join_cons2 _ _ hr]
    simp only [List.length_append, List.length_cons]
    rcases List.mem_cons.1 h with rfl | h
    ·
     omega
    ·
     have := ih h
     omega
 have := hlen _ h
 rwa [e] at this
theorem row_set3 {w : World} {g : Nat} {t : TypeId} {x y z : Value} (h : w.heap[g]? = some (.cells #[x, y, z] t (0, 0))) (a b c : Value) :
  (((w.setCell ⟨g, 0, none⟩ a).setCell ⟨g, 1, none⟩ b).setCell ⟨g, 2, none⟩ c).heap[g]? = some (.cells #[a, b, c] t (0, 0)) := by
 have h1 := heap_setCell_same w g 0 _ t a h
 have h2 := heap_setCell_same _ g 1 _ t b h1
 have h3 := heap_setCell_same _ g 2 _ t c h2
 exact h3
theorem row_cells {w : World} {g : Nat} {t : TypeId} {x y z : Value} (h : w.heap[g]? = some (.cells #[x, y, z] t (0, 0))) :
  w.cell? ⟨g, 0, none⟩ = some x ∧ w.cell? ⟨g, 1, none⟩ = some y ∧ w.cell? ⟨g, 2, none⟩ = some z ∧ w.frozen? ⟨g, 0, none⟩ = false ∧ w.frozen? ⟨g, 1, none⟩ = false ∧ w.frozen? ⟨g, 2, none⟩ = false :=
 ⟨cell_of_row w g 0 _ t _ h, cell_of_row w g 1 _ t _ h, cell_of_row w g 2 _ t _ h, frozen_of_row w g 0 _ t h, frozen_of_row w g 1 _ t h, frozen_of_row w g 2 _ t h⟩
theorem wrongI_cases (xs : List ByteArray) : (wrongI xs = -1 ∧ ∀ x ∈ xs, Sl.wordL x.data.toList = true) ∨ (∃ k : Nat, ∃ hk : k < xs.length, wrongI xs = k ∧ Sl.wordL xs[k].data.toList = false) := by
 unfold wrongI
 cases h : xs.findIdx? (fun x => !Sl.wordL x.data.toList) with
 | none =>
  refine Or.inl ⟨rfl, fun x hx => ?_⟩
  have := List.findIdx?_eq_none_iff.1 h x hx
  simpa using this
 | some k =>
  obtain ⟨hk, h2, _⟩ := List.findIdx?_eq_some_iff_getElem.1 h
  exact Or.inr ⟨k, hk, rfl, by simpa using h2⟩
def TakePost (a : Nat → Addr) (ok : Bool) (hd tl : List UInt8) (e : Ending) (w' : World) : Prop :=
 if ok = true then ∃ b, Texts w' b 0 ((Sl.pieces hd).map Sl.ofL) ∧ e = .returned (.tuple #[.agg #[.string (Sl.ofL hd), .slice (some ⟨b, 0, none⟩) (Sl.pieces hd).length (Sl.pieces hd).length, .int .i64 (Sl.valL tl)], .nilIface])
 else e = .returned (.tuple #[.agg #[.string ⟨#[]⟩, .slice none 0 0, .int .i64 0], eV (a 0)])
theorem take_no (a : Nat → Addr) (ok : Bool) (hd tl : List UInt8) (e : Ending) (w' : World) (h : ok = false) (he : e = .returned (.tuple #[.agg #[.string ⟨#[]⟩, .slice none 0 0, .int .i64 0], eV (a 0)])) : TakePost a ok hd tl e w' := by
 unfold TakePost
 rw [h, if_neg (by decide)]
 exact he
theorem take_yes (a : Nat → Addr) (ok : Bool) (hd tl : List UInt8) (e : Ending) (w' : World) (h : ok = true) (b : Nat) (hx : Texts w' b 0 ((Sl.pieces hd).map Sl.ofL))
  (he : e = .returned (.tuple #[.agg #[.string (Sl.ofL hd), .slice (some ⟨b, 0, none⟩) (Sl.pieces hd).length (Sl.pieces hd).length, .int .i64 (Sl.valL tl)], .nilIface])) : TakePost a ok hd tl e w' := by
 unfold TakePost
 rw [h, if_pos rfl]
 exact ⟨b, hx, he⟩
theorem Texts.set {w : World} {b o : Nat} {xs : List ByteArray} (h : Texts w b o xs) {p : Addr} (hp : p.block ≠ b) (v : Value) : Texts (w.setCell p v) b o xs := fun j hj => by
 rw [World.cell?_setCell_other _ _ _ _ (fun e => hp (by rw [e]))]; exact h j hj
set_option maxRecDepth 100000 in
set_option maxHeartbeats 4000000 in
theorem take_cut (a : Nat → Addr) (s : ByteArray) (hd tl : List UInt8) (w : World) (h : EnvE a w) (hs : s.size ≤ 4000) (hs2 : s.data.toList = hd ++ 32 :: tl) (ht : (32 : UInt8) ∉ tl) :
  Calls Tryz.prog 103 #[.string s] w fun e w' => Below w.heap.size w w' ∧ TakePost a (Sl.lookOk s.data.toList) hd tl e w' := by
 have HL := hide (fun w => lastIndex_any s w hs)
 have e1 := lastIdx_cut s hd tl hs2 ht
 rw [e1] at HL
 have hsz : s.size = hd.length + 1 + tl.length := by rw [← size_list, hs2]; simp; omega
 have h1 : s.extract 0 hd.length = Sl.ofL hd := Sl.ba_ext (by rw [Lib.extract_from_zero, hs2, Sl.toL_ofL, List.take_left])
 have h2 : s.extract (hd.length + 1) (hd.length + 1 + tl.length) = Sl.ofL tl := by
  rw [← hsz]
  exact Sl.ba_ext (by rw [Lib.extract_to_end, hs2, Sl.toL_ofL]; simp [List.drop_append])
 have HN : Hid (∀ w, Calls Tryz.prog 104 #[.string (Sl.ofL tl), .int .i64 1000000006] w fun e w' => e = .returned (.tuple #[.int .i64 (numV tl 1000000006), .bool (numB tl 1000000006)]) ∧ Below w.heap.size w w') :=
  fun w => number_any (Sl.ofL tl) 1000000006 w (by rw [Sl.ofL_size]; unfold maxLen; omega)
 have HSp : Hid (∀ w, EnvE a w → Calls Tryz.prog 151 #[.string (Sl.ofL hd), .string ⟨#[32]⟩] w fun e w' =>
   e = .returned (.slice (some ⟨w.heap.size, 0, none⟩) (Sl.pieces hd).length (Sl.pieces hd).length) ∧ Texts w' w.heap.size 0 ((Sl.pieces hd).map Sl.ofL) ∧ Below w.heap.size w w') :=
  fun w hw => split_any a (Sl.ofL hd) w hw (by rw [Sl.ofL_size]; omega)
 have hok : Sl.lookOk s.data.toList = (numB tl 1000000006 && Sl.wordsOk (Sl.pieces hd)) := by
  obtain ⟨w1, w2⟩ := Sl.look_cut hd tl ht
  rw [hs2]
  unfold Sl.lookOk numB
  rw [w1, w2]
  congr 2
  rw [decide_eq_decide]; omega
 have hbig : (Sl.pieces hd).length ≤ 4001 := by have := pieces_len hd; omega
 have HE := hide h
 have Hg : Hid (6 < w.heap.size) := cell_lt (h.errs.var 0 (by decide) rfl)
 rw [hok]
 clear h e1 hs2 hok
 have HOK : Hid ((numB tl 1000000006 && Sl.wordsOk (Sl.pieces hd)) = (numB tl 1000000006 && Sl.wordsOk (Sl.pieces hd))) := rfl
 generalize hokv : (numB tl 1000000006 && Sl.wordsOk (Sl.pieces hd)) = ok
 have HOK2 := hide hokv
 clear hokv HOK
 go_enter Tryz.func103, Tryz.ntmps103
 go_wp2_with fail
 refine (HL.out _).mono ?_
 rintro e w1 ⟨rfl, rfl⟩
 have hrow := heap_alloc_new w (.cells #[.string ⟨#[]⟩, .slice none 0 0, .int .i64 0] 150)
 have hB0 : (Below w.heap.size w (w.alloc (.cells #[.string ⟨#[]⟩, .slice none 0 0, .int .i64 0] 150))) := (Below.refl _ w).alloc (Nat.le_refl _) _
 have hlt : w.heap.size < (w.alloc (.cells #[.string ⟨#[]⟩, .slice none 0 0, .int .i64 0] 150)).heap.size := by simp
 have HE0 := hide (HE.out.below hB0)
 have HB0 := hide hB0
 have HR0 := hide hrow
 have HT0 := hide hlt
 clear hrow hB0 hlt HE
 generalize w.alloc (.cells #[.string ⟨#[]⟩, .slice none 0 0, .int .i64 0] 150) = w0 at *
 go_wp2_with fail
 refine (HN.out _).mono ?_
 rintro e w1 ⟨rfl, hb⟩
 have HE1 := hide (HE0.out.below hb)
 have HR1 : Hid (w1.heap[w.heap.size]? = some (.cells #[.string ⟨#[]⟩, .slice none 0 0, .int .i64 0] 150 (0, 0))) := by show _ = _; rw [hb.block _ HT0.out]; exact HR0.out
 have HB1 : Hid (Below w.heap.size w w1) := HB0.out.trans (hb.mono HB0.out.size)
 have HT1 : Hid (w.heap.size < w1.heap.size) := Nat.lt_of_lt_of_le HT0.out hb.size
 clear hb HE0 HR0 HB0 HT0 HL HN
 go_wp2_with fail
 refine (HSp.out _ HE1.out).mono ?_
 rintro e w2 ⟨rfl, htx, hb⟩
 have HX := hide htx
 have HE2 := hide (HE1.out.below hb)
 have HR2 : Hid (w2.heap[w.heap.size]? = some (.cells #[.string ⟨#[]⟩, .slice none 0 0, .int .i64 0] 150 (0, 0))) := by show _ = _; rw [hb.block _ HT1.out]; exact HR1.out
 have HB2 : Hid (Below w.heap.size w w2) := HB1.out.trans (hb.mono HB1.out.size)
 have HT2 : Hid (w.heap.size < w2.heap.size) := Nat.lt_of_lt_of_le HT1.out hb.size
 clear hb htx HE1 HR1 HB1 HSp
 have HBne : Hid (w.heap.size ≠ w1.heap.size) := Nat.ne_of_lt HT1.out
 generalize hg1 : w1.heap.size = b1 at *
 clear hg1 HT1
 cases hnb : numB tl 1000000006 with
 | false =>
  have hv := HE2.out.errs.var 0 (by decide) rfl
  simp only [errG, List.getD_cons_zero] at hv
  have hv2 : ∀ v, (w2.setCell ⟨w.heap.size, 0, none⟩ v).cell? ⟨6, 0, none⟩ = some (eV (a 0)) := fun v => by
   rw [World.cell?_setCell_other _ _ _ _ (fun e => by have := Hg.out; have := (Addr.mk.inj e).1; omega)]; exact hv
  obtain ⟨hc0, hc1, hc2, hf0, hf1, hf2⟩ := row_cells HR2.out
  generalize numV tl 1000000006 = v
  generalize (Sl.pieces hd).length = n at *
  go_wp2
  go_region
  go_wp2
  refine takeEnd w.heap.size _ rfl (row_set3 HR2.out _ _ _) rfl rfl ?_
  exact ⟨(((HB2.out.setCell (Nat.le_refl _) _).setCell (Nat.le_refl _) _).setCell (Nat.le_refl _) _).drew, take_no _ _ _ _ _ _ (by rw [← HOK2.out, hnb]; rfl) rfl⟩
 | true =>
  have hnv : numV tl 1000000006 = (Sl.valL tl : Int) := by simp [numV, hnb]
  rw [hnv]
  clear hnv
  generalize hvl : (Sl.valL tl : Int) = v
  have HVL := hide hvl
  clear hvl
  by_cases hcnt : 1 ≤ (Sl.pieces hd).length ∧ (Sl.pieces hd).length ≤ 10
  ·
   have HC := hide (fun w => isCount_any ((Sl.pieces hd).length : Int) w)
   rw [decide_eq_true (by omega)] at HC
   have HF := hide (firstWrong_any ((Sl.pieces hd).map Sl.ofL) b1 0 (Sl.pieces hd).length (Sl.pieces hd).length w2 (fun x hx => by
    obtain ⟨l, hl, rfl⟩ := List.mem_map.1 hx
    rw [Sl.ofL_size]
    have := pieces_part hd l hl
    unfold maxLen; omega) (by omega) (by simp) HX.out)
   have hwo : Sl.wordsOk (Sl.pieces hd) = (Sl.pieces hd).all Sl.wordL := by
    unfold Sl.wordsOk
    rw [decide_eq_true hcnt]
    rfl
   have HXS := hide hcnt
   rcases wrongI_cases ((Sl.pieces hd).map Sl.ofL) with ⟨hi, hall⟩ | ⟨k, hk, hi, hno⟩
   ·
    have hwo2 : Sl.wordsOk (Sl.pieces hd) = true := by
     rw [hwo, List.all_eq_true]
     intro l hl
     exact hall (Sl.ofL l) (List.mem_map.2 ⟨l, hl, rfl⟩)
    rw [hi] at HF
    have HW : Hid (ok = true) := by show _ = _; rw [← HOK2.out, hnb, hwo2]; rfl
    clear hwo hall hi hwo2 hcnt HOK2 hnb
    generalize hlen : (Sl.pieces hd).length = n at *
    have HLen := hide hlen
    clear hlen
    go_wp2_with fail
    refine (HC.out _).mono ?_
    rintro e w3 ⟨rfl, rfl⟩
    go_wp2_with fail
    refine HF.out.mono ?_
    rintro e w4 ⟨rfl, hb⟩
    have HE3 := hide (HE2.out.below hb)
    have HX3 := hide (HX.out.below hb)
    have HR3 : Hid (w4.heap[w.heap.size]? = some (.cells #[.string ⟨#[]⟩, .slice none 0 0, .int .i64 0] 150 (0, 0))) := by show _ = _; rw [hb.block _ HT2.out]; exact HR2.out
    have HB3 : Hid (Below w.heap.size w w4) := HB2.out.trans (hb.mono HB2.out.size)
    clear hb HE2 HX HR2 HB2 HF HC
    obtain ⟨hc0, hc1, hc2, hf0, hf1, hf2⟩ := row_cells HR3.out
    go_wp2
    refine takeEnd w.heap.size _ rfl (row_set3 HR3.out _ _ _) rfl rfl ?_
    refine ⟨((HB3.out.setCell (Nat.le_refl _) _).setCell (Nat.le_refl _) _).setCell (Nat.le_refl _) _, take_yes _ _ _ _ _ _ HW.out b1 (((HX3.out.set ?_ _).set ?_ _).set ?_ _) ?_⟩
    ·
     exact HBne.out
    ·
     exact HBne.out
    ·
     exact HBne.out
    ·
     rw [HLen.out, HVL.out]; rfl
   ·
    have hwo2 : Sl.wordsOk (Sl.pieces hd) = false := by
     rw [hwo, List.all_eq_false]
     refine ⟨((Sl.pieces hd).map Sl.ofL)[k].data.toList, ?_, by rw [hno]; decide⟩
     rw [List.getElem_map, Sl.toL_ofL]
     exact List.getElem_mem _
    rw [hi] at HF
    have HW : Hid (ok = false) := by show _ = _; rw [← HOK2.out, hnb, hwo2]; rfl
    have hk0 : (0 : Int) ≤ (k : Int) := by omega
    clear hwo hno hi hwo2 hcnt HOK2 hnb hk
    generalize (k : Int) = kz at *
    generalize (Sl.pieces hd).length = n at *
    go_wp2_with fail
    refine (HC.out _).mono ?_
    rintro e w3 ⟨rfl, rfl⟩
    go_wp2_with fail
    refine HF.out.mono ?_
    rintro e w4 ⟨rfl, hb⟩
    have HE3 := hide (HE2.out.below hb)
    have HR3 : Hid (w4.heap[w.heap.size]? = some (.cells #[.string ⟨#[]⟩, .slice none 0 0, .int .i64 0] 150 (0, 0))) := by show _ = _; rw [hb.block _ HT2.out]; exact HR2.out
    have HB3 : Hid (Below w.heap.size w w4) := HB2.out.trans (hb.mono HB2.out.size)
    clear hb HE2 HX HR2 HB2 HF HC
    have hv := HE3.out.errs.var 0 (by decide) rfl
    simp only [errG, List.getD_cons_zero] at hv
    have hv2 : ∀ v, (w4.setCell ⟨w.heap.size, 0, none⟩ v).cell? ⟨6, 0, none⟩ = some (eV (a 0)) := fun v => by
     rw [World.cell?_setCell_other _ _ _ _ (fun e => by have := Hg.out; have := (Addr.mk.inj e).1; omega)]; exact hv
    obtain ⟨hc0, hc1, hc2, hf0, hf1, hf2⟩ := row_cells HR3.out
    go_wp2
    go_region
    go_wp2
    refine takeEnd w.heap.size _ rfl (row_set3 HR3.out _ _ _) rfl rfl ?_
    exact ⟨(((HB3.out.setCell (Nat.le_refl _) _).setCell (Nat.le_refl _) _).setCell (Nat.le_refl _) _).drew, take_no _ _ _ _ _ _ HW.out rfl⟩
  ·
   have HC := hide (fun w => isCount_any ((Sl.pieces hd).length : Int) w)
   rw [decide_eq_false (by omega)] at HC
   have hwo2 : Sl.wordsOk (Sl.pieces hd) = false := by
    unfold Sl.wordsOk
    rw [decide_eq_false hcnt]
    rfl
   have HW : Hid (ok = false) := by show _ = _; rw [← HOK2.out, hnb, hwo2]; rfl
   have hv := HE2.out.errs.var 0 (by decide) rfl
   simp only [errG, List.getD_cons_zero] at hv
   have hv2 : ∀ v, (w2.setCell ⟨w.heap.size, 0, none⟩ v).cell? ⟨6, 0, none⟩ = some (eV (a 0)) := fun v => by
    rw [World.cell?_setCell_other _ _ _ _ (fun e => by have := Hg.out; have := (Addr.mk.inj e).1; omega)]; exact hv
   obtain ⟨hc0, hc1, hc2, hf0, hf1, hf2⟩ := row_cells HR2.out
   clear hwo2 hcnt HOK2 hnb
   generalize (Sl.pieces hd).length = n at *
   go_wp2_with fail
   refine (HC.out _).mono ?_
   rintro e w3 ⟨rfl, rfl⟩
   go_wp2
   go_region
   go_wp2
   refine takeEnd w.heap.size _ rfl (row_set3 HR2.out _ _ _) rfl rfl ?_
   exact ⟨(((HB2.out.setCell (Nat.le_refl _) _).setCell (Nat.le_refl _) _).setCell (Nat.le_refl _) _).drew, take_no _ _ _ _ _ _ HW.out rfl⟩
end Go.Proofs.YtabpnjchocgakaaGreatDoor

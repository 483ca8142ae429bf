/-
  The library's DeleteFunc with the closure of package floor's raised: of a row of one's own what is kept stays, in the same row; nothing else is written.
-/
import Derived.Test.YtabpnjchocgakaaGreatDoorPk07
namespace Go.Proofs.YtabpnjchocgakaaGreatDoor
open Go.RowKit Go.Extern.Stop Go.Stop Go.Extern Go.Proofs
theorem Tryz.zeroFloor (w : World) : (zeroValue 112).run Tryz.prog w = .ok (.agg #[.string ByteArray.empty, .int .i64 0]) w := by kernel_rfl
theorem grownBy_trans {a b c : World} {row : Option Nat} (h : a.grownBy b row) (k : b.grownBy c row) : a.grownBy c row :=
 ⟨k.os.trans h.os, k.tape.trans h.tape, k.output.trans h.output, Nat.le_trans h.size k.size, fun i hi hn => (k.block i (Nat.lt_of_lt_of_le hi h.size) hn).trans (h.block i hi hn)⟩
theorem grownBy_of {w w' : World} (h : Below w.heap.size w w') (row : Option Nat) : w.grownBy w' row := ⟨h.os, h.tape, h.output, h.size, fun k hk _ => h.block k hk⟩
theorem grownBy_set (w : World) (g o : Nat) (u : Value) : w.grownBy (w.setCell ⟨g, o, none⟩ u) (some g) :=
 ⟨rfl, rfl, rfl, by simp, fun k _ hk => heap_setCell_other w ⟨g, o, none⟩ k u (fun e => hk (by rw [e]))⟩
theorem grownBy_setRow {w : World} {g : Nat} (cs : Array Value) : w.grownBy (w.setRow g cs) (some g) :=
 ⟨rfl, rfl, rfl, by simp, fun k _ hk => setRow_other w g k cs (fun e => hk (by rw [e]))⟩
theorem zeros_len (n : Nat) : (Builtin.zeroCells (Value.agg #[.string ByteArray.empty, .int .i64 0]).cells n).toList.length = n * 2 := by
 simp [Builtin.zeroCells, Value.cells]
theorem zeros_one (n : Nat) : ∀ v ∈ (Builtin.zeroCells (Value.agg #[.string ByteArray.empty, .int .i64 0]).cells n).toList, v.oneCell' = true := by
 intro v hv
 simp only [Builtin.zeroCells, Value.cells, Array.toList_map, List.mem_map] at hv
 obtain ⟨i, _, rfl⟩ := hv
 have h2 : i % 2 < 2 := Nat.mod_lt _ (by decide)
 rcases Nat.lt_or_ge (i % 2) 1 with g | g
 ·
  have e : i % 2 = 0 := by omega
  show (#[Value.string ByteArray.empty, Value.int .i64 0][i % 2]!).oneCell' = true
  rw [e]; rfl
 ·
  have e : i % 2 = 1 := by omega
  show (#[Value.string ByteArray.empty, Value.int .i64 0][i % 2]!).oneCell' = true
  rw [e]; rfl
set_option maxRecDepth 100000 in
set_option maxHeartbeats 8000000 in
theorem deleteFunc_any (B fb : Nat) (f : Fl) (v : Value) (l : List Fl) (w : World) (hf : w.heap[fb]? = some (flO f)) (hv : OwnF w B v l) (hne : v.ownBlock ≠ some fb) (hl : l.length ≤ 1000000) :
  Calls Tryz.prog 159 #[v, .func (.func 160) #[] #[.pointer (some ⟨fb, 0, none⟩)]] w fun e w' => ∃ v', e = .returned v' ∧ OwnF w' B v' (keptF l f) ∧ v'.ownBlock = v.ownBlock ∧ w.grownBy w' v.ownBlock := by
 have HI := hide (indexFuncF fb f v l w hf hv.flAt hl)
 have eg : ∀ args w, (callFunc 160 args).run Tryz.prog w = .ok (.enter 160 args) w := enters_of Tryz.func160 (by kernel_rfl) rfl
 rcases goneI_cases l f with ⟨hi, hno⟩ | ⟨k, hk, hi, hk1, hk2⟩
 ·
  rw [hi] at HI
  have HK := hide (kept_none l f hno)
  have HV := hide hv
  clear hno hi hv hf hne
  go_enter Tryz.func159, Tryz.ntmps159
  go_wp2_with fail
  refine HI.out.mono ?_
  rintro e w1 ⟨rfl, hb⟩
  go_wp2
  go_ret
  exact ⟨_, rfl, by rw [HK.out]; exact HV.out.below hb, rfl, grownBy_of hb _⟩
 ·
  obtain ⟨g, cap, tl, rfl, hB, hrow, htl, hcap, hmax⟩ := hv.row (by omega)
  rw [hi] at HI
  have HFB := hide hf
  have HNe : Hid (g ≠ fb) := fun e => hne (by rw [e]; rfl)
  have HRow := hide hrow
  have HK : Hid (KeptTo l f (k + 1) k l) := ⟨rfl, by omega, (kept_first l f k hk hk1 hk2).symm, rfl⟩
  have HP := hide (fun o W h => raised1_any fb f o W h)
  have HTl := hide htl
  have hne1 : ((k : Int) == -1) = false := beq_eq_false_iff_ne.2 (by omega)
  have hkn : k < l.length := hk
  clear hk1 hk2 hv hf hne hrow hi htl hk
  generalize hn : l.length = n at *
  have HN := hide hn
  clear hn
  go_enter Tryz.func159, Tryz.ntmps159
  go_wp2_with fail
  refine HI.out.mono ?_
  rintro e w1 ⟨rfl, hb⟩
  have HG1 : Hid (w.grownBy w1 (some g)) := grownBy_of hb _
  have HR1 : Hid (RowF w1 g tl l) := HRow.out.keep (hb.block g HRow.out.lt)
  clear hb HI
  go_wp2
  go_loopg [5, 6, 7] n (fun gg s5 s6 _ wr => ∃ i j : Nat, s5 = .int .i64 i ∧ s6 = .int .i64 j ∧ j ≤ n ∧ n - j ≤ gg ∧ Hid (w.grownBy wr (some g)) ∧ ∃ d, Hid (RowF wr g tl d ∧ KeptTo l f j i d))
  case atStart => exact ⟨k, k + 1, rfl, by go_num, by omega, by omega, HG1, l, (⟨HR1.out, HK.out⟩ : RowF w1 g tl l ∧ KeptTo l f (k + 1) k l)⟩
  case round =>
   clear HG1 HR1 HK
   obtain ⟨i, j, rfl, rfl, hjn, hgg, HG, d, HD⟩ := hrel
   have hij : i < j := HD.out.2.lt
   by_cases hlt : j < n
   ·
    have hltz : (j : Int) < (n : Int) := by omega
    have hjl : j < l.length := by rw [HN.out]; exact hlt
    have hjd : j < d.length := by rw [HD.out.2.len]; exact hjl
    obtain ⟨c0, c1⟩ := HD.out.1.cell j hjd
    rw [HD.out.2.at hjl] at c0 c1
    have HFb : Hid (wr.heap[fb]? = some (flO f)) := by
     show _ = _
     rw [HG.out.block fb (row_lt HFB.out) (by intro e; exact HNe.out (Option.some.inj e).symm)]
     exact HFB.out
    have HC : Hid (Calls Tryz.prog 160 #[.agg #[.string l[j].who, .int .i64 l[j].ep], .pointer (some ⟨fb, 0, none⟩)] (wr.alloc (.cells #[.string l[j].who, .int .i64 l[j].ep] 112)) fun e w' => e = .returned (.bool (goesF f l[j])) ∧ Below (wr.alloc (.cells #[.string l[j].who, .int .i64 l[j].ep] 112)).heap.size (wr.alloc (.cells #[.string l[j].who, .int .i64 l[j].ep] 112)) w') := HP.out l[j] _ (by rw [Below.heap_alloc _ _ _ (row_lt HFb.out)]; exact HFb.out)
    have HA : Hid ((wr.alloc (.cells #[.string l[j].who, .int .i64 l[j].ep] 112)).heap[wr.heap.size]? = some (.cells #[.string l[j].who, .int .i64 l[j].ep] 112 (0, 0))) := heap_alloc_new _ _
    have HAB : Hid (Below wr.heap.size wr (wr.alloc (.cells #[.string l[j].who, .int .i64 l[j].ep] 112))) := (Below.refl _ _).alloc (Nat.le_refl _) _
    have hLj : Hid (∀ x : Fl, x.who = l[j].who → x.ep = l[j].ep → x = l[j]) := fun x h1 h2 => Fl.same (by unfold Fl.nm; rw [h1]) h2
    cases hq : goesF f l[j] with
    | true =>
     have HQ := hide hq
     rw [hq] at HC
     clear hq
     generalize l[j].who = who at *
     generalize l[j].ep = ep at *
     go_wp2_with fail
     refine HC.out.mono ?_
     rintro e w3 ⟨rfl, hb⟩
     have HB3 : Hid (Below wr.heap.size wr w3) := HAB.out.trans (hb.mono HAB.out.size)
     clear hb HC
     go_wp2
     go_roundg (n - (j + 1))
     case measure => omega
     case rel => exact ⟨i, j + 1, rfl, by go_num, by omega, by omega, grownBy_trans HG.out (grownBy_of HB3.out _), d, (⟨HD.out.1.keep (HB3.out.block g HD.out.1.lt), HD.out.2.skip hjl HQ.out⟩ : RowF w3 g tl d ∧ KeptTo l f (j + 1) i d)⟩
    | false =>
     have HQ := hide hq
     rw [hq] at HC
     clear hq
     generalize hwho : l[j].who = who at *
     generalize hep : l[j].ep = ep at *
     have HW := hide hwho
     have HEp := hide hep
     clear hwho hep
     go_wp2_with fail
     refine HC.out.mono ?_
     rintro e w3 ⟨rfl, hb⟩
     have HB3 : Hid (Below wr.heap.size wr w3) := HAB.out.trans (hb.mono HAB.out.size)
     have hrow3 : w3.heap[wr.heap.size]? = some (.cells #[.string who, .int .i64 ep] 112 (0, 0)) := by rw [hb.block _ (by simp)]; exact HA.out
     have e0 : w3.cell? ⟨wr.heap.size, 0, none⟩ = some (.string who) := cell_of_row w3 _ 0 _ _ _ hrow3
     have e1 : w3.cell? ⟨wr.heap.size, 1, none⟩ = some (.int .i64 ep) := cell_of_row w3 _ 1 _ _ _ hrow3
     have HR3 : Hid (RowF w3 g tl d) := HD.out.1.keep (HB3.out.block g HD.out.1.lt)
     have hid : i < d.length := by omega
     obtain ⟨f0, f1⟩ := HR3.out.cell i hid
     have z0 := HR3.out.frozen (i * 2)
     have z1 := HR3.out.frozen (i * 2 + 1)
     have hin : (i : Int) < (n : Int) := by omega
     have hil : i < n := by omega
     clear hb HC hrow3
     generalize d[i].who = ow at f0
     generalize d[i].ep = oe at f1
     go_wp2
     go_roundg (n - (j + 1))
     case measure => omega
     case rel =>
      refine ⟨i + 1, j + 1, by go_num, by go_num, by omega, by omega, grownBy_trans HG.out (grownBy_trans (grownBy_of HB3.out _) (grownBy_trans (grownBy_set _ _ _ _) (grownBy_set _ _ _ _))), d.set i l[j], (show Hid _ from ⟨?_, HD.out.2.keep hjl HQ.out⟩)⟩
      have := HR3.out.set i hid l[j]
      rw [HW.out, HEp.out] at this
      exact this
   ·
    obtain rfl : j = n := by omega
    have hltz : ¬ (j : Int) < (j : Int) := by omega
    have hid : i < d.length := by rw [HD.out.2.len, HN.out]; exact hij
    obtain ⟨cur, hc1, hc2⟩ := HD.out.1
    have hcl : ∀ ty, (Builtin.clear_ #[54] ty #[.slice (some ⟨g, i * 2, none⟩) (j - i) (cap - i)]).run Tryz.prog wr = .ok (.tuple #[]) (wr.setRow g (cur.toList.take (i * 2) ++ (Builtin.zeroCells (Value.agg #[.string ByteArray.empty, .int .i64 0]).cells (j - i)).toList ++ cur.toList.drop (i * 2 + (Builtin.zeroCells (Value.agg #[.string ByteArray.empty, .int .i64 0]).cells (j - i)).toList.length)).toArray) := fun ty =>
     run_clear_rowK wr _ _ ty _ Tryz.underlying54 Tryz.zeroFloor g (i * 2) (j - i) (cap - i) (by omega) cur _ _ rfl hc1 (by
      rw [zeros_len]
      have := congrArg List.length hc2
      rw [List.length_append, cellsF_len, HD.out.2.len, HN.out, Array.length_toList] at this
      omega) (zeros_one _)
    have HZ : Hid (∃ cur' : Array Value, (wr.setRow g (cur.toList.take (i * 2) ++ (Builtin.zeroCells (Value.agg #[.string ByteArray.empty, .int .i64 0]).cells (j - i)).toList ++ cur.toList.drop (i * 2 + (Builtin.zeroCells (Value.agg #[.string ByteArray.empty, .int .i64 0]).cells (j - i)).toList.length)).toArray).heap[g]? = some (.cells cur' 112 (0, 0)) ∧ cur'.size = cap * 2 ∧ cur'.toList.take (i * 2) = cellsF (d.take i)) := by
     refine ⟨_, setRow_heap wr g cur _ _ _ hc1, ?_, ?_⟩
     ·
      have e1 := congrArg List.length hc2
      rw [List.length_append, cellsF_len, HD.out.2.len, HN.out, Array.length_toList] at e1
      have e2 := HTl.out
      rw [List.size_toArray, List.length_append, List.length_append, List.length_take, List.length_drop, zeros_len, Array.length_toList]
      omega
     ·
      rw [List.append_assoc, List.take_append_of_le_length (by
       rw [List.length_take, hc2, List.length_append, cellsF_len]; omega), List.take_take, Nat.min_self, hc2, List.take_append_of_le_length (by rw [cellsF_len]; omega), cellsF_take]
    have HGr : Hid (wr.grownBy (wr.setRow g (cur.toList.take (i * 2) ++ (Builtin.zeroCells (Value.agg #[.string ByteArray.empty, .int .i64 0]).cells (j - i)).toList ++ cur.toList.drop (i * 2 + (Builtin.zeroCells (Value.agg #[.string ByteArray.empty, .int .i64 0]).cells (j - i)).toList.length)).toArray) (some g)) := grownBy_setRow _
    generalize wr.setRow g _ = w4 at hcl HZ HGr
    have hni : ¬ cap = i := by omega
    have hile : (i : Int) ≤ (j : Int) := by omega
    have hij2 : i ≤ j := by omega
    have hic : i ≤ cap := by omega
    have hid2 : Hid (i ≤ d.length) := Nat.le_of_lt hid
    clear hc1 hc2 hid
    go_wp2
    go_ret
    have hk : d.take i = keptF l f := by
     rw [HD.out.2.head]
     unfold keptF
     rw [List.take_of_length_le (Nat.le_of_eq HN.out)]
    obtain ⟨cur', g1, g2, g3⟩ := HZ.out
    refine ⟨_, rfl, ?_, rfl, grownBy_trans HG.out HGr.out⟩
    rw [← hk]
    have hl2 : (d.take i).length = i := by rw [List.length_take]; have := hid2.out; omega
    exact ⟨by rw [cellsF_len], Or.inr ⟨g, cap, cur', by rw [hl2]; rfl, hB, g1, by rw [hl2]; omega, hmax, g2, by rw [hl2]; exact g3⟩⟩
end Go.Proofs.YtabpnjchocgakaaGreatDoor

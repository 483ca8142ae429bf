/-
  What slices.Grow and slices.Concat give at entries: room in new memory; two lists one behind the other, in new memory, whatever the two are.
-/
import Derived.Test.YtgagekcjdapkfacGreatDoorFeedPa
import Derived.Lib.AppendZeros
import Derived.Deep.LoopGhost
namespace Go.Proofs.YtgagekcjdapkfacGreatDoor
open Go.RowKit Go.Extern.Stop Go.Stop Go.Extern Go.Proofs

theorem run_append_nilE (w : World) (ty : TypeId) (vs : Value) (B n cap : Nat) (xs : List Value) (h : w.ownsRow B 80 4 vs n xs) : (Builtin.append_ #[22, 22] ty #[vs, .slice none 0 cap]).run Tryz.prog w = .ok vs w := by
  obtain ⟨i0, hi, hz0, hz1, hz2⟩ := info_parts Tryz.infoEntry
  rcases h.2 with ⟨rfl, h0⟩ | ⟨g, c, cur, rfl, hb, hg, hc, hm, hs, ht⟩
  · kernel_rfl
  · simp [Builtin.append_, run_underlying Tryz.underlying22, Builtin.lenOf, Builtin.firstCells, sizeOf, typeInfo, hi, hc, storeCells]
/-- append of any entries to a row of one's own. -/
theorem wpList_append_en {ops : Array Oper} {rest : List Oper} {o : Oper} {a : Act} {Q : Exit → Act → World → Prop} (w : World) (hgd : o.guard = none) (s x : Operand)
    (ho : o.op = .call { callee := .builtin .append, args := #[s, x], argTypes := #[22, 22] })
    (B : Nat) (vs vx : Value) (l m : List En) (hs : a.eval s = vs) (hx : a.eval x = vx) (hown : OwnE w B vs l) (hm : EnAt w vx m) (hl : l.length + m.length ≤ 2000000) (hB : B ≤ w.heap.size)
    (h : ∀ v' w', OwnE w' B v' (l ++ m) → w.grownBy w' vs.ownBlock → wpList Tryz.prog ops Q rest (a.put o.dst v') w') : wpList Tryz.prog ops Q (o :: rest) a w := by
  obtain ⟨i0, hi, hz0, hz1, hz2⟩ := info_parts Tryz.infoEntry
  rcases hm with ⟨ad, cap, rfl, rfl⟩ | ⟨b, off, cap, rfl, hc, hcell⟩
  · cases ad with
    | none =>
      refine Lib.wpList_append_run w hgd s x _ _ ho vs _ hs hx vs w (run_append_nilE w _ vs B _ cap _ hown) (h vs w (by simpa using hown) ⟨rfl, rfl, rfl, Nat.le_refl _, fun _ _ _ => rfl⟩)
    | some ad =>
      refine wpList_append_own w hgd s x 22 ho B 80 i0 _ 4 40 Tryz.underlying22 hi hz0 hz1 hz2 rfl (by decide) vs l.length (cellsE l) hs hown ad 0 cap [] hx rfl (fun j u hj => by simp at hj) (by simp) (by simp only [List.length_nil] at hl; unfold maxLen; omega) (by simp only [List.length_nil] at hl; omega) hB ?_
      intro v' w' h1 h2 _
      exact h v' w' (by simpa using h1) h2
  · refine wpList_append_own w hgd s x 22 ho B 80 i0 _ 4 40 Tryz.underlying22 hi hz0 hz1 hz2 rfl (by decide) vs l.length (cellsE l) hs hown ⟨b, off, none⟩ m.length cap (cellsE m) hx (cellsE_len m) (fun j u hu => by rw [Addr.add_lit]; exact hcell j u hu) (cellsE_one m) (by unfold maxLen; omega) (by omega) hB ?_
    intro v' w' h1 h2 _
    refine h v' w' ?_ h2
    show w'.ownsRow B 80 4 v' (l ++ m).length (cellsE (l ++ m))
    rw [List.length_append, cellsE_append]
    exact h1

theorem zerosE_len (n : Nat) : (Builtin.zeroCells (Value.agg #[.int .i64 0, .int .i64 0, .string ByteArray.empty, .int .i64 0]).cells n).size = n * 4 := by
  rw [size_zeroCells]
  rfl

set_option maxRecDepth 100000 in
set_option maxHeartbeats 1000000 in
theorem growE_any (n : Nat) (w : World) (hn : n ≤ 1000000) :
    Calls Tryz.prog 112 #[.slice none 0 0, .int .i64 n] w fun e w' => ∃ v', e = .returned v' ∧ OwnE w' w.heap.size v' [] ∧ Below w.heap.size w w' := by
  obtain ⟨i0, hi, hz0, hz1, hz2⟩ := info_parts Tryz.infoEntry
  have hneg : ¬ ((n : Int) < 0) := by omega
  by_cases h0 : n = 0
  · subst h0
    go_enter Tryz.func112, Tryz.ntmps112
    go_wp2
    go_ret
    exact ⟨_, rfl, OwnE.nil _ _, Below.refl _ _⟩
  · have hpos : (0 : Int) < (n : Int) := by omega
    have hr := fun ty => Lib.run_append_nil_zeros w 22 3 ty 80 i0 _ .i64 .i64 Tryz.underlying22 Tryz.underlying3 hi hz0 n (by omega) (by omega) (by omega) (by rw [hz2]; omega)
    have hge : n ≤ grownCap w n 0 80 := grownCap_ge w _ _ _
    have hle : grownCap w n 0 80 ≤ maxLen := grownCap_le_maxLen w _ _ _ (by unfold maxLen; omega)
    have hsz : (Builtin.zeroCells (Value.agg #[.int .i64 0, .int .i64 0, .string ByteArray.empty, .int .i64 0]).cells n ++ Builtin.zeroCells (Value.agg #[.int .i64 0, .int .i64 0, .string ByteArray.empty, .int .i64 0]).cells (grownCap w n 0 80 - n)).size = grownCap w n 0 80 * 4 := by
      rw [Array.size_append, zerosE_len, zerosE_len]; omega
    have HO := hide (World.ownsRow_made (base := w.heap.size) (e := 80) (size := 4) w.drew _ _ (Nat.le_refl _) hle hsz)
    have HB : Hid (Below w.heap.size w (w.drew.alloc (.cells (Builtin.zeroCells (Value.agg #[.int .i64 0, .int .i64 0, .string ByteArray.empty, .int .i64 0]).cells n ++ Builtin.zeroCells (Value.agg #[.int .i64 0, .int .i64 0, .string ByteArray.empty, .int .i64 0]).cells (grownCap w n 0 80 - n)) 80))) := (Below.refl _ w).drew.alloc (Nat.le_refl _) _
    generalize grownCap w n 0 80 = G at *
    generalize Builtin.zeroCells (Value.agg #[.int .i64 0, .int .i64 0, .string ByteArray.empty, .int .i64 0]).cells n ++ Builtin.zeroCells (Value.agg #[.int .i64 0, .int .i64 0, .string ByteArray.empty, .int .i64 0]).cells (G - n) = cs at *
    clear hsz hle hi hz0 hz1 hz2
    go_enter Tryz.func112, Tryz.ntmps112
    go_wp2_with (at_builtin; refine Lib.wpList_append_run _ rfl _ _ _ _ rfl _ _ rfl rfl _ _ (hr _) ?_)
    go_wp2
    go_ret
    exact ⟨_, rfl, HO.out, HB.out⟩

/-- How many of the first k of two lists; and they themselves. -/
def cat2 (l m : List En) (k : Nat) : List En := if k = 0 then [] else if k = 1 then l else l ++ m

set_option maxRecDepth 100000 in
set_option maxHeartbeats 4000000 in
theorem concat_any (b : Nat) (v1 v2 : Value) (l m : List En) (w : World) (h0 : w.cell? ⟨b, 0, none⟩ = some v1) (h1 : w.cell? ⟨b, 1, none⟩ = some v2) (hv1 : EnAt w v1 l) (hv2 : EnAt w v2 m) (hl : l.length + m.length ≤ 1000000) :
    Calls Tryz.prog 76 #[.slice (some ⟨b, 0, none⟩) 2 2] w fun e w' => ∃ v', e = .returned v' ∧ OwnE w' w.heap.size v' (l ++ m) ∧ Below w.heap.size w w' := by
  have HV1 := hide hv1
  have HV2 := hide hv2
  obtain ⟨ad1, cap1, rfl, hc1⟩ := hv1.form
  obtain ⟨ad2, cap2, rfl, hc2⟩ := hv2.form
  have HC0 := hide h0
  have HC1 := hide h1
  have HG := hide (fun w => growE_any (l.length + m.length) w hl)
  have hbl : b < w.heap.size := cell_lt h0
  clear hv1 hv2
  generalize hn1 : l.length = n1 at *
  generalize hn2 : m.length = n2 at *
  have HN1 := hide hn1
  have HN2 := hide hn2
  clear hn1 hn2
  have hb0 : ¬ ((n1 : Int) < 0) := by omega
  have hb1 : ¬ ((n1 : Int) + (n2 : Int) < 0) := by omega
  go_enter Tryz.func76, Tryz.ntmps76
  go_wp2
  go_loopg [3, 5, 11] 2 (fun gg s3 _ s11 wr => ∃ k : Nat, k ≤ 2 ∧ 2 - k ≤ gg ∧ s11 = .int .i64 k ∧ s3 = .int .i64 (if k = 0 then 0 else if k = 1 then n1 else n1 + n2 : Int) ∧ w = wr)
  case atStart => exact ⟨0, by omega, by omega, rfl, rfl, rfl⟩
  case round =>
    obtain ⟨k, hk, hg, rfl, rfl, rfl⟩ := hrel
    have hk3 : k = 0 ∨ k = 1 ∨ k = 2 := by omega
    rcases hk3 with rfl | rfl | rfl
    · go_wp2
      go_roundg 1
      case measure => omega
      case rel => exact ⟨1, by omega, by omega, by go_num, by go_num, rfl⟩
    · go_wp2
      go_roundg 0
      case measure => omega
      case rel => exact ⟨2, by omega, by omega, by go_num, by go_num, rfl⟩
    · go_wp2_with fail
      refine (HG.out _).mono ?_
      rintro e w1 ⟨v1, rfl, hown, hb⟩
      have HB1 := hide hb
      have HO1 : Hid (OwnE w1 w.heap.size v1 (cat2 l m 0)) := hown
      clear hown hb HG
      go_wp2
      go_loopg [6, 8, 27] 2 (fun gg s6 _ s27 wr => ∃ k : Nat, k ≤ 2 ∧ 2 - k ≤ gg ∧ s27 = .int .i64 k ∧ Hid (OwnE wr w.heap.size s6 (cat2 l m k)) ∧ Hid (Below w.heap.size w wr))
      case atStart => exact ⟨0, by omega, by omega, rfl, HO1, HB1⟩
      case round =>
        clear HO1 HB1
        obtain ⟨k, hk, hg, rfl, HO, HB⟩ := hrel
        have HEnd : Hid (∀ (x : List En) (v' : Value) (wz : World) (s : Value), OwnE wr w.heap.size s x → wr.grownBy wz s.ownBlock → Below w.heap.size w wz) := fun x v' wz s h1 h2 => HB.out.grown h2 HB.out.size (fun k hk => (h1.lt k hk).1)
        have c0 : wr.cell? ⟨b, 0, none⟩ = _ := (HB.out.cell (p := ⟨b, 0, none⟩) hbl).trans HC0.out
        have c1 : wr.cell? ⟨b, 1, none⟩ = _ := (HB.out.cell (p := ⟨b, 1, none⟩) hbl).trans HC1.out
        have hk3 : k = 0 ∨ k = 1 ∨ k = 2 := by omega
        rcases hk3 with rfl | rfl | rfl
        · have HV := hide (HV1.out.below HB.out)
          go_wp2_with (at_builtin; refine wpList_append_en _ rfl _ _ rfl w.heap.size _ _ [] l rfl rfl HO.out HV.out (by rw [List.length_nil, HN1.out]; omega) HB.out.size ?_; intro v' wz hown hgrow; have HO2 : Hid (OwnE wz w.heap.size v' (cat2 l m 1)) := hown; have HB2 := hide (HEnd.out _ v' wz _ HO.out hgrow); clear hown hgrow)
          go_wp2
          go_roundg 1
          case measure => omega
          case rel => exact ⟨1, by omega, by omega, by go_num, HO2, HB2⟩
        · have HV := hide (HV2.out.below HB.out)
          go_wp2_with (at_builtin; refine wpList_append_en _ rfl _ _ rfl w.heap.size _ _ l m rfl rfl HO.out HV.out (by rw [HN1.out, HN2.out]; omega) HB.out.size ?_; intro v' wz hown hgrow; have HO2 : Hid (OwnE wz w.heap.size v' (cat2 l m 2)) := hown; have HB2 := hide (HEnd.out _ v' wz _ HO.out hgrow); clear hown hgrow)
          go_wp2
          go_roundg 0
          case measure => omega
          case rel => exact ⟨2, by omega, by omega, by go_num, HO2, HB2⟩
        · clear HEnd
          go_wp2
          go_ret
          exact ⟨_, rfl, HO.out, HB.out⟩
end Go.Proofs.YtgagekcjdapkfacGreatDoor

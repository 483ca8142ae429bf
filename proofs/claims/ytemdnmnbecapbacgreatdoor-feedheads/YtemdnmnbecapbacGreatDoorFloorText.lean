/-
  What package floor's Text gives: the text of right floors, or an error; for every list.
-/
import Derived.Test.YtemdnmnbecapbacGreatDoorFloorCheck
import Derived.Test.YtemdnmnbecapbacGreatDoorFloorWords
import Derived.Test.YtemdnmnbecapbacGreatDoorSealNumber
import Derived.Deep.RegionHeld3
import Derived.Laws.MakeOwn
namespace Go.Proofs.YtemdnmnbecapbacGreatDoor
open Go.RowKit Go.Extern.Stop Go.Stop Go.Extern Go.Proofs

theorem below_growF (w : World) (k : Nat) (os : Array Obj) : Below w.heap.size w (Sort.grow (w.drewN k) os) := by
  refine ⟨rfl, rfl, rfl, ?_, fun j hj => ?_⟩
  · show w.heap.size ≤ (w.heap ++ os).size
    rw [Array.size_append]; omega
  · exact Sort.heap_grow_old (w.drewN k) os hj
/-- The table of powers of ten, as strconv reads it. -/
abbrev Tab10 (w : World) : Prop := Lib.TabIs Tryz.prog w "internal/strconv.uint64pow10" .u64 Lib.pow10Tab
theorem itoa_fl (n : Int) (w : World) (h : Tab10 w) (h0 : 0 ≤ n) (h1 : n ≤ 1073741824) :
    Calls Tryz.prog 61 #[.int .i64 n] w fun e w' => e = .returned (.string (txt (Lib.decDigits n.toNat))) ∧ Below w.heap.size w w' := by
  have hit : (⟨(Lib.itoa n).toArray⟩ : ByteArray) = txt (Lib.decDigits n.toNat) := by
    have e : n = (n.toNat : Int) := by omega
    rw [e, Lib.itoa_nonneg]
    rfl
  refine (Tryz.strconv_Itoa n (by omega) (by omega) w h).mono ?_
  rintro e w' ⟨rfl, k, os, rfl⟩
  exact ⟨by rw [hit], below_growF w k os⟩
theorem Tryz.pow10F : Tryz.prog.globalNamed "internal/strconv.uint64pow10" = some 18 := by kernel_rfl
theorem tab_below {w w' : World} (h : Tab10 w) (hb : Below w.heap.size w w') : Tab10 w' :=
  var?_below hb Tryz.pow10F (cell_lt (h.cell Tryz.pow10F 0 (by decide))) h
theorem Tryz.infoStringF : (Tryz.prog.info? 9).map (fun i => (i.zero, i.size, i.bytes)) = some (some (.string ByteArray.empty), 1, 16) := by kernel_rfl

/-- A row of texts being filled: the first k are those of the floors. -/
def PartsAt (w : World) (pb n : Nat) (l : List Fl) (k : Nat) : Prop := ∃ cur : Array Value, w.heap[pb]? = some (.cells cur 9 (0, 0)) ∧ cur.size = n ∧ ∀ j (hj : j < l.length), j < k → cur[j]? = some (.string (txt (oneT l[j])))
theorem PartsAt.keep {w w' : World} {pb n : Nat} {l : List Fl} {k : Nat} (h : PartsAt w pb n l k) (hb : w'.heap[pb]? = w.heap[pb]?) : PartsAt w' pb n l k := by
  obtain ⟨cur, h1, h2⟩ := h
  exact ⟨cur, by rw [hb]; exact h1, h2⟩
theorem PartsAt.lt {w : World} {pb n : Nat} {l : List Fl} {k : Nat} (h : PartsAt w pb n l k) : pb < w.heap.size := by
  obtain ⟨cur, h1, _⟩ := h
  exact row_lt h1
theorem PartsAt.spot {w : World} {pb n : Nat} {l : List Fl} {k : Nat} (h : PartsAt w pb n l k) (i : Nat) (hi : i < n) : (∃ v, w.cell? ⟨pb, i, none⟩ = some v) ∧ w.frozen? ⟨pb, i, none⟩ = false := by
  obtain ⟨cur, h1, h2, _⟩ := h
  rw [cell_of_row w pb i cur _ _ h1]
  exact ⟨⟨cur[i]'(by omega), Array.getElem?_eq_getElem _⟩, frozen_of_row w pb i cur _ h1⟩
theorem PartsAt.set {w : World} {pb n : Nat} {l : List Fl} {k : Nat} (h : PartsAt w pb n l k) (hk : k < l.length) (hn : l.length = n) : PartsAt (w.setCell ⟨pb, k, none⟩ (.string (txt (oneT l[k])))) pb n l (k + 1) := by
  obtain ⟨cur, h1, h2, h3⟩ := h
  refine ⟨cur.setIfInBounds k (.string (txt (oneT l[k]))), heap_setCell_same w pb k cur _ _ h1, by simpa using h2, fun j hj hjk => ?_⟩
  by_cases e : j = k
  · subst e
    rw [Array.getElem?_setIfInBounds_self_of_lt (by omega)]
  · rw [Array.getElem?_setIfInBounds_ne (Ne.symm e)]
    exact h3 j hj (by omega)
theorem PartsAt.texts {w : World} {pb n : Nat} {l : List Fl} (h : PartsAt w pb n l n) (hn : l.length = n) : ∀ (j : Nat) x, (l.map fun f => txt (oneT f))[j]? = some x → w.cell? ⟨pb, 0 + j, none⟩ = some (.string x) := fun j x hj => by
  obtain ⟨cur, h1, h2, h3⟩ := h
  rw [Nat.zero_add, cell_of_row w pb j cur _ _ h1]
  rw [List.getElem?_map] at hj
  cases hl : l[j]? with
  | none => rw [hl] at hj; cases hj
  | some f =>
    obtain ⟨hjl, hf⟩ := List.getElem?_eq_some_iff.1 hl
    rw [hl] at hj
    rw [h3 j hjl (by omega), hf]
    exact congrArg (fun x => some (Value.string x)) (Option.some.inj hj)
theorem PartsAt.made {w w' : World} {n : Nat} {l : List Fl} (h : w'.ownsRow w.heap.size 9 1 (.slice (some ⟨w.heap.size, 0, none⟩) n n) n (madeCells (Value.string ByteArray.empty).cells (n * 1)).toList) : PartsAt w' w.heap.size n l 0 := by
  rcases h.2 with ⟨e, _⟩ | ⟨g, cap, cur, e, _, hg, _, _, hs, _⟩
  · cases e
  · injection e with e1 e2 e3
    injection e1 with e1
    injection e1 with e1
    subst e1; subst e3
    exact ⟨cur, hg, by omega, fun j _ hj => absurd hj (Nat.not_lt_zero _)⟩

/-- A text, or an error. -/
def TextPost (a : Nat → Addr) (c : Nat × Int) (t : List UInt8) (e : Ending) (w' : World) : Prop := (c.1 = 0 ∧ e = .returned (.tuple #[.string (txt t), .nilIface])) ∨ (c.1 ≠ 0 ∧ ∃ t p, e = .returned (.tuple #[.string ByteArray.empty, .iface t p]) ∧ FlErr a w' c (.iface t p))

set_option maxRecDepth 100000 in
set_option maxHeartbeats 4000000 in
theorem text_any (a : Nat → Addr) (v : Value) (l : List Fl) (w : World) (h : EV flS a w) (ht : Tab10 w) (hv : FlAt w v l) (hs : ∀ f ∈ l, f.who.size ≤ maxLen) (hl : l.length ≤ 1000000) :
    Calls Tryz.prog 36 #[v] w fun e w' => TextPost a (checkL l) (textL l) e w' ∧ Below w.heap.size w w' := by
  have HC := hide (check_any a v l w h hv hs hl)
  have HV := hide hv
  have HT := hide ht
  by_cases h0 : (checkL l).1 = 0
  · obtain ⟨hright, h21⟩ := right_of_check h0
    have H0 := hide h0
    match l with
    | [] =>
      obtain ⟨ad, cap, rfl, hcap⟩ := hv.form
      show Calls Tryz.prog 36 #[.slice ad 0 cap] w _
      replace HC : Hid (Calls Tryz.prog 51 #[.slice ad 0 cap] w fun e w' => ∃ ev, e = .returned ev ∧ FlErr a w' (checkL []) ev ∧ Below w.heap.size w w') := HC.out
      clear h ht hv hs hright h21 h0 HV HT
      generalize checkL [] = c at *
      go_enter Tryz.func36, Tryz.ntmps36
      go_wp2_with fail
      refine HC.out.mono ?_
      rintro e w1 ⟨ev, rfl, he, hb⟩
      obtain rfl := he.none H0.out
      clear he
      go_wp2
      go_ret2
      exact ⟨Or.inl ⟨H0.out, rfl⟩, hb⟩
    | f0 :: l0 =>
      generalize hll : f0 :: l0 = l at *
      have HNe : Hid (l ≠ []) := by rw [← hll]; exact List.cons_ne_nil _ _
      have hpos : 0 < l.length := by rw [← hll]; simp
      clear hll
      obtain ⟨i0, hi, hz0, hz1, hz2⟩ := info_parts Tryz.infoStringF
      obtain ⟨ad, cap, rfl, hcap⟩ := hv.form
      have HR := hide hright
      have HJ : Hid (∀ pb W, PartsAt W pb l.length l l.length → Calls Tryz.prog 60 #[.slice (some ⟨pb, 0, none⟩) l.length l.length, .string ⟨#[44]⟩] W fun e w' => e = .returned (.string (txt (textL l))) ∧ Below W.heap.size W w') := fun pb W hp => by
        have hlen : (l.map fun f => txt (oneT f)).length = l.length := by simp
        have hmap : ((l.map fun f => txt (oneT f)).map (·.data.toList)) = l.map oneT := by
          rw [List.map_map]
          exact List.map_congr_left (fun f _ => rfl)
        have hjl : (Lib.join (l.map oneT) [44]).length ≤ 140737488355328 := by
          have := join_len 44 30 (l.map oneT) (fun x hx => by
            obtain ⟨f, hf, rfl⟩ := List.mem_map.1 hx
            exact one_len (hright.one f hf))
          rw [List.length_map] at this
          omega
        have := Tryz.strings_Join pb 0 l.length (l.map fun f => txt (oneT f)) ⟨#[44]⟩ W (hp.texts rfl) hp.lt (by rw [hlen]; omega) (by rw [hlen]; exact Nat.le_refl _) (by rw [hmap]; exact hjl)
        rw [hlen, hmap] at this
        have htx : txt (textL l) = txt (Lib.join (l.map oneT) [44]) := by unfold textL; rw [if_neg HNe.out]
        rw [htx]
        exact this
      clear h hv hright ht h0
      generalize hc : checkL l = c at *
      generalize htx : textL l = tx at *
      generalize hn : l.length = n at *
      have HN := hide hn
      have hn0 : ¬ (n : Int) = 0 := by omega
      clear hn hc htx
      go_enter Tryz.func36, Tryz.ntmps36
      go_wp2_with fail
      refine HC.out.mono ?_
      rintro e w1 ⟨ev, rfl, he, hb⟩
      obtain rfl := he.none H0.out
      have HB1 := hide hb
      clear he hb HC
      go_wp2_with (at_make; refine wpList_make_full _ rfl _ _ 75 rfl w1.heap.size 9 i0 _ 1 Tryz.underlying75 hi hz0 hz1 .i64 .i64 _ _ n rfl rfl rfl rfl (by rw [hz2]; omega) (by unfold maxLen; omega) (Nat.le_refl _) ?_; intro w2 hown hgrow; have HP2 : Hid (PartsAt w2 w1.heap.size n l 0) := PartsAt.made hown; have HB2 : Hid (Below w.heap.size w w2) := HB1.out.grown hgrow HB1.out.size (fun k hk => by cases hk); clear hown hgrow)
      go_loopg [6, 7, 21] n (fun gg _ _ s21 wr => ∃ k : Nat, k ≤ n ∧ n - k ≤ gg ∧ s21 = .int .i64 k ∧ Hid (Below w.heap.size w wr) ∧ Hid (PartsAt wr w1.heap.size n l k))
      case atStart => exact ⟨0, Nat.zero_le _, by omega, rfl, HB2, HP2⟩
      case round =>
        clear HB2 HP2
        obtain ⟨k, hk, hgg, rfl, HB, HP⟩ := hrel
        by_cases hlt : k < n
        · have hltz : (k : Int) < (n : Int) := by omega
          have hkl : k < l.length := by rw [HN.out]; exact hlt
          have hvr := HV.out.below HB.out
          rw [← HN.out] at hvr
          obtain ⟨b, off, cap', e, hc', hb, hcell⟩ := hvr.at (by omega)
          injection e with e1 e2 e3
          subst e1; subst e3
          obtain ⟨c0, c1⟩ := hcell k hkl
          have hone := HR.out.one l[k] (List.getElem_mem _)
          have hpos2 := one_pos hone
          have hws : l[k].who.size ≤ 8 := by have := nm_len hone; unfold Fl.nm at this; rw [size_list] at this; exact this
          have hds : (txt (Lib.decDigits l[k].ep.toNat)).size ≤ 30 := by
            rw [txt_size]
            have := one_len hone
            unfold oneT at this
            rw [List.length_append, List.length_cons] at this
            omega
          have HIt := hide (fun W h => itoa_fl l[k].ep W h (by omega) hpos2.2)
          have HTx : Hid (l[k].who ++ ⟨#[58]⟩ ++ txt (Lib.decDigits l[k].ep.toNat) = txt (oneT l[k])) := by
            refine Go.WideShapes.bytes_inj ?_
            rw [ba_toList, ba_toList]
            show _ = oneT l[k]
            unfold oneT Fl.nm
            rw [List.append_assoc]
            rfl
          have HSt := hide (fun (W : World) (hp : PartsAt W w1.heap.size n l k) => hp.set hkl HN.out)
          rw [← HTx.out] at HSt
          have HBa : Hid (Below w.heap.size w (wr.alloc (.cells #[.string l[k].who, .int .i64 l[k].ep] 24))) := HB.out.alloc HB.out.size _
          have HRa : Hid ((wr.alloc (.cells #[.string l[k].who, .int .i64 l[k].ep] 24)).heap[wr.heap.size]? = some (.cells #[.string l[k].who, .int .i64 l[k].ep] 24 (0, 0))) := heap_alloc_new _ _
          have HPa : Hid (PartsAt (wr.alloc (.cells #[.string l[k].who, .int .i64 l[k].ep] 24)) w1.heap.size n l k) := HP.out.keep (Below.heap_alloc _ _ _ HP.out.lt)
          have HBe : Hid (w.heap.size ≤ w1.heap.size) := HB1.out.size
          clear hcell hvr hone hpos2 HTx HP
          generalize txt (Lib.decDigits l[k].ep.toNat) = ds at *
          generalize l[k].who = who at *
          generalize l[k].ep = ep at *
          go_wp2_with fail
          generalize hW0 : wr.alloc (.cells #[.string who, .int .i64 ep] 24) = W0 at *
          have hd0 : W0.cell? ⟨wr.heap.size, 0, none⟩ = some (.string who) := cell_of_row W0 _ 0 _ _ _ HRa.out
          have hd1 : W0.cell? ⟨wr.heap.size, 1, none⟩ = some (.int .i64 ep) := cell_of_row W0 _ 1 _ _ _ HRa.out
          have HIt2 := hide (HIt.out W0.drew (tab_below (tab_below HT.out HBa.out) ((Below.refl _ _).drew)))
          have hne : w1.heap.size ≠ wr.heap.size := by have := HPa.out; have h2 := HRa.out; intro e; obtain ⟨cur, q1, _⟩ := this; rw [e, h2] at q1; injection q1 with q1; injection q1 with _ q1; exact absurd q1 (by decide)
          have ha1 : ∀ w : World, (Op.stringOp .add who { data := #[58] }).run Tryz.prog w = .ok (.string (who ++ { data := #[58] })) w := fun w => run_string_add_sum w _ _ (by show who.size + 1 ≤ _; omega)
          have ha2 : ∀ w : World, (Op.stringOp .add (who ++ { data := #[58] }) ds).run Tryz.prog w = .ok (.string (who ++ { data := #[58] } ++ ds)) w := fun w => run_string_add_sum w _ _ (by rw [ByteArray.size_append]; show who.size + 1 + ds.size ≤ _; omega)
          clear hW0 HIt c0 c1
          go_region_held3 (fun w' => w'.cell? ⟨wr.heap.size, 0, none⟩ = some (.string who) ∧ w'.cell? ⟨wr.heap.size, 1, none⟩ = some (.int .i64 ep)) (go_keep)
            (first
              | (go_at_call 61; refine HIt2.out.mono ?_; rintro e w3 ⟨rfl, hb3⟩; have HB3 : Hid (Below W0.heap.size W0 w3) := ((Below.refl _ W0).drew).trans hb3; have HP3 : Hid (PartsAt w3 w1.heap.size n l k) := HPa.out.keep (HB3.out.block _ HPa.out.lt); have hr3 : w3.heap[wr.heap.size]? = some (.cells #[.string who, .int .i64 ep] 24 (0, 0)) := (HB3.out.block _ (row_lt HRa.out)).trans HRa.out; have e0 : w3.cell? ⟨wr.heap.size, 0, none⟩ = some (.string who) := cell_of_row w3 _ 0 _ _ _ hr3; have e1 : w3.cell? ⟨wr.heap.size, 1, none⟩ = some (.int .i64 ep) := cell_of_row w3 _ 1 _ _ _ hr3; obtain ⟨⟨ov, hov⟩, hfz⟩ := HP3.out.spot k hlt; clear hb3 hr3 HIt2))
          have HB4 : Hid (Below w.heap.size w (w3.setCell ⟨w1.heap.size, k, none⟩ (.string (who ++ ⟨#[58]⟩ ++ ds)))) := (HBa.out.trans (HB3.out.mono HBa.out.size)).setCell (p := ⟨w1.heap.size, k, none⟩) HBe.out _
          have HP4 := hide (HSt.out w3 HP3.out)
          clear hov hfz e0 e1 HP3 HSt ha1 ha2
          generalize w3.setCell ⟨w1.heap.size, k, none⟩ (.string (who ++ ⟨#[58]⟩ ++ ds)) = w4 at *
          go_wp2
          go_roundg (n - (k + 1))
          case measure => omega
          case rel => exact ⟨k + 1, by omega, by omega, by go_num, HB4, HP4⟩
        · obtain rfl : k = n := by omega
          have hltz : ¬ (k : Int) < (k : Int) := by omega
          go_wp2_with fail
          refine (HJ.out _ _ HP.out).mono ?_
          rintro e w5 ⟨rfl, hb5⟩
          have HB5 : Hid (Below w.heap.size w w5) := HB.out.trans (hb5.mono HB.out.size)
          clear hb5
          go_wp2
          go_ret2
          exact ⟨Or.inl ⟨H0.out, rfl⟩, HB5.out⟩
  · have H0 := hide h0
    clear h ht hv hs h0 HV HT
    generalize checkL l = c at *
    generalize textL l = tx at *
    go_enter Tryz.func36, Tryz.ntmps36
    go_wp2_with fail
    refine HC.out.mono ?_
    rintro e w1 ⟨ev, rfl, he, hb⟩
    have HEr := hide he
    rcases he.cases with ⟨e0, _⟩ | ⟨_, tt, pp, rfl⟩
    · exact absurd e0 H0.out
    · clear he
      go_wp2
      go_ret2
      exact ⟨Or.inr ⟨H0.out, _, _, rfl, HEr.out⟩, hb⟩
end Go.Proofs.YtemdnmnbecapbacGreatDoor

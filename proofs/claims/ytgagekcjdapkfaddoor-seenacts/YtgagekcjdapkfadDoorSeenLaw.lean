/-
  The closed fact of the chapter's statements; words that came in, whether they are too many or too long; the document's answer's Words, and that both tell the same.
-/
import Derived.Test.YtgagekcjdapkfadDoorSeenAsk
import Derived.Test.YtgagekcjdapkfadDoorSeenRefAsk
import Derived.Test.YtgagekcjdapkfadDoorMarkRef
namespace Go.Proofs.YtgagekcjdapkfadDoor
open Go.RowKit Go.Extern.Stop Go.Stop Go.Extern Go.Proofs

/-- A word that is asked for. -/
structure Wq where
  s : ByteArray
  t : Int
  now : Int
/-- Words that came in. -/
def WqIn (w : World) (v : Value) (l : List Wq) : Prop := ∃ ad cap, v = .slice ad l.length cap ∧ l.length ≤ cap ∧ (0 < l.length → ∃ b o, ad = some ⟨b, o, none⟩ ∧ b < w.heap.size ∧
  ∀ i m, l[i]? = some m → w.cell? ⟨b, o + i * 3, none⟩ = some (.string m.s) ∧ w.cell? ⟨b, o + i * 3 + 1, none⟩ = some (.int .i64 m.t) ∧ w.cell? ⟨b, o + i * 3 + 2, none⟩ = some (.int .i64 m.now))
theorem WqIn.below {w w' : World} {v : Value} {l : List Wq} (h : WqIn w v l) (hb : Below w.heap.size w w') : WqIn w' v l := by
  obtain ⟨ad, cap, h1, h2, h3⟩ := h
  refine ⟨ad, cap, h1, h2, fun h0 => ?_⟩
  obtain ⟨b, o, h4, h5, h6⟩ := h3 h0
  refine ⟨b, o, h4, Nat.lt_of_lt_of_le h5 hb.size, fun i m hi => ?_⟩
  obtain ⟨c0, c1, c2⟩ := h6 i m hi
  exact ⟨(hb.cell (p := ⟨b, o + i * 3, none⟩) h5).trans c0, (hb.cell (p := ⟨b, o + i * 3 + 1, none⟩) h5).trans c1, (hb.cell (p := ⟨b, o + i * 3 + 2, none⟩) h5).trans c2⟩
/-- Too many, or too long. -/
def longW (l : List Wq) : Bool := decide (100 < l.length) || l.any (fun m => decide (30 < m.s.size))
theorem longW_no {l : List Wq} (h : longW l = false) : l.length ≤ 100 ∧ ∀ m ∈ l, m.s.size ≤ 30 := by
  unfold longW at h
  simp only [Bool.or_eq_false_iff, decide_eq_false_iff_not, List.any_eq_false, decide_eq_true_eq] at h
  exact ⟨by omega, fun e he => by have := h.2 e he; omega⟩

set_option maxRecDepth 100000 in
set_option maxHeartbeats 4000000 in
theorem longAsked_any (v : Value) (l : List Wq) (w : World) (hv : WqIn w v l) :
    Calls Tryd.prog 6 #[v] w fun e w' => e = .returned (.bool (longW l)) ∧ w' = w := by
  obtain ⟨ad, cap, rfl, hc, hcell⟩ := hv
  by_cases h40 : 100 < l.length
  · have hL : longW l = true := by unfold longW; rw [decide_eq_true h40]; rfl
    rw [hL]
    generalize l.length = n at *
    have hz : (100 : Int) < (n : Int) := by omega
    clear hcell hL
    go_enter Tryd.func6, Tryd.ntmps6
    go_wp2
    go_ret
    exact ⟨rfl, rfl⟩
  · have HQ : Hid (longW l = l.any (fun m => decide (30 < m.s.size))) := by show _ = _; unfold longW; rw [decide_eq_false h40]; rfl
    generalize hr : longW l = r at *
    have HV := hide hcell
    generalize hn : l.length = n at *
    have HN := hide hn
    have hz : ¬ (100 : Int) < (n : Int) := by omega
    have hn40 : n ≤ 100 := by omega
    clear hcell hr hn h40
    go_enter Tryd.func6, Tryd.ntmps6
    go_wp2
    go_loop [3] (fun i => ∃ k : Nat, k ≤ n ∧ i = .int .i64 k ∧ Hid (∀ j (hj : j < l.length), j < k → l[j].s.size ≤ 30)) (fun i => n - (intOf i).toNat)
    case atStart => exact ⟨0, Nat.zero_le _, rfl, fun j _ hj => absurd hj (Nat.not_lt_zero _)⟩
    case round =>
      obtain ⟨k, hk, rfl, A⟩ := hrel
      by_cases hlt : k < n
      · have hkl : k < l.length := by rw [HN.out]; exact hlt
        obtain ⟨b, o, rfl, hb, hcell⟩ := HV.out (by omega)
        obtain ⟨c0, _, _⟩ := hcell k _ (List.getElem?_eq_getElem hkl)
        have hltz : (k : Int) < (n : Int) := by omega
        have HTrue : Hid (30 < (l[k]'hkl).s.size → r = true) := fun h => by
          rw [HQ.out, List.any_eq_true]
          exact ⟨_, List.getElem_mem hkl, by simpa using h⟩
        have HNext : Hid (¬ 30 < (l[k]'hkl).s.size → ∀ j (hj : j < l.length), j < k + 1 → l[j].s.size ≤ 30) := fun h1 j hj hjk => by
          by_cases e : j = k
          · subst e; omega
          · exact A.out j hj (by omega)
        clear hcell
        generalize (l[k]'hkl).s = kd at *
        by_cases h20 : 30 < kd.size
        · have HR1 := hide (HTrue.out h20)
          have h20z : (30 : Int) < (kd.size : Int) := by omega
          go_wp2
          go_ret
          exact ⟨by rw [HR1.out]; rfl, rfl⟩
        · have h20z : ¬ (30 : Int) < (kd.size : Int) := by omega
          have HNx := hide (HNext.out h20)
          go_wp2
          go_round
          case rel => exact ⟨k + 1, by omega, by go_num, HNx⟩
          case measure => simp [intOf]; omega
      · obtain rfl : k = n := by omega
        have hltz : ¬ (k : Int) < (k : Int) := by omega
        have hr0 : r = false := by
          rw [HQ.out, List.any_eq_false]
          intro f hf
          obtain ⟨j, hj, rfl⟩ := List.getElem_of_mem hf
          have := A.out j hj (by rw [← HN.out]; exact hj)
          simp only [decide_eq_true_eq]
          omega
        have HR0 := hide hr0
        clear hr0
        go_wp2
        go_ret
        exact ⟨by rw [HR0.out]; rfl, rfl⟩

/-- The word of the closed fact. -/
abbrev aB : ByteArray := ⟨#[97]⟩
theorem saw_first : seenC 5 [] aB 3 4 = 0 ∧ seenL 5 [] aB 3 4 = [⟨aB, 3⟩] := ⟨by decide, by rfl⟩
theorem saw_again : seenC 5 [⟨aB, 3⟩] aB 3 4 = 6 ∧ seenL 5 [⟨aB, 3⟩] aB 3 4 = [⟨aB, 3⟩] := ⟨by decide, by rfl⟩

set_option maxRecDepth 100000 in
set_option maxHeartbeats 4000000 in
theorem saw_any (a : Nat → Addr) (w : World) (h : Errs a w) :
    Calls Tryd.prog 5 #[] w fun e w' => e = .returned (.bool true) ∧ Below w.heap.size w w' := by
  have HN := hide (seNew_any a 5 w (h.ev _))
  have HA1 := hide (fun w p m hs hE => seAsk_any a p m 5 3 4 [] aB w hs hE (by decide))
  rw [saw_first.1, saw_first.2] at HA1
  have HA2 := hide (fun w p m hs hE => seAsk_any a p m 5 3 4 [⟨aB, 3⟩] aB w hs hE (by decide))
  rw [saw_again.1, saw_again.2] at HA2
  have HM := hide (fun w p m hs => seMany_any p m 5 [⟨aB, 3⟩] w hs)
  have HC := hide (fun w h => coded_err a 5 (by decide) 6 w h)
  have HE := hide h
  clear h
  go_enter Tryd.func5, Tryd.ntmps5
  go_wp2_with fail
  refine HN.out.mono ?_
  rintro e w1 ⟨hb, ⟨_, p, m, hp, hm, rfl, hS⟩ | ⟨hn, _⟩⟩
  · have HB1 := hide hb
    have HS1 := hide hS
    have HMm := hide hm
    clear hb hS hp hm HN
    rw [show errV a 0 = .nilIface from rfl, show errV a 6 = eV (a 5) from rfl] at *
    go_wp2_with fail
    refine (HA1.out _ _ _ HS1.out ((HE.out.below HB1.out).ev _)).mono ?_
    rintro e w2 ⟨rfl, hS, hg⟩
    have HB2 : Hid (Below w.heap.size w w2) := HB1.out.grown hg HB1.out.size (fun k hk => by cases hk; exact HMm.out)
    have HS2 := hide hS
    clear hS hg HA1 HB1 HS1
    go_wp2_with fail
    refine (HA2.out _ _ _ HS2.out ((HE.out.below HB2.out).ev _)).mono ?_
    rintro e w3 ⟨rfl, hS, hg⟩
    have HB3 : Hid (Below w.heap.size w w3) := HB2.out.grown hg HB2.out.size (fun k hk => by cases hk; exact HMm.out)
    have HS3 := hide hS
    clear hS hg HA2 HB2 HS2
    go_wp2_with fail
    refine (HC.out _ (HE.out.below HB3.out)).mono ?_
    rintro e w4 ⟨rfl, hb⟩
    have HB4 : Hid (Below w.heap.size w w4) := HB3.out.trans (hb.mono HB3.out.size)
    have HS4 := hide (HS3.out.below hb)
    clear hb HC HB3 HS3
    go_wp2_with fail
    refine (HM.out _ _ _ HS4.out).mono ?_
    rintro e w5 ⟨rfl, rfl⟩
    go_wp2
    go_ret
    exact ⟨rfl, HB4.out⟩
  · exact absurd (by decide) hn

set_option maxRecDepth 100000 in
set_option maxHeartbeats 2000000 in
/-- Whatever may come. -/
theorem refSeen_any (rp : Nat) (long t now : Int) (L : List Wd) (v : Value) (s : ByteArray) (w : World) (h : RefSeen w rp long v L) (hG : GoodW L) (hl : 0 ≤ long ∧ long ≤ 1000000) (hs : s.size ≤ maxLen) :
    Calls Tryd.prog 11 #[.pointer (some ⟨rp, 0, none⟩), .string s, .int .i64 t, .int .i64 now] w fun e w' => e = .returned (.int .i64 (seenC long L s t now : Int)) ∧ RsPost w rp long (seenL long L s t now) w' := by
  by_cases he : seenE long t now s = 0
  · exact refAsk_main rp long t now L v s w h hG hl hs he
  · obtain ⟨e1, e2⟩ := seen_err (L := L) he
    rw [e1, e2]
    exact (refAsk_err rp long t now s w h.cells.1 hl hs he).mono fun _ _ ⟨h1, h2⟩ => ⟨h1, by subst h2; exact ⟨v, h, World.grownBy.refl _ _⟩⟩

theorem Tryd.infoText : (Tryd.prog.info? 9).map (fun i => (i.zero, i.size, i.bytes)) = some (some (.string ByteArray.empty), 1, 16) := by kernel_rfl
def cellsV (L : List Wd) : List Value := L.map fun p => .string p.s
theorem cellsV_snoc (L : List Wd) (k : Nat) (hk : k < L.length) : cellsV (L.take k) ++ [.string L[k].s] = cellsV (L.take (k + 1)) := by
  unfold cellsV
  rw [List.take_succ_eq_append_getElem hk, List.map_append]
  rfl
/-- A row of texts, read. -/
theorem own_wordsV {w : World} {B : Nat} {v : Value} {L : List Wd} (h : w.ownsRow B 9 1 v L.length (cellsV L)) : WordsAt w v (L.map Wd.s) := by
  rcases h.2 with ⟨rfl, h0⟩ | ⟨g, cap, cur, rfl, _, hg, hc, _, _, ht⟩
  · refine ⟨none, 0, ?_, ?_, Or.inl ?_⟩ <;> simp [List.length_eq_zero_iff.1 h0]
  · refine ⟨_, cap, by rw [List.length_map], by rw [List.length_map]; exact hc, Or.inr ⟨g, 0, rfl, fun j hj => ?_⟩⟩
    have hj2 : j < L.length := by simpa using hj
    rw [Nat.zero_add, cell_of_row w g j cur _ _ hg]
    have e1 : (cellsV L)[j]? = some (.string (L.map Wd.s)[j]) := by
      unfold cellsV
      rw [List.getElem?_map, List.getElem?_eq_getElem hj2, List.getElem_map]
      rfl
    rw [← ht, List.getElem?_take] at e1
    split at e1
    · simpa using e1
    · cases e1

set_option maxRecDepth 100000 in
set_option maxHeartbeats 2000000 in
theorem refWords_any (rp : Nat) (long : Int) (L : List Wd) (v : Value) (w : World) (h : RefSeen w rp long v L) (hn40 : L.length ≤ 40) :
    Calls Tryd.prog 14 #[.pointer (some ⟨rp, 0, none⟩)] w fun e w' => ∃ v', e = .returned v' ∧ WordsAt w' v' (L.map Wd.s) ∧ Below w.heap.size w w' := by
  obtain ⟨i0, hi, hz0, hz1, hz2⟩ := info_parts Tryd.infoText
  have HRow := hide h.row
  have HRp := hide (row_lt h.row)
  obtain ⟨ad, cap, rfl, hcap, hrd⟩ := own_readW h.own
  have HRd := hide hrd
  generalize hn : L.length = n at *
  have HN := hide hn
  clear hn hrd h
  go_enter Tryd.func14, Tryd.ntmps14
  go_wp2
  go_loopw [3, 4] (fun o i wr => ∃ k : Nat, k ≤ n ∧ i = .int .i64 k ∧ Hid (wr.ownsRow w.heap.size 9 1 o k (cellsV (L.take k))) ∧ Hid (Below w.heap.size w wr)) (fun _ i _ => n - (intOf i).toNat)
  case atStart => exact ⟨0, Nat.zero_le _, rfl, World.ownsRow_nil _ _ _ _, Below.refl _ _⟩
  case round =>
    obtain ⟨k, hk, rfl, HO, HB⟩ := hrel
    have hrow : wr.heap[rp]? = some (rsO long (.slice ad n cap)) := (HB.out.block rp HRp.out).trans HRow.out
    obtain ⟨hc0, hc1, hfr⟩ := rs_cells hrow
    by_cases hlt : k < n
    · have hkl : k < L.length := by rw [HN.out]; exact hlt
      rcases HRd.out with ⟨e0, _, _⟩ | ⟨g, rfl, hgB, hgl, hcell⟩
      · rw [e0] at hkl; simp at hkl
      have hcs : wr.cell? ⟨g, k * 2, none⟩ = some (.string L[k].s) := (HB.out.cell (p := ⟨g, k * 2, none⟩) hgl).trans (hcell _ _ (cellsW_at L k hkl).1)
      have HSn := hide (cellsV_snoc L k hkl)
      clear hcell hgB hgl hrow hfr
      generalize (L[k]'hkl).s = y at *
      go_wp2_with (first
        | (at_builtin; refine wpList_append_own _ rfl (.tmp 14) (.tmp 23) 30 rfl w.heap.size 9 i0 (.string ByteArray.empty) 1 16 Tryd.underlying30 hi hz0 hz1 hz2 rfl (by decide) _ _ _ rfl (HO.out.alloc _) ⟨wr.heap.size, 0, none⟩ 1 1 [.string y] rfl rfl ?c1 ?c2 ?c3 ?c4 ?c5 ?_))
      case c1 =>
        intro j u hj
        match j, hj with
        | 0, hj => simp at hj; subst hj; simp [Addr.add]
      case c2 => intro u hu; simp at hu; subst hu; rfl
      case c3 => unfold maxLen; omega
      case c4 => omega
      case c5 => have := HB.out.size; simp; omega
      · intro v' w1 hown' hgrow _
        have HB1 : Hid (Below w.heap.size w w1) := (HB.out.alloc HB.out.size _).grown hgrow (by have := HB.out.size; simp; omega) (fun g hg => (HO.out.lt g hg).1)
        rw [HSn.out] at hown'
        have HO1 := hide hown'
        clear hown' hgrow HB HO hc0 hc1 hcs
        go_wp2
        go_roundw
        case rel => exact ⟨k + 1, by omega, by go_num, HO1, HB1⟩
        case measure => simp [intOf]; omega
    · obtain rfl : k = n := by omega
      have HW : Hid (WordsAt wr u3 (L.map Wd.s)) := by
        have h1 := HO.out
        have hLt : L.take k = L := List.take_of_length_le (by rw [HN.out]; exact Nat.le_refl _)
        rw [hLt, ← HN.out] at h1
        exact own_wordsV h1
      clear hrow hfr
      go_wp2
      go_ret
      exact ⟨_, rfl, HW.out, HB.out⟩

set_option maxHeartbeats 1000000 in
theorem seSame_any (xs : List ByteArray) (v1 v2 : Value) (w : World) (hsz : xs.length ≤ 1000000) (h1 : WordsAt w v1 xs) (h2 : WordsAt w v2 xs) :
    Calls Tryd.prog 12 #[v1, v2] w fun e w' => e = .returned (.bool true) ∧ Below w.heap.size w w' := by
  obtain ⟨ad1, c1, rfl, hc1, h1⟩ := h1
  obtain ⟨ad2, c2, rfl, hc2, h2⟩ := h2
  have HA := hide h1
  have HB := hide h2
  generalize hl : xs.length = n at *
  have HL := hide hl
  clear h1 h2 hl
  go_enter Tryd.func12, Tryd.ntmps12
  go_wp2
  go_loopw [5] (fun c wr => ∃ k : Nat, k ≤ n ∧ c = .int .i64 k ∧ Below w.heap.size w wr) (fun c _ => n - (intOf c).toNat)
  case atStart => exact ⟨0, by omega, rfl, Below.refl _ _⟩
  case round =>
    obtain ⟨k, hk, rfl, hbl⟩ := hrel
    by_cases hlt : k < n
    · have hkl : k < xs.length := by rw [HL.out]; exact hlt
      rcases HA.out with h0 | ⟨ba, oa, rfl, ha⟩
      · omega
      rcases HB.out with h0 | ⟨bb, ob, rfl, hb⟩
      · omega
      have h1 := ha.below hbl k hkl
      have h2 := hb.below hbl k hkl
      generalize xs[k] = y at h1 h2
      have HBl : Hid (Below w.heap.size w wr) := hbl
      clear hbl hkl ha hb
      go_wp2
      go_region
      go_wp2
      go_roundw
      case rel => exact ⟨k + 1, by omega, by go_num, HBl.out.drew⟩
      case measure => simp [intOf]; omega
    · go_wp2
      go_ret
      exact ⟨rfl, hbl⟩
end Go.Proofs.YtgagekcjdapkfadDoor

/-
  Deals that came in, whether they are too many or too long; numbers in a slice: whether one is among them, and that two are the same.
-/
import Derived.Test.YteabincmopeljadDoorSessNum
import Derived.Test.YteabincmopeljadDoorSessMap
import Derived.Test.YteabincmopeljadDoorTicketDo2
import Derived.Test.YteabincmopeljadDoorFloorDo
import Derived.Test.YteabincmopeljadDoorQuietBelow
import Derived.BigQuiet
import Derived.Deep.CutBlock
import Derived.Deep.DeepCutAuto
import Derived.Test.YteabincmopeljadDoorFloorLaw
namespace Go.Proofs.YteabincmopeljadDoor
open Go Go.RowKit Go.Extern.Stop Go.Stop Go.Extern Go.Proofs

/-- A deal. -/
structure Dl where
  kind : ByteArray
  t : Tk
  n : Int
  now : Int
  f : List Fl
/-- A deal's cells at a place. -/
def DlAt (w : World) (b p : Nat) (m : Dl) : Prop :=
  (w.cell? ⟨b, p, none⟩ = some (.string m.kind) ∧ w.cell? ⟨b, p + 1, none⟩ = some (.string m.t.who) ∧ w.cell? ⟨b, p + 2, none⟩ = some (.string m.t.dst) ∧ w.cell? ⟨b, p + 3, none⟩ = some (.int .i64 m.t.epoch) ∧ w.cell? ⟨b, p + 4, none⟩ = some (.int .i64 m.t.frm) ∧ w.cell? ⟨b, p + 5, none⟩ = some (.int .i64 m.t.til) ∧ w.cell? ⟨b, p + 6, none⟩ = some (.int .i64 m.t.ser) ∧ w.cell? ⟨b, p + 7, none⟩ = some (.int .i64 m.n) ∧ w.cell? ⟨b, p + 8, none⟩ = some (.int .i64 m.now)) ∧ ∃ vf, w.cell? ⟨b, p + 9, none⟩ = some vf ∧ FlAt w vf m.f
theorem DlAt.below {w w' : World} {b p : Nat} {m : Dl} (h : DlAt w b p m) (hb : Below w.heap.size w w') : DlAt w' b p m := by
  obtain ⟨⟨h0, h1, h2, h3, h4, h5, h6, h7, h8⟩, vf, h9, hf⟩ := h
  exact ⟨⟨(hb.cell (cell_lt h0)).trans h0, (hb.cell (cell_lt h1)).trans h1, (hb.cell (cell_lt h2)).trans h2, (hb.cell (cell_lt h3)).trans h3, (hb.cell (cell_lt h4)).trans h4, (hb.cell (cell_lt h5)).trans h5, (hb.cell (cell_lt h6)).trans h6, (hb.cell (cell_lt h7)).trans h7, (hb.cell (cell_lt h8)).trans h8⟩, vf, (hb.cell (cell_lt h9)).trans h9, hf.below hb⟩
/-- Deals that came in. -/
def DlIn (w : World) (v : Value) (l : List Dl) : Prop := ∃ ad cap, v = .slice ad l.length cap ∧ l.length ≤ cap ∧ (0 < l.length → ∃ b o, ad = some ⟨b, o, none⟩ ∧ b < w.heap.size ∧ ∀ i m, l[i]? = some m → DlAt w b (o + i * 10) m)
theorem DlIn.below {w w' : World} {v : Value} {l : List Dl} (h : DlIn w v l) (hb : Below w.heap.size w w') : DlIn w' v l := by
  obtain ⟨ad, cap, h1, h2, h3⟩ := h
  refine ⟨ad, cap, h1, h2, fun h0 => ?_⟩
  obtain ⟨b, o, h4, h5, h6⟩ := h3 h0
  exact ⟨b, o, h4, Nat.lt_of_lt_of_le h5 hb.size, fun i m hi => (h6 i m hi).below hb⟩

/-- Too long for a statement? -/
def longTk (t : Tk) : Int := if 20 < t.who.size ∨ 20 < t.dst.size then 1 else 0
set_option maxRecDepth 100000 in
set_option maxHeartbeats 1000000 in
theorem longTk_any (t : Tk) (w : World) (hs : t.who.size ≤ maxLen) (hs2 : t.dst.size ≤ maxLen) :
    Calls Tryd.prog 35 #[t.val] w fun e w' => e = .returned (.int .i64 (longTk t)) ∧ Below w.heap.size w w' := by
  have hcase : (20 < t.who.size ∧ longTk t = 1) ∨ (¬ 20 < t.who.size ∧ 20 < t.dst.size ∧ longTk t = 1) ∨ (¬ 20 < t.who.size ∧ ¬ 20 < t.dst.size ∧ longTk t = 0) := by
    unfold longTk
    by_cases g1 : 20 < t.who.size
    · exact Or.inl ⟨g1, by rw [if_pos (Or.inl g1)]⟩
    · by_cases g2 : 20 < t.dst.size
      · exact Or.inr (Or.inl ⟨g1, g2, by rw [if_pos (Or.inr g2)]⟩)
      · exact Or.inr (Or.inr ⟨g1, g2, by rw [if_neg (fun h => h.elim g1 g2)]⟩)
  generalize longTk t = r at hcase ⊢
  have HB0 : Hid (Below w.heap.size w (w.alloc (tkO t))) := (Below.refl _ w).alloc (Nat.le_refl _) _
  rw [tk_val]
  obtain ⟨who, dst, epoch, frm, til, ser⟩ := t
  unfold maxLen at hs hs2
  dsimp only at *
  rcases hcase with ⟨g, rfl⟩ | ⟨g, g2, rfl⟩ | ⟨g, g2, rfl⟩
  all_goals
    go_enter Tryd.func35, Tryd.ntmps35
    go_wp2
    go_ret
    exact ⟨rfl, HB0.out⟩
theorem longTk_cases (t : Tk) : (longTk t = 1 ∧ (20 < t.who.size ∨ 20 < t.dst.size)) ∨ (longTk t = 0 ∧ t.who.size ≤ 20 ∧ t.dst.size ≤ 20) := by
  unfold longTk
  by_cases h : 20 < t.who.size ∨ 20 < t.dst.size
  · exact Or.inl ⟨if_pos h, h⟩
  · exact Or.inr ⟨if_neg h, by omega, by omega⟩
/-- Too many, or too long. -/
def longDl (l : List Dl) : Bool := decide (80 < l.length) || l.any (fun m => decide (20 < m.kind.size) || decide (longTk m.t = 1) || longF m.f)
theorem longDl_no {l : List Dl} (h : longDl l = false) : l.length ≤ 80 ∧ ∀ m ∈ l, m.kind.size ≤ 20 ∧ (m.t.who.size ≤ 20 ∧ m.t.dst.size ≤ 20) ∧ longF m.f = false := by
  unfold longDl at h
  simp only [Bool.or_eq_false_iff, decide_eq_false_iff_not, List.any_eq_false, Bool.or_eq_true, decide_eq_true_eq, not_or] at h
  refine ⟨by omega, fun m hm => ?_⟩
  obtain ⟨⟨h1, h2⟩, h3⟩ := h.2 m hm
  refine ⟨by omega, ?_, by simpa using h3⟩
  rcases longTk_cases m.t with ⟨g, _⟩ | ⟨_, g⟩
  · exact absurd g h2
  · exact g

set_option maxRecDepth 100000 in
set_option maxHeartbeats 4000000 in
theorem longDeals_any (v : Value) (l : List Dl) (w : World) (hv : DlIn w v l) (hsz : ∀ m ∈ l, m.t.who.size ≤ maxLen ∧ m.t.dst.size ≤ maxLen) :
    Calls Tryd.prog 17 #[v] w fun e w' => e = .returned (.bool (longDl l)) ∧ Below w.heap.size w w' := by
  obtain ⟨ad, cap, rfl, hc, hcell⟩ := hv
  by_cases h40 : 80 < l.length
  · have hL : longDl l = true := by unfold longDl; rw [decide_eq_true h40]; rfl
    rw [hL]
    clear hcell hL hsz
    generalize l.length = n at *
    have hz : (80 : Int) < (n : Int) := by omega
    go_enter Tryd.func17, Tryd.ntmps17
    go_wp2
    go_ret
    exact ⟨rfl, Below.refl _ _⟩
  · have HQ : Hid (longDl l = l.any (fun m => decide (20 < m.kind.size) || decide (longTk m.t = 1) || longF m.f)) := by show _ = _; unfold longDl; rw [decide_eq_false h40]; rfl
    have HSz := hide hsz
    clear hsz
    generalize hr : longDl l = r at *
    have HV := hide hcell
    generalize hn : l.length = n at *
    have HN := hide hn
    have hz : ¬ (80 : Int) < (n : Int) := by omega
    have hn40 : n ≤ 80 := by omega
    clear hcell hr hn h40
    go_enter Tryd.func17, Tryd.ntmps17
    go_wp2
    go_loopw [3] (fun i wr => ∃ k : Nat, k ≤ n ∧ i = .int .i64 k ∧ Hid (Below w.heap.size w wr) ∧ Hid (∀ j (hj : j < l.length), j < k → (decide (20 < l[j].kind.size) || decide (longTk l[j].t = 1) || longF l[j].f) = false)) (fun i _ => n - (intOf i).toNat)
    case atStart => exact ⟨0, Nat.zero_le _, rfl, Below.refl _ _, fun j _ hj => absurd hj (Nat.not_lt_zero _)⟩
    case round =>
      obtain ⟨k, hk, rfl, HB, A⟩ := hrel
      by_cases hlt : k < n
      · have hkl : k < l.length := by rw [HN.out]; exact hlt
        obtain ⟨b, o, rfl, hb, hcell⟩ := HV.out (by omega)
        obtain ⟨⟨c0, c1, c2, c3, c4, c5, c6, _, _⟩, vf, c9, hf⟩ := (hcell k _ (List.getElem?_eq_getElem hkl)).below HB.out
        have hltz : (k : Int) < (n : Int) := by omega
        have HTrue : Hid ((decide (20 < (l[k]'hkl).kind.size) || decide (longTk (l[k]'hkl).t = 1) || longF (l[k]'hkl).f) = true → r = true) := fun h => by
          rw [HQ.out, List.any_eq_true]
          exact ⟨_, List.getElem_mem hkl, h⟩
        have HNext : Hid ((decide (20 < (l[k]'hkl).kind.size) || decide (longTk (l[k]'hkl).t = 1) || longF (l[k]'hkl).f) = false → ∀ j (hj : j < l.length), j < k + 1 → (decide (20 < l[j].kind.size) || decide (longTk l[j].t = 1) || longF l[j].f) = false) := fun h1 j hj hjk => by
          by_cases e : j = k
          · subst e; exact h1
          · exact A.out j hj (by omega)
        have HS := hide (HSz.out _ (List.getElem_mem hkl))
        clear hcell
        generalize hq : l[k]'hkl = q at *
        clear hq
        obtain ⟨kind, t, num, now, fl⟩ := q
        dsimp only at *
        have HT := hide (longTk_any t wr HS.out.1 HS.out.2)
        have HF := hide (fun w h => longFloors_any vf fl w h)
        have HFl := hide hf
        obtain ⟨ad9, cap9, rfl, _⟩ := hf.form
        by_cases h20 : 20 < kind.size
        · have HR1 := hide (HTrue.out (by simp [h20]))
          have h20z : (20 : Int) < (kind.size : Int) := by omega
          clear c1 c2 c3 c4 c5 c6 c9 hf
          go_wp2
          go_ret
          exact ⟨by rw [HR1.out]; rfl, HB.out⟩
        · have h20z : ¬ (20 : Int) < (kind.size : Int) := by omega
          rw [tk_val] at HT
          rcases longTk_cases t with ⟨ht, _⟩ | ⟨ht, _⟩
          · have HR1 := hide (HTrue.out (by simp [ht]))
            rw [ht] at HT
            obtain ⟨who, dst, epoch, frm, til, ser⟩ := t
            dsimp only at *
            clear c9 hf ht
            go_wp2_with fail
            refine HT.out.mono ?_
            rintro e w1 ⟨rfl, hb1⟩
            have HB1 : Hid (Below w.heap.size w w1) := HB.out.trans (hb1.mono HB.out.size)
            clear hb1
            go_wp2
            go_ret
            exact ⟨by rw [HR1.out]; rfl, HB1.out⟩
          · rw [ht] at HT
            obtain ⟨who, dst, epoch, frm, til, ser⟩ := t
            dsimp only at *
            cases hlf : longF fl with
            | true =>
              have HR1 := hide (HTrue.out (by simp [hlf]))
              rw [hlf] at HF
              clear ht hf hlf
              go_wp2_with fail
              refine HT.out.mono ?_
              rintro e w1 ⟨rfl, hb1⟩
              have HB1 : Hid (Below w.heap.size w w1) := HB.out.trans (hb1.mono HB.out.size)
              have d9 := (hb1.cell (cell_lt c9)).trans c9
              have HF1 := hide (HFl.out.below hb1)
              clear hb1 c0 c1 c2 c3 c4 c5 c6 c9 HT
              go_wp2_with fail
              refine (HF.out _ HF1.out).mono ?_
              rintro e w2 ⟨rfl, rfl⟩
              go_wp2
              go_ret
              exact ⟨by rw [HR1.out]; rfl, HB1.out⟩
            | false =>
              have HNx := hide (HNext.out (by simp [hlf, ht, h20]))
              rw [hlf] at HF
              clear ht hf hlf
              go_wp2_with fail
              refine HT.out.mono ?_
              rintro e w1 ⟨rfl, hb1⟩
              have HB1 : Hid (Below w.heap.size w w1) := HB.out.trans (hb1.mono HB.out.size)
              have d9 := (hb1.cell (cell_lt c9)).trans c9
              have HF1 := hide (HFl.out.below hb1)
              clear hb1 c0 c1 c2 c3 c4 c5 c6 c9 HT
              go_wp2_with fail
              refine (HF.out _ HF1.out).mono ?_
              rintro e w2 ⟨rfl, rfl⟩
              go_wp2
              go_roundw
              case rel => exact ⟨k + 1, by omega, by go_num, HB1, HNx⟩
              case measure => simp [intOf]; omega
      · obtain rfl : k = n := by omega
        have hltz : ¬ (k : Int) < (k : Int) := by omega
        have hr0 : r = false := by
          rw [HQ.out, List.any_eq_false]
          intro f hf
          obtain ⟨j, hj, rfl⟩ := List.getElem_of_mem hf
          have := A.out j hj (by rw [← HN.out]; exact hj)
          rw [this]
          decide
        have HR0 := hide hr0
        clear hr0
        go_wp2
        go_ret
        exact ⟨by rw [HR0.out]; rfl, HB.out⟩

/-- Numbers in a slice. -/
def NumAt (w : World) (v : Value) (xs : List Int) : Prop := ∃ ad c, v = .slice ad xs.length c ∧ xs.length ≤ c ∧ (xs = [] ∨ ∃ b o, ad = some ⟨b, o, none⟩ ∧ ∀ j x, xs[j]? = some x → w.cell? ⟨b, o + j, none⟩ = some (.int .i64 x))
theorem NumAt.below {w w' : World} {v : Value} {xs : List Int} (h : NumAt w v xs) (hb : Below w.heap.size w w') : NumAt w' v xs := by
  obtain ⟨ad, c, h1, h2, h3⟩ := h
  refine ⟨ad, c, h1, h2, ?_⟩
  rcases h3 with h3 | ⟨b, o, h4, h5⟩
  · exact Or.inl h3
  · exact Or.inr ⟨b, o, h4, fun j x hj => (hb.cell (cell_lt (h5 j x hj))).trans (h5 j x hj)⟩
theorem own_num {w : World} {B : Nat} {v : Value} {xs : List Int} (h : OwnNum w B v xs) : NumAt w v xs := by
  rcases h.2 with ⟨rfl, h0⟩ | ⟨g, cap, cur, rfl, _, hg, hc, _, _, ht⟩
  · exact ⟨none, 0, by rw [h0], by omega, Or.inl (List.length_eq_zero_iff.1 h0)⟩
  · refine ⟨_, cap, rfl, hc, Or.inr ⟨g, 0, rfl, fun j x hj => ?_⟩⟩
    rw [Nat.zero_add, cell_of_row w g j cur _ _ hg]
    have e1 : (cellsNum xs)[j]? = some (.int .i64 x) := by
      unfold cellsNum
      rw [List.getElem?_map, hj]
      rfl
    rw [← ht, List.getElem?_take] at e1
    split at e1
    · simpa using e1
    · cases e1

set_option maxHeartbeats 1000000 in
theorem sameNum_any (xs : List Int) (v1 v2 : Value) (w : World) (hsz : xs.length ≤ 1000000) (h1 : NumAt w v1 xs) (h2 : NumAt w v2 xs) :
    Calls Tryd.prog 24 #[v1, v2] w fun e w' => e = .returned (.bool true) ∧ Below w.heap.size w w' := by
  obtain ⟨ad1, c1, rfl, hc1, h1⟩ := h1
  obtain ⟨ad2, c2, rfl, hc2, h2⟩ := h2
  have HA := hide h1
  have HB := hide h2
  generalize hl : xs.length = n at *
  have HL := hide hl
  clear h1 h2 hl
  go_enter Tryd.func24, Tryd.ntmps24
  go_wp2
  go_loopw [5] (fun c wr => ∃ k : Nat, k ≤ n ∧ c = .int .i64 k ∧ Below w.heap.size w wr) (fun c _ => n - (intOf c).toNat)
  case atStart => exact ⟨0, by omega, rfl, Below.refl _ _⟩
  case round =>
    obtain ⟨k, hk, rfl, hbl⟩ := hrel
    by_cases hlt : k < n
    · have hkl : k < xs.length := by rw [HL.out]; exact hlt
      have hne : xs ≠ [] := fun e => by rw [e] at hkl; simp at hkl
      rcases HA.out with h0 | ⟨ba, oa, rfl, ha⟩
      · exact absurd h0 hne
      rcases HB.out with h0 | ⟨bb, ob, rfl, hb⟩
      · exact absurd h0 hne
      have g1 := ha k _ (List.getElem?_eq_getElem hkl)
      have g2 := hb k _ (List.getElem?_eq_getElem hkl)
      have h1 := (hbl.cell (cell_lt g1)).trans g1
      have h2 := (hbl.cell (cell_lt g2)).trans g2
      generalize xs[k] = y at *
      have HBl : Hid (Below w.heap.size w wr) := hbl
      clear hbl hkl ha hb g1 g2 hne
      go_wp2
      go_region
      go_wp2
      go_roundw
      case rel => exact ⟨k + 1, by omega, by go_num, HBl.out.drew⟩
      case measure => simp [intOf]; omega
    · go_wp2
      go_ret
      exact ⟨rfl, hbl⟩

set_option maxHeartbeats 1000000 in
theorem inNum_any (x : Int) (xs : List Int) (v : Value) (w : World) (hsz : xs.length ≤ 1000000) (h1 : NumAt w v xs) :
    Calls Tryd.prog 25 #[.int .i64 x, v] w fun e w' => e = .returned (.bool (decide (x ∈ xs))) ∧ w' = w := by
  obtain ⟨ad1, c1, rfl, hc1, h1⟩ := h1
  have HA := hide h1
  have HD : Hid (∀ b : Bool, (x ∈ xs ↔ b = true) → decide (x ∈ xs) = b) := fun b hb => by cases b <;> simp_all
  generalize hdx : decide (x ∈ xs) = dx at *
  have HDx := hide hdx
  clear hdx
  generalize hl : xs.length = n at *
  have HL := hide hl
  clear h1 hl
  go_enter Tryd.func25, Tryd.ntmps25
  go_wp2
  go_loop [5] (fun c => ∃ k : Nat, k ≤ n ∧ c = .int .i64 k ∧ Hid (∀ j y, xs[j]? = some y → j < k → y ≠ x)) (fun c => n - (intOf c).toNat)
  case atStart => exact ⟨0, by omega, rfl, fun j y _ hj => absurd hj (Nat.not_lt_zero _)⟩
  case round =>
    obtain ⟨k, hk, rfl, A⟩ := hrel
    by_cases hlt : k < n
    · have hkl : k < xs.length := by rw [HL.out]; exact hlt
      have hne : xs ≠ [] := fun e => by rw [e] at hkl; simp at hkl
      rcases HA.out with h0 | ⟨ba, oa, rfl, ha⟩
      · exact absurd h0 hne
      have g1 := ha k _ (List.getElem?_eq_getElem hkl)
      by_cases he : xs[k] = x
      · have HQ := hide (HD.out true ⟨fun _ => rfl, fun _ => by rw [← he]; exact List.getElem_mem hkl⟩)
        rw [he] at g1
        clear ha hne he
        go_wp2
        go_ret
        exact ⟨by rw [HQ.out]; rfl, rfl⟩
      · have hq : (xs[k] == x) = false := by rw [beq_eq_false_iff_ne]; exact he
        have HNx : Hid (∀ j y, xs[j]? = some y → j < k + 1 → y ≠ x) := fun j y hj hjk => by
          by_cases e : j = k
          · subst e
            rw [List.getElem?_eq_getElem hkl] at hj
            rw [← Option.some.inj hj]
            exact he
          · exact A.out j y hj (by omega)
        generalize xs[k] = y at *
        clear ha hne he
        go_wp2
        go_round
        case rel => exact ⟨k + 1, by omega, by go_num, HNx⟩
        case measure => simp [intOf]; omega
    · have HQ := hide (HD.out false ⟨fun hm => by
        obtain ⟨j, hj, e⟩ := List.getElem_of_mem hm
        exact absurd e (A.out j _ (List.getElem?_eq_getElem hj) (by rw [HL.out] at hj; omega)), fun h => by cases h⟩)
      go_wp2
      go_ret
      exact ⟨by rw [HQ.out]; rfl, rfl⟩
end Go.Proofs.YteabincmopeljadDoor

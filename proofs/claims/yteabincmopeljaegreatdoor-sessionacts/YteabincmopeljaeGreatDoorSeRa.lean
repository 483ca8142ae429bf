/-
  A desk as the document's answer holds it, in memory: its block, and behind it the row of its open sessions; what its Open gives, and what it does, for every desk, ticket and time.
  What the document's answer's Ask, Close and All of a desk give, and what they do, for every desk, number and time.
  What the document's answer's Close and All of a desk give, and what they do, for every desk and number.
  What the document's answer's Sweep of a desk gives, and what it does, for every desk, floors and time.
-/
import Derived.Test.YteabincmopeljaeGreatDoorSessPlain
import Derived.Test.YteabincmopeljaeGreatDoorSessKept
import Derived.Test.YteabincmopeljaeGreatDoorTkPa
import Derived.Test.YteabincmopeljaeGreatDoorFloorRef
import Derived.Laws.Rows
import Derived.OwnWalk
import Derived.WalkKit
import Derived.Laws.AppendOwnNone
import Derived.Deep.AppendLies
import Derived.Deep.RegionHeld3
import Derived.Deep.RegionLaw
import Derived.BigQuiet
import Derived.Test.YteabincmopeljaeGreatDoorSePa
import Derived.Test.YteabincmopeljaeGreatDoorFlPb
import Derived.Test.YteabincmopeljaeGreatDoorQuietBelow
import Derived.Deep.CutBlock
import Derived.Deep.DeepCutAuto
namespace Go.Proofs.YteabincmopeljaeGreatDoor
open Go.RowKit Go.Extern.Stop Go.Stop Go.Extern Go.Proofs

def osC (o : Os) : List Value := [.int .i64 o.n, .string o.tk.who, .string o.tk.dst, .int .i64 o.tk.epoch, .int .i64 o.tk.frm, .int .i64 o.tk.til, .int .i64 o.tk.ser]
def cellsO (L : List Os) : List Value := L.flatMap osC
theorem cellsO_cons (o : Os) (L : List Os) : cellsO (o :: L) = osC o ++ cellsO L := rfl
theorem cellsO_len : ∀ L : List Os, (cellsO L).length = L.length * 7
  | [] => rfl
  | o :: L => by
    rw [cellsO_cons, List.length_append, cellsO_len L, List.length_cons]
    show 7 + _ = _
    omega
theorem cellsO_append (L M : List Os) : cellsO (L ++ M) = cellsO L ++ cellsO M := by simp [cellsO]
theorem osC_one (o : Os) : ∀ u ∈ osC o, u.oneCell' = true := fun u hu => by
  simp only [osC, List.mem_cons, List.not_mem_nil, or_false] at hu
  rcases hu with rfl | rfl | rfl | rfl | rfl | rfl | rfl <;> rfl
theorem cellsO_at : ∀ (L : List Os) (i j : Nat) (hi : i < L.length), j < 7 → (cellsO L)[i * 7 + j]? = (osC L[i])[j]?
  | o :: L, 0, j, _, hj => by
    rw [cellsO_cons, Nat.zero_mul, Nat.zero_add, List.getElem?_append_left (by show j < 7; exact hj)]
    rfl
  | o :: L, i + 1, j, hi, hj => by
    have ih := cellsO_at L i j (by simpa using hi) hj
    rw [cellsO_cons, List.getElem?_append_right (by show 7 ≤ _; omega), show (i + 1) * 7 + j - (osC o).length = i * 7 + j by show (i + 1) * 7 + j - 7 = _; omega]
    exact ih
abbrev OwnO (w : World) (B : Nat) (v : Value) (L : List Os) : Prop := w.ownsRow B 70 7 v L.length (cellsO L)
/-- An open session's seven cells at a place of a row. -/
def OsAt (w : World) (g i : Nat) (o : Os) : Prop :=
  w.cell? ⟨g, i * 7, none⟩ = some (.int .i64 o.n) ∧ w.cell? ⟨g, i * 7 + 1, none⟩ = some (.string o.tk.who) ∧ w.cell? ⟨g, i * 7 + 2, none⟩ = some (.string o.tk.dst) ∧ w.cell? ⟨g, i * 7 + 3, none⟩ = some (.int .i64 o.tk.epoch) ∧ w.cell? ⟨g, i * 7 + 4, none⟩ = some (.int .i64 o.tk.frm) ∧ w.cell? ⟨g, i * 7 + 5, none⟩ = some (.int .i64 o.tk.til) ∧ w.cell? ⟨g, i * 7 + 6, none⟩ = some (.int .i64 o.tk.ser)
theorem OsAt.below {w w' : World} {g i : Nat} {o : Os} (h : OsAt w g i o) (hb : Below w.heap.size w w') : OsAt w' g i o := by
  obtain ⟨h0, h1, h2, h3, h4, h5, h6⟩ := h
  have hg := cell_lt h0
  exact ⟨(hb.cell (p := ⟨g, i * 7, none⟩) hg).trans h0, (hb.cell (p := ⟨g, i * 7 + 1, none⟩) hg).trans h1, (hb.cell (p := ⟨g, i * 7 + 2, none⟩) hg).trans h2, (hb.cell (p := ⟨g, i * 7 + 3, none⟩) hg).trans h3, (hb.cell (p := ⟨g, i * 7 + 4, none⟩) hg).trans h4, (hb.cell (p := ⟨g, i * 7 + 5, none⟩) hg).trans h5, (hb.cell (p := ⟨g, i * 7 + 6, none⟩) hg).trans h6⟩
/-- A row of open sessions, read. -/
theorem own_readO {w : World} {B : Nat} {v : Value} {L : List Os} (h : OwnO w B v L) :
    ∃ ad cap, v = .slice ad L.length cap ∧ L.length ≤ cap ∧ ((L = [] ∧ ad = none ∧ cap = 0) ∨ ∃ g, ad = some ⟨g, 0, none⟩ ∧ B ≤ g ∧ g < w.heap.size ∧ ∀ i o, L[i]? = some o → OsAt w g i o) := by
  rcases h.2 with ⟨rfl, h0⟩ | ⟨g, cap, cur, rfl, hb, hg, hc, _, _, ht⟩
  · exact ⟨none, 0, by rw [h0], by omega, Or.inl ⟨List.length_eq_zero_iff.1 h0, rfl, rfl⟩⟩
  · refine ⟨_, cap, rfl, hc, Or.inr ⟨g, rfl, hb, row_lt hg, fun i o ho => ?_⟩⟩
    obtain ⟨hi, rfl⟩ := List.getElem?_eq_some_iff.1 ho
    have key : ∀ j (_ : j < 7) u, (osC L[i])[j]? = some u → w.cell? ⟨g, i * 7 + j, none⟩ = some u := fun j hj u hu => by
      have e := cellsO_at L i j hi hj
      rw [hu, ← ht, List.getElem?_take] at e
      rw [cell_of_row w g _ cur _ _ hg]
      split at e
      · simpa using e
      · cases e
    exact ⟨key 0 (by decide) _ rfl, key 1 (by decide) _ rfl, key 2 (by decide) _ rfl, key 3 (by decide) _ rfl, key 4 (by decide) _ rfl, key 5 (by decide) _ rfl, key 6 (by decide) _ rfl⟩
theorem own_keepO {w w' : World} {B : Nat} {v : Value} {L : List Os} (h : OwnO w B v L) (hk : ∀ g, v.ownBlock = some g → w'.heap[g]? = w.heap[g]?) : OwnO w' B v L := by
  refine ⟨h.1, ?_⟩
  rcases h.2 with g | ⟨g, cap, cur, rfl, hb, hg, hc, hm, hs, ht⟩
  · exact Or.inl g
  · exact Or.inr ⟨g, cap, cur, rfl, hb, by rw [hk g rfl]; exact hg, hc, hm, hs, ht⟩
theorem own_lessO {w : World} {B B' : Nat} {v : Value} {L : List Os} (h : OwnO w B v L) (hb : B' ≤ B) : OwnO w B' v L := by
  refine ⟨h.1, ?_⟩
  rcases h.2 with g | ⟨g, cap, cur, rfl, hg, r⟩
  · exact Or.inl g
  · exact Or.inr ⟨g, cap, cur, rfl, Nat.le_trans hb hg, r⟩
abbrev dkO (many : Int) (v : Value) : Obj := .cells #[.int .i64 many, v] 30 (0, 0)
/-- A desk, as the document's answer holds it. -/
structure RefDesk (w : World) (rp : Nat) (v : Value) (d : Dk) : Prop where
  row : w.heap[rp]? = some (dkO d.many v)
  own : OwnO w (rp + 1) v d.l
theorem RefDesk.below {w w' : World} {rp : Nat} {v : Value} {d : Dk} (h : RefDesk w rp v d) (hb : Below w.heap.size w w') : RefDesk w' rp v d :=
  ⟨(hb.block rp (row_lt h.row)).trans h.row, own_keepO h.own fun g hg => hb.block g (h.own.lt g hg).2⟩
theorem dk_cells {w : World} {rp : Nat} {many : Int} {v : Value} (h : w.heap[rp]? = some (dkO many v)) : w.cell? ⟨rp, 0, none⟩ = some (.int .i64 many) ∧ w.cell? ⟨rp, 1, none⟩ = some v ∧ w.frozen? ⟨rp, 0, none⟩ = false ∧ w.frozen? ⟨rp, 1, none⟩ = false :=
  ⟨cell_of_row w rp 0 _ _ _ h, cell_of_row w rp 1 _ _ _ h, frozen_of_row w rp 0 _ _ h, frozen_of_row w rp 1 _ _ h⟩
/-- What an act leaves. -/
def DkPost (w : World) (rp : Nat) (v : Value) (d' : Dk) (w' : World) : Prop := ∃ v', RefDesk w' rp v' d' ∧ KeptD (fun k => k = rp ∨ v.ownBlock = some k) w w'
theorem DkPost.same {w w' : World} {rp : Nat} {v : Value} {d : Dk} (h : RefDesk w rp v d) (hb : Below w.heap.size w w') : DkPost w rp v d w' := ⟨v, h.below hb, KeptD.of_below _ hb⟩
theorem Tryz.infoOpen : (Tryz.prog.info? 70).map (fun i => (i.zero, i.size, i.bytes)) = some (some (.agg #[.int .i64 0, .string ByteArray.empty, .string ByteArray.empty, .int .i64 0, .int .i64 0, .int .i64 0, .int .i64 0]), 7, 72) := by kernel_rfl
theorem own_setO {w : World} {B rp : Nat} {v vv : Value} {L : List Os} {many : Int} (h : OwnO w B v L) (hrow : w.heap[rp]? = some (dkO many vv)) (o : Nat) (u : Value) : OwnO (w.setCell ⟨rp, o, none⟩ u) B v L :=
  own_keepO h fun g hg => by
    rcases h.2 with ⟨rfl, _⟩ | ⟨g', cap, cur, rfl, _, hc, _⟩
    · cases hg
    · have : g' = g := by simpa [Value.ownBlock] using hg
      subst this
      refine heap_setCell_other w _ g' _ fun e => ?_
      have e' : g' = rp := e
      rw [e', hrow] at hc
      have := Option.some.inj hc
      injection this with _ h2 _
      exact absurd h2 (by decide)
theorem own_formO {w : World} {B n : Nat} {v : Value} {xs : List Value} (h : w.ownsRow B 70 7 v n xs) (hn : n ≠ 0) : ∃ g cap, v = .slice (some ⟨g, 0, none⟩) n cap := by
  rcases h.2 with ⟨_, h0⟩ | ⟨g, cap, cur, rfl, _⟩
  · exact absurd h0 hn
  · exact ⟨g, cap, rfl⟩

set_option maxRecDepth 100000 in
set_option maxHeartbeats 4000000 in
theorem refOpenD_err (rp : Nat) (v : Value) (d : Dk) (t : Tk) (now : Int) (w : World) (h : RefDesk w rp v d) (hn : d.l.length ≤ 1000) (hs : t.who.size ≤ maxLen) (hs2 : t.dst.size ≤ maxLen) (he : openO d.l t now ≠ 0) :
    Calls Tryz.prog 8 #[.pointer (some ⟨rp, 0, none⟩), t.val, .int .i64 now] w fun e w' => e = .returned (.tuple #[.int .i64 0, .int .i64 (openO d.l t now : Int)]) ∧ Below w.heap.size w w' := by
  have HB0 : Hid (Below w.heap.size w (w.alloc (tkO t))) := (Below.refl _ w).alloc (Nat.le_refl _) _
  have HR0 : Hid ((w.alloc (tkO t)).heap[w.heap.size]? = some (tkO t)) := heap_alloc_new _ _
  obtain ⟨x0, x1, x2, x3, x4, x5⟩ := tk_row HR0.out
  have HG := hide (refGood_any t now (w.alloc (tkO t)) hs hs2)
  have HRow := hide (h.below HB0.out).row
  obtain ⟨ad, cap, rfl, hcap, hrd⟩ := own_readO h.own
  clear hrd hcap
  rw [tk_val] at HG ⊢
  by_cases hg : t.good now = 0
  · have h40 : 40 ≤ d.l.length := by
      unfold openO at he
      rw [if_neg (by simpa using hg)] at he
      exact Decidable.byContradiction fun g => he (by rw [if_neg g])
    have e7 : openO d.l t now = 7 := by unfold openO; rw [if_neg (by simpa using hg), if_pos h40]
    rw [e7]
    rw [hg] at HG
    clear hg he e7 h
    generalize d.l.length = n at *
    have hz : (40 : Int) ≤ (n : Int) := by omega
    go_enter Tryz.func8, Tryz.ntmps8
    go_wp2_with fail
    refine HG.out.mono ?_
    rintro e w1 ⟨rfl, hb⟩
    have HB1 : Hid (Below w.heap.size w w1) := HB0.out.trans (hb.mono HB0.out.size)
    have hc1 : w1.cell? ⟨rp, 1, none⟩ = some (.slice ad n cap) := cell_of_row w1 rp 1 _ _ _ ((hb.block rp (row_lt HRow.out)).trans HRow.out)
    clear hb HG
    go_wp2
    go_ret2
    exact ⟨rfl, HB1.out⟩
  · have e7 : openO d.l t now = t.good now := by unfold openO; rw [if_pos hg]
    rw [e7]
    have hpos : (0 : Int) < (t.good now : Int) := by omega
    clear hg he e7 h HRow
    generalize (t.good now : Int) = c at *
    go_enter Tryz.func8, Tryz.ntmps8
    go_wp2_with fail
    refine HG.out.mono ?_
    rintro e w1 ⟨rfl, hb⟩
    have HB1 : Hid (Below w.heap.size w w1) := HB0.out.trans (hb.mono HB0.out.size)
    clear hb HG
    go_wp2
    go_ret2
    exact ⟨rfl, HB1.out⟩
set_option maxRecDepth 100000 in
set_option maxHeartbeats 8000000 in
theorem refOpenD_ok (rp : Nat) (v : Value) (d : Dk) (t : Tk) (now : Int) (w : World) (h : RefDesk w rp v d) (hs : t.who.size ≤ maxLen) (hs2 : t.dst.size ≤ maxLen) (hm : 0 ≤ d.many ∧ d.many ≤ 1000000) (he : openO d.l t now = 0) :
    Calls Tryz.prog 8 #[.pointer (some ⟨rp, 0, none⟩), t.val, .int .i64 now] w fun e w' => e = .returned (.tuple #[.int .i64 (d.many + 1), .int .i64 0]) ∧ DkPost w rp v (d.opens t now) w' := by
  obtain ⟨i0, hi, hz0, hz1, hz2⟩ := info_parts Tryz.infoOpen
  obtain ⟨hg, h40⟩ := openO_zero he
  have HOp : Hid (d.opens t now = ⟨d.many + 1, d.l ++ [⟨d.many + 1, t⟩]⟩) := by show _ = _; unfold Dk.opens; rw [if_pos he]
  have HB0 : Hid (Below w.heap.size w (w.alloc (tkO t))) := (Below.refl _ w).alloc (Nat.le_refl _) _
  have HR0 : Hid ((w.alloc (tkO t)).heap[w.heap.size]? = some (tkO t)) := heap_alloc_new _ _
  obtain ⟨x0, x1, x2, x3, x4, x5⟩ := tk_row HR0.out
  have HG := hide (refGood_any t now (w.alloc (tkO t)) hs hs2)
  rw [hg] at HG
  have HD := hide (h.below HB0.out)
  have HRp := hide (row_lt h.row)
  obtain ⟨ad, cap, rfl, hcap, hrd⟩ := own_readO h.own
  clear hrd
  obtain ⟨hm1, hm2⟩ := hm
  rw [tk_val] at HG ⊢
  rw [HOp.out]
  clear hg he h
  obtain ⟨many, L⟩ := d
  dsimp only at *
  have hw1 : IntKind.i64.wrap (many + 1) = many + 1 := by rw [IntKind.wrap_i64]; omega
  generalize hn : L.length = n at *
  have HN := hide hn
  clear hn
  have hz : ¬ (40 : Int) ≤ (n : Int) := by omega
  go_enter Tryz.func8, Tryz.ntmps8
  go_wp2_with fail
  refine HG.out.mono ?_
  rintro e w1 ⟨rfl, hb⟩
  have HB1 : Hid (Below w.heap.size w w1) := HB0.out.trans (hb.mono HB0.out.size)
  have HD1 := hide (HD.out.below hb)
  have HR1 : Hid (w1.heap[w.heap.size]? = some (tkO t)) := (hb.block _ (row_lt HR0.out)).trans HR0.out
  have hrow1 : w1.heap[rp]? = some (dkO many (.slice ad n cap)) := HD1.out.row
  obtain ⟨hc0, hc1, hf0, hf1⟩ := dk_cells hrow1
  clear hb HG HD HB0 HR0 x0 x1 x2 x3 x4 x5
  go_wp2_with fail
  have hrow2 := heap_setCell_same w1 rp 0 _ _ (.int .i64 (many + 1)) hrow1
  have hrow3 : (w1.setCell ⟨rp, 0, none⟩ (.int .i64 (many + 1))).heap[rp]? = some (dkO (many + 1) (.slice ad n cap)) := hrow2
  have hown3 := own_setO HD1.out.own HD1.out.row 0 (.int .i64 (many + 1))
  have hne : w.heap.size ≠ rp := fun e => by have := HRp.out; omega
  have hrowt : (w1.setCell ⟨rp, 0, none⟩ (.int .i64 (many + 1))).heap[w.heap.size]? = some (tkO t) := by rw [heap_setCell_other w1 _ _ _ hne]; exact HR1.out
  have hk3 : KeptD (fun k => k = rp ∨ (Value.slice ad n cap).ownBlock = some k) w (w1.setCell ⟨rp, 0, none⟩ (.int .i64 (many + 1))) := (KeptD.of_below _ HB1.out).setCell (Or.inl rfl) _
  have HRow3 := hide hrow3
  have HRt := hide hrowt
  have HK3 := hide hk3
  have HO3 : Hid ((w1.setCell ⟨rp, 0, none⟩ (.int .i64 (many + 1))).ownsRow (rp + 1) 70 7 (.slice ad n cap) n (cellsO L)) := by
    show World.ownsRow _ _ _ _ _ _ _
    have := hown3
    unfold OwnO at this
    rw [HN.out] at this
    exact this
  clear hrow2 hrow3 hown3 hrowt hk3 hrow1 hne hc0 hc1 hf0 hf1 HR1 HD1 HB1
  generalize w1.setCell ⟨rp, 0, none⟩ (.int .i64 (many + 1)) = w2 at *
  obtain ⟨hc0, hc1, hf0, hf1⟩ := dk_cells HRow3.out
  obtain ⟨x0, x1, x2, x3, x4, x5⟩ := tk_row HRt.out
  have hrpl : rp < w2.heap.size := row_lt HRow3.out
  have hrb : rp + 1 ≤ w2.heap.size := hrpl
  have HVo : Hid ((Value.slice ad n cap).ownBlock ≠ some rp) := fun e => absurd (HO3.out.lt _ e).1 (by omega)
  have HCe : Hid (n + 1 = (L ++ [(⟨many + 1, t⟩ : Os)]).length ∧ cellsO L ++ [.int .i64 (many + 1), .string t.who, .string t.dst, .int .i64 t.epoch, .int .i64 t.frm, .int .i64 t.til, .int .i64 t.ser] = cellsO (L ++ [(⟨many + 1, t⟩ : Os)])) := by
    show _ ∧ _
    refine ⟨by rw [List.length_append, HN.out]; rfl, ?_⟩
    rw [cellsO_append]
    rfl
  have HEnd : Hid (∀ w7 gg cp, w7.ownsRow (rp + 1) 70 7 (.slice (some ⟨gg, 0, none⟩) (n + 1) cp) (n + 1) (cellsO L ++ [.int .i64 (many + 1), .string t.who, .string t.dst, .int .i64 t.epoch, .int .i64 t.frm, .int .i64 t.til, .int .i64 t.ser]) → ((w2.drew).alloc (.cells #[.int .i64 (many + 1), .string t.who, .string t.dst, .int .i64 t.epoch, .int .i64 t.frm, .int .i64 t.til, .int .i64 t.ser] 70)).grownBy w7 (Value.slice ad n cap).ownBlock →
      DkPost w rp (.slice ad n cap) ⟨many + 1, L ++ [(⟨many + 1, t⟩ : Os)]⟩ (w7.setCell ⟨rp, 1, none⟩ (.slice (some ⟨gg, 0, none⟩) (n + 1) cp)) ∧ w7.cell? ⟨rp, 1, none⟩ = some (.slice ad n cap) ∧ w7.frozen? ⟨rp, 1, none⟩ = false ∧ w7.cell? ⟨rp, 0, none⟩ = some (.int .i64 (many + 1))) := fun w7 gg cp ho hg => by
    have hB : Below w2.heap.size w2 ((w2.drew).alloc (.cells #[.int .i64 (many + 1), .string t.who, .string t.dst, .int .i64 t.epoch, .int .i64 t.frm, .int .i64 t.til, .int .i64 t.ser] 70)) := (Below.refl _ w2).drew.alloc (Nat.le_refl _) _
    have hrow7 : w7.heap[rp]? = some (dkO (many + 1) (.slice ad n cap)) := (hg.block rp (Nat.lt_of_lt_of_le hrpl hB.size) (Ne.symm HVo.out)).trans ((hB.block rp hrpl).trans HRow3.out)
    obtain ⟨y0, y1, _, y3⟩ := dk_cells hrow7
    have hk7 : KeptD (fun k => k = rp ∨ (Value.slice ad n cap).ownBlock = some k) w w7 := (HK3.out.trans (KeptD.of_below _ hB)).grown hg (fun k hk => Or.inl (Or.inr hk))
    refine ⟨⟨_, ⟨heap_setCell_same w7 rp 1 _ _ _ hrow7, ?_⟩, hk7.setCell (p := ⟨rp, 1, none⟩) (Or.inl rfl) _⟩, y1, y3, y0⟩
    have ho2 : OwnO w7 (rp + 1) (.slice (some ⟨gg, 0, none⟩) (n + 1) cp) (L ++ [(⟨many + 1, t⟩ : Os)]) := by
      show World.ownsRow _ _ _ _ _ (L ++ [(⟨many + 1, t⟩ : Os)]).length _
      rw [← HCe.out.1, ← HCe.out.2]
      exact ho
    exact own_setO ho2 hrow7 1 _
  go_region_law
    (refine step_append_lies _ (by rfl) _ _ _ (by rfl) (rp + 1) 70 i0 _ 7 72 Tryz.underlying28 hi hz0 hz1 hz2 rfl (by omega) (.slice ad n cap) n (cellsO L) (by rfl) ((show World.ownsRow _ _ _ _ _ _ _ from HO3.out).alloc _) ⟨w2.heap.size, 0, none⟩ 1 1 [.int .i64 (many + 1), .string t.who, .string t.dst, .int .i64 t.epoch, .int .i64 t.frm, .int .i64 t.til, .int .i64 t.ser] (by rfl) (by rfl) (World.news_of_block (cs := #[.int .i64 (many + 1), .string t.who, .string t.dst, .int .i64 t.epoch, .int .i64 t.frm, .int .i64 t.til, .int .i64 t.ser]) (t := 70) (fr := (0, 0)) (heap_alloc_new w2.drew _)) (by simp [Value.oneCell']) (by omega) (by unfold maxLen; omega) (by omega) (Nat.le_trans hrb (by simp)) (w2.heap.size + 1) (by simp) ?_; intro gg cp w7 hown1 hgrow hat hlt2; obtain ⟨hP, z1, z3, z0⟩ := HEnd.out w7 gg cp hown1 hgrow; have HPo := hide hP; clear hP hown1 hgrow hat hlt2)
  all_goals
    go_wp2
    go_ret2
    exact ⟨rfl, HPo.out⟩
end Go.Proofs.YteabincmopeljaeGreatDoor

namespace Go.Proofs.YteabincmopeljaeGreatDoor
open Go.RowKit Go.Extern.Stop Go.Stop Go.Extern Go.Proofs

set_option maxRecDepth 100000 in
set_option maxHeartbeats 4000000 in
theorem refAskD_any (rp : Nat) (v : Value) (d : Dk) (num now : Int) (w : World) (h : RefDesk w rp v d) (hn : d.l.length ≤ 1000) (hsz : ∀ o ∈ d.l, o.tk.who.size ≤ maxLen ∧ o.tk.dst.size ≤ maxLen) :
    Calls Tryz.prog 11 #[.pointer (some ⟨rp, 0, none⟩), .int .i64 num, .int .i64 now] w fun e w' => e = .returned (.tuple #[(askK d.l num now).val, .int .i64 (askO d.l num now : Int)]) ∧ Below w.heap.size w w' := by
  have HB0 : Hid (Below w.heap.size w (w.alloc (tkO tk0))) := (Below.refl _ w).alloc (Nat.le_refl _) _
  have HR0 : Hid ((w.alloc (tkO tk0)).heap[w.heap.size]? = some (tkO tk0)) := heap_alloc_new _ _
  obtain ⟨ad, cap, rfl, hcap, hrd⟩ := own_readO h.own
  have HRd := hide hrd
  have hc1 : (w.alloc (tkO tk0)).cell? ⟨rp, 1, none⟩ = some (.slice ad d.l.length cap) := (dk_cells ((HB0.out.block rp (row_lt h.row)).trans h.row)).2.1
  have HSz := hide hsz
  have HK := hide (rfl : askK d.l num now = askK d.l num now)
  obtain ⟨f0, f1, f2, f3, f4, f5⟩ := row_frozen6 HR0.out
  obtain ⟨W0, hW0⟩ : ∃ W, w.alloc (tkO tk0) = W := ⟨_, rfl⟩
  rw [hW0] at HB0 HR0 hc1 f0 f1 f2 f3 f4 f5
  have HW0 := hide hW0
  clear hrd h hsz HK hW0
  obtain ⟨many, L⟩ := d
  dsimp only at *
  generalize hln : L.length = n at *
  have HN := hide hln
  clear hln
  go_enter Tryz.func11, Tryz.ntmps11
  go_wp2
  rw [show w.alloc (.cells #[.string ⟨#[]⟩, .string ⟨#[]⟩, .int .i64 0, .int .i64 0, .int .i64 0, .int .i64 0] 32) = W0 from HW0.out]
  go_loop [8] (fun i => ∃ k : Nat, k ≤ n ∧ i = .int .i64 k ∧ Hid (∀ j (hj : j < L.length), j < k → L[j].n ≠ num)) (fun i => n - (intOf i).toNat)
  case atStart => exact ⟨0, Nat.zero_le _, rfl, fun j _ hj => absurd hj (Nat.not_lt_zero _)⟩
  case round =>
    obtain ⟨k, hk, rfl, A⟩ := hrel
    by_cases hlt : k < n
    · have hkl : k < L.length := by rw [HN.out]; exact hlt
      rcases HRd.out with ⟨e0, _, _⟩ | ⟨g, rfl, hgB, hgl, hos⟩
      · rw [e0] at hkl; simp at hkl
      obtain ⟨c0, c1, c2, c3, c4, c5, c6⟩ := (hos k _ (List.getElem?_eq_getElem hkl)).below HB0.out
      have hkc : k < cap := by omega
      have HA := hide (fun (hE : L[k].n = num) => findO_at L num k hkl hE A.out)
      have HNx : Hid (L[k].n ≠ num → ∀ j (hj : j < L.length), j < k + 1 → L[j].n ≠ num) := fun hE j hj hjk => by
        by_cases e : j = k
        · subst e; exact hE
        · exact A.out j hj (by omega)
      have HS := hide (HSz.out _ (List.getElem_mem hkl))
      clear hos hgB hgl
      generalize hq : L[k]'hkl = q at *
      by_cases he : q.n = num
      · have HF := hide (HA.out he)
        have HG := hide (refGood_any q.tk now W0 HS.out.1 HS.out.2)
        have e1 : Hid (askO L num now = q.tk.good now ∧ askK L num now = okT (q.tk.good now) q.tk) := by
          show _ ∧ _
          unfold askO askK
          rw [HF.out]
          exact ⟨rfl, rfl⟩
        rw [tk_val] at HG
        clear hq HA HNx A HF HS
        obtain ⟨qn, qt⟩ := q
        dsimp only at *
        subst he
        obtain ⟨who, dst, epoch, frm, til, ser⟩ := qt
        by_cases hg : Tk.good ⟨who, dst, epoch, frm, til, ser⟩ now = 0
        · have e2 : Hid (askO L qn now = 0 ∧ askK L qn now = ⟨who, dst, epoch, frm, til, ser⟩) := by show _ ∧ _; rw [e1.out.1, e1.out.2, hg]; exact ⟨rfl, rfl⟩
          rw [hg] at HG
          clear hg e1
          dsimp only at *
          go_wp2_with fail
          refine HG.out.mono ?_
          rintro e w1 ⟨rfl, hb⟩
          have HB1 : Hid (Below w.heap.size w w1) := HB0.out.trans (hb.mono HB0.out.size)
          have HR1 : Hid (w1.heap[w.heap.size]? = some (tkO tk0)) := (hb.block _ (row_lt HR0.out)).trans HR0.out
          obtain ⟨g0, g1, g2, g3, g4, g5⟩ := row_frozen6 HR1.out
          obtain ⟨x0, x1, x2, x3, x4, x5⟩ := tk_row HR1.out
          have y0 := (hb.cell (cell_lt c0)).trans c0
          have y1 := (hb.cell (cell_lt c1)).trans c1
          have y2 := (hb.cell (cell_lt c2)).trans c2
          have y3 := (hb.cell (cell_lt c3)).trans c3
          have y4 := (hb.cell (cell_lt c4)).trans c4
          have y5 := (hb.cell (cell_lt c5)).trans c5
          have y6 := (hb.cell (cell_lt c6)).trans c6
          have z1 := (hb.cell (cell_lt hc1)).trans hc1
          dsimp only [tk0] at x0 x1 x2 x3 x4 x5
          clear hb HG
          go_wp2
          refine tkEnd rfl w.heap.size ⟨who, dst, epoch, frm, til, ser⟩ rfl (row_set6 HR1.out _ _ _ _ _ _) rfl ?_
          rw [e2.out.1, e2.out.2]
          exact ⟨rfl, below_set6 HB1.out (Nat.le_refl _) _ _ _ _ _ _⟩
        · have hpos : (0 : Int) < (Tk.good ⟨who, dst, epoch, frm, til, ser⟩ now : Int) := by omega
          have e2 : Hid (askK L qn now = tk0) := by show _ = _; rw [e1.out.2, okT_no _ _ hg]
          generalize Tk.good ⟨who, dst, epoch, frm, til, ser⟩ now = c at *
          dsimp only at *
          go_wp2_with fail
          refine HG.out.mono ?_
          rintro e w1 ⟨rfl, hb⟩
          have HB1 : Hid (Below w.heap.size w w1) := HB0.out.trans (hb.mono HB0.out.size)
          have HR1 : Hid (w1.heap[w.heap.size]? = some (tkO tk0)) := (hb.block _ (row_lt HR0.out)).trans HR0.out
          obtain ⟨g0, g1, g2, g3, g4, g5⟩ := row_frozen6 HR1.out
          obtain ⟨x0, x1, x2, x3, x4, x5⟩ := tk_row HR1.out
          dsimp only [tk0] at x0 x1 x2 x3 x4 x5
          clear hb HG c0 c1 c2 c3 c4 c5 c6
          go_wp2
          refine tkEnd rfl w.heap.size tk0 rfl (row_set6 HR1.out _ _ _ _ _ _) rfl ?_
          rw [e1.out.1, e2.out]
          exact ⟨rfl, below_set6 HB1.out (Nat.le_refl _) _ _ _ _ _ _⟩
      · have HN1 := hide (HNx.out he)
        clear hq HA HNx HS
        obtain ⟨qn, who, dst, epoch, frm, til, ser⟩ := q
        dsimp only at *
        go_wp2
        go_round
        case rel => exact ⟨k + 1, by omega, by go_num, HN1⟩
        case measure => simp [intOf]; omega
    · have HF := hide (findO_no L num (fun j hj => A.out j hj (by rw [HN.out] at hj; omega)))
      have e2 : Hid (askO L num now = 5 ∧ askK L num now = tk0) := by
        show _ ∧ _
        unfold askO askK
        rw [HF.out]
        exact ⟨rfl, rfl⟩
      obtain ⟨x0, x1, x2, x3, x4, x5⟩ := tk_row HR0.out
      dsimp only [tk0] at x0 x1 x2 x3 x4 x5
      go_wp2
      refine tkEnd rfl w.heap.size tk0 rfl (row_set6 HR0.out _ _ _ _ _ _) rfl ?_
      rw [e2.out.1, e2.out.2]
      exact ⟨rfl, below_set6 HB0.out (Nat.le_refl _) _ _ _ _ _ _⟩
end Go.Proofs.YteabincmopeljaeGreatDoor

namespace Go.Proofs.YteabincmopeljaeGreatDoor
open Go.RowKit Go.Extern.Stop Go.Stop Go.Extern Go.Proofs

theorem closeL_succ (L : List Os) (num : Int) (k : Nat) (hk : k < L.length) : closeL (L.take (k + 1)) num = closeL (L.take k) num ++ (if L[k].n = num then [] else [L[k]]) := by
  unfold closeL
  rw [List.take_succ_eq_append_getElem hk, List.filter_append]
  congr 1
  by_cases h : L[k].n = num <;> simp [h]
theorem new_cellsO (w : World) (o : Os) : ∀ j u, (osC o)[j]? = some u → (w.alloc (.cells #[.int .i64 o.n, .string o.tk.who, .string o.tk.dst, .int .i64 o.tk.epoch, .int .i64 o.tk.frm, .int .i64 o.tk.til, .int .i64 o.tk.ser] 70)).cell? ((⟨w.heap.size, 0, none⟩ : Addr).add j) = some u :=
  World.news_of_block (cs := #[.int .i64 o.n, .string o.tk.who, .string o.tk.dst, .int .i64 o.tk.epoch, .int .i64 o.tk.frm, .int .i64 o.tk.til, .int .i64 o.tk.ser]) (t := 70) (fr := (0, 0)) (heap_alloc_new w _)
theorem dk_after {w0 w w' : World} {B : Nat} {e : TypeId} {size : Nat} {v v' : Value} {n : Nat} {xs : List Value} (hb0 : Below B w0 w) (hB : B ≤ w.heap.size) (hv : ∀ k, v.ownBlock = some k → B ≤ k) (hown : w'.ownsRow B e size v' n xs) (hgrow : w.grownBy w' v.ownBlock) :
    Below B w0 w' ∧ (∀ k, v'.ownBlock = some k → B ≤ k) ∧ B ≤ w'.heap.size :=
  ⟨hb0.grown hgrow hB hv, fun k hk => (hown.lt k hk).1, Nat.le_trans hB hgrow.size⟩

set_option maxRecDepth 100000 in
set_option maxHeartbeats 8000000 in
theorem refCloseD_any (rp : Nat) (v : Value) (d : Dk) (num : Int) (w : World) (h : RefDesk w rp v d) (hn40 : d.l.length ≤ 40) :
    Calls Tryz.prog 13 #[.pointer (some ⟨rp, 0, none⟩), .int .i64 num] w fun e w' => e = .returned (.int .i64 (closeO d.l num : Int)) ∧ DkPost w rp v ⟨d.many, closeL d.l num⟩ w' := by
  obtain ⟨i0, hi, hz0, hz1, hz2⟩ := info_parts Tryz.infoOpen
  have HD := hide h
  have HRow := hide h.row
  have HRp := hide (row_lt h.row)
  obtain ⟨ad, cap, rfl, hcap, hrd⟩ := own_readO h.own
  have HRd := hide hrd
  clear hrd h
  obtain ⟨many, L⟩ := d
  dsimp only at *
  generalize hln : L.length = n at *
  have HN := hide hln
  clear hln
  go_enter Tryz.func13, Tryz.ntmps13
  go_wp2
  go_loopw [5, 6] (fun l i wr => ∃ k : Nat, k ≤ n ∧ i = .int .i64 k ∧ Hid (OwnO wr w.heap.size l (closeL (L.take k) num)) ∧ Hid (Below w.heap.size w wr)) (fun _ i _ => n - (intOf i).toNat)
  case atStart => exact ⟨0, Nat.zero_le _, rfl, World.ownsRow_nil _ _ _ _, Below.refl _ _⟩
  case round =>
    obtain ⟨k, hk, rfl, HO, HB⟩ := hrel
    have hrow : wr.heap[rp]? = some (dkO many (.slice ad n cap)) := (HB.out.block rp HRp.out).trans HRow.out
    obtain ⟨hc0, hc1, hf0, hf1⟩ := dk_cells hrow
    by_cases hlt : k < n
    · have hkl : k < L.length := by rw [HN.out]; exact hlt
      rcases HRd.out with ⟨e0, _, _⟩ | ⟨g, rfl, hgB, hgl, hos⟩
      · rw [e0] at hkl; simp at hkl
      obtain ⟨c0, c1, c2, c3, c4, c5, c6⟩ := (hos k _ (List.getElem?_eq_getElem hkl)).below HB.out
      have hkc : k < cap := by omega
      have HKs := hide (closeL_succ L num k hkl)
      have HLn : Hid ((closeL (L.take k) num).length ≤ 40) := by
        have h1 : (closeL (L.take k) num).length ≤ (L.take k).length := List.length_filter_le _ _
        have h2 : (L.take k).length ≤ k := by rw [List.length_take]; omega
        show _ ≤ _
        omega
      clear hos hgB hgl hrow hf0 hf1 hc0
      generalize hq : L[k]'hkl = q at *
      by_cases he : q.n = num
      · have HK1 : Hid (closeL (L.take (k + 1)) num = closeL (L.take k) num) := by show _ = _; rw [HKs.out, if_pos he, List.append_nil]
        clear hq HKs HLn c1 c2 c3 c4 c5 c6
        generalize q.n = qn at *
        subst he
        go_wp2
        go_roundw
        case rel => exact ⟨k + 1, by omega, by go_num, by rw [HK1.out]; exact HO, HB⟩
        case measure => simp [intOf]; omega
      · have HCe : Hid ((closeL (L.take k) num).length + 1 = (closeL (L.take (k + 1)) num).length ∧ cellsO (closeL (L.take k) num) ++ osC q = cellsO (closeL (L.take (k + 1)) num)) := by
          show _ ∧ _
          rw [HKs.out, if_neg he, List.length_append, cellsO_append]
          exact ⟨rfl, by simp [cellsO]⟩
        have HNew := hide (new_cellsO wr q)
        have HOne := hide (osC_one q)
        clear hq HKs
        obtain ⟨qn, who, dst, epoch, frm, til, ser⟩ := q
        dsimp only at *
        generalize hk1 : closeL (L.take (k + 1)) num = K1 at *
        have HK1e := hide hk1
        clear hk1
        generalize closeL (L.take k) num = K0 at *
        go_wp2_with (first
          | (at_builtin; refine wpList_append_own _ rfl (.tmp 26) (.tmp 34) 28 rfl w.heap.size 70 i0 _ 7 72 Tryz.underlying28 hi hz0 hz1 hz2 rfl (by decide) _ _ _ rfl (HO.out.alloc _) ⟨wr.heap.size, 0, none⟩ 1 1 (osC ⟨qn, who, dst, epoch, frm, til, ser⟩) rfl rfl HNew.out HOne.out (by have := HLn.out; unfold maxLen; omega) (by have := HLn.out; omega) (Nat.le_trans HB.out.size (by simp)) ?_; intro v1 w3 hown hgrow hnn; obtain ⟨hb3, _, _⟩ := dk_after (HB.out.alloc HB.out.size _) (Nat.le_trans HB.out.size (by simp)) (fun k hk => (HO.out.lt k hk).1) hown hgrow; have HO3 := hide hown; have HB3 := hide hb3; clear hown hgrow hnn hb3)
          | go_in)
        go_roundw
        case rel => exact ⟨k + 1, by omega, by go_num, by rw [HCe.out.1, HCe.out.2] at HO3; rw [HK1e.out]; exact HO3, HB3⟩
        case measure => simp [intOf]; omega
    · obtain rfl : k = n := by omega
      have hLt : L.take k = L := List.take_of_length_le (by rw [HN.out]; exact Nat.le_refl _)
      rw [hLt] at HO
      obtain ⟨ad2, cap2, rfl, hcap2, hrd2⟩ := own_readO HO.out
      clear hrd2
      have HIf := hide (closeL_len (L := L) (n := num))
      have HNe := hide (fun h => closeL_none (L := L) (n := num) h)
      cases hf : findO L num with
      | none =>
        have e1 : Hid (closeO L num = 5 ∧ closeL L num = L) := by
          refine ⟨?_, HNe.out hf⟩
          unfold closeO
          rw [hf]
          rfl
        have hl : (closeL L num).length = k := by rw [e1.out.2]; exact HN.out
        have HPo : Hid (DkPost w rp (.slice ad k cap) ⟨many, L⟩ wr) := DkPost.same HD.out HB.out
        clear hf HIf HNe hrow
        generalize hlc : (closeL L num).length = lc at *
        subst hl
        go_wp2
        go_ret
        rw [e1.out.1, e1.out.2]
        exact ⟨rfl, HPo.out⟩
      | some o =>
        have e1 : Hid (closeO L num = 0) := by
          show _ = _
          unfold closeO
          rw [hf]
          rfl
        have hne : (closeL L num).length ≠ k := fun e => by
          have := HIf.out.1 (e.trans HN.out.symm)
          rw [hf] at this
          cases this
        have HPo : Hid (DkPost w rp (.slice ad k cap) ⟨many, closeL L num⟩ (wr.setCell ⟨rp, 1, none⟩ (.slice ad2 (closeL L num).length cap2))) := by
          refine ⟨_, ⟨heap_setCell_same wr rp 1 _ _ _ hrow, own_lessO (own_setO HO.out hrow 1 _) HRp.out⟩, (KeptD.of_below _ HB.out).setCell (p := ⟨rp, 1, none⟩) (Or.inl rfl) _⟩
        clear hf HIf HNe hrow
        generalize hcl : closeL L num = K at *
        have HCl := hide hcl
        clear hcl
        generalize K.length = lc at *
        have hbq : ((lc : Int) == (k : Int)) = false := by rw [beq_eq_false_iff_ne]; omega
        go_wp2
        go_ret
        rw [e1.out, HCl.out]
        exact ⟨rfl, HPo.out⟩

set_option maxRecDepth 100000 in
set_option maxHeartbeats 4000000 in
theorem refAllD_any (rp : Nat) (v : Value) (d : Dk) (w : World) (h : RefDesk w rp v d) (hn40 : d.l.length ≤ 40) :
    Calls Tryz.prog 21 #[.pointer (some ⟨rp, 0, none⟩)] w fun e w' => ∃ v', e = .returned v' ∧ OwnNum w' w.heap.size v' (d.l.map Os.n) ∧ Below w.heap.size w w' := by
  obtain ⟨i0, hi, hz0, hz1, hz2⟩ := info_parts Tryz.infoNum
  have HRow := hide h.row
  have HRp := hide (row_lt h.row)
  obtain ⟨ad, cap, rfl, hcap, hrd⟩ := own_readO h.own
  have HRd := hide hrd
  clear hrd h
  obtain ⟨many, L⟩ := d
  dsimp only at *
  generalize hln : L.length = n at *
  have HN := hide hln
  clear hln
  go_enter Tryz.func21, Tryz.ntmps21
  go_wp2
  go_loopw [3, 4] (fun l i wr => ∃ k : Nat, k ≤ n ∧ i = .int .i64 k ∧ Hid (wr.ownsRow w.heap.size 3 1 l k (cellsNum ((L.take k).map Os.n))) ∧ Hid (Below w.heap.size w wr)) (fun _ i _ => n - (intOf i).toNat)
  case atStart => exact ⟨0, Nat.zero_le _, rfl, World.ownsRow_nil _ _ _ _, Below.refl _ _⟩
  case round =>
    obtain ⟨k, hk, rfl, HO, HB⟩ := hrel
    have hrow : wr.heap[rp]? = some (dkO many (.slice ad n cap)) := (HB.out.block rp HRp.out).trans HRow.out
    obtain ⟨hc0, hc1, hf0, hf1⟩ := dk_cells hrow
    by_cases hlt : k < n
    · have hkl : k < L.length := by rw [HN.out]; exact hlt
      rcases HRd.out with ⟨e0, _, _⟩ | ⟨g, rfl, hgB, hgl, hos⟩
      · rw [e0] at hkl; simp at hkl
      obtain ⟨c0, c1, c2, c3, c4, c5, c6⟩ := (hos k _ (List.getElem?_eq_getElem hkl)).below HB.out
      have hkc : k < cap := by omega
      have HCe : Hid (cellsNum ((L.take k).map Os.n) ++ [.int .i64 L[k].n] = cellsNum ((L.take (k + 1)).map Os.n)) := by
        show _ = _
        rw [List.take_succ_eq_append_getElem hkl, List.map_append]
        simp [cellsNum]
      clear hos hgB hgl hrow hf0 hf1 hc0 c1 c2 c3 c4 c5 c6
      generalize (L[k]'hkl).n = qn at *
      go_wp2_with (first
        | (at_builtin; refine wpList_append_own _ rfl (.tmp 14) (.tmp 23) 49 rfl w.heap.size 3 i0 (.int .i64 0) 1 8 Tryz.underlying49 hi hz0 hz1 hz2 rfl (by decide) _ _ _ rfl (HO.out.alloc _) ⟨wr.heap.size, 0, none⟩ 1 1 [.int .i64 qn] rfl rfl (new_num wr qn) (new_num1 qn) (by unfold maxLen; omega) (by omega) (Nat.le_trans HB.out.size (by simp)) ?_; intro v1 w3 hown hgrow hnn; obtain ⟨hb3, _, _⟩ := dk_after (HB.out.alloc HB.out.size _) (Nat.le_trans HB.out.size (by simp)) (fun k hk => (HO.out.lt k hk).1) hown hgrow; rw [HCe.out] at hown; have HO3 := hide hown; have HB3 := hide hb3; clear hown hgrow hnn hb3)
        | go_in)
      go_roundw
      case rel => exact ⟨k + 1, by omega, by go_num, HO3, HB3⟩
      case measure => simp [intOf]; omega
    · obtain rfl : k = n := by omega
      have HW : Hid (OwnNum wr w.heap.size u3 (L.map Os.n)) := by
        have h1 := HO.out
        have hLt : L.take k = L := List.take_of_length_le (by rw [HN.out]; exact Nat.le_refl _)
        rw [hLt] at h1
        show World.ownsRow _ _ _ _ _ (L.map Os.n).length _
        rw [List.length_map, HN.out]
        exact h1
      clear hrow hf0 hf1
      go_wp2
      go_ret
      exact ⟨_, rfl, HW.out, HB.out⟩
end Go.Proofs.YteabincmopeljaeGreatDoor

namespace Go.Proofs.YteabincmopeljaeGreatDoor
open Go Go.RowKit Go.Extern.Stop Go.Stop Go.Extern Go.Proofs

theorem res_tmp_cellD {P : Program} {fn : Func} {p u : Tmp} {ty : TypeId} (h : fn.results = #[.tmp u, .cell p ty]) (tmps : Array Value) (w : World) (g : Nat) (t : TypeId) (cs : Array Value) (fr : Nat × Nat) (d : TypeDesc)
    (hp : tmps.getD p undef = .pointer (some ⟨g, 0, none⟩)) (hg : w.heap[g]? = some (.cells cs t fr))
    (hu : P.underlying ty = some d) (hd : (match d with | .struct _ | .array _ _ => true | _ => false) = true) (hi : (P.info? ty).map (·.size) = some cs.size) :
    (results fn tmps).run P w = .ok (.tuple #[tmps.getD u undef, .agg cs]) w := by
  have hp2 : tmps[p]?.getD undef = .pointer (some ⟨g, 0, none⟩) := by simpa using hp
  simp only [results, h]
  simp [Result.andThen, hp2, asAddr, run_loadVar_row w g t ty cs fr d hg hu hd hi]
theorem swEnd {a : Act} {w : World} {R : Ending → World → Prop} (g : Nat) (x y : Value) (hp : a.tmps.getD 7 undef = .pointer (some ⟨g, 0, none⟩)) (hg : w.heap[g]? = some (.cells #[x, y] 54 (0, 0))) (hd : a.defers = [])
    (hR : R (.returned (.tuple #[a.tmps.getD 6 undef, .agg #[x, y]])) w) : bodyPost Tryz.prog Tryz.f16 R .ret a w :=
  bodyPost_ret (res_tmp_cellD rfl a.tmps w g _ #[x, y] (0, 0) _ hp hg Tryz.underlying54 rfl (by kernel_rfl)) hd hR
abbrev ftO (x y : Value) : Obj := .cells #[x, y] 54 (0, 0)
theorem ft_row {W : World} {g : Nat} {x y : Value} (h : W.heap[g]? = some (ftO x y)) : W.cell? ⟨g, 0, none⟩ = some x ∧ W.cell? ⟨g, 1, none⟩ = some y ∧ W.frozen? ⟨g, 0, none⟩ = false ∧ W.frozen? ⟨g, 1, none⟩ = false :=
  ⟨cell_of_row W _ 0 _ _ _ h, cell_of_row W _ 1 _ _ _ h, frozen_of_row W _ 0 _ _ h, frozen_of_row W _ 1 _ _ h⟩
theorem ft_set {W : World} {g : Nat} {x y : Value} (h : W.heap[g]? = some (ftO x y)) (x' y' : Value) : ((W.setCell ⟨g, 0, none⟩ x').setCell ⟨g, 1, none⟩ y').heap[g]? = some (ftO x' y') := by
  have h1 := heap_setCell_same W g 0 _ _ x' h
  exact heap_setCell_same _ g 1 _ _ y' h1

set_option maxRecDepth 100000 in
set_option maxHeartbeats 4000000 in
theorem refSweepD_err (rp : Nat) (vf : Value) (fl : List Fl) (now : Int) (w : World) (hf : FlAt w vf fl) (hs : ∀ f ∈ fl, f.who.size ≤ maxLen) (hl : fl.length ≤ 1000000) (he : (sweepC fl now).1 ≠ 0) :
    Calls Tryz.prog 16 #[.pointer (some ⟨rp, 0, none⟩), vf, .int .i64 now] w fun e w' => e = .returned (.tuple #[.slice none 0 0, fltV (sweepC fl now)]) ∧ Below w.heap.size w w' := by
  have HB0 : Hid (Below w.heap.size w (w.alloc (ftO (.int .i64 0) (.int .i64 0)))) := (Below.refl _ w).alloc (Nat.le_refl _) _
  have HR0 : Hid ((w.alloc (ftO (.int .i64 0) (.int .i64 0))).heap[w.heap.size]? = some (ftO (.int .i64 0) (.int .i64 0))) := heap_alloc_new _ _
  have HF := hide (refFault_any vf fl (w.alloc (ftO (.int .i64 0) (.int .i64 0))) (hf.below HB0.out) hs hl)
  have HBa := hide (fun w => bare_any 2 w)
  by_cases hc : (checkL fl).1 = 0
  · have hn : ¬ (0 ≤ now ∧ now ≤ 1000000) := fun g => by
      unfold sweepC at he
      rw [if_neg (by simpa using hc), if_pos g] at he
      exact he hc
    have e2 : sweepC fl now = (2, -1) := by unfold sweepC; rw [if_neg (by simpa using hc), if_neg hn]
    rw [e2]
    have hcz : ((checkL fl).1 : Int) = 0 := by rw [hc]; rfl
    unfold fltV at *
    rw [hcz] at HF
    clear hf hs he e2 hcz hc
    generalize (checkL fl).2 = p2 at *
    have hq : now < 0 ∨ (0 ≤ now ∧ 1000000 < now) := by omega
    clear hn
    rcases hq with q | ⟨q, q2⟩
    all_goals
      go_enter Tryz.func16, Tryz.ntmps16
      go_wp2_with fail
      refine HF.out.mono ?_
      rintro e w1 ⟨rfl, hb⟩
      have HB1 : Hid (Below w.heap.size w w1) := HB0.out.trans (hb.mono HB0.out.size)
      have HR1 : Hid (w1.heap[w.heap.size]? = some (ftO (.int .i64 0) (.int .i64 0))) := (hb.block _ (row_lt HR0.out)).trans HR0.out
      clear hb HF
      go_wp2_with fail
      refine (HBa.out _).mono ?_
      rintro e w2 ⟨rfl, hb⟩
      have hBf : Below w1.heap.size w1 (w1.alloc (ftO (.int .i64 0) (.int .i64 p2))) := (Below.refl _ _).alloc (Nat.le_refl _) _
      have hrf : (w1.alloc (ftO (.int .i64 0) (.int .i64 p2))).heap[w1.heap.size]? = some (ftO (.int .i64 0) (.int .i64 p2)) := heap_alloc_new _ _
      have HB2 : Hid (Below w1.heap.size w1 w2) := hBf.trans (hb.mono hBf.size)
      have HRf2 : Hid (w2.heap[w1.heap.size]? = some (ftO (.int .i64 0) (.int .i64 p2))) := (hb.block _ (row_lt hrf)).trans hrf
      obtain ⟨y0, y1, z0, z1⟩ := ft_row HRf2.out
      have hlt1 : w.heap.size < w1.heap.size := row_lt HR1.out
      have HLt := hide hlt1
      clear hb hBf hrf HBa hlt1
      go_wp2_with fail
      have hr5 := ft_set HRf2.out (.int .i64 2) (.int .i64 (-1))
      have hne : w.heap.size ≠ w1.heap.size := fun e => by have := HLt.out; omega
      have hr6 : ((w2.setCell ⟨w1.heap.size, 0, none⟩ (.int .i64 2)).setCell ⟨w1.heap.size, 1, none⟩ (.int .i64 (-1))).heap[w.heap.size]? = some (ftO (.int .i64 0) (.int .i64 0)) := by
        rw [heap_setCell_other _ _ _ _ hne, heap_setCell_other _ _ _ _ hne]
        exact (HB2.out.block _ HLt.out).trans HR1.out
      have hB5 : Below w.heap.size w ((w2.setCell ⟨w1.heap.size, 0, none⟩ (.int .i64 2)).setCell ⟨w1.heap.size, 1, none⟩ (.int .i64 (-1))) := ((HB1.out.trans (HB2.out.mono HB1.out.size)).setCell (p := ⟨w1.heap.size, 0, none⟩) HB1.out.size _).setCell (p := ⟨w1.heap.size, 1, none⟩) HB1.out.size _
      have HR5 := hide hr5
      have HR6 := hide hr6
      have HB5 := hide hB5
      clear hr5 hr6 hB5 hne y0 y1 z0 z1 HRf2 HB2
      generalize (w2.setCell ⟨w1.heap.size, 0, none⟩ (.int .i64 2)).setCell ⟨w1.heap.size, 1, none⟩ (.int .i64 (-1)) = w5 at *
      obtain ⟨y0, y1, z0, z1⟩ := ft_row HR5.out
      obtain ⟨x0, x1, t0, t1⟩ := ft_row HR6.out
      go_region
      go_wp2
      refine swEnd w.heap.size _ _ rfl (ft_set (W := w5.drew) HR6.out _ _) rfl ?_
      exact ⟨rfl, (HB5.out.drew.setCell (p := ⟨w.heap.size, 0, none⟩) (Nat.le_refl _) _).setCell (p := ⟨w.heap.size, 1, none⟩) (Nat.le_refl _) _⟩
  · have e2 : sweepC fl now = checkL fl := by unfold sweepC; rw [if_pos hc]
    rw [e2]
    have hpos : (0 : Int) < ((checkL fl).1 : Int) := by omega
    unfold fltV at *
    clear hf hs he e2 hc HBa
    generalize ((checkL fl).1 : Int) = p1 at *
    generalize (checkL fl).2 = p2 at *
    have hp1 : (p1 == 0) = false := by rw [beq_eq_false_iff_ne]; omega
    go_enter Tryz.func16, Tryz.ntmps16
    go_wp2_with fail
    refine HF.out.mono ?_
    rintro e w1 ⟨rfl, hb⟩
    have HB1 : Hid (Below w.heap.size w w1) := HB0.out.trans (hb.mono HB0.out.size)
    have HR1 : Hid (w1.heap[w.heap.size]? = some (ftO (.int .i64 0) (.int .i64 0))) := (hb.block _ (row_lt HR0.out)).trans HR0.out
    clear hb HF
    go_wp2_with fail
    have HLt : Hid (w.heap.size < w1.heap.size) := row_lt HR1.out
    have hBf : Below w1.heap.size w1 (w1.alloc (ftO (.int .i64 p1) (.int .i64 p2))) := (Below.refl _ _).alloc (Nat.le_refl _) _
    have HR5 : Hid ((w1.alloc (ftO (.int .i64 p1) (.int .i64 p2))).heap[w1.heap.size]? = some (ftO (.int .i64 p1) (.int .i64 p2))) := heap_alloc_new _ _
    have HR6 : Hid ((w1.alloc (ftO (.int .i64 p1) (.int .i64 p2))).heap[w.heap.size]? = some (ftO (.int .i64 0) (.int .i64 0))) := (hBf.block _ HLt.out).trans HR1.out
    have HB5 : Hid (Below w.heap.size w (w1.alloc (ftO (.int .i64 p1) (.int .i64 p2)))) := HB1.out.trans (hBf.mono HB1.out.size)
    clear hBf
    generalize hw5 : w1.alloc (ftO (.int .i64 p1) (.int .i64 p2)) = w5 at *
    obtain ⟨y0, y1, z0, z1⟩ := ft_row HR5.out
    obtain ⟨x0, x1, t0, t1⟩ := ft_row HR6.out
    go_region
    go_wp2
    refine swEnd w.heap.size _ _ rfl (ft_set (W := w5.drew) HR6.out _ _) rfl ?_
    exact ⟨rfl, (HB5.out.drew.setCell (p := ⟨w.heap.size, 0, none⟩) (Nat.le_refl _) _).setCell (p := ⟨w.heap.size, 1, none⟩) (Nat.le_refl _) _⟩
/-- Two rows of elements of two types lie apart: where one is written the other stays. -/
theorem own_apartD {w w' : World} {B1 B2 : Nat} {e1 e2 : TypeId} {s1 s2 : Nat} {v1 v2 : Value} {n1 n2 : Nat} {x1 x2 : List Value} (h1 : w.ownsRow B1 e1 s1 v1 n1 x1) (h2 : w.ownsRow B2 e2 s2 v2 n2 x2) (he : e1 ≠ e2) (hg : w.grownBy w' v2.ownBlock) : w'.ownsRow B1 e1 s1 v1 n1 x1 := by
  refine ⟨h1.1, ?_⟩
  rcases h1.2 with g | ⟨g, cap, cur, rfl, hb, hc, r⟩
  · exact Or.inl g
  · refine Or.inr ⟨g, cap, cur, rfl, hb, ?_, r⟩
    rw [hg.block g (row_lt hc) fun e => ?_]
    · exact hc
    · rcases h2.2 with ⟨rfl, _⟩ | ⟨g', cap', cur', rfl, _, hc', _⟩
      · cases e
      · have e' : g = g' := by simpa [Value.ownBlock] using e
        subst e'
        rw [hc] at hc'
        exact he (Obj.cells.inj (Option.some.inj hc')).2.1
theorem own_belowD {w w' : World} {B : Nat} {e : TypeId} {s : Nat} {v : Value} {n : Nat} {x : List Value} (h : w.ownsRow B e s v n x) (hb : Below w.heap.size w w') : w'.ownsRow B e s v n x := by
  refine ⟨h.1, ?_⟩
  rcases h.2 with g | ⟨g, cap, cur, rfl, h1, hc, r⟩
  · exact Or.inl g
  · exact Or.inr ⟨g, cap, cur, rfl, h1, (hb.block g (row_lt hc)).trans hc, r⟩
theorem DkPost.setF {w W : World} {rp q : Nat} {v x y : Value} {d : Dk} (h : DkPost w rp v d W) (hq : w.heap.size ≤ q) (hr : W.heap[q]? = some (ftO x y)) (o : Nat) (u : Value) : DkPost w rp v d (W.setCell ⟨q, o, none⟩ u) := by
  obtain ⟨v', hD, hk⟩ := h
  have hty : ∀ (i : Nat) (c : Array Value) (t : TypeId), W.heap[i]? = some (Obj.cells c t (0, 0)) → t ≠ 54 → i ≠ q := fun i c t hi ht e => by
    rw [e, hr] at hi
    exact ht (Obj.cells.inj (Option.some.inj hi)).2.1.symm
  refine ⟨v', ⟨?_, own_keepO hD.own fun g hg => ?_⟩, ?_⟩
  · rw [heap_setCell_other _ _ _ _ (hty rp _ _ hD.row (by decide))]
    exact hD.row
  · rcases hD.own.2 with ⟨rfl, _⟩ | ⟨g', cap, cur, rfl, _, hc, _⟩
    · cases hg
    · have : g' = g := by simpa [Value.ownBlock] using hg
      subst this
      exact heap_setCell_other _ _ _ _ (hty g' _ _ hc (by decide))
  · exact ⟨hk.os, hk.tape, hk.output, by have := hk.size; simpa [World.setCell] using this, fun k hk1 hs => by
      rw [heap_setCell_other W _ k _ (fun e => by have e' : k = q := e; omega)]; exact hk.block k hk1 hs⟩
theorem DkPost.drew {w W : World} {rp : Nat} {v : Value} {d : Dk} (h : DkPost w rp v d W) : DkPost w rp v d W.drew := by
  obtain ⟨v', hD, hk⟩ := h
  exact ⟨v', hD.below (Below.refl _ _).drew, hk.trans (KeptD.of_below _ (Below.refl _ _).drew)⟩
theorem own_setNum {w : World} {B rp : Nat} {v vv : Value} {xs : List Int} {many : Int} (h : OwnNum w B v xs) (hrow : w.heap[rp]? = some (dkO many vv)) (o : Nat) (u : Value) : OwnNum (w.setCell ⟨rp, o, none⟩ u) B v xs := by
  refine ⟨h.1, ?_⟩
  rcases h.2 with g | ⟨g, cap, cur, rfl, hb, hg, r⟩
  · exact Or.inl g
  · refine Or.inr ⟨g, cap, cur, rfl, hb, ?_, r⟩
    rw [heap_setCell_other w _ g _ (fun e => by
      have e' : g = rp := e
      rw [e', hrow] at hg
      have := Option.some.inj hg
      injection this with _ h2 _
      exact absurd h2 (by decide))]
    exact hg
theorem sweep_succ (fl : List Fl) (now : Int) (L : List Os) (k : Nat) (hk : k < L.length) : sweepL fl now (L.take (k + 1)) = sweepL fl now (L.take k) ++ (if staysO fl now L[k] = true then [L[k]] else []) ∧ sweepN fl now (L.take (k + 1)) = sweepN fl now (L.take k) ++ (if staysO fl now L[k] = true then [] else [L[k].n]) := by
  unfold sweepL sweepN
  rw [List.take_succ_eq_append_getElem hk, List.filter_append, List.filter_append, List.map_append]
  cases h : staysO fl now L[k] <;> simp [h]
theorem sweep_len (fl : List Fl) (now : Int) (L : List Os) (k : Nat) : (sweepL fl now (L.take k)).length ≤ k ∧ (sweepN fl now (L.take k)).length ≤ k := by
  have h2 : (L.take k).length ≤ k := by rw [List.length_take]; omega
  unfold sweepL sweepN
  rw [List.length_map]
  exact ⟨Nat.le_trans (List.length_filter_le _ _) h2, Nat.le_trans (List.length_filter_le _ _) h2⟩

set_option maxRecDepth 100000 in
set_option maxHeartbeats 8000000 in
theorem refSweepD_ok (rp : Nat) (v vf : Value) (d : Dk) (fl : List Fl) (now : Int) (w : World) (h : RefDesk w rp v d) (hn40 : d.l.length ≤ 40) (hsz : ∀ o ∈ d.l, o.tk.who.size ≤ maxLen ∧ o.tk.dst.size ≤ maxLen) (hf : FlAt w vf fl) (hs : ∀ f ∈ fl, f.who.size ≤ maxLen) (hl : fl.length ≤ 1000000) (he : (sweepC fl now).1 = 0) :
    Calls Tryz.prog 16 #[.pointer (some ⟨rp, 0, none⟩), vf, .int .i64 now] w fun e w' => ∃ v', e = .returned (.tuple #[v', fltV (sweepC fl now)]) ∧ OwnNum w' w.heap.size v' (sweepN fl now d.l) ∧ DkPost w rp v ⟨d.many, sweepL fl now d.l⟩ w' := by
  obtain ⟨i0, hi, hz0, hz1, hz2⟩ := info_parts Tryz.infoOpen
  obtain ⟨iN, hiN, hzN0, hzN1, hzN2⟩ := info_parts Tryz.infoNum
  have hc : (checkL fl).1 = 0 := Decidable.byContradiction fun g => by
    unfold sweepC at he
    rw [if_pos g] at he
    exact g he
  have hn : 0 ≤ now ∧ now ≤ 1000000 := Decidable.byContradiction fun g => by
    unfold sweepC at he
    rw [if_neg (by simpa using hc), if_neg g] at he
    cases he
  have e2 : sweepC fl now = checkL fl := by unfold sweepC; rw [if_neg (by simpa using hc), if_pos hn]
  have HRf := hide (right_of_check hc).1
  have HB0 : Hid (Below w.heap.size w (w.alloc (ftO (.int .i64 0) (.int .i64 0)))) := (Below.refl _ w).alloc (Nat.le_refl _) _
  have HR0 : Hid ((w.alloc (ftO (.int .i64 0) (.int .i64 0))).heap[w.heap.size]? = some (ftO (.int .i64 0) (.int .i64 0))) := heap_alloc_new _ _
  have HF := hide (refFault_any vf fl (w.alloc (ftO (.int .i64 0) (.int .i64 0))) (hf.below HB0.out) hs hl)
  have HFl := hide hf
  have HRow := hide h.row
  have HRp := hide (row_lt h.row)
  have HSz := hide hsz
  obtain ⟨ad, cap, rfl, hcap, hrd⟩ := own_readO h.own
  have HRd := hide hrd
  rw [e2]
  have hcz : ((checkL fl).1 : Int) = 0 := by rw [hc]; rfl
  unfold fltV at *
  rw [hcz] at HF ⊢
  have HLl : Hid (fl.length ≤ 1000000) := hl
  clear h hf hs he e2 hcz hc hrd hsz hl
  obtain ⟨hn1, hn2⟩ := hn
  obtain ⟨many, L⟩ := d
  dsimp only at *
  generalize (checkL fl).2 = p2 at *
  generalize hln : L.length = n at *
  have HN := hide hln
  clear hln
  go_enter Tryz.func16, Tryz.ntmps16
  go_wp2_with fail
  refine HF.out.mono ?_
  rintro e w1 ⟨rfl, hb⟩
  have HB1 : Hid (Below w.heap.size w w1) := HB0.out.trans (hb.mono HB0.out.size)
  have HR1 : Hid (w1.heap[w.heap.size]? = some (ftO (.int .i64 0) (.int .i64 0))) := (hb.block _ (row_lt HR0.out)).trans HR0.out
  have HLt : Hid (w.heap.size < w1.heap.size) := row_lt HR1.out
  have hBf : Below w1.heap.size w1 (w1.alloc (ftO (.int .i64 0) (.int .i64 p2))) := (Below.refl _ _).alloc (Nat.le_refl _) _
  have HR5 : Hid ((w1.alloc (ftO (.int .i64 0) (.int .i64 p2))).heap[w1.heap.size]? = some (ftO (.int .i64 0) (.int .i64 p2))) := heap_alloc_new _ _
  have HR6 : Hid ((w1.alloc (ftO (.int .i64 0) (.int .i64 p2))).heap[w.heap.size]? = some (ftO (.int .i64 0) (.int .i64 0))) := (hBf.block _ HLt.out).trans HR1.out
  have HB5 : Hid (Below w.heap.size w (w1.alloc (ftO (.int .i64 0) (.int .i64 p2)))) := HB1.out.trans (hBf.mono HB1.out.size)
  clear hb HF hBf HR0 HB0
  go_wp2
  generalize hfp : w1.heap.size = fp at *
  have hfp2 : fp < (w1.alloc (ftO (.int .i64 0) (.int .i64 p2))).heap.size := row_lt HR5.out
  have HFp := hide hfp2
  clear hfp hfp2 HB1 HR1
  generalize w1.alloc (ftO (.int .i64 0) (.int .i64 p2)) = w5 at *
  have HW5 : Hid (w.heap.size < w5.heap.size) := row_lt HR6.out
  go_loopw [9, 10, 11] (fun l o i wr => ∃ k : Nat, k ≤ n ∧ i = .int .i64 k ∧ Hid (OwnO wr w5.heap.size l (sweepL fl now (L.take k))) ∧ Hid (OwnNum wr w5.heap.size o (sweepN fl now (L.take k))) ∧ Hid (Below w5.heap.size w5 wr)) (fun _ _ i _ => n - (intOf i).toNat)
  case atStart => exact ⟨0, Nat.zero_le _, rfl, World.ownsRow_nil _ _ _ _, World.ownsRow_nil _ _ _ _, Below.refl _ _⟩
  case round =>
    obtain ⟨k, hk, rfl, HO, HU, HB⟩ := hrel
    have HBw : Hid (Below w.heap.size w wr) := HB5.out.trans (HB.out.mono HB5.out.size)
    have hrow : wr.heap[rp]? = some (dkO many (.slice ad n cap)) := (HBw.out.block rp HRp.out).trans HRow.out
    have HRowr := hide hrow
    obtain ⟨hc0, hc1, hf0, hf1⟩ := dk_cells hrow
    by_cases hlt : k < n
    · have hkl : k < L.length := by rw [HN.out]; exact hlt
      rcases HRd.out with ⟨e0, _, _⟩ | ⟨g, rfl, hgB, hgl, hos⟩
      · rw [e0] at hkl; simp at hkl
      have HOs := hide (hos k _ (List.getElem?_eq_getElem hkl))
      obtain ⟨c0, c1, c2, c3, c4, c5, c6⟩ := HOs.out.below HBw.out
      have hkc : k < cap := by omega
      have HKs := hide (sweep_succ fl now L k hkl)
      have HLn := hide (sweep_len fl now L k)
      have HSq := hide (HSz.out _ (List.getElem_mem hkl))
      clear hos hgB hgl hrow hf0 hf1 hc0
      generalize hq : L[k]'hkl = q at *
      clear hq
      have HNew := hide (fun w => new_cellsO w q)
      have HOne := hide (osC_one q)
      have HRt : Hid ((wr.alloc (tkO q.tk)).heap[wr.heap.size]? = some (tkO q.tk)) := heap_alloc_new _ _
      have HBt : Hid (Below wr.heap.size wr (wr.alloc (tkO q.tk))) := (Below.refl _ _).alloc (Nat.le_refl _) _
      obtain ⟨qn, who, dst, epoch, frm, til, ser⟩ := q
      dsimp only at *
      go_upto_region 12 with fail
      generalize htp : wr.heap.size = tp at *
      have HTp := hide htp
      generalize hwt : wr.alloc (tkO ⟨who, dst, epoch, frm, til, ser⟩) = wt at *
      have HBwt : Hid (Below wr.heap.size wr wt) := by rw [HTp.out]; exact HBt.out
      have HWt : Hid (tp < wt.heap.size) := row_lt HRt.out
      clear hwt
      have HStep : Hid ((staysO fl now ⟨qn, ⟨who, dst, epoch, frm, til, ser⟩⟩ = true ↔ Tk.good ⟨who, dst, epoch, frm, til, ser⟩ now = 0 ∧ ofL fl who.data.toList ≤ epoch)) := by
        show _ ↔ _
        unfold staysO
        simp
      go_cut [60] (fun s60 wc => s60 = .bool (!staysO fl now ⟨qn, ⟨who, dst, epoch, frm, til, ser⟩⟩) ∧ Hid (Below wt.heap.size wt wc))
      case first =>
        have hgl : tp < wt.heap.size := HWt.out
        obtain ⟨x0, x1, x2, x3, x4, x5⟩ := tk_row HRt.out
        dsimp only at x0 x1 x2 x3 x4 x5
        have any1 : Nonempty (BelowAt wt) := BelowAt.any wt
        have z0 := fun P : BelowAt wt => P.cell x0 hgl
        have z1 := fun P : BelowAt wt => P.cell x1 hgl
        have z2 := fun P : BelowAt wt => P.cell x2 hgl
        have z3 := fun P : BelowAt wt => P.cell x3 hgl
        have z4 := fun P : BelowAt wt => P.cell x4 hgl
        have z5 := fun P : BelowAt wt => P.cell x5 hgl
        have HGq := hide (fun P : BelowAt wt => BelowAt.calls (refGood_any ⟨who, dst, epoch, frm, til, ser⟩ now P.to HSq.out.1 HSq.out.2))
        have HFq := hide (fun P : BelowAt wt => BelowAt.calls ((refFloorOf_any vf fl who P.to ((HFl.out.below HBw.out).below ((HBwt.out.trans (P.below.mono HBwt.out.size)))) HRf.out HLl.out).mono fun _ _ ⟨he, hw⟩ => ⟨he, hw ▸ Below.refl _ _⟩))
        rw [tk_val] at HGq
        dsimp only at HGq
        have hst : staysO fl now ⟨qn, ⟨who, dst, epoch, frm, til, ser⟩⟩ = true ↔ Tk.good ⟨who, dst, epoch, frm, til, ser⟩ now = 0 ∧ ofL fl who.data.toList ≤ epoch := HStep.out
        generalize staysO fl now ⟨qn, ⟨who, dst, epoch, frm, til, ser⟩⟩ = st at *
        generalize Tk.good ⟨who, dst, epoch, frm, til, ser⟩ now = gd at *
        generalize ofL fl who.data.toList = fo at *
        clear x0 x1 x2 x3 x4 x5 c0 c1 c2 c3 c4 c5 c6 hc1
        by_cases hg : gd = 0
        · subst hg
          by_cases ho : fo ≤ epoch
          · have HQ : Hid (st = true) := hst.2 ⟨rfl, ho⟩
            have ho2 : ¬ epoch < fo := by omega
            clear hst
            refine wp_region_below (by kernel_rfl) (by kernel_rfl) ?_
            repeat (go_big_quiet_step (first | exact HGq.out _ | exact HFq.out _))
            refine wpQuiet_nil ?_
            intro _ hw'
            obtain ⟨pq, hw''⟩ := hw'
            subst hw''
            have HDq := hide pq.below
            clear z0 z1 z2 z3 z4 z5 HGq HFq
            go_wp2
            go_meet
            exact ⟨by rw [HQ.out]; rfl, HDq⟩
          · have HQ : Hid (st = false) := by show _ = _; rw [← Bool.not_eq_true]; exact fun h => ho (hst.1 h).2
            have ho2 : epoch < fo := by omega
            clear hst
            refine wp_region_below (by kernel_rfl) (by kernel_rfl) ?_
            repeat (go_big_quiet_step (first | exact HGq.out _ | exact HFq.out _))
            refine wpQuiet_nil ?_
            intro _ hw'
            obtain ⟨pq, hw''⟩ := hw'
            subst hw''
            have HDq := hide pq.below
            clear z0 z1 z2 z3 z4 z5 HGq HFq
            go_wp2
            go_meet
            exact ⟨by rw [HQ.out]; rfl, HDq⟩
        · have HQ : Hid (st = false) := by show _ = _; rw [← Bool.not_eq_true]; exact fun h => hg (hst.1 h).1
          have hpos : (0 : Int) < (gd : Int) := by omega
          have hposn : 0 < gd := by omega
          clear hst
          refine wp_region_below (by kernel_rfl) (by kernel_rfl) ?_
          repeat (go_big_quiet_step (first | exact HGq.out _ | exact HFq.out _))
          refine wpQuiet_nil ?_
          intro _ hw'
          obtain ⟨pq, hw''⟩ := hw'
          subst hw''
          have HDq := hide pq.below
          clear z0 z1 z2 z3 z4 z5 HGq HFq
          go_wp2
          go_meet
          exact ⟨by rw [HQ.out]; rfl, HDq⟩
      case rest =>
        obtain ⟨rfl, HBc⟩ := hcut
        have HBwc : Hid (Below wr.heap.size wr wc) := HBwt.out.trans (HBc.out.mono HBwt.out.size)
        have HB5c : Hid (Below w5.heap.size w5 wc) := HB.out.trans (HBwc.out.mono HB.out.size)
        have HOc := hide (own_belowD HO.out HBwc.out)
        have HUc := hide (own_belowD HU.out HBwc.out)
        have hrowc : wc.heap[rp]? = some (dkO many (.slice (some ⟨g, 0, none⟩) n cap)) := (HBwc.out.block rp (row_lt HRowr.out)).trans HRowr.out
        obtain ⟨hc0c, hc1c, _, _⟩ := dk_cells hrowc
        have HOq : Hid (OsAt wc g k ⟨qn, ⟨who, dst, epoch, frm, til, ser⟩⟩) := HOs.out.below (HBw.out.trans (HBwc.out.mono HBw.out.size))
        obtain ⟨k0, k1, k2, k3, k4, k5, k6⟩ := HOq.out
        dsimp only at k0 k1 k2 k3 k4 k5 k6
        clear c0 c1 c2 c3 c4 c5 c6 hc1 hrowc HStep HBc
        have hKs := HKs.out
        have hLn := HLn.out
        clear HKs HLn
        generalize hl1 : sweepL fl now (L.take (k + 1)) = L1 at *
        generalize hu1 : sweepN fl now (L.take (k + 1)) = N1 at *
        have HL1 := hide hl1
        have HU1 := hide hu1
        clear hl1 hu1
        generalize sweepL fl now (L.take k) = L0 at *
        generalize sweepN fl now (L.take k) = N0 at *
        cases hst : staysO fl now ⟨qn, ⟨who, dst, epoch, frm, til, ser⟩⟩ with
        | true =>
          rw [hst, if_pos rfl, if_pos rfl, List.append_nil] at hKs
          obtain ⟨hK1, hK2⟩ := hKs
          have HCe : Hid (L0.length + 1 = L1.length ∧ cellsO L0 ++ osC ⟨qn, ⟨who, dst, epoch, frm, til, ser⟩⟩ = cellsO L1) := by
            show _ ∧ _
            rw [hK1, List.length_append, cellsO_append]
            exact ⟨rfl, by simp [cellsO]⟩
          have HN1 : Hid (N1 = N0) := hK2
          have hl0 := hLn.1
          clear hK1 hK2 hst hLn
          rw [Bool.not_true]
          go_wp2_with (first
            | (at_builtin; refine wpList_append_own _ rfl (.tmp 72) (.tmp 80) 28 rfl w5.heap.size 70 i0 _ 7 72 Tryz.underlying28 hi hz0 hz1 hz2 rfl (by decide) _ _ _ rfl (HOc.out.alloc _) ⟨wc.heap.size, 0, none⟩ 1 1 (osC ⟨qn, ⟨who, dst, epoch, frm, til, ser⟩⟩) rfl rfl (HNew.out wc) HOne.out (by unfold maxLen; omega) (by omega) (Nat.le_trans HB5c.out.size (by simp)) ?_; intro v1 w3 hown hgrow hnn; obtain ⟨hb3, _, _⟩ := dk_after (HB5c.out.alloc HB5c.out.size _) (Nat.le_trans HB5c.out.size (by simp)) (fun k hk => (HOc.out.lt k hk).1) hown hgrow; have HO3 := hide hown; have HB3 := hide hb3; have HU3 := hide (own_apartD (own_belowD HUc.out ((Below.refl _ _).alloc (Nat.le_refl _) _)) (own_belowD HOc.out ((Below.refl _ _).alloc (Nat.le_refl _) _)) (by decide) hgrow); clear hown hgrow hnn hb3)
            | go_in)
          go_roundw
          case rel => exact ⟨k + 1, by omega, by go_num, by rw [HCe.out.1, HCe.out.2] at HO3; rw [HL1.out]; exact HO3, by rw [HU1.out, HN1.out]; exact HU3, HB3⟩
          case measure => simp [intOf]; omega
        | false =>
          rw [hst, if_neg (by decide), if_neg (by decide), List.append_nil] at hKs
          obtain ⟨hK1, hK2⟩ := hKs
          have HCe : Hid (N0.length + 1 = N1.length ∧ cellsNum N0 ++ [.int .i64 qn] = cellsNum N1) := by
            show _ ∧ _
            rw [hK2, List.length_append]
            exact ⟨rfl, by simp [cellsNum]⟩
          have HN1 : Hid (L1 = L0) := hK1
          have hl0 := hLn.2
          clear hK1 hK2 hst hLn k1 k2 k3 k4 k5 k6
          rw [Bool.not_false]
          go_wp2_with (first
            | (at_builtin; refine wpList_append_own _ rfl (.tmp 61) (.tmp 70) 49 rfl w5.heap.size 3 iN (.int .i64 0) 1 8 Tryz.underlying49 hiN hzN0 hzN1 hzN2 rfl (by decide) _ _ _ rfl (HUc.out.alloc _) ⟨wc.heap.size, 0, none⟩ 1 1 [.int .i64 qn] rfl rfl (new_num wc qn) (new_num1 qn) (by unfold maxLen; omega) (by omega) (Nat.le_trans HB5c.out.size (by simp)) ?_; intro v1 w3 hown hgrow hnn; obtain ⟨hb3, _, _⟩ := dk_after (HB5c.out.alloc HB5c.out.size _) (Nat.le_trans HB5c.out.size (by simp)) (fun k hk => (HUc.out.lt k hk).1) hown hgrow; have HU3 := hide hown; have HB3 := hide hb3; have HO3 := hide (own_apartD (own_belowD HOc.out ((Below.refl _ _).alloc (Nat.le_refl _) _)) (own_belowD HUc.out ((Below.refl _ _).alloc (Nat.le_refl _) _)) (by decide) hgrow); clear hown hgrow hnn hb3)
            | go_in)
          go_roundw
          case rel => exact ⟨k + 1, by omega, by go_num, by rw [HL1.out, HN1.out]; exact HO3, by rw [HCe.out.1, HCe.out.2] at HU3; rw [HU1.out]; exact HU3, HB3⟩
          case measure => simp [intOf]; omega
    · obtain rfl : k = n := by omega
      have hLt : L.take k = L := List.take_of_length_le (by rw [HN.out]; exact Nat.le_refl _)
      rw [hLt] at HO HU
      obtain ⟨ad2, cap2, rfl, hcap2, hrd2⟩ := own_readO HO.out
      have hle5 := HB.out.size
      have hrp5 : rp < wr.heap.size := row_lt HRowr.out
      have hlt5 := HW5.out
      have hrowf : wr.heap[fp]? = some (ftO (.int .i64 0) (.int .i64 p2)) := (HB.out.block fp HFp.out).trans HR5.out
      have hrowr : wr.heap[w.heap.size]? = some (ftO (.int .i64 0) (.int .i64 0)) := (HB.out.block _ HW5.out).trans HR6.out
      have hne1 : fp ≠ rp := fun e => by rw [e, hrow] at hrowf; have := Option.some.inj hrowf; injection this with _ h2 _; exact absurd h2 (by decide)
      have hne2 : w.heap.size ≠ rp := fun e => by have := HRp.out; omega
      have hr7 : (wr.setCell ⟨rp, 1, none⟩ (.slice ad2 (sweepL fl now L).length cap2)).heap[fp]? = some (ftO (.int .i64 0) (.int .i64 p2)) := by rw [heap_setCell_other _ _ _ _ hne1]; exact hrowf
      have hr8 : (wr.setCell ⟨rp, 1, none⟩ (.slice ad2 (sweepL fl now L).length cap2)).heap[w.heap.size]? = some (ftO (.int .i64 0) (.int .i64 0)) := by rw [heap_setCell_other _ _ _ _ hne2]; exact hrowr
      have hP7 : DkPost w rp (.slice ad k cap) ⟨many, sweepL fl now L⟩ (wr.setCell ⟨rp, 1, none⟩ (.slice ad2 (sweepL fl now L).length cap2)) :=
        ⟨_, ⟨heap_setCell_same wr rp 1 _ _ _ hrow, own_lessO (own_setO HO.out hrow 1 _) (by have := HRp.out; omega)⟩, (KeptD.of_below _ HBw.out).setCell (p := ⟨rp, 1, none⟩) (Or.inl rfl) _⟩
      have hU7 := own_setNum HU.out hrow 1 (.slice ad2 (sweepL fl now L).length cap2)
      have HP7 := hide hP7
      have HR7 := hide hr7
      have HR8 := hide hr8
      have HU7 := hide hU7
      have HLw : Hid (w.heap.size < w5.heap.size) := HW5.out
      clear hr7 hr8 hP7 hU7 hrd2 hle5 hrp5 hlt5 hrowf hrowr hne1 hne2 hrow
      generalize hsl : sweepL fl now L = SL at *
      have HSl := hide hsl
      clear hsl
      generalize SL.length = sn at *
      go_wp2_with fail
      clear hc0 hc1 hf0 hf1
      generalize wr.setCell ⟨rp, 1, none⟩ (.slice ad2 sn cap2) = w7 at *
      obtain ⟨y0, y1, z0, z1⟩ := ft_row HR7.out
      obtain ⟨x0, x1, t0, t1⟩ := ft_row HR8.out
      go_region
      go_wp2
      refine swEnd w.heap.size _ _ rfl (ft_set (W := w7.drew) HR8.out _ _) rfl ?_
      have hr9 : w7.drew.heap[w.heap.size]? = some (ftO (.int .i64 0) (.int .i64 0)) := HR8.out
      have hr10 : (w7.drew.setCell ⟨w.heap.size, 0, none⟩ (.int .i64 0)).heap[w.heap.size]? = some (ftO (.int .i64 0) (.int .i64 0)) := heap_setCell_same _ _ 0 _ _ _ hr9
      refine ⟨_, rfl, ?_, ?_⟩
      · have h1 : OwnNum w7.drew w5.heap.size u10 (sweepN fl now L) := HU7.out
        have h2 : OwnNum ((w7.drew.setCell ⟨w.heap.size, 0, none⟩ (.int .i64 0)).setCell ⟨w.heap.size, 1, none⟩ (.int .i64 p2)) w5.heap.size u10 (sweepN fl now L) := ownsRow_setCell_below (ownsRow_setCell_below h1 HLw.out _) HLw.out _
        refine ⟨h2.1, ?_⟩
        rcases h2.2 with g | ⟨g, cap, cur, e, hb, r⟩
        · exact Or.inl g
        · exact Or.inr ⟨g, cap, cur, e, by have := HLw.out; omega, r⟩
      · rw [HSl.out]
        exact (HP7.out.drew.setF (Nat.le_refl _) hr9 0 _).setF (Nat.le_refl _) hr10 1 _
end Go.Proofs.YteabincmopeljaeGreatDoor

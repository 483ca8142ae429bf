/-
  What the document's answer's entryError and FeedFault give: the number of an entry's error; the number of a feed's first error and its place; for every list.
  What the document's answer's SinceOf, FloorsOf and AddEntry give: those behind a number; the floors of a feed; the entries with one more; each with a fault; for every list.
  What the document's answer gives on numbers and words: NumberOf for every text and every most, Decimal for a number up to 1000000006, Glue for texts of at most 6000 bytes together.
  What the document's answer's Glue and Cut give at a comma: texts with a comma between, for texts of at most 6000 bytes together; the pieces of a text of at most 4000 bytes between commas, in a slice of their own. One floor's text by its bytes: where its colon is, what is ahead of it and behind; and what is read of pieces, one more at a time.
  What the document's answer for marks answers (IsKey, MarkFrom, MarkOf, MarkError), for every key, number and text up to the longest that can be: the same mark, and the numbers of the errors.
  What the document's answer's FloorsText and FloorsSum give: the text of right floors; the mark of a list's text, or 0, for every list.
  What the document's answer's Cut and Glue give: the pieces of a text of at most 4000 bytes between blanks, in a slice of their own; texts with a blank between, for texts of at most 6000 bytes together.
  What the document's answer's Glue gives: texts with a blank between, for texts of at most 6000 bytes together.
  What the document's answer's LookAt and Unseal give: the words and the mark's number of a sealed text, or the number of the error that the document names; for every key and text.
  What the document's answer's Unseal and SealOf give, for every key, text and words, and what the statements' helper 'faulted' answers of an error and its number and place.
  What the document's answer's SealOf gives: a fault of ErrKey, ErrShape, or ErrText at the first that is no word, else the sealed text and no fault; for every key and words.
  What the document's answer's HeadOf and OpenHead give: a head's text and a fault; of a text the head and an error's number; for every key, list, time and text.
-/
import Derived.Test.YtgagekcjdapkfacGreatDoorRefPa
import Derived.Test.YtgagekcjdapkfacGreatDoorFeedPb
import Derived.Deep.LoopGhost
import Derived.Test.YtgagekcjdapkfacGreatDoorFeedAdd
import Derived.Deep.DeepCutAuto
import Derived.Test.YtgagekcjdapkfacGreatDoorSealNumber
import Derived.Test.YtgagekcjdapkfacGreatDoorSealSpec
import Derived.WalkKit
import Derived.OwnWalk
import Derived.Test.YtgagekcjdapkfacGreatDoorMarkOf
import Derived.Deep.RegionHeld3
import Derived.Test.YtgagekcjdapkfacGreatDoorSealTake
import Derived.Test.YtgagekcjdapkfacGreatDoorSealBack
namespace Go.Proofs.YtgagekcjdapkfacGreatDoor
open Go.RowKit Go.Extern.Stop Go.Stop Go.Extern Go.Proofs

set_option maxRecDepth 100000 in
set_option maxHeartbeats 4000000 in
theorem refEnt_any (e : En) (k : Nat) (was : Int) (w : World) (hs : e.fl.who.size ≤ maxLen) (hk : k ≤ 1000000) :
    Calls Tryz.prog 68 #[e.val, .int .i64 (k : Int), .int .i64 was] w fun r w' => r = .returned (.int .i64 (entE k was e : Int)) ∧ Below w.heap.size w w' := by
  have HOn := hide (fun w => refOne_any e.fl w hs)
  have hcase : (e.seq ≠ (k : Int) + 1 ∧ entE k was e = 15) ∨ (e.seq = (k : Int) + 1 ∧ e.time < 0 ∧ entE k was e = 2) ∨ (e.seq = (k : Int) + 1 ∧ 0 ≤ e.time ∧ 1000000 < e.time ∧ entE k was e = 2) ∨
      (e.seq = (k : Int) + 1 ∧ (0 ≤ e.time ∧ e.time ≤ 1000000) ∧ e.time < was ∧ entE k was e = 8) ∨ (e.seq = (k : Int) + 1 ∧ (0 ≤ e.time ∧ e.time ≤ 1000000) ∧ ¬ e.time < was ∧ entE k was e = oneE e.fl) := by
    unfold entE
    by_cases h1 : e.seq = (k : Int) + 1
    · by_cases h2 : 0 ≤ e.time ∧ e.time ≤ 1000000
      · by_cases h3 : e.time < was
        · exact Or.inr (Or.inr (Or.inr (Or.inl ⟨h1, h2, h3, by rw [if_pos h1, if_pos h2, if_pos h3]⟩)))
        · exact Or.inr (Or.inr (Or.inr (Or.inr ⟨h1, h2, h3, by rw [if_pos h1, if_pos h2, if_neg h3]⟩)))
      · by_cases h4 : e.time < 0
        · exact Or.inr (Or.inl ⟨h1, h4, by rw [if_pos h1, if_neg h2]⟩)
        · exact Or.inr (Or.inr (Or.inl ⟨h1, by omega, by omega, by rw [if_pos h1, if_neg h2]⟩))
    · exact Or.inl ⟨h1, by rw [if_neg h1]⟩
  have HB0 : Hid (Below w.heap.size w (w.alloc (.cells #[.int .i64 e.seq, .int .i64 e.time, .string e.fl.who, .int .i64 e.fl.ep] 80))) := (Below.refl _ _).alloc (Nat.le_refl _) _
  show Calls Tryz.prog 68 #[.agg #[.int .i64 e.seq, .int .i64 e.time, .string e.fl.who, .int .i64 e.fl.ep], .int .i64 (k : Int), .int .i64 was] w _
  clear hs
  unfold Fl.val at HOn
  generalize entE k was e = c at *
  generalize oneE e.fl = one at *
  generalize e.seq = sq at *
  generalize e.time = tm at *
  generalize e.fl.who = who at *
  generalize e.fl.ep = ep at *
  rcases hcase with ⟨h1, rfl⟩ | ⟨h1, h2, rfl⟩ | ⟨h1, h2, h3, rfl⟩ | ⟨h1, ⟨h2, h2'⟩, h3, rfl⟩ | ⟨h1, ⟨h2, h2'⟩, h3, rfl⟩
  · have hq : (sq == (k : Int) + 1) = false := beq_eq_false_iff_ne.2 h1
    clear h1
    go_enter Tryz.func68, Tryz.ntmps68
    go_wp2
    go_ret
    exact ⟨rfl, HB0.out⟩
  · have hq : (sq == (k : Int) + 1) = true := beq_iff_eq.2 h1
    clear h1
    go_enter Tryz.func68, Tryz.ntmps68
    go_wp2
    go_ret
    exact ⟨rfl, HB0.out⟩
  · have hq : (sq == (k : Int) + 1) = true := beq_iff_eq.2 h1
    have h2z : ¬ tm < 0 := by omega
    clear h1
    go_enter Tryz.func68, Tryz.ntmps68
    go_wp2
    go_ret
    exact ⟨rfl, HB0.out⟩
  · have hq : (sq == (k : Int) + 1) = true := beq_iff_eq.2 h1
    have h2z : ¬ tm < 0 := by omega
    have h2y : ¬ 1000000 < tm := by omega
    clear h1
    go_enter Tryz.func68, Tryz.ntmps68
    go_wp2
    go_ret
    exact ⟨rfl, HB0.out⟩
  · have hq : (sq == (k : Int) + 1) = true := beq_iff_eq.2 h1
    have h2z : ¬ tm < 0 := by omega
    have h2y : ¬ 1000000 < tm := by omega
    clear h1
    go_enter Tryz.func68, Tryz.ntmps68
    go_wp2_with fail
    refine (HOn.out _).mono ?_
    rintro e1 w1 ⟨rfl, hb⟩
    have HB1 : Hid (Below w.heap.size w w1) := HB0.out.trans (hb.mono HB0.out.size)
    clear hb
    go_wp2
    go_ret
    exact ⟨rfl, HB1.out⟩

theorem fltEnd1 {fn : Func} {p : Tmp} (hr : fn.results = #[.cell p 49]) {a : Act} {w : World} {R : Ending → World → Prop} (g : Nat) (cs : Array Value) (hp : a.tmps.getD p undef = .pointer (some ⟨g, 0, none⟩)) (hg : w.heap[g]? = some (.cells cs 49 (0, 0))) (hn : cs.size = 2) (hd : a.defers = [])
    (hR : R (.returned (.agg cs)) w) : bodyPost Tryz.prog fn R .ret a w :=
  bodyPost_ret (results_cell_row hr a.tmps w g _ cs (0, 0) _ hp hg Tryz.underlying49 rfl (by rw [hn]; kernel_rfl)) hd hR
theorem fltEnd2 {fn : Func} {p u : Tmp} (hr : fn.results = #[.tmp u, .cell p 49]) {a : Act} {w : World} {R : Ending → World → Prop} (g : Nat) (cs : Array Value) (hp : a.tmps.getD p undef = .pointer (some ⟨g, 0, none⟩)) (hg : w.heap[g]? = some (.cells cs 49 (0, 0))) (hn : cs.size = 2) (hd : a.defers = [])
    (hR : R (.returned (.tuple #[a.tmps.getD u undef, .agg cs])) w) : bodyPost Tryz.prog fn R .ret a w :=
  bodyPost_ret (res_tmp_cell hr a.tmps w g _ cs (0, 0) _ hp hg Tryz.underlying49 rfl (by rw [hn]; kernel_rfl)) hd hR
theorem newL_take {l : List En} {k : Nat} (hk : k < l.length) : newL (l.take (k + 1)) = l[k].time := by
  have hm : (l.take (k + 1)).length = k + 1 := by rw [List.length_take]; omega
  rw [newL_last hm, List.getElem_take]
/-- A fault's block: read, and written whole. -/
theorem flt_row {W : World} {g : Nat} {x y : Value} (h : W.heap[g]? = some (.cells #[x, y] 49 (0, 0))) : W.cell? ⟨g, 0, none⟩ = some x ∧ W.cell? ⟨g, 1, none⟩ = some y ∧ W.frozen? ⟨g, 0, none⟩ = false ∧ W.frozen? ⟨g, 1, none⟩ = false :=
  ⟨cell_of_row W _ 0 _ _ _ h, cell_of_row W _ 1 _ _ _ h, frozen_of_row W _ 0 _ _ h, frozen_of_row W _ 1 _ _ h⟩
theorem flt_set {w W : World} {B g : Nat} {x y : Value} (hb : Below B w W) (hg : B ≤ g) (h : W.heap[g]? = some (.cells #[x, y] 49 (0, 0))) (x' y' : Value) :
    ((W.setCell ⟨g, 0, none⟩ x').setCell ⟨g, 0 + 1, none⟩ y').heap[g]? = some (.cells #[x', y'] 49 (0, 0)) ∧ Below B w ((W.setCell ⟨g, 0, none⟩ x').setCell ⟨g, 0 + 1, none⟩ y') :=
  ⟨set2_row h _ _, (hb.setCell (p := ⟨g, 0, none⟩) hg _).setCell (p := ⟨g, 0 + 1, none⟩) hg _⟩

set_option maxRecDepth 100000 in
set_option maxHeartbeats 8000000 in
theorem refFeed_any (v : Value) (l : List En) (w : World) (hv : EnAt w v l) (hs : ∀ e ∈ l, e.fl.who.size ≤ maxLen) (hl : l.length ≤ 1000000) :
    Calls Tryz.prog 22 #[v] w fun e w' => e = .returned (fltV (feedC l)) ∧ Below w.heap.size w w' := by
  have HB0 : Hid (Below w.heap.size w (w.alloc flt0)) := (Below.refl _ _).alloc (Nat.le_refl _) _
  have HR0 : Hid ((w.alloc flt0).heap[w.heap.size]? = some flt0) := heap_alloc_new _ _
  obtain ⟨ad, cap, rfl, hc⟩ := hv.form
  have HV := hide hv
  have HS := hide hs
  by_cases h60 : 60 < l.length
  · rw [feed_full h60]
    have HBa := hide (fun w => bare_any 7 w)
    generalize l.length = n at *
    have hz : (60 : Int) < (n : Int) := by omega
    clear hv hs
    go_enter Tryz.func22, Tryz.ntmps22
    go_wp2_with fail
    refine (HBa.out _).mono ?_
    rintro e w1 ⟨rfl, hb⟩
    have HR1 : Hid (w1.heap[w.heap.size]? = some flt0) := (hb.block _ (row_lt HR0.out)).trans HR0.out
    have HB1 : Hid (Below w.heap.size w w1) := HB0.out.trans (hb.mono HB0.out.size)
    obtain ⟨c0, c1, z0, z1⟩ := flt_row HR1.out
    clear hb
    go_wp2
    obtain ⟨e1, e2⟩ := flt_set HB1.out (Nat.le_refl _) HR1.out (.int .i64 7) (.int .i64 (-1))
    refine fltEnd1 rfl w.heap.size _ rfl e1 rfl rfl ?_
    exact ⟨rfl, e2⟩
  · have HG : Hid ((∀ j, j < l.length → badE l j = 0) → feedC l = (0, -1)) := fun h => feed_good h60 h
    have HBd : Hid (∀ k, k < l.length → (∀ j, j < k → badE l j = 0) → badE l k ≠ 0 → feedC l = (badE l k, (k : Int))) := fun k hk h1 h2 => feed_bad h60 hk h1 h2
    have HF := hide (fun w => fine_any w)
    generalize feedC l = res at *
    generalize hn : l.length = n at *
    have HN := hide hn
    have hz : ¬ (60 : Int) < (n : Int) := by omega
    clear hv hs hn
    go_enter Tryz.func22, Tryz.ntmps22
    go_wp2
    go_loopg [3, 4, 5] n (fun gg s3 s4 _ wr => ∃ k : Nat, k ≤ n ∧ n - k ≤ gg ∧ s4 = .int .i64 k ∧ s3 = .int .i64 (newL (l.take k)) ∧ Hid (∀ j, j < k → badE l j = 0) ∧ Hid (Below w.heap.size w wr) ∧ Hid (wr.heap[w.heap.size]? = some flt0))
    case atStart => exact ⟨0, Nat.zero_le _, by omega, rfl, rfl, (show Hid _ from fun j hj => absurd hj (Nat.not_lt_zero _)), HB0, HR0⟩
    case round =>
      obtain ⟨k, hk, hgg, rfl, rfl, HP, HB, HR⟩ := hrel
      clear HB0 HR0
      by_cases hlt : k < n
      · have hkl : k < l.length := by rw [HN.out]; exact hlt
        have hvr := HV.out.below HB.out
        rw [← HN.out] at hvr
        obtain ⟨b, off, cap', e, hc', hb, _, hcell⟩ := hvr.at (by omega)
        injection e with e1 e2 e3
        subst e1; subst e3
        obtain ⟨c0, c1, c2, c3⟩ := hcell k hkl
        have hltz : (k : Int) < (n : Int) := by omega
        have HTm : Hid (∀ W, Below wr.heap.size wr W → W.cell? ⟨b, off + k * 4 + 1, none⟩ = some (.int .i64 l[k].time)) := fun W hbW => by rw [hbW.cell (p := ⟨b, off + k * 4 + 1, none⟩) hb]; exact (hcell k hkl).2.1
        have HO := hide (refEnt_any (l[k]'hkl) k (newL (l.take k)) wr (HS.out _ (List.getElem_mem hkl)) (by omega))
        rw [← bad_at hkl] at HO
        unfold En.val at HO
        have HNt := hide (newL_take hkl)
        have HBk := hide (HBd.out k hlt HP.out)
        have hcz : (badE l k = 0 ∧ (badE l k : Int) = 0) ∨ (badE l k ≠ 0 ∧ (0 : Int) < (badE l k : Int)) := by omega
        clear hcell hvr
        generalize newL (l.take k) = was at *
        generalize (l[k]'hkl).seq = sq at *
        generalize (l[k]'hkl).time = tm at *
        generalize (l[k]'hkl).fl.who = who at *
        generalize (l[k]'hkl).fl.ep = ep at *
        rcases hcz with ⟨hb0, hbz⟩ | ⟨hb0, hbz⟩
        · rw [hbz] at HO
          have HB0' := hide hb0
          clear hb0 hbz HBk
          go_wp2_with fail
          refine HO.out.mono ?_
          rintro e w1 ⟨rfl, hb1⟩
          have HB1 : Hid (Below w.heap.size w w1) := HB.out.trans (hb1.mono HB.out.size)
          have HR1 : Hid (w1.heap[w.heap.size]? = some flt0) := (hb1.block _ (row_lt HR.out)).trans HR.out
          have d1 := HTm.out w1 hb1
          clear hb1 c0 c1 c2 c3
          go_wp2
          go_roundg (n - (k + 1))
          case measure => omega
          case rel =>
            refine ⟨k + 1, by omega, by omega, by go_num, by rw [HNt.out], (show Hid _ from fun j hj => ?_), HB1, HR1⟩
            by_cases e : j = k
            · rw [e]; exact HB0'.out
            · exact HP.out j (by omega)
        · have HRes := hide (HBk.out hb0)
          clear hb0 HBk
          generalize hcz : (badE l k : Int) = cz at *
          have HCz := hide hcz
          clear hcz
          go_wp2_with fail
          refine HO.out.mono ?_
          rintro e w1 ⟨rfl, hb1⟩
          have HB1 : Hid (Below w.heap.size w w1) := HB.out.trans (hb1.mono HB.out.size)
          have HR1 : Hid (w1.heap[w.heap.size]? = some flt0) := (hb1.block _ (row_lt HR.out)).trans HR.out
          obtain ⟨d0, d1, z0, z1⟩ := flt_row HR1.out
          clear hb1 c0 c1 c2 c3
          go_wp2
          obtain ⟨e1, e2⟩ := flt_set HB1.out (Nat.le_refl _) HR1.out (.int .i64 cz) (.int .i64 (k : Int))
          refine fltEnd1 rfl w.heap.size _ rfl e1 rfl rfl ?_
          exact ⟨by rw [HRes.out]; show _ = Ending.returned (.agg #[.int .i64 (badE l k : Int), .int .i64 (k : Int)]); rw [HCz.out], e2⟩
      · obtain rfl : k = n := by omega
        have hltz : ¬ (k : Int) < (k : Int) := by omega
        have HRes := hide (HG.out HP.out)
        go_wp2_with fail
        refine (HF.out _).mono ?_
        rintro e w1 ⟨rfl, hb1⟩
        have HB1 : Hid (Below w.heap.size w w1) := HB.out.trans (hb1.mono HB.out.size)
        have HR1 : Hid (w1.heap[w.heap.size]? = some flt0) := (hb1.block _ (row_lt HR.out)).trans HR.out
        obtain ⟨d0, d1, z0, z1⟩ := flt_row HR1.out
        clear hb1
        go_wp2
        obtain ⟨e1, e2⟩ := flt_set HB1.out (Nat.le_refl _) HR1.out (.int .i64 0) (.int .i64 (-1))
        refine fltEnd1 rfl w.heap.size _ rfl e1 rfl rfl ?_
        exact ⟨by rw [HRes.out]; rfl, e2⟩
end Go.Proofs.YtgagekcjdapkfacGreatDoor

namespace Go.Proofs.YtgagekcjdapkfacGreatDoor
open Go.RowKit Go.Extern.Stop Go.Stop Go.Extern Go.Proofs

/-- Entries somewhere, and a fault. -/
def FdPost (c : Nat × Int) (r : List En) (w w' : World) (e : Ending) : Prop := (∃ v', e = .returned (.tuple #[v', fltV c]) ∧ EnAt w' v' r) ∧ Below w.heap.size w w'
theorem nil_enAt (w : World) : EnAt w (.slice none 0 0) [] := Or.inl ⟨none, 0, rfl, rfl⟩
abbrev fltO (x y : Int) : Obj := .cells #[.int .i64 x, .int .i64 y] 49 (0, 0)

set_option maxRecDepth 100000 in
set_option maxHeartbeats 8000000 in
theorem refSince_any (v : Value) (l : List En) (seq : Int) (w : World) (hv : EnAt w v l) (hs : ∀ e ∈ l, e.fl.who.size ≤ maxLen) (hl : l.length ≤ 1000000) :
    Calls Tryz.prog 26 #[v, .int .i64 seq] w fun e w' => FdPost (sinceC l seq) (sinceR l seq) w w' e := by
  have HB0 : Hid (Below w.heap.size w (w.alloc flt0)) := (Below.refl _ _).alloc (Nat.le_refl _) _
  have HR0 : Hid ((w.alloc flt0).heap[w.heap.size]? = some flt0) := heap_alloc_new _ _
  have HFF := hide (fun w h => refFeed_any v l w h hs hl)
  have HBare := hide (fun c w => bare_any c w)
  have HV := hide hv
  have HSC : Hid (sinceC l seq = if (feedC l).1 = 0 then (if seq < 0 then (2, -1) else if (l.length : Int) < seq then (15, -1) else (0, -1)) else feedC l) := rfl
  have HSR : Hid (sinceR l seq = if (sinceC l seq).1 = 0 then l.drop seq.toNat else []) := rfl
  have HOk : Hid ((feedC l).1 = 0 → feedC l = (0, -1)) := fun h => feed_ok h
  obtain ⟨ad, cap, rfl, hcap⟩ := hv.form
  have hcz : ((feedC l).1 = 0 ∧ ((feedC l).1 : Int) = 0 ∧ (feedC l).2 = -1) ∨ ((feedC l).1 ≠ 0 ∧ (0 : Int) < ((feedC l).1 : Int)) := by
    by_cases h : (feedC l).1 = 0
    · exact Or.inl ⟨h, by omega, by rw [feed_ok h]⟩
    · exact Or.inr ⟨h, by omega⟩
  have HDr : Hid (∀ W, Below w.heap.size w W → ∀ b off, ad = some ⟨b, off, none⟩ → ∀ k, k ≤ l.length → EnAt W (.slice (some ⟨b, off + k * 4, none⟩) (l.length - k) (cap - k)) (l.drop k)) := fun W hb b off hab k hk => by
    rcases hv.below hb with ⟨ad', cp, e1, e2⟩ | ⟨b', off', cap', e1, e2, e3⟩
    · subst e2
      obtain rfl : k = 0 := Nat.le_zero.1 hk
      exact Or.inl ⟨_, _, rfl, rfl⟩
    · injection e1 with q1 q2 q3
      rw [hab] at q1
      injection q1 with q1
      injection q1 with q1 q4
      subst q1; subst q4; subst q3
      exact EnAt.drop e3 k _ _ rfl (by omega)
  have HNl : Hid (∀ W ad' cp, l.length ≤ seq.toNat → EnAt W (.slice ad' 0 cp) (l.drop seq.toNat)) := fun W ad' cp h => Or.inl ⟨ad', cp, rfl, List.drop_of_length_le h⟩
  have HAd : Hid (0 < l.length → ∃ b off, ad = some ⟨b, off, none⟩) := fun h => by
    obtain ⟨b, off, cap', e, _⟩ := hv.at h
    injection e with e1 _ _
    exact ⟨b, off, e1⟩
  clear hv hs
  generalize sinceC l seq = sc at *
  generalize sinceR l seq = sr at *
  generalize hn : l.length = n at *
  clear hn
  go_enter Tryz.func26, Tryz.ntmps26
  go_wp2_with fail
  refine (HFF.out _ (HV.out.below HB0.out)).mono ?_
  rintro e w1 ⟨rfl, hb⟩
  have HB1 : Hid (Below w.heap.size w w1) := HB0.out.trans (hb.mono HB0.out.size)
  have HR1 : Hid (w1.heap[w.heap.size]? = some flt0) := (hb.block _ (row_lt HR0.out)).trans HR0.out
  unfold fltV
  clear hb HB0 HR0 HFF
  have HFc := hide hcz
  generalize hfz : ((feedC l).1 : Int) = fz at *
  generalize hfa : (feedC l).2 = fa at *
  have HFz := hide hfz
  have HFa := hide hfa
  clear hfz hfa
  have HB2 : Hid (Below w.heap.size w (w1.alloc (fltO fz fa))) := HB1.out.alloc HB1.out.size _
  have HR2 : Hid ((w1.alloc (fltO fz fa)).heap[w.heap.size]? = some flt0) := (heap_alloc_old w1 _ (row_lt HR1.out)).trans HR1.out
  have HG2 : Hid ((w1.alloc (fltO fz fa)).heap[w1.heap.size]? = some (fltO fz fa)) := heap_alloc_new _ _
  go_upto_region 2 with fail
  obtain ⟨W2, hW2⟩ : ∃ W, w1.alloc (.cells #[.int .i64 fz, .int .i64 fa] 49) = W := ⟨_, rfl⟩
  rw [hW2] at HB2 HR2 HG2 ⊢
  have HLt1 : Hid (w.heap.size < w1.heap.size) := row_lt HR1.out
  generalize hgb : w1.heap.size = gb at *
  clear hW2 hgb HB1 HR1
  obtain ⟨g0, g1, _, _⟩ := flt_row HG2.out
  obtain ⟨c0, c1, z0, z1⟩ := flt_row HR2.out
  rcases HFc.out with ⟨h0, hz, ha⟩ | ⟨h0, hz⟩
  · rw [if_pos h0] at HSC
    by_cases hneg : seq < 0
    · rw [if_pos hneg] at HSC
      have HRes := hide HSC.out
      clear h0 HSC HFc
      go_wp2_with fail
      refine (HBare.out 2 _).mono ?_
      rintro e w3 ⟨rfl, hb⟩
      have HB3 : Hid (Below w.heap.size w w3) := HB2.out.trans (hb.mono HB2.out.size)
      have HR3 : Hid (w3.heap[w.heap.size]? = some flt0) := (hb.block _ (row_lt HR2.out)).trans HR2.out
      clear hb c0 c1 z0 z1 g0 g1
      obtain ⟨c0, c1, z0, z1⟩ := flt_row HR3.out
      go_wp2
      obtain ⟨e1, e2⟩ := flt_set HB3.out (Nat.le_refl _) HR3.out (.int .i64 2) (.int .i64 (-1))
      refine fltEnd2 rfl w.heap.size _ rfl e1 rfl rfl ?_
      exact ⟨⟨_, by rw [HRes.out]; rfl, by rw [HSR.out, HRes.out]; exact nil_enAt _⟩, e2⟩
    · rw [if_neg hneg] at HSC
      by_cases hbig : (n : Int) < seq
      · rw [if_pos hbig] at HSC
        have HRes := hide HSC.out
        clear h0 HSC HFc
        go_wp2_with fail
        refine (HBare.out 15 _).mono ?_
        rintro e w3 ⟨rfl, hb⟩
        have HB3 : Hid (Below w.heap.size w w3) := HB2.out.trans (hb.mono HB2.out.size)
        have HR3 : Hid (w3.heap[w.heap.size]? = some flt0) := (hb.block _ (row_lt HR2.out)).trans HR2.out
        clear hb c0 c1 z0 z1 g0 g1
        obtain ⟨c0, c1, z0, z1⟩ := flt_row HR3.out
        go_wp2
        obtain ⟨e1, e2⟩ := flt_set HB3.out (Nat.le_refl _) HR3.out (.int .i64 15) (.int .i64 (-1))
        refine fltEnd2 rfl w.heap.size _ rfl e1 rfl rfl ?_
        exact ⟨⟨_, by rw [HRes.out]; rfl, by rw [HSR.out, HRes.out]; exact nil_enAt _⟩, e2⟩
      · rw [if_neg hbig] at HSC
        have HRes := hide HSC.out
        obtain ⟨k, rfl⟩ : ∃ k : Nat, seq = (k : Int) := ⟨seq.toNat, by omega⟩
        have hkn : k ≤ n := by omega
        have hkt : (k : Int).toNat = k := Int.toNat_natCast k
        have HSr2 : Hid (sr = l.drop k) := by show _ = _; rw [HSR.out, HRes.out, if_pos rfl, hkt]
        subst hz
        subst ha
        have HFv : Hid (fltV sc = .agg #[.int .i64 0, .int .i64 (-1)]) := by show _ = _; rw [HRes.out]; rfl
        clear h0 HSC HFc hneg hbig HFz HFa hkt
        by_cases hn0 : 0 < n
        · obtain ⟨b, off, rfl⟩ := HAd.out hn0
          by_cases hkc : k < cap
          · have HEnd : Hid (∀ W, Below w.heap.size w W → EnAt W (.slice (some ⟨b, off + k * 4, none⟩) (n - k) (cap - k)) sr) := fun W hb => by rw [HSr2.out]; exact HDr.out W hb b off rfl k hkn
            clear HDr HNl HAd HSR HRes
            go_wp2
            go_region
            all_goals
              go_wp2
              obtain ⟨e1, e2⟩ := flt_set HB2.out (Nat.le_refl _) HR2.out (.int .i64 0) (.int .i64 (-1))
              refine fltEnd2 rfl w.heap.size _ rfl e1 rfl rfl ?_
              exact ⟨⟨_, by first | (rw [HFv.out]; rfl) | rw [HFv.out], HEnd.out _ e2.drew⟩, e2.drew⟩
          · obtain rfl : cap = k := by omega
            obtain rfl : n = cap := by omega
            have HEnd : Hid (∀ W ad' cp, EnAt W (.slice ad' 0 cp) sr) := fun W ad' cp => by rw [HSr2.out]; have := HNl.out W ad' cp (by omega); rwa [Int.toNat_natCast] at this
            clear HDr HNl HAd HSR HRes
            go_wp2
            go_region
            all_goals
              go_wp2
              obtain ⟨e1, e2⟩ := flt_set HB2.out (Nat.le_refl _) HR2.out (.int .i64 0) (.int .i64 (-1))
              refine fltEnd2 rfl w.heap.size _ rfl e1 rfl rfl ?_
              exact ⟨⟨_, by first | (rw [HFv.out]; rfl) | rw [HFv.out], by first | exact HEnd.out _ _ _ | (show EnAt _ (.slice _ (_ - _) _) _; rw [Nat.sub_self]; exact HEnd.out _ _ _)⟩, e2.drew⟩
        · obtain rfl : n = 0 := by omega
          obtain rfl : k = 0 := by omega
          have HEnd : Hid (∀ W ad' cp, EnAt W (.slice ad' 0 cp) sr) := fun W ad' cp => by rw [HSr2.out]; exact HNl.out W ad' cp (by omega)
          clear HDr HNl HAd HSR HRes
          cases ad with
          | none =>
            go_wp2
            go_region
            all_goals
              go_wp2
              obtain ⟨e1, e2⟩ := flt_set HB2.out (Nat.le_refl _) HR2.out (.int .i64 0) (.int .i64 (-1))
              refine fltEnd2 rfl w.heap.size _ rfl e1 rfl rfl ?_
              exact ⟨⟨_, by first | (rw [HFv.out]; rfl) | rw [HFv.out], HEnd.out _ _ _⟩, e2.drew⟩
          | some ad =>
            go_wp2
            go_region
            all_goals
              go_wp2
              obtain ⟨e1, e2⟩ := flt_set HB2.out (Nat.le_refl _) HR2.out (.int .i64 0) (.int .i64 (-1))
              refine fltEnd2 rfl w.heap.size _ rfl e1 rfl rfl ?_
              exact ⟨⟨_, by first | (rw [HFv.out]; rfl) | rw [HFv.out], HEnd.out _ _ _⟩, e2.drew⟩
  · rw [if_neg h0] at HSC
    have HFv : Hid (fltV sc = .agg #[.int .i64 fz, .int .i64 fa]) := by show _ = _; rw [HSC.out]; unfold fltV; rw [HFz.out, HFa.out]
    have HSr2 : Hid (sr = []) := by show _ = _; rw [HSR.out, HSC.out, if_neg h0]
    clear h0 HSC HFc HDr HNl HAd HSR HFz HFa
    go_wp2
    go_region
    all_goals
      go_wp2
      obtain ⟨e1, e2⟩ := flt_set HB2.out (Nat.le_refl _) HR2.out (.int .i64 fz) (.int .i64 fa)
      refine fltEnd2 rfl w.heap.size _ rfl e1 rfl rfl ?_
      exact ⟨⟨_, by first | (rw [HFv.out]; rfl) | rw [HFv.out], by rw [HSr2.out]; exact nil_enAt _⟩, e2.drew⟩

/-- Floors lie in no fault's block: what is written there leaves them. -/
theorem FlAt.past {w : World} {v : Value} {x : List Fl} {g : Nat} {p q : Int} (h : FlAt w v x) (hr : w.heap[g]? = some (fltO p q)) (y z : Value) : FlAt ((w.setCell ⟨g, 0, none⟩ y).setCell ⟨g, 0 + 1, none⟩ z) v x := by
  rcases h with h | ⟨b, off, cap, h1, h2, h3⟩
  · exact Or.inl h
  · refine Or.inr ⟨b, off, cap, h1, h2, fun j u hu => ?_⟩
    have hx : 0 < x.length := by
      cases x with
      | nil => simp [cellsF] at hu
      | cons a x => simp
    have hb : g ≠ b := by
      intro e
      subst e
      have c := h3 (0 * 2) _ (cellsF_who x 0 hx)
      rw [cell_of_row w g _ _ _ _ hr] at c
      match hoff : off + 0 * 2, c with
      | 0, c => simp at c
      | 1, c => simp at c
      | n + 2, c => simp at c
    rw [World.cell?_setCell_other _ _ _ _ (fun e => hb (congrArg Addr.block e)), World.cell?_setCell_other _ _ _ _ (fun e => hb (congrArg Addr.block e))]
    exact h3 j u hu

set_option maxRecDepth 100000 in
set_option maxHeartbeats 8000000 in
theorem refFloors_any (v : Value) (l : List En) (w : World) (hv : EnAt w v l) (hs : ∀ e ∈ l, e.fl.who.size ≤ maxLen) (hl : l.length ≤ 1000000) :
    Calls Tryz.prog 24 #[v] w fun e w' => FltPost (floorsC l) (floorsR l) w w' e := by
  have HB0 : Hid (Below w.heap.size w (w.alloc flt0)) := (Below.refl _ _).alloc (Nat.le_refl _) _
  have HR0 : Hid ((w.alloc flt0).heap[w.heap.size]? = some flt0) := heap_alloc_new _ _
  have HFF := hide (fun w h => refFeed_any v l w h hs hl)
  have HBare := hide (fun c w => bare_any c w)
  have HV := hide hv
  have HS := hide hs
  have hcz : ((feedC l).1 = 0 ∧ ((feedC l).1 : Int) = 0 ∧ (feedC l).2 = -1) ∨ ((feedC l).1 ≠ 0 ∧ (0 : Int) < ((feedC l).1 : Int)) := by
    by_cases h : (feedC l).1 = 0
    · exact Or.inl ⟨h, by omega, by rw [feed_ok h]⟩
    · exact Or.inr ⟨h, by omega⟩
  have HOne : Hid ((feedC l).1 = 0 → ∀ e ∈ l, oneE e.fl = 0) := fun h => feed_one h
  have HNo : Hid ((feedC l).1 = 0 → flsO l = none → floorsC l = (7, -1)) := fun h h2 => floors_none h h2
  have HYes : Hid ((feedC l).1 = 0 → ∀ b, flsO l = some b → floorsC l = (0, -1) ∧ floorsR l = b) := fun h b h2 => floors_some (b := b) h h2
  have HBadC : Hid ((feedC l).1 ≠ 0 → floorsC l = feedC l) := fun h => if_neg h
  have HBad : Hid ((floorsC l).1 ≠ 0 → floorsR l = []) := fun h => if_neg h
  obtain ⟨ad, cap, rfl, hcap⟩ := hv.form
  clear hv hs
  generalize floorsC l = fc at *
  generalize floorsR l = fr at *
  generalize hn : l.length = n at *
  have HN := hide hn
  clear hn
  go_enter Tryz.func24, Tryz.ntmps24
  go_wp2_with fail
  refine (HFF.out _ (HV.out.below HB0.out)).mono ?_
  rintro e w1 ⟨rfl, hb⟩
  have HB1 : Hid (Below w.heap.size w w1) := HB0.out.trans (hb.mono HB0.out.size)
  have HR1 : Hid (w1.heap[w.heap.size]? = some flt0) := (hb.block _ (row_lt HR0.out)).trans HR0.out
  unfold fltV
  clear hb HB0 HR0 HFF
  have HFc := hide hcz
  generalize hfz : ((feedC l).1 : Int) = fz at *
  generalize hfa : (feedC l).2 = fa at *
  have HFz := hide hfz
  have HFa := hide hfa
  clear hfz hfa
  have HB2 : Hid (Below w.heap.size w (w1.alloc (fltO fz fa))) := HB1.out.alloc HB1.out.size _
  have HR2 : Hid ((w1.alloc (fltO fz fa)).heap[w.heap.size]? = some flt0) := (heap_alloc_old w1 _ (row_lt HR1.out)).trans HR1.out
  have HG2 : Hid ((w1.alloc (fltO fz fa)).heap[w1.heap.size]? = some (fltO fz fa)) := heap_alloc_new _ _
  go_upto_region 2 with fail
  obtain ⟨W2, hW2⟩ : ∃ W, w1.alloc (.cells #[.int .i64 fz, .int .i64 fa] 49) = W := ⟨_, rfl⟩
  rw [hW2] at HB2 HR2 HG2 ⊢
  have HLt1 : Hid (w.heap.size < w1.heap.size) := row_lt HR1.out
  generalize hgb : w1.heap.size = gb at *
  clear hW2 hgb HB1 HR1
  obtain ⟨g0, g1, _, _⟩ := flt_row HG2.out
  obtain ⟨c0, c1, z0, z1⟩ := flt_row HR2.out
  rcases HFc.out with ⟨h0, hz, ha⟩ | ⟨h0, hz⟩
  · subst hz
    subst ha
    have HOne2 := hide (HOne.out h0)
    have HNo2 := hide (HNo.out h0)
    have HYes2 := hide (HYes.out h0)
    clear h0 HFc HFz HFa HOne HNo HYes HBadC
    go_wp2
    go_loopg [5, 6, 7, 8] n (fun gg s5 s6 _ _ wr => ∃ k : Nat, k ≤ n ∧ n - k ≤ gg ∧ s6 = .int .i64 k ∧ Hid (Below w.heap.size w wr) ∧ Hid (wr.heap[w.heap.size]? = some flt0) ∧ Hid (wr.heap[gb]? = some (fltO 0 (-1))) ∧ ∃ x, Hid (flsO (l.take k) = some x) ∧ Hid (FlAt wr s5 x))
    case atStart => exact ⟨0, Nat.zero_le _, by omega, rfl, HB2, HR2, HG2, [], rfl, Or.inl ⟨none, 0, rfl, rfl⟩⟩
    case round =>
      clear HB2 HR2 HG2 g0 g1 c0 c1 z0 z1
      obtain ⟨k, hk, hgg, rfl, HB, HR, HG, x, HX, HO⟩ := hrel
      by_cases hlt : k < n
      · have hltz : (k : Int) < (n : Int) := by omega
        have hkl : k < l.length := by rw [HN.out]; exact hlt
        have hvr := HV.out.below HB.out
        rw [← HN.out] at hvr
        obtain ⟨b, off, cap', e, hc', hb, _, hcell⟩ := hvr.at (by omega)
        injection e with e1 e2 e3
        subst e1; subst e3
        obtain ⟨_, _, c2, c3⟩ := hcell k hkl
        obtain ⟨hr, hx21⟩ := fls_ok HX.out
        have hx1 := small_fls (l.take k) [] x (fun e he => HS.out e (List.mem_of_mem_take he)) (fun f hf => by cases hf) HX.out
        have hfs : (l[k]).fl.who.size ≤ maxLen := HS.out _ (List.getElem_mem _)
        have hrc := raiseC_right hr hx21 (HOne2.out _ (List.getElem_mem hkl))
        have HRa := hide (refRaise_any u5 x l[k].fl wr HO.out hx1 hfs (by omega))
        unfold Fl.val at HRa
        have HSt : Hid (flsO (l.take (k + 1)) = if (raiseC x l[k].fl).1 = 0 then some (raisedL x l[k].fl) else none) := by
          show _ = _
          rw [fls_take l k hkl, HX.out]
          rfl
        have HZ : Hid ((raiseC x l[k].fl).1 = 0 → raiseR x l[k].fl = raisedL x l[k].fl) := fun h => (raiseC_zero h).2.2.2.2.2
        have HCut := hide (fls_cut l (k + 1))
        have hway : (raiseC x l[k].fl = (0, -1)) ∨ (raiseC x l[k].fl = (7, -1)) := by
          rw [hrc]
          split
          · exact Or.inr rfl
          · exact Or.inl rfl
        clear hcell hvr hr hx21 hx1 hfs hrc
        generalize raiseR x l[k].fl = rr at *
        generalize raisedL x l[k].fl = rd at *
        generalize raiseC x l[k].fl = rc at *
        generalize l[k].fl.who = who at *
        generalize l[k].fl.ep = ep at *
        rcases hway with rfl | rfl
        · have hrr : rr = rd := HZ.out rfl
          subst hrr
          have HX4 : Hid (flsO (l.take (k + 1)) = some rr) := by show _ = _; rw [HSt.out, if_pos rfl]
          clear HZ HSt HCut
          go_wp2_with fail
          refine HRa.out.mono ?_
          rintro e w4 ⟨⟨v4, rfl, hfl⟩, hb4⟩
          have HB4 : Hid (Below w.heap.size w w4) := HB.out.trans (hb4.mono HB.out.size)
          have HR4 : Hid (w4.heap[w.heap.size]? = some flt0) := (hb4.block _ (row_lt HR.out)).trans HR.out
          have HG4 : Hid (w4.heap[gb]? = some (fltO 0 (-1))) := (hb4.block _ (row_lt HG.out)).trans HG.out
          have HF4 := hide hfl
          have HB5 : Hid (Below w.heap.size w (w4.alloc (fltO 0 (-1)))) := HB4.out.alloc HB4.out.size _
          have HR5 : Hid ((w4.alloc (fltO 0 (-1))).heap[w.heap.size]? = some flt0) := (heap_alloc_old w4 _ (row_lt HR4.out)).trans HR4.out
          have HG5 : Hid ((w4.alloc (fltO 0 (-1))).heap[gb]? = some (fltO 0 (-1))) := (heap_alloc_old w4 _ (row_lt HG4.out)).trans HG4.out
          have HF5 : Hid (FlAt (w4.alloc (fltO 0 (-1))) v4 rr) := HF4.out.below ((Below.refl _ _).alloc (Nat.le_refl _) _)
          clear hb4 hfl HRa c2 c3 HB4 HR4 HG4 HF4
          unfold fltV
          go_wp2
          go_roundg (n - (k + 1))
          case measure => omega
          case rel => exact ⟨k + 1, by omega, by omega, by go_num, HB5, HR5, HG5, rr, HX4, HF5⟩
        · have hfc : fc = (7, -1) := HNo2.out (HCut.out (by rw [HSt.out, if_neg (by decide)]))
          have HFr := hide (HBad.out (by rw [hfc]; decide))
          have HFc := hide hfc
          clear HZ HSt HCut hfc
          go_wp2_with fail
          refine HRa.out.mono ?_
          rintro e w4 ⟨⟨v4, rfl, hfl⟩, hb4⟩
          have HB4 : Hid (Below w.heap.size w w4) := HB.out.trans (hb4.mono HB.out.size)
          have HR4 : Hid (w4.heap[w.heap.size]? = some flt0) := (hb4.block _ (row_lt HR.out)).trans HR.out
          have HB5 : Hid (Below w.heap.size w (w4.alloc (fltO 7 (-1)))) := HB4.out.alloc HB4.out.size _
          have HR5 : Hid ((w4.alloc (fltO 7 (-1))).heap[w.heap.size]? = some flt0) := (heap_alloc_old w4 _ (row_lt HR4.out)).trans HR4.out
          clear hb4 hfl HRa c2 c3 HB4 HR4
          unfold fltV
          go_wp2_with fail
          refine (HBare.out 7 _).mono ?_
          rintro e w6 ⟨rfl, hb6⟩
          have HB6 : Hid (Below w.heap.size w w6) := HB5.out.trans (hb6.mono HB5.out.size)
          have HR6 : Hid (w6.heap[w.heap.size]? = some flt0) := (hb6.block _ (row_lt HR5.out)).trans HR5.out
          obtain ⟨c0, c1, z0, z1⟩ := flt_row HR6.out
          clear hb6
          go_wp2
          obtain ⟨e1, e2⟩ := flt_set HB6.out (Nat.le_refl _) HR6.out (.int .i64 7) (.int .i64 (-1))
          refine fltEnd2 rfl w.heap.size _ rfl e1 rfl rfl ?_
          exact ⟨⟨_, by rw [HFc.out]; rfl, by rw [HFr.out]; exact Or.inl ⟨none, 0, rfl, rfl⟩⟩, e2⟩
      · obtain rfl : k = n := by omega
        have hltz : ¬ (k : Int) < (k : Int) := by omega
        have hx : flsO l = some x := by
          have := HX.out
          rwa [List.take_of_length_le (Nat.le_of_eq HN.out)] at this
        have HY := hide (HYes2.out x hx)
        obtain ⟨g0, g1, _, _⟩ := flt_row HG.out
        obtain ⟨c0, c1, z0, z1⟩ := flt_row HR.out
        clear hx
        go_wp2
        go_region
        all_goals
          go_wp2
          obtain ⟨e1, e2⟩ := flt_set HB.out (Nat.le_refl _) HR.out (.int .i64 0) (.int .i64 (-1))
          refine fltEnd2 rfl w.heap.size _ rfl e1 rfl rfl ?_
          exact ⟨⟨_, by rw [HY.out.1]; rfl, by rw [HY.out.2]; exact (HO.out.past HR.out _ _).below ((Below.refl _ _).drew)⟩, e2.drew⟩
  · have hfc := HBadC.out h0
    have HFv : Hid (fltV fc = .agg #[.int .i64 fz, .int .i64 fa]) := by show _ = _; rw [hfc]; unfold fltV; rw [HFz.out, HFa.out]
    have HSr2 := hide (HBad.out (by rw [hfc]; exact h0))
    clear h0 HFc HFz HFa HOne HNo HYes HBadC hfc
    go_wp2
    go_region
    all_goals
      go_wp2
      obtain ⟨e1, e2⟩ := flt_set HB2.out (Nat.le_refl _) HR2.out (.int .i64 fz) (.int .i64 fa)
      refine fltEnd2 rfl w.heap.size _ rfl e1 rfl rfl ?_
      exact ⟨⟨_, by first | (rw [HFv.out]; rfl) | rw [HFv.out], by rw [HSr2.out]; exact Or.inl ⟨none, 0, rfl, rfl⟩⟩, e2.drew⟩
end Go.Proofs.YtgagekcjdapkfacGreatDoor

namespace Go.Proofs.YtgagekcjdapkfacGreatDoor
open Go.RowKit Go.Extern.Stop Go.Stop Go.Extern

/-- NumberOf's number: -1 where it is none. -/
def numI (l : List UInt8) (most : Int) : Int := if numB l most = true then (Sl.valL l : Int) else -1
theorem numI_no (l : List UInt8) (most : Int) (h : numB l most = false) : numI l most = -1 := by unfold numI; rw [h]; rfl
theorem numB_len (l : List UInt8) (most : Int) (h : ¬ (1 ≤ l.length ∧ l.length ≤ 10)) : numB l most = false := by
  unfold numB Sl.numOk Sl.madeL
  rw [decide_eq_false h]
  rfl
theorem numB_dig (s : ByteArray) (most : Int) (k : Nat) (hk : k < s.size) (h : Sl.digB s[k] = false) : numB s.data.toList most = false := by
  unfold numB Sl.numOk Sl.madeL
  rw [all_no Sl.digB s k hk h, Bool.and_false]
  rfl

set_option maxRecDepth 100000 in
set_option maxHeartbeats 1000000 in
theorem refNumber_loop (s : ByteArray) (most : Int) (w : World) (h1 : 1 ≤ s.size) (h10 : s.size ≤ 10) (hz : s.size = 1 ∨ (1 < s.size ∧ ((s[0].toNat : Int) == 48) = false)) :
    Calls Tryz.prog 75 #[.string s, .int .i64 most] w fun e w' => e = .returned (.int .i64 (numI s.data.toList most)) ∧ w' = w := by
  have el := size_list s
  have Hz := hide hz
  rcases hz with hz | ⟨hz1, hz2⟩
  all_goals
    go_enter Tryz.func75, Tryz.ntmps75
    go_wp2
    go_loop [5, 6] (fun n i => ∃ k : Nat, k ≤ s.size ∧ i = .int .i64 k ∧ n = .int .i64 (Sl.valF 0 (s.data.toList.take k) : Nat) ∧ Hid (∀ j (hj : j < s.size), j < k → Sl.digB s[j] = true)) (fun _ i => s.size - (intOf i).toNat)
    case atStart => exact ⟨0, Nat.zero_le _, rfl, rfl, fun j _ hj => absurd hj (Nat.not_lt_zero _)⟩
    case round =>
      obtain ⟨k, hk, rfl, rfl, A⟩ := hrel
      by_cases hlt : k < s.size
      · have hb0 : (0 : Int) ≤ (s[k].toNat : Int) := by omega
        have hb1 : (s[k].toNat : Int) ≤ 255 := by have := s[k].toNat_lt; omega
        by_cases hd : Sl.digB s[k] = true
        · have hd2 : 48 ≤ s[k].toNat ∧ s[k].toNat ≤ 57 := by simpa [Sl.digB] using hd
          have HD := hide hd
          have hvl : Sl.valF 0 (s.data.toList.take k) < 10000000000 := by
            refine Sl.valL_lt _ ?_ (by rw [List.length_take]; omega)
            rw [List.all_eq_true]
            intro x hx
            obtain ⟨j, hj, rfl⟩ := List.getElem_of_mem hx
            rw [List.length_take, el] at hj
            rw [List.getElem_take]
            exact A.out j (by omega) (by omega)
          have HV : Hid ((Sl.valF 0 (s.data.toList.take (k + 1)) : Int) = 10 * (Sl.valF 0 (s.data.toList.take k) : Int) + ((s[k].toNat : Int) - 48)) := by
            show _ = _
            rw [take_snoc s k hlt, Sl.valF_snoc]
            omega
          obtain ⟨hd3, hd4⟩ := hd2
          have hd5 : (48 : Int) ≤ (s[k].toNat : Int) := by omega
          have hd6 : (s[k].toNat : Int) ≤ 57 := by omega
          have hv0 : (0 : Int) ≤ (Sl.valF 0 (s.data.toList.take k) : Int) := by omega
          have hv1 : (Sl.valF 0 (s.data.toList.take k) : Int) < 10000000000 := by omega
          clear hd hvl hd3 hd4
          generalize (Sl.valF 0 (s.data.toList.take k) : Int) = v at *
          go_wp2
          go_round
          case rel =>
            refine ⟨k + 1, by omega, by go_num, by rw [HV.out], (show Hid _ from fun j hj hjk => ?_)⟩
            by_cases e : j = k
            · subst e; exact HD.out
            · exact A.out j hj (by omega)
          case measure => simp [intOf]; omega
        · have hdf : Sl.digB s[k] = false := by simpa using hd
          have HR := hide (numI_no _ _ (numB_dig s most k hlt hdf))
          have hd2 : (s[k].toNat : Int) < 48 ∨ (48 ≤ (s[k].toNat : Int) ∧ 57 < (s[k].toNat : Int)) := by
            unfold Sl.digB at hdf
            rw [decide_eq_false_iff_not] at hdf
            omega
          clear hd hdf
          rcases hd2 with g | ⟨g1, g2⟩
          · go_wp2
            go_ret
            exact ⟨by rw [HR.out]; rfl, rfl⟩
          · go_wp2
            go_ret
            exact ⟨by rw [HR.out]; rfl, rfl⟩
      · have htake : s.data.toList.take k = s.data.toList := List.take_of_length_le (by rw [el]; omega)
        have hall : s.data.toList.all Sl.digB = true := all_at Sl.digB s (fun j hj => A.out j hj (by omega))
        have hok : Sl.numOk s.data.toList = true := by
          rw [Sl.numOk_iff]
          refine ⟨by omega, hall, fun h => ?_⟩
          rcases Hz.out with g | ⟨_, g⟩
          · omega
          · rw [head_at s (by omega)]
            intro e
            rw [beq_eq_false_iff_ne] at g
            apply g
            rw [Option.some.inj e]
            decide
        have HR : Hid (numI s.data.toList most = if (Sl.valF 0 (s.data.toList.take k) : Int) ≤ most then (Sl.valF 0 (s.data.toList.take k) : Int) else -1) := by
          show _ = _
          rw [htake]
          unfold numI numB
          rw [hok]
          simp only [Bool.true_and, decide_eq_true_eq]
          rfl
        clear htake hall hok
        generalize (Sl.valF 0 (s.data.toList.take k) : Int) = v at *
        by_cases hm : v ≤ most
        · rw [if_pos hm] at HR
          go_wp2
          go_ret
          exact ⟨by rw [HR.out]; rfl, rfl⟩
        · rw [if_neg hm] at HR
          go_wp2
          go_ret
          exact ⟨by rw [HR.out]; rfl, rfl⟩

theorem refNumber_any (s : ByteArray) (most : Int) (w : World) (hs : s.size ≤ maxLen) :
    Calls Tryz.prog 75 #[.string s, .int .i64 most] w fun e w' => e = .returned (.int .i64 (numI s.data.toList most)) ∧ w' = w := by
  have el := size_list s
  by_cases h1 : 1 ≤ s.size
  · by_cases h10 : s.size ≤ 10
    · by_cases hz : 1 < s.size ∧ s[0] = 48
      · have hb : numB s.data.toList most = false := by
          have : s.data.toList.head? = some 48 := by rw [head_at s (by omega), hz.2]
          simp [numB, Sl.numOk, this, el, hz.1]
        have HR := hide (numI_no _ _ hb)
        obtain ⟨hz1, hz2⟩ := hz
        have hz3 : ((s[0].toNat : Int) == 48) = true := by rw [hz2]; decide
        clear hb hz2 hs el
        go_enter Tryz.func75, Tryz.ntmps75
        go_wp2
        go_ret
        exact ⟨by rw [HR.out]; rfl, rfl⟩
      · refine refNumber_loop s most w h1 h10 ?_
        by_cases g : s.size = 1
        · exact Or.inl g
        · refine Or.inr ⟨by omega, ?_⟩
          rw [beq_eq_false_iff_ne]
          intro e
          refine hz ⟨by omega, UInt8.toNat_inj.1 ?_⟩
          have : (48 : UInt8).toNat = 48 := by decide
          omega
    · have HR := hide (numI_no _ _ (numB_len s.data.toList most (by rw [el]; omega)))
      unfold maxLen at hs
      go_enter Tryz.func75, Tryz.ntmps75
      go_wp2
      go_ret
      exact ⟨by rw [HR.out]; rfl, rfl⟩
  · have HR := hide (numI_no _ _ (numB_len s.data.toList most (by rw [el]; omega)))
    go_enter Tryz.func75, Tryz.ntmps75
    go_wp2
    go_ret
    exact ⟨by rw [HR.out]; rfl, rfl⟩

/-! ### Digits -/
theorem refByte_any (u : Nat) (hu : u < 256) (w : World) :
    Calls Tryz.prog 143 #[.int .i64 u] w fun e w' => e = .returned (.string (Sl.ofL [UInt8.ofNat u])) ∧ Below w.heap.size w w' := by
  have hn : (UInt8.ofNat u).toNat = u := by rw [UInt8.toNat_ofNat']; omega
  have hback := string_of [UInt8.ofNat u] 1 w.heap.size 1 (w.alloc (.cells #[.int .u8 u] 5)) rfl (fun j hj => by
    have : j = 0 := by simpa using hj
    subst this
    simp [hn])
  have h0 : (0 : Int) ≤ (u : Int) := by omega
  have h1 : (u : Int) ≤ 255 := by omega
  have HB : Hid (Below w.heap.size w (w.alloc (.cells #[.int .u8 u] 5))) := (Below.refl _ _).alloc (Nat.le_refl _) _
  rw [show (⟨[UInt8.ofNat u].toArray⟩ : ByteArray) = Sl.ofL [UInt8.ofNat u] from rfl] at hback
  generalize Sl.ofL [UInt8.ofNat u] = r at *
  generalize (u : Int) = z at *
  clear hn
  go_enter Tryz.func143, Tryz.ntmps143
  go_wp2
  go_ret
  exact ⟨rfl, HB.out⟩

theorem dec_size (u : Nat) (hu : u < 10000000000) : (Sl.ofL (Lib.decDigits u)).size ≤ 10 := by
  rw [Sl.ofL_size]
  exact ((Sl.numOk_iff _).1 (Sl.dec_ok u hu)).1.2

set_option maxRecDepth 100000 in
set_option maxHeartbeats 1000000 in
theorem refBelow_any : ∀ (u : Nat), u ≤ 1073741824 → ∀ (w : World),
    Calls Tryz.prog 108 #[.int .i64 (-(u : Int))] w fun e w' => e = .returned (.string (Sl.ofL (Lib.decDigits u))) ∧ Below w.heap.size w w' := by
  intro u
  induction u using Nat.strongRecOn with
  | _ u ih =>
    intro hu w
    by_cases h : u < 10
    · have HB := hide (refByte_any (48 + u) (by omega) w)
      rw [Lib.decDigits_one h]
      have hz : -10 < -(u : Int) := by omega
      have hz0 : -(u : Int) ≤ 0 := by omega
      have he : (48 : Int) - -(u : Int) = ((48 + u : Nat) : Int) := by omega
      generalize Sl.ofL [UInt8.ofNat (48 + u)] = r at *
      generalize ((48 + u : Nat) : Int) = b at *
      generalize -(u : Int) = z at *
      clear ih
      go_enter Tryz.func108, Tryz.ntmps108
      go_wp2_with fail
      refine HB.out.mono ?_
      rintro e w1 ⟨rfl, hb⟩
      go_wp2
      go_ret
      exact ⟨rfl, hb⟩
    · have HI := hide (fun w => ih (u / 10) (by omega) (by omega) w)
      have HB := hide (fun w => refByte_any (48 + u % 10) (by omega) w)
      have hdec : Sl.ofL (Lib.decDigits u) = Sl.ofL (Lib.decDigits (u / 10)) ++ Sl.ofL [UInt8.ofNat (48 + u % 10)] := by
        refine Sl.ba_ext ?_
        rw [ba_toList, Sl.toL_ofL, Sl.toL_ofL, Sl.toL_ofL]
        conv => lhs; rw [Lib.decDigits]
        rw [dif_neg h]
      have hz : ¬ -10 < -(u : Int) := by omega
      have hz2 : -1073741824 ≤ -(u : Int) := by omega
      have hz3 : -(u : Int) ≤ 0 := by omega
      have hq : (-(u : Int)).tdiv 10 = -((u / 10 : Nat) : Int) := by rw [Int.neg_tdiv]; rfl
      have hr : (-(u : Int)).tmod 10 = -((u % 10 : Nat) : Int) := by rw [Int.neg_tmod]; rfl
      have he : (48 : Int) - -((u % 10 : Nat) : Int) = ((48 + u % 10 : Nat) : Int) := by omega
      have hs1 := dec_size (u / 10) (by omega)
      have hs2 : (Sl.ofL [UInt8.ofNat (48 + u % 10)]).size = 1 := by rw [Sl.ofL_size]; rfl
      have hr0 : -((u % 10 : Nat) : Int) ≤ 0 := by omega
      have hq0 : -((u / 10 : Nat) : Int) ≤ 0 := by omega
      have hq1 : -1073741824 ≤ -((u / 10 : Nat) : Int) := by omega
      have hr1 : -10 ≤ -((u % 10 : Nat) : Int) := by omega
      have HD := hide hdec
      clear hdec ih hu h
      generalize Sl.ofL (Lib.decDigits u) = res at *
      generalize Sl.ofL (Lib.decDigits (u / 10)) = res1 at *
      generalize Sl.ofL [UInt8.ofNat (48 + u % 10)] = r at *
      generalize ((48 + u % 10 : Nat) : Int) = b at *
      generalize -((u % 10 : Nat) : Int) = z2 at *
      generalize -((u / 10 : Nat) : Int) = z1 at *
      generalize -(u : Int) = z at *
      go_enter Tryz.func108, Tryz.ntmps108
      go_wp2_with fail
      refine (HI.out _).mono ?_
      rintro e w1 ⟨rfl, hb⟩
      have HB1 := hide hb
      clear hb HI
      go_wp2_with fail
      refine (HB.out _).mono ?_
      rintro e w2 ⟨rfl, hb⟩
      have HB2 : Hid (Below w.heap.size w w2) := HB1.out.trans (hb.mono HB1.out.size)
      clear hb HB1 HB
      go_wp2
      go_ret
      exact ⟨by rw [HD.out]; rfl, HB2.out⟩

theorem refDecimal_any (u : Nat) (hu : u ≤ 1073741824) (w : World) :
    Calls Tryz.prog 72 #[.int .i64 (u : Int)] w fun e w' => e = .returned (.string (Sl.ofL (Lib.decDigits u))) ∧ Below w.heap.size w w' := by
  have HB := hide (refBelow_any u hu w)
  have h0 : (0 : Int) ≤ (u : Int) := by omega
  have h1 : (u : Int) ≤ 1073741824 := by omega
  generalize Sl.ofL (Lib.decDigits u) = res at *
  generalize (u : Int) = z at *
  go_enter Tryz.func72, Tryz.ntmps72
  go_wp2_with fail
  refine HB.out.mono ?_
  rintro e w1 ⟨rfl, hb⟩
  go_wp2
  go_ret
  exact ⟨rfl, hb⟩
end Go.Proofs.YtgagekcjdapkfacGreatDoor

namespace Go.Proofs.YtgagekcjdapkfacGreatDoor
open Go.RowKit Go.Extern.Stop Go.Stop Go.Extern

theorem Tryz.infoStringG : (Tryz.prog.info? 9).map (fun i => (i.zero, i.size, i.bytes)) = some (some (.string ByteArray.empty), 1, 16) := by kernel_rfl

/-- Texts as bytes. -/
abbrev bytesL (xs : List ByteArray) : List (List UInt8) := xs.map (·.data.toList)
theorem bytes_txt (ws : List (List UInt8)) : bytesL (ws.map txt) = ws := by
  unfold bytesL
  rw [List.map_map]
  exact (List.map_congr_left (fun x _ => rfl)).trans (List.map_id _)
/-- Texts as cells. -/
def cellsW (o : List (List UInt8)) : List Value := o.map fun l => .string (txt l)
theorem cellsW_len (o : List (List UInt8)) : (cellsW o).length = o.length := by simp [cellsW]
theorem cellsW_snoc (o : List (List UInt8)) (s : ByteArray) : cellsW o ++ [.string s] = cellsW (o ++ [s.data.toList]) := by
  simp only [cellsW, List.map_append, List.map_cons, List.map_nil, txt_back]
/-- Owned texts, read. -/
theorem owns_words {w : World} {base : Nat} {v : Value} {n : Nat} {o : List (List UInt8)} (h : w.ownsRow base 9 1 v n (cellsW o)) (hn : o ≠ []) :
    ∃ b cap, v = .slice (some ⟨b, 0, none⟩) o.length cap ∧ o.length ≤ cap ∧ Texts w b 0 (o.map txt) := by
  have hlen := h.1
  rw [cellsW_len, Nat.mul_one] at hlen
  subst hlen
  rcases h.2 with ⟨_, h0⟩ | ⟨g, cap, cur, rfl, _, hg, hc, _, _, ht⟩
  · exact absurd (List.length_eq_zero_iff.1 h0) hn
  · refine ⟨g, cap, rfl, hc, fun j hj => ?_⟩
    rw [Nat.zero_add, cell_of_row w g j cur _ _ hg]
    have hj2 : j < o.length := by simpa using hj
    have e1 : (cellsW o)[j]? = some (.string (o.map txt)[j]) := by
      unfold cellsW
      rw [List.getElem?_map, List.getElem?_eq_getElem hj2, List.getElem_map]
      rfl
    rw [← ht, List.getElem?_take] at e1
    split at e1
    · simpa using e1
    · cases e1

/-! ### Glue -/
theorem joinc_append_le (c : UInt8) : ∀ (b a : List (List UInt8)), (Lib.join a [c]).length ≤ (Lib.join (a ++ b) [c]).length
  | [], a => by rw [List.append_nil]; exact Nat.le_refl _
  | x :: b, a => by
    have ih := joinc_append_le c b (a ++ [x])
    rw [List.append_assoc] at ih
    refine Nat.le_trans ?_ ih
    by_cases ha : a = []
    · subst ha
      rw [Lib.join_nil]
      exact Nat.zero_le _
    · rw [join_snocc c x a ha, List.length_append]
      omega
theorem joinc_take_le (c : UInt8) (ws : List (List UInt8)) (k : Nat) : (Lib.join (ws.take k) [c]).length ≤ (Lib.join ws [c]).length := by
  have := joinc_append_le c (ws.drop k) (ws.take k)
  rwa [List.take_append_drop] at this
theorem joinc_next (c : UInt8) (xs : List ByteArray) (k : Nat) (hk : k < xs.length) :
    (k = 0 → txt (Lib.join ((bytesL xs).take k) [c]) ++ xs[k] = txt (Lib.join ((bytesL xs).take (k + 1)) [c])) ∧
    (k ≠ 0 → txt (Lib.join ((bytesL xs).take k) [c]) ++ ⟨#[c]⟩ ++ xs[k] = txt (Lib.join ((bytesL xs).take (k + 1)) [c])) := by
  have hkl : k < (bytesL xs).length := by simpa using hk
  have ht : (bytesL xs).take (k + 1) = (bytesL xs).take k ++ [xs[k].data.toList] := by
    rw [List.take_succ_eq_append_getElem hkl, List.getElem_map]
  refine ⟨fun h => ?_, fun h => ?_⟩
  · refine Sl.ba_ext ?_
    rw [ba_toList, txt_list, txt_list, ht]
    subst h
    show Lib.join [] [c] ++ _ = Lib.join ([] ++ [xs[0].data.toList]) [c]
    rw [List.nil_append, Lib.join_one, Lib.join_nil]
    rfl
  · refine Sl.ba_ext ?_
    rw [ba_toList, ba_toList, txt_list, txt_list, ht]
    have hne : (bytesL xs).take k ≠ [] := by
      intro e
      have := congrArg List.length e
      rw [List.length_take, List.length_nil] at this
      omega
    rw [join_snocc c _ _ hne]
    simp
theorem textc_le (c : UInt8) (xs : List ByteArray) (k : Nat) (hk : k < xs.length) : xs[k].size ≤ (Lib.join (bytesL xs) [c]).length := by
  have h1 := joinc_take_le c (bytesL xs) (k + 1)
  obtain ⟨a, b⟩ := joinc_next c xs k hk
  have e1 := txt_size (Lib.join ((bytesL xs).take (k + 1)) [c])
  by_cases h0 : k = 0
  · have := congrArg ByteArray.size (a h0)
    rw [ByteArray.size_append, e1] at this
    omega
  · have := congrArg ByteArray.size (b h0)
    rw [ByteArray.size_append, ByteArray.size_append, e1] at this
    omega

set_option maxRecDepth 100000 in
set_option maxHeartbeats 1000000 in
theorem refGlueC_any (xs : List ByteArray) (b o n c : Nat) (w : World) (hl : xs.length = n) (hn : n ≤ 100000) (hx : Texts w b o xs) (hg : (Lib.join (bytesL xs) [44]).length ≤ 6000) :
    Calls Tryz.prog 106 #[.slice (some ⟨b, o, none⟩) n c, .string ⟨#[44]⟩] w fun e w' => e = .returned (.string (txt (Lib.join (bytesL xs) [44]))) ∧ w' = w := by
  have HX := hide hx
  have HL := hide hl
  have HG := hide hg
  clear hx hl hg
  go_enter Tryz.func106, Tryz.ntmps106
  go_wp2
  go_loop [5, 6] (fun sv i => ∃ k : Nat, k ≤ n ∧ i = .int .i64 k ∧ sv = .string (txt (Lib.join ((bytesL xs).take k) [44]))) (fun _ i => n - (intOf i).toNat)
  case atStart => exact ⟨0, Nat.zero_le _, rfl, rfl⟩
  case round =>
    obtain ⟨k, hk, rfl, rfl⟩ := hrel
    by_cases hlt : k < n
    · have hkl : k < xs.length := by rw [HL.out]; exact hlt
      have hcell := HX.out k hkl
      have hsz : (txt (Lib.join ((bytesL xs).take k) [44])).size ≤ 6000 := by rw [txt_size]; exact Nat.le_trans (joinc_take_le _ _ _) HG.out
      have hyz : xs[k].size ≤ 6000 := Nat.le_trans (textc_le 44 xs k hkl) HG.out
      have HN := hide (joinc_next 44 xs k hkl)
      generalize txt (Lib.join ((bytesL xs).take k) [44]) = g at *
      generalize xs[k] = y at *
      by_cases h0 : k = 0
      · subst h0
        have HN0 := hide (HN.out.1 rfl)
        rw [Nat.add_zero] at hcell
        clear HN
        go_wp2
        go_round
        case rel => exact ⟨1, by omega, rfl, by rw [← HN0.out]⟩
        case measure => simp [intOf]; omega
      · have HN0 := hide (HN.out.2 h0)
        have h0' : (0 : Int) < (k : Int) := by omega
        clear HN
        go_wp2
        go_round
        case rel => exact ⟨k + 1, by omega, by go_num, by rw [← HN0.out]⟩
        case measure => simp [intOf]; omega
    · have hkn : (bytesL xs).take k = bytesL xs := List.take_of_length_le (by rw [List.length_map, HL.out]; omega)
      rw [hkn]
      clear hkn
      go_wp2
      go_ret
      exact ⟨rfl, rfl⟩

/-! ### Cut -/
theorem extract_listC (s : ByteArray) (f k : Nat) : (s.extract f k).data.toList = (s.data.toList.take k).drop f := by
  rw [Lib.extract_data, List.drop_take]
/-- A comma more. -/
theorem cutC_at (s : ByteArray) (f k : Nat) (o : List (List UInt8)) (hk : k < s.size) (hb : s[k] = 44) (h : cutB 44 (s.data.toList.take k) = o ++ [(s.extract f k).data.toList]) :
    cutB 44 (s.data.toList.take (k + 1)) = (o ++ [(s.extract f k).data.toList]) ++ [(s.extract (k + 1) (k + 1)).data.toList] := by
  rw [take_snoc s k hk, hb, cutB_cut, h, extract_listC s (k + 1) (k + 1)]
  have : List.drop (k + 1) (List.take (k + 1) s.data.toList) = [] := List.drop_eq_nil_of_le (by rw [List.length_take]; omega)
  rw [this]
  rfl
/-- A byte more that is none. -/
theorem cutC_byte (s : ByteArray) (f k : Nat) (o : List (List UInt8)) (hk : k < s.size) (hf : f ≤ k) (hb : s[k] ≠ 44) (h : cutB 44 (s.data.toList.take k) = o ++ [(s.extract f k).data.toList]) :
    cutB 44 (s.data.toList.take (k + 1)) = o ++ [(s.extract f (k + 1)).data.toList] := by
  rw [take_snoc s k hk, cutB_snoc 44 s[k] hb _ _ _ h, extract_listC, extract_listC, take_snoc s k hk, List.drop_append_of_le_length (by rw [List.length_take, size_list]; omega)]

set_option maxRecDepth 1000000 in
set_option maxHeartbeats 2000000 in
theorem refCutC_any (s : ByteArray) (w : World) (hs : s.size ≤ 4000) :
    Calls Tryz.prog 144 #[.string s, .int .u8 44] w fun e w' => ∃ b cap, e = .returned (.slice (some ⟨b, 0, none⟩) (cutB 44 s.data.toList).length cap) ∧ (cutB 44 s.data.toList).length ≤ cap ∧ Texts w' b 0 ((cutB 44 s.data.toList).map txt) ∧ Below w.heap.size w w' := by
  obtain ⟨i0, hi, hz0, hz1, hz2⟩ := info_parts Tryz.infoStringG
  have HLen : Hid (∀ k, (cutB 44 (s.data.toList.take k)).length ≤ 4001) := fun k => by
    have := cutB_len 44 (s.data.toList.take k)
    rw [List.length_take, size_list] at this
    omega
  have h44 : (44 : UInt8).toNat = 44 := by decide
  go_enter Tryz.func144, Tryz.ntmps144
  go_wp2
  go_loopw [5, 6, 7] (fun v fr i wr => ∃ (k f : Nat) (o : List (List UInt8)), k ≤ s.size ∧ f ≤ k ∧ i = .int .i64 k ∧ fr = .int .i64 f ∧ wr.ownsRow w.heap.size 9 1 v o.length (cellsW o) ∧ Hid (cutB 44 (s.data.toList.take k) = o ++ [(s.extract f k).data.toList]) ∧ Hid (Below w.heap.size w wr)) (fun _ _ i _ => s.size - (intOf i).toNat)
  case atStart => exact ⟨0, 0, [], Nat.zero_le _, Nat.le_refl _, rfl, rfl, World.ownsRow_nil _ _ _ _, (show Hid _ from by show _ = _; rw [extract_listC]; rfl), Below.refl _ _⟩
  case round =>
    obtain ⟨k, f, o, hk, hf, rfl, rfl, hown, HPi, HB⟩ := hrel
    have Ho : Hid (o.length + 1 ≤ 4001) := by
      have := HLen.out k
      rw [HPi.out, List.length_append] at this
      exact this
    by_cases hlt : k < s.size
    · by_cases hb : s[k] = 44
      · have hq : ((s[k].toNat : Int) == 44) = true := by rw [hb]; decide
        have HN := hide (cutC_at s f k o hlt hb HPi.out)
        clear hb
        go_wp2_with (first
          | (at_builtin; refine wpList_append_own _ rfl _ _ 109 rfl w.heap.size 9 i0 (.string ByteArray.empty) 1 16 Tryz.underlying109 hi hz0 hz1 hz2 rfl (by decide) _ _ _ rfl (hown.alloc _) ⟨wr.heap.size, 0, none⟩ 1 1 [.string (s.extract f k)] rfl rfl ?c1 ?c2 ?c3 ?c4 ?c5 ?_))
        case c1 =>
          intro j u hj
          match j, hj with
          | 0, hj => simp at hj; subst hj; simp [Addr.add]
        case c2 => intro u hu; simp at hu; subst hu; rfl
        case c3 => have := Ho.out; unfold maxLen; omega
        case c4 => have := Ho.out; omega
        case c5 => have := HB.out.size; simp; omega
        · intro v' w1 hown' hgrow _
          have HB1 : Hid (Below w.heap.size w w1) := (HB.out.alloc HB.out.size _).grown hgrow (by have := HB.out.size; simp; omega) (fun g hg => (hown.lt g hg).1)
          rw [cellsW_snoc] at hown'
          clear hown hgrow HB
          go_wp2
          go_roundw
          case rel => exact ⟨k + 1, k + 1, o ++ [(s.extract f k).data.toList], by omega, Nat.le_refl _, by go_num, by go_num, by rw [List.length_append]; exact hown', HN, HB1⟩
          case measure => simp [intOf]; omega
      · have hq : ((s[k].toNat : Int) == 44) = false := by
          rw [beq_eq_false_iff_ne]
          intro e
          exact hb (UInt8.toNat_inj.1 (by omega))
        have HN := hide (cutC_byte s f k o hlt hf hb HPi.out)
        clear hb
        go_wp2
        go_roundw
        case rel => exact ⟨k + 1, f, o, by omega, by omega, by go_num, rfl, hown, HN, HB⟩
        case measure => simp [intOf]; omega
    · have hks : k = s.size := by omega
      subst hks
      have HN : Hid (cutB 44 s.data.toList = o ++ [(s.extract f s.size).data.toList]) := by
        have := HPi.out
        rwa [List.take_of_length_le (by rw [size_list]; exact Nat.le_refl _)] at this
      go_wp2_with (first
        | (at_builtin; refine wpList_append_own _ rfl _ _ 109 rfl w.heap.size 9 i0 (.string ByteArray.empty) 1 16 Tryz.underlying109 hi hz0 hz1 hz2 rfl (by decide) _ _ _ rfl (hown.alloc _) ⟨wr.heap.size, 0, none⟩ 1 1 [.string (s.extract f s.size)] rfl rfl ?c1 ?c2 ?c3 ?c4 ?c5 ?_))
      case c1 =>
        intro j u hj
        match j, hj with
        | 0, hj => simp at hj; subst hj; simp [Addr.add]
      case c2 => intro u hu; simp at hu; subst hu; rfl
      case c3 => have := Ho.out; unfold maxLen; omega
      case c4 => have := Ho.out; omega
      case c5 => have := HB.out.size; simp; omega
      · intro v' w1 hown' hgrow _
        have HB1 : Hid (Below w.heap.size w w1) := (HB.out.alloc HB.out.size _).grown hgrow (by have := HB.out.size; simp; omega) (fun g hg => (hown.lt g hg).1)
        rw [cellsW_snoc, ← HN.out] at hown'
        obtain ⟨b, cap, rfl, hcap, htx⟩ := owns_words hown' (cutB_ne _ _)
        have HX := hide htx
        have HCap := hide hcap
        clear hown hown' hgrow HB htx hcap
        go_wp2
        go_ret
        exact ⟨b, cap, rfl, HCap.out, HX.out, HB1.out⟩
end Go.Proofs.YtgagekcjdapkfacGreatDoor

namespace Go.Proofs.YtgagekcjdapkfacGreatDoor
open Go

theorem no_colon (p : ByteArray) (h : ∀ m (hm : m < p.size), p[m] ≠ 58) : (58 : UInt8) ∉ p.data.toList := fun hx => by
  obtain ⟨j, hj, e⟩ := List.getElem_of_mem hx
  exact h j (by rw [size_list] at hj; exact hj) e
theorem at_colon (p : ByteArray) (j : Nat) (hj : j < p.size) (h : p[j] = 58) (hb : ∀ m (hm : m < p.size), m < j → p[m] ≠ 58) :
    (58 : UInt8) ∈ p.data.toList ∧ txt (aheadB 58 p.data.toList) = p.extract 0 j ∧ behindB 58 p.data.toList = (p.extract (j + 1) p.size).data.toList := by
  have hl : j < p.data.toList.length := by rw [size_list]; exact hj
  have he : p.data.toList = p.data.toList.take j ++ 58 :: p.data.toList.drop (j + 1) := by
    have h2 : p.data.toList[j] = 58 := h
    conv => lhs; rw [← List.take_append_drop j p.data.toList, List.drop_eq_getElem_cons hl, h2]
  have hn : (58 : UInt8) ∉ p.data.toList.take j := by
    intro hm
    obtain ⟨m, hm1, hm2⟩ := List.getElem_of_mem hm
    rw [List.length_take] at hm1
    rw [List.getElem_take] at hm2
    exact hb m (by omega) (by omega) hm2
  obtain ⟨e1, e2⟩ := ahead_cut 58 (p.data.toList.drop (j + 1)) (p.data.toList.take j) hn
  rw [← he] at e1 e2
  refine ⟨by rw [he]; simp, ?_, ?_⟩
  · refine Sl.ba_ext ?_
    rw [txt_list, e1, extract_listC, List.drop_zero]
  · rw [e2, extract_listC, List.take_of_length_le (by rw [size_list]; exact Nat.le_refl _)]
theorem numI_most (l : List UInt8) : numI l 9999999999 = if Sl.numOk l = true then (Sl.valL l : Int) else -1 := by
  unfold numI numB
  by_cases h : Sl.numOk l = true
  · have h2 := (Sl.numOk_iff l).1 h
    have := Sl.valL_lt l h2.2.1 h2.1.2
    rw [h, if_pos (by simp; omega), if_pos rfl]
  · rw [if_neg h, if_neg (by simp [h])]
theorem readOne_none (p : List UInt8) (h : (58 : UInt8) ∉ p) : readOneL p = none := if_neg h
theorem readOne_at (p : ByteArray) (j : Nat) (hj : j < p.size) (h : p[j] = 58) (hb : ∀ m (hm : m < p.size), m < j → p[m] ≠ 58) :
    (numI (p.extract (j + 1) p.size).data.toList 9999999999 < 0 → readOneL p.data.toList = none) ∧
    (¬ numI (p.extract (j + 1) p.size).data.toList 9999999999 < 0 → readOneL p.data.toList = some ⟨p.extract 0 j, numI (p.extract (j + 1) p.size).data.toList 9999999999⟩) := by
  obtain ⟨h1, h2, h3⟩ := at_colon p j hj h hb
  unfold readOneL numAny
  rw [if_pos h1, h2, h3, numI_most]
  by_cases hn : Sl.numOk (p.extract (j + 1) p.size).data.toList = true
  · rw [if_pos hn, if_pos hn]
    exact ⟨fun e => by omega, fun _ => rfl⟩
  · rw [if_neg hn, if_neg hn]
    exact ⟨fun _ => rfl, fun e => absurd (show (-1 : Int) < 0 by decide) e⟩
theorem read_step (ps : List (List UInt8)) (k : Nat) (hk : k < ps.length) (o : List Fl) (h : readAllL (ps.take k) = some o) :
    (readOneL ps[k] = none → readAllL ps = none) ∧ (∀ f, readOneL ps[k] = some f → readAllL (ps.take (k + 1)) = some (o ++ [f])) := by
  refine ⟨fun e => ?_, fun f e => ?_⟩
  · rw [← List.take_append_drop k ps, List.drop_eq_getElem_cons hk, readAll_append, h, readAllL_cons, e]
    rfl
  · rw [List.take_succ_eq_append_getElem hk, readAll_append, h, readAllL_cons, e]
    rfl
theorem readC_none (s : List UInt8) (hd : s ≠ [45]) (h : readAllL (cutB 44 s) = none) : readC s = (1, -1) ∧ readR s = [] := by
  have e : readL s = none := by unfold readL; rw [if_neg hd]; exact h
  exact ⟨by unfold readC; rw [e], by unfold readR; rw [e]⟩
theorem readC_some (s : List UInt8) (hd : s ≠ [45]) (r : List Fl) (h : readAllL (cutB 44 s) = some r) : readC s = checkL r ∧ readR s = if (checkL r).1 = 0 then r else [] := by
  have e : readL s = some r := by unfold readL; rw [if_neg hd]; exact h
  exact ⟨by unfold readC; rw [e], by unfold readR; rw [e]⟩
end Go.Proofs.YtgagekcjdapkfacGreatDoor

namespace Go.Proofs.YtgagekcjdapkfacGreatDoor
open Go.RowKit Go.Extern.Stop Go.Stop Go.Extern

theorem refKey_any (key : Int) (w : World) :
    Calls Tryz.prog 41 #[.int .i64 key] w fun e w' => e = .returned (.bool (decide (1 ≤ key ∧ key ≤ 1000000006))) ∧ w' = w := by
  by_cases h1 : 1 ≤ key
  · by_cases h2 : key < 1000000007
    · rw [show decide (1 ≤ key ∧ key ≤ 1000000006) = true by simp; omega]
      go_enter Tryz.func41, Tryz.ntmps41
      go_wp2
      go_ret
      exact ⟨rfl, rfl⟩
    · rw [show decide (1 ≤ key ∧ key ≤ 1000000006) = false by simp; omega]
      go_enter Tryz.func41, Tryz.ntmps41
      go_wp2
      go_ret
      exact ⟨rfl, rfl⟩
  · rw [show decide (1 ≤ key ∧ key ≤ 1000000006) = false by simp; omega]
    go_enter Tryz.func41, Tryz.ntmps41
    go_wp2
    go_ret
    exact ⟨rfl, rfl⟩

theorem drop_cons (s : ByteArray) (k : Nat) (h : k < s.size) : s.data.toList.drop k = s[k] :: s.data.toList.drop (k + 1) := by
  rw [List.drop_eq_getElem_cons (by simpa using h)]; rfl
theorem mul_bd (p q : Int) (hp : 0 ≤ p ∧ p ≤ 1000000006) (hq : 0 ≤ q ∧ q ≤ 1000000006) : 0 ≤ p * q ∧ p * q ≤ 1000000012000000036 := by
  refine ⟨Int.mul_nonneg hp.1 hq.1, ?_⟩
  have h1 : p * q ≤ 1000000006 * q := Int.mul_le_mul_of_nonneg_right hp.2 hq.1
  omega

set_option maxHeartbeats 2000000 in
theorem from_ok (key n : Int) (s : ByteArray) (w : World) (hk1 : 1 ≤ key) (hk2 : key ≤ 1000000006) (hn1 : 0 ≤ n) (hn2 : n ≤ 1000000006) (hs : s.size ≤ maxLen) :
    Calls Tryz.prog 142 #[.int .i64 key, .int .i64 n, .string s] w fun e w' => e = .returned (.tuple #[.int .i64 (Mk.mk key n s.data.toList), .int .i64 0]) ∧ w' = w := by
  unfold maxLen at hs
  have hd : decide (1 ≤ key ∧ key ≤ 1000000006) = true := by simp; omega
  go_enter Tryz.func142, Tryz.ntmps142
  go_wp2_with (go_at_call 41; refine (refKey_any key _).mono ?_; rintro e w1 ⟨rfl, rfl⟩)
  go_loop [9, 10, 11] (fun p o i => ∃ k : Nat, k ≤ s.size ∧ i = .int .i64 ((k : Int) - 1) ∧ p = .int .i64 (Mk.pw (s.data.toList.drop k).length) ∧ o = .int .i64 (Mk.sm key (s.data.toList.drop k))) (fun _ _ i => (intOf i + 1).toNat)
  case atStart => exact ⟨s.size, Nat.le_refl _, rfl, by rw [List.drop_of_length_le (by simp)]; rfl, by rw [List.drop_of_length_le (by simp)]; rfl⟩
  case round =>
    obtain ⟨k, hk, rfl, rfl, rfl⟩ := hrel
    cases k with
    | succ k =>
      have HS : Hid (Mk.sm key (s.data.toList.drop k) = (Mk.sm key (s.data.toList.drop (k + 1)) + Mk.pw (s.data.toList.drop (k + 1)).length * (((s[k].toNat : Int) + 1 + key) % 1000000007)) % 1000000007) := by
        show _ = _
        rw [drop_cons s k (by omega)]; rfl
      have HP : Hid (Mk.pw (s.data.toList.drop k).length = Mk.pw (s.data.toList.drop (k + 1)).length * 257 % 1000000007) := by
        show _ = _
        rw [drop_cons s k (by omega), List.length_cons, Mk.pw_succ]
      obtain ⟨ho1, ho2⟩ := Mk.sm_bd key (s.data.toList.drop (k + 1))
      have hp := Mk.pw_bd (s.data.toList.drop (k + 1)).length
      generalize Mk.sm key (s.data.toList.drop (k + 1)) = o at *
      generalize Mk.pw (s.data.toList.drop (k + 1)).length = p at *
      have hb0 : (0 : Int) ≤ (s[k].toNat : Int) := by omega
      have hb1 : (s[k].toNat : Int) ≤ 255 := by have := s[k].toNat_lt; omega
      obtain ⟨hx1, hx2⟩ := mul_bd p (((s[k].toNat : Int) + 1 + key) % 1000000007) hp (by omega)
      obtain ⟨hp1, hp2⟩ := hp
      have hkk : ((k + 1 : Nat) : Int) - 1 = (k : Int) := by omega
      rw [hkk]
      clear hkk
      have hlt : k < s.size := by omega
      go_wp2
      go_round
      case rel => exact ⟨k, by omega, by go_num, by rw [HP.out], by rw [HS.out]⟩
      case measure => simp [intOf]
    | zero =>
      have HR : Hid ((Mk.sm key (s.data.toList.drop 0) + Mk.pw (s.data.toList.drop 0).length * n) % 1000000007 = Mk.mk key n s.data.toList) := by
        show _ = _
        rw [List.drop_zero, Mk.mk_behind key n _ ⟨hn1, hn2⟩]
      obtain ⟨ho1, ho2⟩ := Mk.sm_bd key (s.data.toList.drop 0)
      have hp := Mk.pw_bd (s.data.toList.drop 0).length
      generalize Mk.sm key (s.data.toList.drop 0) = o at *
      generalize Mk.pw (s.data.toList.drop 0).length = p at *
      obtain ⟨hx1, hx2⟩ := mul_bd p n hp ⟨hn1, hn2⟩
      obtain ⟨hp1, hp2⟩ := hp
      go_wp2
      go_ret2
      exact ⟨by rw [← HR.out]; rfl, rfl⟩

theorem from_any (key n : Int) (s : ByteArray) (w : World) (hs : s.size ≤ maxLen) :
    Calls Tryz.prog 142 #[.int .i64 key, .int .i64 n, .string s] w fun e w' => e = .returned (.tuple #[.int .i64 (moreN key n s.data.toList), .int .i64 (moreE key n : Int)]) ∧ w' = w := by
  by_cases hk : 1 ≤ key ∧ key ≤ 1000000006
  · by_cases hn : 0 ≤ n ∧ n ≤ 1000000006
    · have e1 : moreE key n = 0 := by simp [moreE, hk, hn]
      have e2 : moreN key n s.data.toList = Mk.mk key n s.data.toList := by simp [moreN, e1]
      rw [e1, e2]
      exact from_ok key n s w hk.1 hk.2 hn.1 hn.2 hs
    · have e1 : moreE key n = 2 := by simp [moreE, hk, hn]
      have e2 : moreN key n s.data.toList = 0 := by simp [moreN, e1]
      rw [e1, e2]
      have hd : decide (1 ≤ key ∧ key ≤ 1000000006) = true := by simpa using hk
      clear e1 e2 hk hs
      by_cases hn1 : n < 0
      · clear hn
        go_enter Tryz.func142, Tryz.ntmps142
        go_wp2_with (go_at_call 41; refine (refKey_any key _).mono ?_; rintro e w1 ⟨rfl, rfl⟩)
        go_ret2
        exact ⟨rfl, rfl⟩
      · have hn2 : 1000000007 ≤ n := by omega
        clear hn
        go_enter Tryz.func142, Tryz.ntmps142
        go_wp2_with (go_at_call 41; refine (refKey_any key _).mono ?_; rintro e w1 ⟨rfl, rfl⟩)
        go_ret2
        exact ⟨rfl, rfl⟩
  · have e1 : moreE key n = 10 := by simp [moreE, hk]
    have e2 : moreN key n s.data.toList = 0 := by simp [moreN, e1]
    rw [e1, e2]
    have hd : decide (1 ≤ key ∧ key ≤ 1000000006) = false := by simpa using hk
    clear e1 e2 hk hs
    go_enter Tryz.func142, Tryz.ntmps142
    go_wp2_with (go_at_call 41; refine (refKey_any key _).mono ?_; rintro e w1 ⟨rfl, rfl⟩)
    go_ret2
    exact ⟨rfl, rfl⟩

theorem refOf_any (key : Int) (s : ByteArray) (w : World) (hs : s.size ≤ maxLen) :
    Calls Tryz.prog 107 #[.int .i64 key, .string s] w fun e w' => e = .returned (.tuple #[.int .i64 (moreN key key s.data.toList), .int .i64 (moreE key key : Int)]) ∧ w' = w := by
  by_cases hk : 1 ≤ key ∧ key ≤ 1000000006
  · have hd : decide (1 ≤ key ∧ key ≤ 1000000006) = true := by simpa using hk
    generalize hm : moreN key key s.data.toList = m
    generalize he : (moreE key key : Int) = x
    have HM : Hid (moreN key key s.data.toList = m) := hm
    have HX : Hid ((moreE key key : Int) = x) := he
    clear hk hm he
    go_enter Tryz.func107, Tryz.ntmps107
    go_wp2_with (go_at_call 41; refine (refKey_any key _).mono ?_; rintro e w1 ⟨rfl, rfl⟩)
    go_wp2_with fail
    refine (from_any key key s _ hs).mono ?_
    rintro e w1 ⟨rfl, rfl⟩
    rw [HM.out, HX.out]
    go_wp2
    go_ret2
    exact ⟨rfl, rfl⟩
  · have hd : decide (1 ≤ key ∧ key ≤ 1000000006) = false := by simpa using hk
    have e1 : moreE key key = 10 := by simp [moreE, hk]
    have e2 : moreN key key s.data.toList = 0 := by simp [moreN, e1]
    rw [e1, e2]
    clear hk e1 e2 hs
    go_enter Tryz.func107, Tryz.ntmps107
    go_wp2_with (go_at_call 41; refine (refKey_any key _).mono ?_; rintro e w1 ⟨rfl, rfl⟩)
    go_ret2
    exact ⟨rfl, rfl⟩

theorem refError_any (key : Int) (s : ByteArray) (n : Int) (w : World) (hs : s.size ≤ maxLen) :
    Calls Tryz.prog 111 #[.int .i64 key, .string s, .int .i64 n] w fun e w' => e = .returned (.int .i64 (rightE key s.data.toList n : Int)) ∧ w' = w := by
  have HO := refOf_any key s w hs
  rw [key_more] at HO
  by_cases hk : 1 ≤ key ∧ key ≤ 1000000006
  · have em : moreN key key s.data.toList = Mk.mk key key s.data.toList := by simp [moreN, key_more, hk]
    have er : rightE key s.data.toList n = if Mk.mk key key s.data.toList = n then 0 else 9 := by simp [rightE, hk]
    rw [if_pos hk, em] at HO
    rw [er]
    generalize Mk.mk key key s.data.toList = m at *
    have HO' := (show Hid (Calls Tryz.prog 107 #[.int .i64 key, .string s] w fun e w' => e = .returned (.tuple #[.int .i64 m, .int .i64 0]) ∧ w' = w) from HO)
    clear em er HO hs hk
    by_cases hm : m = n
    · rw [if_pos hm]
      have hm' : (m == n) = true := by simpa using hm
      clear hm
      go_enter Tryz.func111, Tryz.ntmps111
      go_wp2_with (go_at_call 107; refine HO'.out.mono ?_; rintro e w1 ⟨rfl, rfl⟩)
      go_ret
      exact ⟨rfl, rfl⟩
    · rw [if_neg hm]
      have hm' : (m == n) = false := by simpa using hm
      clear hm
      go_enter Tryz.func111, Tryz.ntmps111
      go_wp2_with (go_at_call 107; refine HO'.out.mono ?_; rintro e w1 ⟨rfl, rfl⟩)
      go_ret
      exact ⟨rfl, rfl⟩
  · have er : rightE key s.data.toList n = 10 := by simp [rightE, hk]
    rw [if_neg hk] at HO
    rw [er]
    generalize moreN key key s.data.toList = m at *
    have HO' := (show Hid (Calls Tryz.prog 107 #[.int .i64 key, .string s] w fun e w' => e = .returned (.tuple #[.int .i64 m, .int .i64 10]) ∧ w' = w) from HO)
    clear er HO hs hk
    go_enter Tryz.func111, Tryz.ntmps111
    go_wp2_with (go_at_call 107; refine HO'.out.mono ?_; rintro e w1 ⟨rfl, rfl⟩)
    go_ret
    exact ⟨rfl, rfl⟩
end Go.Proofs.YtgagekcjdapkfacGreatDoor

namespace Go.Proofs.YtgagekcjdapkfacGreatDoor
open Go.RowKit Go.Extern.Stop Go.Stop Go.Extern Go.Proofs

theorem ownsRow_keep {w w' : World} {B t k n : Nat} {v : Value} {cs : List Value} (h : w.ownsRow B t k v n cs) (hb : Below w.heap.size w w') : w'.ownsRow B t k v n cs := by
  refine ⟨h.1, ?_⟩
  rcases h.2 with g | ⟨g, cap, cur, rfl, hB, hg, hc, hm, hs, ht⟩
  · exact Or.inl g
  · exact Or.inr ⟨g, cap, cur, rfl, hB, (hb.block g (row_lt hg)).trans hg, hc, hm, hs, ht⟩
theorem one_txt (f : Fl) : f.who ++ ⟨#[58]⟩ ++ txt (Lib.decDigits f.ep.toNat) = txt (oneT f) := by
  refine Sl.ba_ext ?_
  rw [ba_toList, ba_toList, txt_list, txt_list]
  unfold oneT Fl.nm
  simp

theorem fltCode (a b : Int) (w : World) : (Instr.field 49 (.agg #[.int .i64 a, .int .i64 b]) 0).run Tryz.prog w = .ok (.int .i64 a) w := by kernel_rfl

attribute [local go_sem] Oper.semAt_some

set_option maxRecDepth 100000 in
set_option maxHeartbeats 4000000 in
theorem refText_any (v : Value) (l : List Fl) (w : World) (hv : FlAt w v l) (hr : RightF l) (hl : l.length ≤ 21) :
    Calls Tryz.prog 109 #[v] w fun e w' => e = .returned (.string (txt (textL l))) ∧ Below w.heap.size w w' := by
  obtain ⟨ad, cap, rfl, hcap⟩ := hv.form
  by_cases h0 : l = []
  · subst h0
    show Calls Tryz.prog 109 #[.slice ad 0 cap] w _
    have HT : Hid (txt (textL []) = ⟨#[45]⟩) := rfl
    rw [HT.out]
    clear HT hr hl hv hcap
    go_enter Tryz.func109, Tryz.ntmps109
    go_wp2
    go_ret
    exact ⟨rfl, Below.refl _ _⟩
  · have HT : Hid (textL l = Lib.join (l.map oneT) [44]) := if_neg h0
    have hlen : 0 < l.length := List.length_pos_iff.2 h0
    have HNe : Hid (l.map oneT ≠ []) := by show _ ≠ _; simpa using h0
    have HG : Hid (∀ b c W, Texts W b 0 ((l.map oneT).map txt) → Calls Tryz.prog 106 #[.slice (some ⟨b, 0, none⟩) l.length c, .string ⟨#[44]⟩] W fun e w' => e = .returned (.string (txt (textL l))) ∧ w' = W) := fun b c W hx => by
      have := refGlueC_any ((l.map oneT).map txt) b 0 l.length c W (by simp) (by omega) hx (by
        rw [bytes_txt]
        have h1 := text_sizeS hr hl
        rw [HT.out] at h1
        omega)
      rw [bytes_txt] at this
      rw [HT.out]
      exact this
    obtain ⟨i0, hi, hz0, hz1, hz2⟩ := info_parts Tryz.infoStringG
    have HV := hide hv
    have HR := hide hr
    rw [HT.out] at HG
    rw [HT.out]
    generalize Lib.join (l.map oneT) [44] = tx at *
    generalize hn : l.length = n at *
    have HN := hide hn
    have hnz : ((n : Int) == 0) = false := by rw [beq_eq_false_iff_ne]; omega
    have hnz2 : ¬ (n : Int) = 0 := by omega
    clear h0 hn hv hr HT
    go_enter Tryz.func109, Tryz.ntmps109
    go_wp2
    go_loopg [3, 4] n (fun gg sv iv wr => ∃ k : Nat, k ≤ n ∧ n - k ≤ gg ∧ iv = .int .i64 k ∧ Hid (wr.ownsRow w.heap.size 9 1 sv k (cellsW ((l.map oneT).take k))) ∧ Hid (Below w.heap.size w wr))
    case atStart => exact ⟨0, Nat.zero_le _, Nat.le_refl _, rfl, (show Hid _ from World.ownsRow_nil _ _ _ _), (show Hid _ from Below.refl _ _)⟩
    case round =>
      obtain ⟨k, hk, hgg, rfl, HOwn, HBr⟩ := hrel
      by_cases hlt : k < n
      · have hkl : k < l.length := by rw [HN.out]; exact hlt
        have hvr := HV.out.below HBr.out
        rw [← HN.out] at hvr
        obtain ⟨b, off, cap', e, hc', hb, hcell⟩ := hvr.at (by omega)
        injection e with e1 e2 e3
        subst e1; subst e3
        obtain ⟨c0, c1⟩ := hcell k hkl
        have hltz : (k : Int) < (n : Int) := by omega
        have HCk : Hid (∀ W, Below wr.heap.size wr W → W.cell? ⟨b, off + k * 2, none⟩ = some (.string (l[k]'hkl).who) ∧ W.cell? ⟨b, off + k * 2 + 1, none⟩ = some (.int .i64 (l[k]'hkl).ep)) := fun W hbW => ⟨by rw [hbW.cell (p := ⟨b, off + k * 2, none⟩) hb]; exact (hcell k hkl).1, by rw [hbW.cell (p := ⟨b, off + k * 2 + 1, none⟩) hb]; exact (hcell k hkl).2⟩
        have hone := HR.out.one _ (List.getElem_mem hkl)
        have hep := one_pos hone
        have hws : (l[k]'hkl).who.size ≤ 8 := by
          have := nm_len hone
          have e : (l[k]'hkl).nm.length = (l[k]'hkl).who.size := by unfold Fl.nm; simp
          omega
        have HDc := hide (fun w => refDecimal_any (l[k]'hkl).ep.toNat (by omega) w)
        rw [show (((l[k]'hkl).ep.toNat : Nat) : Int) = (l[k]'hkl).ep by omega] at HDc
        have HTx := hide (one_txt (l[k]'hkl))
        have hds : (Sl.ofL (Lib.decDigits (l[k]'hkl).ep.toNat)).size ≤ 10 := dec_size _ (by omega)
        change Hid ((l[k]'hkl).who ++ ⟨#[58]⟩ ++ Sl.ofL (Lib.decDigits (l[k]'hkl).ep.toNat) = txt (oneT (l[k]'hkl))) at HTx
        have HTk : Hid ((l.map oneT).take (k + 1) = (l.map oneT).take k ++ [oneT (l[k]'hkl)]) := by show _ = _; rw [List.take_succ_eq_append_getElem (by rw [List.length_map]; exact hkl), List.getElem_map]
        clear hcell hvr hc' hone hep
        generalize Sl.ofL (Lib.decDigits (l[k]'hkl).ep.toNat) = dg at *
        generalize oneT (l[k]'hkl) = ot at *
        generalize (l[k]'hkl).who = who at *
        generalize (l[k]'hkl).ep = ep at *
        have HBd : Hid (Below wr.heap.size wr wr.drew) := (Below.refl _ _).drew
        have d0 : wr.drew.cell? ⟨b, off + k * 2, none⟩ = some (.string who) := c0
        have d1 : wr.drew.cell? ⟨b, off + k * 2 + 1, none⟩ = some (.int .i64 ep) := c1
        go_wp2_with fail
        go_region_held (fun w' => w'.cell? ⟨b, off + k * 2, none⟩ = some (.string who) ∧ w'.cell? ⟨b, off + k * 2 + 1, none⟩ = some (.int .i64 ep)) (go_keep)
          (first | (go_at_call 72; refine (HDc.out wr.drew).mono ?_; rintro e w2 ⟨rfl, hb2⟩; have HB2 : Hid (Below wr.heap.size wr w2) := HBd.out.trans hb2; have e0 := (HCk.out w2 HB2.out).1; have e1 := (HCk.out w2 HB2.out).2; clear hb2 HDc))
        all_goals
          have HO2 := hide (ownsRow_keep HOwn.out HB2.out)
          have HBw : Hid (Below w.heap.size w w2) := HBr.out.trans (HB2.out.mono HBr.out.size)
          clear c0 c1 d0 d1 e0 e1 HCk HBd HB2 HBr HOwn
          go_wp2_with (first
            | (at_builtin; refine wpList_append_own _ rfl _ _ 109 rfl w.heap.size 9 i0 (.string ByteArray.empty) 1 16 Tryz.underlying109 hi hz0 hz1 hz2 rfl (by decide) _ _ _ rfl (HO2.out.alloc _) ⟨w2.heap.size, 0, none⟩ 1 1 [.string (who ++ ⟨#[58]⟩ ++ dg)] rfl rfl ?c1 ?c2 ?c3 ?c4 ?c5 ?_))
          case c1 =>
            intro j u hj
            match j, hj with
            | 0, hj => simp at hj; subst hj; simp [Addr.add]
          case c2 => intro u hu; simp at hu; subst hu; rfl
          case c3 => unfold maxLen; omega
          case c4 => omega
          case c5 => have := HBw.out.size; simp; omega
          · intro v' w3 hown' hgrow _
            have HB3 : Hid (Below w.heap.size w w3) := (HBw.out.alloc HBw.out.size _).grown hgrow (by have := HBw.out.size; simp; omega) (fun g hg => (HO2.out.lt g hg).1)
            have HO3 : Hid (w3.ownsRow w.heap.size 9 1 v' (k + 1) (cellsW ((l.map oneT).take (k + 1)))) := by
              rw [HTx.out, cellsW_snoc, txt_list, ← HTk.out] at hown'
              exact hown'
            clear hown' hgrow HO2 HBw
            go_wp2
            go_roundg (n - (k + 1))
            case measure => omega
            case rel => exact ⟨k + 1, by omega, Nat.le_refl _, by go_num, HO3, HB3⟩
      · have hkn : k = n := by omega
        subst hkn
        have hltz : ¬ (k : Int) < (k : Int) := by omega
        have hown := HOwn.out
        rw [List.take_of_length_le (by rw [List.length_map, HN.out]; exact Nat.le_refl _)] at hown
        obtain ⟨bb, cc, hve, hcap2, htx⟩ := owns_words hown HNe.out
        rw [List.length_map, HN.out] at hve
        subst hve
        have HX := hide htx
        clear hown hcap2 htx HOwn
        go_wp2_with fail
        refine (HG.out _ _ _ HX.out).mono ?_
        rintro e w2 ⟨rfl, rfl⟩
        go_wp2
        go_ret
        exact ⟨rfl, HBr.out⟩

set_option maxRecDepth 100000 in
set_option maxHeartbeats 2000000 in
theorem refSum_any (v : Value) (l : List Fl) (w : World) (hv : FlAt w v l) (hs : ∀ f ∈ l, f.who.size ≤ maxLen) (hl : l.length ≤ 1000000) :
    Calls Tryz.prog 73 #[v] w fun e w' => e = .returned (.int .i64 (sumL l)) ∧ Below w.heap.size w w' := by
  have HF := hide (refFault_any v l w hv hs hl)
  have HV := hide hv
  by_cases h0 : (checkL l).1 = 0
  · have HS : Hid (sumL l = moreN 1 1 (textL l)) := if_pos h0
    obtain ⟨hr, h21⟩ := right_of_check h0
    have HT := hide (fun w h => refText_any v l w h hr h21)
    have HO := hide (fun w => refOf_any 1 (txt (textL l)) w (by rw [txt_size]; have := text_sizeS hr h21; unfold maxLen; omega))
    rw [txt_list] at HO
    have hz : ¬ (0 : Int) < ((checkL l).1 : Int) := by omega
    rw [HS.out]
    clear HS hr h21 hv hs hl h0
    generalize moreN 1 1 (textL l) = m at *
    generalize moreE 1 1 = me at *
    generalize textL l = t at *
    generalize checkL l = c at *
    unfold fltV at HF
    have hfd := fun w => fltCode (c.1 : Int) c.2 w
    go_enter Tryz.func73, Tryz.ntmps73
    go_wp2_with fail
    refine HF.out.mono ?_
    rintro e w1 ⟨rfl, hb⟩
    have HB1 := hide hb
    clear hb HF
    go_wp2_with fail
    refine (HT.out _ (HV.out.below HB1.out)).mono ?_
    rintro e w2 ⟨rfl, hb⟩
    have HB2 : Hid (Below w.heap.size w w2) := HB1.out.trans (hb.mono HB1.out.size)
    clear hb HB1 HT HV
    go_wp2_with fail
    refine (HO.out _).mono ?_
    rintro e w3 ⟨rfl, rfl⟩
    go_wp2
    go_ret
    exact ⟨rfl, HB2.out⟩
  · have HS : Hid (sumL l = 0) := if_neg h0
    have hz : (0 : Int) < ((checkL l).1 : Int) := by omega
    rw [HS.out]
    clear HS hv hs hl h0
    generalize checkL l = c at *
    unfold fltV at HF
    have hfd := fun w => fltCode (c.1 : Int) c.2 w
    go_enter Tryz.func73, Tryz.ntmps73
    go_wp2_with fail
    refine HF.out.mono ?_
    rintro e w1 ⟨rfl, hb⟩
    go_wp2
    go_ret
    exact ⟨rfl, hb⟩
end Go.Proofs.YtgagekcjdapkfacGreatDoor

namespace Go.Proofs.YtgagekcjdapkfacGreatDoor
open Go.RowKit Go.Extern.Stop Go.Stop Go.Extern

theorem Tryz.infoString : (Tryz.prog.info? 9).map (fun i => (i.zero, i.size, i.bytes)) = some (some (.string ByteArray.empty), 1, 16) := by kernel_rfl

/-- Texts as cells. -/
def cellsT (o : List (List UInt8)) : List Value := o.map fun l => .string (Sl.ofL l)
theorem cellsT_len (o : List (List UInt8)) : (cellsT o).length = o.length := by simp [cellsT]
theorem cellsT_snoc (o : List (List UInt8)) (s : ByteArray) : cellsT o ++ [.string s] = cellsT (o ++ [s.data.toList]) := by
  simp only [cellsT, List.map_append, List.map_cons, List.map_nil, Sl.ofL_toL]

theorem extract_list (s : ByteArray) (f k : Nat) : (s.extract f k).data.toList = (s.data.toList.take k).drop f := by
  rw [Lib.extract_data, List.drop_take]

/-- A blank more. -/
theorem cut_blank (s : ByteArray) (f k : Nat) (o : List (List UInt8)) (hk : k < s.size) (hb : s[k] = 32) (h : Sl.pieces (s.data.toList.take k) = o ++ [(s.extract f k).data.toList]) :
    Sl.pieces (s.data.toList.take (k + 1)) = (o ++ [(s.extract f k).data.toList]) ++ [(s.extract (k + 1) (k + 1)).data.toList] := by
  rw [take_snoc s k hk, hb, Sl.pieces_cut, h, extract_list s (k + 1) (k + 1)]
  have : List.drop (k + 1) (List.take (k + 1) s.data.toList) = [] := List.drop_eq_nil_of_le (by rw [List.length_take]; omega)
  rw [this]
  rfl
/-- A byte more that is none. -/
theorem cut_byte (s : ByteArray) (f k : Nat) (o : List (List UInt8)) (hk : k < s.size) (hf : f ≤ k) (hb : s[k] ≠ 32) (h : Sl.pieces (s.data.toList.take k) = o ++ [(s.extract f k).data.toList]) :
    Sl.pieces (s.data.toList.take (k + 1)) = o ++ [(s.extract f (k + 1)).data.toList] := by
  rw [take_snoc s k hk, Sl.pieces_snoc s[k] hb _ _ _ h, extract_list, extract_list, take_snoc s k hk, List.drop_append_of_le_length (by rw [List.length_take, size_list]; omega)]

/-- Owned texts, read. -/
theorem owns_texts {w : World} {base : Nat} {v : Value} {n : Nat} {o : List (List UInt8)} (h : w.ownsRow base 9 1 v n (cellsT o)) (hn : o ≠ []) :
    ∃ b cap, v = .slice (some ⟨b, 0, none⟩) o.length cap ∧ o.length ≤ cap ∧ Texts w b 0 (o.map Sl.ofL) := by
  have hlen := h.1
  rw [cellsT_len, Nat.mul_one] at hlen
  subst hlen
  rcases h.2 with ⟨_, h0⟩ | ⟨g, cap, cur, rfl, _, hg, hc, _, _, ht⟩
  · exact absurd (List.length_eq_zero_iff.1 h0) hn
  · refine ⟨g, cap, rfl, hc, fun j hj => ?_⟩
    rw [Nat.zero_add, cell_of_row w g j cur _ _ hg]
    have hj2 : j < o.length := by simpa using hj
    have e1 : (cellsT o)[j]? = some (.string (o.map Sl.ofL)[j]) := by
      unfold cellsT
      rw [List.getElem?_map, List.getElem?_eq_getElem hj2, List.getElem_map]
      rfl
    rw [← ht, List.getElem?_take] at e1
    split at e1
    · simpa using e1
    · cases e1

set_option maxRecDepth 1000000 in
set_option maxHeartbeats 2000000 in
theorem refCut_any (s : ByteArray) (w : World) (hs : s.size ≤ 4000) :
    Calls Tryz.prog 144 #[.string s, .int .u8 32] w fun e w' => ∃ b cap, e = .returned (.slice (some ⟨b, 0, none⟩) (Sl.pieces s.data.toList).length cap) ∧ (Sl.pieces s.data.toList).length ≤ cap ∧ Texts w' b 0 ((Sl.pieces s.data.toList).map Sl.ofL) ∧ Below w.heap.size w w' := by
  obtain ⟨i0, hi, hz0, hz1, hz2⟩ := info_parts Tryz.infoString
  have HLen : Hid (∀ k, (Sl.pieces (s.data.toList.take k)).length ≤ 4001) := fun k => by
    have := pieces_len (s.data.toList.take k)
    rw [List.length_take, size_list] at this
    omega
  have h32 : (32 : UInt8).toNat = 32 := by decide
  go_enter Tryz.func144, Tryz.ntmps144
  go_wp2
  go_loopw [5, 6, 7] (fun v fr i wr => ∃ (k f : Nat) (o : List (List UInt8)), k ≤ s.size ∧ f ≤ k ∧ i = .int .i64 k ∧ fr = .int .i64 f ∧ wr.ownsRow w.heap.size 9 1 v o.length (cellsT o) ∧ Hid (Sl.pieces (s.data.toList.take k) = o ++ [(s.extract f k).data.toList]) ∧ Hid (Below w.heap.size w wr)) (fun _ _ i _ => s.size - (intOf i).toNat)
  case atStart => exact ⟨0, 0, [], Nat.zero_le _, Nat.le_refl _, rfl, rfl, World.ownsRow_nil _ _ _ _, (show Hid _ from by show _ = _; rw [extract_list]; rfl), Below.refl _ _⟩
  case round =>
    obtain ⟨k, f, o, hk, hf, rfl, rfl, hown, HPi, HB⟩ := hrel
    have Ho : Hid (o.length + 1 ≤ 4001) := by
      have := HLen.out k
      rw [HPi.out, List.length_append] at this
      exact this
    by_cases hlt : k < s.size
    · by_cases hb : s[k] = 32
      · have hq : ((s[k].toNat : Int) == 32) = true := by rw [hb]; decide
        have HN := hide (cut_blank s f k o hlt hb HPi.out)
        clear hb
        go_wp2_with (first
          | (at_builtin; refine wpList_append_own _ rfl _ _ 109 rfl w.heap.size 9 i0 (.string ByteArray.empty) 1 16 Tryz.underlying109 hi hz0 hz1 hz2 rfl (by decide) _ _ _ rfl (hown.alloc _) ⟨wr.heap.size, 0, none⟩ 1 1 [.string (s.extract f k)] rfl rfl ?c1 ?c2 ?c3 ?c4 ?c5 ?_))
        case c1 =>
          intro j u hj
          match j, hj with
          | 0, hj => simp at hj; subst hj; simp [Addr.add]
        case c2 => intro u hu; simp at hu; subst hu; rfl
        case c3 => have := Ho.out; unfold maxLen; omega
        case c4 => have := Ho.out; omega
        case c5 => have := HB.out.size; simp; omega
        · intro v' w1 hown' hgrow _
          have HB1 : Hid (Below w.heap.size w w1) := (HB.out.alloc HB.out.size _).grown hgrow (by have := HB.out.size; simp; omega) (fun g hg => (hown.lt g hg).1)
          rw [cellsT_snoc] at hown'
          clear hown hgrow HB
          go_wp2
          go_roundw
          case rel => exact ⟨k + 1, k + 1, o ++ [(s.extract f k).data.toList], by omega, Nat.le_refl _, by go_num, by go_num, by rw [List.length_append]; exact hown', HN, HB1⟩
          case measure => simp [intOf]; omega
      · have hq : ((s[k].toNat : Int) == 32) = false := by
          rw [beq_eq_false_iff_ne]
          intro e
          exact hb (UInt8.toNat_inj.1 (by omega))
        have HN := hide (cut_byte s f k o hlt hf hb HPi.out)
        clear hb
        go_wp2
        go_roundw
        case rel => exact ⟨k + 1, f, o, by omega, by omega, by go_num, rfl, hown, HN, HB⟩
        case measure => simp [intOf]; omega
    · have hks : k = s.size := by omega
      subst hks
      have HN : Hid (Sl.pieces s.data.toList = o ++ [(s.extract f s.size).data.toList]) := by
        have := HPi.out
        rwa [List.take_of_length_le (by rw [size_list]; exact Nat.le_refl _)] at this
      go_wp2_with (first
        | (at_builtin; refine wpList_append_own _ rfl _ _ 109 rfl w.heap.size 9 i0 (.string ByteArray.empty) 1 16 Tryz.underlying109 hi hz0 hz1 hz2 rfl (by decide) _ _ _ rfl (hown.alloc _) ⟨wr.heap.size, 0, none⟩ 1 1 [.string (s.extract f s.size)] rfl rfl ?c1 ?c2 ?c3 ?c4 ?c5 ?_))
      case c1 =>
        intro j u hj
        match j, hj with
        | 0, hj => simp at hj; subst hj; simp [Addr.add]
      case c2 => intro u hu; simp at hu; subst hu; rfl
      case c3 => have := Ho.out; unfold maxLen; omega
      case c4 => have := Ho.out; omega
      case c5 => have := HB.out.size; simp; omega
      · intro v' w1 hown' hgrow _
        have HB1 : Hid (Below w.heap.size w w1) := (HB.out.alloc HB.out.size _).grown hgrow (by have := HB.out.size; simp; omega) (fun g hg => (hown.lt g hg).1)
        rw [cellsT_snoc, ← HN.out] at hown'
        obtain ⟨b, cap, rfl, hcap, htx⟩ := owns_texts hown' (Sl.pieces_ne _)
        have HX := hide htx
        have HCap := hide hcap
        clear hown hown' hgrow HB htx hcap
        go_wp2
        go_ret
        exact ⟨b, cap, rfl, HCap.out, HX.out, HB1.out⟩
end Go.Proofs.YtgagekcjdapkfacGreatDoor

namespace Go.Proofs.YtgagekcjdapkfacGreatDoor
open Go.RowKit Go.Extern.Stop Go.Stop Go.Extern

theorem glue_append_le : ∀ (b a : List (List UInt8)), (Sl.glue a).length ≤ (Sl.glue (a ++ b)).length
  | [], a => by rw [List.append_nil]; exact Nat.le_refl _
  | x :: b, a => by
    have ih := glue_append_le b (a ++ [x])
    rw [List.append_assoc] at ih
    refine Nat.le_trans ?_ ih
    by_cases ha : a = []
    · subst ha
      show (Lib.join [] [32]).length ≤ _
      rw [Lib.join_nil]
      exact Nat.zero_le _
    · show (Lib.join a [32]).length ≤ (Lib.join (a ++ [x]) [32]).length
      rw [Sl.join_snoc x a ha, List.length_append]
      omega
theorem glue_take_le (ws : List (List UInt8)) (k : Nat) : (Sl.glue (ws.take k)).length ≤ (Sl.glue ws).length := by
  have := glue_append_le (ws.drop k) (ws.take k)
  rwa [List.take_append_drop] at this
theorem glue_next (xs : List ByteArray) (k : Nat) (hk : k < xs.length) :
    (k = 0 → Sl.ofL (Sl.glue ((toLs xs).take k)) ++ xs[k] = Sl.ofL (Sl.glue ((toLs xs).take (k + 1)))) ∧
    (k ≠ 0 → Sl.ofL (Sl.glue ((toLs xs).take k)) ++ ⟨#[32]⟩ ++ xs[k] = Sl.ofL (Sl.glue ((toLs xs).take (k + 1)))) := by
  have hkl : k < (toLs xs).length := by simpa using hk
  have ht : (toLs xs).take (k + 1) = (toLs xs).take k ++ [xs[k].data.toList] := by
    rw [List.take_succ_eq_append_getElem hkl, List.getElem_map]
  refine ⟨fun h => ?_, fun h => ?_⟩
  · refine Sl.ba_ext ?_
    rw [ba_toList, Sl.toL_ofL, Sl.toL_ofL, ht]
    subst h
    show Lib.join [] [32] ++ _ = Lib.join ([] ++ [xs[0].data.toList]) [32]
    rw [List.nil_append, Lib.join_one, Lib.join_nil]
    rfl
  · refine Sl.ba_ext ?_
    rw [ba_toList, ba_toList, Sl.toL_ofL, Sl.toL_ofL, ht]
    have hne : (toLs xs).take k ≠ [] := by
      intro e
      have := congrArg List.length e
      rw [List.length_take, List.length_nil] at this
      omega
    show _ = Lib.join ((toLs xs).take k ++ [xs[k].data.toList]) [32]
    rw [Sl.join_snoc _ _ hne]
    simp
theorem text_le (xs : List ByteArray) (k : Nat) (hk : k < xs.length) : xs[k].size ≤ (Sl.glue (toLs xs)).length := by
  have h1 := glue_take_le (toLs xs) (k + 1)
  obtain ⟨a, b⟩ := glue_next xs k hk
  by_cases h0 : k = 0
  · have := congrArg ByteArray.size (a h0)
    rw [ByteArray.size_append, Sl.ofL_size, Sl.ofL_size] at this
    omega
  · have := congrArg ByteArray.size (b h0)
    rw [ByteArray.size_append, ByteArray.size_append, Sl.ofL_size, Sl.ofL_size] at this
    omega

set_option maxRecDepth 100000 in
set_option maxHeartbeats 1000000 in
theorem refGlue_any (xs : List ByteArray) (b o n c : Nat) (w : World) (hl : xs.length = n) (hn : n ≤ 100000) (hx : Texts w b o xs) (hg : (Sl.glue (toLs xs)).length ≤ 6000) :
    Calls Tryz.prog 106 #[.slice (some ⟨b, o, none⟩) n c, .string ⟨#[32]⟩] w fun e w' => e = .returned (.string (Sl.ofL (Sl.glue (toLs xs)))) ∧ w' = w := by
  have HX := hide hx
  have HL := hide hl
  have HG := hide hg
  clear hx hl hg
  go_enter Tryz.func106, Tryz.ntmps106
  go_wp2
  go_loop [5, 6] (fun sv i => ∃ k : Nat, k ≤ n ∧ i = .int .i64 k ∧ sv = .string (Sl.ofL (Sl.glue ((toLs xs).take k)))) (fun _ i => n - (intOf i).toNat)
  case atStart => exact ⟨0, Nat.zero_le _, rfl, rfl⟩
  case round =>
    obtain ⟨k, hk, rfl, rfl⟩ := hrel
    by_cases hlt : k < n
    · have hkl : k < xs.length := by rw [HL.out]; exact hlt
      have hcell := HX.out k hkl
      have hsz : (Sl.ofL (Sl.glue ((toLs xs).take k))).size ≤ 6000 := by rw [Sl.ofL_size]; exact Nat.le_trans (glue_take_le _ _) HG.out
      have hyz : xs[k].size ≤ 6000 := Nat.le_trans (text_le xs k hkl) HG.out
      have HN := hide (glue_next xs k hkl)
      generalize Sl.ofL (Sl.glue ((toLs xs).take k)) = g at *
      generalize xs[k] = y at *
      by_cases h0 : k = 0
      · subst h0
        have HN0 := hide (HN.out.1 rfl)
        rw [Nat.add_zero] at hcell
        clear HN
        go_wp2
        go_round
        case rel => exact ⟨1, by omega, rfl, by rw [← HN0.out]⟩
        case measure => simp [intOf]; omega
      · have HN0 := hide (HN.out.2 h0)
        have h0' : (0 : Int) < (k : Int) := by omega
        clear HN
        go_wp2
        go_round
        case rel => exact ⟨k + 1, by omega, by go_num, by rw [← HN0.out]⟩
        case measure => simp [intOf]; omega
    · have hkn : (toLs xs).take k = toLs xs := List.take_of_length_le (by rw [List.length_map, HL.out]; omega)
      rw [hkn]
      clear hkn
      go_wp2
      go_ret
      exact ⟨rfl, rfl⟩
end Go.Proofs.YtgagekcjdapkfacGreatDoor

namespace Go.Proofs.YtgagekcjdapkfacGreatDoor
open Go.RowKit Go.Extern.Stop Go.Stop Go.Extern

/-- A text's pieces: its words and what stands last. -/
theorem pieces_look (l : List UInt8) : Sl.pieces l = Sl.lookW l ++ [Sl.lastP l] := by
  unfold Sl.lookW Sl.lastP
  rw [List.getLastD_eq_getLast?, List.getLast?_eq_some_getLast (Sl.pieces_ne l)]
  exact (List.dropLast_concat_getLast (Sl.pieces_ne l)).symm

/-- What LookAt answers. -/
def LookPost (l : List UInt8) (e : Ending) (w' : World) : Prop :=
  if Sl.lookE l = 0 then ∃ b cap, Texts w' b 0 ((Sl.lookW l).map Sl.ofL) ∧ (Sl.lookW l).length ≤ cap ∧ e = .returned (.tuple #[.slice (some ⟨b, 0, none⟩) (Sl.lookW l).length cap, .int .i64 (Sl.lookN l), .int .i64 0])
  else e = .returned (.tuple #[.slice none 0 0, .int .i64 0, .int .i64 (Sl.lookE l)])
theorem lookP_no (l : List UInt8) (e : Ending) (w' : World) (c : Nat) (hc : Sl.lookE l = c) (h : c ≠ 0) (he : e = .returned (.tuple #[.slice none 0 0, .int .i64 0, .int .i64 c])) : LookPost l e w' := by
  unfold LookPost
  rw [hc, if_neg h]
  exact he
theorem lookP_yes (l : List UInt8) (e : Ending) (w' : World) (hc : Sl.lookE l = 0) (b cap : Nat) (hx : Texts w' b 0 ((Sl.lookW l).map Sl.ofL)) (hcap : (Sl.lookW l).length ≤ cap) (he : e = .returned (.tuple #[.slice (some ⟨b, 0, none⟩) (Sl.lookW l).length cap, .int .i64 (Sl.lookN l), .int .i64 0])) : LookPost l e w' := by
  unfold LookPost
  rw [if_pos hc]
  exact ⟨b, cap, hx, hcap, he⟩

theorem lookE_bad (l : List UInt8) (h : l.length ≤ 4000) (hb : Sl.lookOk l = false) : Sl.lookE l = 1 := by
  unfold Sl.lookE
  rw [if_neg (by omega), hb]
  rfl
theorem lookOk_split (l : List UInt8) : Sl.lookOk l = (numB (Sl.lastP l) 1000000006 && Sl.wordsOk (Sl.lookW l)) := by
  unfold Sl.lookOk numB
  congr 2
  rw [decide_eq_decide]; omega

/-- The texts of words and one behind them. -/
theorem texts_split {w : World} {b : Nat} {ws : List (List UInt8)} {tl : List UInt8} (h : Texts w b 0 ((ws ++ [tl]).map Sl.ofL)) :
    (∀ j (hj : j < ws.length), w.cell? ⟨b, j, none⟩ = some (.string (Sl.ofL ws[j]))) ∧ w.cell? ⟨b, ws.length, none⟩ = some (.string (Sl.ofL tl)) ∧ Texts w b 0 (ws.map Sl.ofL) := by
  have hlen : ((ws ++ [tl]).map Sl.ofL).length = ws.length + 1 := by simp
  have h1 : ∀ j (hj : j < ws.length), w.cell? ⟨b, j, none⟩ = some (.string (Sl.ofL ws[j])) := fun j hj => by
    have := h j (by omega)
    rw [Nat.zero_add] at this
    rw [this, List.getElem_map, List.getElem_append_left hj]
  refine ⟨h1, ?_, fun j hj => ?_⟩
  · have := h ws.length (by omega)
    rw [Nat.zero_add] at this
    rw [this, List.getElem_map, List.getElem_append_right (Nat.le_refl _)]
    simp
  · rw [Nat.zero_add, h1 j (by simpa using hj), List.getElem_map]

set_option maxRecDepth 100000 in
set_option maxHeartbeats 2000000 in
theorem refLook_any (s : ByteArray) (w : World) (hs : s.size ≤ maxLen) :
    Calls Tryz.prog 110 #[.string s] w fun e w' => Below w.heap.size w w' ∧ LookPost s.data.toList e w' := by
  by_cases h4 : 4000 < s.size
  · have HE : Hid (Sl.lookE s.data.toList = 2) := by show _ = _; unfold Sl.lookE; rw [size_list, if_pos h4]
    unfold maxLen at hs
    go_enter Tryz.func110, Tryz.ntmps110
    go_wp2
    go_ret3
    exact ⟨Below.refl _ _, lookP_no _ _ _ 2 HE.out (by decide) rfl⟩
  · have HC := hide (refCut_any s w (by omega))
    have hlen : s.data.toList.length ≤ 4000 := by rw [size_list]; omega
    have HBad := hide (lookE_bad s.data.toList hlen)
    have HOk : Hid (Sl.lookOk s.data.toList = true → Sl.lookE s.data.toList = 0) := fun h => by unfold Sl.lookE; rw [if_neg (by omega), if_pos h]
    have HSp := hide (lookOk_split s.data.toList)
    have hp := pieces_look s.data.toList
    have HSz : Hid (∀ l ∈ Sl.pieces s.data.toList, (Sl.ofL l).size ≤ maxLen) := fun l hl => by
      have := pieces_part _ l hl
      rw [Sl.ofL_size]
      unfold maxLen; omega
    rw [hp] at HC HSz
    have HNv : Hid (Sl.lookN s.data.toList = Sl.valL (Sl.lastP s.data.toList)) := rfl
    have HLn : Hid ((Sl.lookW s.data.toList ++ [Sl.lastP s.data.toList]).length ≤ 4001) := by
      have := pieces_len s.data.toList
      rw [hp] at this
      show _ ≤ _
      omega
    clear hp hlen hs
    have HWs : Hid (Sl.lookW s.data.toList = Sl.lookW s.data.toList) := rfl
    generalize hl : s.data.toList = l at *
    clear hl HWs
    generalize hws : Sl.lookW l = ws at *
    generalize htl : Sl.lastP l = tl at *
    have HWs := hide hws
    have HTl := hide htl
    clear hws htl
    have hn1 : (ws ++ [tl]).length = ws.length + 1 := by simp
    rw [hn1] at HC HLn
    have hn2 : ws.length ≤ 4000 := by have := HLn.out; omega
    clear hn1 HLn
    go_enter Tryz.func110, Tryz.ntmps110
    go_wp2_with fail
    refine HC.out.mono ?_
    rintro e w1 ⟨b, cap, rfl, hcap, htx, hb⟩
    have HB := hide hb
    obtain ⟨hc1, hc2, hc3⟩ := texts_split htx
    have HC1 := hide hc1
    have HX := hide hc3
    clear hb htx hc1 hc3 HC
    by_cases hcnt : 1 ≤ ws.length ∧ ws.length ≤ 10
    · obtain ⟨hn3, hn4⟩ := hcnt
      have HNu := hide (fun w => refNumber_any (Sl.ofL tl) 1000000006 w (HSz.out tl (by simp)))
      rw [Sl.toL_ofL] at HNu
      cases hnb : numB tl 1000000006 with
      | false =>
        have HE : Hid (Sl.lookE l = 1) := HBad.out (by rw [HSp.out, hnb]; rfl)
        rw [numI_no _ _ hnb] at HNu
        clear hnb
        go_wp2_with fail
        refine (HNu.out _).mono ?_
        rintro e w2 ⟨rfl, rfl⟩
        go_wp2
        go_ret3
        exact ⟨HB.out, lookP_no _ _ _ 1 HE.out (by decide) rfl⟩
      | true =>
        have hv : numI tl 1000000006 = (Sl.valL tl : Int) := by unfold numI; rw [if_pos hnb]
        rw [hv] at HNu
        have HNB := hide hnb
        have HV : Hid ((Sl.lookN l : Int) = (Sl.valL tl : Int)) := by show _ = _; rw [HNv.out]
        have hv0 : (0 : Int) ≤ (Sl.valL tl : Int) := by omega
        clear hnb hv
        generalize (Sl.valL tl : Int) = v at *
        go_wp2_with fail
        refine (HNu.out _).mono ?_
        rintro e w2 ⟨rfl, rfl⟩
        clear HNu
        go_wp2
        go_loop [8] (fun i => ∃ k : Nat, k ≤ ws.length ∧ i = .int .i64 k ∧ Hid (∀ j (hj : j < ws.length), j < k → Sl.wordL ws[j] = true)) (fun i => ws.length - (intOf i).toNat)
        case atStart => exact ⟨0, Nat.zero_le _, rfl, fun j _ hj => absurd hj (Nat.not_lt_zero _)⟩
        case round =>
          obtain ⟨k, hk, rfl, A⟩ := hrel
          by_cases hlt : k < ws.length
          · have hcell := HC1.out k hlt
            have HW := hide (fun w => refWord_any (Sl.ofL ws[k]) w (HSz.out ws[k] (by simp)))
            rw [Sl.toL_ofL] at HW
            cases hwd : Sl.wordL ws[k] with
            | true =>
              rw [hwd] at HW
              have HWD := hide hwd
              clear hwd
              generalize Sl.ofL ws[k] = y at *
              go_wp2_with fail
              refine (HW.out _).mono ?_
              rintro e w3 ⟨rfl, rfl⟩
              go_wp2
              go_round
              case rel =>
                refine ⟨k + 1, by omega, by go_num, (show Hid _ from fun j hj hjk => ?_)⟩
                by_cases e : j = k
                · subst e; exact HWD.out
                · exact A.out j hj (by omega)
              case measure => simp [intOf]; omega
            | false =>
              rw [hwd] at HW
              have HE : Hid (Sl.lookE l = 1) := HBad.out (by
                rw [HSp.out, HNB.out]
                have : ws.all Sl.wordL = false := by
                  rw [List.all_eq_false]
                  exact ⟨ws[k], List.getElem_mem _, by rw [hwd]; decide⟩
                unfold Sl.wordsOk
                rw [this, Bool.and_false]
                rfl)
              clear hwd
              generalize Sl.ofL ws[k] = y at *
              go_wp2_with fail
              refine (HW.out _).mono ?_
              rintro e w3 ⟨rfl, rfl⟩
              go_wp2
              go_ret3
              exact ⟨HB.out, lookP_no _ _ _ 1 HE.out (by decide) rfl⟩
          · have hkk : k = ws.length := by omega
            subst hkk
            have HE : Hid (Sl.lookE l = 0) := HOk.out (by
              rw [HSp.out, HNB.out]
              unfold Sl.wordsOk
              rw [decide_eq_true (And.intro hn3 hn4), show ws.all Sl.wordL = true by
                rw [List.all_eq_true]
                intro x hx
                obtain ⟨j, hj, rfl⟩ := List.getElem_of_mem hx
                exact A.out j hj hj]
              rfl)
            go_wp2
            go_ret3
            refine ⟨HB.out, lookP_yes _ _ _ HE.out b cap (by rw [HWs.out]; exact HX.out) (by rw [HWs.out]; omega) ?_⟩
            rw [HWs.out, HV.out]
            rfl
    · have HE : Hid (Sl.lookE l = 1) := HBad.out (by
        rw [HSp.out]
        unfold Sl.wordsOk
        rw [decide_eq_false hcnt]
        simp)
      by_cases h0 : ws.length < 1
      · go_wp2
        go_ret3
        exact ⟨HB.out, lookP_no _ _ _ 1 HE.out (by decide) rfl⟩
      · have h11 : 10 < ws.length := by omega
        clear hcnt
        go_wp2
        go_ret3
        exact ⟨HB.out, lookP_no _ _ _ 1 HE.out (by decide) rfl⟩
end Go.Proofs.YtgagekcjdapkfacGreatDoor

namespace Go.Proofs.YtgagekcjdapkfacGreatDoor
open Go.RowKit Go.Extern.Stop Go.Stop Go.Extern

theorem toLs_map (ws : List (List UInt8)) : toLs (ws.map Sl.ofL) = ws := by
  unfold toLs
  rw [List.map_map]
  conv => rhs; rw [← List.map_id ws]
  exact List.map_congr_left fun l _ => rfl

/-- What Unseal answers. -/
def UnsealPost (c : Nat) (ws : List (List UInt8)) (e : Ending) (w' : World) : Prop :=
  if c = 0 then ∃ b cap, Texts w' b 0 (ws.map Sl.ofL) ∧ ws.length ≤ cap ∧ e = .returned (.tuple #[.slice (some ⟨b, 0, none⟩) ws.length cap, .int .i64 0])
  else e = .returned (.tuple #[.slice none 0 0, .int .i64 c])
theorem unseal_no (c : Nat) (ws : List (List UInt8)) (e : Ending) (w' : World) (d : Nat) (hd : c = d) (h : d ≠ 0) (he : e = .returned (.tuple #[.slice none 0 0, .int .i64 d])) : UnsealPost c ws e w' := by
  unfold UnsealPost
  rw [hd, if_neg h]
  exact he
theorem unseal_yes (c : Nat) (ws : List (List UInt8)) (e : Ending) (w' : World) (hc : c = 0) (b cap : Nat) (hx : Texts w' b 0 (ws.map Sl.ofL)) (hcap : ws.length ≤ cap) (he : e = .returned (.tuple #[.slice (some ⟨b, 0, none⟩) ws.length cap, .int .i64 0])) : UnsealPost c ws e w' := by
  unfold UnsealPost
  rw [if_pos hc]
  exact ⟨b, cap, hx, hcap, he⟩

theorem glue_small (l : List UInt8) (h : Sl.lookE l = 0) : (Sl.glue (Sl.lookW l)).length ≤ 6000 ∧ (Sl.lookW l).length ≤ 10 := by
  have hok := Sl.lookE_ok l h
  obtain ⟨a, e1, _, e3, _⟩ := Sl.look_glue l hok
  have hle : l.length ≤ 4000 := by
    unfold Sl.lookE at h
    split at h
    · cases h
    · omega
  refine ⟨?_, ((Sl.wordsOk_iff _).1 (Sl.lookOk_words l hok)).1.2⟩
  rw [e3]
  rw [e1] at hle
  simp only [List.length_append, List.length_cons] at hle
  omega

set_option maxRecDepth 100000 in
set_option maxHeartbeats 2000000 in
theorem refUnseal_any (key : Int) (s : ByteArray) (w : World) (hs : s.size ≤ maxLen) :
    Calls Tryz.prog 74 #[.int .i64 key, .string s] w fun e w' => Below w.heap.size w w' ∧ UnsealPost (Sl.openE key s.data.toList) (Sl.lookW s.data.toList) e w' := by
  have HK := hide (fun w => refKey_any key w)
  by_cases hk : 1 ≤ key ∧ key ≤ 1000000006
  · rw [decide_eq_true hk] at HK
    have HL := hide (fun w => refLook_any s w hs)
    have HKk := hide hk
    clear hk hs
    generalize s.data.toList = l at *
    go_enter Tryz.func74, Tryz.ntmps74
    go_wp2_with fail
    refine (HK.out _).mono ?_
    rintro e w1 ⟨rfl, rfl⟩
    go_wp2_with fail
    refine (HL.out _).mono ?_
    rintro e w2 ⟨hb, hp⟩
    have HB := hide hb
    clear hb HL HK
    unfold LookPost at hp
    by_cases h0 : Sl.lookE l = 0
    · rw [if_pos h0] at hp
      obtain ⟨b, cap, hx, hcap, rfl⟩ := hp
      obtain ⟨hg, hg10⟩ := glue_small l h0
      have HO : Hid (Sl.openE key l = if Mk.mk key key (Sl.glue (Sl.lookW l)) = (Sl.lookN l : Int) then 0 else 9) := by show _ = _; unfold Sl.openE; rw [if_pos HKk.out, if_pos h0]
      have HG := hide (fun w hx => refGlue_any ((Sl.lookW l).map Sl.ofL) b 0 (Sl.lookW l).length cap w (by simp) (by omega) hx (by rw [toLs_map]; exact hg))
      rw [toLs_map] at HG
      have HM := hide (fun w => refError_any key (Sl.ofL (Sl.glue (Sl.lookW l))) (Sl.lookN l) w (by rw [Sl.ofL_size]; unfold maxLen; omega))
      have Hre : Hid (rightE key (Sl.ofL (Sl.glue (Sl.lookW l))).data.toList (Sl.lookN l) = Sl.openE key l) := by
        show _ = _
        unfold rightE
        rw [if_pos HKk.out, HO.out]
        rfl
      rw [Hre.out] at HM
      have HX := hide hx
      have HCap := hide hcap
      have Hcase : Hid (Sl.openE key l = 0 ∨ Sl.openE key l = 9) := by
        show _ ∨ _
        rw [HO.out]
        by_cases g : Mk.mk key key (Sl.glue (Sl.lookW l)) = (Sl.lookN l : Int)
        · rw [if_pos g]; exact Or.inl rfl
        · rw [if_neg g]; exact Or.inr rfl
      clear hx hcap h0 hg HO Hre
      generalize hlw : (Sl.lookW l).length = n at *
      have HLn := hide hlw
      clear hlw
      generalize Sl.ofL (Sl.glue (Sl.lookW l)) = g at *
      generalize (Sl.lookN l : Int) = v at *
      generalize hoe : Sl.openE key l = c at *
      have HOE := hide hoe
      clear hoe
      go_wp2_with fail
      refine (HG.out _ HX.out).mono ?_
      rintro e w3 ⟨rfl, rfl⟩
      go_wp2_with fail
      refine (HM.out _).mono ?_
      rintro e w4 ⟨rfl, rfl⟩
      clear HG HM
      rcases Hcase.out with rfl | rfl
      · go_wp2
        go_ret2
        exact ⟨HB.out, unseal_yes _ _ _ _ HOE.out b cap HX.out (by rw [HLn.out]; exact HCap.out) (by rw [HLn.out]; rfl)⟩
      · go_wp2
        go_ret2
        exact ⟨HB.out, unseal_no _ _ _ _ 9 HOE.out (by decide) rfl⟩
    · rw [if_neg h0] at hp
      subst hp
      have HO : Hid (Sl.openE key l = Sl.lookE l) := by show _ = _; unfold Sl.openE; rw [if_pos HKk.out, if_neg h0]
      have H0 := hide h0
      have hq : ((Sl.lookE l : Int) == 0) = false := by rw [beq_eq_false_iff_ne]; omega
      have hq2 : (0 : Int) < (Sl.lookE l : Int) := by omega
      clear h0
      generalize hle : Sl.lookE l = c at *
      clear hle
      go_wp2
      go_ret2
      exact ⟨HB.out, unseal_no _ _ _ _ c HO.out H0.out rfl⟩
  · rw [decide_eq_false hk] at HK
    have HO := hide (openE_key key s.data.toList hk)
    clear hk hs
    go_enter Tryz.func74, Tryz.ntmps74
    go_wp2_with fail
    refine (HK.out _).mono ?_
    rintro e w1 ⟨rfl, rfl⟩
    go_wp2
    go_ret2
    exact ⟨Below.refl _ _, unseal_no _ _ _ _ 10 HO.out (by decide) rfl⟩

/-! ### Faults -/
theorem refBare_any (c : Int) (w : World) :
    Calls Tryz.prog 67 #[.int .i64 c] w fun e w' => e = .returned (.agg #[.int .i64 c, .int .i64 (-1)]) ∧ Below w.heap.size w w' := by
  go_enter Tryz.func67, Tryz.ntmps67
  go_wp2
  refine bodyPost_ret (results_cell_row rfl _ _ w.heap.size _ _ _ _ rfl (heap_alloc_new _ _) Tryz.underlying49 rfl (by kernel_rfl)) rfl ?_
  exact ⟨rfl, (Below.refl _ _).alloc (Nat.le_refl _) _⟩
theorem refFine_any (w : World) :
    Calls Tryz.prog 69 #[] w fun e w' => e = .returned (.agg #[.int .i64 0, .int .i64 (-1)]) ∧ Below w.heap.size w w' := by
  go_enter Tryz.func69, Tryz.ntmps69
  go_wp2
  refine bodyPost_ret (results_cell_row rfl _ _ w.heap.size _ _ _ _ rfl (heap_alloc_new _ _) Tryz.underlying49 rfl (by kernel_rfl)) rfl ?_
  exact ⟨rfl, (Below.refl _ _).alloc (Nat.le_refl _) _⟩

end Go.Proofs.YtgagekcjdapkfacGreatDoor

namespace Go.Proofs.YtgagekcjdapkfacGreatDoor
open Go.RowKit Go.Extern.Stop Go.Stop Go.Extern

theorem results_tmp_row {P : Program} {fn : Func} {p u : Tmp} {ty : TypeId} (h : fn.results = #[.tmp u, .cell p ty]) (tmps : Array Value) (w : World) (g : Nat) (t : TypeId) (cs : Array Value) (fr : Nat × Nat) (d : TypeDesc)
    (hp : tmps.getD p undef = .pointer (some ⟨g, 0, none⟩)) (hg : w.heap[g]? = some (.cells cs t fr))
    (hu : P.underlying ty = some d) (hd : (match d with | .struct _ | .array _ _ => true | _ => false) = true) (hi : (P.info? ty).map (·.size) = some cs.size) :
    (results fn tmps).run P w = .ok (.tuple #[tmps.getD u undef, .agg cs]) w := by
  have hp' : tmps[p]?.getD undef = .pointer (some ⟨g, 0, none⟩) := by simpa using hp
  simp [results, h, hp', asAddr, run_loadVar_row w g t ty cs fr d hg hu hd hi]
theorem sealOfEnd {a : Act} {w : World} {R : Ending → World → Prop} (g : Nat) (cs : Array Value) (hp : a.tmps.getD 5 undef = .pointer (some ⟨g, 0, none⟩)) (hg : w.heap[g]? = some (.cells cs 49 (0, 0))) (hn : cs.size = 2) (hd : a.defers = [])
    (hR : R (.returned (.tuple #[a.tmps.getD 4 undef, .agg cs])) w) : bodyPost Tryz.prog Tryz.f71 R .ret a w :=
  bodyPost_ret (results_tmp_row rfl a.tmps w g _ cs (0, 0) _ hp hg Tryz.underlying49 rfl (by rw [hn]; kernel_rfl)) hd hR
theorem row_set2 {w : World} {g : Nat} {t : TypeId} {x y : Value} (h : w.heap[g]? = some (.cells #[x, y] t (0, 0))) (a b : Value) :
    ((w.setCell ⟨g, 0, none⟩ a).setCell ⟨g, 1, none⟩ b).heap[g]? = some (.cells #[a, b] t (0, 0)) := by
  have h1 := heap_setCell_same w g 0 _ t a h
  exact heap_setCell_same _ g 1 _ t b h1
theorem row_cells2 {w : World} {g : Nat} {t : TypeId} {x y : Value} (h : w.heap[g]? = some (.cells #[x, y] t (0, 0))) :
    w.cell? ⟨g, 0, none⟩ = some x ∧ w.cell? ⟨g, 1, none⟩ = some y ∧ w.frozen? ⟨g, 0, none⟩ = false ∧ w.frozen? ⟨g, 1, none⟩ = false :=
  ⟨cell_of_row w g 0 _ t _ h, cell_of_row w g 1 _ t _ h, frozen_of_row w g 0 _ t h, frozen_of_row w g 1 _ t h⟩

/-- The block of SealOf's fault, new. -/
abbrev fault0 : Obj := .cells #[.int .i64 0, .int .i64 0] 49

set_option maxRecDepth 100000 in
set_option maxHeartbeats 1000000 in
theorem sealOf_key (key : Int) (v : Value) (w : World) (hk : ¬ (1 ≤ key ∧ key ≤ 1000000006)) :
    Calls Tryz.prog 71 #[.int .i64 key, v] w fun e w' => e = .returned (.tuple #[.string ⟨#[]⟩, .agg #[.int .i64 10, .int .i64 (-1)]]) ∧ Below w.heap.size w w' := by
  have HK := hide (fun w => refKey_any key w)
  rw [decide_eq_false hk] at HK
  have HBr := hide (fun w => refBare_any 10 w)
  clear hk
  go_enter Tryz.func71, Tryz.ntmps71
  go_wp2_with fail
  refine (HK.out _).mono ?_
  rintro e w1 ⟨rfl, rfl⟩
  go_wp2_with fail
  refine (HBr.out _).mono ?_
  rintro e w2 ⟨rfl, hb⟩
  have HR : Hid (w2.heap[w.heap.size]? = some (.cells #[.int .i64 0, .int .i64 0] 49 (0, 0))) := by show _ = _; rw [hb.block _ (by simp)]; exact heap_alloc_new _ _
  have HB : Hid (Below w.heap.size w w2) := ((Below.refl _ w).alloc (Nat.le_refl _) _).trans (hb.mono (by simp))
  obtain ⟨hc0, hc1, hf0, hf1⟩ := row_cells2 HR.out
  clear hb
  go_wp2
  refine sealOfEnd w.heap.size _ rfl (row_set2 HR.out _ _) rfl rfl ?_
  exact ⟨rfl, (HB.out.setCell (Nat.le_refl _) _).setCell (Nat.le_refl _) _⟩

set_option maxRecDepth 100000 in
set_option maxHeartbeats 1000000 in
theorem sealOf_count (key : Int) (ad : Option Addr) (n c : Nat) (w : World) (hk : 1 ≤ key ∧ key ≤ 1000000006) (hn : ¬ (1 ≤ n ∧ n ≤ 10)) :
    Calls Tryz.prog 71 #[.int .i64 key, .slice ad n c] w fun e w' => e = .returned (.tuple #[.string ⟨#[]⟩, .agg #[.int .i64 3, .int .i64 (-1)]]) ∧ Below w.heap.size w w' := by
  have HK := hide (fun w => refKey_any key w)
  rw [decide_eq_true hk] at HK
  have HBr := hide (fun w => refBare_any 3 w)
  have hn2 : n < 1 ∨ (1 ≤ n ∧ 10 < n) := by omega
  clear hk hn
  rcases hn2 with hn | ⟨hn, hn3⟩
  all_goals
    go_enter Tryz.func71, Tryz.ntmps71
    go_wp2_with fail
    refine (HK.out _).mono ?_
    rintro e w1 ⟨rfl, rfl⟩
    go_wp2_with fail
    refine (HBr.out _).mono ?_
    rintro e w2 ⟨rfl, hb⟩
    have HR : Hid (w2.heap[w.heap.size]? = some (.cells #[.int .i64 0, .int .i64 0] 49 (0, 0))) := by show _ = _; rw [hb.block _ (by simp)]; exact heap_alloc_new _ _
    have HB : Hid (Below w.heap.size w w2) := ((Below.refl _ w).alloc (Nat.le_refl _) _).trans (hb.mono (by simp))
    obtain ⟨hc0, hc1, hf0, hf1⟩ := row_cells2 HR.out
    clear hb
    go_wp2
    refine sealOfEnd w.heap.size _ rfl (row_set2 HR.out _ _) rfl rfl ?_
    exact ⟨rfl, (HB.out.setCell (Nat.le_refl _) _).setCell (Nat.le_refl _) _⟩

set_option maxRecDepth 100000 in
set_option maxHeartbeats 1000000 in
theorem sealOf_wrong (key : Int) (b o n c : Nat) (xs : List ByteArray) (w : World) (hk : 1 ≤ key ∧ key ≤ 1000000006) (hn : 1 ≤ n ∧ n ≤ 10) (hx : Texts w b o xs) (hl : xs.length = n) (hs : ∀ x ∈ xs, x.size ≤ maxLen) (z : Nat) (hz : z < xs.length) (hw : Sl.wordL xs[z].data.toList = false) (hbef : ∀ j (hj : j < xs.length), j < z → Sl.wordL xs[j].data.toList = true) :
    Calls Tryz.prog 71 #[.int .i64 key, .slice (some ⟨b, o, none⟩) n c] w fun e w' => e = .returned (.tuple #[.string ⟨#[]⟩, .agg #[.int .i64 1, .int .i64 z]]) ∧ Below w.heap.size w w' := by
  have HK := hide (fun w => refKey_any key w)
  rw [decide_eq_true hk] at HK
  have HX : Hid (Texts (w.alloc fault0) b o xs) := hx.below ((Below.refl _ w).alloc (Nat.le_refl _) _)
  have HB0 : Hid (Below w.heap.size w (w.alloc fault0)) := (Below.refl _ w).alloc (Nat.le_refl _) _
  have HR0 : Hid ((w.alloc fault0).heap[w.heap.size]? = some (.cells #[.int .i64 0, .int .i64 0] 49 (0, 0))) := heap_alloc_new _ _
  have HS := hide hs
  have HL := hide hl
  have HW := hide hw
  have HBe := hide hbef
  have hzn : z < n := by omega
  obtain ⟨hn1, hn2⟩ := hn
  clear hx hl hs hw hbef hk
  go_enter Tryz.func71, Tryz.ntmps71
  go_wp2_with fail
  refine (HK.out _).mono ?_
  rintro e w1 ⟨rfl, rfl⟩
  clear HK
  go_wp2
  generalize w.alloc (.cells #[.int .i64 0, .int .i64 0] 49) = w0 at *
  go_loop [7] (fun i => ∃ k : Nat, k ≤ z ∧ i = .int .i64 k) (fun i => z - (intOf i).toNat)
  case atStart => exact ⟨0, Nat.zero_le _, rfl⟩
  case round =>
    obtain ⟨k, hk, rfl⟩ := hrel
    have hkn : k < n := by omega
    have hkl : k < xs.length := by rw [HL.out]; exact hkn
    have hcell := HX.out k hkl
    have HWd := hide (fun w => refWord_any xs[k] w (HS.out _ (List.getElem_mem _)))
    by_cases hkz : k = z
    · subst hkz
      rw [HW.out] at HWd
      generalize xs[k] = y at hcell HWd
      obtain ⟨hc0, hc1, hf0, hf1⟩ := row_cells2 HR0.out
      go_wp2_with fail
      refine (HWd.out _).mono ?_
      rintro e w3 ⟨rfl, rfl⟩
      go_wp2
      refine sealOfEnd w.heap.size _ rfl (row_set2 HR0.out _ _) rfl rfl ?_
      exact ⟨rfl, (HB0.out.setCell (Nat.le_refl _) _).setCell (Nat.le_refl _) _⟩
    · rw [HBe.out k hkl (by omega)] at HWd
      generalize xs[k] = y at hcell HWd
      go_wp2_with fail
      refine (HWd.out _).mono ?_
      rintro e w3 ⟨rfl, rfl⟩
      go_wp2
      go_round
      case rel => exact ⟨k + 1, by omega, by go_num⟩
      case measure => simp [intOf]; omega

set_option maxRecDepth 100000 in
set_option maxHeartbeats 2000000 in
theorem sealOf_ok (key : Int) (b o n c : Nat) (xs : List ByteArray) (w : World) (hk : 1 ≤ key ∧ key ≤ 1000000006) (hx : Texts w b o xs) (hl : xs.length = n) (hw : Sl.wordsOk (toLs xs) = true) :
    Calls Tryz.prog 71 #[.int .i64 key, .slice (some ⟨b, o, none⟩) n c] w fun e w' => e = .returned (.tuple #[.string (Sl.ofL (Sl.sealL key (toLs xs))), .agg #[.int .i64 0, .int .i64 (-1)]]) ∧ Below w.heap.size w w' := by
  have HK := hide (fun w => refKey_any key w)
  rw [decide_eq_true hk] at HK
  obtain ⟨⟨h1, h10⟩, hall⟩ := (Sl.wordsOk_iff _).1 hw
  rw [List.length_map, hl] at h1 h10
  have hone : ∀ x ∈ xs, Sl.wordL x.data.toList = true := fun x hm => hall _ (List.mem_map.2 ⟨x, hm, rfl⟩)
  have HX : Hid (Texts (w.alloc fault0) b o xs) := hx.below ((Below.refl _ w).alloc (Nat.le_refl _) _)
  have HB0 : Hid (Below w.heap.size w (w.alloc fault0)) := (Below.refl _ w).alloc (Nat.le_refl _) _
  have HR0 : Hid ((w.alloc fault0).heap[w.heap.size]? = some (.cells #[.int .i64 0, .int .i64 0] 49 (0, 0))) := heap_alloc_new _ _
  have HT0 : Hid (w.heap.size < (w.alloc fault0).heap.size) := by show _ < _; simp
  have HOne := hide hone
  have hgl : (Sl.glue (toLs xs)).length ≤ 210 := by
    have := Sl.glue_len 20 (toLs xs) (fun l hm => (Sl.word_len l (hall l hm)).2)
    rw [List.length_map, hl] at this
    omega
  have HG := hide (fun w hx => refGlue_any xs b o n c w hl (by omega) hx (by omega))
  have HM := hide (fun w => refOf_any key (Sl.ofL (Sl.glue (toLs xs))) w (by rw [Sl.ofL_size]; unfold maxLen; omega))
  rw [show moreN key key (Sl.ofL (Sl.glue (toLs xs))).data.toList = (Sl.sealM key (toLs xs) : Int) by rw [Sl.sealM_mk key hk, Sl.toL_ofL]; simp [moreN, key_more, hk]] at HM
  rw [show ((moreE key key : Nat) : Int) = 0 by rw [key_more, if_pos hk]; rfl] at HM
  have HD := hide (fun w => refDecimal_any (Sl.sealM key (toLs xs)) (by have := Sl.sealM_le key hk (toLs xs); omega) w)
  have hz1 : (Sl.ofL (Sl.glue (toLs xs))).size ≤ 210 := by rw [Sl.ofL_size]; exact hgl
  have hz2 := dec_size (Sl.sealM key (toLs xs)) (by have := Sl.sealM_le key hk (toLs xs); omega)
  have HRs : Hid (Sl.ofL (Sl.glue (toLs xs)) ++ ⟨#[32]⟩ ++ Sl.ofL (Lib.decDigits (Sl.sealM key (toLs xs))) = Sl.ofL (Sl.sealL key (toLs xs))) := by
    show _ = _
    refine Sl.ba_ext ?_
    rw [ba_toList, ba_toList]
    unfold Sl.sealL
    simp only [Sl.toL_ofL]
    simp
  have HL := hide hl
  have HFi := hide (fun w => refFine_any w)
  clear hk hx hl hw hone hall hgl
  generalize Sl.ofL (Sl.sealL key (toLs xs)) = res at *
  generalize Sl.ofL (Lib.decDigits (Sl.sealM key (toLs xs))) = dg at *
  generalize (Sl.sealM key (toLs xs) : Int) = m at *
  generalize Sl.ofL (Sl.glue (toLs xs)) = g at *
  go_enter Tryz.func71, Tryz.ntmps71
  go_wp2_with fail
  refine (HK.out _).mono ?_
  rintro e w1 ⟨rfl, rfl⟩
  clear HK
  go_wp2
  generalize w.alloc (.cells #[.int .i64 0, .int .i64 0] 49) = w0 at *
  go_loop [7] (fun i => ∃ k : Nat, k ≤ n ∧ i = .int .i64 k) (fun i => n - (intOf i).toNat)
  case atStart => exact ⟨0, Nat.zero_le _, rfl⟩
  case round =>
    obtain ⟨k, hk, rfl⟩ := hrel
    by_cases hkn : k < n
    · have hkl : k < xs.length := by rw [HL.out]; exact hkn
      have hcell := HX.out k hkl
      have HWd := hide (fun w => refWord_any xs[k] w (by have := (Sl.word_len _ (HOne.out _ (List.getElem_mem hkl))).2; rw [size_list] at this; unfold maxLen; omega))
      rw [HOne.out _ (List.getElem_mem hkl)] at HWd
      generalize xs[k] = y at hcell HWd
      go_wp2_with fail
      refine (HWd.out _).mono ?_
      rintro e w3 ⟨rfl, rfl⟩
      go_wp2
      go_round
      case rel => exact ⟨k + 1, by omega, by go_num⟩
      case measure => simp [intOf]; omega
    · go_wp2_with fail
      refine (HG.out _ HX.out).mono ?_
      rintro e w3 ⟨rfl, rfl⟩
      go_wp2_with fail
      refine (HM.out _).mono ?_
      rintro e w4 ⟨rfl, rfl⟩
      go_wp2_with fail
      refine (HD.out _).mono ?_
      rintro e w5 ⟨rfl, hb⟩
      have HR5 : Hid (w5.heap[w.heap.size]? = some (.cells #[.int .i64 0, .int .i64 0] 49 (0, 0))) := by show _ = _; rw [hb.block _ HT0.out]; exact HR0.out
      have HB5 : Hid (Below w.heap.size w w5) := HB0.out.trans (hb.mono HB0.out.size)
      have HT5 : Hid (w.heap.size < w5.heap.size) := Nat.lt_of_lt_of_le HT0.out hb.size
      clear hb HR0 HB0 HT0 HX HG HM HD
      go_wp2_with fail
      refine (HFi.out _).mono ?_
      rintro e w6 ⟨rfl, hb⟩
      have HR6 : Hid (w6.heap[w.heap.size]? = some (.cells #[.int .i64 0, .int .i64 0] 49 (0, 0))) := by show _ = _; rw [hb.block _ HT5.out]; exact HR5.out
      have HB6 : Hid (Below w.heap.size w w6) := HB5.out.trans (hb.mono HB5.out.size)
      clear hb HR5 HB5 HT5
      obtain ⟨hc0, hc1, hf0, hf1⟩ := row_cells2 HR6.out
      go_wp2
      refine sealOfEnd w.heap.size _ rfl (row_set2 HR6.out _ _) rfl rfl ?_
      exact ⟨by rw [← HRs.out]; rfl, (HB6.out.setCell (Nat.le_refl _) _).setCell (Nat.le_refl _) _⟩
end Go.Proofs.YtgagekcjdapkfacGreatDoor

namespace Go.Proofs.YtgagekcjdapkfacGreatDoor
open Go.RowKit Go.Extern.Stop Go.Stop Go.Extern Go.Proofs

/-- A head's text, or none. -/
def headX (key : Int) (l : List En) (time : Int) : ByteArray := if (headC key l time).1 = 0 then txt (headT key l time) else ⟨#[]⟩
theorem text_x {a : Nat → Addr} {key : Int} {l : List En} {time : Int} {e : Ending} {w' : World} (h : TextPost a (headC key l time) (headT key l time) e w') : ∃ ev, e = .returned (.tuple #[.string (headX key l time), ev]) ∧ FlErr a w' (headC key l time) ev := by
  unfold headX
  rcases h with ⟨h0, rfl⟩ | ⟨h0, tt, pp, rfl, he⟩
  · rw [if_pos h0]
    exact ⟨_, rfl, Or.inl ⟨h0, rfl⟩⟩
  · rw [if_neg h0]
    exact ⟨_, rfl, he⟩

set_option maxRecDepth 100000 in
set_option maxHeartbeats 8000000 in
theorem refHead_any (key : Int) (v : Value) (l : List En) (time : Int) (w : World) (hv : EnAt w v l) (hs : ∀ e ∈ l, e.fl.who.size ≤ maxLen) (hl : l.length ≤ 100000) :
    Calls Tryz.prog 27 #[.int .i64 key, v, .int .i64 time] w fun e w' => e = .returned (.tuple #[.string (headX key l time), fltV (headC key l time)]) ∧ Below w.heap.size w w' := by
  have HB0 : Hid (Below w.heap.size w (w.alloc flt0)) := (Below.refl _ _).alloc (Nat.le_refl _) _
  have HR0 : Hid ((w.alloc flt0).heap[w.heap.size]? = some flt0) := heap_alloc_new _ _
  have HKy := hide (fun w => refKey_any key w)
  have HFl := hide (fun w h => refFloors_any v l w h hs (by omega))
  have HBare := hide (fun c w => bare_any c w)
  have HV := hide hv
  have HHX : Hid (headX key l time = if (headC key l time).1 = 0 then txt (headT key l time) else ⟨#[]⟩) := rfl
  by_cases hk : 1 ≤ key ∧ key ≤ 1000000006
  · rw [decide_eq_true hk] at HKy
    have hC : headC key l time = (if (floorsC l).1 = 0 then (if (0 ≤ time ∧ time ≤ 1000000) ∧ newL l ≤ time then (0, -1) else (2, -1)) else floorsC l) := if_pos hk
    have hcz : ((floorsC l).1 = 0 ∧ ((floorsC l).1 : Int) = 0 ∧ (floorsC l).2 = -1) ∨ ((floorsC l).1 ≠ 0 ∧ (0 : Int) < ((floorsC l).1 : Int)) := by
      by_cases h : (floorsC l).1 = 0
      · refine Or.inl ⟨h, by omega, ?_⟩
        obtain ⟨h1, h2⟩ := floors_zero h
        rw [(floors_some h1 h2).1]
      · exact Or.inr ⟨h, by omega⟩
    have HLast : Hid (∀ W, Below w.heap.size w W → (l.length = 0 ∧ newL l = 0) ∨ ∃ m b off cap, l.length = m + 1 ∧ v = .slice (some ⟨b, off, none⟩) l.length cap ∧ W.cell? ⟨b, off + m * 4 + 1, none⟩ = some (.int .i64 (newL l))) := fun W hb => by
      by_cases hn : 0 < l.length
      · obtain ⟨m, hm⟩ : ∃ m, l.length = m + 1 := ⟨l.length - 1, by omega⟩
        obtain ⟨b, off, cap, e, _, _, _, hcell⟩ := (hv.below hb).at hn
        exact Or.inr ⟨m, b, off, cap, hm, e, by rw [newL_last hm]; exact (hcell m (by omega)).2.1⟩
      · exact Or.inl ⟨by omega, by rw [List.length_eq_zero_iff.1 (show l.length = 0 by omega)]; rfl⟩
    have HSm := hide (fun v w hv => refSum_any v (floorsR l) w hv (small_floors hs) (by have := (floors_right l).2; omega))
    obtain ⟨hs0, hs1⟩ := sum_bd (floorsR l)
    have HDn := hide (fun w => refDecimal_any l.length (by omega) w)
    have HDs := hide (fun w => refDecimal_any (sumL (floorsR l)).toNat (by omega) w)
    rw [Int.toNat_of_nonneg hs0] at HDs
    have HDt : Hid (0 ≤ time → time ≤ 1000000 → ∀ w, Calls Tryz.prog 72 #[.int .i64 time] w fun e w' => e = .returned (.string (Sl.ofL (Lib.decDigits time.toNat))) ∧ Below w.heap.size w w') := fun h1 h2 w => by
      have := refDecimal_any time.toNat (by omega) w
      rw [Int.toNat_of_nonneg h1] at this
      exact this
    have HSl : Hid ((0 ≤ time ∧ time ≤ 1000000) → (floorsC l).1 = 0 → ∀ b w, Texts w b 0 [Sl.ofL headL, Sl.ofL (Lib.decDigits l.length), Sl.ofL (Lib.decDigits time.toNat), Sl.ofL (Lib.decDigits (sumL (floorsR l)).toNat)] → Calls Tryz.prog 71 #[.int .i64 key, .slice (some ⟨b, 0, none⟩) 4 4] w fun e w' => e = .returned (.tuple #[.string (txt (headT key l time)), .agg #[.int .i64 0, .int .i64 (-1)]]) ∧ Below w.heap.size w w') := fun h1 h2 b w hx =>
      sealOf_ok key b 0 4 4 [Sl.ofL headL, Sl.ofL (Lib.decDigits l.length), Sl.ofL (Lib.decDigits time.toNat), Sl.ofL (Lib.decDigits (sumL (floorsR l)).toNat)] w hk hx rfl (headW_ok (l.length : Int) time (sumL (floorsR l)) (by have := (feed_zero (floors_zero h2).1).1; omega) (by omega) (by omega))
    obtain ⟨ad, cap, rfl, hcap⟩ := hv.form
    clear hv hs hk hs0 hs1
    generalize Sl.ofL (Lib.decDigits l.length) = dn at *
    generalize Sl.ofL (Lib.decDigits time.toNat) = dt at *
    generalize Sl.ofL (Lib.decDigits (sumL (floorsR l)).toNat) = ds at *
    generalize headX key l time = hx at *
    generalize headC key l time = hc at *
    generalize txt (headT key l time) = tx at *
    generalize floorsR l = fr at *
    generalize sumL fr = sm at *
    generalize hn : l.length = n at *
    clear hn
    go_enter Tryz.func27, Tryz.ntmps27
    go_wp2_with fail
    refine (HKy.out _).mono ?_
    rintro e w1 ⟨rfl, rfl⟩
    go_wp2_with fail
    refine (HFl.out _ (HV.out.below HB0.out)).mono ?_
    rintro e w2 ⟨⟨v2, rfl, hfl⟩, hb⟩
    have HB2 : Hid (Below w.heap.size w w2) := HB0.out.trans (hb.mono HB0.out.size)
    have HR2 : Hid (w2.heap[w.heap.size]? = some flt0) := (hb.block _ (row_lt HR0.out)).trans HR0.out
    have HF2 := hide hfl
    unfold fltV
    clear hb hfl HB0 HR0 HFl HKy
    have HCz := hide hcz
    generalize hfz : ((floorsC l).1 : Int) = fz at *
    generalize hfa : (floorsC l).2 = fa at *
    have HFz := hide hfz
    have HFa := hide hfa
    clear hfz hfa
    have HB3 : Hid (Below w.heap.size w (w2.alloc (fltO fz fa))) := HB2.out.alloc HB2.out.size _
    have HR3 : Hid ((w2.alloc (fltO fz fa)).heap[w.heap.size]? = some flt0) := (heap_alloc_old w2 _ (row_lt HR2.out)).trans HR2.out
    have HG3 : Hid ((w2.alloc (fltO fz fa)).heap[w2.heap.size]? = some (fltO fz fa)) := heap_alloc_new _ _
    have HF3 : Hid (FlAt (w2.alloc (fltO fz fa)) v2 fr) := HF2.out.below ((Below.refl _ _).alloc (Nat.le_refl _) _)
    go_upto_region 5 with fail
    obtain ⟨W3, hW3⟩ : ∃ W, w2.alloc (.cells #[.int .i64 fz, .int .i64 fa] 49) = W := ⟨_, rfl⟩
    rw [hW3] at HB3 HR3 HG3 HF3 ⊢
    generalize hgb : w2.heap.size = gb at *
    clear hW3 hgb HB2 HR2 HF2
    obtain ⟨g0, g1, _, _⟩ := flt_row HG3.out
    obtain ⟨c0, c1, z0, z1⟩ := flt_row HR3.out
    rcases HCz.out with ⟨h0, hz, ha⟩ | ⟨h0, hz⟩
    · subst hz
      subst ha
      rw [if_pos h0] at hC
      have HSl2 := hide (fun h => HSl.out h h0)
      clear h0 HCz HFz HFa HSl
      by_cases ht : 0 ≤ time ∧ time ≤ 1000000
      · by_cases hnw : newL l ≤ time
        · rw [if_pos ⟨ht, hnw⟩] at hC
          have HC := hide hC
          have HDt2 := hide (HDt.out ht.1 ht.2)
          have HSl3 := hide (HSl2.out ht)
          have ht1 : ¬ time < 0 := by omega
          have ht2 : ¬ 1000000 < time := by omega
          have hnz : ¬ time < newL l := by omega
          clear hC HDt HSl2 HBare
          generalize newL l = nw at *
          go_upto_if 34 with fail
          go_cut [43] (fun _ wc => W3 = wc)
          case first =>
            rcases HLast.out W3 HB3.out with ⟨hn0, _⟩ | ⟨m, b, off, cap', hm, hvv, hcl⟩
            · have hnn : ¬ (0 : Int) < (n : Int) := by omega
              clear hn0
              go_wp2
              go_meet
              exact rfl
            · injection hvv with v1 v2 v3
              subst v1; subst v3
              subst hm
              go_wp2
              go_meet
              exact rfl
          case rest =>
            obtain rfl := hcut
            clear HLast g0 g1 c0 c1 z0 z1
            go_wp2_with fail
            refine (HDn.out _).mono ?_
            rintro e w4 ⟨rfl, hb⟩
            have HB4 : Hid (Below w.heap.size w w4) := HB3.out.trans (hb.mono HB3.out.size)
            have HR4 : Hid (w4.heap[w.heap.size]? = some flt0) := (hb.block _ (row_lt HR3.out)).trans HR3.out
            have HF4 := hide (HF3.out.below hb)
            clear hb HB3 HR3 HF3 HDn HG3
            go_wp2_with fail
            refine (HDt2.out _).mono ?_
            rintro e w5 ⟨rfl, hb⟩
            have HB5 : Hid (Below w.heap.size w w5) := HB4.out.trans (hb.mono HB4.out.size)
            have HR5 : Hid (w5.heap[w.heap.size]? = some flt0) := (hb.block _ (row_lt HR4.out)).trans HR4.out
            have HF5 := hide (HF4.out.below hb)
            clear hb HB4 HR4 HF4 HDt2
            go_wp2_with fail
            refine (HSm.out _ _ HF5.out).mono ?_
            rintro e w6 ⟨rfl, hb⟩
            have HB6 : Hid (Below w.heap.size w w6) := HB5.out.trans (hb.mono HB5.out.size)
            have HR6 : Hid (w6.heap[w.heap.size]? = some flt0) := (hb.block _ (row_lt HR5.out)).trans HR5.out
            clear hb HB5 HR5 HF5 HSm
            go_wp2_with fail
            refine (HDs.out _).mono ?_
            rintro e w7 ⟨rfl, hb⟩
            have HB7 : Hid (Below w.heap.size w w7) := HB6.out.trans (hb.mono HB6.out.size)
            have HR7 : Hid (w7.heap[w.heap.size]? = some flt0) := (hb.block _ (row_lt HR6.out)).trans HR6.out
            clear hb HB6 HR6 HDs
            have HB8 : Hid (Below w.heap.size w (w7.alloc (.cells #[.string ⟨#[104, 101, 97, 100]⟩, .string dn, .string dt, .string ds] 9))) := HB7.out.alloc HB7.out.size _
            have HR8 : Hid ((w7.alloc (.cells #[.string ⟨#[104, 101, 97, 100]⟩, .string dn, .string dt, .string ds] 9)).heap[w.heap.size]? = some flt0) := (heap_alloc_old w7 _ (row_lt HR7.out)).trans HR7.out
            have HSl4 := hide (HSl3.out w7.heap.size _ (texts4 w7 (Sl.ofL headL) dn dt ds))
            go_wp2_with fail
            refine HSl4.out.mono ?_
            rintro e w9 ⟨rfl, hb⟩
            have HB9 : Hid (Below w.heap.size w w9) := HB8.out.trans (hb.mono HB8.out.size)
            have HR9 : Hid (w9.heap[w.heap.size]? = some flt0) := (hb.block _ (row_lt HR8.out)).trans HR8.out
            clear hb HB8 HR8 HB7 HR7 HSl3 HSl4
            obtain ⟨c0, c1, z0, z1⟩ := flt_row HR9.out
            go_wp2
            obtain ⟨e1, e2⟩ := flt_set HB9.out (Nat.le_refl _) HR9.out (.int .i64 0) (.int .i64 (-1))
            refine fltEnd2 rfl w.heap.size _ rfl e1 rfl rfl ?_
            exact ⟨by rw [HHX.out, HC.out, if_pos rfl]; rfl, e2⟩
        · rw [if_neg (fun h => hnw h.2)] at hC
          have HC := hide hC
          have ht1 : ¬ time < 0 := by omega
          have ht2 : ¬ 1000000 < time := by omega
          have hnz : time < newL l := by omega
          rcases HLast.out W3 HB3.out with ⟨hn0, hnl⟩ | ⟨m, b, off, cap', hm, hvv, hcl⟩
          · exact absurd (by omega) ht1
          · injection hvv with v1 v2 v3
            subst v1; subst v3
            subst hm
            clear hC HDt HSl2 HDn HDs HSm HLast
            generalize newL l = nw at *
            go_wp2_with fail
            refine (HBare.out 2 _).mono ?_
            rintro e w4 ⟨rfl, hb⟩
            have HB4 : Hid (Below w.heap.size w w4) := HB3.out.trans (hb.mono HB3.out.size)
            have HR4 : Hid (w4.heap[w.heap.size]? = some flt0) := (hb.block _ (row_lt HR3.out)).trans HR3.out
            clear hb c0 c1 z0 z1 g0 g1
            obtain ⟨c0, c1, z0, z1⟩ := flt_row HR4.out
            go_wp2
            obtain ⟨e1, e2⟩ := flt_set HB4.out (Nat.le_refl _) HR4.out (.int .i64 2) (.int .i64 (-1))
            refine fltEnd2 rfl w.heap.size _ rfl e1 rfl rfl ?_
            exact ⟨by rw [HHX.out, HC.out, if_neg (by decide)]; rfl, e2⟩
      · rw [if_neg (fun h => ht h.1)] at hC
        have HC := hide hC
        clear hC HDt HSl2 HDn HDs HSm HLast
        have hway : time < 0 ∨ (¬ time < 0 ∧ 1000000 < time) := by omega
        clear ht
        rcases hway with ht1 | ⟨ht1, ht2⟩
        all_goals
          go_wp2_with fail
          refine (HBare.out 2 _).mono ?_
          rintro e w4 ⟨rfl, hb⟩
          have HB4 : Hid (Below w.heap.size w w4) := HB3.out.trans (hb.mono HB3.out.size)
          have HR4 : Hid (w4.heap[w.heap.size]? = some flt0) := (hb.block _ (row_lt HR3.out)).trans HR3.out
          clear hb c0 c1 z0 z1 g0 g1
          obtain ⟨c0, c1, z0, z1⟩ := flt_row HR4.out
          go_wp2
          obtain ⟨e1, e2⟩ := flt_set HB4.out (Nat.le_refl _) HR4.out (.int .i64 2) (.int .i64 (-1))
          refine fltEnd2 rfl w.heap.size _ rfl e1 rfl rfl ?_
          exact ⟨by rw [HHX.out, HC.out, if_neg (by decide)]; rfl, e2⟩
    · rw [if_neg h0] at hC
      have HFv : Hid (fltV hc = .agg #[.int .i64 fz, .int .i64 fa]) := by show _ = _; rw [hC]; unfold fltV; rw [HFz.out, HFa.out]
      have HXe : Hid (hx = ⟨#[]⟩) := by show _ = _; rw [HHX.out, hC, if_neg h0]
      clear h0 hC HCz HFz HFa HDt HSl HDn HDs HSm HLast
      go_wp2
      go_region
      all_goals
        go_wp2
        obtain ⟨e1, e2⟩ := flt_set HB3.out (Nat.le_refl _) HR3.out (.int .i64 fz) (.int .i64 fa)
        refine fltEnd2 rfl w.heap.size _ rfl e1 rfl rfl ?_
        exact ⟨by first | (rw [HFv.out, HXe.out]; rfl) | rw [HFv.out, HXe.out], e2.drew⟩
  · rw [decide_eq_false hk] at HKy
    have hC : headC key l time = (10, -1) := if_neg hk
    have HC := hide hC
    clear hC hv hs hk HFl
    generalize headX key l time = hx at *
    generalize headC key l time = hc at *
    go_enter Tryz.func27, Tryz.ntmps27
    go_wp2_with fail
    refine (HKy.out _).mono ?_
    rintro e w1 ⟨rfl, rfl⟩
    go_wp2_with fail
    refine (HBare.out 10 _).mono ?_
    rintro e w4 ⟨rfl, hb⟩
    have HB4 : Hid (Below w.heap.size w w4) := HB0.out.trans (hb.mono HB0.out.size)
    have HR4 : Hid (w4.heap[w.heap.size]? = some flt0) := (hb.block _ (row_lt HR0.out)).trans HR0.out
    clear hb
    obtain ⟨c0, c1, z0, z1⟩ := flt_row HR4.out
    go_wp2
    obtain ⟨e1, e2⟩ := flt_set HB4.out (Nat.le_refl _) HR4.out (.int .i64 10) (.int .i64 (-1))
    refine fltEnd2 rfl w.heap.size _ rfl e1 rfl rfl ?_
    exact ⟨by rw [HHX.out, HC.out, if_neg (by decide)]; rfl, e2⟩

abbrev rhO (h : Hd) : Obj := .cells #[.int .i64 h.n, .int .i64 h.t, .int .i64 h.s] 59 (0, 0)
theorem rhEnd {fn : Func} {p u : Tmp} (hr : fn.results = #[.cell p 59, .tmp u]) {a : Act} {w : World} {R : Ending → World → Prop} (g : Nat) (t : Hd) (hp : a.tmps.getD p undef = .pointer (some ⟨g, 0, none⟩)) (hg : w.heap[g]? = some (rhO t)) (hd : a.defers = [])
    (hR : R (.returned (.tuple #[t.val, a.tmps.getD u undef])) w) : bodyPost Tryz.prog fn R .ret a w :=
  bodyPost_ret (results_row_tmp hr a.tmps w g _ _ (0, 0) _ hp hg Tryz.underlying59 rfl (by kernel_rfl)) hd hR

set_option maxRecDepth 100000 in
set_option maxHeartbeats 8000000 in
theorem refOpenH_any (key : Int) (s : ByteArray) (w : World) (hs : s.size ≤ maxLen) :
    Calls Tryz.prog 28 #[.int .i64 key, .string s] w fun e w' => e = .returned (.tuple #[(openHR key s.data.toList).val, .int .i64 (openHC key s.data.toList : Int)]) ∧ Below w.heap.size w w' := by
  have HB0 : Hid (Below w.heap.size w (w.alloc (rhO hd0))) := (Below.refl _ w).alloc (Nat.le_refl _) _
  have HR0 : Hid ((w.alloc (rhO hd0)).heap[w.heap.size]? = some (rhO hd0)) := heap_alloc_new _ _
  have HU := hide (fun w => refUnseal_any key s w hs)
  have HNum := hide (fun x most w hx => refNumber_any x most w hx)
  by_cases h0 : Sl.openE key s.data.toList = 0
  · rw [show openHC key s.data.toList = hdC (Sl.lookW s.data.toList) from if_pos h0, show openHR key s.data.toList = hdR (Sl.lookW s.data.toList) from if_pos h0]
    have hw := (Sl.wordsOk_iff _).1 (Sl.lookOk_words _ (Sl.lookE_ok _ (((Sl.openE_iff key _).1 h0).2.1)))
    have HSz : Hid (∀ x ∈ (Sl.lookW s.data.toList).map Sl.ofL, x.size ≤ maxLen) := fun x hx => by
      obtain ⟨y, hy, rfl⟩ := List.mem_map.1 hx
      have := (Sl.word_len y (hw.2 y hy)).2
      rw [Sl.ofL_size]
      unfold maxLen; omega
    rw [h0] at HU
    clear h0 hw hs
    generalize Sl.lookW s.data.toList = ws at *
    have HL4 : Hid (ws.length ≠ 4 → hdC ws = 1 ∧ hdR ws = hd0) := fun h => hd_no (by unfold hdOk; rw [decide_eq_false h]; rfl)
    have HX4 : Hid (ws.length = 4 → ∃ x0 x1 x2 x3 : List UInt8, ws = [x0, x1, x2, x3]) := fun h => by
      match ws, h with
      | [x0, x1, x2, x3], _ => exact ⟨_, _, _, _, rfl⟩
    go_enter Tryz.func28, Tryz.ntmps28
    go_wp2_with fail
    refine (HU.out _).mono ?_
    rintro e w1 ⟨hb, hp⟩
    unfold UnsealPost at hp
    rw [if_pos rfl] at hp
    obtain ⟨b, cap, hx, hcap, rfl⟩ := hp
    have HB1 : Hid (Below w.heap.size w w1) := HB0.out.trans (hb.mono HB0.out.size)
    have HR1 : Hid (w1.heap[w.heap.size]? = some (rhO hd0)) := (hb.block _ (row_lt HR0.out)).trans HR0.out
    obtain ⟨c0, c1, c2, z0, z1, z2⟩ := row_cells HR1.out
    dsimp only [hd0] at c0 c1 c2
    have HX1 := hide hx
    clear hb HU hx HB0 HR0
    by_cases h4 : ws.length = 4
    · obtain ⟨x0, x1, x2, x3, rfl⟩ := HX4.out h4
      have hok : hdOk [x0, x1, x2, x3] = (decide (x0 = headL) && (numB x1 60 && numB x2 1000000 && numB x3 1000000006)) := rfl
      have hc0 : w1.cell? ⟨b, 0, none⟩ = some (.string (Sl.ofL x0)) := by have := HX1.out 0 (by simp); simpa using this
      have hc1 : w1.cell? ⟨b, 1, none⟩ = some (.string (Sl.ofL x1)) := by have := HX1.out 1 (by simp); simpa using this
      have hc2 : w1.cell? ⟨b, 2, none⟩ = some (.string (Sl.ofL x2)) := by have := HX1.out 2 (by simp); simpa using this
      have hc3 : w1.cell? ⟨b, 3, none⟩ = some (.string (Sl.ofL x3)) := by have := HX1.out 3 (by simp); simpa using this
      have HN1 := hide (fun w => HNum.out (Sl.ofL x1) 60 w (HSz.out _ (by simp)))
      have HN2 := hide (fun w => HNum.out (Sl.ofL x2) 1000000 w (HSz.out _ (by simp)))
      have HN3 := hide (fun w => HNum.out (Sl.ofL x3) 1000000006 w (HSz.out _ (by simp)))
      rw [Sl.toL_ofL] at HN1 HN2 HN3
      have hq : ((Sl.ofL x0).toList == [104, 101, 97, 100]) = decide (x0 = headL) := by
        rw [Go.ByteArray.toList_eq]
        by_cases h : x0 = headL
        · rw [decide_eq_true h, h]; rfl
        · rw [decide_eq_false h]; exact beq_eq_false_iff_ne.2 h
      have HGo : Hid (decide (x0 = headL) = true → numB x1 60 = true → numB x2 1000000 = true → numB x3 1000000006 = true → hdC [x0, x1, x2, x3] = 0 ∧ hdR [x0, x1, x2, x3] = ⟨Sl.valL x1, Sl.valL x2, Sl.valL x3⟩) := fun h1 h2 h3 h4 => by
        rw [h1, h2, h3, h4] at hok
        unfold hdC hdR
        rw [hok]
        exact ⟨rfl, rfl⟩
      have HNo : Hid ((decide (x0 = headL) = false ∨ numB x1 60 = false ∨ numB x2 1000000 = false ∨ numB x3 1000000006 = false) → hdC [x0, x1, x2, x3] = 1 ∧ hdR [x0, x1, x2, x3] = hd0) := fun h => hd_no (by
        rw [hok]
        rcases h with h | h | h | h <;> rw [h] <;> simp)
      have hn1 : numI x1 60 = if numB x1 60 = true then (Sl.valL x1 : Int) else -1 := rfl
      have hn2 : numI x2 1000000 = if numB x2 1000000 = true then (Sl.valL x2 : Int) else -1 := rfl
      have hn3 : numI x3 1000000006 = if numB x3 1000000006 = true then (Sl.valL x3 : Int) else -1 := rfl
      have hp1 : (0 : Int) ≤ (Sl.valL x1 : Int) := by omega
      have hp2 : (0 : Int) ≤ (Sl.valL x2 : Int) := by omega
      have hp3 : (0 : Int) ≤ (Sl.valL x3 : Int) := by omega
      clear hok HX1 HX4 HL4 HSz HNum h4
      generalize decide (x0 = headL) = d0 at *
      generalize numB x1 60 = b1 at *
      generalize numB x2 1000000 = b2 at *
      generalize numB x3 1000000006 = b3 at *
      generalize (Sl.valL x1 : Int) = i1 at *
      generalize (Sl.valL x2 : Int) = i2 at *
      generalize (Sl.valL x3 : Int) = i3 at *
      generalize numI x1 60 = m1 at *
      generalize numI x2 1000000 = m2 at *
      generalize numI x3 1000000006 = m3 at *
      generalize Sl.ofL x0 = y0 at *
      generalize Sl.ofL x1 = y1 at *
      generalize Sl.ofL x2 = y2 at *
      generalize Sl.ofL x3 = y3 at *
      have hway : (d0 = true ∧ b1 = true ∧ b2 = true ∧ b3 = true) ∨ d0 = false ∨ (d0 = true ∧ b1 = false) ∨ (d0 = true ∧ b1 = true ∧ b2 = false) ∨ (d0 = true ∧ b1 = true ∧ b2 = true ∧ b3 = false) := by
        cases d0 <;> cases b1 <;> cases b2 <;> cases b3 <;> simp
      change Hid (∀ w, Calls Tryz.prog 75 #[.string y1, .int .i64 60] w fun e w' => e = .returned (.int .i64 m1) ∧ w' = w) at HN1
      rcases hway with ⟨rfl, rfl, rfl, rfl⟩ | rfl | ⟨rfl, rfl⟩ | ⟨rfl, rfl, rfl⟩ | ⟨rfl, rfl, rfl, rfl⟩
      · rw [if_pos rfl] at hn1 hn2 hn3
        subst hn1; subst hn2; subst hn3
        have HG := hide (HGo.out rfl rfl rfl rfl)
        have k1 : ¬ m1 < 0 := by omega
        have k2 : ¬ m2 < 0 := by omega
        have k3 : ¬ m3 < 0 := by omega
        clear HGo HNo
        go_wp2_with fail
        refine (HN1.out _).mono ?_
        rintro e w2 ⟨rfl, rfl⟩
        go_wp2_with fail
        refine (HN2.out _).mono ?_
        rintro e w2 ⟨rfl, rfl⟩
        go_wp2_with fail
        refine (HN3.out _).mono ?_
        rintro e w2 ⟨rfl, rfl⟩
        go_wp2
        refine rhEnd rfl w.heap.size ⟨m1, m2, m3⟩ rfl (row_set3 HR1.out _ _ _) rfl ?_
        exact ⟨by rw [HG.out.1, HG.out.2]; rfl, below_set3 HB1.out (Nat.le_refl _) _ _ _⟩
      · have HG := hide (HNo.out (Or.inl rfl))
        clear HGo HNo hn1 hn2 hn3
        go_wp2_with fail
        refine (HN1.out _).mono ?_
        rintro e w2 ⟨rfl, rfl⟩
        go_wp2_with fail
        refine (HN2.out _).mono ?_
        rintro e w2 ⟨rfl, rfl⟩
        go_wp2_with fail
        refine (HN3.out _).mono ?_
        rintro e w2 ⟨rfl, rfl⟩
        go_wp2
        refine rhEnd rfl w.heap.size hd0 rfl (row_set3 HR1.out _ _ _) rfl ?_
        exact ⟨by rw [HG.out.1, HG.out.2]; rfl, below_set3 HB1.out (Nat.le_refl _) _ _ _⟩
      · have HG := hide (HNo.out (Or.inr (Or.inl rfl)))
        rw [if_neg (by decide)] at hn1
        have k1 : m1 < 0 := by omega
        clear HGo HNo hn1 hn2 hn3
        go_wp2_with fail
        refine (HN1.out _).mono ?_
        rintro e w2 ⟨rfl, rfl⟩
        go_wp2_with fail
        refine (HN2.out _).mono ?_
        rintro e w2 ⟨rfl, rfl⟩
        go_wp2_with fail
        refine (HN3.out _).mono ?_
        rintro e w2 ⟨rfl, rfl⟩
        go_wp2
        refine rhEnd rfl w.heap.size hd0 rfl (row_set3 HR1.out _ _ _) rfl ?_
        exact ⟨by rw [HG.out.1, HG.out.2]; rfl, below_set3 HB1.out (Nat.le_refl _) _ _ _⟩
      · have HG := hide (HNo.out (Or.inr (Or.inr (Or.inl rfl))))
        rw [if_pos rfl] at hn1
        rw [if_neg (by decide)] at hn2
        have k1 : ¬ m1 < 0 := by omega
        have k2 : m2 < 0 := by omega
        clear HGo HNo hn1 hn2 hn3
        go_wp2_with fail
        refine (HN1.out _).mono ?_
        rintro e w2 ⟨rfl, rfl⟩
        go_wp2_with fail
        refine (HN2.out _).mono ?_
        rintro e w2 ⟨rfl, rfl⟩
        go_wp2_with fail
        refine (HN3.out _).mono ?_
        rintro e w2 ⟨rfl, rfl⟩
        go_wp2
        refine rhEnd rfl w.heap.size hd0 rfl (row_set3 HR1.out _ _ _) rfl ?_
        exact ⟨by rw [HG.out.1, HG.out.2]; rfl, below_set3 HB1.out (Nat.le_refl _) _ _ _⟩
      · have HG := hide (HNo.out (Or.inr (Or.inr (Or.inr rfl))))
        rw [if_pos rfl] at hn1 hn2
        rw [if_neg (by decide)] at hn3
        have k1 : ¬ m1 < 0 := by omega
        have k2 : ¬ m2 < 0 := by omega
        have k3 : m3 < 0 := by omega
        clear HGo HNo hn1 hn2 hn3
        go_wp2_with fail
        refine (HN1.out _).mono ?_
        rintro e w2 ⟨rfl, rfl⟩
        go_wp2_with fail
        refine (HN2.out _).mono ?_
        rintro e w2 ⟨rfl, rfl⟩
        go_wp2_with fail
        refine (HN3.out _).mono ?_
        rintro e w2 ⟨rfl, rfl⟩
        go_wp2
        refine rhEnd rfl w.heap.size hd0 rfl (row_set3 HR1.out _ _ _) rfl ?_
        exact ⟨by rw [HG.out.1, HG.out.2]; rfl, below_set3 HB1.out (Nat.le_refl _) _ _ _⟩
    · obtain ⟨q1, q2⟩ := HL4.out h4
      have HQ1 := hide q1
      have HQ2 := hide q2
      have hn4 : ((ws.length : Int) != 4) = true := by rw [bne_iff_ne]; omega
      clear q1 q2 HL4 HX4 HX1 HSz HNum h4
      generalize ws.length = n at *
      go_wp2
      refine rhEnd rfl w.heap.size hd0 rfl (row_set3 HR1.out _ _ _) rfl ?_
      exact ⟨by rw [HQ1.out, HQ2.out]; rfl, below_set3 HB1.out (Nat.le_refl _) _ _ _⟩
  · rw [show openHC key s.data.toList = Sl.openE key s.data.toList from if_neg h0, show openHR key s.data.toList = hd0 from if_neg h0]
    have HO2 : Hid (∀ w, Calls Tryz.prog 74 #[.int .i64 key, .string s] w fun e w' => e = .returned (.tuple #[.slice none 0 0, .int .i64 (Sl.openE key s.data.toList : Int)]) ∧ Below w.heap.size w w') := fun w => (HU.out w).mono fun e w' ⟨hb, hp⟩ => by
      unfold UnsealPost at hp
      rw [if_neg h0] at hp
      exact ⟨hp, hb⟩
    have hcz : (0 : Int) < (Sl.openE key s.data.toList : Int) := by omega
    clear h0 HU HNum hs
    generalize (Sl.openE key s.data.toList : Int) = cz at *
    go_enter Tryz.func28, Tryz.ntmps28
    go_wp2_with fail
    refine (HO2.out _).mono ?_
    rintro e w1 ⟨rfl, hb⟩
    have HB1 : Hid (Below w.heap.size w w1) := HB0.out.trans (hb.mono HB0.out.size)
    have HR1 : Hid (w1.heap[w.heap.size]? = some (rhO hd0)) := (hb.block _ (row_lt HR0.out)).trans HR0.out
    obtain ⟨c0, c1, c2, z0, z1, z2⟩ := row_cells HR1.out
    dsimp only [hd0] at c0 c1 c2
    clear hb HB0 HR0
    go_wp2
    refine rhEnd rfl w.heap.size hd0 rfl (row_set3 HR1.out _ _ _) rfl ?_
    exact ⟨rfl, below_set3 HB1.out (Nat.le_refl _) _ _ _⟩
end Go.Proofs.YtgagekcjdapkfacGreatDoor

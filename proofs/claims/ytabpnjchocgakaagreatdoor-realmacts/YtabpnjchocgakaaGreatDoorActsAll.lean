/-
  What the program's Same and prospect answer; and the law RealmActs: for any asks the program answers as the document does.
-/
import Derived.Test.YtabpnjchocgakaaGreatDoorRealmLaw
import Derived.Test.YtabpnjchocgakaaGreatDoorPk13
import Derived.Test.YtabpnjchocgakaaGreatDoorPk16
import Derived.BigQuiet
import Derived.Deep.QuietTactic
import Derived.Deep.RegionHeld3
import Derived.Deep.CutBlock
import Derived.Deep.DeepCutAuto
namespace Go.Proofs.YtabpnjchocgakaaGreatDoor
open Go.RowKit Go.Extern.Stop Go.Stop Go.Extern Go.Proofs
set_option maxRecDepth 100000 in
set_option maxHeartbeats 2000000 in
theorem sameEntries_eq (v1 v2 : Value) (l : List En) (w : World) (h1 : EnAt w v1 l) (h2 : EnAt w v2 l) (hl : l.length ≤ 1000000) :
    Calls Tryz.prog 31 #[v1, v2] w fun e w' => e = .returned (.bool true) ∧ Below w.heap.size w w' := by
  obtain ⟨ad1, cap1, rfl, hc1⟩ := h1.form
  obtain ⟨ad2, cap2, rfl, hc2⟩ := h2.form
  have H1 := hide h1
  have H2 := hide h2
  clear h1 h2
  generalize hn : l.length = n at *
  have HN := hide hn
  clear hn
  go_enter Tryz.func31, Tryz.ntmps31
  go_wp2
  go_loopw [5] (fun i wr => ∃ k q : Nat, k ≤ n ∧ i = .int .i64 k ∧ wr = w.drewN q) (fun i _ => n - (intOf i).toNat)
  case atStart => exact ⟨0, 0, Nat.zero_le _, rfl, rfl⟩
  case round =>
    obtain ⟨k, q, hk, rfl, rfl⟩ := hrel
    by_cases hlt : k < n
    · have hkl : k < l.length := by rw [HN.out]; exact hlt
      have hv1 := H1.out
      have hv2 := H2.out
      rw [← HN.out] at hv1 hv2
      obtain ⟨b1, off1, cap1', e, _, _, _, hcell1⟩ := hv1.at (by omega)
      injection e with e1 e2 e3
      subst e1; subst e3
      obtain ⟨b2, off2, cap2', e, _, _, _, hcell2⟩ := hv2.at (by omega)
      injection e with e1 e2 e3
      subst e1; subst e3
      obtain ⟨x0, x1, x2, x3⟩ := hcell1 k hkl
      obtain ⟨y0, y1, y2, y3⟩ := hcell2 k hkl
      clear hcell1 hcell2 hv1 hv2
      generalize (l[k]'hkl).fl.who = who at *
      generalize (l[k]'hkl).fl.ep = ep at *
      generalize (l[k]'hkl).seq = sq at *
      generalize (l[k]'hkl).time = tm at *
      go_wp2
      go_quiet (fail)
      go_wp2
      go_roundw
      case rel => exact ⟨k + 1, q + nq, by omega, by go_num, rfl⟩
      case measure => simp [intOf]; omega
    · go_wp2
      go_ret
      exact ⟨rfl, below_drewN (Below.refl _ _) _⟩
end Go.Proofs.YtabpnjchocgakaaGreatDoor
namespace Go.Proofs.YtabpnjchocgakaaGreatDoor
open Go.RowKit Go.Extern.Stop Go.Stop Go.Extern Go.Proofs Go.Maps
set_option maxRecDepth 100000 in
set_option maxHeartbeats 2000000 in
theorem rpTime_any (rp bp mb : Nat) (v : Value) (r : Rm) (w : World) (h : RmAt w rp bp mb v r) :
    Calls Tryz.prog 26 #[.pointer (some ⟨rp, 0, none⟩)] w fun e w' => e = .returned (.int .i64 r.time) ∧ Below w.heap.size w w' := by
  obtain ⟨_, _, c2, _, _, _⟩ := rp_cells h.row
  clear h
  go_enter Tryz.func26, Tryz.ntmps26
  go_wp2
  go_ret
  exact ⟨rfl, Below.refl _ _⟩

end Go.Proofs.YtabpnjchocgakaaGreatDoor
namespace Go.Proofs.YtabpnjchocgakaaGreatDoor
open Go Go.RowKit Go.Extern.Stop Go.Stop Go.Extern Go.Maps
set_option maxRecDepth 100000 in
set_option maxHeartbeats 1000000 in
theorem samePeople_eq (b1 b2 : Nat) (v1 v2 : Value) (L : List Per) (w : World) (h1 : w.ownsRow b1 46 4 v1 L.length (cellsP L)) (h2 : w.ownsRow b2 46 4 v2 L.length (cellsP L)) (hn : L.length ≤ 1000) :
    Calls Tryz.prog 29 #[v1, v2] w fun e w' => e = .returned (.int .i64 1) ∧ Below w.heap.size w w' := by
  obtain ⟨ad1, cap1, rfl, hc1⟩ := row_form h1
  obtain ⟨ad2, cap2, rfl, hc2⟩ := row_form h2
  have H1 := hide (fun hn => prow_cells h1 hn)
  have H2 := hide (fun hn => prow_cells h2 hn)
  clear h1 h2
  generalize hl : L.length = n at hn hc1 hc2 ⊢
  have HL := hide hl
  clear hl
  go_enter Tryz.func29, Tryz.ntmps29
  go_wp2
  go_loopw [5] (fun i wr => ∃ k q : Nat, k ≤ n ∧ i = .int .i64 k ∧ wr = w.drewN q) (fun i _ => n - (intOf i).toNat)
  case atStart => exact ⟨0, 0, Nat.zero_le _, rfl, rfl⟩
  case round =>
    obtain ⟨k, q, hk, rfl, rfl⟩ := hrel
    by_cases hlt : k < n
    · obtain ⟨g1, rfl, _, hcs1⟩ := H1.out (by rw [HL.out]; omega)
      obtain ⟨g2, rfl, _, hcs2⟩ := H2.out (by rw [HL.out]; omega)
      obtain ⟨p, hp⟩ : ∃ p, L[k]? = some p := ⟨L[k]'(by rw [HL.out]; exact hlt), List.getElem?_eq_getElem _⟩
      obtain ⟨x0, x1, x2, x3⟩ := hcs1 k p hp
      obtain ⟨y0, y1, y2, y3⟩ := hcs2 k p hp
      clear hcs1 hcs2 hp
      go_wp2
      go_quiet (fail)
      go_wp2
      go_roundw
      case rel => exact ⟨k + 1, q + nq, by omega, by go_num, rfl⟩
      case measure => simp [intOf]; omega
    · go_wp2
      go_ret
      exact ⟨rfl, below_drewN (Below.refl _ _) _⟩

end Go.Proofs.YtabpnjchocgakaaGreatDoor

namespace Go.Proofs.YtabpnjchocgakaaGreatDoor
open Go.RowKit Go.Extern.Stop Go.Stop Go.Extern Go.Proofs Go.Maps

set_option maxRecDepth 100000 in
set_option maxHeartbeats 2000000 in
theorem equalE_any (v1 v2 : Value) (l : List En) (w : World) (h1 : EnAt w v1 l) (h2 : EnAt w v2 l) (hl : l.length ≤ 1000000) :
    Calls Tryz.prog 79 #[v1, v2] w fun e w' => e = .returned (.bool true) ∧ Below w.heap.size w w' := by
  obtain ⟨ad1, cap1, rfl, hc1⟩ := h1.form
  obtain ⟨ad2, cap2, rfl, hc2⟩ := h2.form
  have H1 := hide h1
  have H2 := hide h2
  clear h1 h2
  generalize hn : l.length = n at *
  have HN := hide hn
  clear hn
  go_enter Tryz.func79, Tryz.ntmps79
  go_wp2
  go_loopg [13] n (fun g s13 wr => ∃ k q : Nat, k ≤ n ∧ n - k ≤ g ∧ s13 = .int .i64 k ∧ wr = w.drewN q)
  case atStart => exact ⟨0, 0, Nat.zero_le _, by omega, rfl, rfl⟩
  case round =>
    obtain ⟨k, q, hk, hg, rfl, rfl⟩ := hrel
    by_cases hlt : k < n
    · have hkl : k < l.length := by rw [HN.out]; exact hlt
      have hv1 := H1.out
      have hv2 := H2.out
      rw [← HN.out] at hv1 hv2
      obtain ⟨b1, off1, cap1', e, _, _, _, hcell1⟩ := hv1.at (by omega)
      injection e with e1 e2 e3
      subst e1; subst e3
      obtain ⟨b2, off2, cap2', e, _, _, _, hcell2⟩ := hv2.at (by omega)
      injection e with e1 e2 e3
      subst e1; subst e3
      obtain ⟨x0, x1, x2, x3⟩ := hcell1 k hkl
      obtain ⟨y0, y1, y2, y3⟩ := hcell2 k hkl
      clear hcell1 hcell2 hv1 hv2
      generalize (l[k]'hkl).fl.who = who at *
      generalize (l[k]'hkl).fl.ep = ep at *
      generalize (l[k]'hkl).seq = sq at *
      generalize (l[k]'hkl).time = tm at *
      go_wp2
      go_quiet (fail)
      go_wp2
      go_roundg (n - (k + 1))
      case measure => omega
      case rel => exact ⟨k + 1, q + nq, by omega, Nat.le_refl _, by go_num, rfl⟩
    · go_wp2
      go_ret
      exact ⟨rfl, below_drewN (Below.refl _ _) _⟩

set_option maxRecDepth 100000 in
set_option maxHeartbeats 2000000 in
theorem equalP_any (b1 b2 : Nat) (v1 v2 : Value) (L : List Per) (w : World) (h1 : w.ownsRow b1 46 4 v1 L.length (cellsP L)) (h2 : w.ownsRow b2 46 4 v2 L.length (cellsP L)) (hn : L.length ≤ 1000) :
    Calls Tryz.prog 80 #[v1, v2] w fun e w' => e = .returned (.bool true) ∧ Below w.heap.size w w' := by
  obtain ⟨ad1, cap1, rfl, hc1⟩ := row_form h1
  obtain ⟨ad2, cap2, rfl, hc2⟩ := row_form h2
  have H1 := hide (fun hn => prow_cells h1 hn)
  have H2 := hide (fun hn => prow_cells h2 hn)
  clear h1 h2
  generalize hl : L.length = n at hn hc1 hc2 ⊢
  have HL := hide hl
  clear hl
  go_enter Tryz.func80, Tryz.ntmps80
  go_wp2
  go_loopg [13] n (fun g s13 wr => ∃ k q : Nat, k ≤ n ∧ n - k ≤ g ∧ s13 = .int .i64 k ∧ wr = w.drewN q)
  case atStart => exact ⟨0, 0, Nat.zero_le _, by omega, rfl, rfl⟩
  case round =>
    obtain ⟨k, q, hk, hg, rfl, rfl⟩ := hrel
    by_cases hlt : k < n
    · obtain ⟨g1, rfl, _, hcs1⟩ := H1.out (by rw [HL.out]; omega)
      obtain ⟨g2, rfl, _, hcs2⟩ := H2.out (by rw [HL.out]; omega)
      obtain ⟨p, hp⟩ : ∃ p, L[k]? = some p := ⟨L[k]'(by rw [HL.out]; exact hlt), List.getElem?_eq_getElem _⟩
      obtain ⟨x0, x1, x2, x3⟩ := hcs1 k p hp
      obtain ⟨y0, y1, y2, y3⟩ := hcs2 k p hp
      clear hcs1 hcs2 hp
      go_wp2
      go_quiet (fail)
      go_wp2
      go_roundg (n - (k + 1))
      case measure => omega
      case rel => exact ⟨k + 1, q + nq, by omega, Nat.le_refl _, by go_num, rfl⟩
    · go_wp2
      go_ret
      exact ⟨rfl, below_drewN (Below.refl _ _) _⟩
/-- What can still be told of serials, and of how long tickets last. -/
def Rm.pro (r : Rm) : Int × Int := if 1000000 ≤ r.time ∨ 1073741824 < r.ser then (0, 0) else (r.ser, min r.long (1000000 - r.time))
theorem proEnd {a : Act} {w : World} {R : Ending → World → Prop} (g : Nat) (cs : Array Value) (hp : a.tmps.getD 2 undef = .pointer (some ⟨g, 0, none⟩)) (hg : w.heap[g]? = some (.cells cs 128 (0, 0))) (hn : cs.size = 2) (hd : a.defers = [])
    (hR : R (.returned (.agg cs)) w) : bodyPost Tryz.prog Tryz.f78 R .ret a w :=
  bodyPost_ret (results_cell_row rfl a.tmps w g _ cs (0, 0) _ hp hg Tryz.underlying128 rfl (by rw [hn]; kernel_rfl)) hd hR
abbrev proO (x y : Value) : Obj := .cells #[x, y] 128 (0, 0)

set_option maxRecDepth 100000 in
set_option maxHeartbeats 2000000 in
theorem prospect_any (rp bp mb : Nat) (v : Value) (r : Rm) (w : World) (h : RmAt w rp bp mb v r) (ht : 0 ≤ r.time ∧ r.time ≤ 1000000) :
    Calls Tryz.prog 78 #[.pointer (some ⟨rp, 0, none⟩)] w fun e w' => e = .returned (.agg #[.int .i64 r.pro.1, .int .i64 r.pro.2]) ∧ Below w.heap.size w w' := by
  have hB0 : Below w.heap.size w (w.alloc (proO (.int .i64 0) (.int .i64 0))) := (Below.refl _ _).alloc (Nat.le_refl _) _
  have hR0 : (w.alloc (proO (.int .i64 0) (.int .i64 0))).heap[w.heap.size]? = some (proO (.int .i64 0) (.int .i64 0)) := heap_alloc_new _ _
  obtain ⟨_, c1, c2, c3, _, _⟩ := rp_cells (h.below hB0).row
  have d0 := cell_of_row _ _ 0 _ _ _ hR0
  have d1 := cell_of_row _ _ 1 _ _ _ hR0
  have z0 := frozen_of_row _ _ 0 _ _ hR0
  have z1 := frozen_of_row _ _ 1 _ _ hR0
  have hw1 : IntKind.i64.wrap (1000000 - r.time) = 1000000 - r.time := by rw [IntKind.wrap_i64]; omega
  clear h hB0 hR0 ht
  unfold Rm.pro
  by_cases ht : 1000000 ≤ r.time
  · rw [if_pos (Or.inl ht)]
    generalize r.time = t at *
    go_enter Tryz.func78, Tryz.ntmps78
    go_wp2
    exact proEnd w.heap.size _ rfl (heap_alloc_new w _) rfl rfl ⟨rfl, (Below.refl _ _).alloc (Nat.le_refl _) _⟩
  · by_cases hs : 1073741824 < r.ser
    · rw [if_pos (Or.inr hs)]
      generalize r.time = t at *
      generalize r.ser = sr at *
      go_enter Tryz.func78, Tryz.ntmps78
      go_wp2
      exact proEnd w.heap.size _ rfl (heap_alloc_new w _) rfl rfl ⟨rfl, (Below.refl _ _).alloc (Nat.le_refl _) _⟩
    · rw [if_neg (by omega)]
      generalize r.time = t at *
      generalize r.ser = sr at *
      generalize r.long = lg at *
      go_enter Tryz.func78, Tryz.ntmps78
      go_wp2
      go_region
      go_wp2
      exact proEnd w.heap.size _ rfl (show (w.alloc (proO (.int .i64 sr) (.int .i64 (min lg (1000000 - t))))).drew.heap[w.heap.size]? = _ from heap_alloc_new w _) rfl rfl ⟨rfl, ((Below.refl _ _).alloc (Nat.le_refl _) _).drew⟩

set_option maxRecDepth 100000 in
set_option maxHeartbeats 2000000 in
theorem same_nils (w : World) : Calls Tryz.prog 28 #[.pointer none, .pointer none] w fun e w' => e = .returned (.bool true) ∧ w' = w := by
  go_enter Tryz.func28, Tryz.ntmps28
  go_wp2
  go_ret
  exact ⟨rfl, rfl⟩
set_option maxRecDepth 100000 in
set_option maxHeartbeats 2000000 in
theorem same_nil (rp : Nat) (w : World) : Calls Tryz.prog 28 #[.pointer (some ⟨rp, 0, none⟩), .pointer none] w fun e w' => e = .returned (.bool false) ∧ w' = w := by
  go_enter Tryz.func28, Tryz.ntmps28
  go_wp2
  go_ret
  exact ⟨rfl, rfl⟩
theorem row_below {w w' : World} {B : Nat} {t : TypeId} {sz : Nat} {v : Value} {n : Nat} {xs : List Value} (h : w.ownsRow B t sz v n xs) (hb : Below w.heap.size w w') : w'.ownsRow B t sz v n xs := by
  have hl := h.lt
  refine ⟨h.1, ?_⟩
  rcases h.2 with g | ⟨g, cap, cur, rfl, h1, hc, r⟩
  · exact Or.inl g
  · exact Or.inr ⟨g, cap, cur, rfl, h1, (hb.block g (hl g rfl).2).trans hc, r⟩

set_option maxRecDepth 100000 in
set_option maxHeartbeats 8000000 in
theorem same_any (rp bp mb : Nat) (v : Value) (cp bp2 mb2 : Nat) (v2 : Value) (r : Rm) (w : World) (h : RmAt w rp bp mb v r) (h2 : RmAt w cp bp2 mb2 v2 r) (hg : GoodR r) :
    Calls Tryz.prog 28 #[.pointer (some ⟨rp, 0, none⟩), .pointer (some ⟨cp, 0, none⟩)] w fun e w' => e = .returned (.bool true) ∧ Below w.heap.size w w' := by
  obtain ⟨a1, c1, e1, _⟩ := h.enAt.form
  obtain ⟨a2, c2, e2, _⟩ := h2.enAt.form
  have HPr := hide (fun W (hb : Below w.heap.size w W) => prospect_any rp bp mb v r W (h.below hb) hg.time)
  have HPr2 := hide (fun W (hb : Below w.heap.size w W) => prospect_any cp bp2 mb2 v2 r W (h2.below hb) hg.time)
  have HPe := hide (fun W (hb : Below w.heap.size w W) => rpPeople_any rp bp mb v r W (h.below hb))
  have HPe2 := hide (fun W (hb : Below w.heap.size w W) => rpPeople_any cp bp2 mb2 v2 r W (h2.below hb))
  have HEq := hide (fun W (hb : Below w.heap.size w W) => equalE_any v v2 r.l W (h.below hb).enAt (h2.below hb).enAt (Nat.le_trans hg.few (by decide)))
  have HEp := hide (fun W b1 b2 x1 x2 k1 k2 => equalP_any b1 b2 x1 x2 r.b W k1 k2 (Nat.le_trans hg.book.few (by decide)))
  have HC : Hid (∀ W, Below w.heap.size w W → (W.cell? ⟨rp, 0, none⟩ = some (.int .i64 r.key) ∧ W.cell? ⟨rp, 2, none⟩ = some (.int .i64 r.time) ∧ W.cell? ⟨rp, 5, none⟩ = some v) ∧ (W.cell? ⟨cp, 0, none⟩ = some (.int .i64 r.key) ∧ W.cell? ⟨cp, 2, none⟩ = some (.int .i64 r.time) ∧ W.cell? ⟨cp, 5, none⟩ = some v2)) := fun W hb => by
    obtain ⟨x0, _, x2, _, _, x5⟩ := rp_cells (h.below hb).row
    obtain ⟨y0, _, y2, _, _, y5⟩ := rp_cells (h2.below hb).row
    exact ⟨⟨x0, x2, x5⟩, y0, y2, y5⟩
  have HB0 : Hid (Below w.heap.size w w.drew) := (Below.refl _ _).drew
  obtain ⟨⟨x0, x2, x5⟩, y0, y2, y5⟩ := HC.out w (Below.refl _ _)
  clear h h2 hg
  subst e1 e2
  generalize r.l.length = n at *
  generalize r.pro.1 = p1 at *
  generalize r.pro.2 = p2 at *
  generalize r.key = key at *
  generalize r.time = tm at *
  go_enter Tryz.func28, Tryz.ntmps28
  go_wp2_with fail
  go_region_held3 (fun w' => w'.cell? ⟨rp, 0, none⟩ = some (.int .i64 key) ∧ w'.cell? ⟨rp, 2, none⟩ = some (.int .i64 tm) ∧ w'.cell? ⟨rp, 5, none⟩ = some (.slice a1 n c1) ∧ w'.cell? ⟨cp, 0, none⟩ = some (.int .i64 key) ∧ w'.cell? ⟨cp, 2, none⟩ = some (.int .i64 tm) ∧ w'.cell? ⟨cp, 5, none⟩ = some (.slice a2 n c2)) (first | go_keep | assumption)
    (first
      | (go_at_call 78; refine (HPr.out _ HB0.out).mono ?_; rintro e w1 ⟨rfl, hb⟩; have HB1 : Hid (Below w.heap.size w w1) := HB0.out.trans (hb.mono HB0.out.size); clear hb HPr; obtain ⟨⟨i0, i2, i5⟩, j0, j2, j5⟩ := HC.out _ HB1.out)
      | (go_at_call 78; refine (HPr2.out _ HB1.out).mono ?_; rintro e w2 ⟨rfl, hb⟩; have HB2 : Hid (Below w.heap.size w w2) := HB1.out.trans (hb.mono HB1.out.size); clear hb HPr2; obtain ⟨⟨k0, k2, k5⟩, l0, l2, l5⟩ := HC.out _ HB2.out)
      | (go_at_call 79; refine (HEq.out _ HB2.out).mono ?_; rintro e w3 ⟨rfl, hb⟩; have HB3 : Hid (Below w.heap.size w w3) := HB2.out.trans (hb.mono HB2.out.size); clear hb HEq; obtain ⟨⟨m0, m2, m5⟩, n0, n2, n5⟩ := HC.out _ HB3.out)
      | (go_at_call 30; refine (HPe.out _ HB3.out).mono ?_; rintro e w4 ⟨u4, rfl, ho4, hb⟩; have HB4 : Hid (Below w.heap.size w w4) := HB3.out.trans (hb.mono HB3.out.size); have HO4 := hide ho4; clear hb ho4 HPe; obtain ⟨⟨o0, o2, o5⟩, q0, q2, q5⟩ := HC.out _ HB4.out)
      | (go_at_call 30; refine (HPe2.out _ HB4.out).mono ?_; rintro e w5 ⟨u5, rfl, ho5, hb⟩; have HB5 : Hid (Below w.heap.size w w5) := HB4.out.trans (hb.mono HB4.out.size); have HO5 := hide ho5; have HO6 := hide (row_below HO4.out hb); clear hb ho5 HPe2; obtain ⟨⟨r0, r2, r5⟩, s0, s2, s5⟩ := HC.out _ HB5.out)
      | (go_at_call 80; refine (HEp.out _ _ _ _ _ HO6.out HO5.out).mono ?_; rintro e w6 ⟨rfl, hb⟩; have HB6 : Hid (Below w.heap.size w w6) := HB5.out.trans (hb.mono HB5.out.size); clear hb HEp; obtain ⟨⟨t0, t2, t5⟩, v0, v2, v5⟩ := HC.out _ HB6.out))
  all_goals
    go_wp2
    go_ret
    exact ⟨rfl, HB6.out⟩
end Go.Proofs.YtabpnjchocgakaaGreatDoor

namespace Go.Proofs.YtabpnjchocgakaaGreatDoor
open Go Go.RowKit Go.Extern.Stop Go.Stop Go.Extern Go.Proofs Go.Maps

theorem both_time {w0 w : World} {rp rb : Nat} {r m : Rm} (h : Both w0 w rp rb r m) (W : World) (hb : Below w.heap.size w W) :
    Calls Tryz.prog 26 #[.pointer (some ⟨rp, 0, none⟩)] W fun e w' => e = .returned (.int .i64 r.time) ∧ Below W.heap.size W w' := by
  obtain ⟨bp, mb, v, bb, mv, lv, hT⟩ := h
  exact rpTime_any rp bp mb v r W (hT.mine.below hb)
theorem rmC_le (key long : Int) : rmC key long ≤ 16 := by
  unfold rmC
  (repeat' split) <;> decide

set_option maxRecDepth 100000 in
set_option maxHeartbeats 16000000 in
theorem realmActs_law (a : Nat → Addr) (key long : Int) (v : Value) (l : List Aq) (W : World) (hE : Env a W) (hv : AqIn W v l) :
    Calls Tryz.prog 5 #[.int .i64 key, .int .i64 long, v] W fun e w' => e = .returned (.bool true) ∧ Below W.heap.size W w' := by
  have HRe := hide (reigned_any a W hE)
  have HLong := hide (fun w (hb : Below W.heap.size W w) => longAsks_any 70 v l w (hv.below hb) (by decide))
  have HE := hide hE
  obtain ⟨ad, cap, rfl, hcap, hcell⟩ := hv
  have HV := hide hcell
  have HNo := hide (fun (h : longAq 70 l = false) => And.intro (longAq_no h).1 (longAq_fine h))
  generalize hn : l.length = n at *
  have HN := hide hn
  clear hE hcell hn
  go_enter Tryz.func5, Tryz.ntmps5
  go_wp2_with fail
  refine HRe.out.mono ?_
  rintro e w1 ⟨rfl, hb⟩
  have HB1 := hide hb
  clear hb HRe
  go_wp2_with fail
  refine (HLong.out w1 HB1.out).mono ?_
  rintro e w2 ⟨rfl, rfl⟩
  clear HLong
  cases hlw : longAq 70 l with
  | true =>
    go_wp2
    go_ret
    exact ⟨rfl, HB1.out⟩
  | false =>
    obtain ⟨hn50, hfine⟩ := HNo.out hlw
    have HS := hide hfine
    clear HNo hlw hfine
    have HNew := hide (rpNew_any a key long w2 (HE.out.below HB1.out).errs)
    have HRn := hide (fun w => refNewR_any key long w)
    go_wp2_with fail
    refine HNew.out.mono ?_
    rintro e w3 ⟨hb3, ⟨h0, rp, bp, mb, rfl, hR, hM⟩ | ⟨h0, rfl⟩⟩
    rotate_left
    · have HB3 : Hid (Below W.heap.size W w3) := HB1.out.trans (hb3.mono HB1.out.size)
      have H0 := hide h0
      clear hb3 h0 HNew
      have HCo := hide (fun w (hb : Below W.heap.size W w) => coded_evp a (rmC key long) (rmC_le key long) (errV a (rmC key long)) w (evp_V a _ w) (HE.out.below hb).errs)
      go_wp2_with fail
      refine (HRn.out w3).mono ?_
      rintro e w4 ⟨hb4, ⟨h1, _⟩ | ⟨h1, rfl⟩⟩
      · exact absurd h1 H0.out
      · have HB4 : Hid (Below W.heap.size W w4) := HB3.out.trans (hb4.mono HB3.out.size)
        have hpos : (0 : Int) < (rmC key long : Int) := by omega
        have HC4 := hide (HCo.out w4 HB4.out)
        clear hb4 h1 HRn HCo
        generalize (rmC key long : Int) = c at *
        go_wp2_with fail
        refine HC4.out.mono ?_
        rintro e w5 ⟨rfl, hb⟩
        have HB5 := hide (HB4.out.trans (hb.mono HB4.out.size))
        clear hb HC4
        go_wp2
        go_ret
        exact ⟨rfl, HB5.out⟩
    have HM3 := hide hM
    have HR3 := hide hR
    have HB3 := hide hb3
    have H0 := hide h0
    clear hb3 hR hM h0 HNew
    go_wp2_with fail
    refine (HRn.out w3).mono ?_
    rintro e w4 ⟨hb4, ⟨h1, rb, bb, rfl, hr⟩ | ⟨h1, _⟩⟩
    rotate_left
    · exact absurd H0.out h1
    have HSt : Hid (Both W w4 rp rb (rmN key long) (rmN key long) ∧ GoodR (rmN key long)) := ⟨both_new HB1.out HB3.out HR3.out HM3.out hb4 hr, rm_good H0.out⟩
    clear hb4 hr h1 HRn HR3 HM3 HB3 HB1 H0
    go_wp2
    go_loopg [12, 13] n (fun g s14 s15 wr => ∃ (k : Nat) (la : ByteArray), k ≤ n ∧ n - k ≤ g ∧ s14 = .string la ∧ s15 = .int .i64 k ∧ la.size ≤ 400 ∧ Hid (∃ r, Both W wr rp rb r r ∧ GoodR r ∧ r.ser ≤ (k : Int) + 1))
    case atStart => exact ⟨0, ⟨#[]⟩, Nat.zero_le _, by omega, rfl, rfl, by decide, ⟨_, HSt.out.1, HSt.out.2, Int.le_refl _⟩⟩
    case round =>
      obtain ⟨k, la, hk, hg, rfl, rfl, hla, HK⟩ := hrel
      obtain ⟨r, hst, hgood, hser⟩ := HK.out
      have HSk := hide hst
      have HG := hide hgood
      have HSe := hide hser
      clear HK hst hgood hser HSt
      by_cases hlt : k < n
      · obtain ⟨b, o, rfl, hbw, hcs⟩ := HV.out (by omega)
        obtain ⟨q, hq⟩ : ∃ q, l[k]? = some q := ⟨l[k]'(by rw [HN.out]; exact hlt), List.getElem?_eq_getElem _⟩
        obtain ⟨c0, c1, c2, c3, c4, c5⟩ := both_ask HSk.out hbw (hcs k q hq)
        have HA := hide (asked_any a W rp rb r q la wr HSk.out HG.out HE.out (HS.out q (List.mem_of_getElem? hq)) (by unfold maxLen; omega))
        have HSn : Hid (∀ w, Both W w rp rb (r.after q la) (r.after q la) → ∃ r, Both W w rp rb r r ∧ GoodR r ∧ r.ser ≤ ((k + 1 : Nat) : Int) + 1) := fun w hw => ⟨_, hw, HG.out.after q _, by have := after_ser r q la; have := HSe.out; omega⟩
        have hgl := HG.out.gives q la
        have hg2 := HG.out.after q la
        unfold AskPost at HA
        generalize r.after q la = r2 at *
        generalize r.gives q la = gv at *
        obtain ⟨kind, qa, qb, qs, qn, qi⟩ := q
        dsimp only at c0 c1 c2 c3 c4 c5 HA
        clear hcs hq HSk HG
        go_wp2_with fail
        refine HA.out.mono ?_
        rintro e w5 ⟨rfl, hst⟩
        have HS5 := hide (HSn.out w5 hst)
        obtain ⟨_, hseat⟩ := both_seat hst hg2 ⟨#[]⟩
        have f2 := hseat.time
        have HTi := hide (both_time hst)
        have HFk : Hid (∀ w, Below w5.heap.size w5 w → w.cell? ⟨rb, 2, none⟩ = some (.int .i64 r2.time)) := fun w hb => (hb.cell (p := ⟨rb, 2, none⟩) (cell_lt f2)).trans f2
        have HD5 : Hid (Below w5.heap.size w5 w5.drew) := (Below.refl _ _).drew
        have HBn : Hid (∀ w, Below w5.heap.size w5 w → ∃ r, Both W w rp rb r r ∧ GoodR r ∧ r.ser ≤ ((k + 1 : Nat) : Int) + 1) := fun w hb => by
          obtain ⟨r, h1, h2, h3⟩ := HS5.out
          exact ⟨r, h1.below hb, h2, h3⟩
        clear hst HA HSn c0 c1 c2 c3 c4 c5 hseat hg2 HS5
        generalize r2.time = tm at *
        go_wp2_with fail
        go_region_held3 (fun w' => w'.cell? ⟨rb, 2, none⟩ = some (.int .i64 tm)) (first | go_keep | assumption)
          (first | (go_at_call 26; refine (HTi.out _ HD5.out).mono ?_; rintro e w6 ⟨rfl, hb⟩; have HB6 : Hid (Below w5.heap.size w5 w6) := HD5.out.trans (hb.mono HD5.out.size); have f3 := HFk.out w6 HB6.out; clear hb))
        all_goals
          have HS6 := hide (HBn.out w6 HB6.out)
          clear HFk HTi HBn HD5 HB6
          cases hgv : (gv.toList == []) with
          | true =>
            go_wp2
            go_roundg (n - (k + 1))
            case measure => omega
            case rel => exact ⟨k + 1, la, by omega, Nat.le_refl _, rfl, by go_num, hla, HS6⟩
          | false =>
            go_wp2
            go_roundg (n - (k + 1))
            case measure => omega
            case rel => exact ⟨k + 1, gv, by omega, Nat.le_refl _, rfl, by go_num, hgl, HS6⟩
      · clear HSe HV HN HS
        obtain ⟨bp, mb, v, bb, mv, lv, hT⟩ := HSk.out
        have HPa := hide hT.past
        have HCp := hide (rpCopy_any rp bp mb v r wr hT.mine (Nat.le_trans HG.out.few (by decide)))
        have HT := hide hT
        obtain ⟨ma, mc, rfl, _⟩ := row_form hT.ref.book.2
        obtain ⟨la2, lc, rfl, _⟩ := hT.ref.feed.enAt.form
        clear hT HSk
        go_wp2_with fail
        refine HCp.out.mono ?_
        rintro e w5 ⟨cp, rfl, bp2, mb2, v2, hc1, _, hc3⟩
        have HM6 := hide (HT.out.mine.below hc3)
        have HR6 := hide (HT.out.ref.below hc3)
        have HP6 : Hid (∀ w, Below w5.heap.size w5 w → Below W.heap.size W w) := fun w hb => (HPa.out.trans (hc3.mono HPa.out.size)).trans (hb.mono (HPa.out.trans (hc3.mono HPa.out.size)).size)
        have HC6 := hide hc1
        clear hc1 hc3 HCp HPa HT
        have HS1 := hide (fun w (hb : Below w5.heap.size w5 w) => same_any rp bp mb v cp bp2 mb2 v2 r w (HM6.out.below hb) (HC6.out.below hb) HG.out)
        have HS2 := hide (fun w => same_nil rp w)
        have HS3 := hide (fun w => same_nils w)
        have HPe := hide (fun w (hb : Below w5.heap.size w5 w) => rpPeople_any rp bp mb v r w (HM6.out.below hb))
        have HSp := hide (fun w (hb : Below w5.heap.size w5 w) b1 u hu => samePeople_eq b1 _ u _ r.b w hu (HR6.out.below hb).book.2 (Nat.le_trans HG.out.book.few (by decide)))
        have HFe := hide (fun w (hb : Below w5.heap.size w5 w) => rpFeed_any rp bp mb v r w (HM6.out.below hb) (Nat.le_trans HG.out.few (by decide)))
        have HSe := hide (fun w (hb : Below w5.heap.size w5 w) u hu => sameEntries_eq u _ r.l w hu (HR6.out.below hb).feed.enAt (Nat.le_trans HG.out.few (by decide)))
        have HCl : Hid (∀ w, Below w5.heap.size w5 w → w.cell? ⟨rb, 4, none⟩ = some (.pointer (some ⟨bb, 0, none⟩)) ∧ w.cell? ⟨rb, 5, none⟩ = some (.slice la2 r.l.length lc) ∧ w.cell? ⟨bb, 0, none⟩ = some (.slice ma r.b.length mc)) := fun w hb => by
          have h' := HR6.out.below hb
          obtain ⟨_, _, _, _, c4, c5⟩ := rm_cells h'.row
          exact ⟨c4, c5, cell_of_row w bb 0 _ _ _ h'.book.1⟩
        have HB0 : Hid (Below w5.heap.size w5 w5.drew) := (Below.refl _ _).drew
        obtain ⟨x4, x5, x0⟩ := HCl.out w5 (Below.refl _ _)
        clear HM6 HR6 HC6 HG
        generalize r.l.length = n1 at *
        generalize r.b.length = n2 at *
        go_wp2_with fail
        go_region_held3 (fun w' => w'.cell? ⟨rb, 4, none⟩ = some (.pointer (some ⟨bb, 0, none⟩)) ∧ w'.cell? ⟨rb, 5, none⟩ = some (.slice la2 n1 lc) ∧ w'.cell? ⟨bb, 0, none⟩ = some (.slice ma n2 mc)) (first | go_keep | assumption)
          (first
            | (go_at_call 28; refine (HS1.out _ HB0.out).mono ?_; rintro e w6 ⟨rfl, hb⟩; have HB1 : Hid (Below w5.heap.size w5 w6) := HB0.out.trans (hb.mono HB0.out.size); clear hb HS1; obtain ⟨i4, i5, i0⟩ := HCl.out _ HB1.out)
            | (go_at_call 28; refine (HS2.out _).mono ?_; rintro e w7 ⟨rfl, rfl⟩; clear HS2)
            | (go_at_call 28; refine (HS3.out _).mono ?_; rintro e w8 ⟨rfl, rfl⟩; clear HS3)
            | (go_at_call 30; refine (HPe.out _ HB1.out).mono ?_; rintro e w9 ⟨u9, rfl, ho, hb⟩; have HB2 : Hid (Below w5.heap.size w5 w9) := HB1.out.trans (hb.mono HB1.out.size); have HO := hide ho; clear hb ho HPe; obtain ⟨j4, j5, j0⟩ := HCl.out _ HB2.out)
            | (go_at_call 29; refine (HSp.out _ HB2.out _ _ HO.out).mono ?_; rintro e wa ⟨rfl, hb⟩; have HB3 : Hid (Below w5.heap.size w5 wa) := HB2.out.trans (hb.mono HB2.out.size); clear hb HSp; obtain ⟨k4, k5, k0⟩ := HCl.out _ HB3.out)
            | (go_at_call 16; refine (HFe.out _ HB3.out).mono ?_; rintro e wb ⟨ub, rfl, ho, hb⟩; have HB4 : Hid (Below w5.heap.size w5 wb) := HB3.out.trans (hb.mono HB3.out.size); have HU := hide ho.enAt; clear hb ho HFe; obtain ⟨l4, l5, l0⟩ := HCl.out _ HB4.out)
            | (go_at_call 31; refine (HSe.out _ HB4.out _ HU.out).mono ?_; rintro e wc ⟨rfl, hb⟩; have HB5 : Hid (Below w5.heap.size w5 wc) := HB4.out.trans (hb.mono HB4.out.size); clear hb HSe; obtain ⟨m4, m5, m0⟩ := HCl.out _ HB5.out))
        all_goals
          go_wp2
          go_ret
          exact ⟨rfl, HP6.out _ HB5.out⟩
end Go.Proofs.YtabpnjchocgakaaGreatDoor

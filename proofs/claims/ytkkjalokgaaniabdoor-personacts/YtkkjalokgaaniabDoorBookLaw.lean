/-
  What the statements' helpers SamePeople (of the same people) and peopled answer; a row of people as memory holds it.
-/
import Derived.Test.YtkkjalokgaaniabDoorBookAll
import Derived.Test.YtkkjalokgaaniabDoorBookDo4
import Derived.Deep.QuietTactic
import Derived.BigQuiet
namespace Go.Proofs.YtkkjalokgaaniabDoor
open Go Go.RowKit Go.Extern.Stop Go.Stop Go.Extern Go.Maps

/-- A row's slice, and its cells. -/
theorem row_form {w : World} {base : Nat} {v : Value} {L : List Per} (h : w.ownsRow base 24 4 v L.length (cellsP L)) : ∃ ad cap, v = .slice ad L.length cap ∧ L.length ≤ cap := by
  rcases h.2 with ⟨rfl, h0⟩ | ⟨g, cap, cur, rfl, _, _, hc, _⟩
  · exact ⟨none, 0, by rw [h0], by omega⟩
  · exact ⟨_, _, rfl, hc⟩
theorem prow_cells {w : World} {base : Nat} {ad : Option Addr} {cap : Nat} {L : List Per} (h : w.ownsRow base 24 4 (.slice ad L.length cap) L.length (cellsP L)) (hn : 0 < L.length) :
    ∃ g, ad = some ⟨g, 0, none⟩ ∧ base ≤ g ∧ ∀ i p, L[i]? = some p → w.cell? ⟨g, i * 4, none⟩ = some (.string p.name) ∧ w.cell? ⟨g, i * 4 + 1, none⟩ = some (.int .i64 p.key) ∧ w.cell? ⟨g, i * 4 + 2, none⟩ = some (.int .i64 p.epoch) ∧ w.cell? ⟨g, i * 4 + 3, none⟩ = some (.bool p.off) := by
  rcases h.2 with ⟨_, h0⟩ | ⟨g, cap', cur, e, hb, hg, hc, _, _, ht⟩
  · omega
  · cases e
    refine ⟨g, rfl, hb, fun i p hp => ?_⟩
    obtain ⟨hi, rfl⟩ := List.getElem?_eq_some_iff.1 hp
    have key : ∀ j (_ : j < 4) u, (L[i].cells)[j]? = some u → w.cell? ⟨g, i * 4 + j, none⟩ = some u := fun j hj u hu => by
      have e := cellsP_at L i j hi hj
      rw [hu, ← ht, List.getElem?_take] at e
      rw [cell_of_row w g _ cur _ _ hg]
      split at e
      · simpa using e
      · cases e
    exact ⟨key 0 (by decide) _ rfl, key 1 (by decide) _ rfl, key 2 (by decide) _ rfl, key 3 (by decide) _ rfl⟩

set_option maxRecDepth 100000 in
set_option maxHeartbeats 1000000 in
theorem samePeople_eq (b1 b2 : Nat) (v1 v2 : Value) (L : List Per) (w : World) (h1 : w.ownsRow b1 24 4 v1 L.length (cellsP L)) (h2 : w.ownsRow b2 24 4 v2 L.length (cellsP L)) (hn : L.length ≤ 1000) :
    Calls Tryd.prog 23 #[v1, v2] w fun e w' => e = .returned (.int .i64 1) ∧ Below w.heap.size w w' := by
  obtain ⟨ad1, cap1, rfl, hc1⟩ := row_form h1
  obtain ⟨ad2, cap2, rfl, hc2⟩ := row_form h2
  have H1 := hide (fun hn => prow_cells h1 hn)
  have H2 := hide (fun hn => prow_cells h2 hn)
  clear h1 h2
  generalize hl : L.length = n at hn hc1 hc2 ⊢
  have HL := hide hl
  clear hl
  go_enter Tryd.func23, Tryd.ntmps23
  go_wp2
  go_loopw [5] (fun i wr => ∃ k q : Nat, k ≤ n ∧ i = .int .i64 k ∧ wr = w.drewN q) (fun i _ => n - (intOf i).toNat)
  case atStart => exact ⟨0, 0, Nat.zero_le _, rfl, rfl⟩
  case round =>
    obtain ⟨k, q, hk, rfl, rfl⟩ := hrel
    by_cases hlt : k < n
    · obtain ⟨g1, rfl, _, hcs1⟩ := H1.out (by rw [HL.out]; omega)
      obtain ⟨g2, rfl, _, hcs2⟩ := H2.out (by rw [HL.out]; omega)
      obtain ⟨p, hp⟩ : ∃ p, L[k]? = some p := ⟨L[k]'(by rw [HL.out]; exact hlt), List.getElem?_eq_getElem _⟩
      obtain ⟨x0, x1, x2, x3⟩ := hcs1 k p hp
      obtain ⟨y0, y1, y2, y3⟩ := hcs2 k p hp
      clear hcs1 hcs2 hp
      go_wp2
      go_quiet (fail)
      go_wp2
      go_roundw
      case rel => exact ⟨k + 1, q + nq, by omega, by go_num, rfl⟩
      case measure => simp [intOf]; omega
    · go_wp2
      go_ret
      exact ⟨rfl, below_drewN (Below.refl _ _) _⟩

/-- ann. -/
abbrev annB : ByteArray := { data := #[97, 110, 110] }
theorem ann_add : addP [] annB 5 = (0, [⟨annB, 5, 1, false⟩]) := rfl
theorem ann_raise : raiseP [⟨annB, 5, 1, false⟩] annB = (2, 0, [⟨annB, 5, 2, false⟩]) := rfl
theorem ann_get : getP [⟨annB, 5, 2, false⟩] annB = some ⟨annB, 5, 2, false⟩ := rfl

set_option maxRecDepth 100000 in
set_option maxHeartbeats 2000000 in
theorem peopled_any (a : Nat → Addr) (w : World) (hE : EV perS a w) :
    Calls Tryd.prog 6 #[] w fun e w' => e = .returned (.bool true) ∧ Below w.heap.size w w' := by
  have HE := hide hE
  have HN := hide (new_any w)
  have hs : annB.size ≤ maxLen := by decide
  clear hE
  go_enter Tryd.func6, Tryd.ntmps6
  go_wp2_with fail
  refine HN.out.mono ?_
  rintro e w1 ⟨rfl, hk, hb⟩
  have HB1 := hide hb
  have HA := hide (add_any a _ _ _ annB 5 w1 hk (HE.out.below hb) hs)
  rw [ann_add] at HA
  clear hk hb
  go_wp2_with fail
  refine HA.out.mono ?_
  rintro e w2 ⟨rfl, hk, hg⟩
  have HB2 := hide (HB1.out.grown hg HB1.out.size (fun j hj => by cases hj; exact Nat.le_refl _))
  have HR := hide (praise_any a _ _ _ annB w2 hk (HE.out.below HB2.out) hs)
  rw [ann_raise] at HR
  clear hk hg
  rw [errV_zero] at *
  go_wp2_with fail
  refine HR.out.mono ?_
  rintro e w3 ⟨rfl, hk, hg⟩
  have HB3 := hide (HB2.out.grown hg HB2.out.size (fun j hj => by cases hj; exact Nat.le_refl _))
  have HG := hide (get_yes _ _ _ annB w3 hk hs _ ann_get)
  clear hk hg
  go_wp2_with fail
  refine HG.out.mono ?_
  rintro e w4 ⟨rfl, hb⟩
  have HB4 := hide (HB3.out.trans (hb.mono HB3.out.size))
  clear hb
  go_wp2
  go_ret
  exact ⟨rfl, HB4.out.alloc HB4.out.size _⟩

/-- An act. -/
structure ActD where
  kind : ByteArray
  name : ByteArray
  key : Int
  is : Bool
/-- Acts in memory. -/
def ActsAt (w : World) (v : Value) (l : List ActD) : Prop := ∃ ad cap, v = .slice ad l.length cap ∧ l.length ≤ cap ∧ (0 < l.length → ∃ b o, ad = some ⟨b, o, none⟩ ∧ b < w.heap.size ∧ ∀ i x, l[i]? = some x → w.cell? ⟨b, o + i * 4, none⟩ = some (.string x.kind) ∧ w.cell? ⟨b, o + i * 4 + 1, none⟩ = some (.string x.name) ∧ w.cell? ⟨b, o + i * 4 + 2, none⟩ = some (.int .i64 x.key) ∧ w.cell? ⟨b, o + i * 4 + 3, none⟩ = some (.bool x.is))
theorem ActsAt.below {w w' : World} {v : Value} {l : List ActD} (h : ActsAt w v l) (hb : Below w.heap.size w w') : ActsAt w' v l := by
  obtain ⟨ad, cap, h1, h2, h3⟩ := h
  refine ⟨ad, cap, h1, h2, fun hn => ?_⟩
  obtain ⟨b, o, h4, h5, h6⟩ := h3 hn
  refine ⟨b, o, h4, Nat.lt_of_lt_of_le h5 hb.size, fun i x hx => ?_⟩
  obtain ⟨c0, c1, c2, c3⟩ := h6 i x hx
  exact ⟨by rw [hb.cell (p := ⟨b, _, none⟩) h5]; exact c0, by rw [hb.cell (p := ⟨b, _, none⟩) h5]; exact c1, by rw [hb.cell (p := ⟨b, _, none⟩) h5]; exact c2, by rw [hb.cell (p := ⟨b, _, none⟩) h5]; exact c3⟩
/-- Acts that are not too many, nor too long. -/
def Short (l : List ActD) : Prop := l.length ≤ 80 ∧ ∀ x ∈ l, x.kind.size ≤ 20 ∧ x.name.size ≤ 20

def LongPost (l : List ActD) (e : Ending) : Prop := ∃ b, e = .returned (.bool b) ∧ (b = false → Short l)
theorem long_yes (l : List ActD) : LongPost l (.returned (.bool true)) := ⟨true, rfl, fun h => by cases h⟩
theorem long_no {l : List ActD} (h : Short l) : LongPost l (.returned (.bool false)) := ⟨false, rfl, fun _ => h⟩

set_option maxRecDepth 100000 in
set_option maxHeartbeats 1000000 in
theorem longActs_any (v : Value) (l : List ActD) (w : World) (h : ActsAt w v l) (hm : l.length ≤ maxLen) (hs : ∀ x ∈ l, x.kind.size ≤ maxLen ∧ x.name.size ≤ maxLen) :
    Calls Tryd.prog 7 #[v] w fun e w' => LongPost l e ∧ w' = w := by
  obtain ⟨ad, cap, rfl, hc, h⟩ := h
  have HC := hide h
  have HS := hide hs
  clear h hs
  generalize hl : l.length = n at hm hc ⊢
  have HL := hide hl
  clear hl
  unfold maxLen at hm
  by_cases h80 : 80 < n
  · go_enter Tryd.func7, Tryd.ntmps7
    go_wp2
    go_ret
    exact ⟨long_yes l, rfl⟩
  · go_enter Tryd.func7, Tryd.ntmps7
    go_wp2
    go_loop [3] (fun i => ∃ k : Nat, k ≤ n ∧ i = .int .i64 k ∧ Hid (∀ j x, j < k → l[j]? = some x → x.kind.size ≤ 20 ∧ x.name.size ≤ 20)) (fun i => n - (intOf i).toNat)
    case atStart => exact ⟨0, Nat.zero_le _, rfl, fun j _ hj _ => absurd hj (Nat.not_lt_zero _)⟩
    case round =>
      obtain ⟨k, hk, rfl, A⟩ := hrel
      by_cases hlt : k < n
      · obtain ⟨b, o, rfl, _, hcs⟩ := HC.out (by rw [HL.out]; omega)
        obtain ⟨x, hx⟩ : ∃ x, l[k]? = some x := ⟨l[k]'(by rw [HL.out]; exact hlt), List.getElem?_eq_getElem _⟩
        obtain ⟨c0, c1, _, _⟩ := hcs k x hx
        have HX := hide hx
        obtain ⟨hs1, hs2⟩ := HS.out x (List.mem_of_getElem? hx)
        unfold maxLen at hs1 hs2
        clear hcs hx
        by_cases h1 : 20 < x.kind.size
        · go_wp2
          go_ret
          exact ⟨long_yes l, rfl⟩
        · by_cases h2 : 20 < x.name.size
          · go_wp2
            go_ret
            exact ⟨long_yes l, rfl⟩
          · go_wp2
            go_round
            case rel =>
              refine ⟨k + 1, by omega, by go_num, (show Hid _ from fun j y hj hy => ?_)⟩
              by_cases e : j = k
              · subst e
                rw [HX.out] at hy
                cases hy
                exact ⟨by omega, by omega⟩
              · exact A.out j y (by omega) hy
            case measure => simp [intOf]; omega
      · go_wp2
        go_ret
        refine ⟨long_no ⟨by rw [HL.out]; omega, fun x hx => ?_⟩, rfl⟩
        obtain ⟨j, hj, rfl⟩ := List.getElem_of_mem hx
        exact A.out j _ (by rw [HL.out] at hj; omega) (List.getElem?_eq_getElem hj)
end Go.Proofs.YtkkjalokgaaniabDoor

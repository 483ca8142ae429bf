/-
  The library's iterator over a text's pieces between commas, against a loop body that takes floors: what it gives, piece by piece, until the body says no more.
-/
import Derived.Test.YtgkkffcbneabkabGreatDoorFloorReadOne
import Derived.RangeFuncGives
import Derived.Shelf.SlIter.Collect
import Derived.WalkKit
import Derived.OwnWalkIn
import Derived.TacticsInMore
import Derived.RegionIn
import Derived.LoopNIn
import Derived.LoopIn
import Derived.Sort.LoopGhostIn
namespace Go.Proofs.YtgkkffcbneabkabGreatDoor
open Go Go.RowKit Go.Extern.Stop Go.Stop Go.Extern Go.Proofs

/-- The iterator's own three boxes read as they did. -/
def KeepB (Bs : Nat) (W W' : World) : Prop := ∀ k, Bs ≤ k → k < Bs + 3 → W'.heap[k]? = W.heap[k]?
/-- The iterator's boxes: what is left, the byte between, how much of it is kept. -/
structure SplitAt (Bs : Nat) (rest : ByteArray) (W : World) : Prop where
  s : W.heap[Bs]? = some (.cells #[.string rest] 9 (0, 0))
  sep : W.heap[Bs + 1]? = some (.cells #[.string ⟨#[44]⟩] 9 (0, 0))
  save : W.heap[Bs + 2]? = some (.cells #[.int .i64 0] 3 (0, 0))
theorem SplitAt.keep {Bs : Nat} {rest : ByteArray} {W W' : World} (h : SplitAt Bs rest W) (hk : KeepB Bs W W') : SplitAt Bs rest W' :=
  ⟨by rw [hk Bs (by omega) (by omega)]; exact h.s, by rw [hk (Bs + 1) (by omega) (by omega)]; exact h.sep, by rw [hk (Bs + 2) (by omega) (by omega)]; exact h.save⟩
theorem SplitAt.set {Bs : Nat} {rest : ByteArray} {W : World} (h : SplitAt Bs rest W) (t : ByteArray) : SplitAt Bs t (W.setCell ⟨Bs, 0, none⟩ (.string t)) :=
  ⟨heap_setCell_same W Bs 0 _ _ _ h.s, by rw [heap_setCell_other W ⟨Bs, 0, none⟩ (Bs + 1) _ (by show Bs + 1 ≠ Bs; omega)]; exact h.sep, by rw [heap_setCell_other W ⟨Bs, 0, none⟩ (Bs + 2) _ (by show Bs + 2 ≠ Bs; omega)]; exact h.save⟩

/-- What a round answers of a piece. -/
def RoundPost (Bs : Nat) (J : List Fl → World → Prop) (Jx : World → Prop) (ss : List Fl) (W : World) : Option Fl → Ending → World → Prop
  | some f => fun e W' => e = .returned (.bool true) ∧ J (ss ++ [f]) W' ∧ KeepB Bs W W'
  | none => fun e W' => e = .returned (.bool false) ∧ Jx W'

theorem readAll_len : ∀ (d : List (List UInt8)) (r : List Fl), readAllL d = some r → r.length = d.length
  | [], r, h => by cases h; rfl
  | p :: d, r, h => by
    rw [readAllL_cons] at h
    cases hp : readOneL p with
    | none => rw [hp] at h; cases h
    | some f =>
      cases hd : readAllL d with
      | none => rw [hp, hd] at h; cases h
      | some q =>
        rw [hp, hd] at h
        cases h
        rw [List.length_cons, List.length_cons, readAll_len d q hd]
theorem readAll_yes {d : List (List UInt8)} {ss : List Fl} {p : List UInt8} {f : Fl} (h : readAllL d = some ss) (hp : readOneL p = some f) : readAllL (d ++ [p]) = some (ss ++ [f]) := by
  rw [readAll_append, h, readAllL_cons, hp]
  rfl
theorem readAll_no {d : List (List UInt8)} {ss : List Fl} {p : List UInt8} (h : readAllL d = some ss) (hp : readOneL p = none) (r : List (List UInt8)) : readAllL (d ++ p :: r) = none := by
  rw [readAll_append, h, readAllL_cons, hp]
  rfl

set_option maxRecDepth 100000 in
set_option maxHeartbeats 4000000 in
theorem split1_in (F : Fence) (n : Nat) (hF : F.fn 130) (hFi : F.fn 132) (hro : F.round = none) (hn : 1 ≤ n) (l Bs : Nat) (s : ByteArray) (hs : s.size ≤ 4000) (J : List Fl → World → Prop) (Jx : World → Prop)
    (HI : ∀ (t : ByteArray) (W : World), CallsIn F (n - 1) Tryz.prog 132 #[.string t, .string ⟨#[44]⟩] W fun e w' => e = .returned (.int .i64 (Lib.indexByte t.data.toList 44)) ∧ w' = W)
    (hS : ∀ ss W t, J ss W → J ss (W.setCell ⟨Bs, 0, none⟩ (.string t)))
    (hY : ∀ ss (p : ByteArray) W, J ss W → p.size ≤ 4000 → ss.length ≤ 4001 → YieldAt F (n - 1) Tryz.prog l #[.string p] W (RoundPost Bs J Jx ss W (readOneL p.data.toList)))
    (W : World) (h : SplitAt Bs s W) (h0 : J [] W) :
    CallsIn F n Tryz.prog 130 #[.func (.yield l) #[] #[], .pointer (some ⟨Bs + 1, 0, none⟩), .pointer (some ⟨Bs, 0, none⟩), .pointer (some ⟨Bs + 2, 0, none⟩)] W fun e W' => (∃ v, e = .returned v) ∧ ((∃ r, readAllL (cutB 44 s.data.toList) = some r ∧ J r W') ∨ (readAllL (cutB 44 s.data.toList) = none ∧ Jx W')) := by
  refine callsIn_of_wp Tryz.func130 rfl hF ?_ hro
  simp only [Tryz.ntmps130, List.size_toArray, List.length_cons, List.length_nil, Nat.reduceAdd, Nat.reduceSub, Array.replicate_succ, Array.replicate_zero, List.push_toArray, List.append_toArray, List.nil_append, List.cons_append]
  have hc0 := (cell_of_box_a h.s).1
  have hc1 := (cell_of_box_a h.sep).1
  have HH := hide h
  have H0 := hide h0
  have HS := hide hS
  have HY := hide hY
  have HI2 := hide HI
  have HBd : Hid ((cutB 44 s.data.toList).length ≤ 4001) := by
    have := cutB_len 44 s.data.toList
    rw [size_list] at this
    show _ ≤ _
    omega
  generalize hres : readAllL (cutB 44 s.data.toList) = res
  have HRes := hide hres
  clear h h0 hS hY HI hres
  gi_wp2
  gi_loopg [7, 8] s.size (fun gg _ _ wr => ∃ (rest : ByteArray) (dn : List (List UInt8)) (ss : List Fl), rest.size ≤ gg ∧ rest.size ≤ 4000 ∧ Hid (SplitAt Bs rest wr) ∧ Hid (cutB 44 s.data.toList = dn ++ cutB 44 rest.data.toList) ∧ Hid (readAllL dn = some ss) ∧ Hid (J ss wr))
  case atStart => exact ⟨s, [], [], Nat.le_refl _, hs, HH, (show Hid _ from rfl), (show Hid _ from rfl), H0⟩
  case round =>
    clear HH H0 hc0 hc1
    obtain ⟨rest, dn, ss, hgg, hr4, HSp, HCut, HRd, HJ⟩ := hrel
    have hc0 := (cell_of_box_a HSp.out.s).1
    have hc1 := (cell_of_box_a HSp.out.sep).1
    have hc2 := (cell_of_box_a HSp.out.save).1
    have hf0 := (cell_of_box_a HSp.out.s).2
    have HSl : Hid (ss.length ≤ 4001) := by
      have h1 := readAll_len dn ss HRd.out
      have h2 := HBd.out
      rw [HCut.out, List.length_append] at h2
      show _ ≤ _
      omega
    rcases first_cut 44 rest.data.toList with h | ⟨a, t, h, ha⟩
    · have hi := HI2.out rest wr
      rw [indexB_none 44 _ h] at hi
      have HC2 : Hid (cutB 44 s.data.toList = dn ++ [rest.data.toList]) := by
        have := HCut.out
        rw [cutB_plain 44 _ h] at this
        exact this
      obtain ⟨fn, tmps, assign, body, hy, hR⟩ := HY.out ss rest wr HJ.out hr4 HSl.out
      have HII := hide hi
      have HRR := hide hR
      clear h hi hR
      gi_wp2_with (gi_at_call 132; refine HII.out.mono ?_; rintro e w' ⟨rfl, rfl⟩)
      refine HRR.out.mono ?_
      cases hq : readOneL rest.data.toList with
      | some f =>
        rintro e W3 ⟨rfl, hJ3, _⟩
        gi_wp2
        go_end0
        exact ⟨⟨_, rfl⟩, Or.inl ⟨ss ++ [f], by rw [← HRes.out, HC2.out]; exact readAll_yes HRd.out hq, hJ3⟩⟩
      | none =>
        rintro e W3 ⟨rfl, hJ3⟩
        gi_wp2
        go_end0
        exact ⟨⟨_, rfl⟩, Or.inr ⟨by rw [← HRes.out, HC2.out]; exact readAll_no HRd.out hq [], hJ3⟩⟩
    · obtain ⟨x1, x2⟩ := extract_ahead rest a t 44 h
      have hi := HI2.out rest wr
      rw [h, indexB_some 44 t a ha] at hi
      have hl := congrArg List.length h
      rw [size_list, List.length_append, List.length_cons] at hl
      have HC2 : Hid (cutB 44 s.data.toList = (dn ++ [a]) ++ cutB 44 (rest.extract (a.length + 1) rest.size).data.toList) := by
        have := HCut.out
        rw [h, cutB_cut, cutB_plain 44 a ha, ← List.append_assoc] at this
        rw [x2]
        exact this
      have hsz1 : (rest.extract 0 a.length).size ≤ 4000 := by rw [x1, txt_size]; omega
      have hsz2 : (rest.extract (a.length + 1) rest.size).size + 1 ≤ rest.size := by rw [x2, txt_size]; omega
      have hp1 : (rest.extract 0 a.length).data.toList = a := by rw [x1]
      obtain ⟨fn, tmps, assign, body, hy, hR⟩ := HY.out ss (rest.extract 0 a.length) wr HJ.out hsz1 HSl.out
      rw [hp1] at hR
      have HII := hide hi
      have HRR := hide hR
      have HA := hide (fun (b : List UInt8) (hb : b = a) => hb)
      have hk1 : (0 : Int) ≤ (a.length : Int) := by omega
      have hk2 : (a.length : Int) ≤ (rest.size : Int) := by omega
      have hk3 : (a.length : Int) + 1 ≤ (rest.size : Int) := by omega
      have hk4 : IntKind.i64.wrap ((a.length : Int) + 1) = (a.length : Int) + 1 := by rw [IntKind.wrap_i64]; omega
      have hk5 : (0 : Int) ≤ (a.length : Int) + 1 := by omega
      have hk6 : ¬ (a.length : Int) < 0 := by omega
      have HSz := hide hsz2
      clear h ha hi hR x1 x2 hp1 hsz1 hl hsz2 HA
      generalize a.length = k at *
      gi_wp2_with (gi_at_call 132; refine HII.out.mono ?_; rintro e w' ⟨rfl, rfl⟩)
      refine HRR.out.mono ?_
      cases hq : readOneL a with
      | some f =>
        rintro e W3 ⟨rfl, hJ3, hkb⟩
        have HS3 := hide (HSp.out.keep hkb)
        have HJ3 := hide hJ3
        have HQ := hide hq
        clear hJ3 hkb hq hc0 hc1 hc2 hf0
        have hc0 := (cell_of_box_a HS3.out.s).1
        have hc1 := (cell_of_box_a HS3.out.sep).1
        have hf0 := (cell_of_box_a HS3.out.s).2
        gi_wp2
        gi_roundg (rest.extract (k + 1) rest.size).size
        case measure => have := HSz.out; omega
        case rel => exact ⟨rest.extract (k + 1) rest.size, dn ++ [a], ss ++ [f], Nat.le_refl _, by have := HSz.out; omega, HS3.out.set _, HC2, readAll_yes HRd.out HQ.out, HS.out _ _ _ HJ3.out⟩
      | none =>
        rintro e W3 ⟨rfl, hJ3⟩
        gi_wp2
        refine bodyPost_ret (results_none rfl _ _ _) rfl ?_
        exact ⟨⟨_, rfl⟩, Or.inr ⟨by rw [← HRes.out, HC2.out, List.append_assoc]; exact readAll_no HRd.out hq _, hJ3⟩⟩
end Go.Proofs.YtgkkffcbneabkabGreatDoor

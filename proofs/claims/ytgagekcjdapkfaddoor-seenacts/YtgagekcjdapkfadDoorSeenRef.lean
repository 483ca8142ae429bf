/-
  What was seen as the document's answer holds it, in memory: its block, and behind it the row of its words; what its Ask answers where a word may not come at all, and what its Words gives.
-/
import Derived.Test.YtgagekcjdapkfadDoorSeenWords
import Derived.Test.YtgagekcjdapkfadDoorSealRef
import Derived.Laws.Rows
import Derived.OwnWalk
import Derived.Laws.AppendOwnNone
import Derived.WalkKit
namespace Go.Proofs.YtgagekcjdapkfadDoor
open Go.RowKit Go.Extern.Stop Go.Stop Go.Extern

def cellsW (L : List Wd) : List Value := L.flatMap fun p => [.string p.s, .int .i64 p.t]
theorem cellsW_cons (p : Wd) (L : List Wd) : cellsW (p :: L) = .string p.s :: .int .i64 p.t :: cellsW L := rfl
theorem cellsW_len : ∀ L : List Wd, (cellsW L).length = L.length * 2
  | [] => rfl
  | p :: L => by
    have := cellsW_len L
    rw [cellsW_cons, List.length_cons, List.length_cons, List.length_cons, this]
    omega
theorem cellsW_append (L M : List Wd) : cellsW (L ++ M) = cellsW L ++ cellsW M := by simp [cellsW]
theorem cellsW_one : ∀ L : List Wd, ∀ u ∈ cellsW L, u.oneCell' = true
  | [], u, hu => by simp [cellsW] at hu
  | p :: L, u, hu => by
    rw [cellsW_cons] at hu
    rcases List.mem_cons.1 hu with rfl | hu
    · rfl
    · rcases List.mem_cons.1 hu with rfl | hu
      · rfl
      · exact cellsW_one L u hu
theorem cellsW_at : ∀ (L : List Wd) (i : Nat) (hi : i < L.length), (cellsW L)[i * 2]? = some (.string L[i].s) ∧ (cellsW L)[i * 2 + 1]? = some (.int .i64 L[i].t)
  | p :: L, 0, _ => ⟨rfl, rfl⟩
  | p :: L, i + 1, hi => by
    have ih := cellsW_at L i (by simpa using hi)
    rw [cellsW_cons, show (i + 1) * 2 = i * 2 + 1 + 1 by omega]
    simpa using ih
theorem cellsW_cut (L : List Wd) (k : Nat) : cellsW L = cellsW (L.take k) ++ cellsW (L.drop k) := by rw [← cellsW_append, List.take_append_drop]
theorem cellsW_take (L : List Wd) (k : Nat) (j : Nat) (u : Value) (h : (cellsW (L.take k))[j]? = some u) : (cellsW L)[j]? = some u := by
  obtain ⟨hj, _⟩ := List.getElem?_eq_some_iff.1 h
  rw [cellsW_cut L k, List.getElem?_append_left hj]
  exact h
theorem cellsW_drop (L : List Wd) (k : Nat) (hk : k ≤ L.length) (j : Nat) (u : Value) (h : (cellsW (L.drop k))[j]? = some u) : (cellsW L)[k * 2 + j]? = some u := by
  have hl : (cellsW (L.take k)).length = k * 2 := by rw [cellsW_len, List.length_take]; omega
  rw [cellsW_cut L k, List.getElem?_append_right (by omega), hl, show k * 2 + j - k * 2 = j by omega]
  exact h
abbrev OwnW (w : World) (B : Nat) (v : Value) (L : List Wd) : Prop := w.ownsRow B 55 2 v L.length (cellsW L)
/-- A row of words, read. -/
theorem own_readW {w : World} {B : Nat} {v : Value} {L : List Wd} (h : OwnW w B v L) :
    ∃ ad cap, v = .slice ad L.length cap ∧ L.length ≤ cap ∧ ((L = [] ∧ ad = none ∧ cap = 0) ∨ ∃ g, ad = some ⟨g, 0, none⟩ ∧ B ≤ g ∧ g < w.heap.size ∧ ∀ j u, (cellsW L)[j]? = some u → w.cell? ⟨g, j, none⟩ = some u) := by
  rcases h.2 with ⟨rfl, h0⟩ | ⟨g, cap, cur, rfl, hb, hg, hc, _, _, ht⟩
  · exact ⟨none, 0, by rw [h0], by omega, Or.inl ⟨List.length_eq_zero_iff.1 h0, rfl, rfl⟩⟩
  · refine ⟨_, cap, rfl, hc, Or.inr ⟨g, rfl, hb, row_lt hg, fun j u hu => ?_⟩⟩
    rw [cell_of_row w g j cur _ _ hg]
    rw [← ht, List.getElem?_take] at hu
    split at hu
    · simpa using hu
    · cases hu
theorem own_keepW {w w' : World} {B : Nat} {v : Value} {L : List Wd} (h : OwnW w B v L) (hk : ∀ g, v.ownBlock = some g → w'.heap[g]? = w.heap[g]?) : OwnW w' B v L := by
  refine ⟨h.1, ?_⟩
  rcases h.2 with g | ⟨g, cap, cur, rfl, hb, hg, hc, hm, hs, ht⟩
  · exact Or.inl g
  · exact Or.inr ⟨g, cap, cur, rfl, hb, by rw [hk g rfl]; exact hg, hc, hm, hs, ht⟩
theorem own_lessW {w : World} {B B' : Nat} {v : Value} {L : List Wd} (h : OwnW w B v L) (hb : B' ≤ B) : OwnW w B' v L := by
  refine ⟨h.1, ?_⟩
  rcases h.2 with g | ⟨g, cap, cur, rfl, hg, r⟩
  · exact Or.inl g
  · exact Or.inr ⟨g, cap, cur, rfl, Nat.le_trans hb hg, r⟩
abbrev rsO (long : Int) (v : Value) : Obj := .cells #[.int .i64 long, v] 41 (0, 0)
/-- What was seen, as the document's answer holds it. -/
structure RefSeen (w : World) (rp : Nat) (long : Int) (v : Value) (L : List Wd) : Prop where
  row : w.heap[rp]? = some (rsO long v)
  own : OwnW w (rp + 1) v L
theorem RefSeen.cells {w : World} {rp : Nat} {long : Int} {v : Value} {L : List Wd} (h : RefSeen w rp long v L) : w.cell? ⟨rp, 0, none⟩ = some (.int .i64 long) ∧ w.cell? ⟨rp, 1, none⟩ = some v :=
  ⟨cell_of_row w rp 0 _ _ _ h.row, cell_of_row w rp 1 _ _ _ h.row⟩
theorem RefSeen.same {w w' : World} {rp : Nat} {long : Int} {v : Value} {L : List Wd} (h : RefSeen w rp long v L) (hk : ∀ i c t, w.heap[i]? = some (.cells c t (0, 0)) → (i = rp ∨ t = 55) → w'.heap[i]? = w.heap[i]?) : RefSeen w' rp long v L := by
  refine ⟨(hk rp _ _ h.row (Or.inl rfl)).trans h.row, own_keepW h.own fun g hg => ?_⟩
  rcases h.own.2 with ⟨rfl, _⟩ | ⟨g', cap, cur, rfl, _, hc, _⟩
  · cases hg
  · have : g' = g := by simpa [Value.ownBlock] using hg
    subst this
    exact hk g' _ _ hc (Or.inr rfl)
theorem RefSeen.below {w w' : World} {rp : Nat} {long : Int} {v : Value} {L : List Wd} (h : RefSeen w rp long v L) (hb : Below w.heap.size w w') : RefSeen w' rp long v L :=
  h.same fun i _ _ hi _ => hb.block i (row_lt hi)

set_option maxRecDepth 100000 in
set_option maxHeartbeats 2000000 in
theorem refAsk_err (rp : Nat) (long t now : Int) (s : ByteArray) (w : World) (hc0 : w.cell? ⟨rp, 0, none⟩ = some (.int .i64 long)) (hl : 0 ≤ long ∧ long ≤ 1000000) (hs : s.size ≤ maxLen) (he : seenE long t now s ≠ 0) :
    Calls Tryd.prog 11 #[.pointer (some ⟨rp, 0, none⟩), .string s, .int .i64 t, .int .i64 now] w fun e w' => e = .returned (.int .i64 (seenE long t now s : Int)) ∧ w' = w := by
  have HW := hide (fun w => refWord_any s w hs)
  obtain ⟨hl1, hl2⟩ := hl
  have HR : Hid (∀ c : Nat, seenE long t now s = c → Calls Tryd.prog 11 #[.pointer (some ⟨rp, 0, none⟩), .string s, .int .i64 t, .int .i64 now] w (fun e w' => e = .returned (.int .i64 (c : Int)) ∧ w' = w) → Calls Tryd.prog 11 #[.pointer (some ⟨rp, 0, none⟩), .string s, .int .i64 t, .int .i64 now] w (fun e w' => e = .returned (.int .i64 (seenE long t now s : Int)) ∧ w' = w)) := fun c hc h => by rw [hc]; exact h
  have HE := hide he
  clear he
  cases hw : Sl.wordL s.data.toList with
  | false =>
    refine HR.out 1 (by unfold seenE; rw [if_pos hw]) ?_
    rw [hw] at HW
    clear hw HR hc0
    go_enter Tryd.func11, Tryd.ntmps11
    go_wp2_with fail
    refine (HW.out _).mono ?_
    rintro e w1 ⟨rfl, rfl⟩
    go_wp2
    go_ret
    exact ⟨rfl, rfl⟩
  | true =>
    have hw2 : ¬ Sl.wordL s.data.toList = false := by rw [hw]; decide
    rw [hw] at HW
    by_cases hb : (0 ≤ t ∧ t ≤ 1000000) ∧ (0 ≤ now ∧ now ≤ 1000000)
    · have hno : ¬ (¬ (0 ≤ t ∧ t ≤ 1000000) ∨ ¬ (0 ≤ now ∧ now ≤ 1000000)) := by omega
      obtain ⟨⟨h1a, h1b⟩, h2a, h2b⟩ := hb
      by_cases h3 : now + long < t
      · refine HR.out 11 (by unfold seenE; rw [if_neg hw2, if_neg hno, if_pos h3]) ?_
        clear hw HR hw2 hno
        go_enter Tryd.func11, Tryd.ntmps11
        go_wp2_with fail
        refine (HW.out _).mono ?_
        rintro e w1 ⟨rfl, rfl⟩
        go_wp2
        go_ret
        exact ⟨rfl, rfl⟩
      · by_cases h4 : t < now - long
        · refine HR.out 12 (by unfold seenE; rw [if_neg hw2, if_neg hno, if_neg h3, if_pos h4]) ?_
          clear hw HR hw2 hno
          go_enter Tryd.func11, Tryd.ntmps11
          go_wp2_with fail
          refine (HW.out _).mono ?_
          rintro e w1 ⟨rfl, rfl⟩
          go_wp2
          go_ret
          exact ⟨rfl, rfl⟩
        · exact absurd (by unfold seenE; rw [if_neg hw2, if_neg hno, if_neg h3, if_neg h4]) HE.out
    · refine HR.out 2 (by unfold seenE; rw [if_neg hw2, if_pos (by omega)]) ?_
      have hq : t < 0 ∨ (0 ≤ t ∧ 1000000 < t) ∨ ((0 ≤ t ∧ t ≤ 1000000) ∧ now < 0) ∨ ((0 ≤ t ∧ t ≤ 1000000) ∧ 0 ≤ now ∧ 1000000 < now) := by omega
      clear hw HR hw2 hb hc0
      rcases hq with q1 | ⟨q1, q2⟩ | ⟨⟨q1, q2⟩, q3⟩ | ⟨⟨q1, q2⟩, q3, q4⟩
      all_goals
        go_enter Tryd.func11, Tryd.ntmps11
        go_wp2_with fail
        refine (HW.out _).mono ?_
        rintro e w1 ⟨rfl, rfl⟩
        go_wp2
        go_ret
        exact ⟨rfl, rfl⟩
end Go.Proofs.YtgagekcjdapkfadDoor

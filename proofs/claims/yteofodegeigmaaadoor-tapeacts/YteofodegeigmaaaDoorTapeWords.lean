/-
  Texts in a slice, and that SameTexts is true of two slices of the same texts.
-/
import Derived.Test.YteofodegeigmaaaDoorSealWords
namespace Go.Proofs.YteofodegeigmaaaDoor
open Go Go.RowKit Go.Extern.Stop Go.Stop Go.Extern Go.Proofs

/-- Texts in a slice. -/
def WordsAt (w : World) (v : Value) (xs : List ByteArray) : Prop := ∃ ad c, v = .slice ad xs.length c ∧ xs.length ≤ c ∧ (xs.length = 0 ∨ ∃ b o, ad = some ⟨b, o, none⟩ ∧ Texts w b o xs)
theorem WordsAt.below {w w' : World} {v : Value} {xs : List ByteArray} (h : WordsAt w v xs) (hb : Below w.heap.size w w') : WordsAt w' v xs := by
  obtain ⟨ad, c, h1, h2, h3⟩ := h
  refine ⟨ad, c, h1, h2, ?_⟩
  rcases h3 with h3 | ⟨b, o, h4, h5⟩
  · exact Or.inl h3
  · exact Or.inr ⟨b, o, h4, h5.below hb⟩
/-- Texts as cells. -/
def cellsT (xs : List ByteArray) : List Value := xs.map Value.string
theorem cellsT_len (xs : List ByteArray) : (cellsT xs).length = xs.length := by simp [cellsT]
theorem words_own {w : World} {B : Nat} {v : Value} {xs : List ByteArray} (h : w.ownsRow B 9 1 v xs.length (cellsT xs)) : WordsAt w v xs := by
  rcases h.2 with ⟨rfl, h0⟩ | ⟨g, cap, cur, rfl, _, hg, hc, _, _, ht⟩
  · exact ⟨none, 0, by rw [h0], by omega, Or.inl h0⟩
  · refine ⟨_, cap, rfl, hc, Or.inr ⟨g, 0, rfl, fun j hj => ?_⟩⟩
    rw [Nat.zero_add, cell_of_row w g j cur _ _ hg]
    have e1 : (cellsT xs)[j]? = some (.string xs[j]) := by
      unfold cellsT
      rw [List.getElem?_map, List.getElem?_eq_getElem hj]
      rfl
    rw [← ht, List.getElem?_take] at e1
    split at e1
    · simpa using e1
    · cases e1
theorem words_kept {w w' : World} {B : Nat} {v : Value} {n : Nat} {cs : List Value} (h : w.ownsRow B 9 1 v n cs) (hb : ∀ g, v.ownBlock = some g → w'.heap[g]? = w.heap[g]?) : w'.ownsRow B 9 1 v n cs := by
  refine ⟨h.1, ?_⟩
  rcases h.2 with hn | ⟨g, cap, cur, rfl, hB, hg, rest⟩
  · exact .inl hn
  · exact .inr ⟨g, cap, cur, rfl, hB, (hb g rfl).trans hg, rest⟩
theorem Tryd.infoStringT : (Tryd.prog.info? 9).map (fun i => (i.zero, i.size, i.bytes)) = some (some (.string ByteArray.empty), 1, 16) := by kernel_rfl

set_option maxHeartbeats 1000000 in
theorem sameT_any (xs : List ByteArray) (v1 v2 : Value) (w : World) (hsz : xs.length ≤ 1000000) (h1 : WordsAt w v1 xs) (h2 : WordsAt w v2 xs) :
    Calls Tryd.prog 10 #[v1, v2] w fun e w' => e = .returned (.bool true) ∧ Below w.heap.size w w' := by
  obtain ⟨ad1, c1, rfl, hc1, h1⟩ := h1
  obtain ⟨ad2, c2, rfl, hc2, h2⟩ := h2
  have HA := hide h1
  have HB := hide h2
  generalize hl : xs.length = n at *
  have HL := hide hl
  clear h1 h2 hl
  go_enter Tryd.func10, Tryd.ntmps10
  go_wp2
  go_loopw [5] (fun c wr => ∃ k : Nat, k ≤ n ∧ c = .int .i64 k ∧ Below w.heap.size w wr) (fun c _ => n - (intOf c).toNat)
  case atStart => exact ⟨0, by omega, rfl, Below.refl _ _⟩
  case round =>
    obtain ⟨k, hk, rfl, hbl⟩ := hrel
    by_cases hlt : k < n
    · have hkl : k < xs.length := by rw [HL.out]; exact hlt
      rcases HA.out with h0 | ⟨ba, oa, rfl, ha⟩
      · omega
      rcases HB.out with h0 | ⟨bb, ob, rfl, hb⟩
      · omega
      have h1 := ha.below hbl k hkl
      have h2 := hb.below hbl k hkl
      generalize xs[k] = y at h1 h2
      have HBl : Hid (Below w.heap.size w wr) := hbl
      clear hbl hkl ha hb
      go_wp2
      go_region
      go_wp2
      go_roundw
      case rel => exact ⟨k + 1, by omega, by go_num, HBl.out.drew⟩
      case measure => simp [intOf]; omega
    · go_wp2
      go_ret
      exact ⟨rfl, hbl⟩
end Go.Proofs.YteofodegeigmaaaDoor

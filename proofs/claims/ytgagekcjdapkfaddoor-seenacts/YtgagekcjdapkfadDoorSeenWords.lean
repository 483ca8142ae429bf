/-
  What package seen's Words gives: a new slice of the words that are there, rising; for everything that was seen.
-/
import Derived.Test.YtgagekcjdapkfadDoorSeenDo
import Derived.Shelf.SlIter.Sorted
import Derived.Shelf.SlIter.Keys
import Derived.Shelf.SortM.Plain
import Derived.Shelf.SortM.SortNone
import Derived.Sort.KeysCollected
namespace Go.Proofs.YtgagekcjdapkfadDoor
open Go Go.RowKit Go.Maps Go.Sort Go.Proofs Go.Shelf

/-- Words in a slice. -/
def WordsAt (w : World) (v : Value) (xs : List ByteArray) : Prop := ∃ ad c, v = .slice ad xs.length c ∧ xs.length ≤ c ∧ (xs.length = 0 ∨ ∃ b o, ad = some ⟨b, o, none⟩ ∧ Texts w b o xs)
theorem WordsAt.below {w w' : World} {v : Value} {xs : List ByteArray} (h : WordsAt w v xs) (hb : Below w.heap.size w w') : WordsAt w' v xs := by
  obtain ⟨ad, c, h1, h2, h3⟩ := h
  refine ⟨ad, c, h1, h2, ?_⟩
  rcases h3 with h3 | ⟨b, o, h4, h5⟩
  · exact Or.inl h3
  · exact Or.inr ⟨b, o, h4, h5.below hb⟩
theorem words_sorted {L : List Wd} (h : RisingW L) {ss : List (List UInt8)} (hp : ss.Perm (strKeys (dOfW L))) : (ss.mergeSort fun x y => decide (x ≤ y)) = L.map Wd.nm := by
  have e : strKeys (dOfW L) = L.map Wd.nm := by
    show (L.map entW).map (fun p => strOf p.1) = _
    rw [List.map_map]
    rfl
  show ss.mergeSort leB = _
  rw [mergeSort_of_perm hp, e]
  refine List.mergeSort_of_pairwise ?_
  rw [List.pairwise_map]
  exact h.imp fun {p q} g => decide_eq_true (Std.le_of_lt g)
/-- A row of words, read. -/
theorem own_words {w : World} {B n : Nat} {v : Value} {L : List Wd} (hn : n = L.length) (h : w.ownsRow B 9 1 v n ((L.map Wd.nm).map encStr)) : WordsAt w v (L.map Wd.s) := by
  subst hn
  rcases h.2 with ⟨rfl, h0⟩ | ⟨g, cap, cur, rfl, _, hg, hc, _, _, ht⟩
  · refine ⟨none, 0, ?_, ?_, Or.inl ?_⟩ <;> simp [List.length_eq_zero_iff.1 h0]
  · refine ⟨_, cap, by rw [List.length_map], by rw [List.length_map]; exact hc, Or.inr ⟨g, 0, rfl, fun j hj => ?_⟩⟩
    have hj2 : j < L.length := by simpa using hj
    rw [Nat.zero_add, cell_of_row w g j cur _ _ hg]
    have e1 : ((L.map Wd.nm).map encStr)[j]? = some (.string (L.map Wd.s)[j]) := by
      rw [List.getElem?_map, List.getElem?_map, List.getElem?_eq_getElem hj2, List.getElem_map]
      simp [encStr]
    rw [← ht, List.getElem?_take] at e1
    split at e1
    · simpa using e1
    · cases e1

theorem sorts_words (m : Nat) : AnyZ.SortsIn Tryd.prog Tryd.sortedS_ren Fence.wide m :=
  ⟨fun blk off cap ss W hH hblk hsz => callsIn_wide.2 (AnyM.slices_Sort_string Tryd.sortS blk off cap ss W hH hblk hsz),
   fun p cap W => callsIn_wide.2 (AnyM.slices_Sort_string_none Tryd.sortS p cap W)⟩

set_option maxRecDepth 100000 in
set_option maxHeartbeats 1000000 in
theorem seWords_any (p m : Nat) (long : Int) (L : List Wd) (w : World) (h : SeenAt w p m long L) :
    Calls Tryd.prog 13 #[.pointer (some ⟨p, 0, none⟩)] w fun e w' => ∃ v, e = .returned v ∧ WordsAt w' v (L.map Wd.s) ∧ Below w.heap.size w w' := by
  have hsz := dOfW_size L
  have hfew := h.good.few
  have hbl := h.own.lt
  have hB : Below w.heap.size w (w.alloc (.cells #[.map (some m)] 46)) := (Below.refl _ _).alloc (Nat.le_refl _) _
  have hseq : SeqGives Fence.wide 2 Tryd.prog 31 #[.pointer (some ⟨w.heap.size, 0, none⟩)] encStr (fun ss => ss.Perm (strKeys (dOfW L))) (Maps.size (dOfW L)) (w.alloc (.cells #[.map (some m)] 46)) :=
    AnyZ.keys_gives (ρ := Tryd.keysS_ren) { Tryd.keysS with } Fence.wide _ trivial rfl (by omega) w.heap.size m L.length (dOfW L) _ (by simp) (by simp) (h.below hB).own
  have cK : Calls Tryd.prog 21 #[.map (some m)] w fun e w' => e = .returned (.func (.func 31) #[] #[.pointer (some ⟨w.heap.size, 0, none⟩)]) ∧ w' = w.alloc (.cells #[.map (some m)] 46) :=
    callsIn_wide.1 (AnyZ.keys_in Tryd.keysS Fence.wide 5 trivial rfl (some m) w)
  have cS := callsIn_wide.1 (AnyZ.sorted_in Tryd.sortedS Fence.wide 5 trivial trivial trivial trivial rfl (by omega) (sorts_words _) (enters_of Tryd.func30 (by kernel_rfl) rfl) 31 #[.pointer (some ⟨w.heap.size, 0, none⟩)] trivial (enters_of Tryd.func31 (by kernel_rfl) rfl) _ _ (by rw [hsz]; unfold maxLen; omega) (by rw [hsz]; omega) _ hseq)
  change Calls Tryd.prog 20 _ _ _ at cS
  have hc := h.cells.2
  have HK := hide cK
  have HS := hide cS
  have HR := hide h.good.rising
  have HB := hide hB
  clear hseq cK cS h hB
  go_enter Tryd.func13, Tryd.ntmps13
  go_wp2_with fail
  refine HK.out.mono ?_
  rintro e w1 ⟨rfl, rfl⟩
  go_wp2_with fail
  refine HS.out.mono ?_
  rintro e w2 ⟨v, ss, rfl, hS, hrow, hnil, hb⟩
  have HQ : Hid (WordsAt w2 v (L.map Wd.s) ∧ Below w.heap.size w w2) := by
    show _ ∧ _
    rw [words_sorted HR.out hS] at hrow
    have hl : ss.length = L.length := by
      have e := hS.length_eq
      rw [e]
      show ((L.map entW).map fun p => strOf p.1).length = _
      simp
    exact ⟨own_words hl hrow, HB.out.trans (hb.mono HB.out.size)⟩
  clear hS hrow hnil hb
  go_wp2
  go_ret
  exact ⟨v, rfl, HQ.out⟩
end Go.Proofs.YtgagekcjdapkfadDoor

/-
  Entries in memory: a slice's value and its list; a row of one's own.
-/
import Derived.Test.YtemdnmnbecapbacGreatDoorFeedPlain
namespace Go.Proofs.YtemdnmnbecapbacGreatDoor
open Go.RowKit Go.Extern.Stop Go.Stop Go.Extern Go.Proofs

/-- Entries in memory: a slice's value and its list. -/
def EnAt (w : World) (v : Value) (l : List En) : Prop :=
  (∃ ad cap, v = .slice ad 0 cap ∧ l = []) ∨ ∃ b off cap, v = .slice (some ⟨b, off, none⟩) l.length cap ∧ l.length ≤ cap ∧ ∀ j u, (cellsE l)[j]? = some u → w.cell? ⟨b, off + j, none⟩ = some u
theorem EnAt.below {w w' : World} {v : Value} {l : List En} (h : EnAt w v l) (hb : Below w.heap.size w w') : EnAt w' v l := by
  rcases h with h | ⟨b, off, cap, h1, h2, h3⟩
  · exact Or.inl h
  · exact Or.inr ⟨b, off, cap, h1, h2, fun j u hu => by rw [hb.cell (p := ⟨b, off + j, none⟩) (cell_lt (h3 j u hu))]; exact h3 j u hu⟩
theorem EnAt.form {w : World} {v : Value} {l : List En} (h : EnAt w v l) : ∃ ad cap, v = .slice ad l.length cap ∧ l.length ≤ cap := by
  rcases h with ⟨ad, cap, rfl, rfl⟩ | ⟨b, off, cap, h1, h2, h3⟩
  · exact ⟨ad, cap, rfl, Nat.zero_le _⟩
  · exact ⟨_, _, h1, h2⟩
/-- Where there is an entry there is an address, and there are its cells. -/
theorem EnAt.at {w : World} {v : Value} {l : List En} (h : EnAt w v l) (hn : 0 < l.length) : ∃ b off cap, v = .slice (some ⟨b, off, none⟩) l.length cap ∧ l.length ≤ cap ∧ b < w.heap.size ∧ (∀ j u, (cellsE l)[j]? = some u → w.cell? ⟨b, off + j, none⟩ = some u) ∧
    ∀ i (hi : i < l.length), w.cell? ⟨b, off + i * 4, none⟩ = some (.int .i64 l[i].seq) ∧ w.cell? ⟨b, off + i * 4 + 1, none⟩ = some (.int .i64 l[i].time) ∧ w.cell? ⟨b, off + i * 4 + 2, none⟩ = some (.string l[i].fl.who) ∧ w.cell? ⟨b, off + i * 4 + 3, none⟩ = some (.int .i64 l[i].fl.ep) := by
  rcases h with ⟨_, _, _, rfl⟩ | ⟨b, off, cap, h1, h2, h3⟩
  · simp at hn
  · have h0 : ∀ i (_ : i < l.length) (j : Nat) (u : Value), j < 4 → (En.cells l[i])[j]? = some u → w.cell? ⟨b, off + i * 4 + j, none⟩ = some u := fun i hi j u hj hu => by
      rw [Nat.add_assoc]; exact h3 _ _ ((cellsE_at l i j hi hj).trans hu)
    exact ⟨b, off, cap, h1, h2, cell_lt (h3 (0 * 4 + 0) _ ((cellsE_at l 0 0 hn (by decide)).trans rfl)), h3, fun i hi => ⟨h0 i hi 0 _ (by decide) rfl, h0 i hi 1 _ (by decide) rfl, h0 i hi 2 _ (by decide) rfl, h0 i hi 3 _ (by decide) rfl⟩⟩
theorem EnAt.take {w : World} {b off cap : Nat} {l : List En} (h2 : l.length ≤ cap) (h3 : ∀ j u, (cellsE l)[j]? = some u → w.cell? ⟨b, off + j, none⟩ = some u) (k : Nat) (hk : k ≤ l.length) : EnAt w (.slice (some ⟨b, off, none⟩) k cap) (l.take k) := by
  refine Or.inr ⟨b, off, cap, by rw [List.length_take, Nat.min_eq_left hk], by rw [List.length_take]; omega, fun j u hu => h3 j u ?_⟩
  rw [cellsE_take, List.getElem?_take] at hu
  split at hu
  · exact hu
  · cases hu
theorem EnAt.drop {w : World} {b off : Nat} {l : List En} (h3 : ∀ j u, (cellsE l)[j]? = some u → w.cell? ⟨b, off + j, none⟩ = some u) (k n c : Nat) (hn : n = l.length - k) (hc : n ≤ c) : EnAt w (.slice (some ⟨b, off + k * 4, none⟩) n c) (l.drop k) := by
  refine Or.inr ⟨b, off + k * 4, c, by rw [List.length_drop, hn], by rw [List.length_drop]; omega, fun j u hu => ?_⟩
  rw [cellsE_drop, List.getElem?_drop] at hu
  rw [Nat.add_assoc]
  exact h3 _ u hu

/-- A row of entries of one's own, from a block number on. -/
abbrev OwnE (w : World) (B : Nat) (v : Value) (l : List En) : Prop := w.ownsRow B 64 4 v l.length (cellsE l)
theorem OwnE.enAt {w : World} {B : Nat} {v : Value} {l : List En} (h : OwnE w B v l) : EnAt w v l := by
  rcases h.2 with ⟨rfl, h0⟩ | ⟨g, cap, cur, rfl, hb, hg, hc, hm, hs, ht⟩
  · exact Or.inl ⟨none, 0, rfl, List.length_eq_zero_iff.1 h0⟩
  · refine Or.inr ⟨g, 0, cap, rfl, hc, fun j u hu => ?_⟩
    rw [cell_of_row w g (0 + j) cur _ _ hg, Nat.zero_add]
    rw [← ht, List.getElem?_take] at hu
    split at hu
    · simpa using hu
    · cases hu
theorem OwnE.keep {w w' : World} {B : Nat} {v : Value} {l : List En} (h : OwnE w B v l) (hk : ∀ g, v.ownBlock = some g → w'.heap[g]? = w.heap[g]?) : OwnE w' B v l := by
  refine ⟨h.1, ?_⟩
  rcases h.2 with g | ⟨g, cap, cur, rfl, hb, hg, hc, hm, hs, ht⟩
  · exact Or.inl g
  · exact Or.inr ⟨g, cap, cur, rfl, hb, by rw [hk g rfl]; exact hg, hc, hm, hs, ht⟩
theorem OwnE.below {w w' : World} {B : Nat} {v : Value} {l : List En} (h : OwnE w B v l) (hb : Below w.heap.size w w') : OwnE w' B v l :=
  h.keep (fun g hg => hb.block g (h.lt g hg).2)
theorem OwnE.less {w : World} {B B' : Nat} {v : Value} {l : List En} (h : OwnE w B v l) (hb : B' ≤ B) : OwnE w B' v l := by
  refine ⟨h.1, ?_⟩
  rcases h.2 with g | ⟨g, cap, cur, e, h1, h2⟩
  · exact Or.inl g
  · exact Or.inr ⟨g, cap, cur, e, Nat.le_trans hb h1, h2⟩
theorem OwnE.nil (w : World) (B : Nat) : OwnE w B (.slice none 0 0) [] := World.ownsRow_nil _ _ _ _

/-- The errors that the chapter's functions give. -/
def fdS (i : Nat) : Bool := flS i || i == 0 || i == 8 || i == 9 || i == 14
theorem EV.sub {S S' : Nat → Bool} {a : Nat → Addr} {w : World} (h : EV S a w) (hs : ∀ i, i < 16 → S' i = true → S i = true) : EV S' a w := ⟨fun i hi h2 => h.var i hi (hs i hi h2)⟩
theorem EV.fl {a : Nat → Addr} {w : World} (h : EV fdS a w) : EV flS a w := h.sub (by decide)
theorem EV.sl {a : Nat → Addr} {w : World} (h : EV fdS a w) : EV slS a w := h.sub (by decide)
/-- Entries in memory of one's own, and an error, by its number and place. -/
def FeedPost (a : Nat → Addr) (c : Nat × Int) (r : List En) (B : Nat) (e : Ending) (w' : World) : Prop := ∃ v' ev, e = .returned (.tuple #[v', ev]) ∧ OwnE w' B v' r ∧ FlErr a w' c ev ∧ (c.1 ≠ 0 → v' = .slice none 0 0)
end Go.Proofs.YtemdnmnbecapbacGreatDoor

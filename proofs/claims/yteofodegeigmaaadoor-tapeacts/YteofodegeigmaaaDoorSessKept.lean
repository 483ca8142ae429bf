/-
  What an act keeps: all blocks but those that it may write.
-/
import Derived.Test.YteofodegeigmaaaDoorBase
import Derived.Laws.Rows
import Derived.OwnWalk
import Derived.WalkKit
namespace Go.Proofs.YteofodegeigmaaaDoor
open Go Go.RowKit Go.Proofs

/-- All blocks but those of S read as they did. -/
structure KeptD (S : Nat → Prop) (w w' : World) : Prop where
  os : w'.os = w.os
  tape : w'.tape = w.tape
  output : w'.output = w.output
  size : w.heap.size ≤ w'.heap.size
  block : ∀ k, k < w.heap.size → ¬ S k → w'.heap[k]? = w.heap[k]?
theorem KeptD.refl (S : Nat → Prop) (w : World) : KeptD S w w := ⟨rfl, rfl, rfl, Nat.le_refl _, fun _ _ _ => rfl⟩
theorem KeptD.trans {S : Nat → Prop} {a b c : World} (h : KeptD S a b) (k : KeptD S b c) : KeptD S a c :=
  ⟨k.os.trans h.os, k.tape.trans h.tape, k.output.trans h.output, Nat.le_trans h.size k.size, fun j hj hs => (k.block j (Nat.lt_of_lt_of_le hj h.size) hs).trans (h.block j hj hs)⟩
theorem KeptD.of_below (S : Nat → Prop) {w w' : World} (h : Below w.heap.size w w') : KeptD S w w' := ⟨h.os, h.tape, h.output, h.size, fun k hk _ => h.block k hk⟩
theorem KeptD.setCell {S : Nat → Prop} {a w : World} (h : KeptD S a w) {p : Addr} (hp : S p.block) (u : Value) : KeptD S a (w.setCell p u) :=
  ⟨h.os, h.tape, h.output, by have := h.size; simpa [World.setCell] using this, fun k hk hs => by
    rw [heap_setCell_other w p k u (fun e => hs (e ▸ hp))]; exact h.block k hk hs⟩
theorem KeptD.grown {S : Nat → Prop} {a w w' : World} {b : Option Nat} (h : KeptD S a w) (hg : w.grownBy w' b) (hb : ∀ k, b = some k → S k ∨ a.heap.size ≤ k) : KeptD S a w' :=
  ⟨hg.os.trans h.os, hg.tape.trans h.tape, hg.output.trans h.output, Nat.le_trans h.size hg.size, fun k hk hs => (hg.block k (Nat.lt_of_lt_of_le hk h.size) fun e => by
    rcases hb k e.symm with g | g
    · exact hs g
    · omega).trans (h.block k hk hs)⟩
theorem KeptD.mono {S S' : Nat → Prop} {w w' : World} (h : KeptD S w w') (hs : ∀ k, S k → S' k) : KeptD S' w w' := ⟨h.os, h.tape, h.output, h.size, fun k hk hn => h.block k hk (fun e => hn (hs k e))⟩
theorem below_kept {n : Nat} {S : Nat → Prop} {W w w' : World} (h : Below n W w) (k : KeptD S w w') (hn : n ≤ W.heap.size) (hS : ∀ j, S j → n ≤ j) : Below n W w' :=
  ⟨k.os.trans h.os, k.tape.trans h.tape, k.output.trans h.output, Nat.le_trans h.size k.size, fun j hj => (k.block j (Nat.lt_of_lt_of_le (Nat.lt_of_lt_of_le hj hn) h.size) (fun e => absurd (hS j e) (by omega))).trans (h.block j hj)⟩
end Go.Proofs.YteofodegeigmaaaDoor

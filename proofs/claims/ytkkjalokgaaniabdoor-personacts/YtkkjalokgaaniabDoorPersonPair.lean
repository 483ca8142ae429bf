/-
  Each act on a book beside the same act on the document's answer's book: the numbers of the errors are the same, and so are the people behind it.
-/
import Derived.Test.YtkkjalokgaaniabDoorBookRef
import Derived.Test.YtkkjalokgaaniabDoorBookLaw
namespace Go.Proofs.YtkkjalokgaaniabDoor
open Go.RowKit Go.Extern.Stop Go.Stop Go.Extern Go.Maps

theorem err_small (p : Per) : p.err ≤ 16 := by
  unfold Per.err
  split
  · split
    · split <;> decide
    · decide
  · decide
theorem add_small (L : List Per) (name : ByteArray) (key : Int) : (addP L name key).1 ≤ 16 := by
  have := err_small (newP name key)
  unfold addP
  split
  · exact this
  · split
    · show 6 ≤ 16; decide
    · split
      · show 7 ≤ 16; decide
      · show 0 ≤ 16; decide
theorem raise_small (L : List Per) (name : ByteArray) : (raiseP L name).2.1 ≤ 16 := by
  unfold raiseP
  split
  · show 5 ≤ 16; decide
  · split
    · show 5 ≤ 16; decide
    · split
      · show 2 ≤ 16; decide
      · show 0 ≤ 16; decide
theorem off_small (L : List Per) (name : ByteArray) (off : Bool) : (offP L name off).1 ≤ 16 := by
  unfold offP
  split
  · show 5 ≤ 16; decide
  · split
    · show 5 ≤ 16; decide
    · split
      · show 6 ≤ 16; decide
      · show 0 ≤ 16; decide
theorem rekey_small (L : List Per) (name : ByteArray) (key : Int) : (rekeyP L name key).1 ≤ 16 := by
  unfold rekeyP
  split
  · show 5 ≤ 16; decide
  · split
    · show 5 ≤ 16; decide
    · split
      · split
        · show 6 ≤ 16; decide
        · split
          · show 2 ≤ 16; decide
          · show 0 ≤ 16; decide
      · show 10 ≤ 16; decide

theorem St.cell {W : World} {bp mb bb ab : Nat} {cs : Array Value} {L L1 : List Per} {w : World} (h : St W bp mb bb ab cs L L1 w) (j : Nat) (u : Value) (hj : cs[j]? = some u) : w.cell? ⟨ab, j, none⟩ = some u := by
  rw [cell_of_row w ab j cs _ _ h.act]
  exact hj
theorem St.ev {W : World} {bp mb bb ab : Nat} {cs : Array Value} {L L1 : List Per} {w : World} (h : St W bp mb bb ab cs L L1 w) {a : Nat → Addr} (hE : Errs a W) : EV perS a w := (hE.below h.below).ev perS

section
variable {W : World} {bp mb bb ab : Nat} {cs : Array Value} {L : List Per} {a : Nat → Addr}
theorem pair_add (hE : Errs a W) (name : ByteArray) (key : Int) (hs : name.size ≤ maxLen) : ∃ c L1, c ≤ 16 ∧
    (∀ w, St W bp mb bb ab cs L L w → Calls Tryd.prog 12 #[.pointer (some ⟨bp, 0, none⟩), .string name, .int .i64 key] w fun e w' => e = .returned (errV a c) ∧ St W bp mb bb ab cs L L1 w') ∧
    (∀ w, St W bp mb bb ab cs L L1 w → Calls Tryd.prog 13 #[.pointer (some ⟨bb, 0, none⟩), .string name, .int .i64 key] w fun e w' => e = .returned (.int .i64 (c : Int)) ∧ St W bp mb bb ab cs L1 L1 w') :=
  ⟨(addP L name key).1, (addP L name key).2, add_small L name key,
    fun w h => (add_any a bp mb L name key w h.book (h.ev hE) hs).mono fun _ _ ⟨h1, h2, h3⟩ => ⟨h1, h.wrote h2 h3⟩,
    fun w h => by
      obtain ⟨v, hr, hv⟩ := h.ref
      exact (refAdd_p bb v L name key w (row_lt hr.1) hr hv h.good hs).mono fun _ _ ⟨h1, h2⟩ => ⟨h1, h.reft hr h2⟩⟩
theorem pair_rekey (hE : Errs a W) (name : ByteArray) (key : Int) (hs : name.size ≤ maxLen) : ∃ c L1, c ≤ 16 ∧
    (∀ w, St W bp mb bb ab cs L L w → Calls Tryd.prog 14 #[.pointer (some ⟨bp, 0, none⟩), .string name, .int .i64 key] w fun e w' => e = .returned (errV a c) ∧ St W bp mb bb ab cs L L1 w') ∧
    (∀ w, St W bp mb bb ab cs L L1 w → Calls Tryd.prog 15 #[.pointer (some ⟨bb, 0, none⟩), .string name, .int .i64 key] w fun e w' => e = .returned (.int .i64 (c : Int)) ∧ St W bp mb bb ab cs L1 L1 w') :=
  ⟨(rekeyP L name key).1, (rekeyP L name key).2, rekey_small L name key,
    fun w h => (rekey_any a bp mb L name key w h.book (h.ev hE) hs).mono fun _ _ ⟨h1, h2, h3⟩ => ⟨h1, h.wrote h2 h3⟩,
    fun w h => by
      obtain ⟨v, hr, hv⟩ := h.ref
      exact (refRekey_p bb v L name key w hr hv h.good).mono fun _ _ ⟨h1, h2⟩ => ⟨h1, h.reft hr h2⟩⟩
theorem pair_off (hE : Errs a W) (name : ByteArray) (off : Bool) (hs : name.size ≤ maxLen) : ∃ c L1, c ≤ 16 ∧
    (∀ w, St W bp mb bb ab cs L L w → Calls Tryd.prog 18 #[.pointer (some ⟨bp, 0, none⟩), .string name, .bool off] w fun e w' => e = .returned (errV a c) ∧ St W bp mb bb ab cs L L1 w') ∧
    (∀ w, St W bp mb bb ab cs L L1 w → Calls Tryd.prog 19 #[.pointer (some ⟨bb, 0, none⟩), .string name, .bool off] w fun e w' => e = .returned (.int .i64 (c : Int)) ∧ St W bp mb bb ab cs L1 L1 w') :=
  ⟨(offP L name off).1, (offP L name off).2, off_small L name off,
    fun w h => (off_any a bp mb L name off w h.book (h.ev hE) hs).mono fun _ _ ⟨h1, h2, h3⟩ => ⟨h1, h.wrote h2 h3⟩,
    fun w h => by
      obtain ⟨v, hr, hv⟩ := h.ref
      exact (refOff_p bb v L name off w hr hv h.good).mono fun _ _ ⟨h1, h2⟩ => ⟨h1, h.reft hr h2⟩⟩
theorem pair_raise (hE : Errs a W) (name : ByteArray) (hs : name.size ≤ maxLen) : ∃ (n : Int) (c : Nat) (L1 : List Per), c ≤ 16 ∧
    (∀ w, St W bp mb bb ab cs L L w → Calls Tryd.prog 16 #[.pointer (some ⟨bp, 0, none⟩), .string name] w fun e w' => e = .returned (.tuple #[.int .i64 n, errV a c]) ∧ St W bp mb bb ab cs L L1 w') ∧
    (∀ w, St W bp mb bb ab cs L L1 w → Calls Tryd.prog 17 #[.pointer (some ⟨bb, 0, none⟩), .string name] w fun e w' => e = .returned (.tuple #[.int .i64 n, .int .i64 (c : Int)]) ∧ St W bp mb bb ab cs L1 L1 w') :=
  ⟨(raiseP L name).1, (raiseP L name).2.1, (raiseP L name).2.2, raise_small L name,
    fun w h => (praise_any a bp mb L name w h.book (h.ev hE) hs).mono fun _ _ ⟨h1, h2, h3⟩ => ⟨h1, h.wrote h2 h3⟩,
    fun w h => by
      obtain ⟨v, hr, hv⟩ := h.ref
      exact (refRaise_p bb v L name w hr hv h.good).mono fun _ _ ⟨h1, h2⟩ => ⟨h1, h.reft hr h2⟩⟩
theorem pair_coded {L1 : List Per} (hE : Errs a W) (c : Nat) (hc : c ≤ 16) (w : World) (h : St W bp mb bb ab cs L L1 w) :
    Calls Tryd.prog 8 #[errV a c, .int .i64 (c : Int)] w fun e w' => e = .returned (.bool true) ∧ St W bp mb bb ab cs L L1 w' :=
  (coded_errV a c hc (c : Int) w (hE.below h.below)).mono fun _ _ ⟨h1, h2⟩ => ⟨by rw [h1]; simp, h.less h2⟩
end

/-- Both books side by side. -/
structure Bo (W : World) (bp mb bb : Nat) (L : List Per) (w : World) : Prop where
  book : BookAt w bp mb L
  ref : ∃ v, RefBookV w bb v L ∧ (L = [] → v = .slice none 0 0)
  below : Below W.heap.size W w
  old : W.heap.size ≤ mb ∧ W.heap.size ≤ bb
theorem St.bo {W : World} {bp mb bb ab : Nat} {cs : Array Value} {L : List Per} {w : World} (h : St W bp mb bb ab cs L L w) : Bo W bp mb bb L w := ⟨h.book, h.ref, h.below, h.old⟩
theorem Bo.less {W : World} {bp mb bb : Nat} {L : List Per} {w w' : World} (h : Bo W bp mb bb L w) (hb : Below w.heap.size w w') : Bo W bp mb bb L w' := by
  obtain ⟨v, hr, hv⟩ := h.ref
  exact ⟨h.book.below hb, ⟨v, hr.below hb, hv⟩, h.below.trans (hb.mono h.below.size), h.old⟩
theorem Bo.st {W : World} {bp mb bb : Nat} {L : List Per} {w : World} (h : Bo W bp mb bb L w) (cs : Array Value) : St W bp mb bb w.heap.size cs L L (w.alloc (.cells cs 39)) := by
  have h' := h.less ((Below.refl w.heap.size w).alloc (Nat.le_refl _) (.cells cs 39))
  exact ⟨h'.book, h'.ref, heap_alloc_new _ _, h'.below, h'.old, h'.book.good⟩
end Go.Proofs.YtkkjalokgaaniabDoor

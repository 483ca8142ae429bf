/-
  What the document's answer's Add gives, and what it does to the book: a new row with the person by names, and nothing else; for every book, name and key.
-/
import Derived.Test.YtkkjalokgaaniabDoorPersonRef2
import Derived.Test.YtkkjalokgaaniabDoorBookSeq
namespace Go.Proofs.YtkkjalokgaaniabDoor
open Go.RowKit Go.Extern.Stop Go.Stop Go.Extern

theorem own_block {w w' : World} {base : Nat} {e : TypeId} {size : Nat} {v : Value} {n : Nat} {xs : List Value} (h : w.ownsRow base e size v n xs) (hk : ∀ g, v.ownBlock = some g → w'.heap[g]? = w.heap[g]?) : w'.ownsRow base e size v n xs := by
  refine ⟨h.1, ?_⟩
  rcases h.2 with g | ⟨g, cap, cur, rfl, hb, hg, hc, hm, hs, ht⟩
  · exact Or.inl g
  · exact Or.inr ⟨g, cap, cur, rfl, hb, by rw [hk g rfl]; exact hg, hc, hm, hs, ht⟩
theorem RefBookB.kept {B : Nat} {S : Nat → Prop} {w w' : World} {bb : Nat} {v : Value} {L : List Per} (h : RefBookB B w bb v L) (hk : Kept S w w') (h1 : ¬ S bb) (h2 : ∀ g, v.ownBlock = some g → ¬ S g) : RefBookB B w' bb v L :=
  ⟨by rw [hk.block _ (row_lt h.1) h1]; exact h.1, own_block h.2 (fun g hg => hk.block g (h.2.lt g hg).2 (h2 g hg))⟩
theorem RefBookB.below {B : Nat} {w w' : World} {bb : Nat} {v : Value} {L : List Per} (h : RefBookB B w bb v L) (hb : Below w.heap.size w w') : RefBookB B w' bb v L :=
  h.kept (Kept.of_below (fun _ => False) hb) id (fun _ _ => id)

set_option maxRecDepth 100000 in
set_option maxHeartbeats 2000000 in
theorem refAdd_err {B : Nat} (bb : Nat) (v : Value) (L : List Per) (name : ByteArray) (key : Int) (w : World) (h : RefBookB B w bb v L) (hs : name.size ≤ maxLen) (he : (newP name key).err ≠ 0) :
    Calls Tryd.prog 13 #[.pointer (some ⟨bb, 0, none⟩), .string name, .int .i64 key] w fun e w' => e = .returned (.int .i64 ((newP name key).err : Int)) ∧ RefBookB B w' bb v L ∧ Below w.heap.size w w' := by
  have HP := hide (fun w => refPerson_any (newP name key) w hs)
  have hpos : (0 : Int) < ((newP name key).err : Int) := by omega
  have HB0 : Hid (Below w.heap.size w (w.alloc (.cells #[.string name, .int .i64 key, .int .i64 1, .bool false] 24))) := (Below.refl _ _).alloc (Nat.le_refl _) _
  have HB := hide h
  have HP2 : Hid (∀ w, Calls Tryd.prog 10 #[.agg #[.string name, .int .i64 key, .int .i64 1, .bool false]] w fun e w' => e = .returned (.int .i64 ((newP name key).err : Int)) ∧ Below w.heap.size w w') := HP.out
  clear h he HP
  generalize ((newP name key).err : Int) = c at *
  go_enter Tryd.func13, Tryd.ntmps13
  go_wp2_with fail
  refine (HP2.out _).mono ?_
  rintro e w1 ⟨rfl, hb⟩
  have HB1 : Hid (Below w.heap.size w w1) := HB0.out.trans (hb.mono HB0.out.size)
  clear hb
  go_wp2
  go_ret
  exact ⟨rfl, HB.out.below HB1.out, HB1.out⟩

set_option maxRecDepth 100000 in
set_option maxHeartbeats 2000000 in
theorem refAdd_no {B : Nat} (bb : Nat) (v : Value) (L : List Per) (name : ByteArray) (key : Int) (w : World) (h : RefBookB B w bb v L) (hn : L.length ≤ 1000) (hs : name.size ≤ maxLen) (he : (newP name key).err = 0) (c : Nat) (hc : (0 ≤ findP L name ∧ c = 6) ∨ (findP L name < 0 ∧ 20 ≤ L.length ∧ c = 7)) :
    Calls Tryd.prog 13 #[.pointer (some ⟨bb, 0, none⟩), .string name, .int .i64 key] w fun e w' => e = .returned (.int .i64 (c : Int)) ∧ RefBookB B w' bb v L ∧ Below w.heap.size w w' := by
  have HP := hide (fun w => refPerson_any (newP name key) w hs)
  rw [he] at HP
  have HP2 : Hid (∀ w, Calls Tryd.prog 10 #[.agg #[.string name, .int .i64 key, .int .i64 1, .bool false]] w fun e w' => e = .returned (.int .i64 0) ∧ Below w.heap.size w w') := HP.out
  have HF := hide (fun w h => refFind_any bb L name w h hn)
  have HB0 : Hid (Below w.heap.size w (w.alloc (.cells #[.string name, .int .i64 key, .int .i64 1, .bool false] 24))) := (Below.refl _ _).alloc (Nat.le_refl _) _
  have HB := hide h
  have hlen : ∃ ad cap, v = .slice ad L.length cap := by
    rcases h.2.2 with ⟨rfl, h0⟩ | ⟨g, cap, cur, rfl, _⟩
    · exact ⟨none, 0, by rw [h0]⟩
    · exact ⟨_, _, rfl⟩
  obtain ⟨ad, cap, rfl⟩ := hlen
  clear h he HP
  generalize findP L name = f at *
  rcases hc with ⟨hf, rfl⟩ | ⟨hf, h20, rfl⟩
  · go_enter Tryd.func13, Tryd.ntmps13
    go_wp2_with fail
    refine (HP2.out _).mono ?_
    rintro e w1 ⟨rfl, hb⟩
    have HB1 : Hid (Below w.heap.size w w1) := HB0.out.trans (hb.mono HB0.out.size)
    have HK1 := hide (HB.out.below HB1.out)
    clear hb
    go_wp2_with fail
    refine (HF.out _ HK1.out.book).mono ?_
    rintro e w2 ⟨rfl, rfl⟩
    go_wp2
    go_ret
    exact ⟨rfl, HK1.out, HB1.out⟩
  · generalize hln : L.length = n at hn h20
    have HLn := hide hln
    go_enter Tryd.func13, Tryd.ntmps13
    go_wp2_with fail
    refine (HP2.out _).mono ?_
    rintro e w1 ⟨rfl, hb⟩
    have HB1 : Hid (Below w.heap.size w w1) := HB0.out.trans (hb.mono HB0.out.size)
    have HK1 := hide (HB.out.below HB1.out)
    clear hb
    go_wp2_with fail
    refine (HF.out _ HK1.out.book).mono ?_
    rintro e w2 ⟨rfl, rfl⟩
    have hcb : w2.cell? ⟨bb, 0, none⟩ = some (.slice ad n cap) := by rw [← HLn.out]; exact cell_of_row w2 bb 0 _ _ _ HK1.out.1
    clear hln
    go_wp2
    go_ret
    exact ⟨rfl, by rw [← HLn.out]; exact HK1.out, HB1.out⟩
end Go.Proofs.YtkkjalokgaaniabDoor

/-
  What the document's answer's Login of a realm gives, and what it leaves.
-/
import Derived.Test.YtabpnjchocgakaaGreatDoorRealmRef6
import Derived.Test.YtabpnjchocgakaaGreatDoorPk06
namespace Go.Proofs.YtabpnjchocgakaaGreatDoor
open Go.RowKit Go.Extern.Stop Go.Stop Go.Extern Go.Proofs Go.Maps
theorem RefRm.people {B : Nat} {w : World} {rb bb : Nat} {v lv : Value} {r : Rm} (h : RefRm B w rb bb v lv r) {name : ByteArray} {p : Per} (hp : getP r.b name = some p) :
  ∃ g cap, v = .slice (some ⟨g, 0, none⟩) r.b.length cap ∧ r.b.length ≤ cap ∧ ∀ (k : Nat) (q : Per), r.b[k]? = some q → w.cell? ⟨g, k * 4 + 1, none⟩ = some (.int .i64 q.key) ∧ w.cell? ⟨g, k * 4 + 2, none⟩ = some (.int .i64 q.epoch) ∧ w.cell? ⟨g, k * 4 + 3, none⟩ = some (.bool q.off) := by
 obtain ⟨k, hk, _, _⟩ := find_of_some hp
 obtain ⟨g, cap, e, hc, _, hcl⟩ := owned_at h.book.2 (fun e => by rw [e] at hk; cases hk)
 refine ⟨g, cap, e, hc, fun j q hq => ?_⟩
 obtain ⟨hj, rfl⟩ := List.getElem?_eq_some_iff.1 hq
 exact ⟨(hcl j hj).2.1, (hcl j hj).2.2.1, (hcl j hj).2.2.2⟩
theorem find_at {L : List Per} {name : ByteArray} {p : Per} (h : getP L name = some p) : ∃ k : Nat, k < L.length ∧ L[k]? = some p ∧ findP L name = k := by
 obtain ⟨k, hk, e, hf⟩ := find_of_some h
 exact ⟨k, hk, by rw [List.getElem?_eq_getElem hk, e], hf⟩
theorem serR_no {r : Rm} {c : Nat} (h : c ≠ 0) : r.serR c = r := if_neg h
theorem logS_no {r : Rm} {name dst : ByteArray} {proof : Int} (h : r.logC name proof dst ≠ 0) : r.logS name proof dst = ⟨#[]⟩ := if_neg h
set_option maxRecDepth 100000 in
set_option maxHeartbeats 4000000 in
theorem refLogin_none {B : Nat} (rb bb : Nat) (v lv : Value) (r : Rm) (name : ByteArray) (proof : Int) (dst : ByteArray) (w : World) (h : RefRm B w rb bb v lv r) (hg : GoodR r) (hno : getP r.b name = none ∨ getP r.b dst = none) :
  Calls Tryz.prog 38 #[.pointer (some ⟨rb, 0, none⟩), .string name, .int .i64 proof, .string dst] w fun e w' => e = .returned (.tuple #[.string ⟨#[]⟩, .int .i64 5]) ∧ Below w.heap.size w w' := by
 obtain ⟨_, _, _, _, c4, _⟩ := rm_cells h.row
 have HF1 := hide (refFind_any bb r.b name w h.book.book (Nat.le_trans hg.book.few (by decide)))
 have HF2 := hide (refFind_any bb r.b dst w h.book.book (Nat.le_trans hg.book.few (by decide)))
 have hc : (findP r.b name < 0) ∨ (¬ findP r.b name < 0 ∧ findP r.b dst < 0) := by
  by_cases h1 : findP r.b name < 0
  ·
   exact Or.inl h1
  ·
   refine Or.inr ⟨h1, ?_⟩
   rcases hno with h2 | h2
   ·
    exact absurd (by rw [find_of_get h2]; decide) h1
   ·
    rw [find_of_get h2]; decide
 clear h hg hno
 generalize findP r.b name = f1 at *
 generalize findP r.b dst = f2 at *
 rcases hc with hc | ⟨hc, hc2⟩
 all_goals
  go_enter Tryz.func38, Tryz.ntmps38
  go_wp2_with fail
  refine HF1.out.mono ?_
  rintro e w1 ⟨rfl, rfl⟩
  go_wp2_with fail
  refine HF2.out.mono ?_
  rintro e w2 ⟨rfl, rfl⟩
  go_wp2
  go_ret2
  exact ⟨rfl, Below.refl _ _⟩
set_option maxRecDepth 100000 in
set_option maxHeartbeats 4000000 in
theorem refLogin_off {B : Nat} (rb bb : Nat) (v lv : Value) (r : Rm) (name : ByteArray) (proof : Int) (dst : ByteArray) (p s : Per) (w : World) (h : RefRm B w rb bb v lv r) (hg : GoodR r) (hp : getP r.b name = some p) (hs : getP r.b dst = some s) (ho : p.off = true ∨ s.off = true) :
  Calls Tryz.prog 38 #[.pointer (some ⟨rb, 0, none⟩), .string name, .int .i64 proof, .string dst] w fun e w' => e = .returned (.tuple #[.string ⟨#[]⟩, .int .i64 16]) ∧ Below w.heap.size w w' := by
 obtain ⟨_, _, _, _, c4, _⟩ := rm_cells h.row
 have HF1 := hide (refFind_any bb r.b name w h.book.book (Nat.le_trans hg.book.few (by decide)))
 have HF2 := hide (refFind_any bb r.b dst w h.book.book (Nat.le_trans hg.book.few (by decide)))
 have k0 : w.cell? ⟨bb, 0, none⟩ = some v := cell_of_row w bb 0 _ _ _ h.book.1
 obtain ⟨g, cap, rfl, hcap, hcl⟩ := h.people hp
 obtain ⟨kp, hkp, hpa, hfp⟩ := find_at hp
 obtain ⟨ks, hks, hsa, hfs⟩ := find_at hs
 have p3 := (hcl kp p hpa).2.2
 have s3 := (hcl ks s hsa).2.2
 rw [hfp] at HF1
 rw [hfs] at HF2
 have hc : (p.off = true) ∨ (p.off = false ∧ s.off = true) := by
  cases e : p.off with
  | true => exact Or.inl rfl
  | false => rw [e] at ho; exact Or.inr ⟨rfl, ho.resolve_left (by decide)⟩
 clear h hg hp hs ho hcl hpa hsa hfp hfs
 generalize r.b.length = m at *
 rcases hc with hc | ⟨hc, hc2⟩
 ·
  rw [hc] at p3
  clear hc s3
  go_enter Tryz.func38, Tryz.ntmps38
  go_wp2_with fail
  refine HF1.out.mono ?_
  rintro e w1 ⟨rfl, rfl⟩
  go_wp2_with fail
  refine HF2.out.mono ?_
  rintro e w2 ⟨rfl, rfl⟩
  go_wp2
  go_ret2
  exact ⟨rfl, Below.refl _ _⟩
 ·
  rw [hc] at p3
  rw [hc2] at s3
  clear hc hc2
  go_enter Tryz.func38, Tryz.ntmps38
  go_wp2_with fail
  refine HF1.out.mono ?_
  rintro e w1 ⟨rfl, rfl⟩
  go_wp2_with fail
  refine HF2.out.mono ?_
  rintro e w2 ⟨rfl, rfl⟩
  go_wp2
  go_ret2
  exact ⟨rfl, Below.refl _ _⟩
end Go.Proofs.YtabpnjchocgakaaGreatDoor

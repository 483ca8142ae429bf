/-
  A book, its copy and the document's answer's book side by side, with what was found in a block of its own: what All and SamePeople answer there.
-/
import Derived.Test.YtkkjalokgaaniabDoorPersonPair
namespace Go.Proofs.YtkkjalokgaaniabDoor
open Go Go.RowKit Go.Extern.Stop Go.Stop Go.Extern Go.Maps

structure Fin (W : World) (bp mb bb b2 m2 : Nat) (L : List Per) (v : Value) (xb : Nat) (x : Per) (w : World) : Prop where
  one : BookAt w bp mb L
  two : BookAt w b2 m2 L
  ref : RefBookV w bb v L
  box : w.heap[xb]? = some (.cells #[.string x.name, .int .i64 x.key, .int .i64 x.epoch, .bool x.off] 24 (0, 0))
  below : Below W.heap.size W w
theorem Fin.less {W : World} {bp mb bb b2 m2 : Nat} {L : List Per} {v : Value} {xb : Nat} {x : Per} {w w' : World} (h : Fin W bp mb bb b2 m2 L v xb x w) (hb : Below w.heap.size w w') : Fin W bp mb bb b2 m2 L v xb x w' :=
  ⟨h.one.below hb, h.two.below hb, h.ref.below hb, (hb.block _ (row_lt h.box)).trans h.box, h.below.trans (hb.mono h.below.size)⟩
theorem Fin.cell {W : World} {bp mb bb b2 m2 : Nat} {L : List Per} {v : Value} {xb : Nat} {x : Per} {w : World} (h : Fin W bp mb bb b2 m2 L v xb x w) : w.cell? ⟨bb, 0, none⟩ = some v := cell_of_row w bb 0 _ _ _ h.ref.1

section
variable {W : World} {bp mb bb b2 m2 : Nat} {L : List Per} {v : Value} {xb : Nat} {x : Per} {w : World}
theorem fin_all (h : Fin W bp mb bb b2 m2 L v xb x w) :
    Calls Tryd.prog 24 #[.pointer (some ⟨bp, 0, none⟩)] w fun e w' => ∃ v1 base, e = .returned v1 ∧ w'.ownsRow base 24 4 v1 L.length (cellsP L) ∧ Fin W bp mb bb b2 m2 L v xb x w' :=
  (all_any bp mb L w h.one).mono fun _ _ ⟨v1, h1, h2, h3⟩ => ⟨v1, _, h1, h2, h.less h3⟩
theorem fin_all2 (h : Fin W bp mb bb b2 m2 L v xb x w) :
    Calls Tryd.prog 24 #[.pointer (some ⟨b2, 0, none⟩)] w fun e w' => ∃ v1 base, e = .returned v1 ∧ w'.ownsRow base 24 4 v1 L.length (cellsP L) ∧ Fin W bp mb bb b2 m2 L v xb x w' :=
  (all_any b2 m2 L w h.two).mono fun _ _ ⟨v1, h1, h2, h3⟩ => ⟨v1, _, h1, h2, h.less h3⟩
theorem fin_same (h : Fin W bp mb bb b2 m2 L v xb x w) {v1 : Value} {base : Nat} (ho : w.ownsRow base 24 4 v1 L.length (cellsP L)) :
    Calls Tryd.prog 23 #[v1, v] w fun e w' => e = .returned (.int .i64 1) ∧ Fin W bp mb bb b2 m2 L v xb x w' :=
  (samePeople_eq _ _ v1 v L w ho h.ref.2 (Nat.le_trans h.one.good.few (by decide))).mono fun _ _ ⟨h1, h2⟩ => ⟨h1, h.less h2⟩
theorem fin_none {a : Nat → Addr} (hE : Errs a W) (h : Fin W bp mb bb b2 m2 L v xb x w) :
    Calls Tryd.prog 8 #[eV (a 4), .int .i64 5] w fun e w' => e = .returned (.bool true) ∧ Fin W bp mb bb b2 m2 L v xb x w' :=
  (coded_err a 4 (by decide) 5 w (hE.below h.below)).mono fun _ _ ⟨h1, h2⟩ => ⟨by rw [h1]; rfl, h.less h2⟩
end
end Go.Proofs.YtkkjalokgaaniabDoor

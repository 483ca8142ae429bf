/-
  The document's answer's copy of a book; what an entry more, beside another book, does to a realm.
-/
import Derived.Test.YtabpnjchocgakaaGreatDoorRealmRef
import Derived.Deep.RegionHeld3
import Derived.Deep.DeepCutAuto
import Derived.BigQuiet
namespace Go.Proofs.YtabpnjchocgakaaGreatDoor
open Go.RowKit Go.Extern.Stop Go.Stop Go.Extern Go.Proofs Go.Maps
theorem own_shapeR {w : World} {B : Nat} {e : TypeId} {size : Nat} {v : Value} {n : Nat} {xs : List Value} (h : w.ownsRow B e size v n xs) : ∃ ad c, v = .slice ad n c := by
 rcases h.2 with ⟨rfl, h0⟩ | ⟨g, cap, cur, rfl, _⟩
 ·
  exact ⟨none, 0, by rw [h0]⟩
 ·
  exact ⟨_, _, rfl⟩
def CopyPost (w : World) (L : List Per) (e : Ending) (w' : World) : Prop := ∃ b2 v2, e = .returned (.pointer (some ⟨b2, 0, none⟩)) ∧ w.heap.size ≤ b2 ∧ RefBookB w.heap.size w' b2 v2 L ∧ (L = [] → v2 = .slice none 0 0) ∧ Below w.heap.size w w'
set_option maxRecDepth 100000 in
set_option maxHeartbeats 2000000 in
theorem refCopyB_any {B : Nat} (bb : Nat) (v : Value) (L : List Per) (w : World) (h : RefBookB B w bb v L) (hv : L = [] → v = .slice none 0 0) (hn : L.length ≤ 1000) :
  Calls Tryz.prog 89 #[.pointer (some ⟨bb, 0, none⟩)] w (CopyPost w L) := by
 have hcb : w.cell? ⟨bb, 0, none⟩ = some v := cell_of_row w bb 0 _ _ _ h.1
 obtain ⟨i0, hi, hz0, hz1, hz2⟩ := info_parts Tryz.infoPerson
 by_cases h0 : L = []
 ·
  obtain rfl := hv h0
  subst h0
  have HEnd : Hid (CopyPost w [] (.returned (.pointer (some ⟨w.heap.size, 0, none⟩))) (w.alloc (.cells #[.slice none 0 0] 49))) :=
   ⟨w.heap.size, .slice none 0 0, rfl, Nat.le_refl _, ⟨heap_alloc_new _ _, World.ownsRow_nil _ _ _ _⟩, fun _ => rfl, (Below.refl _ _).alloc (Nat.le_refl _) _⟩
  clear h hv hn
  have hno : ∀ ty c, (Builtin.append_ #[47, 47] ty #[.slice none 0 0, .slice none 0 c]).run Tryz.prog w = .ok (.slice none 0 0) w := fun ty c => by kernel_rfl
  go_enter Tryz.func89, Tryz.ntmps89
  go_wp2_with (at_builtin; refine Lib.wpList_append_run _ rfl _ _ _ _ rfl _ _ rfl rfl _ _ (hno _ _) ?_)
  go_ret
  exact HEnd.out
 ·
  obtain ⟨g, cap, rfl, hcap, hgx, hcx⟩ := owned_at h.2 h0
  clear hgx hcx
  have HSr : Hid (∀ j u, (cellsP L)[j]? = some u → w.cell? ((⟨g, 0, none⟩ : Addr).add j) = some u) := fun j u hj => by
   rw [Go.WideShapes.add_plain, Nat.zero_add]
   exact own_cells h.2 j u hj
  have HLn : Hid ((cellsP L).length = L.length * 4) := cellsP_len L
  have HEnd : Hid (∀ v2 w2, w2.ownsRow w.heap.size 46 4 v2 (0 + L.length) ([] ++ cellsP L) → w.grownBy w2 (Value.slice none 0 0).ownBlock → CopyPost w L (.returned (.pointer (some ⟨w2.heap.size, 0, none⟩))) (w2.alloc (.cells #[v2] 49))) := fun v2 w2 ho hg => by
   have hb : Below w.heap.size w w2 := (Below.refl _ w).grown hg (Nat.le_refl _) (fun k hk => by cases hk)
   refine ⟨w2.heap.size, v2, rfl, hb.size, ⟨heap_alloc_new _ _, ?_⟩, fun e => absurd e h0, hb.alloc hb.size _⟩
   rw [Nat.zero_add, List.nil_append] at ho
   exact ho.alloc _
  clear h hv h0
  generalize hln : L.length = n at *
  clear hln
  go_enter Tryz.func89, Tryz.ntmps89
  go_wp2_with (at_builtin; refine wpList_append_own _ rfl _ _ 47 rfl w.heap.size 46 i0 _ 4 40 Tryz.underlying47 hi hz0 hz1 hz2 rfl (by decide) _ _ _ rfl (World.ownsRow_nil _ _ _ _) ⟨g, 0, none⟩ n cap (cellsP L) rfl HLn.out HSr.out (cellsP_one _) (by unfold maxLen; omega) (by omega) (Nat.le_refl _) ?_; intro v5 w5 hown hgrow hnil; obtain ⟨ad5, c5, rfl⟩ := own_shapeR hown; have HE := hide (HEnd.out _ w5 hown hgrow); clear hown hgrow hnil HEnd HSr)
  go_ret
  have HE2 := HE.out
  rw [Nat.zero_add] at HE2
  exact HE2
end Go.Proofs.YtabpnjchocgakaaGreatDoor

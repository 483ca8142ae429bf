/-
  The document's answer's helper SameInts answers true for two slices of the same integers; the condition is that both hold them.
-/
import Derived.Test.YtpohajdgoaobfaaDoorProg
import Derived.WalkKit
import Derived.Test.YtpohajdgoaobfaaDoorBase
import Derived.WalkSpells
import Derived.RegionTactic
import Derived.ChangeAlike
namespace Go.Proofs.YtpohajdgoaobfaaDoor
open Go.RowKit

set_option maxHeartbeats 1000000 in
theorem sameInts_eq (xs : List Int) (n ba oa ca bb ob cb : Nat) (w : World) (hsz : n ≤ 1000000)
    (ha : ∀ j, j < n → w.cell? ⟨ba, oa + j, none⟩ = some (.int .i64 (xs.getD j 0))) (hb : ∀ j, j < n → w.cell? ⟨bb, ob + j, none⟩ = some (.int .i64 (xs.getD j 0))) :
    Calls Tryd.prog 6 #[.slice (some ⟨ba, oa, none⟩) n ca, .slice (some ⟨bb, ob, none⟩) n cb] w fun e w' => e = .returned (.bool true) ∧ Below w.heap.size w w' := by
  have HA : Hid (∀ j, j < n → w.cell? ⟨ba, oa + j, none⟩ = some (.int .i64 (xs.getD j 0))) := ha
  have HB : Hid (∀ j, j < n → w.cell? ⟨bb, ob + j, none⟩ = some (.int .i64 (xs.getD j 0))) := hb
  clear ha hb
  go_enter Tryd.func6, Tryd.ntmps6
  go_wp2
  go_loopw [5] (fun c wr => ∃ k : Nat, k ≤ n ∧ c = .int .i64 k ∧ Below w.heap.size w wr) (fun c _ => n - (intOf c).toNat)
  case atStart => exact ⟨0, by omega, rfl, Below.refl _ _⟩
  case round =>
    obtain ⟨k, hk, rfl, hbl⟩ := hrel
    by_cases hlt : k < n
    · have h1 : wr.cell? ⟨ba, oa + k, none⟩ = some (.int .i64 (xs.getD k 0)) := by have := HA.out k hlt; rw [hbl.cell (p := ⟨ba, oa + k, none⟩) (cell_lt this)]; exact this
      have h2 : wr.cell? ⟨bb, ob + k, none⟩ = some (.int .i64 (xs.getD k 0)) := by have := HB.out k hlt; rw [hbl.cell (p := ⟨bb, ob + k, none⟩) (cell_lt this)]; exact this
      have HBl : Hid (Below w.heap.size w wr) := hbl
      clear hbl
      go_wp2
      go_region
      go_wp2
      go_roundw
      case rel => exact ⟨k + 1, by omega, by go_num, HBl.out.drew⟩
      case measure => simp [intOf]; omega
    · go_wp2
      go_ret
      exact ⟨rfl, hbl⟩
end Go.Proofs.YtpohajdgoaobfaaDoor

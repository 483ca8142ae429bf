/-
  What mark.Of, More and Right answer at a key, and at none; what []byte(s) and string(b) give, their worlds named.
-/
import Derived.Test.YteofodegeigmaaaDoorMarkOf
namespace Go.Proofs.YteofodegeigmaaaDoor
open Go.RowKit Go.Extern.Stop Go.Stop Go.Extern

theorem ba_toList (a b : ByteArray) : (a ++ b).data.toList = a.data.toList ++ b.data.toList := by simp
theorem size_list (s : ByteArray) : s.data.toList.length = s.size := by simp

/-- What '[]byte(s)' gives, its world named. -/
theorem bytes_at (s : ByteArray) (w : World) : ∃ (w' : World) (cap : Nat), (convert 9 49 (.string s)).run Tryd.prog w = .ok (.slice (some ⟨w.heap.size, 0, none⟩) s.size cap) w' ∧
    (∀ j (hj : j < s.size), w'.cell? ⟨w.heap.size, j, none⟩ = some (.int .u8 (s[j].toNat : Int))) ∧ (∀ j, j < s.size → w'.frozen? ⟨w.heap.size, j, none⟩ = false) ∧ Below w.heap.size w w' ∧ w.heap.size < w'.heap.size := by
  obtain ⟨C, cap, hconv, hC⟩ := bytes_of s w
  have hsz : ∀ j, j < s.size → j < C.size := fun j hj => by
    rcases Nat.lt_or_ge j C.size with g | g
    · exact g
    · have := hC j hj
      rw [Array.getElem?_eq_none g] at this
      cases this
  refine ⟨_, cap, hconv, fun j hj => ?_, fun j hj => ?_, (Below.refl _ _).drew.alloc (Nat.le_refl _) _, by simp⟩
  · exact (World.cell?_alloc_mark w.drew C _ _ j).trans (hC j hj)
  · refine (World.frozen?_alloc_mark w.drew C _ _ _ j).trans ?_
    have := hsz j hj
    simp; omega

/-- 'string(b)', b's cells the bytes of a list. -/
theorem string_of (l : List UInt8) (n b cap : Nat) (w : World) (hn : n = l.length) (hc : ∀ j (hj : j < l.length), w.cell? ⟨b, j, none⟩ = some (.int .u8 (l[j].toNat : Int))) :
    (convert 49 9 (.slice (some ⟨b, 0, none⟩) n cap)).run Tryd.prog w = .ok (.string ⟨l.toArray⟩) w := by
  subst hn
  exact run_convert_bytes_back w 49 9 5 ⟨b, 0, none⟩ cap l Tryd.underlying49 Tryd.underlying5 Tryd.underlying9 (fun j hj => by
    have e : (Addr.add ⟨b, 0, none⟩ j) = ⟨b, j, none⟩ := by
      simp only [Addr.add, Nat.zero_add]
      split <;> simp_all
    rw [e]; exact hc j hj)

/-- One byte stored. -/
theorem set_cells (s : ByteArray) (c : UInt8) (k B : Nat) (w : World) (hk : k < s.size) (hcell : ∀ j (hj : j < s.size), w.cell? ⟨B, j, none⟩ = some (.int .u8 (s[j].toNat : Int))) :
    ∀ j (hj : j < (s.data.toList.set k c).length), (w.setCell ⟨B, k, none⟩ (.int .u8 (c.toNat : Int))).cell? ⟨B, j, none⟩ = some (.int .u8 ((s.data.toList.set k c)[j].toNat : Int)) := by
  intro j hj
  have hjs : j < s.size := by simpa using hj
  by_cases hjk : k = j
  · subst hjk
    rw [World.cell?_setCell_same _ _ _ (hcell k hk)]
    simp
  · have hne : (⟨B, k, none⟩ : Addr) ≠ ⟨B, j, none⟩  := fun e => hjk (Addr.mk.inj e).2.1
    refine (World.cell?_setCell_other _ _ _ _ hne).trans ?_
    rw [hcell j hjs, List.getElem_set_ne hjk]
    rfl
end Go.Proofs.YteofodegeigmaaaDoor

/-
  What mark.Of, More and Right answer at a key, and at none; what []byte(s) and string(b) give, their worlds named.
-/
import Derived.Test.YtabpnjchocgakaaGreatDoorMarkOf
namespace Go.Proofs.YtabpnjchocgakaaGreatDoor
open Go.RowKit Go.Extern.Stop Go.Stop Go.Extern
theorem ba_toList (a b : ByteArray) : (a ++ b).data.toList = a.data.toList ++ b.data.toList := by simp
theorem size_list (s : ByteArray) : s.data.toList.length = s.size := by simp
theorem of_keyS (a : Nat → Addr) (key : Int) (s : ByteArray) (w : World) (h : EV slS a w) (hs : s.size ≤ maxLen) (hk : 1 ≤ key ∧ key ≤ 1000000006) :
  Calls Tryz.prog 32 #[.int .i64 key, .string s] w fun e w' => e = .returned (.tuple #[.int .i64 (Mk.mk key key s.data.toList), .nilIface]) ∧ Below w.heap.size w w' := by
 have := of_ev slS rfl rfl a key s w h hs
 rw [show moreN key key s.data.toList = Mk.mk key key s.data.toList by simp [moreN, key_more, hk], show errV a (moreE key key) = .nilIface by rw [key_more, if_pos hk]; rfl] at this
 exact this
theorem bytes_at (s : ByteArray) (w : World) : ∃ (w' : World) (cap : Nat), (convert 9 237 (.string s)).run Tryz.prog w = .ok (.slice (some ⟨w.heap.size, 0, none⟩) s.size cap) w' ∧
  (∀ j (hj : j < s.size), w'.cell? ⟨w.heap.size, j, none⟩ = some (.int .u8 (s[j].toNat : Int))) ∧ (∀ j, j < s.size → w'.frozen? ⟨w.heap.size, j, none⟩ = false) ∧ Below w.heap.size w w' ∧ w.heap.size < w'.heap.size := by
 obtain ⟨C, cap, hconv, hC⟩ := bytes_of s w
 have hsz : ∀ j, j < s.size → j < C.size := fun j hj => by
  rcases Nat.lt_or_ge j C.size with g | g
  ·
   exact g
  ·
   have := hC j hj
   rw [Array.getElem?_eq_none g] at this
   cases this
 refine ⟨_, cap, hconv, fun j hj => ?_, fun j hj => ?_, (Below.refl _ _).drew.alloc (Nat.le_refl _) _, by simp⟩
 ·
  exact (World.cell?_alloc_mark w.drew C _ _ j).trans (hC j hj)
 ·
  refine (World.frozen?_alloc_mark w.drew C _ _ _ j).trans ?_
  have := hsz j hj
  simp; omega
theorem string_of (l : List UInt8) (n b cap : Nat) (w : World) (hn : n = l.length) (hc : ∀ j (hj : j < l.length), w.cell? ⟨b, j, none⟩ = some (.int .u8 (l[j].toNat : Int))) :
  (convert 237 9 (.slice (some ⟨b, 0, none⟩) n cap)).run Tryz.prog w = .ok (.string ⟨l.toArray⟩) w := by
 subst hn
 exact run_convert_bytes_back w 237 9 5 ⟨b, 0, none⟩ cap l Tryz.underlying237 Tryz.underlying5 Tryz.underlying9 (fun j hj => by
  have e : (Addr.add ⟨b, 0, none⟩ j) = ⟨b, j, none⟩ := by
   simp only [Addr.add, Nat.zero_add]
   split <;> simp_all
  rw [e]; exact hc j hj)
end Go.Proofs.YtabpnjchocgakaaGreatDoor

/-
  What an iterator over a book's map has given, plainly: each person once, in some order.
-/
import Derived.Test.YtkkjalokgaaniabDoorBookActs
import Derived.Sort.KeysCollected
namespace Go.Proofs.YtkkjalokgaaniabDoor
open Go

theorem at_person {L : List Per} {x : List UInt8} {yd : DataW Unit} (hat : ∀ zd, (dOf L).atKey (.string x) zd = yd) : ∃ p ∈ L, p.nm = x ∧ yd = perD p := by
  have hx : (⟨x.toArray⟩ : ByteArray).data.toList = x := by simp
  cases hg : getP L ⟨x.toArray⟩ with
  | none =>
    have h1 := hat (.lit (.bool true))
    have h2 := hat (.lit (.bool false))
    rw [← hx, dOf_at, hg] at h1 h2
    simp only [] at h1 h2
    rw [← h2] at h1
    cases h1
  | some p =>
    obtain ⟨h1, h2⟩ := getP_some hg
    have h3 := hat (.lit (.bool true))
    rw [← hx, dOf_at, hg] at h3
    exact ⟨p, h2, by unfold Per.nm; rw [h1], h3.symm⟩
theorem keys_dOf (L : List Per) : strKeys (dOf L) = L.map Per.nm := by
  show (L.map entP).map (fun p => strOf p.1) = _
  rw [List.map_map]
  rfl
theorem Rising.nodup {L : List Per} (h : Rising L) : L.Nodup := h.imp (fun g e => by subst e; exact List.lt_irrefl _ g)
theorem coll_perm {L ss : List Per} (hr : Rising L) (hn : (ss.map Per.nm).Perm (strKeys (dOf L))) (hm : ∀ p ∈ ss, p ∈ L) : ss.Perm L := by
  rw [keys_dOf] at hn
  have hnd : (L.map Per.nm).Nodup := by
    refine List.pairwise_map.2 (hr.imp (fun g e => ?_))
    rw [e] at g
    exact List.lt_irrefl _ g
  have hsd : (ss.map Per.nm).Nodup := hn.nodup_iff.2 hnd
  have hs2 : ss.Nodup := (List.pairwise_map.1 hsd).imp (fun g e => g (by rw [e]))
  refine (List.perm_ext_iff_of_nodup hs2 hr.nodup).2 fun p => ⟨hm p, fun hp => ?_⟩
  obtain ⟨q, hq, e⟩ := List.mem_map.1 (hn.mem_iff.2 (List.mem_map.2 ⟨p, hp, rfl⟩))
  have h1 := getP_of_mem hr (hm q hq)
  have h2 := getP_of_mem hr hp
  rw [name_eq e, h2] at h1
  rw [Option.some.inj h1]
  exact hq
end Go.Proofs.YtkkjalokgaaniabDoor

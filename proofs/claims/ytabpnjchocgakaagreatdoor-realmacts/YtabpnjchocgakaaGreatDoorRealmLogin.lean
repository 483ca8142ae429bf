/-
  What the document's answer's Login of a realm gives, and what it leaves: as a whole.
-/
import Derived.Test.YtabpnjchocgakaaGreatDoorRealmRef9
namespace Go.Proofs.YtabpnjchocgakaaGreatDoor
open Go.RowKit Go.Extern.Stop Go.Stop Go.Extern Go.Proofs Go.Maps
theorem logC_none {r : Rm} {name dst : ByteArray} {proof : Int} (h : getP r.b name = none ∨ getP r.b dst = none) : r.logC name proof dst = 5 := if_pos h
theorem logC_off {r : Rm} {name dst : ByteArray} {proof : Int} {p s : Per} (hp : getP r.b name = some p) (hs : getP r.b dst = some s) (h : p.off = true ∨ s.off = true) : r.logC name proof dst = 16 := by
 unfold Rm.logC
 rw [if_neg (by rw [hp, hs]; simp), per_of hp, per_of hs, if_pos h]
theorem logC_on {r : Rm} {name dst : ByteArray} {proof : Int} {p s : Per} (hp : getP r.b name = some p) (hs : getP r.b dst = some s) (h : ¬ (p.off = true ∨ s.off = true)) : r.logC name proof dst = if rightE p.key (prf name r.time) proof = 0 then (if 1000000 ≤ r.time ∨ 1073741824 < r.ser then 2 else 0) else rightE p.key (prf name r.time) proof := by
 unfold Rm.logC
 rw [if_neg (by rw [hp, hs]; simp), per_of hp, per_of hs, if_neg h]
theorem logC_le (r : Rm) (name dst : ByteArray) (proof : Int) : r.logC name proof dst ≤ 16 := by
 unfold Rm.logC
 have := rightE_le (perOf r.b name).key (prf name r.time) proof
 repeat' split
 all_goals omega
theorem RmPost.unserved {B : Nat} {w w' : World} {rb bb : Nat} {v lv : Value} {r : Rm} {c : Nat} (h : RefRm B w rb bb v lv r) (hc : c ≠ 0) (hb : Below w.heap.size w w') : RmPost B w rb bb v (r.serR c) w' := by rw [serR_no hc]; exact RmPost.same h hb
theorem refLogin_any {B : Nat} (rb bb : Nat) (v lv : Value) (r : Rm) (name : ByteArray) (proof : Int) (dst : ByteArray) (w : World) (h : RefRm B w rb bb v lv r) (hg : GoodR r) :
  Calls Tryz.prog 38 #[.pointer (some ⟨rb, 0, none⟩), .string name, .int .i64 proof, .string dst] w fun e w' => e = .returned (.tuple #[.string (r.logS name proof dst), .int .i64 (r.logC name proof dst : Int)]) ∧ RmPost B w rb bb v (r.serR (r.logC name proof dst)) w' := by
 have hbad : ∀ (c : Nat), c ≠ 0 → r.logC name proof dst = c → (Calls Tryz.prog 38 #[.pointer (some ⟨rb, 0, none⟩), .string name, .int .i64 proof, .string dst] w fun e w' => e = .returned (.tuple #[.string ⟨#[]⟩, .int .i64 (c : Int)]) ∧ Below w.heap.size w w') → Calls Tryz.prog 38 #[.pointer (some ⟨rb, 0, none⟩), .string name, .int .i64 proof, .string dst] w fun e w' => e = .returned (.tuple #[.string (r.logS name proof dst), .int .i64 (r.logC name proof dst : Int)]) ∧ RmPost B w rb bb v (r.serR (r.logC name proof dst)) w' := fun c hc e hC => by
  rw [logS_no (by rw [e]; exact hc), e]
  exact hC.mono fun _ _ ⟨h1, h2⟩ => ⟨h1, RmPost.unserved h hc h2⟩
 cases hp : getP r.b name with
 | none => exact hbad 5 (by decide) (logC_none (Or.inl hp)) (refLogin_none rb bb v lv r name proof dst w h hg (Or.inl hp))
 | some p =>
  cases hs : getP r.b dst with
  | none => exact hbad 5 (by decide) (logC_none (Or.inr hs)) (refLogin_none rb bb v lv r name proof dst w h hg (Or.inr hs))
  | some s =>
   by_cases ho : p.off = true ∨ s.off = true
   ·
    exact hbad 16 (by decide) (logC_off hp hs ho) (refLogin_off rb bb v lv r name proof dst p s w h hg hp hs ho)
   ·
    have o1 : p.off = false := by cases e : p.off with
     | true => exact absurd (Or.inl e) ho
     | false => rfl
    have o2 : s.off = false := by cases e : s.off with
     | true => exact absurd (Or.inr e) ho
     | false => rfl
    have hC := logC_on (proof := proof) hp hs ho
    by_cases hre : rightE p.key (prf name r.time) proof = 0
    ·
     rw [if_pos hre] at hC
     by_cases hb : 1000000 ≤ r.time ∨ 1073741824 < r.ser
     ·
      rw [if_pos hb] at hC
      refine hbad 2 (by decide) hC ?_
      have := refLogin_mark rb bb v lv r name proof dst p s w h hg hp hs o1 o2 (Or.inr hb)
      rw [if_pos hre] at this
      exact this
     ·
      rw [if_neg hb] at hC
      have := refLogin_ok rb bb v lv r name proof dst p s w h hg hp hs o1 o2 hre (fun e => hb (Or.inl e)) (fun e => hb (Or.inr e))
      have hS : r.logS name proof dst = Sl.ofL (Sl.sealL s.key (r.logT name dst).words) := by unfold Rm.logS; rw [if_pos hC, per_of hs]
      rw [hS, hC]
      exact this
    ·
     rw [if_neg hre] at hC
     refine hbad _ hre hC ?_
     have := refLogin_mark rb bb v lv r name proof dst p s w h hg hp hs o1 o2 (Or.inl hre)
     rw [if_neg hre] at this
     exact this
theorem GoodR.logR {r : Rm} (h : GoodR r) (name dst : ByteArray) (proof : Int) : GoodR (r.serR (r.logC name proof dst)) := by
 refine h.serR _ fun e => ?_
 unfold Rm.logC at e
 repeat' split at e
 all_goals first
  | omega
  | (exact absurd e (by assumption))
end Go.Proofs.YtabpnjchocgakaaGreatDoor

/-
  What package floor's Join gives: of each the greater, in new memory, or an error; for any two lists. And floors of own memory.
-/
import Derived.Test.YteabincmopeljaeGreatDoorFlPa
namespace Go.Proofs.YteabincmopeljaeGreatDoor
open Go.RowKit Go.Extern.Stop Go.Stop Go.Extern Go.Proofs

def joinC (a b : List Fl) : Nat × Int := if (checkL a).1 = 0 then (if (checkL b).1 = 0 then checkL (joinL a b) else checkL b) else checkL a
def joinR (a b : List Fl) : List Fl := if (joinC a b).1 = 0 then joinL a b else []
theorem len_fold : ∀ (b a : List Fl), (b.foldl raisedL a).length ≤ a.length + b.length
  | [], a => by simp
  | f :: b, a => by
    have h1 := len_fold b (raisedL a f)
    have h2 := len_raised a f
    rw [List.foldl_cons, List.length_cons]
    omega
theorem small_fold : ∀ (b a : List Fl), (∀ g ∈ a, g.who.size ≤ maxLen) → (∀ g ∈ b, g.who.size ≤ maxLen) → ∀ g ∈ b.foldl raisedL a, g.who.size ≤ maxLen
  | [], _, h, _ => h
  | f :: b, a, h, hb => small_fold b (raisedL a f) (small_raised h (hb f (by simp))) (fun g hg => hb g (by simp [hg]))
theorem fold_snoc (b a : List Fl) (k : Nat) (hk : k < b.length) : (b.take (k + 1)).foldl raisedL a = raisedL ((b.take k).foldl raisedL a) b[k] := by
  rw [List.take_succ_eq_append_getElem hk, List.foldl_append]
  rfl

set_option maxRecDepth 100000 in
set_option maxHeartbeats 1000000 in
theorem ownFloors_any (v : Value) (l : List Fl) (w : World) (hv : FlAt w v l) (hl : l.length ≤ 1000000) :
    Calls Tryz.prog 15 #[v] w fun e w' => ∃ v', e = .returned v' ∧ OwnF w' w.heap.size v' l ∧ Below w.heap.size w w' := by
  obtain ⟨i0, hi, hz0, hz1, hz2⟩ := info_parts Tryz.infoFloor
  have HEnd : Hid (∀ v' w1, w1.ownsRow w.heap.size 61 2 v' (0 + l.length) ([] ++ cellsF l) → w.grownBy w1 (Value.slice none 0 0).ownBlock → OwnF w1 w.heap.size v' l ∧ Below w.heap.size w w1) := fun v' w1 h1 h2 =>
    ⟨by simpa using h1, (Below.refl _ w).grown h2 (Nat.le_refl _) (fun k hk => by cases hk)⟩
  rcases hv with ⟨ad, cap, rfl, rfl⟩ | ⟨b, off, cap, rfl, hc, hcell⟩
  · cases ad with
    | none =>
      have hno : ∀ ty c, (Builtin.append_ #[33, 33] ty #[.slice none 0 0, .slice none 0 c]).run Tryz.prog w = .ok (.slice none 0 0) w := fun ty c => by kernel_rfl
      go_enter Tryz.func15, Tryz.ntmps15
      go_wp2_with (at_builtin; refine Lib.wpList_append_run _ rfl _ _ _ _ rfl _ _ rfl rfl _ _ (hno _ _) ?_)
      go_ret
      exact ⟨_, rfl, OwnF.nil _ _, Below.refl _ _⟩
    | some ad =>
      go_enter Tryz.func15, Tryz.ntmps15
      go_wp2_with (at_builtin; refine wpList_append_own _ rfl _ _ 33 rfl w.heap.size 61 i0 _ 2 24 Tryz.underlying33 hi hz0 hz1 hz2 rfl (by decide) _ _ _ rfl (World.ownsRow_nil _ _ _ _) ad 0 cap [] rfl rfl (fun j u hj => by simp at hj) (by simp) (by unfold maxLen; omega) (by omega) (Nat.le_refl _) ?_; intro v' w1 hown hgrow hnil)
      go_wp2
      go_ret
      exact ⟨v', rfl, HEnd.out v' w1 hown hgrow⟩
  · have HS : Hid (∀ j u, (cellsF l)[j]? = some u → w.cell? ((⟨b, off, none⟩ : Addr).add j) = some u) := fun j u hu => by rw [Addr.add_lit]; exact hcell j u hu
    have HLn := hide (cellsF_len l)
    have HOne := hide (cellsF_one l)
    clear hcell
    generalize cellsF l = cs at *
    generalize hn : l.length = n at *
    go_enter Tryz.func15, Tryz.ntmps15
    go_wp2_with (at_builtin; refine wpList_append_own _ rfl _ _ 33 rfl w.heap.size 61 i0 _ 2 24 Tryz.underlying33 hi hz0 hz1 hz2 rfl (by decide) _ _ _ rfl (World.ownsRow_nil _ _ _ _) ⟨b, off, none⟩ n cap cs rfl HLn.out HS.out HOne.out (by unfold maxLen; omega) (by omega) (Nat.le_refl _) ?_; intro v' w1 hown hgrow hnil)
    go_wp2
    go_ret
    exact ⟨v', rfl, HEnd.out v' w1 hown hgrow⟩
end Go.Proofs.YteabincmopeljaeGreatDoor

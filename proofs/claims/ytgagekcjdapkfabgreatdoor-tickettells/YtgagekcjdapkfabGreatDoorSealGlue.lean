/-
  What the document's answer's Glue gives: texts with a blank between, for texts of at most 6000 bytes together.
-/
import Derived.Test.YtgagekcjdapkfabGreatDoorSealCut
import Derived.Test.YtgagekcjdapkfabGreatDoorSealBack
namespace Go.Proofs.YtgagekcjdapkfabGreatDoor
open Go.RowKit Go.Extern.Stop Go.Stop Go.Extern

theorem glue_append_le : ∀ (b a : List (List UInt8)), (Sl.glue a).length ≤ (Sl.glue (a ++ b)).length
  | [], a => by rw [List.append_nil]; exact Nat.le_refl _
  | x :: b, a => by
    have ih := glue_append_le b (a ++ [x])
    rw [List.append_assoc] at ih
    refine Nat.le_trans ?_ ih
    by_cases ha : a = []
    · subst ha
      show (Lib.join [] [32]).length ≤ _
      rw [Lib.join_nil]
      exact Nat.zero_le _
    · show (Lib.join a [32]).length ≤ (Lib.join (a ++ [x]) [32]).length
      rw [Sl.join_snoc x a ha, List.length_append]
      omega
theorem glue_take_le (ws : List (List UInt8)) (k : Nat) : (Sl.glue (ws.take k)).length ≤ (Sl.glue ws).length := by
  have := glue_append_le (ws.drop k) (ws.take k)
  rwa [List.take_append_drop] at this
theorem glue_next (xs : List ByteArray) (k : Nat) (hk : k < xs.length) :
    (k = 0 → Sl.ofL (Sl.glue ((toLs xs).take k)) ++ xs[k] = Sl.ofL (Sl.glue ((toLs xs).take (k + 1)))) ∧
    (k ≠ 0 → Sl.ofL (Sl.glue ((toLs xs).take k)) ++ ⟨#[32]⟩ ++ xs[k] = Sl.ofL (Sl.glue ((toLs xs).take (k + 1)))) := by
  have hkl : k < (toLs xs).length := by simpa using hk
  have ht : (toLs xs).take (k + 1) = (toLs xs).take k ++ [xs[k].data.toList] := by
    rw [List.take_succ_eq_append_getElem hkl, List.getElem_map]
  refine ⟨fun h => ?_, fun h => ?_⟩
  · refine Sl.ba_ext ?_
    rw [ba_toList, Sl.toL_ofL, Sl.toL_ofL, ht]
    subst h
    show Lib.join [] [32] ++ _ = Lib.join ([] ++ [xs[0].data.toList]) [32]
    rw [List.nil_append, Lib.join_one, Lib.join_nil]
    rfl
  · refine Sl.ba_ext ?_
    rw [ba_toList, ba_toList, Sl.toL_ofL, Sl.toL_ofL, ht]
    have hne : (toLs xs).take k ≠ [] := by
      intro e
      have := congrArg List.length e
      rw [List.length_take, List.length_nil] at this
      omega
    show _ = Lib.join ((toLs xs).take k ++ [xs[k].data.toList]) [32]
    rw [Sl.join_snoc _ _ hne]
    simp
theorem text_le (xs : List ByteArray) (k : Nat) (hk : k < xs.length) : xs[k].size ≤ (Sl.glue (toLs xs)).length := by
  have h1 := glue_take_le (toLs xs) (k + 1)
  obtain ⟨a, b⟩ := glue_next xs k hk
  by_cases h0 : k = 0
  · have := congrArg ByteArray.size (a h0)
    rw [ByteArray.size_append, Sl.ofL_size, Sl.ofL_size] at this
    omega
  · have := congrArg ByteArray.size (b h0)
    rw [ByteArray.size_append, ByteArray.size_append, Sl.ofL_size, Sl.ofL_size] at this
    omega

set_option maxRecDepth 100000 in
set_option maxHeartbeats 1000000 in
theorem refGlue_any (xs : List ByteArray) (b o n c : Nat) (w : World) (hl : xs.length = n) (hn : n ≤ 100000) (hx : Texts w b o xs) (hg : (Sl.glue (toLs xs)).length ≤ 6000) :
    Calls Tryz.prog 68 #[.slice (some ⟨b, o, none⟩) n c, .string ⟨#[32]⟩] w fun e w' => e = .returned (.string (Sl.ofL (Sl.glue (toLs xs)))) ∧ w' = w := by
  have HX := hide hx
  have HL := hide hl
  have HG := hide hg
  clear hx hl hg
  go_enter Tryz.func68, Tryz.ntmps68
  go_wp2
  go_loop [5, 6] (fun sv i => ∃ k : Nat, k ≤ n ∧ i = .int .i64 k ∧ sv = .string (Sl.ofL (Sl.glue ((toLs xs).take k)))) (fun _ i => n - (intOf i).toNat)
  case atStart => exact ⟨0, Nat.zero_le _, rfl, rfl⟩
  case round =>
    obtain ⟨k, hk, rfl, rfl⟩ := hrel
    by_cases hlt : k < n
    · have hkl : k < xs.length := by rw [HL.out]; exact hlt
      have hcell := HX.out k hkl
      have hsz : (Sl.ofL (Sl.glue ((toLs xs).take k))).size ≤ 6000 := by rw [Sl.ofL_size]; exact Nat.le_trans (glue_take_le _ _) HG.out
      have hyz : xs[k].size ≤ 6000 := Nat.le_trans (text_le xs k hkl) HG.out
      have HN := hide (glue_next xs k hkl)
      generalize Sl.ofL (Sl.glue ((toLs xs).take k)) = g at *
      generalize xs[k] = y at *
      by_cases h0 : k = 0
      · subst h0
        have HN0 := hide (HN.out.1 rfl)
        rw [Nat.add_zero] at hcell
        clear HN
        go_wp2
        go_round
        case rel => exact ⟨1, by omega, rfl, by rw [← HN0.out]⟩
        case measure => simp [intOf]; omega
      · have HN0 := hide (HN.out.2 h0)
        have h0' : (0 : Int) < (k : Int) := by omega
        clear HN
        go_wp2
        go_round
        case rel => exact ⟨k + 1, by omega, by go_num, by rw [← HN0.out]⟩
        case measure => simp [intOf]; omega
    · have hkn : (toLs xs).take k = toLs xs := List.take_of_length_le (by rw [List.length_map, HL.out]; omega)
      rw [hkn]
      clear hkn
      go_wp2
      go_ret
      exact ⟨rfl, rfl⟩
end Go.Proofs.YtgagekcjdapkfabGreatDoor

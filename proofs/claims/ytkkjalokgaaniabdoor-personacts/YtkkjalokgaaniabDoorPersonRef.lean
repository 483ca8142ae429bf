/-
  What the document's answer's PersonError and Find give, for every person, book and name; a book of the document's answer as memory holds it.
-/
import Derived.Test.YtkkjalokgaaniabDoorPersonPlain
import Derived.Test.YtkkjalokgaaniabDoorSealRef
import Derived.Test.YtkkjalokgaaniabDoorMarkRef
import Derived.Laws.Rows
import Derived.OwnWalk
namespace Go.Proofs.YtkkjalokgaaniabDoor
open Go.RowKit Go.Extern.Stop Go.Stop Go.Extern

set_option maxRecDepth 100000 in
set_option maxHeartbeats 1000000 in
theorem refPerson_any (p : Per) (w : World) (hs : p.name.size ≤ maxLen) :
    Calls Tryd.prog 10 #[p.val] w fun e w' => e = .returned (.int .i64 (p.err : Int)) ∧ Below w.heap.size w w' := by
  obtain ⟨name, key, epoch, off⟩ := p
  have HB : Hid (Below w.heap.size w (w.alloc (.cells #[.string name, .int .i64 key, .int .i64 epoch, .bool off] 24))) := (Below.refl _ _).alloc (Nat.le_refl _) _
  have HN := hide (fun w => refName_any name w hs)
  have HK := hide (fun w => refKey_any key w)
  show Calls Tryd.prog 10 #[.agg #[.string name, .int .i64 key, .int .i64 epoch, .bool off]] w _
  have HR : Hid (∀ c, (Per.mk name key epoch off).err = c → Calls Tryd.prog 10 #[.agg #[.string name, .int .i64 key, .int .i64 epoch, .bool off]] w (fun e w' => e = .returned (.int .i64 (c : Int)) ∧ Below w.heap.size w w') → Calls Tryd.prog 10 #[.agg #[.string name, .int .i64 key, .int .i64 epoch, .bool off]] w (fun e w' => e = .returned (.int .i64 ((Per.mk name key epoch off).err : Int)) ∧ Below w.heap.size w w')) := fun c hc h => by rw [hc]; exact h
  cases hn : Sl.nameL name.data.toList with
  | false =>
    refine HR.out 4 (by unfold Per.err; simp [hn]) ?_
    rw [hn] at HN
    clear hn HR
    generalize decide (1 ≤ key ∧ key ≤ 1000000006) = kb at *
    go_enter Tryd.func10, Tryd.ntmps10
    go_wp2_with fail
    refine (HN.out _).mono ?_
    rintro e w1 ⟨rfl, rfl⟩
    go_wp2_with fail
    refine (HK.out _).mono ?_
    rintro e w1 ⟨rfl, rfl⟩
    go_wp2
    go_ret
    exact ⟨rfl, HB.out⟩
  | true =>
    rw [hn] at HN
    by_cases hk : 1 ≤ key ∧ key ≤ 1000000006
    · rw [decide_eq_true hk] at HK
      by_cases he : 1 ≤ epoch ∧ epoch ≤ 1073741824
      · refine HR.out 0 (by unfold Per.err; simp [hn, hk, he]) ?_
        obtain ⟨he1, he2⟩ := he
        clear hn HR hk
        go_enter Tryd.func10, Tryd.ntmps10
        go_wp2_with fail
        refine (HN.out _).mono ?_
        rintro e w1 ⟨rfl, rfl⟩
        go_wp2_with fail
        refine (HK.out _).mono ?_
        rintro e w1 ⟨rfl, rfl⟩
        go_wp2
        go_ret
        exact ⟨rfl, HB.out⟩
      · refine HR.out 2 (by unfold Per.err; rw [if_pos hn, if_pos hk, if_neg he]) ?_
        have he2 : epoch < 1 ∨ (1 ≤ epoch ∧ 1073741824 < epoch) := by omega
        clear hn HR hk he
        rcases he2 with g | ⟨g, g2⟩
        all_goals
          go_enter Tryd.func10, Tryd.ntmps10
          go_wp2_with fail
          refine (HN.out _).mono ?_
          rintro e w1 ⟨rfl, rfl⟩
          go_wp2_with fail
          refine (HK.out _).mono ?_
          rintro e w1 ⟨rfl, rfl⟩
          go_wp2
          go_ret
          exact ⟨rfl, HB.out⟩
    · refine HR.out 10 (by unfold Per.err; rw [if_pos hn, if_neg hk]) ?_
      rw [decide_eq_false hk] at HK
      clear hn HR hk
      go_enter Tryd.func10, Tryd.ntmps10
      go_wp2_with fail
      refine (HN.out _).mono ?_
      rintro e w1 ⟨rfl, rfl⟩
      go_wp2_with fail
      refine (HK.out _).mono ?_
      rintro e w1 ⟨rfl, rfl⟩
      go_wp2
      go_ret
      exact ⟨rfl, HB.out⟩

/-- Two texts that are not the same, as the walk asks. -/
theorem texts_ne {a b : ByteArray} (h : a ≠ b) : (a.toList == b.toList) = false := by
  rw [beq_eq_false_iff_ne]
  intro e
  rw [Go.ByteArray.toList_eq, Go.ByteArray.toList_eq] at e
  exact h (Go.WideShapes.bytes_inj e)

/-- A book of the document's answer in memory: its block, and behind it the row of its people. -/
def RefBook (w : World) (bb : Nat) (L : List Per) : Prop := ∃ v B, w.heap[bb]? = some (.cells #[v] 37 (0, 0)) ∧ w.ownsRow B 24 4 v L.length (cellsP L)
theorem owned_at {w : World} {base : Nat} {v : Value} {L : List Per} (h : w.ownsRow base 24 4 v L.length (cellsP L)) (hn : L ≠ []) :
    ∃ g cap, v = .slice (some ⟨g, 0, none⟩) L.length cap ∧ L.length ≤ cap ∧ base ≤ g ∧ ∀ i (hi : i < L.length), w.cell? ⟨g, i * 4, none⟩ = some (.string L[i].name) ∧ w.cell? ⟨g, i * 4 + 1, none⟩ = some (.int .i64 L[i].key) ∧ w.cell? ⟨g, i * 4 + 2, none⟩ = some (.int .i64 L[i].epoch) ∧ w.cell? ⟨g, i * 4 + 3, none⟩ = some (.bool L[i].off) := by
  rcases h.2 with ⟨_, h0⟩ | ⟨g, cap, cur, rfl, hb, hg, hc, _, _, ht⟩
  · exact absurd (List.length_eq_zero_iff.1 h0) hn
  · refine ⟨g, cap, rfl, hc, hb, fun i hi => ?_⟩
    have key : ∀ j (_ : j < 4) u, (L[i].cells)[j]? = some u → w.cell? ⟨g, i * 4 + j, none⟩ = some u := fun j hj u hu => by
      have e := cellsP_at L i j hi hj
      rw [hu, ← ht, List.getElem?_take] at e
      rw [cell_of_row w g _ cur _ _ hg]
      split at e
      · simpa using e
      · cases e
    exact ⟨key 0 (by decide) _ rfl, key 1 (by decide) _ rfl, key 2 (by decide) _ rfl, key 3 (by decide) _ rfl⟩

set_option maxRecDepth 100000 in
set_option maxHeartbeats 1000000 in
theorem refFind_any (bb : Nat) (L : List Per) (name : ByteArray) (w : World) (h : RefBook w bb L) (hn : L.length ≤ 1000) :
    Calls Tryd.prog 21 #[.pointer (some ⟨bb, 0, none⟩), .string name] w fun e w' => e = .returned (.int .i64 (findP L name)) ∧ w' = w := by
  obtain ⟨v, B, hbb, hown⟩ := h
  have hcb : w.cell? ⟨bb, 0, none⟩ = some v := cell_of_row w bb 0 _ _ _ hbb
  clear hbb
  by_cases h0 : L = []
  · subst h0
    have HF : Hid (findP [] name = -1) := rfl
    have hv : ∃ ad cap, v = .slice ad 0 cap := by
      rcases hown.2 with ⟨rfl, _⟩ | ⟨g, cap, cur, rfl, _⟩
      · exact ⟨_, _, rfl⟩
      · exact ⟨_, _, rfl⟩
    obtain ⟨ad, cap, rfl⟩ := hv
    clear hown hn
    go_enter Tryd.func21, Tryd.ntmps21
    go_wp2
    go_loop [5] (fun i => i = .int .i64 0) (fun _ => 0)
    case atStart => exact rfl
    case round =>
      subst hrel
      go_wp2
      go_ret
      exact ⟨by rw [HF.out]; rfl, rfl⟩
  · obtain ⟨g, cap, rfl, hcap, _, hcells⟩ := owned_at hown h0
    have HC := hide hcells
    clear hown hcells h0
    generalize hlen : L.length = n at hn hcb hcap
    have HL := hide hlen
    clear hlen
    go_enter Tryd.func21, Tryd.ntmps21
    go_wp2
    go_loop [5] (fun i => ∃ k : Nat, k ≤ n ∧ i = .int .i64 k ∧ Hid (∀ j (hj : j < L.length), j < k → L[j].name ≠ name)) (fun i => n - (intOf i).toNat)
    case atStart => exact ⟨0, Nat.zero_le _, rfl, fun j _ hj => absurd hj (Nat.not_lt_zero _)⟩
    case round =>
      obtain ⟨k, hk, rfl, A⟩ := hrel
      by_cases hlt : k < n
      · have hkl : k < L.length := by rw [HL.out]; exact hlt
        have hc0 := (HC.out k hkl).1
        by_cases he : L[k].name = name
        · have HF := hide (findP_some L name k hkl he A.out)
          rw [he] at hc0
          clear he
          go_wp2
          go_ret
          exact ⟨by rw [HF.out]; rfl, rfl⟩
        · have HE := hide he
          generalize L[k].name = y at hc0 he
          have hq := texts_ne he
          clear he
          go_wp2
          go_round
          case rel =>
            refine ⟨k + 1, by omega, by go_num, (show Hid _ from fun j hj hjk => ?_)⟩
            by_cases e : j = k
            · subst e; exact HE.out
            · exact A.out j hj (by omega)
          case measure => simp [intOf]; omega
      · have HF : Hid (findP L name = -1) := findP_none L name (fun j hj => A.out j hj (by rw [HL.out] at hj; omega))
        go_wp2
        go_ret
        exact ⟨by rw [HF.out]; rfl, rfl⟩
end Go.Proofs.YtkkjalokgaaniabDoor

/-
  What FeedTells' law leans on: errors' numbers and places, floors, entries and errors that a written fault leaves as they were; and the ways on which the statement's function ends at once.
-/
import Derived.Test.YtgagekcjdapkfacGreatDoorFeedFed
import Derived.Test.YtgagekcjdapkfacGreatDoorFeedRefNew
import Derived.Test.YtgagekcjdapkfacGreatDoorRefPb
namespace Go.Proofs.YtgagekcjdapkfacGreatDoor
open Go.RowKit Go.Extern.Stop Go.Stop Go.Extern Go.Proofs

theorem Env.f {a : Nat → Addr} {w : World} (h : Env a w) : EnvF a w := ⟨h.errs.ev _, h.len, h.tab⟩
theorem ent_lt (k : Nat) (was : Int) (e : En) : entE k was e < 16 := by
  unfold entE
  have := one_le e.fl
  repeat' split
  all_goals omega
theorem feed_lt (l : List En) : (feedC l).1 < 16 := by
  have hb : ∀ i, badE l i < 16 := fun i => by
    unfold badE
    split
    · exact ent_lt _ _ _
    · omega
  unfold feedC
  split
  · decide
  · split
    · exact hb _
    · decide
theorem feed_pl (l : List En) (h : (feedC l).1 = 0) : (feedC l).2 = -1 := by rw [feed_ok h]
theorem add_lt (l : List En) (time : Int) (f : Fl) : (addC l time f).1 < 16 := by
  unfold addC
  split
  · show newE l time f < 16
    unfold newE
    split
    · decide
    · exact ent_lt _ _ _
  · exact feed_lt l
theorem add_pl (l : List En) (time : Int) (f : Fl) (h : (addC l time f).1 = 0) : (addC l time f).2 = -1 := by
  unfold addC at h ⊢
  split
  · rfl
  · rename_i h1; rw [if_neg h1] at h; exact absurd h h1
theorem floors_lt (l : List En) : (floorsC l).1 < 16 := by
  unfold floorsC
  split
  · split <;> decide
  · exact feed_lt l
theorem floors_pl (l : List En) (h : (floorsC l).1 = 0) : (floorsC l).2 = -1 := by
  obtain ⟨h1, h2⟩ := floors_zero h
  rw [(floors_some h1 h2).1]
theorem since_lt (l : List En) (seq : Int) : (sinceC l seq).1 < 16 := by
  unfold sinceC
  split
  · repeat' split
    all_goals decide
  · exact feed_lt l
theorem since_pl (l : List En) (seq : Int) (h : (sinceC l seq).1 = 0) : (sinceC l seq).2 = -1 := by
  unfold sinceC at h ⊢
  split
  · repeat' split
    all_goals rfl
  · rename_i h1; rw [if_neg h1] at h; exact absurd h h1
theorem head_lt (key : Int) (l : List En) (time : Int) : (headC key l time).1 < 16 := by
  unfold headC
  have := floors_lt l
  repeat' split
  all_goals first | assumption | decide
theorem head_pl (key : Int) (l : List En) (time : Int) (h : (headC key l time).1 = 0) : (headC key l time).2 = -1 := by
  obtain ⟨h1, h2, h3, h4⟩ := headC_zero h
  unfold headC
  rw [if_pos h1, if_pos h2, if_pos ⟨h3, h4⟩]
theorem addR_len (l : List En) (time : Int) (f : Fl) : (addR l time f).length ≤ l.length + 1 := by
  unfold addR
  split
  · rw [addL_len]; exact Nat.le_refl _
  · simp
theorem sinceR_len (l : List En) (seq : Int) : (sinceR l seq).length ≤ l.length := by
  unfold sinceR
  split
  · rw [List.length_drop]; omega
  · simp

/-- Entries lie in no fault's block. -/
theorem EnAt.past {w : World} {v : Value} {x : List En} {g : Nat} {p q : Int} (h : EnAt w v x) (hr : w.heap[g]? = some (fltO p q)) (y z : Value) : EnAt ((w.setCell ⟨g, 0, none⟩ y).setCell ⟨g, 0 + 1, none⟩ z) v x := by
  rcases h with h | ⟨b, off, cap, h1, h2, h3⟩
  · exact Or.inl h
  · refine Or.inr ⟨b, off, cap, h1, h2, fun j u hu => ?_⟩
    have hx : 0 < x.length := by
      cases x with
      | nil => simp [cellsE] at hu
      | cons a x => simp
    have hb : g ≠ b := by
      intro e
      subst e
      have c := h3 (0 * 4 + 2) _ ((cellsE_at x 0 2 hx (by decide)).trans rfl)
      rw [cell_of_row w g _ _ _ _ hr] at c
      match hoff : off + (0 * 4 + 2), c with
      | 0, c => simp at c
      | 1, c => simp at c
      | n + 2, c => simp at c
    rw [World.cell?_setCell_other _ _ _ _ (fun e => hb (congrArg Addr.block e)), World.cell?_setCell_other _ _ _ _ (fun e => hb (congrArg Addr.block e))]
    exact h3 j u hu
/-- Nor does an error. -/
theorem flErr_past {a : Nat → Addr} {w : World} {c : Nat × Int} {ev : Value} {g : Nat} {p q : Int} (h : FlErr a w c ev) (hr : w.heap[g]? = some (fltO p q)) (y z : Value) : FlErr a ((w.setCell ⟨g, 0, none⟩ y).setCell ⟨g, 0 + 1, none⟩ z) c ev := by
  rcases h with h | h | ⟨h1, b, h2, h3⟩
  · exact Or.inl h
  · exact Or.inr (Or.inl h)
  · have hb : b ≠ g := by
      intro e
      subst e
      rw [hr] at h3
      simp at h3
    exact Or.inr (Or.inr ⟨h1, b, h2, by rw [heap_setCell_other _ _ _ _ hb, heap_setCell_other _ _ _ _ hb]; exact h3⟩)

/-- The ways on which the statement's function ends at once. -/
def earlyT (l : List En) (who s : ByteArray) : Bool := longE l || decide (20 < who.size) || decide (400 < s.size)

set_option maxRecDepth 100000 in
set_option maxHeartbeats 4000000 in
theorem tells_early (a : Nat → Addr) (key : Int) (v : Value) (l : List En) (time : Int) (f : Fl) (seq : Int) (s : ByteArray) (w : World) (h : EnvF a w) (hv : EnAt w v l) (hE : earlyT l f.who s = true) :
    Calls Tryz.prog 4 #[.int .i64 key, v, .int .i64 time, f.val, .int .i64 seq, .string s] w fun e w' => e = .returned (.bool true) ∧ Below w.heap.size w w' := by
  have HFed := hide (fun w h => fed_any a w h)
  have HLg := hide (fun w h => longEntries_any v l w h)
  have HB0 : Hid (Below w.heap.size w (w.alloc (.cells #[.string f.who, .int .i64 f.ep] 24))) := (Below.refl _ _).alloc (Nat.le_refl _) _
  have HQ0 : Hid ((w.alloc (.cells #[.string f.who, .int .i64 f.ep] 24)).heap[w.heap.size]? = some (.cells #[.string f.who, .int .i64 f.ep] 24 (0, 0))) := heap_alloc_new _ _
  have HE := hide h
  have HV := hide hv
  unfold Fl.val
  cases hlong : longE l with
  | true =>
    rw [if_pos hlong] at HLg
    clear h hv hE hlong
    generalize f.who = who at *
    generalize f.ep = ep at *
    go_enter Tryz.func4, Tryz.ntmps4
    go_wp2_with fail
    refine (HFed.out _ (HE.out.below HB0.out)).mono ?_
    rintro e w1 ⟨rfl, hb⟩
    have HB1 : Hid (Below w.heap.size w w1) := HB0.out.trans (hb.mono HB0.out.size)
    clear hb
    go_wp2_with fail
    refine (HLg.out _ (HV.out.below HB1.out)).mono ?_
    rintro e w2 ⟨rfl, rfl⟩
    go_wp2
    go_ret
    exact ⟨rfl, HB1.out⟩
  | false =>
    rw [if_neg (by rw [hlong]; decide)] at HLg
    by_cases hf : 20 < f.who.size
    · clear h hv hE hlong
      generalize f.who = who at *
      generalize f.ep = ep at *
      have hfz : (20 : Int) < (who.size : Int) := by omega
      go_enter Tryz.func4, Tryz.ntmps4
      go_wp2_with fail
      refine (HFed.out _ (HE.out.below HB0.out)).mono ?_
      rintro e w1 ⟨rfl, hb⟩
      have HB1 : Hid (Below w.heap.size w w1) := HB0.out.trans (hb.mono HB0.out.size)
      have c0 : w1.cell? ⟨w.heap.size, 0, none⟩ = some (.string who) := cell_of_row w1 _ 0 _ _ _ ((hb.block _ (row_lt HQ0.out)).trans HQ0.out)
      clear hb
      go_wp2_with fail
      refine (HLg.out _ (HV.out.below HB1.out)).mono ?_
      rintro e w2 ⟨rfl, rfl⟩
      go_wp2
      go_ret
      exact ⟨rfl, HB1.out⟩
    · have hn : 400 < s.size := by
        unfold earlyT at hE
        rw [hlong, decide_eq_false hf] at hE
        simpa using hE
      clear h hv hE hlong
      generalize f.who = who at *
      generalize f.ep = ep at *
      have hfz : ¬ (20 : Int) < (who.size : Int) := by omega
      have hnz : (400 : Int) < (s.size : Int) := by omega
      go_enter Tryz.func4, Tryz.ntmps4
      go_wp2_with fail
      refine (HFed.out _ (HE.out.below HB0.out)).mono ?_
      rintro e w1 ⟨rfl, hb⟩
      have HB1 : Hid (Below w.heap.size w w1) := HB0.out.trans (hb.mono HB0.out.size)
      have c0 : w1.cell? ⟨w.heap.size, 0, none⟩ = some (.string who) := cell_of_row w1 _ 0 _ _ _ ((hb.block _ (row_lt HQ0.out)).trans HQ0.out)
      clear hb
      go_wp2_with fail
      refine (HLg.out _ (HV.out.below HB1.out)).mono ?_
      rintro e w2 ⟨rfl, rfl⟩
      go_wp2
      go_ret
      exact ⟨rfl, HB1.out⟩
end Go.Proofs.YtgagekcjdapkfacGreatDoor

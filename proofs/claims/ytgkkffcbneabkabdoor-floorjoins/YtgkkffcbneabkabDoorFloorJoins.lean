/-
  FloorJoins' law: floors that are joined let pass what both do; the first with the second is the second with the first, with itself nothing new; floors only rise, and are read as they were written. For any two lists, any floor, name and epoch.
-/
import Derived.Test.YtgkkffcbneabkabDoorFloorJoin
import Derived.Test.YtgkkffcbneabkabDoorFloorRead
import Derived.Test.YtgkkffcbneabkabDoorFloorText
namespace Go.Proofs.YtgkkffcbneabkabDoor
open Go.RowKit Go.Extern.Stop Go.Stop Go.Extern Go.Proofs

/-! ### Right lists -/
theorem small_right {l : List Fl} (h : RightF l) : ∀ f ∈ l, f.who.size ≤ maxLen := fun f hf => by
  have h1 := nm_len (h.one f hf)
  have h2 : f.nm.length = f.who.size := by unfold Fl.nm; simp
  unfold maxLen
  omega
theorem check0 {l : List Fl} (h : RightF l) (hl : l.length ≤ 21) : checkL l = (0, -1) := by rw [check_right h, if_neg (by omega)]
theorem text_size {l : List Fl} (h : RightF l) (hl : l.length ≤ 21) : (txt (textL l)).size ≤ 4000 := by
  rw [txt_size]
  unfold textL
  split
  · simp
  · have := join_len 44 30 (l.map oneT) (fun w hw => by
      obtain ⟨f, hf, rfl⟩ := List.mem_map.1 hw
      exact one_len (h.one f hf))
    rw [List.length_map] at this
    omega
theorem joinC_right {a b : List Fl} (ha : RightF a) (hb : RightF b) (la : a.length ≤ 21) (lb : b.length ≤ 21) : joinC a b = if 21 < (joinL a b).length then (7, -1) else (0, -1) := by
  unfold joinC
  rw [check0 ha la, if_pos rfl, check0 hb lb, if_pos rfl, check_right (right_join ha hb)]
theorem joinC_zero {a b : List Fl} (ha : RightF a) (hb : RightF b) (la : a.length ≤ 21) (lb : b.length ≤ 21) (hj : (joinL a b).length ≤ 21) : joinC a b = (0, -1) ∧ joinR a b = joinL a b := by
  have h : joinC a b = (0, -1) := by rw [joinC_right ha hb la lb, if_neg (by omega)]
  exact ⟨h, by unfold joinR; rw [h]; rfl⟩
theorem joinC_comm {a b : List Fl} (ha : RightF a) (hb : RightF b) (la : a.length ≤ 21) (lb : b.length ≤ 21) : joinC b a = joinC a b ∧ joinR b a = joinR a b := by
  have h : joinC b a = joinC a b := by rw [joinC_right ha hb la lb, joinC_right hb ha lb la, join_comm hb ha]
  exact ⟨h, by unfold joinR; rw [h, join_comm hb ha]⟩
theorem joinC_len {a b : List Fl} (ha : RightF a) (hb : RightF b) (la : a.length ≤ 21) (lb : b.length ≤ 21) (h : (joinC a b).1 = 0) : (joinL a b).length ≤ 21 ∧ joinR a b = joinL a b := by
  refine ⟨?_, by unfold joinR; rw [if_pos h]⟩
  rw [joinC_right ha hb la lb] at h
  split at h
  · cases h
  · omega
theorem right_one {f : Fl} (h : oneE f = 0) : RightF [f] where
  one := fun g hg => by rw [List.mem_singleton.1 hg]; exact h
  rising := List.pairwise_singleton _ _
  above := fun g hg => by
    rw [List.mem_singleton.1 hg]
    by_cases hn : f.nm = star
    · exact Or.inl hn
    · refine Or.inr ?_
      rw [topL_cons, if_neg hn]
      have := (one_pos h).1
      omega

/-! ### The calls, at right lists -/
/-- A list in new memory, and no error. -/
abbrev GivesL (l : List Fl) (W : World) (e : Ending) (w' : World) : Prop := (∃ v', e = .returned (.tuple #[v', .nilIface]) ∧ OwnF w' W.heap.size v' l) ∧ Below W.heap.size W w'
theorem gives_of {a : Nat → Addr} {c : Nat × Int} {r : List Fl} {W w' : World} {e : Ending} (h0 : c.1 = 0) (h : ListPost a c r W.heap.size e w' ∧ Below W.heap.size W w') : GivesL r W e w' := by
  obtain ⟨⟨v, ev, rfl, ho, he, _⟩, hb⟩ := h
  obtain rfl := he.none h0
  exact ⟨⟨v, rfl, ho⟩, hb⟩
theorem check_ok (a : Nat → Addr) (v : Value) (l : List Fl) (W : World) (h : EV flS a W) (hv : FlAt W v l) (hr : RightF l) (hl : l.length ≤ 21) :
    Calls Tryd.prog 27 #[v] W fun e w' => e = .returned .nilIface ∧ Below W.heap.size W w' :=
  (check_any a v l W h hv (small_right hr) (by omega)).mono (by
    rintro e w' ⟨ev, rfl, he, hb⟩
    rw [check0 hr hl] at he
    obtain rfl := he.none rfl
    exact ⟨rfl, hb⟩)
theorem text_ok (a : Nat → Addr) (v : Value) (l : List Fl) (W : World) (h : EV flS a W) (ht : Tab10 W) (hv : FlAt W v l) (hr : RightF l) (hl : l.length ≤ 21) :
    Calls Tryd.prog 28 #[v] W fun e w' => e = .returned (.tuple #[.string (txt (textL l)), .nilIface]) ∧ Below W.heap.size W w' :=
  (text_any a v l W h ht hv (small_right hr) (by omega)).mono (by
    rintro e w' ⟨hp, hb⟩
    rw [check0 hr hl] at hp
    rcases hp with ⟨_, rfl⟩ | ⟨hp, _⟩
    · exact ⟨rfl, hb⟩
    · exact absurd rfl hp)
theorem read_ok (a : Nat → Addr) (l : List Fl) (W : World) (h : EV flR a W) (hr : RightF l) (hl : l.length ≤ 21) :
    Calls Tryd.prog 29 #[.string (txt (textL l))] W (GivesL l W) :=
  (read_any a (txt (textL l)) W h (text_size hr hl)).mono (fun e w' hp => by
    obtain ⟨h1, h2⟩ := readC_text hr hl
    rw [txt_list, h2] at hp
    exact gives_of h1 hp)
theorem join_ok (a : Nat → Addr) (v1 v2 : Value) (l1 l2 l : List Fl) (W : World) (h : EV flS a W) (hv1 : FlAt W v1 l1) (hv2 : FlAt W v2 l2) (h1 : RightF l1) (h2 : RightF l2) (n1 : l1.length ≤ 21) (n2 : l2.length ≤ 21) (hj : joinL l1 l2 = l) (hl : l.length ≤ 21) :
    Calls Tryd.prog 30 #[v1, v2] W (GivesL l W) :=
  (join_any a v1 v2 l1 l2 W h hv1 hv2 (small_right h1) (small_right h2) (by omega) (by omega)).mono (fun e w' hp => by
    subst hj
    obtain ⟨c1, c2⟩ := joinC_zero h1 h2 n1 n2 hl
    rw [c2] at hp
    exact gives_of (by rw [c1]) hp)

/-- What lies ready in a world of the law's. -/
structure JAt (a : Nat → Addr) (va vb : Value) (la lb : List Fl) (who : ByteArray) (ep : Int) (w W : World) : Prop where
  ev : EV flR a W
  tab : Tab10 W
  fa : FlAt W va la
  fb : FlAt W vb lb
  box : W.heap[w.heap.size]? = some (.cells #[.string who, .int .i64 ep] 56 (0, 0))
  below : Below w.heap.size w W
theorem JAt.next {a : Nat → Addr} {va vb : Value} {la lb : List Fl} {who : ByteArray} {ep : Int} {w W W' : World} (h : JAt a va vb la lb who ep w W) (hb : Below W.heap.size W W') : JAt a va vb la lb who ep w W' :=
  ⟨h.ev.below hb, tab_below h.tab hb, h.fa.below hb, h.fb.below hb, (hb.block _ (row_lt h.box)).trans h.box, h.below.trans (hb.mono h.below.size)⟩
theorem JAt.start {a : Nat → Addr} {va vb : Value} {la lb : List Fl} {w : World} (who : ByteArray) (ep : Int) (h1 : EV flR a w) (h2 : Tab10 w) (h3 : FlAt w va la) (h4 : FlAt w vb lb) : JAt a va vb la lb who ep w (w.alloc (.cells #[.string who, .int .i64 ep] 56)) := by
  have hb : Below w.heap.size w (w.alloc (.cells #[.string who, .int .i64 ep] 56)) := (Below.refl _ _).alloc (Nat.le_refl _) _
  exact ⟨h1.below hb, tab_below h2 hb, h3.below hb, h4.below hb, heap_alloc_new _ _, hb⟩
theorem JAt.c0 {a : Nat → Addr} {va vb : Value} {la lb : List Fl} {who : ByteArray} {ep : Int} {w W : World} (h : JAt a va vb la lb who ep w W) : W.cell? ⟨w.heap.size, 0, none⟩ = some (.string who) := cell_of_row W _ 0 _ _ _ h.box
theorem JAt.c1 {a : Nat → Addr} {va vb : Value} {la lb : List Fl} {who : ByteArray} {ep : Int} {w W : World} (h : JAt a va vb la lb who ep w W) : W.cell? ⟨w.heap.size, 1, none⟩ = some (.int .i64 ep) := cell_of_row W _ 1 _ _ _ h.box
theorem JAt.evs {a : Nat → Addr} {va vb : Value} {la lb : List Fl} {who : ByteArray} {ep : Int} {w W : World} (h : JAt a va vb la lb who ep w W) : EV flS a W := ev_less h.ev

/-- What is said of one that goes early. -/
def earlyJ (la lb : List Fl) (who name : ByteArray) : Bool := longF la || longF lb || decide (20 < who.size) || decide (20 < name.size) || decide ((checkL la).1 ≠ 0) || decide ((checkL lb).1 ≠ 0)

set_option maxRecDepth 100000 in
set_option maxHeartbeats 8000000 in
theorem joins_early (a : Nat → Addr) (va vb : Value) (la lb : List Fl) (f : Fl) (name : ByteArray) (epoch : Int) (w : World) (h : EV flR a w) (ht : Tab10 w) (hva : FlAt w va la) (hvb : FlAt w vb lb) (hE : earlyJ la lb f.who name = true) :
    Calls Tryd.prog 4 #[va, vb, f.val, .string name, .int .i64 epoch] w fun e w' => e = .returned (.bool true) ∧ Below w.heap.size w w' := by
  have HJ0 := hide (JAt.start f.who f.ep h ht hva hvb)
  have HFl := hide (fun w h => floored_any a w h)
  have HLa := hide (fun w h => longFloors_any va la w h)
  have HLb := hide (fun w h => longFloors_any vb lb w h)
  have HCa : Hid (longF la = false → ∀ w h hv, Calls Tryd.prog 27 #[va] w fun e w' => ∃ ev, e = .returned ev ∧ FlErr a w' (checkL la) ev ∧ Below w.heap.size w w') := fun hlo w h hv => check_any a va la w h hv (fun q hq => by have := (longF_no hlo).2 q hq; unfold maxLen; omega) (by have := (longF_no hlo).1; omega)
  have HCb : Hid (longF lb = false → ∀ w h hv, Calls Tryd.prog 27 #[vb] w fun e w' => ∃ ev, e = .returned ev ∧ FlErr a w' (checkL lb) ev ∧ Below w.heap.size w w') := fun hlo w h hv => check_any a vb lb w h hv (fun q hq => by have := (longF_no hlo).2 q hq; unfold maxLen; omega) (by have := (longF_no hlo).1; omega)
  show Calls Tryd.prog 4 #[va, vb, .agg #[.string f.who, .int .i64 f.ep], .string name, .int .i64 epoch] w _
  unfold earlyJ at hE
  clear h ht hva hvb
  generalize f.who = fw at *
  generalize f.ep = fe at *
  generalize checkL la = ca at *
  generalize checkL lb = cb at *
  have HEE := hide hE
  clear hE
  cases hla : longF la with
  | true =>
    rw [if_pos hla] at HLa
    clear HCa HCb HEE
    cases hlb : longF lb with
    | true =>
      rw [if_pos hlb] at HLb
      clear hla hlb
      go_enter Tryd.func4, Tryd.ntmps4
      go_wp2_with fail
      refine (HFl.out _ HJ0.out.evs).mono ?_
      rintro e w1 ⟨rfl, hb⟩
      have HJ1 := hide (HJ0.out.next hb)
      clear hb
      go_wp2_with fail
      refine (HLa.out _ HJ1.out.fa).mono ?_
      rintro e w2 ⟨rfl, rfl⟩
      go_wp2_with fail
      refine (HLb.out _ HJ1.out.fb).mono ?_
      rintro e w3 ⟨rfl, rfl⟩
      go_wp2
      go_ret
      exact ⟨rfl, HJ1.out.below⟩
    | false =>
      rw [if_neg (by rw [hlb]; decide)] at HLb
      clear hla hlb
      go_enter Tryd.func4, Tryd.ntmps4
      go_wp2_with fail
      refine (HFl.out _ HJ0.out.evs).mono ?_
      rintro e w1 ⟨rfl, hb⟩
      have HJ1 := hide (HJ0.out.next hb)
      clear hb
      go_wp2_with fail
      refine (HLa.out _ HJ1.out.fa).mono ?_
      rintro e w2 ⟨rfl, rfl⟩
      go_wp2_with fail
      refine (HLb.out _ HJ1.out.fb).mono ?_
      rintro e w3 ⟨rfl, rfl⟩
      go_wp2
      go_ret
      exact ⟨rfl, HJ1.out.below⟩
  | false =>
    rw [if_neg (by rw [hla]; decide)] at HLa
    have HCa2 := hide (HCa.out hla)
    cases hlb : longF lb with
    | true =>
      rw [if_pos hlb] at HLb
      clear hla hlb HCa HCb HEE HCa2
      go_enter Tryd.func4, Tryd.ntmps4
      go_wp2_with fail
      refine (HFl.out _ HJ0.out.evs).mono ?_
      rintro e w1 ⟨rfl, hb⟩
      have HJ1 := hide (HJ0.out.next hb)
      clear hb
      go_wp2_with fail
      refine (HLa.out _ HJ1.out.fa).mono ?_
      rintro e w2 ⟨rfl, rfl⟩
      go_wp2_with fail
      refine (HLb.out _ HJ1.out.fb).mono ?_
      rintro e w3 ⟨rfl, rfl⟩
      go_wp2
      go_ret
      exact ⟨rfl, HJ1.out.below⟩
    | false =>
      rw [if_neg (by rw [hlb]; decide)] at HLb
      have HCb2 := hide (HCb.out hlb)
      have HE2 : Hid ((decide (20 < fw.size) || decide (20 < name.size) || decide (ca.1 ≠ 0) || decide (cb.1 ≠ 0)) = true) := by
        have := HEE.out
        rw [hla, hlb] at this
        show _ = _
        simpa using this
      clear hla hlb HCa HCb HEE
      by_cases h1 : 20 < fw.size
      · have h1z : (20 : Int) < (fw.size : Int) := by omega
        clear HE2 HCa2 HCb2
        go_enter Tryd.func4, Tryd.ntmps4
        go_wp2_with fail
        refine (HFl.out _ HJ0.out.evs).mono ?_
        rintro e w1 ⟨rfl, hb⟩
        have HJ1 := hide (HJ0.out.next hb)
        have hc0 := HJ1.out.c0
        clear hb
        go_wp2_with fail
        refine (HLa.out _ HJ1.out.fa).mono ?_
        rintro e w2 ⟨rfl, rfl⟩
        go_wp2_with fail
        refine (HLb.out _ HJ1.out.fb).mono ?_
        rintro e w3 ⟨rfl, rfl⟩
        go_wp2
        go_ret
        exact ⟨rfl, HJ1.out.below⟩
      have h1z : ¬ (20 : Int) < (fw.size : Int) := by omega
      by_cases h2 : 20 < name.size
      · have h2z : (20 : Int) < (name.size : Int) := by omega
        clear HE2 HCa2 HCb2
        go_enter Tryd.func4, Tryd.ntmps4
        go_wp2_with fail
        refine (HFl.out _ HJ0.out.evs).mono ?_
        rintro e w1 ⟨rfl, hb⟩
        have HJ1 := hide (HJ0.out.next hb)
        have hc0 := HJ1.out.c0
        clear hb
        go_wp2_with fail
        refine (HLa.out _ HJ1.out.fa).mono ?_
        rintro e w2 ⟨rfl, rfl⟩
        go_wp2_with fail
        refine (HLb.out _ HJ1.out.fb).mono ?_
        rintro e w3 ⟨rfl, rfl⟩
        go_wp2
        go_ret
        exact ⟨rfl, HJ1.out.below⟩
      have h2z : ¬ (20 : Int) < (name.size : Int) := by omega
      go_enter Tryd.func4, Tryd.ntmps4
      go_wp2_with fail
      refine (HFl.out _ HJ0.out.evs).mono ?_
      rintro e w1 ⟨rfl, hb⟩
      have HJ1 := hide (HJ0.out.next hb)
      have hc0 := HJ1.out.c0
      clear hb
      go_wp2_with fail
      refine (HLa.out _ HJ1.out.fa).mono ?_
      rintro e w2 ⟨rfl, rfl⟩
      go_wp2_with fail
      refine (HLb.out _ HJ1.out.fb).mono ?_
      rintro e w3 ⟨rfl, rfl⟩
      go_wp2_with fail
      refine (HCa2.out _ HJ1.out.evs HJ1.out.fa).mono ?_
      rintro e w4 ⟨ev, rfl, he, hb⟩
      have HJ4 := hide (HJ1.out.next hb)
      clear hb hc0
      rcases he.cases with ⟨hz, rfl⟩ | ⟨hz, t1, p1, rfl⟩
      rotate_left
      · clear he
        go_wp2
        go_ret
        exact ⟨rfl, HJ4.out.below⟩
      clear he
      go_wp2_with fail
      refine (HCb2.out _ HJ4.out.evs HJ4.out.fb).mono ?_
      rintro e w5 ⟨ev, rfl, he, hb⟩
      have HJ5 := hide (HJ4.out.next hb)
      clear hb
      rcases he.cases with ⟨hz2, rfl⟩ | ⟨hz2, t1, p1, rfl⟩
      · exfalso
        have := HE2.out
        simp [h1, h2, hz, hz2] at this
      · clear he
        go_wp2
        go_ret
        exact ⟨rfl, HJ5.out.below⟩
end Go.Proofs.YtgkkffcbneabkabDoor

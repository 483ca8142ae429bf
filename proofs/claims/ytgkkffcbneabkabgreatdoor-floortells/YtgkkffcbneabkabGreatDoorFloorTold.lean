/-
  FloorTells' law: what lies ready in memory while it runs, and its early ends: lists that are too long, a name or a text that is.
-/
import Derived.Test.YtgkkffcbneabkabGreatDoorFloorJoin
import Derived.Test.YtgkkffcbneabkabGreatDoorFloorRead
import Derived.Test.YtgkkffcbneabkabGreatDoorFloorRefRaise
namespace Go.Proofs.YtgkkffcbneabkabGreatDoor
open Go.RowKit Go.Extern.Stop Go.Stop Go.Extern Go.Proofs

/-- Floors are nowhere where a fault is. -/
theorem FlAt.setG {w : World} {v : Value} {l : List Fl} {gb i : Nat} {c d : Int} (h : FlAt w v l) (hg : w.heap[gb]? = some (.cells #[.int .i64 c, .int .i64 d] 55 (0, 0))) (u : Value) : FlAt (w.setCell ⟨gb, i, none⟩ u) v l := by
  rcases h with h | ⟨b, off, cap, h1, h2, h3⟩
  · exact Or.inl h
  · match l, h2, h3 with
    | [], h2, h3 => exact Or.inl ⟨_, _, h1, rfl⟩
    | f :: l, h2, h3 =>
      refine Or.inr ⟨b, off, cap, h1, h2, fun j x hx => ?_⟩
      have hne : b ≠ gb := by
        intro e
        subst e
        have h0 := h3 0 (.string f.who) rfl
        rw [Nat.add_zero, cell_of_row w b off _ _ _ hg] at h0
        match off, h0 with
        | 0, h0 => cases h0
        | 1, h0 => cases h0
        | k + 2, h0 => cases h0
      have hk := heap_setCell_other w ⟨gb, i, none⟩ b u hne
      have h4 := h3 j x hx
      unfold World.cell? at h4 ⊢
      rw [hk]
      exact h4

/-- What lies ready behind the law's first calls. -/
structure TAt (vo : Value) (la : List Fl) (who : ByteArray) (ep : Int) (w : World) (gb : Nat) (c d : Int) (W : World) : Prop where
  fo : FlAt W vo la
  box : W.heap[w.heap.size]? = some (.cells #[.string who, .int .i64 ep] 51 (0, 0))
  g : W.heap[gb]? = some (.cells #[.int .i64 c, .int .i64 d] 55 (0, 0))
  lt : w.heap.size < gb
  below : Below w.heap.size w W
theorem TAt.next {vo : Value} {la : List Fl} {who : ByteArray} {ep : Int} {w W W' : World} {gb : Nat} {c d : Int} (h : TAt vo la who ep w gb c d W) (hb : Below W.heap.size W W') : TAt vo la who ep w gb c d W' :=
  ⟨h.fo.below hb, (hb.block _ (row_lt h.box)).trans h.box, (hb.block _ (row_lt h.g)).trans h.g, h.lt, h.below.trans (hb.mono h.below.size)⟩
theorem TAt.c0 {vo : Value} {la : List Fl} {who : ByteArray} {ep : Int} {w W : World} {gb : Nat} {c d : Int} (h : TAt vo la who ep w gb c d W) : W.cell? ⟨w.heap.size, 0, none⟩ = some (.string who) := cell_of_row W _ 0 _ _ _ h.box
theorem TAt.c1 {vo : Value} {la : List Fl} {who : ByteArray} {ep : Int} {w W : World} {gb : Nat} {c d : Int} (h : TAt vo la who ep w gb c d W) : W.cell? ⟨w.heap.size, 1, none⟩ = some (.int .i64 ep) := cell_of_row W _ 1 _ _ _ h.box
theorem TAt.g0 {vo : Value} {la : List Fl} {who : ByteArray} {ep : Int} {w W : World} {gb : Nat} {c d : Int} (h : TAt vo la who ep w gb c d W) : W.cell? ⟨gb, 0, none⟩ = some (.int .i64 c) := cell_of_row W _ 0 _ _ _ h.g
theorem TAt.g1 {vo : Value} {la : List Fl} {who : ByteArray} {ep : Int} {w W : World} {gb : Nat} {c d : Int} (h : TAt vo la who ep w gb c d W) : W.cell? ⟨gb, 1, none⟩ = some (.int .i64 d) := cell_of_row W _ 1 _ _ _ h.g
theorem TAt.z0 {vo : Value} {la : List Fl} {who : ByteArray} {ep : Int} {w W : World} {gb : Nat} {c d : Int} (h : TAt vo la who ep w gb c d W) : W.frozen? ⟨gb, 0, none⟩ = false := frozen_of_row W _ 0 _ _ h.g
theorem TAt.z1 {vo : Value} {la : List Fl} {who : ByteArray} {ep : Int} {w W : World} {gb : Nat} {c d : Int} (h : TAt vo la who ep w gb c d W) : W.frozen? ⟨gb, 1, none⟩ = false := frozen_of_row W _ 1 _ _ h.g
theorem TAt.set {vo : Value} {la : List Fl} {who : ByteArray} {ep : Int} {w W : World} {gb : Nat} {c d : Int} (h : TAt vo la who ep w gb c d W) (c' d' : Int) : TAt vo la who ep w gb c' d' ((W.setCell ⟨gb, 0, none⟩ (.int .i64 c')).setCell ⟨gb, 0 + 1, none⟩ (.int .i64 d')) := by
  have h1 : (W.setCell ⟨gb, 0, none⟩ (.int .i64 c')).heap[gb]? = some (.cells #[.int .i64 c', .int .i64 d] 55 (0, 0)) := heap_setCell_same W gb 0 _ _ _ h.g
  have hlt := h.lt
  refine ⟨(h.fo.setG h.g _).setG h1 _, ?_, heap_setCell_same _ gb 1 _ _ _ h1, h.lt, (h.below.setCell (p := ⟨gb, 0, none⟩) (Nat.le_of_lt h.lt) _).setCell (p := ⟨gb, 0 + 1, none⟩) (Nat.le_of_lt h.lt) _⟩
  rw [heap_setCell_other _ ⟨gb, 0 + 1, none⟩ _ _ (by show w.heap.size ≠ gb; omega), heap_setCell_other _ ⟨gb, 0, none⟩ _ _ (by show w.heap.size ≠ gb; omega)]
  exact h.box
/-- Another list of floors, where the fault is set. -/
theorem TAt.other {vo v : Value} {la l : List Fl} {who : ByteArray} {ep : Int} {w W : World} {gb : Nat} {c d : Int} (h : TAt vo la who ep w gb c d W) (hv : FlAt W v l) (c' d' : Int) : FlAt ((W.setCell ⟨gb, 0, none⟩ (.int .i64 c')).setCell ⟨gb, 0 + 1, none⟩ (.int .i64 d')) v l :=
  (hv.setG h.g _).setG (heap_setCell_same W gb 0 _ _ _ h.g) _
/-- An error, where the fault is set. -/
theorem TAt.err {a : Nat → Addr} {ev : Value} {k : Nat × Int} {vo : Value} {la : List Fl} {who : ByteArray} {ep : Int} {w W : World} {gb : Nat} {c d : Int} (h : TAt vo la who ep w gb c d W) (hv : FlErr a W k ev) (c' d' : Int) : FlErr a ((W.setCell ⟨gb, 0, none⟩ (.int .i64 c')).setCell ⟨gb, 0 + 1, none⟩ (.int .i64 d')) k ev := by
  rcases hv with hv | hv | ⟨hz, b, he, hr⟩
  · exact Or.inl hv
  · exact Or.inr (Or.inl hv)
  · refine Or.inr (Or.inr ⟨hz, b, he, ?_⟩)
    have hne : b ≠ gb := by
      intro e
      subst e
      have := h.g
      rw [hr] at this
      injection this with e
      injection e with e1 e2
      injection e1 with e1
      injection e1 with e1 e3
      injection e3 with e3
      cases e3
    rw [heap_setCell_other _ ⟨gb, 0 + 1, none⟩ _ _ hne, heap_setCell_other _ ⟨gb, 0, none⟩ _ _ hne]
    exact hr

/-- What is said of one that goes early. -/
def earlyT (la lb : List Fl) (who s : ByteArray) : Bool := longF la || longF lb || decide (20 < who.size) || decide (400 < s.size)

set_option maxRecDepth 100000 in
set_option maxHeartbeats 8000000 in
theorem tells_early (a : Nat → Addr) (va vb : Value) (la lb : List Fl) (f : Fl) (s : ByteArray) (w : World) (h : Errs a w) (hva : FlAt w va la) (hvb : FlAt w vb lb) (hE : earlyT la lb f.who s = true) :
    Calls Tryz.prog 5 #[va, vb, f.val, .string s] w fun e w' => e = .returned (.bool true) ∧ Below w.heap.size w w' := by
  have HFl := hide (fun w h => floored_any a w h)
  have HLa := hide (fun w h => longFloors_any va la w h)
  have HLb := hide (fun w h => longFloors_any vb lb w h)
  show Calls Tryz.prog 5 #[va, vb, .agg #[.string f.who, .int .i64 f.ep], .string s] w _
  unfold earlyT at hE
  generalize f.who = fw at *
  generalize f.ep = fe at *
  have HB0 : Hid (Below w.heap.size w (w.alloc (.cells #[.string fw, .int .i64 fe] 51))) := (Below.refl _ _).alloc (Nat.le_refl _) _
  have HX0 : Hid ((w.alloc (.cells #[.string fw, .int .i64 fe] 51)).heap[w.heap.size]? = some (.cells #[.string fw, .int .i64 fe] 51 (0, 0))) := heap_alloc_new _ _
  have HEr := hide (h.ev flS)
  have HA := hide hva
  have HB := hide hvb
  have HEE := hide hE
  clear h hva hvb hE
  have hcase : (longF la = true ∧ longF lb = true) ∨ (longF la = true ∧ longF lb = false) ∨ (longF la = false ∧ longF lb = true) ∨ (longF la = false ∧ longF lb = false) := by
    cases longF la <;> cases longF lb <;> simp
  rcases hcase with ⟨hla, hlb⟩ | ⟨hla, hlb⟩ | ⟨hla, hlb⟩ | ⟨hla, hlb⟩
  · rw [if_pos hla] at HLa
    rw [if_pos hlb] at HLb
    clear HEE hla hlb
    go_enter Tryz.func5, Tryz.ntmps5
    go_wp2_with fail
    refine (HFl.out _ (HEr.out.below HB0.out)).mono ?_
    rintro e w1 ⟨rfl, hb⟩
    have HB1 : Hid (Below w.heap.size w w1) := HB0.out.trans (hb.mono HB0.out.size)
    clear hb
    go_wp2_with fail
    refine (HLa.out _ (HA.out.below HB1.out)).mono ?_
    rintro e w2 ⟨rfl, rfl⟩
    go_wp2_with fail
    refine (HLb.out _ (HB.out.below HB1.out)).mono ?_
    rintro e w3 ⟨rfl, rfl⟩
    go_wp2
    go_ret
    exact ⟨rfl, HB1.out⟩
  · rw [if_pos hla] at HLa
    rw [if_neg (by rw [hlb]; decide)] at HLb
    clear HEE hla hlb
    go_enter Tryz.func5, Tryz.ntmps5
    go_wp2_with fail
    refine (HFl.out _ (HEr.out.below HB0.out)).mono ?_
    rintro e w1 ⟨rfl, hb⟩
    have HB1 : Hid (Below w.heap.size w w1) := HB0.out.trans (hb.mono HB0.out.size)
    clear hb
    go_wp2_with fail
    refine (HLa.out _ (HA.out.below HB1.out)).mono ?_
    rintro e w2 ⟨rfl, rfl⟩
    go_wp2_with fail
    refine (HLb.out _ (HB.out.below HB1.out)).mono ?_
    rintro e w3 ⟨rfl, rfl⟩
    go_wp2
    go_ret
    exact ⟨rfl, HB1.out⟩
  · rw [if_neg (by rw [hla]; decide)] at HLa
    rw [if_pos hlb] at HLb
    clear HEE hla hlb
    go_enter Tryz.func5, Tryz.ntmps5
    go_wp2_with fail
    refine (HFl.out _ (HEr.out.below HB0.out)).mono ?_
    rintro e w1 ⟨rfl, hb⟩
    have HB1 : Hid (Below w.heap.size w w1) := HB0.out.trans (hb.mono HB0.out.size)
    clear hb
    go_wp2_with fail
    refine (HLa.out _ (HA.out.below HB1.out)).mono ?_
    rintro e w2 ⟨rfl, rfl⟩
    go_wp2_with fail
    refine (HLb.out _ (HB.out.below HB1.out)).mono ?_
    rintro e w3 ⟨rfl, rfl⟩
    go_wp2
    go_ret
    exact ⟨rfl, HB1.out⟩
  have HE2 : Hid ((decide (20 < fw.size) || decide (400 < s.size)) = true) := by
    have := HEE.out
    rw [hla, hlb] at this
    show _ = _
    simpa using this
  rw [if_neg (by rw [hla]; decide)] at HLa
  rw [if_neg (by rw [hlb]; decide)] at HLb
  clear HEE hla hlb
  by_cases h1 : 20 < fw.size
  · have h1z : (20 : Int) < (fw.size : Int) := by omega
    clear HE2
    go_enter Tryz.func5, Tryz.ntmps5
    go_wp2_with fail
    refine (HFl.out _ (HEr.out.below HB0.out)).mono ?_
    rintro e w1 ⟨rfl, hb⟩
    have HB1 : Hid (Below w.heap.size w w1) := HB0.out.trans (hb.mono HB0.out.size)
    have hc0 : w1.cell? ⟨w.heap.size, 0, none⟩ = some (.string fw) := cell_of_row w1 _ 0 _ _ _ ((hb.block _ (row_lt HX0.out)).trans HX0.out)
    clear hb
    go_wp2_with fail
    refine (HLa.out _ (HA.out.below HB1.out)).mono ?_
    rintro e w2 ⟨rfl, rfl⟩
    go_wp2_with fail
    refine (HLb.out _ (HB.out.below HB1.out)).mono ?_
    rintro e w3 ⟨rfl, rfl⟩
    go_wp2
    go_ret
    exact ⟨rfl, HB1.out⟩
  · have h1z : ¬ (20 : Int) < (fw.size : Int) := by omega
    have h2z : (400 : Int) < (s.size : Int) := by
      have := HE2.out
      simp [h1] at this
      omega
    clear HE2
    go_enter Tryz.func5, Tryz.ntmps5
    go_wp2_with fail
    refine (HFl.out _ (HEr.out.below HB0.out)).mono ?_
    rintro e w1 ⟨rfl, hb⟩
    have HB1 : Hid (Below w.heap.size w w1) := HB0.out.trans (hb.mono HB0.out.size)
    have hc0 : w1.cell? ⟨w.heap.size, 0, none⟩ = some (.string fw) := cell_of_row w1 _ 0 _ _ _ ((hb.block _ (row_lt HX0.out)).trans HX0.out)
    clear hb
    go_wp2_with fail
    refine (HLa.out _ (HA.out.below HB1.out)).mono ?_
    rintro e w2 ⟨rfl, rfl⟩
    go_wp2_with fail
    refine (HLb.out _ (HB.out.below HB1.out)).mono ?_
    rintro e w3 ⟨rfl, rfl⟩
    go_wp2
    go_ret
    exact ⟨rfl, HB1.out⟩
end Go.Proofs.YtgkkffcbneabkabGreatDoor

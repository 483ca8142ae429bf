/-
  What package floor's checkOne, ofAll, checkBehind and Check answer, for every floor and every list.
-/
import Derived.Test.YtabpnjchocgakaaGreatDoorPk00
import Derived.Test.YtabpnjchocgakaaGreatDoorSealWords
import Derived.Laws.Rows
import Derived.Laws.Cover1
import Derived.Sort.Walk0
import Derived.Laws.NewBlocks
import Derived.RegionTactic
namespace Go.Proofs.YtabpnjchocgakaaGreatDoor
open Go.RowKit Go.Extern.Stop Go.Stop Go.Extern
def flS (i : Nat) : Bool := i == 1 || i == 2 || i == 3 || i == 6 || i == 7
def FlAt (w : World) (v : Value) (l : List Fl) : Prop :=
 (∃ ad cap, v = .slice ad 0 cap ∧ l = []) ∨ ∃ b off cap, v = .slice (some ⟨b, off, none⟩) l.length cap ∧ l.length ≤ cap ∧ ∀ j u, (cellsF l)[j]? = some u → w.cell? ⟨b, off + j, none⟩ = some u
theorem FlAt.below {w w' : World} {v : Value} {l : List Fl} (h : FlAt w v l) (hb : Below w.heap.size w w') : FlAt w' v l := by
 rcases h with h | ⟨b, off, cap, h1, h2, h3⟩
 ·
  exact Or.inl h
 ·
  exact Or.inr ⟨b, off, cap, h1, h2, fun j u hu => by rw [hb.cell (p := ⟨b, off + j, none⟩) (cell_lt (h3 j u hu))]; exact h3 j u hu⟩
theorem FlAt.form {w : World} {v : Value} {l : List Fl} (h : FlAt w v l) : ∃ ad cap, v = .slice ad l.length cap ∧ l.length ≤ cap := by
 rcases h with ⟨ad, cap, rfl, rfl⟩ | ⟨b, off, cap, h1, h2, h3⟩
 ·
  exact ⟨ad, cap, rfl, Nat.zero_le _⟩
 ·
  exact ⟨_, _, h1, h2⟩
theorem FlAt.at {w : World} {v : Value} {l : List Fl} (h : FlAt w v l) (hn : 0 < l.length) : ∃ b off cap, v = .slice (some ⟨b, off, none⟩) l.length cap ∧ l.length ≤ cap ∧ b < w.heap.size ∧
  ∀ i (hi : i < l.length), w.cell? ⟨b, off + i * 2, none⟩ = some (.string l[i].who) ∧ w.cell? ⟨b, off + i * 2 + 1, none⟩ = some (.int .i64 l[i].ep) := by
 rcases h with ⟨_, _, _, rfl⟩ | ⟨b, off, cap, h1, h2, h3⟩
 ·
  simp at hn
 ·
  exact ⟨b, off, cap, h1, h2, cell_lt (h3 0 _ (cellsF_who l 0 hn)), fun i hi => ⟨h3 _ _ (cellsF_who l i hi), by rw [Nat.add_assoc]; exact h3 _ _ (cellsF_ep l i hi)⟩⟩
theorem FlAt.take {w : World} {b off cap : Nat} {l : List Fl} (h2 : l.length ≤ cap) (h3 : ∀ j u, (cellsF l)[j]? = some u → w.cell? ⟨b, off + j, none⟩ = some u) (k : Nat) (hk : k ≤ l.length) : FlAt w (.slice (some ⟨b, off, none⟩) k cap) (l.take k) := by
 refine Or.inr ⟨b, off, cap, by rw [List.length_take, Nat.min_eq_left hk], by rw [List.length_take]; omega, fun j u hu => h3 j u ?_⟩
 rw [cellsF_take, List.getElem?_take] at hu
 split at hu
 ·
  exact hu
 ·
  cases hu
theorem star_who (f : Fl) : (f.who.toList == [42]) = decide (f.nm = star) := by
 rw [Lib.toList_data]
 unfold Fl.nm star
 by_cases h : f.who.data.toList = [42]
 ·
  rw [h]; rfl
 ·
  rw [decide_eq_false h]; exact beq_eq_false_iff_ne.2 h
set_option maxRecDepth 100000 in
set_option maxHeartbeats 1000000 in
theorem checkOne_any (a : Nat → Addr) (f : Fl) (w : World) (h : EV flS a w) (hs : f.who.size ≤ maxLen) :
  Calls Tryz.prog 108 #[f.val] w fun e w' => e = .returned (errV a (oneE f)) ∧ Below w.heap.size w w' := by
 have hq := star_who f
 have HN := hide (fun w => name_any f.who w hs)
 have HR : Hid (∀ c, oneE f = c → Calls Tryz.prog 108 #[f.val] w (fun e w' => e = .returned (errV a c) ∧ Below w.heap.size w w') → Calls Tryz.prog 108 #[f.val] w (fun e w' => e = .returned (errV a (oneE f)) ∧ Below w.heap.size w w')) := fun c hc h => by rw [hc]; exact h
 have H1 : Hid (oneE f = if f.nm = star ∨ Sl.nameL f.nm = true then (if 1 ≤ f.ep ∧ f.ep ≤ 1073741824 then 0 else 2) else 4) := rfl
 obtain ⟨who, ep⟩ := f
 have HB : Hid (Below w.heap.size w (w.alloc (.cells #[.string who, .int .i64 ep] 112))) := (Below.refl _ _).alloc (Nat.le_refl _) _
 have HC : Hid ((w.alloc (.cells #[.string who, .int .i64 ep] 112)).heap[w.heap.size]? = some (.cells #[.string who, .int .i64 ep] 112 (0, 0))) := heap_alloc_new _ _
 have HE := hide h
 clear h
 have hep : (1 ≤ ep ∧ ep ≤ 1073741824) ∨ ep < 1 ∨ (1 ≤ ep ∧ 1073741824 < ep) := by omega
 by_cases hst : (Fl.mk who ep).nm = star
 ·
  rw [decide_eq_true hst] at hq
  have hv : (w.alloc (.cells #[.string who, .int .i64 ep] 112)).cell? ⟨0, 0, none⟩ = some (eV (a 1)) := (HE.out.below HB.out).var 1 (by decide) rfl
  rcases hep with ⟨g, g2⟩ | g | ⟨g, g2⟩
  ·
   refine HR.out 0 (by rw [H1.out, if_pos (Or.inl hst), if_pos ⟨g, g2⟩]) ?_
   clear HR H1 hst
   show Calls Tryz.prog 108 #[.agg #[.string who, .int .i64 ep]] w _
   go_enter Tryz.func108, Tryz.ntmps108
   go_wp2
   go_ret
   exact ⟨rfl, HB.out⟩
  all_goals
   refine HR.out 2 (by rw [H1.out, if_pos (Or.inl hst), if_neg (by show ¬ (1 ≤ ep ∧ ep ≤ 1073741824); omega)]) ?_
   clear HR H1 hst
   show Calls Tryz.prog 108 #[.agg #[.string who, .int .i64 ep]] w _
   go_enter Tryz.func108, Tryz.ntmps108
   go_wp2
   go_ret
   exact ⟨rfl, HB.out⟩
 ·
  rw [decide_eq_false hst] at hq
  have hnm : (Fl.mk who ep).nm = who.data.toList := rfl
  cases hn : Sl.nameL who.data.toList with
  | false =>
   refine HR.out 4 (by rw [H1.out, if_neg]; rw [hnm, hn]; rintro (e | e); exact hst e; cases e) ?_
   replace HN : Hid (∀ w, Calls Tryz.prog 158 #[.string who] w fun e w' => e = .returned (.bool false) ∧ Below w.heap.size w w') := fun w => by rw [← hn]; exact HN.out w
   clear HR H1 hst hn hnm
   show Calls Tryz.prog 108 #[.agg #[.string who, .int .i64 ep]] w _
   go_enter Tryz.func108, Tryz.ntmps108
   go_wp2_with fail
   refine (HN.out _).mono ?_
   rintro e w1 ⟨rfl, hb⟩
   have HB1 : Hid (Below w.heap.size w w1) := HB.out.trans (hb.mono HB.out.size)
   have hv : w1.cell? ⟨2, 0, none⟩ = some (eV (a 3)) := (HE.out.below HB1.out).var 3 (by decide) rfl
   clear hb
   go_wp2
   go_ret
   exact ⟨rfl, HB1.out⟩
  | true =>
   replace HN : Hid (∀ w, Calls Tryz.prog 158 #[.string who] w fun e w' => e = .returned (.bool true) ∧ Below w.heap.size w w') := fun w => by rw [← hn]; exact HN.out w
   rcases hep with ⟨g, g2⟩ | g | ⟨g, g2⟩
   ·
    refine HR.out 0 (by rw [H1.out, if_pos (Or.inr (by rw [hnm]; exact hn)), if_pos ⟨g, g2⟩]) ?_
    clear HR H1 hst hn hnm
    show Calls Tryz.prog 108 #[.agg #[.string who, .int .i64 ep]] w _
    go_enter Tryz.func108, Tryz.ntmps108
    go_wp2_with fail
    refine (HN.out _).mono ?_
    rintro e w1 ⟨rfl, hb⟩
    have HB1 : Hid (Below w.heap.size w w1) := HB.out.trans (hb.mono HB.out.size)
    have hrow : w1.heap[w.heap.size]? = some (.cells #[.string who, .int .i64 ep] 112 (0, 0)) := by rw [hb.block _ (by simp)]; exact HC.out
    have hc1 : w1.cell? ⟨w.heap.size, 1, none⟩ = some (.int .i64 ep) := cell_of_row w1 _ 1 _ _ _ hrow
    clear hb hrow
    go_wp2
    go_ret
    exact ⟨rfl, HB1.out⟩
   all_goals
    refine HR.out 2 (by rw [H1.out, if_pos (Or.inr (by rw [hnm]; exact hn)), if_neg (by show ¬ (1 ≤ ep ∧ ep ≤ 1073741824); omega)]) ?_
    clear HR H1 hst hn hnm
    show Calls Tryz.prog 108 #[.agg #[.string who, .int .i64 ep]] w _
    go_enter Tryz.func108, Tryz.ntmps108
    go_wp2_with fail
    refine (HN.out _).mono ?_
    rintro e w1 ⟨rfl, hb⟩
    have HB1 : Hid (Below w.heap.size w w1) := HB.out.trans (hb.mono HB.out.size)
    have hrow : w1.heap[w.heap.size]? = some (.cells #[.string who, .int .i64 ep] 112 (0, 0)) := by rw [hb.block _ (by simp)]; exact HC.out
    have hc1 : w1.cell? ⟨w.heap.size, 1, none⟩ = some (.int .i64 ep) := cell_of_row w1 _ 1 _ _ _ hrow
    have hv : w1.cell? ⟨0, 0, none⟩ = some (eV (a 1)) := (HE.out.below HB1.out).var 1 (by decide) rfl
    clear hb hrow
    go_wp2
    go_ret
    exact ⟨rfl, HB1.out⟩
set_option maxRecDepth 100000 in
set_option maxHeartbeats 1000000 in
theorem ofAll_any (v : Value) (l : List Fl) (w : World) (h : FlAt w v l) (hl : l.length ≤ 1000000) :
  Calls Tryz.prog 65 #[v] w fun e w' => e = .returned (.int .i64 (topL l)) ∧ w' = w := by
 match l with
 | [] =>
  obtain ⟨ad, cap, rfl, hc⟩ := h.form
  show Calls Tryz.prog 65 #[.slice ad 0 cap] w _
  go_enter Tryz.func65, Tryz.ntmps65
  go_wp2
  go_ret
  exact ⟨rfl, rfl⟩
 | f :: l =>
  obtain ⟨b, off, cap, rfl, hc, hb, hcell⟩ := h.at (by simp)
  obtain ⟨c0, c1⟩ := hcell 0 (by simp)
  simp only [List.getElem_cons_zero, Nat.zero_mul, Nat.add_zero] at c0 c1
  have hq := star_who f
  rw [topL_cons]
  have hn : ∃ n, (f :: l).length = n + 1 := ⟨l.length, rfl⟩
  clear hcell h
  obtain ⟨n, hn⟩ := hn
  rw [hn] at hc hl ⊢
  by_cases hs : f.nm = star
  ·
   rw [if_pos hs]
   rw [decide_eq_true hs] at hq
   clear hs hn
   generalize f.who = who at *
   generalize f.ep = ep at *
   go_enter Tryz.func65, Tryz.ntmps65
   go_wp2
   go_ret
   exact ⟨rfl, rfl⟩
  ·
   rw [if_neg hs]
   rw [decide_eq_false hs] at hq
   clear hs hn
   generalize f.who = who at *
   generalize f.ep = ep at *
   go_enter Tryz.func65, Tryz.ntmps65
   go_wp2
   go_ret
   exact ⟨rfl, rfl⟩
theorem less_names (x y : ByteArray) : Op.bytesLess x.toList y.toList = decide (x.data.toList < y.data.toList) := by
 rw [bytesLess_eq, Lib.toList_data, Lib.toList_data]
theorem same_names (x y : ByteArray) : (x.toList == y.toList) = decide (x.data.toList = y.data.toList) := by
 rw [Lib.toList_data, Lib.toList_data]
 by_cases h : x.data.toList = y.data.toList
 ·
  rw [h]; simp
 ·
  rw [decide_eq_false h]; exact beq_eq_false_iff_ne.2 h
theorem names_cases (x y : ByteArray) : (x.data.toList < y.data.toList ∧ Op.bytesLess x.toList y.toList = true ∧ (x.toList == y.toList) = false) ∨ (x.data.toList = y.data.toList ∧ Op.bytesLess x.toList y.toList = false ∧ (x.toList == y.toList) = true) ∨
  (y.data.toList < x.data.toList ∧ Op.bytesLess x.toList y.toList = false ∧ (x.toList == y.toList) = false) := by
 rw [less_names, same_names]
 by_cases h1 : x.data.toList < y.data.toList
 ·
  exact Or.inl ⟨h1, decide_eq_true h1, decide_eq_false (fun e => by rw [e] at h1; exact List.lt_irrefl _ h1)⟩
 ·
  by_cases h2 : x.data.toList = y.data.toList
  ·
   exact Or.inr (Or.inl ⟨h2, decide_eq_false h1, decide_eq_true h2⟩)
  ·
   exact Or.inr (Or.inr ⟨Decidable.byContradiction fun g => h2 (List.le_antisymm (List.not_lt.1 g) (List.not_lt.1 h1)), decide_eq_false h1, decide_eq_false h2⟩)
set_option maxRecDepth 100000 in
set_option maxHeartbeats 2000000 in
theorem checkBehind_any (a : Nat → Addr) (v : Value) (l : List Fl) (f : Fl) (w : World) (h : EV flS a w) (hs : f.who.size ≤ maxLen) (hv : FlAt w v l) (hl : l.length ≤ 1000000) :
  Calls Tryz.prog 157 #[v, f.val] w fun e w' => e = .returned (errV a (behindE l f)) ∧ Below w.heap.size w w' := by
 have HO := hide (fun w h => checkOne_any a f w h hs)
 have HB0 : Hid (Below w.heap.size w (w.alloc (.cells #[.string f.who, .int .i64 f.ep] 112))) := (Below.refl _ _).alloc (Nat.le_refl _) _
 have HC0 : Hid ((w.alloc (.cells #[.string f.who, .int .i64 f.ep] 112)).heap[w.heap.size]? = some (.cells #[.string f.who, .int .i64 f.ep] 112 (0, 0))) := heap_alloc_new _ _
 have HE := hide h
 have HV := hide hv
 have HT := hide (fun w h => ofAll_any v l w h hl)
 have HD : Hid (behindE l f = if oneE f = 0 then (if ∃ g, l.getLast? = some g ∧ ¬ g.nm < f.nm then 8 else if f.ep ≤ topL l then 3 else 0) else oneE f) := rfl
 unfold Fl.val at HO
 show Calls Tryz.prog 157 #[v, .agg #[.string f.who, .int .i64 f.ep]] w _
 clear h
 by_cases h1 : oneE f = 0
 ·
  rw [if_pos h1] at HD
  rw [h1, errV_zero] at HO
  generalize hbe : behindE l f = be at HD ⊢
  clear hbe
  -- the guard's outcome, whatever the list
  have HG : Hid ((∃ g, l.getLast? = some g ∧ ¬ g.nm < f.nm) ∨ ¬ (∃ g, l.getLast? = some g ∧ ¬ g.nm < f.nm)) := Decidable.em _
  rcases HG.out with hg | hg
  ·
   rw [if_pos hg] at HD
   rw [HD.out]
   obtain ⟨g, hg1, hg2⟩ := hg
   have hne : l ≠ [] := by intro e; rw [e] at hg1; cases hg1
   obtain ⟨m, hm⟩ : ∃ m, l.length = m + 1 := ⟨l.length - 1, by have := List.length_pos_iff.2 hne; omega⟩
   obtain ⟨b, off, cap, rfl, hc, hb, hcell⟩ := hv.at (by omega)
   have c0 := (hcell m (by omega)).1
   have hgm : l[m]'(by omega) = g := by
    rw [List.getLast?_eq_getElem?, hm] at hg1
    exact (List.getElem?_eq_some_iff.1 hg1).2
   rw [hgm] at c0
   have hng := names_cases f.who g.who
   unfold Fl.nm at hg2
   rw [hm] at hc hl ⊢
   have HC := hide c0
   have hv2 : Hid (b < w.heap.size) := hb
   clear hcell hgm hg1 hne HT HG HD HV c0 hb h1 hm
   generalize g.who = gw at *
   generalize f.ep = ep at *
   generalize f.who = who at *
   rcases hng with ⟨_, hq1, hq2⟩ | ⟨_, hq1, hq2⟩ | ⟨hq, _, _⟩
   rotate_right
   ·
    exact absurd hq hg2
   all_goals
    clear hg2
    go_enter Tryz.func157, Tryz.ntmps157
    go_wp2_with fail
    refine (HO.out _ (HE.out.below HB0.out)).mono ?_
    rintro e w1 ⟨rfl, hb⟩
    have HB1 : Hid (Below w.heap.size w w1) := HB0.out.trans (hb.mono HB0.out.size)
    have hrow : w1.heap[w.heap.size]? = some (.cells #[.string who, .int .i64 ep] 112 (0, 0)) := by rw [hb.block _ (by simp)]; exact HC0.out
    have hc0 : w1.cell? ⟨w.heap.size, 0, none⟩ = some (.string who) := cell_of_row w1 _ 0 _ _ _ hrow
    have hcl : w1.cell? ⟨b, off + m * 2, none⟩ = some (.string gw) := by rw [HB1.out.cell (p := ⟨b, off + m * 2, none⟩) hv2.out]; exact HC.out
    have hvv : w1.cell? ⟨10, 0, none⟩ = some (eV (a 7)) := (HE.out.below HB1.out).var 7 (by decide) rfl
    clear hb hrow HC0 HC
    go_wp2
    go_quiet (fail)
    go_wp2
    go_ret
    exact ⟨rfl, below_drewN HB1.out _⟩
  ·
   rw [if_neg hg] at HD
   have htop : (f.ep ≤ topL l ∧ be = 3) ∨ (topL l < f.ep ∧ be = 0) := by
    have := HD.out
    by_cases e : f.ep ≤ topL l
    ·
     rw [if_pos e] at this; exact Or.inl ⟨e, this⟩
    ·
     rw [if_neg e] at this; exact Or.inr ⟨by omega, this⟩
   have hlast : (∃ cap ad, v = .slice ad 0 cap) ∨ ∃ b off cap m gw, v = .slice (some ⟨b, off, none⟩) (m + 1) cap ∧ m + 1 ≤ cap ∧ m + 1 ≤ 1000000 ∧ b < w.heap.size ∧ w.cell? ⟨b, off + m * 2, none⟩ = some (.string gw) ∧ Op.bytesLess f.who.toList gw.toList = false ∧ (f.who.toList == gw.toList) = false := by
    by_cases hne : l = []
    ·
     subst hne
     obtain ⟨ad, cap, e, _⟩ := hv.form
     exact Or.inl ⟨cap, ad, e⟩
    ·
     obtain ⟨m, hm⟩ : ∃ m, l.length = m + 1 := ⟨l.length - 1, by have := List.length_pos_iff.2 hne; omega⟩
     obtain ⟨b, off, cap, e, hc, hb, hcell⟩ := hv.at (by omega)
     have hlt : (l[m]'(by omega)).nm < f.nm := Decidable.byContradiction fun e2 => hg ⟨l[m]'(by omega), by rw [List.getLast?_eq_getElem?, show l.length - 1 = m by omega]; exact List.getElem?_eq_getElem _, e2⟩
     unfold Fl.nm at hlt
     rcases names_cases f.who (l[m]'(by omega)).who with ⟨q, _⟩ | ⟨q, _⟩ | ⟨_, q1, q2⟩
     ·
      exact absurd (List.lt_trans q hlt) (List.lt_irrefl _)
     ·
      rw [q] at hlt; exact absurd hlt (List.lt_irrefl _)
     ·
      exact Or.inr ⟨b, off, cap, m, _, by rw [e, hm], by omega, by omega, hb, (hcell m (by omega)).1, q1, q2⟩
   clear HD HG hg hv hl h1
   generalize topL l = top at *
   generalize f.ep = ep at *
   generalize f.who = who at *
   rcases hlast with ⟨cap, ad, rfl⟩ | ⟨b, off, cap, m, gw, rfl, hc, hl, hb, hcl, hq1, hq2⟩
   ·
    rcases htop with ⟨ht, rfl⟩ | ⟨ht, rfl⟩
    all_goals
     go_enter Tryz.func157, Tryz.ntmps157
     go_wp2_with fail
     refine (HO.out _ (HE.out.below HB0.out)).mono ?_
     rintro e w1 ⟨rfl, hb1⟩
     have HB1 : Hid (Below w.heap.size w w1) := HB0.out.trans (hb1.mono HB0.out.size)
     have hrow : w1.heap[w.heap.size]? = some (.cells #[.string who, .int .i64 ep] 112 (0, 0)) := by rw [hb1.block _ (by simp)]; exact HC0.out
     have HR := hide hrow
     clear hb1 hrow HC0
     go_wp2
     go_quiet (fail)
     have HB2 : Hid (Below w.heap.size w (w1.drewN nq)) := below_drewN HB1.out _
     have hrow : (w1.drewN nq).heap[w.heap.size]? = some (.cells #[.string who, .int .i64 ep] 112 (0, 0)) := HR.out
     generalize w1.drewN nq = w2 at *
     have hc1 : w2.cell? ⟨w.heap.size, 1, none⟩ = some (.int .i64 ep) := cell_of_row w2 _ 1 _ _ _ hrow
     have hgl : w.heap.size < w2.heap.size := row_lt hrow
     have z1 := fun p : BelowAt w2 => p.cell hc1 hgl
     have hvv : w2.cell? ⟨8, 0, none⟩ = some (eV (a 2)) := (HE.out.below HB2.out).var 2 (by decide) rfl
     have HVV := hide hvv
     have HTq : Hid (∀ p : BelowAt w2, Calls Tryz.prog 65 #[.slice ad 0 cap] p.to fun e w'' => e = .returned (.int .i64 top) ∧ ∃ q : BelowAt w2, w'' = q.to) := fun p => (HT.out p.to ((HV.out.below HB2.out).below p.below)).mono fun _ _ ⟨e1, e2⟩ => ⟨e1, p, e2⟩
     have any1 : Nonempty (BelowAt w2) := BelowAt.any w2
     clear hc1 hrow HR hvv
     go_wp2_with fail
     refine wp_region_below (by kernel_rfl) (by kernel_rfl) ?_
     repeat (go_big_quiet_step (exact HTq.out _))
     refine wpQuiet_nil ?_
     intro _ hw'
     obtain ⟨pq, hw''⟩ := hw'
     subst hw''
     have HB3 : Hid (Below w.heap.size w pq.to) := HB2.out.trans (pq.below.mono HB2.out.size)
     have hvv : pq.to.cell? ⟨8, 0, none⟩ = some (eV (a 2)) := (HE.out.below HB3.out).var 2 (by decide) rfl
     clear z1 HTq
     go_wp2
     go_ret
     exact ⟨rfl, HB3.out⟩
   ·
    have HCl := hide hcl
    have HBl := hide hb
    rcases htop with ⟨ht, rfl⟩ | ⟨ht, rfl⟩
    all_goals
     clear hcl hb
     go_enter Tryz.func157, Tryz.ntmps157
     go_wp2_with fail
     refine (HO.out _ (HE.out.below HB0.out)).mono ?_
     rintro e w1 ⟨rfl, hb1⟩
     have HB1 : Hid (Below w.heap.size w w1) := HB0.out.trans (hb1.mono HB0.out.size)
     have hrow : w1.heap[w.heap.size]? = some (.cells #[.string who, .int .i64 ep] 112 (0, 0)) := by rw [hb1.block _ (by simp)]; exact HC0.out
     have HR := hide hrow
     have hc0 : w1.cell? ⟨w.heap.size, 0, none⟩ = some (.string who) := cell_of_row w1 _ 0 _ _ _ hrow
     have hcl : w1.cell? ⟨b, off + m * 2, none⟩ = some (.string gw) := by rw [HB1.out.cell (p := ⟨b, off + m * 2, none⟩) HBl.out]; exact HCl.out
     clear hb1 hrow HC0
     go_wp2
     go_quiet (fail)
     have HB2 : Hid (Below w.heap.size w (w1.drewN nq)) := below_drewN HB1.out _
     have hrow : (w1.drewN nq).heap[w.heap.size]? = some (.cells #[.string who, .int .i64 ep] 112 (0, 0)) := HR.out
     clear hc0 hcl
     generalize w1.drewN nq = w2 at *
     have hc1 : w2.cell? ⟨w.heap.size, 1, none⟩ = some (.int .i64 ep) := cell_of_row w2 _ 1 _ _ _ hrow
     have hgl : w.heap.size < w2.heap.size := row_lt hrow
     have z1 := fun p : BelowAt w2 => p.cell hc1 hgl
     have HTq : Hid (∀ p : BelowAt w2, Calls Tryz.prog 65 #[.slice (some ⟨b, off, none⟩) (m + 1) cap] p.to fun e w'' => e = .returned (.int .i64 top) ∧ ∃ q : BelowAt w2, w'' = q.to) := fun p => (HT.out p.to ((HV.out.below HB2.out).below p.below)).mono fun _ _ ⟨e1, e2⟩ => ⟨e1, p, e2⟩
     have any1 : Nonempty (BelowAt w2) := BelowAt.any w2
     clear hc1 hrow HR
     go_wp2_with fail
     refine wp_region_below (by kernel_rfl) (by kernel_rfl) ?_
     repeat (go_big_quiet_step (exact HTq.out _))
     refine wpQuiet_nil ?_
     intro _ hw'
     obtain ⟨pq, hw''⟩ := hw'
     subst hw''
     have HB3 : Hid (Below w.heap.size w pq.to) := HB2.out.trans (pq.below.mono HB2.out.size)
     have hvv : pq.to.cell? ⟨8, 0, none⟩ = some (eV (a 2)) := (HE.out.below HB3.out).var 2 (by decide) rfl
     clear z1 HTq
     go_wp2
     go_ret
     exact ⟨rfl, HB3.out⟩
 ·
  rw [if_neg h1] at HD
  rw [HD.out, errV_pos a h1]
  rw [errV_pos a h1] at HO
  generalize a (oneE f - 1) = ea at *
  clear HD h1 HT
  generalize f.ep = ep at *
  generalize f.who = who at *
  clear hv
  go_enter Tryz.func157, Tryz.ntmps157
  go_wp2_with fail
  refine (HO.out _ (HE.out.below HB0.out)).mono ?_
  rintro e w1 ⟨rfl, hb⟩
  have HB1 : Hid (Below w.heap.size w w1) := HB0.out.trans (hb.mono HB0.out.size)
  clear hb
  go_wp2
  go_ret
  exact ⟨rfl, HB1.out⟩
end Go.Proofs.YtabpnjchocgakaaGreatDoor

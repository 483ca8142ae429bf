/-
  What package feed's newest, isTime, bare and checkBehind answer, for every entry and every list.
  What package feed's Check answers, for every list: the number of the first error, and its place.
  What the library's contracts ask of this program's own copies of its functions, each laid by the shelf's commands: cloneE.
  The small functions over entries: a clone, those of own memory, entries that are too many or too long, entries that are the same.
  What package feed's Since and Floors give: those behind a number, the floors of a feed, in new memory, or an error; for every list.
  What package feed's Add gives: the entries with one more, in new memory, or an error; for every list and floor.
  Floors as a text, plainly: pieces between a byte, one floor's text and what is read of it, and that what is written is read as it was.
  What package floor's Text gives: the text of right floors, or an error; for every list.
-/
import Derived.Test.YtemdnmnbecapbacGreatDoorFeedMem
import Derived.Stop.Asserts
import Derived.Deep.RegionHeld3
import Derived.Shelf.SlicesE.Clone
import Derived.Shelf.SlGeneric
import Derived.Test.YtemdnmnbecapbacGreatDoorProg
import Derived.Test.YtemdnmnbecapbacGreatDoorFloorInsert
import Derived.Deep.AppendLies
import Derived.Test.YtemdnmnbecapbacGreatDoorFloorPlain
import Derived.Test.YtemdnmnbecapbacGreatDoorSealPlain
import Derived.Test.YtemdnmnbecapbacGreatDoorFloorCheck
import Derived.Test.YtemdnmnbecapbacGreatDoorSealNumber
import Derived.Laws.MakeOwn
namespace Go.Proofs.YtemdnmnbecapbacGreatDoor
open Go.RowKit Go.Extern.Stop Go.Stop Go.Extern Go.Proofs

theorem newL_last {l : List En} {m : Nat} (hm : l.length = m + 1) : newL l = (l[m]'(by omega)).time := by
  have e : l.getLast? = l[m]? := by rw [List.getLast?_eq_getElem?, show l.length - 1 = m by omega]
  unfold newL
  rw [e, List.getElem?_eq_getElem (by omega)]
theorem newL_nil : newL [] = 0 := rfl
set_option maxRecDepth 100000 in
set_option maxHeartbeats 1000000 in
theorem newest_any (v : Value) (l : List En) (w : World) (h : EnAt w v l) (hl : l.length ≤ 1000000) :
    Calls Tryz.prog 31 #[v] w fun e w' => e = .returned (.int .i64 (newL l)) ∧ w' = w := by
  by_cases hn : 0 < l.length
  · obtain ⟨m, hm⟩ : ∃ m, l.length = m + 1 := ⟨l.length - 1, by omega⟩
    obtain ⟨b, off, cap, rfl, hc, hb, _, hcell⟩ := h.at hn
    have c1 := (hcell m (by omega)).2.1
    rw [newL_last hm]
    generalize (l[m]'(by omega)).time = t at *
    rw [hm] at hc hl ⊢
    clear hcell h hn hm
    go_enter Tryz.func31, Tryz.ntmps31
    go_wp2
    go_ret
    exact ⟨rfl, rfl⟩
  · obtain rfl : l = [] := List.length_eq_zero_iff.1 (by omega)
    obtain ⟨ad, cap, rfl, hc⟩ := h.form
    show Calls Tryz.prog 31 #[.slice ad 0 cap] w _
    rw [newL_nil]
    go_enter Tryz.func31, Tryz.ntmps31
    go_wp2
    go_ret
    exact ⟨rfl, rfl⟩

theorem fdTime_any (n : Int) (w : World) :
    Calls Tryz.prog 30 #[.int .i64 n] w fun e w' => e = .returned (.bool (decide (0 ≤ n ∧ n ≤ 1000000))) ∧ w' = w := by
  by_cases h1 : 0 ≤ n
  · by_cases h2 : n ≤ 1000000
    · rw [decide_eq_true ⟨h1, h2⟩]
      go_enter Tryz.func30, Tryz.ntmps30
      go_wp2
      go_ret
      exact ⟨rfl, rfl⟩
    · rw [decide_eq_false (fun h => h2 h.2)]
      go_enter Tryz.func30, Tryz.ntmps30
      go_wp2
      go_ret
      exact ⟨by simp_all, rfl⟩
  · rw [decide_eq_false (fun h => h1 h.1)]
    go_enter Tryz.func30, Tryz.ntmps30
    go_wp2
    go_ret
    exact ⟨rfl, rfl⟩

theorem Tryz.asFaultN (xT : TypeId) (w : World) : (Instr.typeAssert .nilIface xT 66 true).run Tryz.prog w = .ok (.tuple #[.pointer none, .bool false]) w := by kernel_rfl
theorem Tryz.asFaultE (v : Value) (xT : TypeId) (w : World) : (Instr.typeAssert (.iface 218 v) xT 66 true).run Tryz.prog w = .ok (.tuple #[.pointer none, .bool false]) w := by kernel_rfl
theorem Tryz.asFaultF (v : Value) (xT : TypeId) (w : World) : (Instr.typeAssert (.iface 66 v) xT 66 true).run Tryz.prog w = .ok (.tuple #[v, .bool true]) w := by kernel_rfl
set_option maxRecDepth 100000 in
theorem fdBare_any (a : Nat → Addr) (c : Nat × Int) (ev : Value) (w : World) (h : FlErr a w c ev) :
    Calls Tryz.prog 28 #[ev] w fun e w' => e = .returned (errV a c.1) ∧ w' = w := by
  have q0 := Tryz.asFaultN
  have q1 := Tryz.asFaultE
  have q2 := Tryz.asFaultF
  rcases h with ⟨h0, rfl⟩ | ⟨h0, _, rfl⟩ | ⟨h0, b, rfl, hrow⟩
  · rw [h0, errV_zero]
    clear h0
    go_enter Tryz.func28, Tryz.ntmps28
    go_wp2
    go_ret
    exact ⟨rfl, rfl⟩
  · rw [errV_pos a h0]
    generalize a (c.1 - 1) = p at *
    clear h0
    go_enter Tryz.func28, Tryz.ntmps28
    go_wp2
    go_ret
    exact ⟨rfl, rfl⟩
  · rw [errV_pos a h0]
    generalize a (c.1 - 1) = p at *
    have c1 : w.cell? ⟨b, 1, none⟩ = some (eV p) := cell_of_row w b 1 _ _ _ hrow
    clear h0 hrow
    go_enter Tryz.func28, Tryz.ntmps28
    go_wp2
    go_ret
    exact ⟨rfl, rfl⟩

theorem check_single (f : Fl) : (checkL [f]).1 = oneE f := by
  have hb : badAt [f] 0 = oneE f := by
    show behindE [] f = oneE f
    unfold behindE
    by_cases h : oneE f = 0
    · have hp := (one_pos h).1
      rw [if_pos h, if_neg (by rintro ⟨g, hg, _⟩; cases hg), if_neg (by show ¬ f.ep ≤ 0; omega), h]
    · rw [if_neg h]
  by_cases h : oneE f = 0
  · rw [check_good (by simp) (fun j hj => by
      obtain rfl : j = 0 := by simpa using hj
      rw [hb, h]), h]
  · rw [check_bad (k := 0) (by simp) (by simp) (fun j hj => absurd hj (Nat.not_lt_zero _)) (by rw [hb]; exact h), hb]

/-- An entry's block. -/
abbrev enO (e : En) : Obj := .cells #[.int .i64 e.seq, .int .i64 e.time, .string e.fl.who, .int .i64 e.fl.ep] 64 (0, 0)
theorem en_row {w : World} {g : Nat} {s t ep : Int} {who : ByteArray} (h : w.heap[g]? = some (.cells #[.int .i64 s, .int .i64 t, .string who, .int .i64 ep] 64 (0, 0))) :
    w.cell? ⟨g, 0, none⟩ = some (.int .i64 s) ∧ w.cell? ⟨g, 1, none⟩ = some (.int .i64 t) ∧ w.cell? ⟨g, 2, none⟩ = some (.string who) ∧ w.cell? ⟨g, 3, none⟩ = some (.int .i64 ep) :=
  ⟨cell_of_row w g 0 _ _ _ h, cell_of_row w g 1 _ _ _ h, cell_of_row w g 2 _ _ _ h, cell_of_row w g 3 _ _ _ h⟩
theorem fl_alone (w : World) (who : ByteArray) (ep : Int) : FlAt (w.alloc (.cells #[.string who, .int .i64 ep] 24)) (.slice (some ⟨w.heap.size, 0, none⟩) 1 1) [⟨who, ep⟩] :=
  Or.inr ⟨w.heap.size, 0, 1, rfl, Nat.le_refl _, fun j u hu => by
    rw [Nat.zero_add, cell_of_row _ _ j _ _ _ (heap_alloc_new w (.cells #[.string who, .int .i64 ep] 24))]
    rw [show cellsF [⟨who, ep⟩] = (#[.string who, .int .i64 ep] : Array Value).toList from rfl, Array.getElem?_toList] at hu
    exact hu⟩

set_option maxRecDepth 100000 in
set_option maxHeartbeats 4000000 in
theorem fdBehind_any (a : Nat → Addr) (v : Value) (l : List En) (e : En) (w : World) (h : EV fdS a w) (hs : e.fl.who.size ≤ maxLen) (hv : EnAt w v l) (hl : l.length ≤ 1000000) :
    Calls Tryz.prog 26 #[v, e.val] w fun r w' => r = .returned (errV a (entE l.length (newL l) e)) ∧ Below w.heap.size w w' := by
  have HNw := hide (fun w h => newest_any v l w h hl)
  have HTm := hide (fun w => fdTime_any e.time w)
  have HCk := hide (fun v1 w h h1 => check_any a v1 [e.fl] w h h1 (fun f hf => by rw [List.mem_singleton.1 hf]; exact hs) (by simp))
  have hck1 := check_single e.fl
  have HE := hide h
  have HV := hide hv
  obtain ⟨ad, cap, rfl, hcap⟩ := hv.form
  have hcase : (e.seq ≠ (l.length : Int) + 1 ∧ entE l.length (newL l) e = 15) ∨ (e.seq = (l.length : Int) + 1 ∧ ¬ (0 ≤ e.time ∧ e.time ≤ 1000000) ∧ entE l.length (newL l) e = 2) ∨
      (e.seq = (l.length : Int) + 1 ∧ (0 ≤ e.time ∧ e.time ≤ 1000000) ∧ e.time < newL l ∧ entE l.length (newL l) e = 8) ∨ (e.seq = (l.length : Int) + 1 ∧ (0 ≤ e.time ∧ e.time ≤ 1000000) ∧ ¬ e.time < newL l ∧ entE l.length (newL l) e = oneE e.fl) := by
    unfold entE
    by_cases h1 : e.seq = (l.length : Int) + 1
    · by_cases h2 : 0 ≤ e.time ∧ e.time ≤ 1000000
      · by_cases h3 : e.time < newL l
        · exact Or.inr (Or.inr (Or.inl ⟨h1, h2, h3, by rw [if_pos h1, if_pos h2, if_pos h3]⟩))
        · exact Or.inr (Or.inr (Or.inr ⟨h1, h2, h3, by rw [if_pos h1, if_pos h2, if_neg h3]⟩))
      · exact Or.inr (Or.inl ⟨h1, h2, by rw [if_pos h1, if_neg h2]⟩)
    · exact Or.inl ⟨h1, by rw [if_neg h1]⟩
  have HB0 : Hid (Below w.heap.size w (w.alloc (.cells #[.int .i64 e.seq, .int .i64 e.time, .string e.fl.who, .int .i64 e.fl.ep] 64))) := (Below.refl _ _).alloc (Nat.le_refl _) _
  have HC0 : Hid ((w.alloc (.cells #[.int .i64 e.seq, .int .i64 e.time, .string e.fl.who, .int .i64 e.fl.ep] 64)).heap[w.heap.size]? = some (.cells #[.int .i64 e.seq, .int .i64 e.time, .string e.fl.who, .int .i64 e.fl.ep] 64 (0, 0))) := heap_alloc_new _ _
  show Calls Tryz.prog 26 #[.slice ad l.length cap, .agg #[.int .i64 e.seq, .int .i64 e.time, .string e.fl.who, .int .i64 e.fl.ep]] w _
  clear h hv hs
  generalize entE l.length (newL l) e = c at *
  generalize newL l = nw at *
  have hfe : e.fl = ⟨e.fl.who, e.fl.ep⟩ := rfl
  rw [hfe] at HCk hck1
  have HCs := hide hck1
  clear hfe hck1
  generalize hn : l.length = n at *
  clear hn
  generalize e.seq = sq at *
  generalize e.time = tm at *
  generalize oneE _ = one at *
  generalize checkL _ = ck at *
  generalize e.fl.who = who at *
  generalize e.fl.ep = ep at *
  rcases hcase with ⟨h1, rfl⟩ | ⟨h1, h2, rfl⟩ | ⟨h1, h2, h3, rfl⟩ | ⟨h1, h2, h3, rfl⟩
  · have hq : (sq == (n : Int) + 1) = false := beq_eq_false_iff_ne.2 h1
    have hvv : (w.alloc (.cells #[.int .i64 sq, .int .i64 tm, .string who, .int .i64 ep] 64)).cell? ⟨2, 0, none⟩ = some (eV (a 14)) := (HE.out.below HB0.out).var 14 (by decide) rfl
    clear h1
    go_enter Tryz.func26, Tryz.ntmps26
    go_wp2
    go_ret
    exact ⟨rfl, HB0.out⟩
  · have hq : (sq == (n : Int) + 1) = true := beq_iff_eq.2 h1
    have hvv : (w.alloc (.cells #[.int .i64 sq, .int .i64 tm, .string who, .int .i64 ep] 64)).cell? ⟨1, 0, none⟩ = some (eV (a 1)) := (HE.out.below HB0.out).var 1 (by decide) rfl
    rw [decide_eq_false h2] at HTm
    clear h1 h2
    go_enter Tryz.func26, Tryz.ntmps26
    go_wp2_with fail
    refine (HTm.out _).mono ?_
    rintro e1 w1 ⟨rfl, rfl⟩
    go_wp2
    go_ret
    exact ⟨rfl, HB0.out⟩
  all_goals
    have hq : (sq == (n : Int) + 1) = true := beq_iff_eq.2 h1
    rw [decide_eq_true h2] at HTm
    clear h1 h2
    go_enter Tryz.func26, Tryz.ntmps26
    go_wp2_with fail
    refine (HTm.out _).mono ?_
    rintro e1 w1 ⟨rfl, rfl⟩
    go_wp2
    generalize hw2 : w.alloc (.cells #[.int .i64 sq, .int .i64 tm, .string who, .int .i64 ep] 64) = w2 at *
    obtain ⟨_, hc1, hc2, hc3⟩ := en_row HC0.out
    have hgl : w.heap.size < w2.heap.size := row_lt HC0.out
    have z1 := fun p : BelowAt w2 => p.cell hc1 hgl
    have HTq : Hid (∀ p : BelowAt w2, Calls Tryz.prog 31 #[.slice ad n cap] p.to fun e w'' => e = .returned (.int .i64 nw) ∧ ∃ q : BelowAt w2, w'' = q.to) := fun p => (HNw.out p.to ((HV.out.below HB0.out).below p.below)).mono fun _ _ ⟨e1, e2⟩ => ⟨e1, p, e2⟩
    have any1 : Nonempty (BelowAt w2) := BelowAt.any w2
    have HK2 := hide hc2
    have HK3 := hide hc3
    clear hc1 hc2 hc3
    refine wp_region_below (by kernel_rfl) (by kernel_rfl) ?_
    repeat (go_big_quiet_step (exact HTq.out _))
    refine wpQuiet_nil ?_
    intro _ hw'
    obtain ⟨pq, hw''⟩ := hw'
    subst hw''
    have HB3 : Hid (Below w.heap.size w pq.to) := HB0.out.trans (pq.below.mono HB0.out.size)
    have hvv : pq.to.cell? ⟨3, 0, none⟩ = some (eV (a 7)) := (HE.out.below HB3.out).var 7 (by decide) rfl
    have hk2 : pq.to.cell? ⟨w.heap.size, 2, none⟩ = some (.string who) := pq.cell HK2.out hgl
    have hk3 : pq.to.cell? ⟨w.heap.size, 3, none⟩ = some (.int .i64 ep) := pq.cell HK3.out hgl
    clear z1 HTq HK2 HK3
    generalize pq.to = w3 at *
    clear any1 hgl hw2 pq
  · go_wp2
    go_ret
    exact ⟨rfl, HB3.out⟩
  · have HB4 : Hid (Below w.heap.size w (w3.alloc (.cells #[.string who, .int .i64 ep] 24))) := HB3.out.alloc HB3.out.size _
    have HF4 := hide (fl_alone w3 who ep)
    go_wp2_with fail
    refine (HCk.out _ _ (HE.out.below HB4.out).fl HF4.out).mono ?_
    rintro e1 w4 ⟨ev, rfl, he, hb⟩
    have HB5 : Hid (Below w.heap.size w w4) := HB4.out.trans (hb.mono HB4.out.size)
    have HBa := hide (fdBare_any a ck ev w4 he)
    rw [HCs.out] at HBa
    clear hb he hk2 hk3 hvv
    generalize her : errV a c = er at HBa
    have HER := hide her
    clear her
    go_wp2_with fail
    refine HBa.out.mono ?_
    rintro e1 w5 ⟨rfl, rfl⟩
    go_wp2
    go_ret
    exact ⟨by rw [HER.out]; rfl, HB5.out⟩
end Go.Proofs.YtemdnmnbecapbacGreatDoor

namespace Go.Proofs.YtemdnmnbecapbacGreatDoor
open Go.RowKit Go.Extern.Stop Go.Stop Go.Extern Go.Proofs

set_option maxRecDepth 100000 in
set_option maxHeartbeats 4000000 in
theorem fdCheck_any (a : Nat → Addr) (v : Value) (l : List En) (w : World) (h : EV fdS a w) (hv : EnAt w v l) (hs : ∀ e ∈ l, e.fl.who.size ≤ maxLen) (hl : l.length ≤ 1000000) :
    Calls Tryz.prog 7 #[v] w fun e w' => ∃ ev, e = .returned ev ∧ FlErr a w' (feedC l) ev ∧ Below w.heap.size w w' := by
  by_cases h60 : 60 < l.length
  · obtain ⟨ad, cap, rfl, hc⟩ := hv.form
    rw [feed_full h60]
    have hvv : w.cell? ⟨0, 0, none⟩ = some (eV (a 6)) := h.var 6 (by decide) rfl
    clear h hv hs
    generalize l.length = n at *
    have hz : (60 : Int) < (n : Int) := by omega
    go_enter Tryz.func7, Tryz.ntmps7
    go_wp2
    go_ret
    exact ⟨_, rfl, Or.inr (Or.inl ⟨by decide, rfl, rfl⟩), Below.refl _ _⟩
  · obtain ⟨ad, cap, rfl, hc⟩ := hv.form
    have HV := hide hv
    have HE := hide h
    have HS := hide hs
    have HL := hide h60
    generalize hn : l.length = n at *
    have HN := hide hn
    have hz : ¬ (60 : Int) < (n : Int) := by omega
    clear h hv hs hn
    go_enter Tryz.func7, Tryz.ntmps7
    go_wp2
    go_loopg [3, 4, 5, 12] n (fun gg _ _ _ s12 wr => ∃ k : Nat, k ≤ n ∧ n - k ≤ gg ∧ s12 = .int .i64 k ∧ Hid (Below w.heap.size w wr) ∧ Hid (∀ j, j < k → badE l j = 0))
    case atStart => exact ⟨0, Nat.zero_le _, by omega, rfl, Below.refl _ _, fun j hj => absurd hj (Nat.not_lt_zero _)⟩
    case round =>
      obtain ⟨k, hk, hg, rfl, HB, A⟩ := hrel
      by_cases hlt : k < n
      · have hltz : (k : Int) < (n : Int) := by omega
        have hkl : k < l.length := by rw [HN.out]; exact hlt
        have hvr := HV.out.below HB.out
        rw [← HN.out] at hvr
        obtain ⟨b, off, cap', e, hc', hb, hcl, hcell⟩ := hvr.at (by omega)
        injection e with e1 e2 e3
        subst e1; subst e3
        obtain ⟨c0, c1, c2, c3⟩ := hcell k hkl
        obtain ⟨f, hf⟩ : ∃ f, f = l[k] := ⟨_, rfl⟩
        have hbad : badE l k = entE (l.take k).length (newL (l.take k)) f := by rw [bad_at hkl, hf, List.length_take, Nat.min_eq_left (Nat.le_of_lt hkl)]
        have hfs : f.fl.who.size ≤ maxLen := HS.out f (by rw [hf]; exact List.getElem_mem _)
        rw [← hf] at c0 c1 c2 c3
        have HT : Hid (EnAt wr (.slice (some ⟨b, off, none⟩) k cap) (l.take k)) := EnAt.take hc' hcl k (by omega)
        have HCk := hide (fun w h hv => fdBehind_any a (.slice (some ⟨b, off, none⟩) k cap) (l.take k) f w h hfs hv (by rw [List.length_take]; omega))
        rw [← hbad] at HCk
        have HEr := hide (HE.out.below HB.out)
        have HA : Hid (Below wr.heap.size wr (wr.alloc (.cells #[.int .i64 f.seq, .int .i64 f.time, .string f.fl.who, .int .i64 f.fl.ep] 64))) := (Below.refl _ _).alloc (Nat.le_refl _) _
        have HR : Hid ((wr.alloc (.cells #[.int .i64 f.seq, .int .i64 f.time, .string f.fl.who, .int .i64 f.fl.ep] 64)).heap[wr.heap.size]? = some (.cells #[.int .i64 f.seq, .int .i64 f.time, .string f.fl.who, .int .i64 f.fl.ep] 64 (0, 0))) := heap_alloc_new _ _
        have HCa : Hid (∀ p : BelowAt (wr.alloc (.cells #[.int .i64 f.seq, .int .i64 f.time, .string f.fl.who, .int .i64 f.fl.ep] 64)), Calls Tryz.prog 26 #[.slice (some ⟨b, off, none⟩) k cap, .agg #[.int .i64 f.seq, .int .i64 f.time, .string f.fl.who, .int .i64 f.fl.ep]] p.to fun e w'' => e = .returned (errV a (badE l k)) ∧ ∃ q : BelowAt (wr.alloc (.cells #[.int .i64 f.seq, .int .i64 f.time, .string f.fl.who, .int .i64 f.fl.ep] 64)), w'' = q.to) :=
          fun p => BelowAt.calls (HCk.out p.to ((HEr.out.below HA.out).below p.below) ((HT.out.below HA.out).below p.below))
        clear hcell hcl hvr hf hbad hfs HT HCk HEr hb
        generalize f.seq = sq at *
        generalize f.time = tm at *
        generalize f.fl.who = who at *
        generalize f.fl.ep = ep at *
        clear f
        have hco : k ≤ cap := by omega
        go_wp2_with fail
        generalize hw2 : wr.alloc (.cells #[.int .i64 sq, .int .i64 tm, .string who, .int .i64 ep] 64) = w2 at *
        obtain ⟨hd0, hd1, hd2, hd3⟩ := en_row HR.out
        have hgl : wr.heap.size < w2.heap.size := row_lt HR.out
        have z0 := fun p : BelowAt w2 => p.cell hd0 hgl
        have z1 := fun p : BelowAt w2 => p.cell hd1 hgl
        have z2 := fun p : BelowAt w2 => p.cell hd2 hgl
        have z3 := fun p : BelowAt w2 => p.cell hd3 hgl
        have any1 : Nonempty (BelowAt w2) := BelowAt.any w2
        have HB2 : Hid (Below w.heap.size w w2) := HB.out.trans (HA.out.mono HB.out.size)
        clear c0 c1 c2 c3 hd0 hd1 hd2 hd3
        by_cases hb0 : badE l k = 0
        · rw [hb0, errV_zero] at HCa
          refine wp_region_below (by kernel_rfl) (by kernel_rfl) ?_
          repeat (go_big_quiet_step (exact HCa.out _))
          refine wpQuiet_nil ?_
          intro _ hw'
          obtain ⟨pq, hw''⟩ := hw'
          subst hw''
          have HB3 : Hid (Below w.heap.size w pq.to) := HB2.out.trans (pq.below.mono HB2.out.size)
          clear z0 z1 z2 z3 HCa HA HR
          go_wp2
          go_roundg (n - (k + 1))
          case measure => omega
          case rel =>
            refine ⟨k + 1, by omega, by omega, by go_num, HB3, (show Hid _ from fun j hj => ?_)⟩
            by_cases e : j = k
            · subst e; exact hb0
            · exact A.out j (by omega)
        · rw [errV_pos a hb0] at HCa
          have HK := hide (feed_bad (l := l) (by rw [HN.out]; exact HL.out) hkl A.out hb0)
          have HBa := hide hb0
          generalize badE l k = c at *
          refine wp_region_below (by kernel_rfl) (by kernel_rfl) ?_
          repeat (go_big_quiet_step (exact HCa.out _))
          refine wpQuiet_nil ?_
          intro _ hw'
          obtain ⟨pq, hw''⟩ := hw'
          subst hw''
          have HB3 : Hid (Below w.heap.size w pq.to) := HB2.out.trans (pq.below.mono HB2.out.size)
          clear z0 z1 z2 z3 HCa HA HR hb0
          generalize hea : a (c - 1) = ea at *
          have HEa := hide hea
          clear hea
          go_wp2
          go_ret
          exact ⟨_, rfl, by rw [HK.out]; exact Or.inr (Or.inr ⟨HBa.out, _, rfl, by rw [HEa.out]; exact heap_alloc_new _ _⟩), HB3.out.alloc HB3.out.size _⟩
      · have : k = n := by omega
        subst this
        have HK := hide (feed_good (l := l) (by rw [HN.out]; exact HL.out) (by rw [HN.out]; exact A.out))
        have hltz : ¬ (k : Int) < (k : Int) := by omega
        go_wp2
        go_ret
        exact ⟨_, rfl, by rw [HK.out]; exact Or.inl ⟨rfl, rfl⟩, HB.out⟩
end Go.Proofs.YtemdnmnbecapbacGreatDoor

namespace Go.Proofs
open Go.Shelf
def Tryz.cloneE_ren : Go.Shelf.Ren := ⟨fun | 41 => 37 | n => n, fun | 22 => 22 | 23 => 64 | 4 => 4 | n => n, fun | n => n⟩
theorem Tryz.cloneE : Go.Proofs.SlLaysE0.n41 Tryz.prog Tryz.cloneE_ren := {
  mixed := by kernel_rfl
  f41 := ⟨Tryz.f37.name, by decide, Tryz.func37.trans (congrArg some (by kernel_rfl))⟩
  t4 := Tryz.underlying4
  a4 := Tryz.isAgg4
  z4 := Tryz.sizeOf4
  v4 := Tryz.zeroValue4
  t22 := Tryz.underlying22
  a22 := Tryz.isAgg22
  z22 := Tryz.sizeOf22
  v22 := Tryz.zeroValue22 }
end Go.Proofs

namespace Go.Proofs.YtemdnmnbecapbacGreatDoor
open Go.RowKit Go.Extern.Stop Go.Stop Go.Extern Go.Proofs

theorem Tryz.infoEntry : (Tryz.prog.info? 64).map (fun i => (i.zero, i.size, i.bytes)) = some (some (.agg #[.int .i64 0, .int .i64 0, .string ByteArray.empty, .int .i64 0]), 4, 40) := by kernel_rfl
set_option maxRecDepth 100000 in
set_option maxHeartbeats 1000000 in
theorem cloneE_any (v : Value) (l : List En) (w : World) (hv : EnAt w v l) (hl : l.length ≤ 1000000) :
    Calls Tryz.prog 37 #[v] w fun e w' => ∃ v', e = .returned v' ∧ OwnE w' w.heap.size v' l ∧ Below w.heap.size w w' := by
  obtain ⟨i0, hi, hz0, hz1, hz2⟩ := info_parts Tryz.infoEntry
  rcases hv with ⟨ad, cap, rfl, rfl⟩ | ⟨b, off, cap, rfl, hc, hcell⟩
  · cases ad with
    | none => exact (AnyE.slices_Clone_nil Tryz.cloneE 0 cap w).mono fun e w' ⟨h1, h2⟩ => ⟨_, h1, OwnE.nil _ _, by rw [h2]; exact Below.refl _ _⟩
    | some ad =>
      have q22 : ∀ (w : World) (a : Option Addr) (n c n' c' : Nat), (binOp .eql 22 (.slice a n c) (.slice none n' c')).run Tryz.prog w = .ok (.bool a.isNone) w := fun w a n c n' c' => Lib.run_eql_slice_nil w _ _ a n c n' c' Tryz.underlying22
      go_enter Tryz.func37, Tryz.ntmps37
      go_wp2_with (at_builtin; refine wpList_append_own _ rfl _ _ 22 rfl w.heap.size 64 i0 _ 4 40 Tryz.underlying22 hi hz0 hz1 hz2 rfl (by decide) _ _ _ rfl (World.ownsRow_made w #[] 0 (Nat.le_refl _) (Nat.zero_le _) (by simp)) ad 0 cap [] rfl rfl (fun j u hj => by simp at hj) (by simp) (by unfold maxLen; omega) (by omega) (by simp) ?_; intro v' w1 hown hgrow hnil)
      go_wp2
      go_ret
      exact ⟨v', rfl, (by show w1.ownsRow w.heap.size 64 4 v' 0 []; simpa using hown), ((Below.refl _ w).alloc (Nat.le_refl _) _).grown hgrow (by simp) (fun k hk => by have e : w.heap.size = k := Option.some.inj hk; omega)⟩
  · exact (AnyE.slices_Clone Tryz.cloneE i0 _ 4 40 hi hz0 hz1 hz2 rfl (by decide) Tryz.sizeOf64 b off l.length cap (cellsE l) w (cellsE_len l) (by unfold maxLen; omega) (by omega) hcell (cellsE_one l)).mono fun e w' ⟨v', h1, h2, _, h4⟩ => ⟨v', h1, h2, h4⟩

set_option maxRecDepth 100000 in
set_option maxHeartbeats 1000000 in
theorem ownEntries_any (v : Value) (l : List En) (w : World) (hv : EnAt w v l) (hl : l.length ≤ 1000000) :
    Calls Tryz.prog 13 #[v] w fun e w' => ∃ v', e = .returned v' ∧ OwnE w' w.heap.size v' l ∧ Below w.heap.size w w' := by
  obtain ⟨i0, hi, hz0, hz1, hz2⟩ := info_parts Tryz.infoEntry
  have HEnd : Hid (∀ v' w1, w1.ownsRow w.heap.size 64 4 v' (0 + l.length) ([] ++ cellsE l) → w.grownBy w1 (Value.slice none 0 0).ownBlock → OwnE w1 w.heap.size v' l ∧ Below w.heap.size w w1) := fun v' w1 h1 h2 =>
    ⟨by simpa using h1, (Below.refl _ w).grown h2 (Nat.le_refl _) (fun k hk => by cases hk)⟩
  rcases hv with ⟨ad, cap, rfl, rfl⟩ | ⟨b, off, cap, rfl, hc, hcell⟩
  · cases ad with
    | none =>
      have hno : ∀ ty c, (Builtin.append_ #[22, 22] ty #[.slice none 0 0, .slice none 0 c]).run Tryz.prog w = .ok (.slice none 0 0) w := fun ty c => by kernel_rfl
      go_enter Tryz.func13, Tryz.ntmps13
      go_wp2_with (at_builtin; refine Lib.wpList_append_run _ rfl _ _ _ _ rfl _ _ rfl rfl _ _ (hno _ _) ?_)
      go_ret
      exact ⟨_, rfl, OwnE.nil _ _, Below.refl _ _⟩
    | some ad =>
      go_enter Tryz.func13, Tryz.ntmps13
      go_wp2_with (at_builtin; refine wpList_append_own _ rfl _ _ 22 rfl w.heap.size 64 i0 _ 4 40 Tryz.underlying22 hi hz0 hz1 hz2 rfl (by decide) _ _ _ rfl (World.ownsRow_nil _ _ _ _) ad 0 cap [] rfl rfl (fun j u hj => by simp at hj) (by simp) (by unfold maxLen; omega) (by omega) (Nat.le_refl _) ?_; intro v' w1 hown hgrow hnil)
      go_wp2
      go_ret
      exact ⟨v', rfl, HEnd.out v' w1 hown hgrow⟩
  · have HS : Hid (∀ j u, (cellsE l)[j]? = some u → w.cell? ((⟨b, off, none⟩ : Addr).add j) = some u) := fun j u hu => by rw [Addr.add_lit]; exact hcell j u hu
    have HLn := hide (cellsE_len l)
    have HOne := hide (cellsE_one l)
    clear hcell
    generalize cellsE l = cs at *
    generalize hn : l.length = n at *
    go_enter Tryz.func13, Tryz.ntmps13
    go_wp2_with (at_builtin; refine wpList_append_own _ rfl _ _ 22 rfl w.heap.size 64 i0 _ 4 40 Tryz.underlying22 hi hz0 hz1 hz2 rfl (by decide) _ _ _ rfl (World.ownsRow_nil _ _ _ _) ⟨b, off, none⟩ n cap cs rfl HLn.out HS.out HOne.out (by unfold maxLen; omega) (by omega) (Nat.le_refl _) ?_; intro v' w1 hown hgrow hnil)
    go_wp2
    go_ret
    exact ⟨v', rfl, HEnd.out v' w1 hown hgrow⟩

/-- Too many, or too long. -/
def longE (l : List En) : Bool := decide (30 < l.length ∧ l.length ≠ 60 ∧ l.length ≠ 61) || l.any (fun e => decide (20 < e.fl.who.size))
theorem longE_no {l : List En} (h : longE l = false) : l.length ≤ 61 ∧ ∀ e ∈ l, e.fl.who.size ≤ 20 := by
  unfold longE at h
  simp only [Bool.or_eq_false_iff, decide_eq_false_iff_not, List.any_eq_false, decide_eq_true_eq] at h
  exact ⟨by omega, fun e he => by have := h.2 e he; omega⟩

set_option maxRecDepth 100000 in
set_option maxHeartbeats 4000000 in
theorem longEntries_any (v : Value) (l : List En) (w : World) (hv : EnAt w v l) :
    Calls Tryz.prog 6 #[v] w fun e w' => e = .returned (.int .i64 (if longE l = true then 1 else 0)) ∧ w' = w := by
  obtain ⟨ad, cap, rfl, hc⟩ := hv.form
  have HV := hide hv
  by_cases h30 : 30 < l.length ∧ l.length ≠ 60 ∧ l.length ≠ 61
  · rw [if_pos (by unfold longE; rw [decide_eq_true h30]; rfl)]
    obtain ⟨g1, g2, g3⟩ := h30
    generalize l.length = n at *
    have hz : (30 : Int) < (n : Int) := by omega
    have hz2 : ((n : Int) != 60) = true := bne_iff_ne.2 (by omega)
    have hz3 : ((n : Int) != 61) = true := bne_iff_ne.2 (by omega)
    clear hv
    go_enter Tryz.func6, Tryz.ntmps6
    go_wp2
    go_ret
    exact ⟨rfl, rfl⟩
  · have HQ : Hid (longE l = l.any (fun e => decide (20 < e.fl.who.size))) := by show _ = _; unfold longE; rw [decide_eq_false h30]; rfl
    generalize hr : (if longE l = true then (1 : Int) else 0) = r
    have HR := hide hr
    generalize hn : l.length = n at *
    have HN := hide hn
    have hway : (¬ (30 : Int) < (n : Int)) ∨ ((30 : Int) < (n : Int) ∧ ((n : Int) != 60) = false) ∨ ((30 : Int) < (n : Int) ∧ ((n : Int) != 60) = true ∧ ((n : Int) != 61) = false) := by
      by_cases g1 : n ≤ 30
      · exact Or.inl (by omega)
      · by_cases g2 : n = 60
        · exact Or.inr (Or.inl ⟨by omega, bne_eq_false_iff_eq.2 (by omega)⟩)
        · exact Or.inr (Or.inr ⟨by omega, bne_iff_ne.2 (by omega), bne_eq_false_iff_eq.2 (by omega)⟩)
    have hnb : n ≤ 61 := by omega
    clear hv hr hn h30
    rcases hway with hz | ⟨hz, hz2⟩ | ⟨hz, hz2, hz3⟩
    all_goals
      go_enter Tryz.func6, Tryz.ntmps6
      go_wp2
      go_loop [3] (fun i => ∃ k : Nat, k ≤ n ∧ i = .int .i64 k ∧ Hid (∀ j (hj : j < l.length), j < k → l[j].fl.who.size ≤ 20)) (fun i => n - (intOf i).toNat)
      case atStart => exact ⟨0, Nat.zero_le _, rfl, fun j _ hj => absurd hj (Nat.not_lt_zero _)⟩
      case round =>
        obtain ⟨k, hk, rfl, A⟩ := hrel
        by_cases hlt : k < n
        · have hkl : k < l.length := by rw [HN.out]; exact hlt
          have hvr := HV.out
          rw [← HN.out] at hvr
          obtain ⟨b, off, cap', e, hc', hb, _, hcell⟩ := hvr.at (by omega)
          injection e with e1 e2 e3
          subst e1; subst e3
          obtain ⟨_, _, c2, _⟩ := hcell k hkl
          have hltz : (k : Int) < (n : Int) := by omega
          by_cases h20 : 20 < (l[k]'hkl).fl.who.size
          · have hr1 : r = 1 := by
              rw [← HR.out, if_pos]
              rw [HQ.out, List.any_eq_true]
              exact ⟨_, List.getElem_mem hkl, by simpa using h20⟩
            have HR1 := hide hr1
            clear hcell hvr hr1
            generalize (l[k]'hkl).fl.who = who at c2 h20
            have h20z : (20 : Int) < (who.size : Int) := by omega
            go_wp2
            go_ret
            exact ⟨by rw [HR1.out]; rfl, rfl⟩
          · have H20 := hide (Nat.not_lt.1 h20)
            clear hcell hvr
            generalize (l[k]'hkl).fl.who = who at c2 h20
            have h20z : ¬ (20 : Int) < (who.size : Int) := by omega
            go_wp2
            go_round
            case rel =>
              refine ⟨k + 1, by omega, by go_num, (show Hid _ from fun j hj hjk => ?_)⟩
              by_cases e : j = k
              · subst e; exact H20.out
              · exact A.out j hj (by omega)
            case measure => simp [intOf]; omega
        · obtain rfl : k = n := by omega
          have hltz : ¬ (k : Int) < (k : Int) := by omega
          have hr0 : r = 0 := by
            rw [← HR.out, if_neg]
            rw [HQ.out, Bool.not_eq_true, List.any_eq_false]
            intro f hf
            obtain ⟨j, hj, rfl⟩ := List.getElem_of_mem hf
            have := A.out j hj (by rw [← HN.out]; exact hj)
            simp only [decide_eq_true_eq]
            omega
          have HR0 := hide hr0
          clear hr0
          go_wp2
          go_ret
          exact ⟨by rw [HR0.out]; rfl, rfl⟩

set_option maxRecDepth 100000 in
set_option maxHeartbeats 2000000 in
theorem sameEntries_eq (v1 v2 : Value) (l : List En) (w : World) (h1 : EnAt w v1 l) (h2 : EnAt w v2 l) (hl : l.length ≤ 1000000) :
    Calls Tryz.prog 14 #[v1, v2] w fun e w' => e = .returned (.bool true) ∧ Below w.heap.size w w' := by
  obtain ⟨ad1, cap1, rfl, hc1⟩ := h1.form
  obtain ⟨ad2, cap2, rfl, hc2⟩ := h2.form
  have H1 := hide h1
  have H2 := hide h2
  clear h1 h2
  generalize hn : l.length = n at *
  have HN := hide hn
  clear hn
  go_enter Tryz.func14, Tryz.ntmps14
  go_wp2
  go_loopw [5] (fun i wr => ∃ k q : Nat, k ≤ n ∧ i = .int .i64 k ∧ wr = w.drewN q) (fun i _ => n - (intOf i).toNat)
  case atStart => exact ⟨0, 0, Nat.zero_le _, rfl, rfl⟩
  case round =>
    obtain ⟨k, q, hk, rfl, rfl⟩ := hrel
    by_cases hlt : k < n
    · have hkl : k < l.length := by rw [HN.out]; exact hlt
      have hv1 := H1.out
      have hv2 := H2.out
      rw [← HN.out] at hv1 hv2
      obtain ⟨b1, off1, cap1', e, _, _, _, hcell1⟩ := hv1.at (by omega)
      injection e with e1 e2 e3
      subst e1; subst e3
      obtain ⟨b2, off2, cap2', e, _, _, _, hcell2⟩ := hv2.at (by omega)
      injection e with e1 e2 e3
      subst e1; subst e3
      obtain ⟨x0, x1, x2, x3⟩ := hcell1 k hkl
      obtain ⟨y0, y1, y2, y3⟩ := hcell2 k hkl
      clear hcell1 hcell2 hv1 hv2
      generalize (l[k]'hkl).fl.who = who at *
      generalize (l[k]'hkl).fl.ep = ep at *
      generalize (l[k]'hkl).seq = sq at *
      generalize (l[k]'hkl).time = tm at *
      go_wp2
      go_quiet (fail)
      go_wp2
      go_roundw
      case rel => exact ⟨k + 1, q + nq, by omega, by go_num, rfl⟩
      case measure => simp [intOf]; omega
    · go_wp2
      go_ret
      exact ⟨rfl, below_drewN (Below.refl _ _) _⟩
end Go.Proofs.YtemdnmnbecapbacGreatDoor

namespace Go.Proofs.YtemdnmnbecapbacGreatDoor
open Go.RowKit Go.Extern.Stop Go.Stop Go.Extern Go.Proofs

set_option maxRecDepth 100000 in
set_option maxHeartbeats 4000000 in
theorem since_any (a : Nat → Addr) (v : Value) (l : List En) (seq : Int) (w : World) (h : EV fdS a w) (hv : EnAt w v l) (hs : ∀ e ∈ l, e.fl.who.size ≤ maxLen) (hl : l.length ≤ 1000000) :
    Calls Tryz.prog 12 #[v, .int .i64 seq] w fun e w' => FeedPost a (sinceC l seq) (sinceR l seq) w.heap.size e w' ∧ Below w.heap.size w w' := by
  have HC := hide (fdCheck_any a v l w h hv hs hl)
  have HE := hide h
  have HV := hide hv
  clear h hs
  by_cases h0 : (feedC l).1 = 0
  · have hR : sinceC l seq = (if seq < 0 then (2, -1) else if (l.length : Int) < seq then (15, -1) else (0, -1)) := if_pos h0
    by_cases hneg : seq < 0
    · rw [if_pos hneg] at hR
      have hRR : sinceR l seq = [] := by unfold sinceR; rw [hR]; rfl
      rw [hR, hRR]
      clear hR hRR hv
      generalize feedC l = c at *
      go_enter Tryz.func12, Tryz.ntmps12
      go_wp2_with fail
      refine HC.out.mono ?_
      rintro e w1 ⟨ev, rfl, he, hb⟩
      obtain rfl := he.none h0
      have HB1 := hide hb
      have hvv : w1.cell? ⟨1, 0, none⟩ = some (eV (a 1)) := (HE.out.below hb).var 1 (by decide) rfl
      clear he hb h0
      go_wp2
      go_quiet (fail)
      go_wp2
      go_ret2
      exact ⟨⟨_, _, rfl, OwnE.nil _ _, Or.inr (Or.inl ⟨by decide, rfl, rfl⟩), fun _ => rfl⟩, below_drewN HB1.out _⟩
    · rw [if_neg hneg] at hR
      by_cases hbig : (l.length : Int) < seq
      · rw [if_pos hbig] at hR
        have hRR : sinceR l seq = [] := by unfold sinceR; rw [hR]; rfl
        rw [hR, hRR]
        obtain ⟨ad, cap, rfl, hcap⟩ := hv.form
        clear hR hRR hv
        generalize feedC l = c at *
        generalize l.length = n at *
        go_enter Tryz.func12, Tryz.ntmps12
        go_wp2_with fail
        refine HC.out.mono ?_
        rintro e w1 ⟨ev, rfl, he, hb⟩
        obtain rfl := he.none h0
        have HB1 := hide hb
        have hvv : w1.cell? ⟨2, 0, none⟩ = some (eV (a 14)) := (HE.out.below hb).var 14 (by decide) rfl
        clear he hb h0
        go_wp2
        go_quiet (fail)
        go_wp2
        go_ret2
        exact ⟨⟨_, _, rfl, OwnE.nil _ _, Or.inr (Or.inl ⟨by decide, rfl, rfl⟩), fun _ => rfl⟩, below_drewN HB1.out _⟩
      · rw [if_neg hbig] at hR
        obtain ⟨k, rfl⟩ : ∃ k : Nat, seq = (k : Int) := ⟨seq.toNat, by omega⟩
        have hRR : sinceR l (k : Int) = l.drop k := by unfold sinceR; rw [hR]; rfl
        rw [hR, hRR]
        have hkl : k ≤ l.length := by omega
        have HCl := hide (fun v w h => cloneE_any v (l.drop k) w h (by rw [List.length_drop]; omega))
        have HD : Hid (∀ w b off cap, l.length ≤ cap → (∀ j u, (cellsE l)[j]? = some u → w.cell? ⟨b, off + j, none⟩ = some u) → EnAt w (.slice (some ⟨b, off + k * 4, none⟩) (l.length - k) (cap - k)) (l.drop k)) := fun w b off cap h2 h3 => EnAt.drop h3 k _ _ rfl (by omega)
        by_cases hn : 0 < l.length
        · obtain ⟨b, off, cap, rfl, hcap, hbl, hcell, hrest⟩ := hv.at hn
          clear hrest
          have HCe := hide hcell
          have HBl := hide hbl
          have HNil : Hid (l.length ≤ k → ∀ w ad c, EnAt w (.slice ad 0 c) (l.drop k)) := fun h w ad c => Or.inl ⟨ad, c, rfl, List.drop_of_length_le h⟩
          clear hR hRR hv hcell hbl
          generalize feedC l = c at *
          generalize hnn : l.length = n at *
          have HN := hide hnn
          clear hnn
          by_cases hkc : k < cap
          · go_enter Tryz.func12, Tryz.ntmps12
            go_wp2_with fail
            refine HC.out.mono ?_
            rintro e w1 ⟨ev, rfl, he, hb⟩
            obtain rfl := he.none h0
            have HB1 := hide hb
            have HD1 := hide (HD.out w1 b off cap hcap (fun j u hu => (hb.cell (p := ⟨b, off + j, none⟩) HBl.out).trans (HCe.out j u hu)))
            clear he hb h0 HD HCe
            go_wp2_with fail
            refine (HCl.out _ _ HD1.out).mono ?_
            rintro e w2 ⟨v2, rfl, hown, hb⟩
            have HB2 : Hid (Below w.heap.size w w2) := HB1.out.trans (hb.mono HB1.out.size)
            have HO2 := hide hown
            clear hown hb
            go_wp2
            go_ret2
            exact ⟨⟨_, _, rfl, OwnE.less HO2.out HB1.out.size, Or.inl ⟨rfl, rfl⟩, fun h => absurd rfl h⟩, HB2.out⟩
          · obtain rfl : cap = k := by omega
            obtain rfl : n = cap := by omega
            have HNi2 := hide (HNil.out (Nat.le_refl _))
            go_enter Tryz.func12, Tryz.ntmps12
            go_wp2_with fail
            refine HC.out.mono ?_
            rintro e w1 ⟨ev, rfl, he, hb⟩
            obtain rfl := he.none h0
            have HB1 := hide hb
            clear he hb h0 HD HCe HNil
            go_wp2_with fail
            try rw [Nat.sub_self]
            refine (HCl.out _ _ (HNi2.out _ _ _)).mono ?_
            rintro e w2 ⟨v2, rfl, hown, hb⟩
            have HB2 : Hid (Below w.heap.size w w2) := HB1.out.trans (hb.mono HB1.out.size)
            have HO2 := hide hown
            clear hown hb
            go_wp2
            go_ret2
            exact ⟨⟨_, _, rfl, OwnE.less HO2.out HB1.out.size, Or.inl ⟨rfl, rfl⟩, fun h => absurd rfl h⟩, HB2.out⟩
        · obtain rfl : l = [] := List.length_eq_zero_iff.1 (by omega)
          obtain rfl : k = 0 := by simpa using hkl
          obtain ⟨ad, cap, rfl, hcap⟩ := hv.form
          have HD2 : Hid (∀ w ad cap, EnAt w (.slice ad 0 cap) (([] : List En).drop 0)) := fun w ad cap => Or.inl ⟨ad, cap, rfl, rfl⟩
          clear hR hRR hv HD hkl hn hneg hbig
          generalize feedC [] = c at *
          show Calls Tryz.prog 12 #[.slice ad 0 cap, .int .i64 0] w _
          cases ad with
          | none =>
            go_enter Tryz.func12, Tryz.ntmps12
            go_wp2_with fail
            refine HC.out.mono ?_
            rintro e w1 ⟨ev, rfl, he, hb⟩
            obtain rfl := he.none h0
            have HB1 := hide hb
            clear he hb h0
            go_wp2_with fail
            refine (HCl.out _ _ (HD2.out _ _ _)).mono ?_
            rintro e w2 ⟨v2, rfl, hown, hb⟩
            have HB2 : Hid (Below w.heap.size w w2) := HB1.out.trans (hb.mono HB1.out.size)
            have HO2 := hide hown
            clear hown hb
            go_wp2
            go_ret2
            exact ⟨⟨_, _, rfl, OwnE.less HO2.out HB1.out.size, Or.inl ⟨rfl, rfl⟩, fun h => absurd rfl h⟩, HB2.out⟩
          | some ad =>
            go_enter Tryz.func12, Tryz.ntmps12
            go_wp2_with fail
            refine HC.out.mono ?_
            rintro e w1 ⟨ev, rfl, he, hb⟩
            obtain rfl := he.none h0
            have HB1 := hide hb
            clear he hb h0
            go_wp2_with fail
            refine (HCl.out _ _ (HD2.out _ _ _)).mono ?_
            rintro e w2 ⟨v2, rfl, hown, hb⟩
            have HB2 : Hid (Below w.heap.size w w2) := HB1.out.trans (hb.mono HB1.out.size)
            have HO2 := hide hown
            clear hown hb
            go_wp2
            go_ret2
            exact ⟨⟨_, _, rfl, OwnE.less HO2.out HB1.out.size, Or.inl ⟨rfl, rfl⟩, fun h => absurd rfl h⟩, HB2.out⟩
  · have hR : sinceC l seq = feedC l := if_neg h0
    have hRR : sinceR l seq = [] := by unfold sinceR; rw [hR, if_neg h0]
    rw [hR, hRR]
    clear hR hRR hv
    generalize feedC l = c at *
    have HH := hide h0
    go_enter Tryz.func12, Tryz.ntmps12
    go_wp2_with fail
    refine HC.out.mono ?_
    rintro e w1 ⟨ev, rfl, he, hb⟩
    have HEr := hide he
    have HB1 := hide hb
    rcases he.cases with ⟨e0, _⟩ | ⟨_, tt, pp, rfl⟩
    · exact absurd e0 HH.out
    · clear he hb h0
      go_wp2
      go_ret2
      exact ⟨⟨_, _, rfl, OwnE.nil _ _, HEr.out, fun _ => rfl⟩, HB1.out⟩

/-- What Floors gives: a list of floors in memory of one's own, and an error. -/
theorem small_fls : ∀ (l : List En) (x b : List Fl), (∀ e ∈ l, e.fl.who.size ≤ maxLen) → (∀ f ∈ x, f.who.size ≤ maxLen) → l.foldl stepO (some x) = some b → ∀ f ∈ b, f.who.size ≤ maxLen
  | [], x, b, _, h2, h => by
    obtain rfl : x = b := Option.some.inj h
    exact h2
  | e :: l, x, b, h1, h2, h => by
    by_cases h0 : (raiseC x e.fl).1 = 0
    · refine small_fls l (raisedL x e.fl) b (fun e' he' => h1 e' (by simp [he'])) (small_raised h2 (h1 e (by simp))) ?_
      rw [← h, List.foldl_cons, show stepO (some x) e = some (raisedL x e.fl) from if_pos h0]
    · exfalso
      rw [List.foldl_cons, show stepO (some x) e = none from if_neg h0, step_none] at h
      cases h
theorem small_floors {l : List En} (hs : ∀ e ∈ l, e.fl.who.size ≤ maxLen) : ∀ f ∈ floorsR l, f.who.size ≤ maxLen := by
  by_cases h : (floorsC l).1 = 0
  · exact small_fls l [] _ hs (fun f hf => by cases hf) (floors_zero h).2
  · have : floorsR l = [] := if_neg h
    rw [this]
    intro f hf; cases hf

set_option maxRecDepth 100000 in
set_option maxHeartbeats 4000000 in
theorem floors_any (a : Nat → Addr) (v : Value) (l : List En) (w : World) (h : EV fdS a w) (hv : EnAt w v l) (hs : ∀ e ∈ l, e.fl.who.size ≤ maxLen) (hl : l.length ≤ 1000000) :
    Calls Tryz.prog 8 #[v] w fun e w' => ListPost a (floorsC l) (floorsR l) w.heap.size e w' ∧ Below w.heap.size w w' := by
  have HC := hide (fdCheck_any a v l w h hv hs hl)
  have HE := hide h
  have HV := hide hv
  have HS := hide hs
  clear h hs
  by_cases h0 : (feedC l).1 = 0
  · have HOne := hide (feed_one h0)
    have HNo := hide (fun h2 => floors_none h0 h2)
    have HYes := hide (fun b h2 => floors_some (b := b) h0 h2)
    have HBad : Hid ((floorsC l).1 ≠ 0 → floorsR l = []) := fun h => if_neg h
    obtain ⟨ad, cap, rfl, hcap⟩ := hv.form
    generalize hc : feedC l = c at *
    generalize hn : l.length = n at *
    have HN := hide hn
    clear hv hn hc
    generalize floorsC l = fc at *
    generalize floorsR l = fr at *
    go_enter Tryz.func8, Tryz.ntmps8
    go_wp2_with fail
    refine HC.out.mono ?_
    rintro e w1 ⟨ev, rfl, he, hb⟩
    obtain rfl := he.none h0
    have HB1 := hide hb
    clear he hb h0
    go_wp2
    go_loopg [5, 7, 8, 9, 17] n (fun gg s5 _ _ _ s17 wr => ∃ k : Nat, k ≤ n ∧ n - k ≤ gg ∧ s17 = .int .i64 k ∧ Hid (Below w.heap.size w wr) ∧ ∃ x, Hid (flsO (l.take k) = some x) ∧ Hid (OwnF wr w.heap.size s5 x))
    case atStart => exact ⟨0, Nat.zero_le _, by omega, rfl, HB1.out, [], rfl, OwnF.nil _ _⟩
    case round =>
      clear HB1
      obtain ⟨k, hk, hgg, rfl, HB, x, HX, HO⟩ := hrel
      by_cases hlt : k < n
      · have hltz : (k : Int) < (n : Int) := by omega
        have hkl : k < l.length := by rw [HN.out]; exact hlt
        have hvr := HV.out.below HB.out
        rw [← HN.out] at hvr
        obtain ⟨b, off, cap', e, hc', hb, _, hcell⟩ := hvr.at (by omega)
        injection e with e1 e2 e3
        subst e1; subst e3
        obtain ⟨c0, c1, c2, c3⟩ := hcell k hkl
        obtain ⟨hr, hx21⟩ := fls_ok HX.out
        have hx1 := small_fls (l.take k) [] x (fun e he => HS.out e (List.mem_of_mem_take he)) (fun f hf => by cases hf) HX.out
        have hfs : (l[k]).fl.who.size ≤ maxLen := HS.out _ (List.getElem_mem _)
        have HRc := hide (raiseC_right hr hx21 (HOne.out _ (List.getElem_mem hkl)))
        have HBa : Hid (Below w.heap.size w (wr.alloc (.cells #[.int .i64 l[k].seq, .int .i64 l[k].time, .string l[k].fl.who, .int .i64 l[k].fl.ep] 64))) := HB.out.alloc HB.out.size _
        have HRa := hide (raise_any a u5 x l[k].fl (wr.alloc (.cells #[.int .i64 l[k].seq, .int .i64 l[k].time, .string l[k].fl.who, .int .i64 l[k].fl.ep] 64)) (HE.out.below HBa.out).fl (HO.out.flAt.below ((Below.refl _ _).alloc (Nat.le_refl _) _)) hx1 hfs (by omega))
        unfold Fl.val at HRa
        have HSt : Hid (flsO (l.take (k + 1)) = if (raiseC x l[k].fl).1 = 0 then some (raisedL x l[k].fl) else none) := by
          show _ = _
          rw [fls_take l k hkl, HX.out]
          rfl
        have HZ : Hid ((raiseC x l[k].fl).1 = 0 → raiseR x l[k].fl = raisedL x l[k].fl) := fun h => (raiseC_zero h).2.2.2.2.2
        have HCut := hide (fls_cut l (k + 1))
        clear hcell hvr hr hx21 hx1 hfs
        generalize raiseC x l[k].fl = rc at *
        generalize raiseR x l[k].fl = rr at *
        generalize raisedL x l[k].fl = rd at *
        generalize l[k].seq = sq at *
        generalize l[k].time = tm at *
        generalize l[k].fl.who = who at *
        generalize l[k].fl.ep = ep at *
        go_wp2_with fail
        refine HRa.out.mono ?_
        rintro e w4 ⟨⟨v4, ev4, rfl, hown, herr, hnil⟩, hb4⟩
        have HB4 : Hid (Below w.heap.size w w4) := HBa.out.trans (hb4.mono HBa.out.size)
        have HEr := hide herr
        rcases herr.cases with ⟨z0, rfl⟩ | ⟨z0, tt, pp, rfl⟩
        · have HO4 : Hid (OwnF w4 w.heap.size v4 rd) := by
            rw [HZ.out z0] at hown
            exact OwnF.less hown HBa.out.size
          have HX4 : Hid (flsO (l.take (k + 1)) = some rd) := by show _ = _; rw [HSt.out, if_pos z0]
          clear hown herr hnil hb4 z0 HRa HEr HRc HSt HZ HCut
          go_wp2
          go_roundg (n - (k + 1))
          case measure => omega
          case rel => exact ⟨k + 1, by omega, by omega, by go_num, HB4, rd, HX4, HO4⟩
        · have hfc : fc = (7, -1) := HNo.out (HCut.out (by rw [HSt.out, if_neg z0]))
          have hrc : rc = (7, -1) := by
            have := HRc.out
            split at this
            · exact this
            · rw [this] at z0; exact absurd rfl z0
          have HFr := hide (HBad.out (by rw [hfc]; decide))
          have HFc := hide hfc
          have HBr := hide (fdBare_any a rc (.iface tt pp) w4 HEr.out)
          rw [hrc, show errV a (7, (-1 : Int)).1 = eV (a 6) from rfl] at HBr
          clear hown herr hnil hb4 z0 HRa HEr HRc HSt HZ HCut hfc hrc
          go_wp2_with fail
          refine HBr.out.mono ?_
          rintro e w5 ⟨rfl, rfl⟩
          go_wp2
          go_ret2
          exact ⟨⟨_, _, rfl, by rw [HFr.out]; exact OwnF.nil _ _, by rw [HFc.out]; exact Or.inr (Or.inl ⟨by decide, rfl, rfl⟩), fun _ => rfl⟩, HB4.out⟩
      · obtain rfl : k = n := by omega
        have hltz : ¬ (k : Int) < (k : Int) := by omega
        have hx : flsO l = some x := by
          have := HX.out
          rwa [List.take_of_length_le (Nat.le_of_eq HN.out)] at this
        have HY := hide (HYes.out x hx)
        clear hx
        go_wp2
        go_ret2
        exact ⟨⟨_, _, rfl, by rw [HY.out.2]; exact HO.out, by rw [HY.out.1]; exact Or.inl ⟨rfl, rfl⟩, fun h => absurd (by rw [HY.out.1]) h⟩, HB.out⟩
  · have hR : floorsC l = feedC l := if_neg h0
    have hRR : floorsR l = [] := by unfold floorsR; rw [hR, if_neg h0]
    rw [hR, hRR]
    clear hR hRR hv
    generalize feedC l = c at *
    have HH := hide h0
    go_enter Tryz.func8, Tryz.ntmps8
    go_wp2_with fail
    refine HC.out.mono ?_
    rintro e w1 ⟨ev, rfl, he, hb⟩
    have HEr := hide he
    have HB1 := hide hb
    rcases he.cases with ⟨e0, _⟩ | ⟨_, tt, pp, rfl⟩
    · exact absurd e0 HH.out
    · clear he hb h0
      go_wp2
      go_ret2
      exact ⟨⟨_, _, rfl, OwnF.nil _ _, HEr.out, fun _ => rfl⟩, HB1.out⟩
end Go.Proofs.YtemdnmnbecapbacGreatDoor

namespace Go.Proofs.YtemdnmnbecapbacGreatDoor
open Go.RowKit Go.Extern.Stop Go.Stop Go.Extern Go.Proofs

theorem small_add {l : List En} {time : Int} {f : Fl} (hs : ∀ e ∈ l, e.fl.who.size ≤ maxLen) (hf : f.who.size ≤ maxLen) : ∀ e ∈ addL l time f, e.fl.who.size ≤ maxLen := by
  intro e he
  unfold addL at he
  rcases List.mem_append.1 he with g | g
  · exact hs e g
  · rw [List.mem_singleton.1 g]; exact hf
theorem own_add {w : World} {B : Nat} {v : Value} {l : List En} {time : Int} {f : Fl} {n : Nat} (hn : l.length = n) (h : w.ownsRow B 64 4 v (n + 1) (cellsE l ++ [.int .i64 ((n : Int) + 1), .int .i64 time, .string f.who, .int .i64 f.ep])) : OwnE w B v (addL l time f) := by
  show w.ownsRow B _ 4 v (addL l time f).length (cellsE (addL l time f))
  rw [addL_len, hn]
  unfold addL
  rw [cellsE_append, hn]
  exact h

set_option maxRecDepth 100000 in
set_option maxHeartbeats 8000000 in
theorem fdAdd_any (a : Nat → Addr) (v : Value) (l : List En) (time : Int) (f : Fl) (w : World) (h : EV fdS a w) (hv : EnAt w v l) (hs : ∀ e ∈ l, e.fl.who.size ≤ maxLen) (hfs : f.who.size ≤ maxLen) (hl : l.length ≤ 100000) :
    Calls Tryz.prog 15 #[v, .int .i64 time, f.val] w fun e w' => FeedPost a (addC l time f) (addR l time f) w.heap.size e w' ∧ Below w.heap.size w w' := by
  have HB0 : Hid (Below w.heap.size w (w.alloc (.cells #[.string f.who, .int .i64 f.ep] 24))) := (Below.refl _ _).alloc (Nat.le_refl _) _
  have HC0 : Hid ((w.alloc (.cells #[.string f.who, .int .i64 f.ep] 24)).heap[w.heap.size]? = some (.cells #[.string f.who, .int .i64 f.ep] 24 (0, 0))) := heap_alloc_new _ _
  have HC := hide (fun w h hv => fdCheck_any a v l w h hv hs (by omega))
  have HC2 := hide (fun v w h hv => fdCheck_any a v (addL l time f) w h hv (small_add hs hfs) (by rw [addL_len]; omega))
  have HCl := hide (fun w h => cloneE_any v l w h (by omega))
  have HE := hide h
  have HV := hide hv
  obtain ⟨i0, hi, hz0, hz1, hz2⟩ := info_parts Tryz.infoEntry
  unfold Fl.val
  obtain ⟨ad, cap, rfl, hcap⟩ := hv.form
  by_cases h0 : (feedC l).1 = 0
  · have hR : addC l time f = (newE l time f, -1) := if_pos h0
    have hRR : addR l time f = if newE l time f = 0 then addL l time f else [] := by unfold addR; rw [hR]
    have hF := feed_add h0 time f
    rw [hR, hRR]
    have HOw : Hid (∀ {w : World} {B : Nat} {v : Value}, w.ownsRow B 64 4 v (l.length + 1) (cellsE l ++ [.int .i64 ((l.length : Int) + 1), .int .i64 time, .string f.who, .int .i64 f.ep]) → OwnE w B v (addL l time f)) := fun h => own_add rfl h
    have HF := hide hF
    clear hR hRR h hv hs hfs hF
    generalize newE l time f = ne at *
    generalize addL l time f = al at *
    generalize feedC al = c2 at *
    generalize feedC l = c at *
    generalize hn : l.length = n at *
    have HN := hide hn
    generalize f.who = who at *
    generalize f.ep = ep at *
    clear hn
    go_enter Tryz.func15, Tryz.ntmps15
    go_wp2_with fail
    refine (HC.out _ (HE.out.below HB0.out) (HV.out.below HB0.out)).mono ?_
    rintro e w1 ⟨ev, rfl, he, hb⟩
    obtain rfl := he.none h0
    have HB1 : Hid (Below w.heap.size w w1) := HB0.out.trans (hb.mono HB0.out.size)
    have HRo1 : Hid (w1.heap[w.heap.size]? = some (.cells #[.string who, .int .i64 ep] 24 (0, 0))) := by show _ = _; rw [hb.block _ (by simp)]; exact HC0.out
    have HLt : Hid (w.heap.size < w1.heap.size) := row_lt HRo1.out
    have hc0 : w1.cell? ⟨w.heap.size, 0, none⟩ = some (.string who) := cell_of_row w1 _ 0 _ _ _ HRo1.out
    have hc1 : w1.cell? ⟨w.heap.size, 1, none⟩ = some (.int .i64 ep) := cell_of_row w1 _ 1 _ _ _ HRo1.out
    have HEA : Hid (EnAt w1.drew (.slice ad n cap) l) := HV.out.below HB1.out.drew
    have HBA : Hid (Below w.heap.size w w1.drew) := HB1.out.drew
    have HBB : Hid (Below w.heap.size w (w1.alloc (.cells #[.int .i64 ((n : Int) + 1), .int .i64 time, .string who, .int .i64 ep] 64)).drew) := (HB1.out.alloc HB1.out.size _).drew
    have HEB : Hid (EnAt (w1.alloc (.cells #[.int .i64 ((n : Int) + 1), .int .i64 time, .string who, .int .i64 ep] 64)).drew (.slice ad n cap) l) := HV.out.below HBB.out
    have HRB : Hid ((w1.alloc (.cells #[.int .i64 ((n : Int) + 1), .int .i64 time, .string who, .int .i64 ep] 64)).drew.heap[w1.heap.size]? = some (.cells #[.int .i64 ((n : Int) + 1), .int .i64 time, .string who, .int .i64 ep] 64 (0, 0))) := heap_alloc_new _ _
    have hw1 : IntKind.i64.wrap ((n : Int) + 1) = (n : Int) + 1 := by rw [IntKind.wrap_i64]; omega
    clear he hb h0 HC0 HB0 HC
    go_wp2_with fail
    have HRoB : Hid ((w1.alloc (.cells #[.int .i64 ((n : Int) + 1), .int .i64 time, .string who, .int .i64 ep] 64)).drew.heap[w.heap.size]? = some (.cells #[.string who, .int .i64 ep] 24 (0, 0))) := (heap_alloc_old w1 (.cells #[.int .i64 ((n : Int) + 1), .int .i64 time, .string who, .int .i64 ep] 64) HLt.out).trans HRo1.out
    have HLtB : Hid (w.heap.size < (w1.alloc (.cells #[.int .i64 ((n : Int) + 1), .int .i64 time, .string who, .int .i64 ep] 64)).drew.heap.size) := row_lt HRoB.out
    have HLe : Hid (w1.heap.size ≤ (w1.alloc (.cells #[.int .i64 ((n : Int) + 1), .int .i64 time, .string who, .int .i64 ep] 64)).drew.heap.size) := Nat.le_of_lt (row_lt HRB.out)
    go_region_held3 (fun w' => w'.cell? ⟨w.heap.size, 0, none⟩ = some (.string who) ∧ w'.cell? ⟨w.heap.size, 1, none⟩ = some (.int .i64 ep)) (first | go_keep | assumption | (go_split_ands; refine ⟨?_, ?_⟩ <;> assumption))
      (first
        | (go_at_call 37; refine (HCl.out _ HEA.out).mono ?_; rintro e w6 ⟨v6, rfl, hown, hb⟩; have HB6 : Hid (Below w.heap.size w w6) := HBA.out.trans (hb.mono HBA.out.size); have HO6 : Hid (w6.ownsRow w1.heap.size 64 4 v6 n (cellsE l)) := (by show World.ownsRow _ _ _ _ _ _ _; rw [← HN.out]; exact hown); have HG6 : Hid (w1.heap.size ≤ w6.heap.size) := hb.size; have HW6 : Hid (w6.heap[w.heap.size]? = some (.cells #[.string who, .int .i64 ep] 24 (0, 0))) := (hb.block _ HLt.out).trans HRo1.out; have e1 : w6.cell? ⟨w.heap.size, 0, none⟩ = some (.string who) := cell_of_row w6 _ 0 _ _ _ HW6.out; have e2 : w6.cell? ⟨w.heap.size, 1, none⟩ = some (.int .i64 ep) := cell_of_row w6 _ 1 _ _ _ HW6.out; clear hown hb)
        | (go_at_call 37; refine (HCl.out _ HEB.out).mono ?_; rintro e w6 ⟨v6, rfl, hown, hb⟩; have HB6 : Hid (Below w.heap.size w w6) := HBB.out.trans (hb.mono HBB.out.size); have HO6 : Hid (w6.ownsRow w1.heap.size 64 4 v6 n (cellsE l)) := (by show World.ownsRow _ _ _ _ _ _ _; rw [← HN.out]; exact OwnE.less hown HLe.out); have HG6 : Hid (w1.heap.size ≤ w6.heap.size) := Nat.le_trans HLe.out hb.size; have HW6 : Hid (w6.heap[w.heap.size]? = some (.cells #[.string who, .int .i64 ep] 24 (0, 0))) := (hb.block _ HLtB.out).trans HRoB.out; have HS6 : Hid (w6.heap[w1.heap.size]? = some (.cells #[.int .i64 ((n : Int) + 1), .int .i64 time, .string who, .int .i64 ep] 64 (0, 0))) := (hb.block _ (row_lt HRB.out)).trans HRB.out; have e1 : w6.cell? ⟨w.heap.size, 0, none⟩ = some (.string who) := cell_of_row w6 _ 0 _ _ _ HW6.out; have e2 : w6.cell? ⟨w.heap.size, 1, none⟩ = some (.int .i64 ep) := cell_of_row w6 _ 1 _ _ _ HW6.out; clear hown hb)
        | (refine step_append_lies _ (by rfl) _ _ _ (by rfl) w1.heap.size 64 i0 _ 4 40 Tryz.underlying22 hi hz0 hz1 hz2 rfl (by omega) v6 n (cellsE l) (by rfl) (HO6.out.alloc _) ⟨w6.heap.size, 0, none⟩ 1 1 [.int .i64 ((n : Int) + 1), .int .i64 time, .string who, .int .i64 ep] (by rfl) (by rfl) (World.news_of_block (cs := #[.int .i64 ((n : Int) + 1), .int .i64 time, .string who, .int .i64 ep]) (t := 64) (fr := (0, 0)) (heap_alloc_new w6 _)) (by simp [Value.oneCell']) (by omega) (by unfold maxLen; omega) (by omega) (Nat.le_trans HG6.out (by simp)) (w6.heap.size + 1) (by simp) ?_; intro gg cp w7 hown1 hgrow hat hlt; have HB7 : Hid (Below w.heap.size w w7) := (HB6.out.alloc HB6.out.size _).grown hgrow (Nat.le_trans HB6.out.size (by simp)) (fun q hq => Nat.le_trans HB1.out.size (HO6.out.lt q hq).1); have HO7 := hide (HOw.out hown1); have hne : v6.ownBlock ≠ some w.heap.size := (fun e => absurd (HO6.out.lt _ e).1 (Nat.not_le.2 HLt.out)); have e3 : w7.cell? ⟨w.heap.size, 0, none⟩ = some (.string who) := (hgrow.cell_far ⟨w.heap.size, 0, none⟩ (Nat.lt_of_lt_of_le HLt.out (Nat.le_trans HG6.out (by simp))) (Ne.symm hne)).trans (((Below.refl _ w6).alloc (Nat.le_refl _) _).cell (p := ⟨w.heap.size, 0, none⟩) (row_lt HW6.out) |>.trans e1); have e4 : w7.cell? ⟨w.heap.size, 1, none⟩ = some (.int .i64 ep) := (hgrow.cell_far ⟨w.heap.size, 1, none⟩ (Nat.lt_of_lt_of_le HLt.out (Nat.le_trans HG6.out (by simp))) (Ne.symm hne)).trans (((Below.refl _ w6).alloc (Nat.le_refl _) _).cell (p := ⟨w.heap.size, 1, none⟩) (row_lt HW6.out) |>.trans e2); clear hne hown1 hgrow hat hlt)
        | (refine step_append_lies _ (by rfl) _ _ _ (by rfl) w1.heap.size 64 i0 _ 4 40 Tryz.underlying22 hi hz0 hz1 hz2 rfl (by omega) v6 n (cellsE l) (by rfl) HO6.out ⟨w1.heap.size, 0, none⟩ 1 1 [.int .i64 ((n : Int) + 1), .int .i64 time, .string who, .int .i64 ep] (by rfl) (by rfl) (World.news_of_block (cs := #[.int .i64 ((n : Int) + 1), .int .i64 time, .string who, .int .i64 ep]) (t := 64) (fr := (0, 0)) HS6.out) (by simp [Value.oneCell']) (by omega) (by unfold maxLen; omega) (by omega) HG6.out w6.heap.size rfl ?_; intro gg cp w7 hown1 hgrow hat hlt; have HB7 : Hid (Below w.heap.size w w7) := HB6.out.grown hgrow HB6.out.size (fun q hq => Nat.le_trans HB1.out.size (HO6.out.lt q hq).1); have HO7 := hide (HOw.out hown1); have hne : v6.ownBlock ≠ some w.heap.size := (fun e => absurd (HO6.out.lt _ e).1 (Nat.not_le.2 HLt.out)); have e3 : w7.cell? ⟨w.heap.size, 0, none⟩ = some (.string who) := (hgrow.cell_far ⟨w.heap.size, 0, none⟩ (row_lt HW6.out) (Ne.symm hne)).trans e1; have e4 : w7.cell? ⟨w.heap.size, 1, none⟩ = some (.int .i64 ep) := (hgrow.cell_far ⟨w.heap.size, 1, none⟩ (row_lt HW6.out) (Ne.symm hne)).trans e2; clear hne hown1 hgrow hat hlt))
    all_goals
      clear e1 e2 e3 e4 HO6 HB6 HG6 HW6 HRB HRoB HLe HLtB HEA HEB HBA HBB hc0 hc1 HRo1 HOw HCl
      have HE7 := hide (HE.out.below HB7.out)
      go_wp2_with fail
      refine (HC2.out _ _ HE7.out HO7.out.enAt).mono ?_
      rintro e w8 ⟨ev, rfl, he, hb⟩
      have HB8 : Hid (Below w.heap.size w w8) := HB7.out.trans (hb.mono HB7.out.size)
      have HO8 := hide (OwnE.below (OwnE.less HO7.out HB1.out.size) hb)
      have HEr := hide he
      clear HE7 HC2 HE
      rcases he.cases with ⟨z0, rfl⟩ | ⟨z0, tt, pp, rfl⟩
      · have HNz : Hid (ne = 0) := HF.out.symm.trans z0
        clear he hb z0
        go_wp2
        go_ret2
        exact ⟨⟨_, _, rfl, by first | exact HO8.out | (rw [if_pos HNz.out]; exact HO8.out), Or.inl ⟨by first | rfl | exact HNz.out, rfl⟩, fun h => absurd (by first | rfl | exact HNz.out) h⟩, HB8.out⟩
      · have HNz : Hid (ne ≠ 0) := fun e => z0 (HF.out.trans e)
        have HBr := hide (fdBare_any a c2 (.iface tt pp) w8 HEr.out)
        rw [HF.out, errV_pos a HNz.out] at HBr
        clear he hb z0
        generalize hea : a (ne - 1) = ea at HBr
        have HEa := hide hea
        clear hea
        go_wp2_with fail
        refine HBr.out.mono ?_
        rintro e w9 ⟨rfl, rfl⟩
        go_wp2
        go_ret2
        exact ⟨⟨_, _, rfl, by first | exact OwnE.nil _ _ | (rw [if_neg HNz.out]; exact OwnE.nil _ _), Or.inr (Or.inl ⟨HNz.out, rfl, by rw [HEa.out]; rfl⟩), fun _ => rfl⟩, HB8.out⟩
  · have hR : addC l time f = feedC l := if_neg h0
    have hRR : addR l time f = [] := by unfold addR; rw [hR, if_neg h0]
    rw [hR, hRR]
    clear hR hRR hv hs hfs h HC2 HCl
    generalize feedC l = c at *
    generalize f.who = who at *
    generalize f.ep = ep at *
    have HH := hide h0
    go_enter Tryz.func15, Tryz.ntmps15
    go_wp2_with fail
    refine (HC.out _ (HE.out.below HB0.out) (HV.out.below HB0.out)).mono ?_
    rintro e w1 ⟨ev, rfl, he, hb⟩
    have HEr := hide he
    have HB1 : Hid (Below w.heap.size w w1) := HB0.out.trans (hb.mono HB0.out.size)
    rcases he.cases with ⟨e0, _⟩ | ⟨_, tt, pp, rfl⟩
    · exact absurd e0 HH.out
    · clear he hb h0
      go_wp2
      go_ret2
      exact ⟨⟨_, _, rfl, OwnE.nil _ _, HEr.out, fun _ => rfl⟩, HB1.out⟩
end Go.Proofs.YtemdnmnbecapbacGreatDoor

namespace Go.Proofs.YtemdnmnbecapbacGreatDoor
open Go

/-- Bytes as a text. -/
abbrev txt (l : List UInt8) : ByteArray := ⟨l.toArray⟩
theorem txt_list (l : List UInt8) : (txt l).data.toList = l := rfl
theorem txt_back (s : ByteArray) : txt s.data.toList = s := rfl
theorem txt_size (l : List UInt8) : (txt l).size = l.length := by
  show l.toArray.size = _
  simp

/-- Pieces between a byte. -/
def cutB (c : UInt8) : List UInt8 → List (List UInt8)
  | [] => [[]]
  | b :: l => if b = c then [] :: cutB c l else (b :: (cutB c l).headD []) :: (cutB c l).tail
theorem cutB_ne (c : UInt8) : ∀ l, cutB c l ≠ []
  | [] => by simp [cutB]
  | b :: l => by unfold cutB; split <;> simp
theorem cutB_cut (c : UInt8) (t : List UInt8) : ∀ a, cutB c (a ++ c :: t) = cutB c a ++ cutB c t
  | [] => by simp [cutB]
  | b :: a => by
    rw [List.cons_append]
    by_cases h : b = c
    · simp only [cutB, if_pos h, cutB_cut c t a, List.cons_append]
    · simp only [cutB, if_neg h, cutB_cut c t a, List.cons_append]
      rw [Sl.headD_append _ _ _ (cutB_ne c a), Sl.tail_append _ _ (cutB_ne c a)]
theorem cutB_plain (c : UInt8) : ∀ l : List UInt8, c ∉ l → cutB c l = [l]
  | [], _ => rfl
  | b :: l, h => by
    have hb : b ≠ c := fun e => h (by simp [e])
    simp only [cutB, if_neg hb, cutB_plain c l (fun e => h (by simp [e]))]
    rfl
theorem cutB_snoc (c b : UInt8) (hb : b ≠ c) : ∀ (a : List UInt8) (o : List (List UInt8)) (l : List UInt8), cutB c a = o ++ [l] → cutB c (a ++ [b]) = o ++ [l ++ [b]]
  | [], o, l, h => by
    have : o = [] ∧ l = [] := by
      cases o with
      | nil => simp [cutB] at h; exact ⟨rfl, h⟩
      | cons x o => simp [cutB] at h
    obtain ⟨rfl, rfl⟩ := this
    simp [cutB, hb]
  | e :: a, o, l, h => by
    rw [List.cons_append]
    obtain ⟨o', l', hp⟩ : ∃ o' l', cutB c a = o' ++ [l'] := ⟨(cutB c a).dropLast, (cutB c a).getLast (cutB_ne c a), (List.dropLast_concat_getLast (cutB_ne c a)).symm⟩
    have ih := cutB_snoc c b hb a o' l' hp
    by_cases he : e = c
    · simp only [cutB, if_pos he, hp, ih] at h ⊢
      have h2 : ([] :: o') ++ [l'] = o ++ [l] := by simpa using h
      obtain ⟨rfl, e⟩ := List.append_inj' h2 rfl
      injection e with e
      subst e
      rfl
    · simp only [cutB, if_neg he, hp, ih] at h ⊢
      cases o' with
      | nil =>
        simp only [List.nil_append, List.headD_cons, List.tail_cons] at h ⊢
        cases o with
        | nil => simp at h; subst h; simp
        | cons x o => simp at h
      | cons x o' =>
        simp only [List.cons_append, List.headD_cons, List.tail_cons] at h ⊢
        have h2 : ((e :: x) :: o') ++ [l'] = o ++ [l] := by simpa using h
        obtain ⟨rfl, e2⟩ := List.append_inj' h2 rfl
        injection e2 with e2
        subst e2
        rfl
theorem cutB_len (c : UInt8) : ∀ l, (cutB c l).length ≤ l.length + 1
  | [] => by simp [cutB]
  | b :: l => by
    have := cutB_len c l
    by_cases h : b = c
    · simp only [cutB, if_pos h, List.length_cons]; omega
    · simp only [cutB, if_neg h, List.length_cons, List.length_tail]; omega
theorem join_cons2c (c : UInt8) (x : List UInt8) (r : List (List UInt8)) (hr : r ≠ []) : Lib.join (x :: r) [c] = x ++ c :: Lib.join r [c] := by
  cases r with
  | nil => exact absurd rfl hr
  | cons y r => rw [Lib.join_cons, Lib.join_cons]; simp [Lib.joinTail]
theorem join_snocc (c : UInt8) (w : List UInt8) : ∀ (r : List (List UInt8)), r ≠ [] → Lib.join (r ++ [w]) [c] = Lib.join r [c] ++ c :: w
  | [], h => absurd rfl h
  | x :: r, _ => by
    rw [List.cons_append]
    by_cases hr : r = []
    · subst hr; rw [List.nil_append, join_cons2c c _ _ (by simp), Lib.join_one, Lib.join_one]
    · rw [join_cons2c c _ _ (by simp), join_snocc c w r hr, join_cons2c c _ _ hr]; simp
theorem cutB_join (c : UInt8) : ∀ (ws : List (List UInt8)), ws ≠ [] → (∀ w ∈ ws, c ∉ w) → cutB c (Lib.join ws [c]) = ws
  | [], h, _ => absurd rfl h
  | [x], _, hc => by rw [Lib.join_one]; exact cutB_plain c x (hc x (by simp))
  | x :: y :: r, _, hc => by
    rw [join_cons2c c _ _ (by simp), cutB_cut, cutB_plain c x (hc x (by simp)), cutB_join c (y :: r) (by simp) (fun w hw => hc w (by simp [hw]))]
    rfl
theorem join_len (c : UInt8) (M : Nat) : ∀ (ws : List (List UInt8)), (∀ w ∈ ws, w.length ≤ M) → (Lib.join ws [c]).length ≤ ws.length * (M + 1)
  | [], _ => by rw [Lib.join_nil]; simp
  | [x], h => by rw [Lib.join_one]; have := h x (by simp); simp; omega
  | x :: y :: r, h => by
    have ih := join_len c M (y :: r) (fun w hw => h w (by simp [hw]))
    have hx := h x (by simp)
    rw [join_cons2c c _ _ (by simp), List.length_append, List.length_cons, List.length_cons, Nat.add_mul]
    omega

/-! ### One floor's text -/

def oneT (f : Fl) : List UInt8 := f.nm ++ 58 :: Lib.decDigits f.ep.toNat
def textL (l : List Fl) : List UInt8 := if l = [] then [45] else Lib.join (l.map oneT) [44]
/-- What is ahead of a byte, and behind it. -/
def aheadB (c : UInt8) (l : List UInt8) : List UInt8 := l.takeWhile (fun b => b != c)
def behindB (c : UInt8) (l : List UInt8) : List UInt8 := (l.dropWhile (fun b => b != c)).drop 1
/-- A number, whatever its size. -/
def numAny (l : List UInt8) : Bool := Sl.numOk l
def readOneL (p : List UInt8) : Option Fl := if 58 ∈ p then (if numAny (behindB 58 p) = true then some ⟨txt (aheadB 58 p), (Sl.valL (behindB 58 p) : Nat)⟩ else none) else none
def readAllL : List (List UInt8) → Option (List Fl)
  | [] => some []
  | p :: ps => match readOneL p with
    | none => none
    | some f => match readAllL ps with
      | none => none
      | some l => some (f :: l)
theorem readAllL_cons (p : List UInt8) (ps : List (List UInt8)) : readAllL (p :: ps) = match readOneL p with | none => none | some f => match readAllL ps with | none => none | some l => some (f :: l) := rfl
def readL (s : List UInt8) : Option (List Fl) := if s = [45] then some [] else readAllL (cutB 44 s)
def readC (s : List UInt8) : Nat × Int := match readL s with | none => (1, -1) | some l => checkL l
def readR (s : List UInt8) : List Fl := match readL s with | none => [] | some l => if (checkL l).1 = 0 then l else []

theorem ahead_cut (c : UInt8) (t : List UInt8) : ∀ a : List UInt8, c ∉ a → aheadB c (a ++ c :: t) = a ∧ behindB c (a ++ c :: t) = t
  | [], _ => ⟨by simp [aheadB], by simp [behindB]⟩
  | b :: a, h => by
    have hb : (b != c) = true := bne_iff_ne.2 (fun e => h (by simp [e]))
    obtain ⟨h1, h2⟩ := ahead_cut c t a (fun e => h (by simp [e]))
    constructor
    · show (b :: (a ++ c :: t)).takeWhile _ = _
      rw [List.takeWhile_cons_of_pos (p := fun b => b != c) hb]
      exact congrArg (b :: ·) h1
    · show ((b :: (a ++ c :: t)).dropWhile _).drop 1 = _
      rw [List.dropWhile_cons_of_pos (p := fun b => b != c) hb]
      exact h2
theorem small_not {b : UInt8} (h : Sl.smallB b = true) : b ≠ 44 ∧ b ≠ 58 ∧ b ≠ 45 := by
  unfold Sl.smallB Sl.digB at h
  simp at h
  have e1 : (44 : UInt8).toNat = 44 := by decide
  have e2 : (58 : UInt8).toNat = 58 := by decide
  have e3 : (45 : UInt8).toNat = 45 := by decide
  exact ⟨fun e => by rw [e] at h; omega, fun e => by rw [e] at h; omega, fun e => by rw [e] at h; omega⟩
theorem nm_not {f : Fl} (h : oneE f = 0) : ∀ b ∈ f.nm, b ≠ 44 ∧ b ≠ 58 ∧ b ≠ 45 := by
  intro b hb
  rcases one_name h with e | e
  · rw [e] at hb
    have : b = 42 := by simpa [star] using hb
    subst this
    decide
  · unfold Sl.nameL Sl.madeL at e
    simp only [Bool.and_eq_true, decide_eq_true_eq] at e
    exact small_not (List.all_eq_true.1 e.2 b hb)
theorem nm_len {f : Fl} (h : oneE f = 0) : f.nm.length ≤ 8 := by
  rcases one_name h with e | e
  · rw [e]; decide
  · unfold Sl.nameL Sl.madeL at e
    simp only [Bool.and_eq_true, decide_eq_true_eq] at e
    exact e.1.2
theorem dec_not (u : Nat) : ∀ b ∈ Lib.decDigits u, b ≠ 44 ∧ b ≠ 58 ∧ b ≠ 45 := fun b hb => by
  have := List.all_eq_true.1 (Sl.dec_all u) b hb
  exact small_not (by unfold Sl.smallB; rw [this]; rfl)
theorem one_cut {f : Fl} (h : oneE f = 0) : (44 : UInt8) ∉ oneT f := by
  intro hm
  unfold oneT at hm
  rcases List.mem_append.1 hm with e | e
  · exact (nm_not h _ e).1 rfl
  · rcases List.mem_cons.1 e with e | e
    · exact absurd e (by decide)
    · exact (dec_not _ _ e).1 rfl
theorem one_len {f : Fl} (h : oneE f = 0) : (oneT f).length ≤ 30 := by
  have h1 := nm_len h
  have h2 := one_pos h
  have h3 : (Lib.decDigits f.ep.toNat).length ≤ 10 := by
    have := (Sl.numOk_iff _).1 (Sl.dec_ok f.ep.toNat (by omega))
    exact this.1.2
  unfold oneT
  rw [List.length_append, List.length_cons]
  omega
theorem read_one {f : Fl} (h : oneE f = 0) : readOneL (oneT f) = some f := by
  have h2 := one_pos h
  have hn : (58 : UInt8) ∉ f.nm := fun e => (nm_not h _ e).2.1 rfl
  obtain ⟨e1, e2⟩ := ahead_cut 58 (Lib.decDigits f.ep.toNat) f.nm hn
  unfold readOneL oneT
  rw [if_pos (by simp), e1, e2, if_pos (show numAny _ = true from Sl.dec_ok _ (by omega)), Sl.dec_val]
  congr 1
  refine Fl.same rfl ?_
  show ((f.ep.toNat : Nat) : Int) = f.ep
  omega
theorem read_all : ∀ (l : List Fl), (∀ f ∈ l, oneE f = 0) → readAllL (l.map oneT) = some l
  | [], _ => rfl
  | f :: l, h => by
    rw [List.map_cons, readAllL_cons, read_one (h f (by simp)), read_all l (fun g hg => h g (by simp [hg]))]
/-- What is written is read as it was. -/
theorem read_text {l : List Fl} (h : RightF l) : readL (textL l) = some l := by
  unfold readL textL
  by_cases hl : l = []
  · subst hl; rw [if_pos rfl, if_pos rfl]
  · rw [if_neg hl]
    have hne : l.map oneT ≠ [] := by simpa using hl
    have hc := cutB_join 44 (l.map oneT) hne (fun w hw => by
      obtain ⟨f, hf, rfl⟩ := List.mem_map.1 hw
      exact one_cut (h.one f hf))
    rw [if_neg, hc, read_all l h.one]
    intro e
    rw [e, cutB_plain 44 [45] (by decide)] at hc
    match l, hl, hc with
    | f :: l, _, hc =>
      rw [List.map_cons] at hc
      injection hc with hc _
      have : (58 : UInt8) ∈ oneT f := by unfold oneT; simp
      rw [← hc] at this
      exact absurd this (by decide)
theorem readC_text {l : List Fl} (h : RightF l) (hl : l.length ≤ 21) : (readC (textL l)).1 = 0 ∧ readR (textL l) = l := by
  unfold readC readR
  rw [read_text h]
  have : checkL l = (0, -1) := by rw [check_right h, if_neg (by omega)]
  exact ⟨by show (checkL l).1 = 0; rw [this], by show (if (checkL l).1 = 0 then l else []) = l; rw [this]; rfl⟩
theorem readAll_append : ∀ (a b : List (List UInt8)), readAllL (a ++ b) = match readAllL a with | none => none | some l => (readAllL b).map (l ++ ·)
  | [], b => by show readAllL b = (readAllL b).map _; cases readAllL b <;> rfl
  | p :: a, b => by
    rw [List.cons_append, readAllL_cons, readAllL_cons, readAll_append a b]
    cases readOneL p with
    | none => rfl
    | some f =>
      cases readAllL a with
      | none => rfl
      | some l => cases readAllL b <;> rfl
end Go.Proofs.YtemdnmnbecapbacGreatDoor

namespace Go.Proofs.YtemdnmnbecapbacGreatDoor
open Go.RowKit Go.Extern.Stop Go.Stop Go.Extern Go.Proofs

theorem below_growF (w : World) (k : Nat) (os : Array Obj) : Below w.heap.size w (Sort.grow (w.drewN k) os) := by
  refine ⟨rfl, rfl, rfl, ?_, fun j hj => ?_⟩
  · show w.heap.size ≤ (w.heap ++ os).size
    rw [Array.size_append]; omega
  · exact Sort.heap_grow_old (w.drewN k) os hj
/-- The table of powers of ten, as strconv reads it. -/
abbrev Tab10 (w : World) : Prop := Lib.TabIs Tryz.prog w "internal/strconv.uint64pow10" .u64 Lib.pow10Tab
theorem itoa_fl (n : Int) (w : World) (h : Tab10 w) (h0 : 0 ≤ n) (h1 : n ≤ 1073741824) :
    Calls Tryz.prog 61 #[.int .i64 n] w fun e w' => e = .returned (.string (txt (Lib.decDigits n.toNat))) ∧ Below w.heap.size w w' := by
  have hit : (⟨(Lib.itoa n).toArray⟩ : ByteArray) = txt (Lib.decDigits n.toNat) := by
    have e : n = (n.toNat : Int) := by omega
    rw [e, Lib.itoa_nonneg]
    rfl
  refine (Tryz.strconv_Itoa n (by omega) (by omega) w h).mono ?_
  rintro e w' ⟨rfl, k, os, rfl⟩
  exact ⟨by rw [hit], below_growF w k os⟩
theorem Tryz.pow10F : Tryz.prog.globalNamed "internal/strconv.uint64pow10" = some 18 := by kernel_rfl
theorem tab_below {w w' : World} (h : Tab10 w) (hb : Below w.heap.size w w') : Tab10 w' :=
  var?_below hb Tryz.pow10F (cell_lt (h.cell Tryz.pow10F 0 (by decide))) h
theorem Tryz.infoStringF : (Tryz.prog.info? 9).map (fun i => (i.zero, i.size, i.bytes)) = some (some (.string ByteArray.empty), 1, 16) := by kernel_rfl

/-- A row of texts being filled: the first k are those of the floors. -/
def PartsAt (w : World) (pb n : Nat) (l : List Fl) (k : Nat) : Prop := ∃ cur : Array Value, w.heap[pb]? = some (.cells cur 9 (0, 0)) ∧ cur.size = n ∧ ∀ j (hj : j < l.length), j < k → cur[j]? = some (.string (txt (oneT l[j])))
theorem PartsAt.keep {w w' : World} {pb n : Nat} {l : List Fl} {k : Nat} (h : PartsAt w pb n l k) (hb : w'.heap[pb]? = w.heap[pb]?) : PartsAt w' pb n l k := by
  obtain ⟨cur, h1, h2⟩ := h
  exact ⟨cur, by rw [hb]; exact h1, h2⟩
theorem PartsAt.lt {w : World} {pb n : Nat} {l : List Fl} {k : Nat} (h : PartsAt w pb n l k) : pb < w.heap.size := by
  obtain ⟨cur, h1, _⟩ := h
  exact row_lt h1
theorem PartsAt.spot {w : World} {pb n : Nat} {l : List Fl} {k : Nat} (h : PartsAt w pb n l k) (i : Nat) (hi : i < n) : (∃ v, w.cell? ⟨pb, i, none⟩ = some v) ∧ w.frozen? ⟨pb, i, none⟩ = false := by
  obtain ⟨cur, h1, h2, _⟩ := h
  rw [cell_of_row w pb i cur _ _ h1]
  exact ⟨⟨cur[i]'(by omega), Array.getElem?_eq_getElem _⟩, frozen_of_row w pb i cur _ h1⟩
theorem PartsAt.set {w : World} {pb n : Nat} {l : List Fl} {k : Nat} (h : PartsAt w pb n l k) (hk : k < l.length) (hn : l.length = n) : PartsAt (w.setCell ⟨pb, k, none⟩ (.string (txt (oneT l[k])))) pb n l (k + 1) := by
  obtain ⟨cur, h1, h2, h3⟩ := h
  refine ⟨cur.setIfInBounds k (.string (txt (oneT l[k]))), heap_setCell_same w pb k cur _ _ h1, by simpa using h2, fun j hj hjk => ?_⟩
  by_cases e : j = k
  · subst e
    rw [Array.getElem?_setIfInBounds_self_of_lt (by omega)]
  · rw [Array.getElem?_setIfInBounds_ne (Ne.symm e)]
    exact h3 j hj (by omega)
theorem PartsAt.texts {w : World} {pb n : Nat} {l : List Fl} (h : PartsAt w pb n l n) (hn : l.length = n) : ∀ (j : Nat) x, (l.map fun f => txt (oneT f))[j]? = some x → w.cell? ⟨pb, 0 + j, none⟩ = some (.string x) := fun j x hj => by
  obtain ⟨cur, h1, h2, h3⟩ := h
  rw [Nat.zero_add, cell_of_row w pb j cur _ _ h1]
  rw [List.getElem?_map] at hj
  cases hl : l[j]? with
  | none => rw [hl] at hj; cases hj
  | some f =>
    obtain ⟨hjl, hf⟩ := List.getElem?_eq_some_iff.1 hl
    rw [hl] at hj
    rw [h3 j hjl (by omega), hf]
    exact congrArg (fun x => some (Value.string x)) (Option.some.inj hj)
theorem PartsAt.made {w w' : World} {n : Nat} {l : List Fl} (h : w'.ownsRow w.heap.size 9 1 (.slice (some ⟨w.heap.size, 0, none⟩) n n) n (madeCells (Value.string ByteArray.empty).cells (n * 1)).toList) : PartsAt w' w.heap.size n l 0 := by
  rcases h.2 with ⟨e, _⟩ | ⟨g, cap, cur, e, _, hg, _, _, hs, _⟩
  · cases e
  · injection e with e1 e2 e3
    injection e1 with e1
    injection e1 with e1
    subst e1; subst e3
    exact ⟨cur, hg, by omega, fun j _ hj => absurd hj (Nat.not_lt_zero _)⟩

/-- A text, or an error. -/
def TextPost (a : Nat → Addr) (c : Nat × Int) (t : List UInt8) (e : Ending) (w' : World) : Prop := (c.1 = 0 ∧ e = .returned (.tuple #[.string (txt t), .nilIface])) ∨ (c.1 ≠ 0 ∧ ∃ t p, e = .returned (.tuple #[.string ByteArray.empty, .iface t p]) ∧ FlErr a w' c (.iface t p))

set_option maxRecDepth 100000 in
set_option maxHeartbeats 4000000 in
theorem text_any (a : Nat → Addr) (v : Value) (l : List Fl) (w : World) (h : EV flS a w) (ht : Tab10 w) (hv : FlAt w v l) (hs : ∀ f ∈ l, f.who.size ≤ maxLen) (hl : l.length ≤ 1000000) :
    Calls Tryz.prog 36 #[v] w fun e w' => TextPost a (checkL l) (textL l) e w' ∧ Below w.heap.size w w' := by
  have HC := hide (check_any a v l w h hv hs hl)
  have HV := hide hv
  have HT := hide ht
  by_cases h0 : (checkL l).1 = 0
  · obtain ⟨hright, h21⟩ := right_of_check h0
    have H0 := hide h0
    match l with
    | [] =>
      obtain ⟨ad, cap, rfl, hcap⟩ := hv.form
      show Calls Tryz.prog 36 #[.slice ad 0 cap] w _
      replace HC : Hid (Calls Tryz.prog 51 #[.slice ad 0 cap] w fun e w' => ∃ ev, e = .returned ev ∧ FlErr a w' (checkL []) ev ∧ Below w.heap.size w w') := HC.out
      clear h ht hv hs hright h21 h0 HV HT
      generalize checkL [] = c at *
      go_enter Tryz.func36, Tryz.ntmps36
      go_wp2_with fail
      refine HC.out.mono ?_
      rintro e w1 ⟨ev, rfl, he, hb⟩
      obtain rfl := he.none H0.out
      clear he
      go_wp2
      go_ret2
      exact ⟨Or.inl ⟨H0.out, rfl⟩, hb⟩
    | f0 :: l0 =>
      generalize hll : f0 :: l0 = l at *
      have HNe : Hid (l ≠ []) := by rw [← hll]; exact List.cons_ne_nil _ _
      have hpos : 0 < l.length := by rw [← hll]; simp
      clear hll
      obtain ⟨i0, hi, hz0, hz1, hz2⟩ := info_parts Tryz.infoStringF
      obtain ⟨ad, cap, rfl, hcap⟩ := hv.form
      have HR := hide hright
      have HJ : Hid (∀ pb W, PartsAt W pb l.length l l.length → Calls Tryz.prog 60 #[.slice (some ⟨pb, 0, none⟩) l.length l.length, .string ⟨#[44]⟩] W fun e w' => e = .returned (.string (txt (textL l))) ∧ Below W.heap.size W w') := fun pb W hp => by
        have hlen : (l.map fun f => txt (oneT f)).length = l.length := by simp
        have hmap : ((l.map fun f => txt (oneT f)).map (·.data.toList)) = l.map oneT := by
          rw [List.map_map]
          exact List.map_congr_left (fun f _ => rfl)
        have hjl : (Lib.join (l.map oneT) [44]).length ≤ 140737488355328 := by
          have := join_len 44 30 (l.map oneT) (fun x hx => by
            obtain ⟨f, hf, rfl⟩ := List.mem_map.1 hx
            exact one_len (hright.one f hf))
          rw [List.length_map] at this
          omega
        have := Tryz.strings_Join pb 0 l.length (l.map fun f => txt (oneT f)) ⟨#[44]⟩ W (hp.texts rfl) hp.lt (by rw [hlen]; omega) (by rw [hlen]; exact Nat.le_refl _) (by rw [hmap]; exact hjl)
        rw [hlen, hmap] at this
        have htx : txt (textL l) = txt (Lib.join (l.map oneT) [44]) := by unfold textL; rw [if_neg HNe.out]
        rw [htx]
        exact this
      clear h hv hright ht h0
      generalize hc : checkL l = c at *
      generalize htx : textL l = tx at *
      generalize hn : l.length = n at *
      have HN := hide hn
      have hn0 : ¬ (n : Int) = 0 := by omega
      clear hn hc htx
      go_enter Tryz.func36, Tryz.ntmps36
      go_wp2_with fail
      refine HC.out.mono ?_
      rintro e w1 ⟨ev, rfl, he, hb⟩
      obtain rfl := he.none H0.out
      have HB1 := hide hb
      clear he hb HC
      go_wp2_with (at_make; refine wpList_make_full _ rfl _ _ 75 rfl w1.heap.size 9 i0 _ 1 Tryz.underlying75 hi hz0 hz1 .i64 .i64 _ _ n rfl rfl rfl rfl (by rw [hz2]; omega) (by unfold maxLen; omega) (Nat.le_refl _) ?_; intro w2 hown hgrow; have HP2 : Hid (PartsAt w2 w1.heap.size n l 0) := PartsAt.made hown; have HB2 : Hid (Below w.heap.size w w2) := HB1.out.grown hgrow HB1.out.size (fun k hk => by cases hk); clear hown hgrow)
      go_loopg [6, 7, 21] n (fun gg _ _ s21 wr => ∃ k : Nat, k ≤ n ∧ n - k ≤ gg ∧ s21 = .int .i64 k ∧ Hid (Below w.heap.size w wr) ∧ Hid (PartsAt wr w1.heap.size n l k))
      case atStart => exact ⟨0, Nat.zero_le _, by omega, rfl, HB2, HP2⟩
      case round =>
        clear HB2 HP2
        obtain ⟨k, hk, hgg, rfl, HB, HP⟩ := hrel
        by_cases hlt : k < n
        · have hltz : (k : Int) < (n : Int) := by omega
          have hkl : k < l.length := by rw [HN.out]; exact hlt
          have hvr := HV.out.below HB.out
          rw [← HN.out] at hvr
          obtain ⟨b, off, cap', e, hc', hb, hcell⟩ := hvr.at (by omega)
          injection e with e1 e2 e3
          subst e1; subst e3
          obtain ⟨c0, c1⟩ := hcell k hkl
          have hone := HR.out.one l[k] (List.getElem_mem _)
          have hpos2 := one_pos hone
          have hws : l[k].who.size ≤ 8 := by have := nm_len hone; unfold Fl.nm at this; rw [size_list] at this; exact this
          have hds : (txt (Lib.decDigits l[k].ep.toNat)).size ≤ 30 := by
            rw [txt_size]
            have := one_len hone
            unfold oneT at this
            rw [List.length_append, List.length_cons] at this
            omega
          have HIt := hide (fun W h => itoa_fl l[k].ep W h (by omega) hpos2.2)
          have HTx : Hid (l[k].who ++ ⟨#[58]⟩ ++ txt (Lib.decDigits l[k].ep.toNat) = txt (oneT l[k])) := by
            refine Go.WideShapes.bytes_inj ?_
            rw [ba_toList, ba_toList]
            show _ = oneT l[k]
            unfold oneT Fl.nm
            rw [List.append_assoc]
            rfl
          have HSt := hide (fun (W : World) (hp : PartsAt W w1.heap.size n l k) => hp.set hkl HN.out)
          rw [← HTx.out] at HSt
          have HBa : Hid (Below w.heap.size w (wr.alloc (.cells #[.string l[k].who, .int .i64 l[k].ep] 24))) := HB.out.alloc HB.out.size _
          have HRa : Hid ((wr.alloc (.cells #[.string l[k].who, .int .i64 l[k].ep] 24)).heap[wr.heap.size]? = some (.cells #[.string l[k].who, .int .i64 l[k].ep] 24 (0, 0))) := heap_alloc_new _ _
          have HPa : Hid (PartsAt (wr.alloc (.cells #[.string l[k].who, .int .i64 l[k].ep] 24)) w1.heap.size n l k) := HP.out.keep (Below.heap_alloc _ _ _ HP.out.lt)
          have HBe : Hid (w.heap.size ≤ w1.heap.size) := HB1.out.size
          clear hcell hvr hone hpos2 HTx HP
          generalize txt (Lib.decDigits l[k].ep.toNat) = ds at *
          generalize l[k].who = who at *
          generalize l[k].ep = ep at *
          go_wp2_with fail
          generalize hW0 : wr.alloc (.cells #[.string who, .int .i64 ep] 24) = W0 at *
          have hd0 : W0.cell? ⟨wr.heap.size, 0, none⟩ = some (.string who) := cell_of_row W0 _ 0 _ _ _ HRa.out
          have hd1 : W0.cell? ⟨wr.heap.size, 1, none⟩ = some (.int .i64 ep) := cell_of_row W0 _ 1 _ _ _ HRa.out
          have HIt2 := hide (HIt.out W0.drew (tab_below (tab_below HT.out HBa.out) ((Below.refl _ _).drew)))
          have hne : w1.heap.size ≠ wr.heap.size := by have := HPa.out; have h2 := HRa.out; intro e; obtain ⟨cur, q1, _⟩ := this; rw [e, h2] at q1; injection q1 with q1; injection q1 with _ q1; exact absurd q1 (by decide)
          have ha1 : ∀ w : World, (Op.stringOp .add who { data := #[58] }).run Tryz.prog w = .ok (.string (who ++ { data := #[58] })) w := fun w => run_string_add_sum w _ _ (by show who.size + 1 ≤ _; omega)
          have ha2 : ∀ w : World, (Op.stringOp .add (who ++ { data := #[58] }) ds).run Tryz.prog w = .ok (.string (who ++ { data := #[58] } ++ ds)) w := fun w => run_string_add_sum w _ _ (by rw [ByteArray.size_append]; show who.size + 1 + ds.size ≤ _; omega)
          clear hW0 HIt c0 c1
          go_region_held3 (fun w' => w'.cell? ⟨wr.heap.size, 0, none⟩ = some (.string who) ∧ w'.cell? ⟨wr.heap.size, 1, none⟩ = some (.int .i64 ep)) (go_keep)
            (first
              | (go_at_call 61; refine HIt2.out.mono ?_; rintro e w3 ⟨rfl, hb3⟩; have HB3 : Hid (Below W0.heap.size W0 w3) := ((Below.refl _ W0).drew).trans hb3; have HP3 : Hid (PartsAt w3 w1.heap.size n l k) := HPa.out.keep (HB3.out.block _ HPa.out.lt); have hr3 : w3.heap[wr.heap.size]? = some (.cells #[.string who, .int .i64 ep] 24 (0, 0)) := (HB3.out.block _ (row_lt HRa.out)).trans HRa.out; have e0 : w3.cell? ⟨wr.heap.size, 0, none⟩ = some (.string who) := cell_of_row w3 _ 0 _ _ _ hr3; have e1 : w3.cell? ⟨wr.heap.size, 1, none⟩ = some (.int .i64 ep) := cell_of_row w3 _ 1 _ _ _ hr3; obtain ⟨⟨ov, hov⟩, hfz⟩ := HP3.out.spot k hlt; clear hb3 hr3 HIt2))
          have HB4 : Hid (Below w.heap.size w (w3.setCell ⟨w1.heap.size, k, none⟩ (.string (who ++ ⟨#[58]⟩ ++ ds)))) := (HBa.out.trans (HB3.out.mono HBa.out.size)).setCell (p := ⟨w1.heap.size, k, none⟩) HBe.out _
          have HP4 := hide (HSt.out w3 HP3.out)
          clear hov hfz e0 e1 HP3 HSt ha1 ha2
          generalize w3.setCell ⟨w1.heap.size, k, none⟩ (.string (who ++ ⟨#[58]⟩ ++ ds)) = w4 at *
          go_wp2
          go_roundg (n - (k + 1))
          case measure => omega
          case rel => exact ⟨k + 1, by omega, by omega, by go_num, HB4, HP4⟩
        · obtain rfl : k = n := by omega
          have hltz : ¬ (k : Int) < (k : Int) := by omega
          go_wp2_with fail
          refine (HJ.out _ _ HP.out).mono ?_
          rintro e w5 ⟨rfl, hb5⟩
          have HB5 : Hid (Below w.heap.size w w5) := HB.out.trans (hb5.mono HB.out.size)
          clear hb5
          go_wp2
          go_ret2
          exact ⟨Or.inl ⟨H0.out, rfl⟩, HB5.out⟩
  · have H0 := hide h0
    clear h ht hv hs h0 HV HT
    generalize checkL l = c at *
    generalize textL l = tx at *
    go_enter Tryz.func36, Tryz.ntmps36
    go_wp2_with fail
    refine HC.out.mono ?_
    rintro e w1 ⟨ev, rfl, he, hb⟩
    have HEr := hide he
    rcases he.cases with ⟨e0, _⟩ | ⟨_, tt, pp, rfl⟩
    · exact absurd e0 H0.out
    · clear he
      go_wp2
      go_ret2
      exact ⟨Or.inr ⟨H0.out, _, _, rfl, HEr.out⟩, hb⟩
end Go.Proofs.YtemdnmnbecapbacGreatDoor

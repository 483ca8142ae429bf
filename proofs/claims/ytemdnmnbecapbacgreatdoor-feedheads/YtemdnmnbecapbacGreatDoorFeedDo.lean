/-
  What package feed's newest, isTime, bare and checkBehind answer, for every entry and every list.
-/
import Derived.Test.YtemdnmnbecapbacGreatDoorFeedMem
import Derived.Stop.Asserts
import Derived.Deep.RegionHeld3
namespace Go.Proofs.YtemdnmnbecapbacGreatDoor
open Go.RowKit Go.Extern.Stop Go.Stop Go.Extern Go.Proofs

theorem newL_last {l : List En} {m : Nat} (hm : l.length = m + 1) : newL l = (l[m]'(by omega)).time := by
  have e : l.getLast? = l[m]? := by rw [List.getLast?_eq_getElem?, show l.length - 1 = m by omega]
  unfold newL
  rw [e, List.getElem?_eq_getElem (by omega)]
theorem newL_nil : newL [] = 0 := rfl
set_option maxRecDepth 100000 in
set_option maxHeartbeats 1000000 in
theorem newest_any (v : Value) (l : List En) (w : World) (h : EnAt w v l) (hl : l.length ≤ 1000000) :
    Calls Tryz.prog 31 #[v] w fun e w' => e = .returned (.int .i64 (newL l)) ∧ w' = w := by
  by_cases hn : 0 < l.length
  · obtain ⟨m, hm⟩ : ∃ m, l.length = m + 1 := ⟨l.length - 1, by omega⟩
    obtain ⟨b, off, cap, rfl, hc, hb, _, hcell⟩ := h.at hn
    have c1 := (hcell m (by omega)).2.1
    rw [newL_last hm]
    generalize (l[m]'(by omega)).time = t at *
    rw [hm] at hc hl ⊢
    clear hcell h hn hm
    go_enter Tryz.func31, Tryz.ntmps31
    go_wp2
    go_ret
    exact ⟨rfl, rfl⟩
  · obtain rfl : l = [] := List.length_eq_zero_iff.1 (by omega)
    obtain ⟨ad, cap, rfl, hc⟩ := h.form
    show Calls Tryz.prog 31 #[.slice ad 0 cap] w _
    rw [newL_nil]
    go_enter Tryz.func31, Tryz.ntmps31
    go_wp2
    go_ret
    exact ⟨rfl, rfl⟩

theorem fdTime_any (n : Int) (w : World) :
    Calls Tryz.prog 30 #[.int .i64 n] w fun e w' => e = .returned (.bool (decide (0 ≤ n ∧ n ≤ 1000000))) ∧ w' = w := by
  by_cases h1 : 0 ≤ n
  · by_cases h2 : n ≤ 1000000
    · rw [decide_eq_true ⟨h1, h2⟩]
      go_enter Tryz.func30, Tryz.ntmps30
      go_wp2
      go_ret
      exact ⟨rfl, rfl⟩
    · rw [decide_eq_false (fun h => h2 h.2)]
      go_enter Tryz.func30, Tryz.ntmps30
      go_wp2
      go_ret
      exact ⟨by simp_all, rfl⟩
  · rw [decide_eq_false (fun h => h1 h.1)]
    go_enter Tryz.func30, Tryz.ntmps30
    go_wp2
    go_ret
    exact ⟨rfl, rfl⟩

theorem Tryz.asFaultN (xT : TypeId) (w : World) : (Instr.typeAssert .nilIface xT 66 true).run Tryz.prog w = .ok (.tuple #[.pointer none, .bool false]) w := by kernel_rfl
theorem Tryz.asFaultE (v : Value) (xT : TypeId) (w : World) : (Instr.typeAssert (.iface 218 v) xT 66 true).run Tryz.prog w = .ok (.tuple #[.pointer none, .bool false]) w := by kernel_rfl
theorem Tryz.asFaultF (v : Value) (xT : TypeId) (w : World) : (Instr.typeAssert (.iface 66 v) xT 66 true).run Tryz.prog w = .ok (.tuple #[v, .bool true]) w := by kernel_rfl
set_option maxRecDepth 100000 in
theorem fdBare_any (a : Nat → Addr) (c : Nat × Int) (ev : Value) (w : World) (h : FlErr a w c ev) :
    Calls Tryz.prog 28 #[ev] w fun e w' => e = .returned (errV a c.1) ∧ w' = w := by
  have q0 := Tryz.asFaultN
  have q1 := Tryz.asFaultE
  have q2 := Tryz.asFaultF
  rcases h with ⟨h0, rfl⟩ | ⟨h0, _, rfl⟩ | ⟨h0, b, rfl, hrow⟩
  · rw [h0, errV_zero]
    clear h0
    go_enter Tryz.func28, Tryz.ntmps28
    go_wp2
    go_ret
    exact ⟨rfl, rfl⟩
  · rw [errV_pos a h0]
    generalize a (c.1 - 1) = p at *
    clear h0
    go_enter Tryz.func28, Tryz.ntmps28
    go_wp2
    go_ret
    exact ⟨rfl, rfl⟩
  · rw [errV_pos a h0]
    generalize a (c.1 - 1) = p at *
    have c1 : w.cell? ⟨b, 1, none⟩ = some (eV p) := cell_of_row w b 1 _ _ _ hrow
    clear h0 hrow
    go_enter Tryz.func28, Tryz.ntmps28
    go_wp2
    go_ret
    exact ⟨rfl, rfl⟩

theorem check_single (f : Fl) : (checkL [f]).1 = oneE f := by
  have hb : badAt [f] 0 = oneE f := by
    show behindE [] f = oneE f
    unfold behindE
    by_cases h : oneE f = 0
    · have hp := (one_pos h).1
      rw [if_pos h, if_neg (by rintro ⟨g, hg, _⟩; cases hg), if_neg (by show ¬ f.ep ≤ 0; omega), h]
    · rw [if_neg h]
  by_cases h : oneE f = 0
  · rw [check_good (by simp) (fun j hj => by
      obtain rfl : j = 0 := by simpa using hj
      rw [hb, h]), h]
  · rw [check_bad (k := 0) (by simp) (by simp) (fun j hj => absurd hj (Nat.not_lt_zero _)) (by rw [hb]; exact h), hb]

/-- An entry's block. -/
abbrev enO (e : En) : Obj := .cells #[.int .i64 e.seq, .int .i64 e.time, .string e.fl.who, .int .i64 e.fl.ep] 64 (0, 0)
theorem en_row {w : World} {g : Nat} {s t ep : Int} {who : ByteArray} (h : w.heap[g]? = some (.cells #[.int .i64 s, .int .i64 t, .string who, .int .i64 ep] 64 (0, 0))) :
    w.cell? ⟨g, 0, none⟩ = some (.int .i64 s) ∧ w.cell? ⟨g, 1, none⟩ = some (.int .i64 t) ∧ w.cell? ⟨g, 2, none⟩ = some (.string who) ∧ w.cell? ⟨g, 3, none⟩ = some (.int .i64 ep) :=
  ⟨cell_of_row w g 0 _ _ _ h, cell_of_row w g 1 _ _ _ h, cell_of_row w g 2 _ _ _ h, cell_of_row w g 3 _ _ _ h⟩
theorem fl_alone (w : World) (who : ByteArray) (ep : Int) : FlAt (w.alloc (.cells #[.string who, .int .i64 ep] 24)) (.slice (some ⟨w.heap.size, 0, none⟩) 1 1) [⟨who, ep⟩] :=
  Or.inr ⟨w.heap.size, 0, 1, rfl, Nat.le_refl _, fun j u hu => by
    rw [Nat.zero_add, cell_of_row _ _ j _ _ _ (heap_alloc_new w (.cells #[.string who, .int .i64 ep] 24))]
    rw [show cellsF [⟨who, ep⟩] = (#[.string who, .int .i64 ep] : Array Value).toList from rfl, Array.getElem?_toList] at hu
    exact hu⟩

set_option maxRecDepth 100000 in
set_option maxHeartbeats 4000000 in
theorem fdBehind_any (a : Nat → Addr) (v : Value) (l : List En) (e : En) (w : World) (h : EV fdS a w) (hs : e.fl.who.size ≤ maxLen) (hv : EnAt w v l) (hl : l.length ≤ 1000000) :
    Calls Tryz.prog 26 #[v, e.val] w fun r w' => r = .returned (errV a (entE l.length (newL l) e)) ∧ Below w.heap.size w w' := by
  have HNw := hide (fun w h => newest_any v l w h hl)
  have HTm := hide (fun w => fdTime_any e.time w)
  have HCk := hide (fun v1 w h h1 => check_any a v1 [e.fl] w h h1 (fun f hf => by rw [List.mem_singleton.1 hf]; exact hs) (by simp))
  have hck1 := check_single e.fl
  have HE := hide h
  have HV := hide hv
  obtain ⟨ad, cap, rfl, hcap⟩ := hv.form
  have hcase : (e.seq ≠ (l.length : Int) + 1 ∧ entE l.length (newL l) e = 15) ∨ (e.seq = (l.length : Int) + 1 ∧ ¬ (0 ≤ e.time ∧ e.time ≤ 1000000) ∧ entE l.length (newL l) e = 2) ∨
      (e.seq = (l.length : Int) + 1 ∧ (0 ≤ e.time ∧ e.time ≤ 1000000) ∧ e.time < newL l ∧ entE l.length (newL l) e = 8) ∨ (e.seq = (l.length : Int) + 1 ∧ (0 ≤ e.time ∧ e.time ≤ 1000000) ∧ ¬ e.time < newL l ∧ entE l.length (newL l) e = oneE e.fl) := by
    unfold entE
    by_cases h1 : e.seq = (l.length : Int) + 1
    · by_cases h2 : 0 ≤ e.time ∧ e.time ≤ 1000000
      · by_cases h3 : e.time < newL l
        · exact Or.inr (Or.inr (Or.inl ⟨h1, h2, h3, by rw [if_pos h1, if_pos h2, if_pos h3]⟩))
        · exact Or.inr (Or.inr (Or.inr ⟨h1, h2, h3, by rw [if_pos h1, if_pos h2, if_neg h3]⟩))
      · exact Or.inr (Or.inl ⟨h1, h2, by rw [if_pos h1, if_neg h2]⟩)
    · exact Or.inl ⟨h1, by rw [if_neg h1]⟩
  have HB0 : Hid (Below w.heap.size w (w.alloc (.cells #[.int .i64 e.seq, .int .i64 e.time, .string e.fl.who, .int .i64 e.fl.ep] 64))) := (Below.refl _ _).alloc (Nat.le_refl _) _
  have HC0 : Hid ((w.alloc (.cells #[.int .i64 e.seq, .int .i64 e.time, .string e.fl.who, .int .i64 e.fl.ep] 64)).heap[w.heap.size]? = some (.cells #[.int .i64 e.seq, .int .i64 e.time, .string e.fl.who, .int .i64 e.fl.ep] 64 (0, 0))) := heap_alloc_new _ _
  show Calls Tryz.prog 26 #[.slice ad l.length cap, .agg #[.int .i64 e.seq, .int .i64 e.time, .string e.fl.who, .int .i64 e.fl.ep]] w _
  clear h hv hs
  generalize entE l.length (newL l) e = c at *
  generalize newL l = nw at *
  have hfe : e.fl = ⟨e.fl.who, e.fl.ep⟩ := rfl
  rw [hfe] at HCk hck1
  have HCs := hide hck1
  clear hfe hck1
  generalize hn : l.length = n at *
  clear hn
  generalize e.seq = sq at *
  generalize e.time = tm at *
  generalize oneE _ = one at *
  generalize checkL _ = ck at *
  generalize e.fl.who = who at *
  generalize e.fl.ep = ep at *
  rcases hcase with ⟨h1, rfl⟩ | ⟨h1, h2, rfl⟩ | ⟨h1, h2, h3, rfl⟩ | ⟨h1, h2, h3, rfl⟩
  · have hq : (sq == (n : Int) + 1) = false := beq_eq_false_iff_ne.2 h1
    have hvv : (w.alloc (.cells #[.int .i64 sq, .int .i64 tm, .string who, .int .i64 ep] 64)).cell? ⟨2, 0, none⟩ = some (eV (a 14)) := (HE.out.below HB0.out).var 14 (by decide) rfl
    clear h1
    go_enter Tryz.func26, Tryz.ntmps26
    go_wp2
    go_ret
    exact ⟨rfl, HB0.out⟩
  · have hq : (sq == (n : Int) + 1) = true := beq_iff_eq.2 h1
    have hvv : (w.alloc (.cells #[.int .i64 sq, .int .i64 tm, .string who, .int .i64 ep] 64)).cell? ⟨1, 0, none⟩ = some (eV (a 1)) := (HE.out.below HB0.out).var 1 (by decide) rfl
    rw [decide_eq_false h2] at HTm
    clear h1 h2
    go_enter Tryz.func26, Tryz.ntmps26
    go_wp2_with fail
    refine (HTm.out _).mono ?_
    rintro e1 w1 ⟨rfl, rfl⟩
    go_wp2
    go_ret
    exact ⟨rfl, HB0.out⟩
  all_goals
    have hq : (sq == (n : Int) + 1) = true := beq_iff_eq.2 h1
    rw [decide_eq_true h2] at HTm
    clear h1 h2
    go_enter Tryz.func26, Tryz.ntmps26
    go_wp2_with fail
    refine (HTm.out _).mono ?_
    rintro e1 w1 ⟨rfl, rfl⟩
    go_wp2
    generalize hw2 : w.alloc (.cells #[.int .i64 sq, .int .i64 tm, .string who, .int .i64 ep] 64) = w2 at *
    obtain ⟨_, hc1, hc2, hc3⟩ := en_row HC0.out
    have hgl : w.heap.size < w2.heap.size := row_lt HC0.out
    have z1 := fun p : BelowAt w2 => p.cell hc1 hgl
    have HTq : Hid (∀ p : BelowAt w2, Calls Tryz.prog 31 #[.slice ad n cap] p.to fun e w'' => e = .returned (.int .i64 nw) ∧ ∃ q : BelowAt w2, w'' = q.to) := fun p => (HNw.out p.to ((HV.out.below HB0.out).below p.below)).mono fun _ _ ⟨e1, e2⟩ => ⟨e1, p, e2⟩
    have any1 : Nonempty (BelowAt w2) := BelowAt.any w2
    have HK2 := hide hc2
    have HK3 := hide hc3
    clear hc1 hc2 hc3
    refine wp_region_below (by kernel_rfl) (by kernel_rfl) ?_
    repeat (go_big_quiet_step (exact HTq.out _))
    refine wpQuiet_nil ?_
    intro _ hw'
    obtain ⟨pq, hw''⟩ := hw'
    subst hw''
    have HB3 : Hid (Below w.heap.size w pq.to) := HB0.out.trans (pq.below.mono HB0.out.size)
    have hvv : pq.to.cell? ⟨3, 0, none⟩ = some (eV (a 7)) := (HE.out.below HB3.out).var 7 (by decide) rfl
    have hk2 : pq.to.cell? ⟨w.heap.size, 2, none⟩ = some (.string who) := pq.cell HK2.out hgl
    have hk3 : pq.to.cell? ⟨w.heap.size, 3, none⟩ = some (.int .i64 ep) := pq.cell HK3.out hgl
    clear z1 HTq HK2 HK3
    generalize pq.to = w3 at *
    clear any1 hgl hw2 pq
  · go_wp2
    go_ret
    exact ⟨rfl, HB3.out⟩
  · have HB4 : Hid (Below w.heap.size w (w3.alloc (.cells #[.string who, .int .i64 ep] 24))) := HB3.out.alloc HB3.out.size _
    have HF4 := hide (fl_alone w3 who ep)
    go_wp2_with fail
    refine (HCk.out _ _ (HE.out.below HB4.out).fl HF4.out).mono ?_
    rintro e1 w4 ⟨ev, rfl, he, hb⟩
    have HB5 : Hid (Below w.heap.size w w4) := HB4.out.trans (hb.mono HB4.out.size)
    have HBa := hide (fdBare_any a ck ev w4 he)
    rw [HCs.out] at HBa
    clear hb he hk2 hk3 hvv
    generalize her : errV a c = er at HBa
    have HER := hide her
    clear her
    go_wp2_with fail
    refine HBa.out.mono ?_
    rintro e1 w5 ⟨rfl, rfl⟩
    go_wp2
    go_ret
    exact ⟨by rw [HER.out]; rfl, HB5.out⟩
end Go.Proofs.YtemdnmnbecapbacGreatDoor

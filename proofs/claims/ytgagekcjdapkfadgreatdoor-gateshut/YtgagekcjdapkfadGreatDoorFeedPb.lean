/-
  What package feed's newest, isTime, bare and checkBehind answer, for every entry and every list.
  What package feed's Check answers, for every list: the number of the first error, and its place.
  What package feed's Since and Floors give: those behind a number, the floors of a feed, in new memory, or an error; for every list.
  Floors as a text, plainly: pieces between a byte, one floor's text and what is read of it, and that what is written is read as it was.
  What package floor's Text gives: the text of right floors, or an error; for every list.
  What package feed's words, read and Open give: a head's words; of words the head, or ErrText; of a text the head, or an error; for every text.
  What package floor's Sum gives: the mark of a list's text, or 0, for every list.
  What package feed's Make gives: a head's text, sealed, or an error; for every key, list and time.
-/
import Derived.Test.YtgagekcjdapkfadGreatDoorFeedPa
import Derived.Stop.Asserts
import Derived.Deep.RegionHeld3
import Derived.Test.YtgagekcjdapkfadGreatDoorFloorPlain
import Derived.Test.YtgagekcjdapkfadGreatDoorSealPlain
import Derived.Test.YtgagekcjdapkfadGreatDoorFloorCheck
import Derived.Test.YtgagekcjdapkfadGreatDoorSealNumber
import Derived.Laws.MakeOwn
import Derived.Test.YtgagekcjdapkfadGreatDoorSealMake
import Derived.Test.YtgagekcjdapkfadGreatDoorMarkOf
namespace Go.Proofs.YtgagekcjdapkfadGreatDoor
open Go.RowKit Go.Extern.Stop Go.Stop Go.Extern Go.Proofs

theorem newL_last {l : List En} {m : Nat} (hm : l.length = m + 1) : newL l = (l[m]'(by omega)).time := by
  have e : l.getLast? = l[m]? := by rw [List.getLast?_eq_getElem?, show l.length - 1 = m by omega]
  unfold newL
  rw [e, List.getElem?_eq_getElem (by omega)]
theorem newL_nil : newL [] = 0 := rfl
set_option maxRecDepth 100000 in
set_option maxHeartbeats 1000000 in
theorem newest_any (v : Value) (l : List En) (w : World) (h : EnAt w v l) (hl : l.length ≤ 1000000) :
    Calls Tryz.prog 85 #[v] w fun e w' => e = .returned (.int .i64 (newL l)) ∧ w' = w := by
  by_cases hn : 0 < l.length
  · obtain ⟨m, hm⟩ : ∃ m, l.length = m + 1 := ⟨l.length - 1, by omega⟩
    obtain ⟨b, off, cap, rfl, hc, hb, _, hcell⟩ := h.at hn
    have c1 := (hcell m (by omega)).2.1
    rw [newL_last hm]
    generalize (l[m]'(by omega)).time = t at *
    rw [hm] at hc hl ⊢
    clear hcell h hn hm
    go_enter Tryz.func85, Tryz.ntmps85
    go_wp2
    go_ret
    exact ⟨rfl, rfl⟩
  · obtain rfl : l = [] := List.length_eq_zero_iff.1 (by omega)
    obtain ⟨ad, cap, rfl, hc⟩ := h.form
    show Calls Tryz.prog 85 #[.slice ad 0 cap] w _
    rw [newL_nil]
    go_enter Tryz.func85, Tryz.ntmps85
    go_wp2
    go_ret
    exact ⟨rfl, rfl⟩

theorem fdTime_any (n : Int) (w : World) :
    Calls Tryz.prog 84 #[.int .i64 n] w fun e w' => e = .returned (.bool (decide (0 ≤ n ∧ n ≤ 1000000))) ∧ w' = w := by
  by_cases h1 : 0 ≤ n
  · by_cases h2 : n ≤ 1000000
    · rw [decide_eq_true ⟨h1, h2⟩]
      go_enter Tryz.func84, Tryz.ntmps84
      go_wp2
      go_ret
      exact ⟨rfl, rfl⟩
    · rw [decide_eq_false (fun h => h2 h.2)]
      go_enter Tryz.func84, Tryz.ntmps84
      go_wp2
      go_ret
      exact ⟨by simp_all, rfl⟩
  · rw [decide_eq_false (fun h => h1 h.1)]
    go_enter Tryz.func84, Tryz.ntmps84
    go_wp2
    go_ret
    exact ⟨rfl, rfl⟩

theorem Tryz.asFaultN (xT : TypeId) (w : World) : (Instr.typeAssert .nilIface xT 148 true).run Tryz.prog w = .ok (.tuple #[.pointer none, .bool false]) w := by kernel_rfl
theorem Tryz.asFaultE (v : Value) (xT : TypeId) (w : World) : (Instr.typeAssert (.iface 300 v) xT 148 true).run Tryz.prog w = .ok (.tuple #[.pointer none, .bool false]) w := by kernel_rfl
theorem Tryz.asFaultF (v : Value) (xT : TypeId) (w : World) : (Instr.typeAssert (.iface 148 v) xT 148 true).run Tryz.prog w = .ok (.tuple #[v, .bool true]) w := by kernel_rfl
set_option maxRecDepth 100000 in
theorem fdBare_any (a : Nat → Addr) (c : Nat × Int) (ev : Value) (w : World) (h : FlErr a w c ev) :
    Calls Tryz.prog 83 #[ev] w fun e w' => e = .returned (errV a c.1) ∧ w' = w := by
  have q0 := Tryz.asFaultN
  have q1 := Tryz.asFaultE
  have q2 := Tryz.asFaultF
  rcases h with ⟨h0, rfl⟩ | ⟨h0, _, rfl⟩ | ⟨h0, b, rfl, hrow⟩
  · rw [h0, errV_zero]
    clear h0
    go_enter Tryz.func83, Tryz.ntmps83
    go_wp2
    go_ret
    exact ⟨rfl, rfl⟩
  · rw [errV_pos a h0]
    generalize a (c.1 - 1) = p at *
    clear h0
    go_enter Tryz.func83, Tryz.ntmps83
    go_wp2
    go_ret
    exact ⟨rfl, rfl⟩
  · rw [errV_pos a h0]
    generalize a (c.1 - 1) = p at *
    have c1 : w.cell? ⟨b, 1, none⟩ = some (eV p) := cell_of_row w b 1 _ _ _ hrow
    clear h0 hrow
    go_enter Tryz.func83, Tryz.ntmps83
    go_wp2
    go_ret
    exact ⟨rfl, rfl⟩

theorem check_single (f : Fl) : (checkL [f]).1 = oneE f := by
  have hb : badAt [f] 0 = oneE f := by
    show behindE [] f = oneE f
    unfold behindE
    by_cases h : oneE f = 0
    · have hp := (one_pos h).1
      rw [if_pos h, if_neg (by rintro ⟨g, hg, _⟩; cases hg), if_neg (by show ¬ f.ep ≤ 0; omega), h]
    · rw [if_neg h]
  by_cases h : oneE f = 0
  · rw [check_good (by simp) (fun j hj => by
      obtain rfl : j = 0 := by simpa using hj
      rw [hb, h]), h]
  · rw [check_bad (k := 0) (by simp) (by simp) (fun j hj => absurd hj (Nat.not_lt_zero _)) (by rw [hb]; exact h), hb]

/-- An entry's block. -/
abbrev enO (e : En) : Obj := .cells #[.int .i64 e.seq, .int .i64 e.time, .string e.fl.who, .int .i64 e.fl.ep] 101 (0, 0)
theorem en_row {w : World} {g : Nat} {s t ep : Int} {who : ByteArray} (h : w.heap[g]? = some (.cells #[.int .i64 s, .int .i64 t, .string who, .int .i64 ep] 101 (0, 0))) :
    w.cell? ⟨g, 0, none⟩ = some (.int .i64 s) ∧ w.cell? ⟨g, 1, none⟩ = some (.int .i64 t) ∧ w.cell? ⟨g, 2, none⟩ = some (.string who) ∧ w.cell? ⟨g, 3, none⟩ = some (.int .i64 ep) :=
  ⟨cell_of_row w g 0 _ _ _ h, cell_of_row w g 1 _ _ _ h, cell_of_row w g 2 _ _ _ h, cell_of_row w g 3 _ _ _ h⟩
theorem fl_alone (w : World) (who : ByteArray) (ep : Int) : FlAt (w.alloc (.cells #[.string who, .int .i64 ep] 98)) (.slice (some ⟨w.heap.size, 0, none⟩) 1 1) [⟨who, ep⟩] :=
  Or.inr ⟨w.heap.size, 0, 1, rfl, Nat.le_refl _, fun j u hu => by
    rw [Nat.zero_add, cell_of_row _ _ j _ _ _ (heap_alloc_new w (.cells #[.string who, .int .i64 ep] 98))]
    rw [show cellsF [⟨who, ep⟩] = (#[.string who, .int .i64 ep] : Array Value).toList from rfl, Array.getElem?_toList] at hu
    exact hu⟩

set_option maxRecDepth 100000 in
set_option maxHeartbeats 4000000 in
theorem fdBehind_any (a : Nat → Addr) (v : Value) (l : List En) (e : En) (w : World) (h : EV fdS a w) (hs : e.fl.who.size ≤ maxLen) (hv : EnAt w v l) (hl : l.length ≤ 1000000) :
    Calls Tryz.prog 122 #[v, e.val] w fun r w' => r = .returned (errV a (entE l.length (newL l) e)) ∧ Below w.heap.size w w' := by
  have HNw := hide (fun w h => newest_any v l w h hl)
  have HTm := hide (fun w => fdTime_any e.time w)
  have HCk := hide (fun v1 w h h1 => check_any a v1 [e.fl] w h h1 (fun f hf => by rw [List.mem_singleton.1 hf]; exact hs) (by simp))
  have hck1 := check_single e.fl
  have HE := hide h
  have HV := hide hv
  obtain ⟨ad, cap, rfl, hcap⟩ := hv.form
  have hcase : (e.seq ≠ (l.length : Int) + 1 ∧ entE l.length (newL l) e = 15) ∨ (e.seq = (l.length : Int) + 1 ∧ ¬ (0 ≤ e.time ∧ e.time ≤ 1000000) ∧ entE l.length (newL l) e = 2) ∨
      (e.seq = (l.length : Int) + 1 ∧ (0 ≤ e.time ∧ e.time ≤ 1000000) ∧ e.time < newL l ∧ entE l.length (newL l) e = 8) ∨ (e.seq = (l.length : Int) + 1 ∧ (0 ≤ e.time ∧ e.time ≤ 1000000) ∧ ¬ e.time < newL l ∧ entE l.length (newL l) e = oneE e.fl) := by
    unfold entE
    by_cases h1 : e.seq = (l.length : Int) + 1
    · by_cases h2 : 0 ≤ e.time ∧ e.time ≤ 1000000
      · by_cases h3 : e.time < newL l
        · exact Or.inr (Or.inr (Or.inl ⟨h1, h2, h3, by rw [if_pos h1, if_pos h2, if_pos h3]⟩))
        · exact Or.inr (Or.inr (Or.inr ⟨h1, h2, h3, by rw [if_pos h1, if_pos h2, if_neg h3]⟩))
      · exact Or.inr (Or.inl ⟨h1, h2, by rw [if_pos h1, if_neg h2]⟩)
    · exact Or.inl ⟨h1, by rw [if_neg h1]⟩
  have HB0 : Hid (Below w.heap.size w (w.alloc (.cells #[.int .i64 e.seq, .int .i64 e.time, .string e.fl.who, .int .i64 e.fl.ep] 101))) := (Below.refl _ _).alloc (Nat.le_refl _) _
  have HC0 : Hid ((w.alloc (.cells #[.int .i64 e.seq, .int .i64 e.time, .string e.fl.who, .int .i64 e.fl.ep] 101)).heap[w.heap.size]? = some (.cells #[.int .i64 e.seq, .int .i64 e.time, .string e.fl.who, .int .i64 e.fl.ep] 101 (0, 0))) := heap_alloc_new _ _
  show Calls Tryz.prog 122 #[.slice ad l.length cap, .agg #[.int .i64 e.seq, .int .i64 e.time, .string e.fl.who, .int .i64 e.fl.ep]] w _
  clear h hv hs
  generalize entE l.length (newL l) e = c at *
  generalize newL l = nw at *
  have hfe : e.fl = ⟨e.fl.who, e.fl.ep⟩ := rfl
  rw [hfe] at HCk hck1
  have HCs := hide hck1
  clear hfe hck1
  generalize hn : l.length = n at *
  clear hn
  generalize e.seq = sq at *
  generalize e.time = tm at *
  generalize oneE _ = one at *
  generalize checkL _ = ck at *
  generalize e.fl.who = who at *
  generalize e.fl.ep = ep at *
  rcases hcase with ⟨h1, rfl⟩ | ⟨h1, h2, rfl⟩ | ⟨h1, h2, h3, rfl⟩ | ⟨h1, h2, h3, rfl⟩
  · have hq : (sq == (n : Int) + 1) = false := beq_eq_false_iff_ne.2 h1
    have hvv : (w.alloc (.cells #[.int .i64 sq, .int .i64 tm, .string who, .int .i64 ep] 101)).cell? ⟨14, 0, none⟩ = some (eV (a 14)) := (HE.out.below HB0.out).var 14 (by decide) rfl
    clear h1
    go_enter Tryz.func122, Tryz.ntmps122
    go_wp2
    go_ret
    exact ⟨rfl, HB0.out⟩
  · have hq : (sq == (n : Int) + 1) = true := beq_iff_eq.2 h1
    have hvv : (w.alloc (.cells #[.int .i64 sq, .int .i64 tm, .string who, .int .i64 ep] 101)).cell? ⟨0, 0, none⟩ = some (eV (a 1)) := (HE.out.below HB0.out).var 1 (by decide) rfl
    rw [decide_eq_false h2] at HTm
    clear h1 h2
    go_enter Tryz.func122, Tryz.ntmps122
    go_wp2_with fail
    refine (HTm.out _).mono ?_
    rintro e1 w1 ⟨rfl, rfl⟩
    go_wp2
    go_ret
    exact ⟨rfl, HB0.out⟩
  all_goals
    have hq : (sq == (n : Int) + 1) = true := beq_iff_eq.2 h1
    rw [decide_eq_true h2] at HTm
    clear h1 h2
    go_enter Tryz.func122, Tryz.ntmps122
    go_wp2_with fail
    refine (HTm.out _).mono ?_
    rintro e1 w1 ⟨rfl, rfl⟩
    go_wp2
    generalize hw2 : w.alloc (.cells #[.int .i64 sq, .int .i64 tm, .string who, .int .i64 ep] 101) = w2 at *
    obtain ⟨_, hc1, hc2, hc3⟩ := en_row HC0.out
    have hgl : w.heap.size < w2.heap.size := row_lt HC0.out
    have z1 := fun p : BelowAt w2 => p.cell hc1 hgl
    have HTq : Hid (∀ p : BelowAt w2, Calls Tryz.prog 85 #[.slice ad n cap] p.to fun e w'' => e = .returned (.int .i64 nw) ∧ ∃ q : BelowAt w2, w'' = q.to) := fun p => (HNw.out p.to ((HV.out.below HB0.out).below p.below)).mono fun _ _ ⟨e1, e2⟩ => ⟨e1, p, e2⟩
    have any1 : Nonempty (BelowAt w2) := BelowAt.any w2
    have HK2 := hide hc2
    have HK3 := hide hc3
    clear hc1 hc2 hc3
    refine wp_region_below (by kernel_rfl) (by kernel_rfl) ?_
    repeat (go_big_quiet_step (exact HTq.out _))
    refine wpQuiet_nil ?_
    intro _ hw'
    obtain ⟨pq, hw''⟩ := hw'
    subst hw''
    have HB3 : Hid (Below w.heap.size w pq.to) := HB0.out.trans (pq.below.mono HB0.out.size)
    have hvv : pq.to.cell? ⟨10, 0, none⟩ = some (eV (a 7)) := (HE.out.below HB3.out).var 7 (by decide) rfl
    have hk2 : pq.to.cell? ⟨w.heap.size, 2, none⟩ = some (.string who) := pq.cell HK2.out hgl
    have hk3 : pq.to.cell? ⟨w.heap.size, 3, none⟩ = some (.int .i64 ep) := pq.cell HK3.out hgl
    clear z1 HTq HK2 HK3
    generalize pq.to = w3 at *
    clear any1 hgl hw2 pq
  · go_wp2
    go_ret
    exact ⟨rfl, HB3.out⟩
  · have HB4 : Hid (Below w.heap.size w (w3.alloc (.cells #[.string who, .int .i64 ep] 98))) := HB3.out.alloc HB3.out.size _
    have HF4 := hide (fl_alone w3 who ep)
    go_wp2_with fail
    refine (HCk.out _ _ (HE.out.below HB4.out).fl HF4.out).mono ?_
    rintro e1 w4 ⟨ev, rfl, he, hb⟩
    have HB5 : Hid (Below w.heap.size w w4) := HB4.out.trans (hb.mono HB4.out.size)
    have HBa := hide (fdBare_any a ck ev w4 he)
    rw [HCs.out] at HBa
    clear hb he hk2 hk3 hvv
    generalize her : errV a c = er at HBa
    have HER := hide her
    clear her
    go_wp2_with fail
    refine HBa.out.mono ?_
    rintro e1 w5 ⟨rfl, rfl⟩
    go_wp2
    go_ret
    exact ⟨by rw [HER.out]; rfl, HB5.out⟩
end Go.Proofs.YtgagekcjdapkfadGreatDoor

namespace Go.Proofs.YtgagekcjdapkfadGreatDoor
open Go.RowKit Go.Extern.Stop Go.Stop Go.Extern Go.Proofs

set_option maxRecDepth 100000 in
set_option maxHeartbeats 4000000 in
theorem fdCheck_any (a : Nat → Addr) (v : Value) (l : List En) (w : World) (h : EV fdS a w) (hv : EnAt w v l) (hs : ∀ e ∈ l, e.fl.who.size ≤ maxLen) (hl : l.length ≤ 1000000) :
    Calls Tryz.prog 81 #[v] w fun e w' => ∃ ev, e = .returned ev ∧ FlErr a w' (feedC l) ev ∧ Below w.heap.size w w' := by
  by_cases h60 : 60 < l.length
  · obtain ⟨ad, cap, rfl, hc⟩ := hv.form
    rw [feed_full h60]
    have hvv : w.cell? ⟨6, 0, none⟩ = some (eV (a 6)) := h.var 6 (by decide) rfl
    clear h hv hs
    generalize l.length = n at *
    have hz : (60 : Int) < (n : Int) := by omega
    go_enter Tryz.func81, Tryz.ntmps81
    go_wp2
    go_ret
    exact ⟨_, rfl, Or.inr (Or.inl ⟨by decide, rfl, rfl⟩), Below.refl _ _⟩
  · obtain ⟨ad, cap, rfl, hc⟩ := hv.form
    have HV := hide hv
    have HE := hide h
    have HS := hide hs
    have HL := hide h60
    generalize hn : l.length = n at *
    have HN := hide hn
    have hz : ¬ (60 : Int) < (n : Int) := by omega
    clear h hv hs hn
    go_enter Tryz.func81, Tryz.ntmps81
    go_wp2
    go_loopg [3, 4, 5, 12] n (fun gg _ _ _ s12 wr => ∃ k : Nat, k ≤ n ∧ n - k ≤ gg ∧ s12 = .int .i64 k ∧ Hid (Below w.heap.size w wr) ∧ Hid (∀ j, j < k → badE l j = 0))
    case atStart => exact ⟨0, Nat.zero_le _, by omega, rfl, Below.refl _ _, fun j hj => absurd hj (Nat.not_lt_zero _)⟩
    case round =>
      obtain ⟨k, hk, hg, rfl, HB, A⟩ := hrel
      by_cases hlt : k < n
      · have hltz : (k : Int) < (n : Int) := by omega
        have hkl : k < l.length := by rw [HN.out]; exact hlt
        have hvr := HV.out.below HB.out
        rw [← HN.out] at hvr
        obtain ⟨b, off, cap', e, hc', hb, hcl, hcell⟩ := hvr.at (by omega)
        injection e with e1 e2 e3
        subst e1; subst e3
        obtain ⟨c0, c1, c2, c3⟩ := hcell k hkl
        obtain ⟨f, hf⟩ : ∃ f, f = l[k] := ⟨_, rfl⟩
        have hbad : badE l k = entE (l.take k).length (newL (l.take k)) f := by rw [bad_at hkl, hf, List.length_take, Nat.min_eq_left (Nat.le_of_lt hkl)]
        have hfs : f.fl.who.size ≤ maxLen := HS.out f (by rw [hf]; exact List.getElem_mem _)
        rw [← hf] at c0 c1 c2 c3
        have HT : Hid (EnAt wr (.slice (some ⟨b, off, none⟩) k cap) (l.take k)) := EnAt.take hc' hcl k (by omega)
        have HCk := hide (fun w h hv => fdBehind_any a (.slice (some ⟨b, off, none⟩) k cap) (l.take k) f w h hfs hv (by rw [List.length_take]; omega))
        rw [← hbad] at HCk
        have HEr := hide (HE.out.below HB.out)
        have HA : Hid (Below wr.heap.size wr (wr.alloc (.cells #[.int .i64 f.seq, .int .i64 f.time, .string f.fl.who, .int .i64 f.fl.ep] 101))) := (Below.refl _ _).alloc (Nat.le_refl _) _
        have HR : Hid ((wr.alloc (.cells #[.int .i64 f.seq, .int .i64 f.time, .string f.fl.who, .int .i64 f.fl.ep] 101)).heap[wr.heap.size]? = some (.cells #[.int .i64 f.seq, .int .i64 f.time, .string f.fl.who, .int .i64 f.fl.ep] 101 (0, 0))) := heap_alloc_new _ _
        have HCa : Hid (∀ p : BelowAt (wr.alloc (.cells #[.int .i64 f.seq, .int .i64 f.time, .string f.fl.who, .int .i64 f.fl.ep] 101)), Calls Tryz.prog 122 #[.slice (some ⟨b, off, none⟩) k cap, .agg #[.int .i64 f.seq, .int .i64 f.time, .string f.fl.who, .int .i64 f.fl.ep]] p.to fun e w'' => e = .returned (errV a (badE l k)) ∧ ∃ q : BelowAt (wr.alloc (.cells #[.int .i64 f.seq, .int .i64 f.time, .string f.fl.who, .int .i64 f.fl.ep] 101)), w'' = q.to) :=
          fun p => BelowAt.calls (HCk.out p.to ((HEr.out.below HA.out).below p.below) ((HT.out.below HA.out).below p.below))
        clear hcell hcl hvr hf hbad hfs HT HCk HEr hb
        generalize f.seq = sq at *
        generalize f.time = tm at *
        generalize f.fl.who = who at *
        generalize f.fl.ep = ep at *
        clear f
        have hco : k ≤ cap := by omega
        go_wp2_with fail
        generalize hw2 : wr.alloc (.cells #[.int .i64 sq, .int .i64 tm, .string who, .int .i64 ep] 101) = w2 at *
        obtain ⟨hd0, hd1, hd2, hd3⟩ := en_row HR.out
        have hgl : wr.heap.size < w2.heap.size := row_lt HR.out
        have z0 := fun p : BelowAt w2 => p.cell hd0 hgl
        have z1 := fun p : BelowAt w2 => p.cell hd1 hgl
        have z2 := fun p : BelowAt w2 => p.cell hd2 hgl
        have z3 := fun p : BelowAt w2 => p.cell hd3 hgl
        have any1 : Nonempty (BelowAt w2) := BelowAt.any w2
        have HB2 : Hid (Below w.heap.size w w2) := HB.out.trans (HA.out.mono HB.out.size)
        clear c0 c1 c2 c3 hd0 hd1 hd2 hd3
        by_cases hb0 : badE l k = 0
        · rw [hb0, errV_zero] at HCa
          refine wp_region_below (by kernel_rfl) (by kernel_rfl) ?_
          repeat (go_big_quiet_step (exact HCa.out _))
          refine wpQuiet_nil ?_
          intro _ hw'
          obtain ⟨pq, hw''⟩ := hw'
          subst hw''
          have HB3 : Hid (Below w.heap.size w pq.to) := HB2.out.trans (pq.below.mono HB2.out.size)
          clear z0 z1 z2 z3 HCa HA HR
          go_wp2
          go_roundg (n - (k + 1))
          case measure => omega
          case rel =>
            refine ⟨k + 1, by omega, by omega, by go_num, HB3, (show Hid _ from fun j hj => ?_)⟩
            by_cases e : j = k
            · subst e; exact hb0
            · exact A.out j (by omega)
        · rw [errV_pos a hb0] at HCa
          have HK := hide (feed_bad (l := l) (by rw [HN.out]; exact HL.out) hkl A.out hb0)
          have HBa := hide hb0
          generalize badE l k = c at *
          refine wp_region_below (by kernel_rfl) (by kernel_rfl) ?_
          repeat (go_big_quiet_step (exact HCa.out _))
          refine wpQuiet_nil ?_
          intro _ hw'
          obtain ⟨pq, hw''⟩ := hw'
          subst hw''
          have HB3 : Hid (Below w.heap.size w pq.to) := HB2.out.trans (pq.below.mono HB2.out.size)
          clear z0 z1 z2 z3 HCa HA HR hb0
          generalize hea : a (c - 1) = ea at *
          have HEa := hide hea
          clear hea
          go_wp2
          go_ret
          exact ⟨_, rfl, by rw [HK.out]; exact Or.inr (Or.inr ⟨HBa.out, _, rfl, by rw [HEa.out]; exact heap_alloc_new _ _⟩), HB3.out.alloc HB3.out.size _⟩
      · have : k = n := by omega
        subst this
        have HK := hide (feed_good (l := l) (by rw [HN.out]; exact HL.out) (by rw [HN.out]; exact A.out))
        have hltz : ¬ (k : Int) < (k : Int) := by omega
        go_wp2
        go_ret
        exact ⟨_, rfl, by rw [HK.out]; exact Or.inl ⟨rfl, rfl⟩, HB.out⟩
end Go.Proofs.YtgagekcjdapkfadGreatDoor

namespace Go.Proofs.YtgagekcjdapkfadGreatDoor
open Go.RowKit Go.Extern.Stop Go.Stop Go.Extern Go.Proofs

set_option maxRecDepth 100000 in
set_option maxHeartbeats 4000000 in
theorem since_any (a : Nat → Addr) (v : Value) (l : List En) (seq : Int) (w : World) (h : EV fdS a w) (hv : EnAt w v l) (hs : ∀ e ∈ l, e.fl.who.size ≤ maxLen) (hl : l.length ≤ 1000000) :
    Calls Tryz.prog 103 #[v, .int .i64 seq] w fun e w' => FeedPost a (sinceC l seq) (sinceR l seq) w.heap.size e w' ∧ Below w.heap.size w w' := by
  have HC := hide (fdCheck_any a v l w h hv hs hl)
  have HE := hide h
  have HV := hide hv
  clear h hs
  by_cases h0 : (feedC l).1 = 0
  · have hR : sinceC l seq = (if seq < 0 then (2, -1) else if (l.length : Int) < seq then (15, -1) else (0, -1)) := if_pos h0
    by_cases hneg : seq < 0
    · rw [if_pos hneg] at hR
      have hRR : sinceR l seq = [] := by unfold sinceR; rw [hR]; rfl
      rw [hR, hRR]
      clear hR hRR hv
      generalize feedC l = c at *
      go_enter Tryz.func103, Tryz.ntmps103
      go_wp2_with fail
      refine HC.out.mono ?_
      rintro e w1 ⟨ev, rfl, he, hb⟩
      obtain rfl := he.none h0
      have HB1 := hide hb
      have hvv : w1.cell? ⟨0, 0, none⟩ = some (eV (a 1)) := (HE.out.below hb).var 1 (by decide) rfl
      clear he hb h0
      go_wp2
      go_quiet (fail)
      go_wp2
      go_ret2
      exact ⟨⟨_, _, rfl, OwnE.nil _ _, Or.inr (Or.inl ⟨by decide, rfl, rfl⟩), fun _ => rfl⟩, below_drewN HB1.out _⟩
    · rw [if_neg hneg] at hR
      by_cases hbig : (l.length : Int) < seq
      · rw [if_pos hbig] at hR
        have hRR : sinceR l seq = [] := by unfold sinceR; rw [hR]; rfl
        rw [hR, hRR]
        obtain ⟨ad, cap, rfl, hcap⟩ := hv.form
        clear hR hRR hv
        generalize feedC l = c at *
        generalize l.length = n at *
        go_enter Tryz.func103, Tryz.ntmps103
        go_wp2_with fail
        refine HC.out.mono ?_
        rintro e w1 ⟨ev, rfl, he, hb⟩
        obtain rfl := he.none h0
        have HB1 := hide hb
        have hvv : w1.cell? ⟨14, 0, none⟩ = some (eV (a 14)) := (HE.out.below hb).var 14 (by decide) rfl
        clear he hb h0
        go_wp2
        go_quiet (fail)
        go_wp2
        go_ret2
        exact ⟨⟨_, _, rfl, OwnE.nil _ _, Or.inr (Or.inl ⟨by decide, rfl, rfl⟩), fun _ => rfl⟩, below_drewN HB1.out _⟩
      · rw [if_neg hbig] at hR
        obtain ⟨k, rfl⟩ : ∃ k : Nat, seq = (k : Int) := ⟨seq.toNat, by omega⟩
        have hRR : sinceR l (k : Int) = l.drop k := by unfold sinceR; rw [hR]; rfl
        rw [hR, hRR]
        have hkl : k ≤ l.length := by omega
        have HCl := hide (fun v w h => cloneE_any v (l.drop k) w h (by rw [List.length_drop]; omega))
        have HD : Hid (∀ w b off cap, l.length ≤ cap → (∀ j u, (cellsE l)[j]? = some u → w.cell? ⟨b, off + j, none⟩ = some u) → EnAt w (.slice (some ⟨b, off + k * 4, none⟩) (l.length - k) (cap - k)) (l.drop k)) := fun w b off cap h2 h3 => EnAt.drop h3 k _ _ rfl (by omega)
        by_cases hn : 0 < l.length
        · obtain ⟨b, off, cap, rfl, hcap, hbl, hcell, hrest⟩ := hv.at hn
          clear hrest
          have HCe := hide hcell
          have HBl := hide hbl
          have HNil : Hid (l.length ≤ k → ∀ w ad c, EnAt w (.slice ad 0 c) (l.drop k)) := fun h w ad c => Or.inl ⟨ad, c, rfl, List.drop_of_length_le h⟩
          clear hR hRR hv hcell hbl
          generalize feedC l = c at *
          generalize hnn : l.length = n at *
          have HN := hide hnn
          clear hnn
          by_cases hkc : k < cap
          · go_enter Tryz.func103, Tryz.ntmps103
            go_wp2_with fail
            refine HC.out.mono ?_
            rintro e w1 ⟨ev, rfl, he, hb⟩
            obtain rfl := he.none h0
            have HB1 := hide hb
            have HD1 := hide (HD.out w1 b off cap hcap (fun j u hu => (hb.cell (p := ⟨b, off + j, none⟩) HBl.out).trans (HCe.out j u hu)))
            clear he hb h0 HD HCe
            go_wp2_with fail
            refine (HCl.out _ _ HD1.out).mono ?_
            rintro e w2 ⟨v2, rfl, hown, hb⟩
            have HB2 : Hid (Below w.heap.size w w2) := HB1.out.trans (hb.mono HB1.out.size)
            have HO2 := hide hown
            clear hown hb
            go_wp2
            go_ret2
            exact ⟨⟨_, _, rfl, OwnE.less HO2.out HB1.out.size, Or.inl ⟨rfl, rfl⟩, fun h => absurd rfl h⟩, HB2.out⟩
          · obtain rfl : cap = k := by omega
            obtain rfl : n = cap := by omega
            have HNi2 := hide (HNil.out (Nat.le_refl _))
            go_enter Tryz.func103, Tryz.ntmps103
            go_wp2_with fail
            refine HC.out.mono ?_
            rintro e w1 ⟨ev, rfl, he, hb⟩
            obtain rfl := he.none h0
            have HB1 := hide hb
            clear he hb h0 HD HCe HNil
            go_wp2_with fail
            try rw [Nat.sub_self]
            refine (HCl.out _ _ (HNi2.out _ _ _)).mono ?_
            rintro e w2 ⟨v2, rfl, hown, hb⟩
            have HB2 : Hid (Below w.heap.size w w2) := HB1.out.trans (hb.mono HB1.out.size)
            have HO2 := hide hown
            clear hown hb
            go_wp2
            go_ret2
            exact ⟨⟨_, _, rfl, OwnE.less HO2.out HB1.out.size, Or.inl ⟨rfl, rfl⟩, fun h => absurd rfl h⟩, HB2.out⟩
        · obtain rfl : l = [] := List.length_eq_zero_iff.1 (by omega)
          obtain rfl : k = 0 := by simpa using hkl
          obtain ⟨ad, cap, rfl, hcap⟩ := hv.form
          have HD2 : Hid (∀ w ad cap, EnAt w (.slice ad 0 cap) (([] : List En).drop 0)) := fun w ad cap => Or.inl ⟨ad, cap, rfl, rfl⟩
          clear hR hRR hv HD hkl hn hneg hbig
          generalize feedC [] = c at *
          show Calls Tryz.prog 103 #[.slice ad 0 cap, .int .i64 0] w _
          cases ad with
          | none =>
            go_enter Tryz.func103, Tryz.ntmps103
            go_wp2_with fail
            refine HC.out.mono ?_
            rintro e w1 ⟨ev, rfl, he, hb⟩
            obtain rfl := he.none h0
            have HB1 := hide hb
            clear he hb h0
            go_wp2_with fail
            refine (HCl.out _ _ (HD2.out _ _ _)).mono ?_
            rintro e w2 ⟨v2, rfl, hown, hb⟩
            have HB2 : Hid (Below w.heap.size w w2) := HB1.out.trans (hb.mono HB1.out.size)
            have HO2 := hide hown
            clear hown hb
            go_wp2
            go_ret2
            exact ⟨⟨_, _, rfl, OwnE.less HO2.out HB1.out.size, Or.inl ⟨rfl, rfl⟩, fun h => absurd rfl h⟩, HB2.out⟩
          | some ad =>
            go_enter Tryz.func103, Tryz.ntmps103
            go_wp2_with fail
            refine HC.out.mono ?_
            rintro e w1 ⟨ev, rfl, he, hb⟩
            obtain rfl := he.none h0
            have HB1 := hide hb
            clear he hb h0
            go_wp2_with fail
            refine (HCl.out _ _ (HD2.out _ _ _)).mono ?_
            rintro e w2 ⟨v2, rfl, hown, hb⟩
            have HB2 : Hid (Below w.heap.size w w2) := HB1.out.trans (hb.mono HB1.out.size)
            have HO2 := hide hown
            clear hown hb
            go_wp2
            go_ret2
            exact ⟨⟨_, _, rfl, OwnE.less HO2.out HB1.out.size, Or.inl ⟨rfl, rfl⟩, fun h => absurd rfl h⟩, HB2.out⟩
  · have hR : sinceC l seq = feedC l := if_neg h0
    have hRR : sinceR l seq = [] := by unfold sinceR; rw [hR, if_neg h0]
    rw [hR, hRR]
    clear hR hRR hv
    generalize feedC l = c at *
    have HH := hide h0
    go_enter Tryz.func103, Tryz.ntmps103
    go_wp2_with fail
    refine HC.out.mono ?_
    rintro e w1 ⟨ev, rfl, he, hb⟩
    have HEr := hide he
    have HB1 := hide hb
    rcases he.cases with ⟨e0, _⟩ | ⟨_, tt, pp, rfl⟩
    · exact absurd e0 HH.out
    · clear he hb h0
      go_wp2
      go_ret2
      exact ⟨⟨_, _, rfl, OwnE.nil _ _, HEr.out, fun _ => rfl⟩, HB1.out⟩

/-- What Floors gives: a list of floors in memory of one's own, and an error. -/
theorem small_fls : ∀ (l : List En) (x b : List Fl), (∀ e ∈ l, e.fl.who.size ≤ maxLen) → (∀ f ∈ x, f.who.size ≤ maxLen) → l.foldl stepO (some x) = some b → ∀ f ∈ b, f.who.size ≤ maxLen
  | [], x, b, _, h2, h => by
    obtain rfl : x = b := Option.some.inj h
    exact h2
  | e :: l, x, b, h1, h2, h => by
    by_cases h0 : (raiseC x e.fl).1 = 0
    · refine small_fls l (raisedL x e.fl) b (fun e' he' => h1 e' (by simp [he'])) (small_raised h2 (h1 e (by simp))) ?_
      rw [← h, List.foldl_cons, show stepO (some x) e = some (raisedL x e.fl) from if_pos h0]
    · exfalso
      rw [List.foldl_cons, show stepO (some x) e = none from if_neg h0, step_none] at h
      cases h
theorem small_floors {l : List En} (hs : ∀ e ∈ l, e.fl.who.size ≤ maxLen) : ∀ f ∈ floorsR l, f.who.size ≤ maxLen := by
  by_cases h : (floorsC l).1 = 0
  · exact small_fls l [] _ hs (fun f hf => by cases hf) (floors_zero h).2
  · have : floorsR l = [] := if_neg h
    rw [this]
    intro f hf; cases hf

set_option maxRecDepth 100000 in
set_option maxHeartbeats 4000000 in
theorem floors_any (a : Nat → Addr) (v : Value) (l : List En) (w : World) (h : EV fdS a w) (hv : EnAt w v l) (hs : ∀ e ∈ l, e.fl.who.size ≤ maxLen) (hl : l.length ≤ 1000000) :
    Calls Tryz.prog 76 #[v] w fun e w' => ListPost a (floorsC l) (floorsR l) w.heap.size e w' ∧ Below w.heap.size w w' := by
  have HC := hide (fdCheck_any a v l w h hv hs hl)
  have HE := hide h
  have HV := hide hv
  have HS := hide hs
  clear h hs
  by_cases h0 : (feedC l).1 = 0
  · have HOne := hide (feed_one h0)
    have HNo := hide (fun h2 => floors_none h0 h2)
    have HYes := hide (fun b h2 => floors_some (b := b) h0 h2)
    have HBad : Hid ((floorsC l).1 ≠ 0 → floorsR l = []) := fun h => if_neg h
    obtain ⟨ad, cap, rfl, hcap⟩ := hv.form
    generalize hc : feedC l = c at *
    generalize hn : l.length = n at *
    have HN := hide hn
    clear hv hn hc
    generalize floorsC l = fc at *
    generalize floorsR l = fr at *
    go_enter Tryz.func76, Tryz.ntmps76
    go_wp2_with fail
    refine HC.out.mono ?_
    rintro e w1 ⟨ev, rfl, he, hb⟩
    obtain rfl := he.none h0
    have HB1 := hide hb
    clear he hb h0
    go_wp2
    go_loopg [5, 7, 8, 9, 17] n (fun gg s5 _ _ _ s17 wr => ∃ k : Nat, k ≤ n ∧ n - k ≤ gg ∧ s17 = .int .i64 k ∧ Hid (Below w.heap.size w wr) ∧ ∃ x, Hid (flsO (l.take k) = some x) ∧ Hid (OwnF wr w.heap.size s5 x))
    case atStart => exact ⟨0, Nat.zero_le _, by omega, rfl, HB1.out, [], rfl, OwnF.nil _ _⟩
    case round =>
      clear HB1
      obtain ⟨k, hk, hgg, rfl, HB, x, HX, HO⟩ := hrel
      by_cases hlt : k < n
      · have hltz : (k : Int) < (n : Int) := by omega
        have hkl : k < l.length := by rw [HN.out]; exact hlt
        have hvr := HV.out.below HB.out
        rw [← HN.out] at hvr
        obtain ⟨b, off, cap', e, hc', hb, _, hcell⟩ := hvr.at (by omega)
        injection e with e1 e2 e3
        subst e1; subst e3
        obtain ⟨c0, c1, c2, c3⟩ := hcell k hkl
        obtain ⟨hr, hx21⟩ := fls_ok HX.out
        have hx1 := small_fls (l.take k) [] x (fun e he => HS.out e (List.mem_of_mem_take he)) (fun f hf => by cases hf) HX.out
        have hfs : (l[k]).fl.who.size ≤ maxLen := HS.out _ (List.getElem_mem _)
        have HRc := hide (raiseC_right hr hx21 (HOne.out _ (List.getElem_mem hkl)))
        have HBa : Hid (Below w.heap.size w (wr.alloc (.cells #[.int .i64 l[k].seq, .int .i64 l[k].time, .string l[k].fl.who, .int .i64 l[k].fl.ep] 101))) := HB.out.alloc HB.out.size _
        have HRa := hide (raise_any a u5 x l[k].fl (wr.alloc (.cells #[.int .i64 l[k].seq, .int .i64 l[k].time, .string l[k].fl.who, .int .i64 l[k].fl.ep] 101)) (HE.out.below HBa.out).fl (HO.out.flAt.below ((Below.refl _ _).alloc (Nat.le_refl _) _)) hx1 hfs (by omega))
        unfold Fl.val at HRa
        have HSt : Hid (flsO (l.take (k + 1)) = if (raiseC x l[k].fl).1 = 0 then some (raisedL x l[k].fl) else none) := by
          show _ = _
          rw [fls_take l k hkl, HX.out]
          rfl
        have HZ : Hid ((raiseC x l[k].fl).1 = 0 → raiseR x l[k].fl = raisedL x l[k].fl) := fun h => (raiseC_zero h).2.2.2.2.2
        have HCut := hide (fls_cut l (k + 1))
        clear hcell hvr hr hx21 hx1 hfs
        generalize raiseC x l[k].fl = rc at *
        generalize raiseR x l[k].fl = rr at *
        generalize raisedL x l[k].fl = rd at *
        generalize l[k].seq = sq at *
        generalize l[k].time = tm at *
        generalize l[k].fl.who = who at *
        generalize l[k].fl.ep = ep at *
        go_wp2_with fail
        refine HRa.out.mono ?_
        rintro e w4 ⟨⟨v4, ev4, rfl, hown, herr, hnil⟩, hb4⟩
        have HB4 : Hid (Below w.heap.size w w4) := HBa.out.trans (hb4.mono HBa.out.size)
        have HEr := hide herr
        rcases herr.cases with ⟨z0, rfl⟩ | ⟨z0, tt, pp, rfl⟩
        · have HO4 : Hid (OwnF w4 w.heap.size v4 rd) := by
            rw [HZ.out z0] at hown
            exact OwnF.less hown HBa.out.size
          have HX4 : Hid (flsO (l.take (k + 1)) = some rd) := by show _ = _; rw [HSt.out, if_pos z0]
          clear hown herr hnil hb4 z0 HRa HEr HRc HSt HZ HCut
          go_wp2
          go_roundg (n - (k + 1))
          case measure => omega
          case rel => exact ⟨k + 1, by omega, by omega, by go_num, HB4, rd, HX4, HO4⟩
        · have hfc : fc = (7, -1) := HNo.out (HCut.out (by rw [HSt.out, if_neg z0]))
          have hrc : rc = (7, -1) := by
            have := HRc.out
            split at this
            · exact this
            · rw [this] at z0; exact absurd rfl z0
          have HFr := hide (HBad.out (by rw [hfc]; decide))
          have HFc := hide hfc
          have HBr := hide (fdBare_any a rc (.iface tt pp) w4 HEr.out)
          rw [hrc, show errV a (7, (-1 : Int)).1 = eV (a 6) from rfl] at HBr
          clear hown herr hnil hb4 z0 HRa HEr HRc HSt HZ HCut hfc hrc
          go_wp2_with fail
          refine HBr.out.mono ?_
          rintro e w5 ⟨rfl, rfl⟩
          go_wp2
          go_ret2
          exact ⟨⟨_, _, rfl, by rw [HFr.out]; exact OwnF.nil _ _, by rw [HFc.out]; exact Or.inr (Or.inl ⟨by decide, rfl, rfl⟩), fun _ => rfl⟩, HB4.out⟩
      · obtain rfl : k = n := by omega
        have hltz : ¬ (k : Int) < (k : Int) := by omega
        have hx : flsO l = some x := by
          have := HX.out
          rwa [List.take_of_length_le (Nat.le_of_eq HN.out)] at this
        have HY := hide (HYes.out x hx)
        clear hx
        go_wp2
        go_ret2
        exact ⟨⟨_, _, rfl, by rw [HY.out.2]; exact HO.out, by rw [HY.out.1]; exact Or.inl ⟨rfl, rfl⟩, fun h => absurd (by rw [HY.out.1]) h⟩, HB.out⟩
  · have hR : floorsC l = feedC l := if_neg h0
    have hRR : floorsR l = [] := by unfold floorsR; rw [hR, if_neg h0]
    rw [hR, hRR]
    clear hR hRR hv
    generalize feedC l = c at *
    have HH := hide h0
    go_enter Tryz.func76, Tryz.ntmps76
    go_wp2_with fail
    refine HC.out.mono ?_
    rintro e w1 ⟨ev, rfl, he, hb⟩
    have HEr := hide he
    have HB1 := hide hb
    rcases he.cases with ⟨e0, _⟩ | ⟨_, tt, pp, rfl⟩
    · exact absurd e0 HH.out
    · clear he hb h0
      go_wp2
      go_ret2
      exact ⟨⟨_, _, rfl, OwnF.nil _ _, HEr.out, fun _ => rfl⟩, HB1.out⟩
end Go.Proofs.YtgagekcjdapkfadGreatDoor

namespace Go.Proofs.YtgagekcjdapkfadGreatDoor
open Go

/-- Bytes as a text. -/
abbrev txt (l : List UInt8) : ByteArray := ⟨l.toArray⟩
theorem txt_list (l : List UInt8) : (txt l).data.toList = l := rfl
theorem txt_back (s : ByteArray) : txt s.data.toList = s := rfl
theorem txt_size (l : List UInt8) : (txt l).size = l.length := by
  show l.toArray.size = _
  simp

/-- Pieces between a byte. -/
def cutB (c : UInt8) : List UInt8 → List (List UInt8)
  | [] => [[]]
  | b :: l => if b = c then [] :: cutB c l else (b :: (cutB c l).headD []) :: (cutB c l).tail
theorem cutB_ne (c : UInt8) : ∀ l, cutB c l ≠ []
  | [] => by simp [cutB]
  | b :: l => by unfold cutB; split <;> simp
theorem cutB_cut (c : UInt8) (t : List UInt8) : ∀ a, cutB c (a ++ c :: t) = cutB c a ++ cutB c t
  | [] => by simp [cutB]
  | b :: a => by
    rw [List.cons_append]
    by_cases h : b = c
    · simp only [cutB, if_pos h, cutB_cut c t a, List.cons_append]
    · simp only [cutB, if_neg h, cutB_cut c t a, List.cons_append]
      rw [Sl.headD_append _ _ _ (cutB_ne c a), Sl.tail_append _ _ (cutB_ne c a)]
theorem cutB_plain (c : UInt8) : ∀ l : List UInt8, c ∉ l → cutB c l = [l]
  | [], _ => rfl
  | b :: l, h => by
    have hb : b ≠ c := fun e => h (by simp [e])
    simp only [cutB, if_neg hb, cutB_plain c l (fun e => h (by simp [e]))]
    rfl
theorem cutB_snoc (c b : UInt8) (hb : b ≠ c) : ∀ (a : List UInt8) (o : List (List UInt8)) (l : List UInt8), cutB c a = o ++ [l] → cutB c (a ++ [b]) = o ++ [l ++ [b]]
  | [], o, l, h => by
    have : o = [] ∧ l = [] := by
      cases o with
      | nil => simp [cutB] at h; exact ⟨rfl, h⟩
      | cons x o => simp [cutB] at h
    obtain ⟨rfl, rfl⟩ := this
    simp [cutB, hb]
  | e :: a, o, l, h => by
    rw [List.cons_append]
    obtain ⟨o', l', hp⟩ : ∃ o' l', cutB c a = o' ++ [l'] := ⟨(cutB c a).dropLast, (cutB c a).getLast (cutB_ne c a), (List.dropLast_concat_getLast (cutB_ne c a)).symm⟩
    have ih := cutB_snoc c b hb a o' l' hp
    by_cases he : e = c
    · simp only [cutB, if_pos he, hp, ih] at h ⊢
      have h2 : ([] :: o') ++ [l'] = o ++ [l] := by simpa using h
      obtain ⟨rfl, e⟩ := List.append_inj' h2 rfl
      injection e with e
      subst e
      rfl
    · simp only [cutB, if_neg he, hp, ih] at h ⊢
      cases o' with
      | nil =>
        simp only [List.nil_append, List.headD_cons, List.tail_cons] at h ⊢
        cases o with
        | nil => simp at h; subst h; simp
        | cons x o => simp at h
      | cons x o' =>
        simp only [List.cons_append, List.headD_cons, List.tail_cons] at h ⊢
        have h2 : ((e :: x) :: o') ++ [l'] = o ++ [l] := by simpa using h
        obtain ⟨rfl, e2⟩ := List.append_inj' h2 rfl
        injection e2 with e2
        subst e2
        rfl
theorem cutB_len (c : UInt8) : ∀ l, (cutB c l).length ≤ l.length + 1
  | [] => by simp [cutB]
  | b :: l => by
    have := cutB_len c l
    by_cases h : b = c
    · simp only [cutB, if_pos h, List.length_cons]; omega
    · simp only [cutB, if_neg h, List.length_cons, List.length_tail]; omega
theorem join_cons2c (c : UInt8) (x : List UInt8) (r : List (List UInt8)) (hr : r ≠ []) : Lib.join (x :: r) [c] = x ++ c :: Lib.join r [c] := by
  cases r with
  | nil => exact absurd rfl hr
  | cons y r => rw [Lib.join_cons, Lib.join_cons]; simp [Lib.joinTail]
theorem join_snocc (c : UInt8) (w : List UInt8) : ∀ (r : List (List UInt8)), r ≠ [] → Lib.join (r ++ [w]) [c] = Lib.join r [c] ++ c :: w
  | [], h => absurd rfl h
  | x :: r, _ => by
    rw [List.cons_append]
    by_cases hr : r = []
    · subst hr; rw [List.nil_append, join_cons2c c _ _ (by simp), Lib.join_one, Lib.join_one]
    · rw [join_cons2c c _ _ (by simp), join_snocc c w r hr, join_cons2c c _ _ hr]; simp
theorem cutB_join (c : UInt8) : ∀ (ws : List (List UInt8)), ws ≠ [] → (∀ w ∈ ws, c ∉ w) → cutB c (Lib.join ws [c]) = ws
  | [], h, _ => absurd rfl h
  | [x], _, hc => by rw [Lib.join_one]; exact cutB_plain c x (hc x (by simp))
  | x :: y :: r, _, hc => by
    rw [join_cons2c c _ _ (by simp), cutB_cut, cutB_plain c x (hc x (by simp)), cutB_join c (y :: r) (by simp) (fun w hw => hc w (by simp [hw]))]
    rfl
theorem join_len (c : UInt8) (M : Nat) : ∀ (ws : List (List UInt8)), (∀ w ∈ ws, w.length ≤ M) → (Lib.join ws [c]).length ≤ ws.length * (M + 1)
  | [], _ => by rw [Lib.join_nil]; simp
  | [x], h => by rw [Lib.join_one]; have := h x (by simp); simp; omega
  | x :: y :: r, h => by
    have ih := join_len c M (y :: r) (fun w hw => h w (by simp [hw]))
    have hx := h x (by simp)
    rw [join_cons2c c _ _ (by simp), List.length_append, List.length_cons, List.length_cons, Nat.add_mul]
    omega

/-! ### One floor's text -/

def oneT (f : Fl) : List UInt8 := f.nm ++ 58 :: Lib.decDigits f.ep.toNat
def textL (l : List Fl) : List UInt8 := if l = [] then [45] else Lib.join (l.map oneT) [44]
/-- What is ahead of a byte, and behind it. -/
def aheadB (c : UInt8) (l : List UInt8) : List UInt8 := l.takeWhile (fun b => b != c)
def behindB (c : UInt8) (l : List UInt8) : List UInt8 := (l.dropWhile (fun b => b != c)).drop 1
/-- A number, whatever its size. -/
def numAny (l : List UInt8) : Bool := Sl.numOk l
def readOneL (p : List UInt8) : Option Fl := if 58 ∈ p then (if numAny (behindB 58 p) = true then some ⟨txt (aheadB 58 p), (Sl.valL (behindB 58 p) : Nat)⟩ else none) else none
def readAllL : List (List UInt8) → Option (List Fl)
  | [] => some []
  | p :: ps => match readOneL p with
    | none => none
    | some f => match readAllL ps with
      | none => none
      | some l => some (f :: l)
theorem readAllL_cons (p : List UInt8) (ps : List (List UInt8)) : readAllL (p :: ps) = match readOneL p with | none => none | some f => match readAllL ps with | none => none | some l => some (f :: l) := rfl
def readL (s : List UInt8) : Option (List Fl) := if s = [45] then some [] else readAllL (cutB 44 s)
def readC (s : List UInt8) : Nat × Int := match readL s with | none => (1, -1) | some l => checkL l
def readR (s : List UInt8) : List Fl := match readL s with | none => [] | some l => if (checkL l).1 = 0 then l else []

theorem ahead_cut (c : UInt8) (t : List UInt8) : ∀ a : List UInt8, c ∉ a → aheadB c (a ++ c :: t) = a ∧ behindB c (a ++ c :: t) = t
  | [], _ => ⟨by simp [aheadB], by simp [behindB]⟩
  | b :: a, h => by
    have hb : (b != c) = true := bne_iff_ne.2 (fun e => h (by simp [e]))
    obtain ⟨h1, h2⟩ := ahead_cut c t a (fun e => h (by simp [e]))
    constructor
    · show (b :: (a ++ c :: t)).takeWhile _ = _
      rw [List.takeWhile_cons_of_pos (p := fun b => b != c) hb]
      exact congrArg (b :: ·) h1
    · show ((b :: (a ++ c :: t)).dropWhile _).drop 1 = _
      rw [List.dropWhile_cons_of_pos (p := fun b => b != c) hb]
      exact h2
theorem small_not {b : UInt8} (h : Sl.smallB b = true) : b ≠ 44 ∧ b ≠ 58 ∧ b ≠ 45 := by
  unfold Sl.smallB Sl.digB at h
  simp at h
  have e1 : (44 : UInt8).toNat = 44 := by decide
  have e2 : (58 : UInt8).toNat = 58 := by decide
  have e3 : (45 : UInt8).toNat = 45 := by decide
  exact ⟨fun e => by rw [e] at h; omega, fun e => by rw [e] at h; omega, fun e => by rw [e] at h; omega⟩
theorem nm_not {f : Fl} (h : oneE f = 0) : ∀ b ∈ f.nm, b ≠ 44 ∧ b ≠ 58 ∧ b ≠ 45 := by
  intro b hb
  rcases one_name h with e | e
  · rw [e] at hb
    have : b = 42 := by simpa [star] using hb
    subst this
    decide
  · unfold Sl.nameL Sl.madeL at e
    simp only [Bool.and_eq_true, decide_eq_true_eq] at e
    exact small_not (List.all_eq_true.1 e.2 b hb)
theorem nm_len {f : Fl} (h : oneE f = 0) : f.nm.length ≤ 8 := by
  rcases one_name h with e | e
  · rw [e]; decide
  · unfold Sl.nameL Sl.madeL at e
    simp only [Bool.and_eq_true, decide_eq_true_eq] at e
    exact e.1.2
theorem dec_not (u : Nat) : ∀ b ∈ Lib.decDigits u, b ≠ 44 ∧ b ≠ 58 ∧ b ≠ 45 := fun b hb => by
  have := List.all_eq_true.1 (Sl.dec_all u) b hb
  exact small_not (by unfold Sl.smallB; rw [this]; rfl)
theorem one_cut {f : Fl} (h : oneE f = 0) : (44 : UInt8) ∉ oneT f := by
  intro hm
  unfold oneT at hm
  rcases List.mem_append.1 hm with e | e
  · exact (nm_not h _ e).1 rfl
  · rcases List.mem_cons.1 e with e | e
    · exact absurd e (by decide)
    · exact (dec_not _ _ e).1 rfl
theorem one_len {f : Fl} (h : oneE f = 0) : (oneT f).length ≤ 30 := by
  have h1 := nm_len h
  have h2 := one_pos h
  have h3 : (Lib.decDigits f.ep.toNat).length ≤ 10 := by
    have := (Sl.numOk_iff _).1 (Sl.dec_ok f.ep.toNat (by omega))
    exact this.1.2
  unfold oneT
  rw [List.length_append, List.length_cons]
  omega
theorem read_one {f : Fl} (h : oneE f = 0) : readOneL (oneT f) = some f := by
  have h2 := one_pos h
  have hn : (58 : UInt8) ∉ f.nm := fun e => (nm_not h _ e).2.1 rfl
  obtain ⟨e1, e2⟩ := ahead_cut 58 (Lib.decDigits f.ep.toNat) f.nm hn
  unfold readOneL oneT
  rw [if_pos (by simp), e1, e2, if_pos (show numAny _ = true from Sl.dec_ok _ (by omega)), Sl.dec_val]
  congr 1
  refine Fl.same rfl ?_
  show ((f.ep.toNat : Nat) : Int) = f.ep
  omega
theorem read_all : ∀ (l : List Fl), (∀ f ∈ l, oneE f = 0) → readAllL (l.map oneT) = some l
  | [], _ => rfl
  | f :: l, h => by
    rw [List.map_cons, readAllL_cons, read_one (h f (by simp)), read_all l (fun g hg => h g (by simp [hg]))]
/-- What is written is read as it was. -/
theorem read_text {l : List Fl} (h : RightF l) : readL (textL l) = some l := by
  unfold readL textL
  by_cases hl : l = []
  · subst hl; rw [if_pos rfl, if_pos rfl]
  · rw [if_neg hl]
    have hne : l.map oneT ≠ [] := by simpa using hl
    have hc := cutB_join 44 (l.map oneT) hne (fun w hw => by
      obtain ⟨f, hf, rfl⟩ := List.mem_map.1 hw
      exact one_cut (h.one f hf))
    rw [if_neg, hc, read_all l h.one]
    intro e
    rw [e, cutB_plain 44 [45] (by decide)] at hc
    match l, hl, hc with
    | f :: l, _, hc =>
      rw [List.map_cons] at hc
      injection hc with hc _
      have : (58 : UInt8) ∈ oneT f := by unfold oneT; simp
      rw [← hc] at this
      exact absurd this (by decide)
theorem readC_text {l : List Fl} (h : RightF l) (hl : l.length ≤ 21) : (readC (textL l)).1 = 0 ∧ readR (textL l) = l := by
  unfold readC readR
  rw [read_text h]
  have : checkL l = (0, -1) := by rw [check_right h, if_neg (by omega)]
  exact ⟨by show (checkL l).1 = 0; rw [this], by show (if (checkL l).1 = 0 then l else []) = l; rw [this]; rfl⟩
theorem readAll_append : ∀ (a b : List (List UInt8)), readAllL (a ++ b) = match readAllL a with | none => none | some l => (readAllL b).map (l ++ ·)
  | [], b => by show readAllL b = (readAllL b).map _; cases readAllL b <;> rfl
  | p :: a, b => by
    rw [List.cons_append, readAllL_cons, readAllL_cons, readAll_append a b]
    cases readOneL p with
    | none => rfl
    | some f =>
      cases readAllL a with
      | none => rfl
      | some l => cases readAllL b <;> rfl
end Go.Proofs.YtgagekcjdapkfadGreatDoor

namespace Go.Proofs.YtgagekcjdapkfadGreatDoor
open Go.RowKit Go.Extern.Stop Go.Stop Go.Extern Go.Proofs

theorem below_growF (w : World) (k : Nat) (os : Array Obj) : Below w.heap.size w (Sort.grow (w.drewN k) os) := by
  refine ⟨rfl, rfl, rfl, ?_, fun j hj => ?_⟩
  · show w.heap.size ≤ (w.heap ++ os).size
    rw [Array.size_append]; omega
  · exact Sort.heap_grow_old (w.drewN k) os hj
/-- The table of powers of ten, as strconv reads it. -/
abbrev Tab10 (w : World) : Prop := Lib.TabIs Tryz.prog w "internal/strconv.uint64pow10" .u64 Lib.pow10Tab
theorem itoa_fl (n : Int) (w : World) (h : Tab10 w) (h0 : 0 ≤ n) (h1 : n ≤ 1073741824) :
    Calls Tryz.prog 112 #[.int .i64 n] w fun e w' => e = .returned (.string (txt (Lib.decDigits n.toNat))) ∧ Below w.heap.size w w' := by
  have hit : (⟨(Lib.itoa n).toArray⟩ : ByteArray) = txt (Lib.decDigits n.toNat) := by
    have e : n = (n.toNat : Int) := by omega
    rw [e, Lib.itoa_nonneg]
    rfl
  refine (Tryz.strconv_Itoa n (by omega) (by omega) w h).mono ?_
  rintro e w' ⟨rfl, k, os, rfl⟩
  exact ⟨by rw [hit], below_growF w k os⟩
theorem Tryz.pow10F : Tryz.prog.globalNamed "internal/strconv.uint64pow10" = some 18 := by kernel_rfl
theorem tab_below {w w' : World} (h : Tab10 w) (hb : Below w.heap.size w w') : Tab10 w' :=
  var?_below hb Tryz.pow10F (cell_lt (h.cell Tryz.pow10F 0 (by decide))) h
theorem Tryz.infoStringF : (Tryz.prog.info? 9).map (fun i => (i.zero, i.size, i.bytes)) = some (some (.string ByteArray.empty), 1, 16) := by kernel_rfl

/-- A row of texts being filled: the first k are those of the floors. -/
def PartsAt (w : World) (pb n : Nat) (l : List Fl) (k : Nat) : Prop := ∃ cur : Array Value, w.heap[pb]? = some (.cells cur 9 (0, 0)) ∧ cur.size = n ∧ ∀ j (hj : j < l.length), j < k → cur[j]? = some (.string (txt (oneT l[j])))
theorem PartsAt.keep {w w' : World} {pb n : Nat} {l : List Fl} {k : Nat} (h : PartsAt w pb n l k) (hb : w'.heap[pb]? = w.heap[pb]?) : PartsAt w' pb n l k := by
  obtain ⟨cur, h1, h2⟩ := h
  exact ⟨cur, by rw [hb]; exact h1, h2⟩
theorem PartsAt.lt {w : World} {pb n : Nat} {l : List Fl} {k : Nat} (h : PartsAt w pb n l k) : pb < w.heap.size := by
  obtain ⟨cur, h1, _⟩ := h
  exact row_lt h1
theorem PartsAt.spot {w : World} {pb n : Nat} {l : List Fl} {k : Nat} (h : PartsAt w pb n l k) (i : Nat) (hi : i < n) : (∃ v, w.cell? ⟨pb, i, none⟩ = some v) ∧ w.frozen? ⟨pb, i, none⟩ = false := by
  obtain ⟨cur, h1, h2, _⟩ := h
  rw [cell_of_row w pb i cur _ _ h1]
  exact ⟨⟨cur[i]'(by omega), Array.getElem?_eq_getElem _⟩, frozen_of_row w pb i cur _ h1⟩
theorem PartsAt.set {w : World} {pb n : Nat} {l : List Fl} {k : Nat} (h : PartsAt w pb n l k) (hk : k < l.length) (hn : l.length = n) : PartsAt (w.setCell ⟨pb, k, none⟩ (.string (txt (oneT l[k])))) pb n l (k + 1) := by
  obtain ⟨cur, h1, h2, h3⟩ := h
  refine ⟨cur.setIfInBounds k (.string (txt (oneT l[k]))), heap_setCell_same w pb k cur _ _ h1, by simpa using h2, fun j hj hjk => ?_⟩
  by_cases e : j = k
  · subst e
    rw [Array.getElem?_setIfInBounds_self_of_lt (by omega)]
  · rw [Array.getElem?_setIfInBounds_ne (Ne.symm e)]
    exact h3 j hj (by omega)
theorem PartsAt.texts {w : World} {pb n : Nat} {l : List Fl} (h : PartsAt w pb n l n) (hn : l.length = n) : ∀ (j : Nat) x, (l.map fun f => txt (oneT f))[j]? = some x → w.cell? ⟨pb, 0 + j, none⟩ = some (.string x) := fun j x hj => by
  obtain ⟨cur, h1, h2, h3⟩ := h
  rw [Nat.zero_add, cell_of_row w pb j cur _ _ h1]
  rw [List.getElem?_map] at hj
  cases hl : l[j]? with
  | none => rw [hl] at hj; cases hj
  | some f =>
    obtain ⟨hjl, hf⟩ := List.getElem?_eq_some_iff.1 hl
    rw [hl] at hj
    rw [h3 j hjl (by omega), hf]
    exact congrArg (fun x => some (Value.string x)) (Option.some.inj hj)
theorem PartsAt.made {w w' : World} {n : Nat} {l : List Fl} (h : w'.ownsRow w.heap.size 9 1 (.slice (some ⟨w.heap.size, 0, none⟩) n n) n (madeCells (Value.string ByteArray.empty).cells (n * 1)).toList) : PartsAt w' w.heap.size n l 0 := by
  rcases h.2 with ⟨e, _⟩ | ⟨g, cap, cur, e, _, hg, _, _, hs, _⟩
  · cases e
  · injection e with e1 e2 e3
    injection e1 with e1
    injection e1 with e1
    subst e1; subst e3
    exact ⟨cur, hg, by omega, fun j _ hj => absurd hj (Nat.not_lt_zero _)⟩

/-- A text, or an error. -/
def TextPost (a : Nat → Addr) (c : Nat × Int) (t : List UInt8) (e : Ending) (w' : World) : Prop := (c.1 = 0 ∧ e = .returned (.tuple #[.string (txt t), .nilIface])) ∨ (c.1 ≠ 0 ∧ ∃ t p, e = .returned (.tuple #[.string ByteArray.empty, .iface t p]) ∧ FlErr a w' c (.iface t p))

set_option maxRecDepth 100000 in
set_option maxHeartbeats 4000000 in
theorem text_any (a : Nat → Addr) (v : Value) (l : List Fl) (w : World) (h : EV flS a w) (ht : Tab10 w) (hv : FlAt w v l) (hs : ∀ f ∈ l, f.who.size ≤ maxLen) (hl : l.length ≤ 1000000) :
    Calls Tryz.prog 123 #[v] w fun e w' => TextPost a (checkL l) (textL l) e w' ∧ Below w.heap.size w w' := by
  have HC := hide (check_any a v l w h hv hs hl)
  have HV := hide hv
  have HT := hide ht
  by_cases h0 : (checkL l).1 = 0
  · obtain ⟨hright, h21⟩ := right_of_check h0
    have H0 := hide h0
    match l with
    | [] =>
      obtain ⟨ad, cap, rfl, hcap⟩ := hv.form
      show Calls Tryz.prog 123 #[.slice ad 0 cap] w _
      replace HC : Hid (Calls Tryz.prog 159 #[.slice ad 0 cap] w fun e w' => ∃ ev, e = .returned ev ∧ FlErr a w' (checkL []) ev ∧ Below w.heap.size w w') := HC.out
      clear h ht hv hs hright h21 h0 HV HT
      generalize checkL [] = c at *
      go_enter Tryz.func123, Tryz.ntmps123
      go_wp2_with fail
      refine HC.out.mono ?_
      rintro e w1 ⟨ev, rfl, he, hb⟩
      obtain rfl := he.none H0.out
      clear he
      go_wp2
      go_ret2
      exact ⟨Or.inl ⟨H0.out, rfl⟩, hb⟩
    | f0 :: l0 =>
      generalize hll : f0 :: l0 = l at *
      have HNe : Hid (l ≠ []) := by rw [← hll]; exact List.cons_ne_nil _ _
      have hpos : 0 < l.length := by rw [← hll]; simp
      clear hll
      obtain ⟨i0, hi, hz0, hz1, hz2⟩ := info_parts Tryz.infoStringF
      obtain ⟨ad, cap, rfl, hcap⟩ := hv.form
      have HR := hide hright
      have HJ : Hid (∀ pb W, PartsAt W pb l.length l l.length → Calls Tryz.prog 111 #[.slice (some ⟨pb, 0, none⟩) l.length l.length, .string ⟨#[44]⟩] W fun e w' => e = .returned (.string (txt (textL l))) ∧ Below W.heap.size W w') := fun pb W hp => by
        have hlen : (l.map fun f => txt (oneT f)).length = l.length := by simp
        have hmap : ((l.map fun f => txt (oneT f)).map (·.data.toList)) = l.map oneT := by
          rw [List.map_map]
          exact List.map_congr_left (fun f _ => rfl)
        have hjl : (Lib.join (l.map oneT) [44]).length ≤ 140737488355328 := by
          have := join_len 44 30 (l.map oneT) (fun x hx => by
            obtain ⟨f, hf, rfl⟩ := List.mem_map.1 hx
            exact one_len (hright.one f hf))
          rw [List.length_map] at this
          omega
        have := Tryz.strings_Join pb 0 l.length (l.map fun f => txt (oneT f)) ⟨#[44]⟩ W (hp.texts rfl) hp.lt (by rw [hlen]; omega) (by rw [hlen]; exact Nat.le_refl _) (by rw [hmap]; exact hjl)
        rw [hlen, hmap] at this
        have htx : txt (textL l) = txt (Lib.join (l.map oneT) [44]) := by unfold textL; rw [if_neg HNe.out]
        rw [htx]
        exact this
      clear h hv hright ht h0
      generalize hc : checkL l = c at *
      generalize htx : textL l = tx at *
      generalize hn : l.length = n at *
      have HN := hide hn
      have hn0 : ¬ (n : Int) = 0 := by omega
      clear hn hc htx
      go_enter Tryz.func123, Tryz.ntmps123
      go_wp2_with fail
      refine HC.out.mono ?_
      rintro e w1 ⟨ev, rfl, he, hb⟩
      obtain rfl := he.none H0.out
      have HB1 := hide hb
      clear he hb HC
      go_wp2_with (at_make; refine wpList_make_full _ rfl _ _ 134 rfl w1.heap.size 9 i0 _ 1 Tryz.underlying134 hi hz0 hz1 .i64 .i64 _ _ n rfl rfl rfl rfl (by rw [hz2]; omega) (by unfold maxLen; omega) (Nat.le_refl _) ?_; intro w2 hown hgrow; have HP2 : Hid (PartsAt w2 w1.heap.size n l 0) := PartsAt.made hown; have HB2 : Hid (Below w.heap.size w w2) := HB1.out.grown hgrow HB1.out.size (fun k hk => by cases hk); clear hown hgrow)
      go_loopg [6, 7, 21] n (fun gg _ _ s21 wr => ∃ k : Nat, k ≤ n ∧ n - k ≤ gg ∧ s21 = .int .i64 k ∧ Hid (Below w.heap.size w wr) ∧ Hid (PartsAt wr w1.heap.size n l k))
      case atStart => exact ⟨0, Nat.zero_le _, by omega, rfl, HB2, HP2⟩
      case round =>
        clear HB2 HP2
        obtain ⟨k, hk, hgg, rfl, HB, HP⟩ := hrel
        by_cases hlt : k < n
        · have hltz : (k : Int) < (n : Int) := by omega
          have hkl : k < l.length := by rw [HN.out]; exact hlt
          have hvr := HV.out.below HB.out
          rw [← HN.out] at hvr
          obtain ⟨b, off, cap', e, hc', hb, hcell⟩ := hvr.at (by omega)
          injection e with e1 e2 e3
          subst e1; subst e3
          obtain ⟨c0, c1⟩ := hcell k hkl
          have hone := HR.out.one l[k] (List.getElem_mem _)
          have hpos2 := one_pos hone
          have hws : l[k].who.size ≤ 8 := by have := nm_len hone; unfold Fl.nm at this; rw [size_list] at this; exact this
          have hds : (txt (Lib.decDigits l[k].ep.toNat)).size ≤ 30 := by
            rw [txt_size]
            have := one_len hone
            unfold oneT at this
            rw [List.length_append, List.length_cons] at this
            omega
          have HIt := hide (fun W h => itoa_fl l[k].ep W h (by omega) hpos2.2)
          have HTx : Hid (l[k].who ++ ⟨#[58]⟩ ++ txt (Lib.decDigits l[k].ep.toNat) = txt (oneT l[k])) := by
            refine Go.WideShapes.bytes_inj ?_
            rw [ba_toList, ba_toList]
            show _ = oneT l[k]
            unfold oneT Fl.nm
            rw [List.append_assoc]
            rfl
          have HSt := hide (fun (W : World) (hp : PartsAt W w1.heap.size n l k) => hp.set hkl HN.out)
          rw [← HTx.out] at HSt
          have HBa : Hid (Below w.heap.size w (wr.alloc (.cells #[.string l[k].who, .int .i64 l[k].ep] 98))) := HB.out.alloc HB.out.size _
          have HRa : Hid ((wr.alloc (.cells #[.string l[k].who, .int .i64 l[k].ep] 98)).heap[wr.heap.size]? = some (.cells #[.string l[k].who, .int .i64 l[k].ep] 98 (0, 0))) := heap_alloc_new _ _
          have HPa : Hid (PartsAt (wr.alloc (.cells #[.string l[k].who, .int .i64 l[k].ep] 98)) w1.heap.size n l k) := HP.out.keep (Below.heap_alloc _ _ _ HP.out.lt)
          have HBe : Hid (w.heap.size ≤ w1.heap.size) := HB1.out.size
          clear hcell hvr hone hpos2 HTx HP
          generalize txt (Lib.decDigits l[k].ep.toNat) = ds at *
          generalize l[k].who = who at *
          generalize l[k].ep = ep at *
          go_wp2_with fail
          generalize hW0 : wr.alloc (.cells #[.string who, .int .i64 ep] 98) = W0 at *
          have hd0 : W0.cell? ⟨wr.heap.size, 0, none⟩ = some (.string who) := cell_of_row W0 _ 0 _ _ _ HRa.out
          have hd1 : W0.cell? ⟨wr.heap.size, 1, none⟩ = some (.int .i64 ep) := cell_of_row W0 _ 1 _ _ _ HRa.out
          have HIt2 := hide (HIt.out W0.drew (tab_below (tab_below HT.out HBa.out) ((Below.refl _ _).drew)))
          have hne : w1.heap.size ≠ wr.heap.size := by have := HPa.out; have h2 := HRa.out; intro e; obtain ⟨cur, q1, _⟩ := this; rw [e, h2] at q1; injection q1 with q1; injection q1 with _ q1; exact absurd q1 (by decide)
          have ha1 : ∀ w : World, (Op.stringOp .add who { data := #[58] }).run Tryz.prog w = .ok (.string (who ++ { data := #[58] })) w := fun w => run_string_add_sum w _ _ (by show who.size + 1 ≤ _; omega)
          have ha2 : ∀ w : World, (Op.stringOp .add (who ++ { data := #[58] }) ds).run Tryz.prog w = .ok (.string (who ++ { data := #[58] } ++ ds)) w := fun w => run_string_add_sum w _ _ (by rw [ByteArray.size_append]; show who.size + 1 + ds.size ≤ _; omega)
          clear hW0 HIt c0 c1
          go_region_held3 (fun w' => w'.cell? ⟨wr.heap.size, 0, none⟩ = some (.string who) ∧ w'.cell? ⟨wr.heap.size, 1, none⟩ = some (.int .i64 ep)) (go_keep)
            (first
              | (go_at_call 112; refine HIt2.out.mono ?_; rintro e w3 ⟨rfl, hb3⟩; have HB3 : Hid (Below W0.heap.size W0 w3) := ((Below.refl _ W0).drew).trans hb3; have HP3 : Hid (PartsAt w3 w1.heap.size n l k) := HPa.out.keep (HB3.out.block _ HPa.out.lt); have hr3 : w3.heap[wr.heap.size]? = some (.cells #[.string who, .int .i64 ep] 98 (0, 0)) := (HB3.out.block _ (row_lt HRa.out)).trans HRa.out; have e0 : w3.cell? ⟨wr.heap.size, 0, none⟩ = some (.string who) := cell_of_row w3 _ 0 _ _ _ hr3; have e1 : w3.cell? ⟨wr.heap.size, 1, none⟩ = some (.int .i64 ep) := cell_of_row w3 _ 1 _ _ _ hr3; obtain ⟨⟨ov, hov⟩, hfz⟩ := HP3.out.spot k hlt; clear hb3 hr3 HIt2))
          have HB4 : Hid (Below w.heap.size w (w3.setCell ⟨w1.heap.size, k, none⟩ (.string (who ++ ⟨#[58]⟩ ++ ds)))) := (HBa.out.trans (HB3.out.mono HBa.out.size)).setCell (p := ⟨w1.heap.size, k, none⟩) HBe.out _
          have HP4 := hide (HSt.out w3 HP3.out)
          clear hov hfz e0 e1 HP3 HSt ha1 ha2
          generalize w3.setCell ⟨w1.heap.size, k, none⟩ (.string (who ++ ⟨#[58]⟩ ++ ds)) = w4 at *
          go_wp2
          go_roundg (n - (k + 1))
          case measure => omega
          case rel => exact ⟨k + 1, by omega, by omega, by go_num, HB4, HP4⟩
        · obtain rfl : k = n := by omega
          have hltz : ¬ (k : Int) < (k : Int) := by omega
          go_wp2_with fail
          refine (HJ.out _ _ HP.out).mono ?_
          rintro e w5 ⟨rfl, hb5⟩
          have HB5 : Hid (Below w.heap.size w w5) := HB.out.trans (hb5.mono HB.out.size)
          clear hb5
          go_wp2
          go_ret2
          exact ⟨Or.inl ⟨H0.out, rfl⟩, HB5.out⟩
  · have H0 := hide h0
    clear h ht hv hs h0 HV HT
    generalize checkL l = c at *
    generalize textL l = tx at *
    go_enter Tryz.func123, Tryz.ntmps123
    go_wp2_with fail
    refine HC.out.mono ?_
    rintro e w1 ⟨ev, rfl, he, hb⟩
    have HEr := hide he
    rcases he.cases with ⟨e0, _⟩ | ⟨_, tt, pp, rfl⟩
    · exact absurd e0 H0.out
    · clear he
      go_wp2
      go_ret2
      exact ⟨Or.inr ⟨H0.out, _, _, rfl, HEr.out⟩, hb⟩
end Go.Proofs.YtgagekcjdapkfadGreatDoor

namespace Go.Proofs.YtgagekcjdapkfadGreatDoor
open Go.RowKit Go.Extern.Stop Go.Stop Go.Extern Go.Proofs

/-- A head, its value and its block. -/
structure Hd where
  n : Int
  t : Int
  s : Int
def Hd.val (h : Hd) : Value := .agg #[.int .i64 h.n, .int .i64 h.t, .int .i64 h.s]
def hd0 : Hd := ⟨0, 0, 0⟩
abbrev hdO (h : Hd) : Obj := .cells #[.int .i64 h.n, .int .i64 h.t, .int .i64 h.s] 147 (0, 0)
/-- What feed reads of the world. -/
structure EnvF (a : Nat → Addr) (w : World) : Prop where
  errs : EV fdS a w
  len : ∃ m, w.cell? ⟨17, 0, none⟩ = some (.int .i64 m)
  tab : Tab10 w
theorem EnvF.e {a : Nat → Addr} {w : World} (h : EnvF a w) : EnvE a w := ⟨h.errs.sl, h.len, h.tab⟩
theorem EnvF.below {a : Nat → Addr} {w w' : World} (h : EnvF a w) (hb : Below w.heap.size w w') : EnvF a w' := ⟨h.errs.below hb, (h.e.below hb).len, (h.e.below hb).tab⟩
theorem texts4 (w : World) (x0 x1 x2 x3 : ByteArray) : Texts (w.alloc (.cells #[.string x0, .string x1, .string x2, .string x3] 9)) w.heap.size 0 [x0, x1, x2, x3] := fun j hj => by
  match j, hj with
  | 0, _ => simp
  | 1, _ => simp
  | 2, _ => simp
  | 3, _ => simp

set_option maxRecDepth 100000 in
set_option maxHeartbeats 4000000 in
theorem fdWords_any (n t s : Int) (w : World) (h : Tab10 w) (hn : 0 ≤ n ∧ n ≤ 1073741824) (ht : 0 ≤ t ∧ t ≤ 1073741824) (hs : 0 ≤ s ∧ s ≤ 1073741824) :
    Calls Tryz.prog 86 #[.agg #[.int .i64 n, .int .i64 t, .int .i64 s]] w fun e w' => ∃ b, Texts w' b 0 ((headW n t s).map Sl.ofL) ∧ e = .returned (.slice (some ⟨b, 0, none⟩) 4 4) ∧ Below w.heap.size w w' := by
  have H1 := hide (fun w h => itoa_fl n w h hn.1 hn.2)
  have H2 := hide (fun w h => itoa_fl t w h ht.1 ht.2)
  have H3 := hide (fun w h => itoa_fl s w h hs.1 hs.2)
  have HB0 : Hid (Below w.heap.size w (w.alloc (hdO ⟨n, t, s⟩))) := (Below.refl _ w).alloc (Nat.le_refl _) _
  have HR0 : Hid ((w.alloc (hdO ⟨n, t, s⟩)).heap[w.heap.size]? = some (hdO ⟨n, t, s⟩)) := heap_alloc_new _ _
  have HE := hide (tab_below h HB0.out)
  have HW : Hid ((headW n t s).map Sl.ofL = [Sl.ofL headL, txt (Lib.decDigits n.toNat), txt (Lib.decDigits t.toNat), txt (Lib.decDigits s.toNat)]) := rfl
  rw [HW.out]
  clear h hn ht hs HW
  generalize txt (Lib.decDigits n.toNat) = s1 at *
  generalize txt (Lib.decDigits t.toNat) = s2 at *
  generalize txt (Lib.decDigits s.toNat) = s3 at *
  have HC : Hid (∀ W, Below (w.alloc (hdO ⟨n, t, s⟩)).heap.size (w.alloc (hdO ⟨n, t, s⟩)) W → W.cell? ⟨w.heap.size, 0, none⟩ = some (.int .i64 n) ∧ W.cell? ⟨w.heap.size, 1, none⟩ = some (.int .i64 t) ∧ W.cell? ⟨w.heap.size, 2, none⟩ = some (.int .i64 s)) := fun W hb => by
    have h := row_cells ((hb.block w.heap.size (by simp)).trans HR0.out)
    exact ⟨h.1, h.2.1, h.2.2.1⟩
  go_enter Tryz.func86, Tryz.ntmps86
  go_wp2_with fail
  generalize hW0 : w.alloc (.cells #[.int .i64 n, .int .i64 t, .int .i64 s] 147) = W0 at *
  have Hd : Hid (Below W0.heap.size W0 W0.drew) := (Below.refl _ _).drew
  obtain ⟨z0, z1, z2⟩ := HC.out W0 (Below.refl _ _)
  clear hW0 HR0
  go_region_held3 (fun w' => w'.cell? ⟨w.heap.size, 0, none⟩ = some (.int .i64 n) ∧ w'.cell? ⟨w.heap.size, 1, none⟩ = some (.int .i64 t) ∧ w'.cell? ⟨w.heap.size, 2, none⟩ = some (.int .i64 s)) (first | go_keep | assumption)
    (first
      | (go_at_call 112; refine (H1.out _ (tab_below HE.out Hd.out)).mono ?_; rintro e w1 ⟨rfl, hb⟩; have HP1 : Hid (Below W0.heap.size W0 w1) := Hd.out.trans (hb.mono Hd.out.size); have hc1 := HC.out _ HP1.out; clear hb)
      | (go_at_call 112; refine (H2.out _ (tab_below HE.out HP1.out)).mono ?_; rintro e w2 ⟨rfl, hb⟩; have HP2 : Hid (Below W0.heap.size W0 w2) := HP1.out.trans (hb.mono HP1.out.size); have hc2 := HC.out _ HP2.out; clear hb)
      | (go_at_call 112; refine (H3.out _ (tab_below HE.out HP2.out)).mono ?_; rintro e w3 ⟨rfl, hb⟩; have HP3 : Hid (Below W0.heap.size W0 w3) := HP2.out.trans (hb.mono HP2.out.size); have hc3 := HC.out _ HP3.out; clear hb))
  have HP5 := hide ((HB0.out.trans (HP3.out.mono HB0.out.size)).alloc (HB0.out.trans (HP3.out.mono HB0.out.size)).size (.cells #[.string ⟨#[104, 101, 97, 100]⟩, .string s1, .string s2, .string s3] 9))
  clear hc1 hc2 hc3 HP1 HP2 HP3 HC HE HB0 Hd z0 z1 z2 H1 H2 H3
  go_wp2
  go_ret
  exact ⟨w3.heap.size, texts4 w3 _ _ _ _, rfl, HP5.out⟩

/-- The end of a function whose first result is a head in a block of its own. -/
theorem hdEnd {fn : Func} {p u : Tmp} (hr : fn.results = #[.cell p 147, .tmp u]) {a : Act} {w : World} {R : Ending → World → Prop} (g : Nat) (t : Hd) (hp : a.tmps.getD p undef = .pointer (some ⟨g, 0, none⟩)) (hg : w.heap[g]? = some (hdO t)) (hd : a.defers = [])
    (hR : R (.returned (.tuple #[t.val, a.tmps.getD u undef])) w) : bodyPost Tryz.prog fn R .ret a w :=
  bodyPost_ret (results_row_tmp hr a.tmps w g _ _ (0, 0) _ hp hg Tryz.underlying147 rfl (by kernel_rfl)) hd hR
theorem below_set3 {n : Nat} {w0 w : World} {g : Nat} (h : Below n w0 w) (hg : n ≤ g) (a b c : Value) :
    Below n w0 (((w.setCell ⟨g, 0, none⟩ a).setCell ⟨g, 1, none⟩ b).setCell ⟨g, 2, none⟩ c) := ((h.setCell hg _).setCell hg _).setCell hg _
theorem drewHeap (w : World) : w.drew.heap = w.heap := rfl

/-- The greatest numbers of a head's words. -/
def mostH (k : Nat) : Int := [60, 1000000, 1000000006].getD k 0
/-- Are words those of a head? And what they tell. -/
def hdOk (ws : List (List UInt8)) : Bool := decide (ws.length = 4) && decide (ws.getD 0 [] = headL) && (numB (ws.getD 1 []) 60 && numB (ws.getD 2 []) 1000000 && numB (ws.getD 3 []) 1000000006)
def hdC (ws : List (List UInt8)) : Nat := if hdOk ws = true then 0 else 1
def hdR (ws : List (List UInt8)) : Hd := if hdOk ws = true then ⟨Sl.valL (ws.getD 1 []), Sl.valL (ws.getD 2 []), Sl.valL (ws.getD 3 [])⟩ else hd0
theorem hd_no {ws : List (List UInt8)} (h : hdOk ws = false) : hdC ws = 1 ∧ hdR ws = hd0 := by
  unfold hdC hdR
  rw [h]
  exact ⟨rfl, rfl⟩
theorem hd_made (n t s : Int) (hn : 0 ≤ n ∧ n ≤ 60) (ht : 0 ≤ t ∧ t ≤ 1000000) (hs : 0 ≤ s ∧ s ≤ 1000000006) : hdC (headW n t s) = 0 ∧ hdR (headW n t s) = ⟨n, t, s⟩ := by
  have hk : ∀ (x m : Int), 0 ≤ x → x ≤ m → m ≤ 1000000006 → numB (Lib.decDigits x.toNat) m = true := fun x m h1 h2 h3 => by
    unfold numB
    rw [Sl.dec_ok x.toNat (by omega), Sl.dec_val, decide_eq_true (by omega)]
    rfl
  have h0 : hdOk (headW n t s) = true := by
    show (true && true && (numB (Lib.decDigits n.toNat) 60 && numB (Lib.decDigits t.toNat) 1000000 && numB (Lib.decDigits s.toNat) 1000000006)) = true
    rw [hk n 60 hn.1 hn.2 (by decide), hk t 1000000 ht.1 ht.2 (by decide), hk s 1000000006 hs.1 hs.2 (by decide)]
    rfl
  unfold hdC hdR
  rw [h0]
  refine ⟨rfl, ?_⟩
  show Hd.mk (Sl.valL (Lib.decDigits n.toNat)) (Sl.valL (Lib.decDigits t.toNat)) (Sl.valL (Lib.decDigits s.toNat)) = _
  rw [Sl.dec_val, Sl.dec_val, Sl.dec_val, Int.toNat_of_nonneg hn.1, Int.toNat_of_nonneg ht.1, Int.toNat_of_nonneg hs.1]

set_option maxRecDepth 100000 in
set_option maxHeartbeats 2000000 in
theorem hdRead_len (a : Nat → Addr) (ad : Option Addr) (n c : Nat) (w : World) (h : EnvF a w) (hn : n ≠ 4) :
    Calls Tryz.prog 133 #[.slice ad n c] w fun e w' => e = .returned (.tuple #[hd0.val, eV (a 0)]) ∧ Below w.heap.size w w' := by
  have hv := h.errs.later 0 (by decide) rfl
  simp only [errG, List.getD_cons_zero] at hv
  have hn2 : ((n : Int) != 4) = true := by rw [bne_iff_ne]; omega
  clear h hn
  go_enter Tryz.func133, Tryz.ntmps133
  go_wp2
  go_region
  go_wp2
  refine hdEnd rfl w.heap.size hd0 rfl (heap_alloc_new _ _) rfl ?_
  exact ⟨rfl, ((Below.refl _ w).alloc (Nat.le_refl _) _).drew⟩

set_option maxRecDepth 100000 in
set_option maxHeartbeats 2000000 in
theorem hdRead_kind (a : Nat → Addr) (b o c : Nat) (x0 : ByteArray) (w : World) (h : EnvF a w) (hx : w.cell? ⟨b, o, none⟩ = some (.string x0)) (hk : x0.data.toList ≠ headL) :
    Calls Tryz.prog 133 #[.slice (some ⟨b, o, none⟩) 4 c] w fun e w' => e = .returned (.tuple #[hd0.val, eV (a 0)]) ∧ Below w.heap.size w w' := by
  have hv := h.errs.later 0 (by decide) rfl
  simp only [errG, List.getD_cons_zero] at hv
  have hx2 : ∀ O, (w.alloc O).cell? ⟨b, o, none⟩ = some (.string x0) := fun O => by
    rw [((Below.refl w.heap.size w).alloc (Nat.le_refl _) O).cell (p := ⟨b, o, none⟩) (cell_lt hx)]; exact hx
  have hq : (x0.toList == [104, 101, 97, 100]) = false := by
    rw [beq_eq_false_iff_ne, Go.ByteArray.toList_eq]
    exact hk
  clear h hk hx
  go_enter Tryz.func133, Tryz.ntmps133
  go_wp2
  go_region
  go_wp2
  refine hdEnd rfl w.heap.size hd0 rfl (heap_alloc_new _ _) rfl ?_
  exact ⟨rfl, ((Below.refl _ w).alloc (Nat.le_refl _) _).drew⟩

/-- The block of read's three numbers, k of them laid. -/
def num3 (ys : List ByteArray) (k j : Nat) : Value := .int .i64 (if j < k then (Sl.valL (ys.getD j ⟨#[]⟩).data.toList : Int) else 0)
def arr3 (ys : List ByteArray) (k : Nat) : Array Value := #[num3 ys k 0, num3 ys k 1, num3 ys k 2]
theorem arr3_3 (y0 y1 y2 : ByteArray) : arr3 [y0, y1, y2] 3 = #[.int .i64 (Sl.valL y0.data.toList), .int .i64 (Sl.valL y1.data.toList), .int .i64 (Sl.valL y2.data.toList)] := rfl
theorem arr3_set (y0 y1 y2 : ByteArray) (k : Nat) (hk : k < 3) (v : Int) (hv : v = (Sl.valL ([y0, y1, y2].getD k ⟨#[]⟩).data.toList : Int)) : (arr3 [y0, y1, y2] k).setIfInBounds k (.int .i64 v) = arr3 [y0, y1, y2] (k + 1) := by
  subst hv
  match k, hk with
  | 0, _ => rfl
  | 1, _ => rfl
  | 2, _ => rfl

set_option maxRecDepth 100000 in
set_option maxHeartbeats 8000000 in
theorem hdRead_nums (a : Nat → Addr) (b o c : Nat) (x0 x1 x2 x3 : ByteArray) (w : World) (h : EnvF a w) (hc : 4 ≤ c) (hx : Texts w b o [x0, x1, x2, x3]) (hk : x0.data.toList = headL) (hs : ∀ x ∈ [x0, x1, x2, x3], x.size ≤ maxLen)
    (r : Hd) (rv : Value) (hbad : ∀ k, k < 3 → numB ([x1, x2, x3].getD k ⟨#[]⟩).data.toList (mostH k) = false → r = hd0 ∧ rv = eV (a 0))
    (hgood : (∀ k, k < 3 → numB ([x1, x2, x3].getD k ⟨#[]⟩).data.toList (mostH k) = true) → r = ⟨Sl.valL x1.data.toList, Sl.valL x2.data.toList, Sl.valL x3.data.toList⟩ ∧ rv = .nilIface) :
    Calls Tryz.prog 133 #[.slice (some ⟨b, o, none⟩) 4 c] w fun e w' => e = .returned (.tuple #[r.val, rv]) ∧ Below w.heap.size w w' := by
  have hx0 : w.cell? ⟨b, o, none⟩ = some (.string x0) := hx 0 (by simp)
  have hx2 : ∀ O, (w.alloc O).cell? ⟨b, o, none⟩ = some (.string x0) := fun O => by
    rw [((Below.refl w.heap.size w).alloc (Nat.le_refl _) O).cell (p := ⟨b, o, none⟩) (cell_lt hx0)]; exact hx0
  have hq : (x0.toList == [104, 101, 97, 100]) = true := by
    rw [beq_iff_eq, Go.ByteArray.toList_eq]
    exact hk
  have HX := hide hx
  have HS := hide hs
  have HE := hide h
  have HBad := hide hbad
  have HGood := hide hgood
  have HBl : Hid (b < w.heap.size) := hx.lt (by simp)
  have HG : Hid (7 < w.heap.size) := by
    have := h.errs.var 0 (by decide) rfl
    exact cell_lt this
  clear h hk hx hx0 hs hbad hgood
  go_enter Tryz.func133, Tryz.ntmps133
  go_wp2
  have HB0 : Hid (Below w.heap.size w (((w.alloc (hdO hd0)).alloc (.cells #[.int .i64 60, .int .i64 1000000, .int .i64 1000000006] 248)).alloc (.cells (arr3 [x1, x2, x3] 0) 248))) := (((Below.refl _ w).alloc (Nat.le_refl _) _).alloc (by simp) _).alloc (by simp; omega) _
  have HR0 : Hid ((((w.alloc (hdO hd0)).alloc (.cells #[.int .i64 60, .int .i64 1000000, .int .i64 1000000006] 248)).alloc (.cells (arr3 [x1, x2, x3] 0) 248)).heap[w.heap.size]? = some (hdO hd0)) := (heap_alloc_old _ _ (by simp; omega)).trans ((heap_alloc_old _ _ (by simp)).trans (heap_alloc_new _ _))
  have HR1 : Hid ((((w.alloc (hdO hd0)).alloc (.cells #[.int .i64 60, .int .i64 1000000, .int .i64 1000000006] 248)).alloc (.cells (arr3 [x1, x2, x3] 0) 248)).heap[w.heap.size + 1]? = some (.cells #[.int .i64 60, .int .i64 1000000, .int .i64 1000000006] 248 (0, 0))) := by
    refine (heap_alloc_old _ _ (by simp)).trans ?_
    have := heap_alloc_new (w.alloc (hdO hd0)) (.cells #[.int .i64 60, .int .i64 1000000, .int .i64 1000000006] 248)
    rw [show (w.alloc (hdO hd0)).heap.size = w.heap.size + 1 by simp] at this
    exact this
  have HR2 : Hid ((((w.alloc (hdO hd0)).alloc (.cells #[.int .i64 60, .int .i64 1000000, .int .i64 1000000006] 248)).alloc (.cells (arr3 [x1, x2, x3] 0) 248)).heap[w.heap.size + 2]? = some (.cells (arr3 [x1, x2, x3] 0) 248 (0, 0))) := by
    have := heap_alloc_new ((w.alloc (hdO hd0)).alloc (.cells #[.int .i64 60, .int .i64 1000000, .int .i64 1000000006] 248)) (.cells (arr3 [x1, x2, x3] 0) 248)
    rw [show ((w.alloc (hdO hd0)).alloc (.cells #[.int .i64 60, .int .i64 1000000, .int .i64 1000000006] 248)).heap.size = w.heap.size + 2 by simp] at this
    exact this
  clear hx2 hq
  go_loopg [6, 7, 8, 9, 25] 3 (fun gg _ _ _ _ s25 wr => ∃ k : Nat, k ≤ 3 ∧ 3 - k ≤ gg ∧ s25 = .int .i64 k ∧ Hid (Below w.heap.size w wr) ∧ Hid (wr.heap[w.heap.size]? = some (hdO hd0)) ∧ Hid (wr.heap[w.heap.size + 1]? = some (.cells #[.int .i64 60, .int .i64 1000000, .int .i64 1000000006] 248 (0, 0))) ∧ Hid (wr.heap[w.heap.size + 2]? = some (.cells (arr3 [x1, x2, x3] k) 248 (0, 0))) ∧ Hid (∀ j, j < k → numB ([x1, x2, x3].getD j ⟨#[]⟩).data.toList (mostH j) = true))
  case atStart => exact ⟨0, Nat.zero_le _, by omega, rfl, HB0, HR0, HR1, HR2, fun j hj => absurd hj (Nat.not_lt_zero _)⟩
  case round =>
    obtain ⟨k, hk, hg, rfl, HB, HT0, HT1, HT2, A⟩ := hrel
    by_cases hlt : k < 3
    · have hltz : (k : Int) < 3 := by omega
      have hk0 : (0 : Int) ≤ (k : Int) := by omega
      have hcell : wr.cell? ⟨b, o + 1 + k, none⟩ = some (.string ([x1, x2, x3].getD k ⟨#[]⟩)) := by
        rw [HB.out.cell (p := ⟨b, o + 1 + k, none⟩) HBl.out]
        have := HX.out (1 + k) (by simp; omega)
        rw [← Nat.add_assoc] at this
        rw [this]
        match k, hlt with
        | 0, _ => rfl
        | 1, _ => rfl
        | 2, _ => rfl
      have hmo : wr.cell? ⟨w.heap.size + 1, k, none⟩ = some (.int .i64 (mostH k)) := by
        rw [cell_of_row wr _ k _ _ _ HT1.out]
        match k, hlt with
        | 0, _ => rfl
        | 1, _ => rfl
        | 2, _ => rfl
      have hsz : ([x1, x2, x3].getD k ⟨#[]⟩).size ≤ maxLen := by
        refine HS.out _ ?_
        match k, hlt with
        | 0, _ => simp
        | 1, _ => simp
        | 2, _ => simp
      have HN := hide (number_any ([x1, x2, x3].getD k ⟨#[]⟩) (mostH k) wr hsz)
      have HBk := hide (HBad.out k hlt)
      have HAs : Hid (∀ v : Int, v = (Sl.valL ([x1, x2, x3].getD k ⟨#[]⟩).data.toList : Int) → (arr3 [x1, x2, x3] k).setIfInBounds k (.int .i64 v) = arr3 [x1, x2, x3] (k + 1)) := fun v hv => arr3_set x1 x2 x3 k hlt v hv
      have hac : ∃ u, (arr3 [x1, x2, x3] k)[k]? = some u := by
        match k, hlt with
        | 0, _ => exact ⟨_, rfl⟩
        | 1, _ => exact ⟨_, rfl⟩
        | 2, _ => exact ⟨_, rfl⟩
      obtain ⟨u, hu⟩ := hac
      have HU := hide hu
      have HA2 := hide A.out
      generalize harr : arr3 [x1, x2, x3] k = cs at *
      clear harr hu
      cases hnk : numB ([x1, x2, x3].getD k ⟨#[]⟩).data.toList (mostH k) with
      | false =>
        obtain ⟨rfl, rfl⟩ := HBk.out hnk
        rw [hnk] at HN
        generalize numV ([x1, x2, x3].getD k ⟨#[]⟩).data.toList (mostH k) = nv at *
        generalize [x1, x2, x3].getD k ⟨#[]⟩ = y at *
        clear hnk HBk HAs HU hsz HA2 A HBad HGood
        generalize mostH k = mo at *
        go_wp2_with fail
        refine HN.out.mono ?_
        rintro e w1 ⟨rfl, hb⟩
        have HB1 : Hid (Below w.heap.size w w1) := HB.out.trans (hb.mono HB.out.size)
        have HT4 : Hid (w1.heap[w.heap.size]? = some (hdO hd0)) := by show _ = _; rw [hb.block _ (row_lt HT0.out)]; exact HT0.out
        have hv : w1.cell? ⟨7, 0, none⟩ = some (eV (a 0)) := (HE.out.below HB1.out).errs.var 0 (by decide) rfl
        clear hb HN HB HT0 HT1 HT2
        obtain ⟨hd0', hd1, hd2, hf0, hf1, hf2⟩ := row_cells HT4.out
        dsimp only [hd0] at hd0' hd1 hd2
        have hv2 : ∀ v, (w1.setCell ⟨w.heap.size, 0, none⟩ v).cell? ⟨7, 0, none⟩ = some (eV (a 0)) := fun v => by
          rw [World.cell?_setCell_other _ _ _ _ (fun e => by have := HG.out; have := (Addr.mk.inj e).1; omega)]; exact hv
        go_wp2
        go_region
        go_wp2
        refine hdEnd rfl w.heap.size hd0 rfl (by rw [drewHeap]; exact row_set3 HT4.out _ _ _) rfl ?_
        exact ⟨rfl, (below_set3 HB1.out (Nat.le_refl _) _ _ _).drew⟩
      | true =>
        rw [hnk, show numV ([x1, x2, x3].getD k ⟨#[]⟩).data.toList (mostH k) = (Sl.valL ([x1, x2, x3].getD k ⟨#[]⟩).data.toList : Int) from if_pos hnk] at HN
        have HNk := hide hnk
        have HAs2 := hide (HAs.out _ rfl)
        generalize hnv : (Sl.valL ([x1, x2, x3].getD k ⟨#[]⟩).data.toList : Int) = nv at *
        generalize hyy : [x1, x2, x3].getD k ⟨#[]⟩ = y at *
        have HY := hide hyy
        clear hnk HBk HAs hsz hnv hyy
        generalize hmm : mostH k = mo at *
        have HM := hide hmm
        clear hmm
        go_wp2_with fail
        refine HN.out.mono ?_
        rintro e w1 ⟨rfl, hb⟩
        have HB1 : Hid (Below w.heap.size w w1) := HB.out.trans (hb.mono HB.out.size)
        have HT4 : Hid (w1.heap[w.heap.size]? = some (hdO hd0)) := by show _ = _; rw [hb.block _ (row_lt HT0.out)]; exact HT0.out
        have HT5 : Hid (w1.heap[w.heap.size + 1]? = some (.cells #[.int .i64 60, .int .i64 1000000, .int .i64 1000000006] 248 (0, 0))) := by show _ = _; rw [hb.block _ (row_lt HT1.out)]; exact HT1.out
        have HT6 : Hid (w1.heap[w.heap.size + 2]? = some (.cells cs 248 (0, 0))) := by show _ = _; rw [hb.block _ (row_lt HT2.out)]; exact HT2.out
        have hc1 : w1.cell? ⟨w.heap.size + 2, k, none⟩ = some u := by rw [cell_of_row w1 _ k _ _ _ HT6.out]; exact HU.out
        have hf1 : w1.frozen? ⟨w.heap.size + 2, k, none⟩ = false := frozen_of_row w1 _ k _ _ HT6.out
        clear hb HN HB HT0 HT1 HT2
        go_wp2
        go_roundg (3 - (k + 1))
        case measure => omega
        case rel =>
          refine ⟨k + 1, by omega, by omega, by go_num, HB1.out.setCell (by simp; omega) _, ?_, ?_, ?_, (show Hid _ from fun j hj => ?_)⟩
          · show _ = _
            rw [heap_setCell_other _ _ _ _ (by first | (simp; done) | (simp; omega) | omega)]; exact HT4.out
          · show _ = _
            rw [heap_setCell_other _ _ _ _ (by first | (simp; done) | (simp; omega) | omega)]; exact HT5.out
          · show _ = _
            rw [heap_setCell_same w1 _ k _ _ _ HT6.out, HAs2.out]
          · by_cases e : j = k
            · subst e; rw [HY.out, HM.out]; exact HNk.out
            · exact HA2.out j (by omega)
    · have : k = 3 := by omega
      subst this
      have HRr := hide (HGood.out A.out)
      clear HBad HGood A
      rw [arr3_3] at HT2
      generalize (Sl.valL x1.data.toList : Int) = v1 at *
      generalize (Sl.valL x2.data.toList : Int) = v2 at *
      generalize (Sl.valL x3.data.toList : Int) = v3 at *
      obtain ⟨hn0, hn1, hn2, _⟩ := row_cells HT2.out
      obtain ⟨hd0', hd1, hd2, hf0, hf1, hf2⟩ := row_cells HT0.out
      dsimp only [hd0] at hd0' hd1 hd2
      clear HX HS HE HB0 HR0 HR1 HR2
      go_wp2
      refine hdEnd rfl w.heap.size ⟨v1, v2, v3⟩ rfl (row_set3 HT0.out _ _ _) rfl ?_
      exact ⟨by rw [HRr.out.1, HRr.out.2]; rfl, below_set3 HB.out (Nat.le_refl _) _ _ _⟩

theorem hdRead_any (a : Nat → Addr) (b o c : Nat) (xs : List ByteArray) (w : World) (h : EnvF a w) (hc : xs.length ≤ c) (hx : Texts w b o xs) (hs : ∀ x ∈ xs, x.size ≤ maxLen) :
    Calls Tryz.prog 133 #[.slice (some ⟨b, o, none⟩) xs.length c] w fun e w' => e = .returned (.tuple #[(hdR (xs.map (·.data.toList))).val, errV a (hdC (xs.map (·.data.toList)))]) ∧ Below w.heap.size w w' := by
  by_cases hn : xs.length = 4
  · obtain ⟨x0, x1, x2, x3, rfl⟩ : ∃ x0 x1 x2 x3, xs = [x0, x1, x2, x3] := by
      match xs, hn with
      | [x0, x1, x2, x3], _ => exact ⟨_, _, _, _, rfl⟩
    have hok : hdOk (([x0, x1, x2, x3] : List ByteArray).map (·.data.toList)) = (decide (x0.data.toList = headL) && (numB x1.data.toList 60 && numB x2.data.toList 1000000 && numB x3.data.toList 1000000006)) := rfl
    by_cases hk : x0.data.toList = headL
    · rw [decide_eq_true hk, Bool.true_and] at hok
      refine hdRead_nums a b o c x0 x1 x2 x3 w h hc hx hk hs _ _ (fun k hk3 hno => ?_) (fun hall => ?_)
      · have : hdOk (([x0, x1, x2, x3] : List ByteArray).map (·.data.toList)) = false := by
          rw [hok]
          match k, hk3 with
          | 0, _ => rw [show numB x1.data.toList 60 = false from hno]; rfl
          | 1, _ => rw [show numB x2.data.toList 1000000 = false from hno, Bool.and_false]; rfl
          | 2, _ => rw [show numB x3.data.toList 1000000006 = false from hno, Bool.and_false]
        obtain ⟨e1, e2⟩ := hd_no this
        rw [e1, e2]
        exact ⟨rfl, rfl⟩
      · have : hdOk (([x0, x1, x2, x3] : List ByteArray).map (·.data.toList)) = true := by
          rw [hok, show numB x1.data.toList 60 = true from hall 0 (by decide), show numB x2.data.toList 1000000 = true from hall 1 (by decide), show numB x3.data.toList 1000000006 = true from hall 2 (by decide)]
          rfl
        unfold hdR hdC
        rw [this]
        exact ⟨rfl, rfl⟩
    · rw [decide_eq_false hk, Bool.false_and] at hok
      obtain ⟨e1, e2⟩ := hd_no hok
      rw [e1, e2]
      exact hdRead_kind a b o c x0 w h (hx 0 (by simp)) hk
  · have hok : hdOk (xs.map (·.data.toList)) = false := by
      unfold hdOk
      rw [decide_eq_false (by rw [List.length_map]; exact hn)]
      rfl
    obtain ⟨e1, e2⟩ := hd_no hok
    rw [e1, e2]
    exact hdRead_len a _ xs.length c w h hn

/-- Of a text: the number of its error, and the head. -/
def openHC (key : Int) (l : List UInt8) : Nat := if Sl.openE key l = 0 then hdC (Sl.lookW l) else Sl.openE key l
def openHR (key : Int) (l : List UInt8) : Hd := if Sl.openE key l = 0 then hdR (Sl.lookW l) else hd0
theorem openE_le16 (key : Int) (l : List UInt8) : Sl.openE key l ≤ 16 := by
  unfold Sl.openE Sl.lookE
  repeat' split
  all_goals omega
theorem openHC_le (key : Int) (l : List UInt8) : openHC key l ≤ 16 := by
  unfold openHC hdC
  have := openE_le16 key l
  repeat' split
  all_goals omega
theorem open_made (key : Int) (hk : 1 ≤ key ∧ key ≤ 1000000006) (n t s : Int) (hn : 0 ≤ n ∧ n ≤ 60) (ht : 0 ≤ t ∧ t ≤ 1000000) (hs : 0 ≤ s ∧ s ≤ 1000000006) :
    openHC key (Sl.sealL key (headW n t s)) = 0 ∧ openHR key (Sl.sealL key (headW n t s)) = ⟨n, t, s⟩ := by
  obtain ⟨e1, _, _, e4, _⟩ := Sl.seal_look key hk (headW n t s) (headW_ok n t s (by omega) (by omega) (by omega))
  unfold openHC openHR
  rw [e4, if_pos rfl, if_pos rfl, e1]
  exact hd_made n t s hn ht hs

set_option maxRecDepth 100000 in
set_option maxHeartbeats 2000000 in
theorem fdOpen_any (a : Nat → Addr) (key : Int) (s : ByteArray) (w : World) (h : EnvF a w) :
    Calls Tryz.prog 92 #[.int .i64 key, .string s] w fun e w' => e = .returned (.tuple #[(openHR key s.data.toList).val, errV a (openHC key s.data.toList)]) ∧ Below w.heap.size w w' := by
  have HB0 : Hid (Below w.heap.size w (w.alloc (hdO hd0))) := (Below.refl _ w).alloc (Nat.le_refl _) _
  have HR0 : Hid ((w.alloc (hdO hd0)).heap[w.heap.size]? = some (hdO hd0)) := heap_alloc_new _ _
  have HO := hide (open_ev a key s _ (h.below HB0.out).e)
  have HE := hide h
  by_cases h0 : Sl.openE key s.data.toList = 0
  · rw [show openHC key s.data.toList = hdC (Sl.lookW s.data.toList) from if_pos h0, show openHR key s.data.toList = hdR (Sl.lookW s.data.toList) from if_pos h0]
    have hw := (Sl.wordsOk_iff _).1 (Sl.lookOk_words _ (Sl.lookE_ok _ (((Sl.openE_iff key _).1 h0).2.1)))
    have HRd := hide (fun b w h hx => hdRead_any a b 0 (Sl.lookW s.data.toList).length ((Sl.lookW s.data.toList).map Sl.ofL) w h (by rw [List.length_map]; exact Nat.le_refl _) hx (fun x hx => by
      obtain ⟨y, hy, rfl⟩ := List.mem_map.1 hx
      have := (Sl.word_len y (hw.2 y hy)).2
      rw [Sl.ofL_size]
      unfold maxLen; omega))
    have hmm : ((Sl.lookW s.data.toList).map Sl.ofL).map (·.data.toList) = Sl.lookW s.data.toList := by
      rw [List.map_map]
      conv => rhs; rw [← List.map_id (Sl.lookW s.data.toList)]
      exact List.map_congr_left fun l _ => rfl
    rw [hmm, List.length_map] at HRd
    rw [h0] at HO
    generalize hdR (Sl.lookW s.data.toList) = r at *
    generalize errV a (hdC (Sl.lookW s.data.toList)) = rv at *
    clear h h0 hmm hw
    generalize Sl.lookW s.data.toList = ws at *
    obtain ⟨rn, rt, rs⟩ := r
    unfold Hd.val at HRd ⊢
    dsimp only at *
    go_enter Tryz.func92, Tryz.ntmps92
    go_wp2_with fail
    refine HO.out.mono ?_
    rintro e w1 ⟨hb, hp⟩
    unfold WordsPost at hp
    rw [if_pos rfl] at hp
    obtain ⟨b, hx, rfl⟩ := hp
    have HB1 : Hid (Below w.heap.size w w1) := HB0.out.trans (hb.mono HB0.out.size)
    have HT1 : Hid (w1.heap[w.heap.size]? = some (hdO hd0)) := by show _ = _; rw [hb.block _ (by simp)]; exact HR0.out
    have HRd1 := hide (HRd.out b w1 (HE.out.below HB1.out) hx)
    clear hb hx HB0 HO HR0 HE HRd
    generalize ws.length = n at *
    go_wp2_with fail
    refine HRd1.out.mono ?_
    rintro e w2 ⟨rfl, hb⟩
    have HB2 : Hid (Below w.heap.size w w2) := HB1.out.trans (hb.mono HB1.out.size)
    have HT2 : Hid (w2.heap[w.heap.size]? = some (hdO hd0)) := by show _ = _; rw [hb.block _ (row_lt HT1.out)]; exact HT1.out
    clear hb HB1 HT1 HRd1
    obtain ⟨hd0', hd1, hd2, hf0, hf1, hf2⟩ := row_cells HT2.out
    dsimp only [hd0] at hd0' hd1 hd2
    go_wp2
    refine hdEnd rfl w.heap.size ⟨rn, rt, rs⟩ rfl (row_set3 HT2.out _ _ _) rfl ?_
    exact ⟨rfl, below_set3 HB2.out (Nat.le_refl _) _ _ _⟩
  · rw [show openHC key s.data.toList = Sl.openE key s.data.toList from if_neg h0, show openHR key s.data.toList = hd0 from if_neg h0, errV_pos a h0]
    have HO2 : Hid (Calls Tryz.prog 113 #[.int .i64 key, .string s] (w.alloc (hdO hd0)) fun e w' => e = .returned (.tuple #[.slice none 0 0, eV (a (Sl.openE key s.data.toList - 1))]) ∧ Below (w.alloc (hdO hd0)).heap.size (w.alloc (hdO hd0)) w') := HO.out.mono fun e w' ⟨hb, hp⟩ => by
      unfold WordsPost at hp
      rw [if_neg h0, errV_pos a h0] at hp
      exact ⟨hp, hb⟩
    generalize a (Sl.openE key s.data.toList - 1) = ad at *
    clear h h0 HO HE
    go_enter Tryz.func92, Tryz.ntmps92
    go_wp2_with fail
    refine HO2.out.mono ?_
    rintro e w1 ⟨rfl, hb⟩
    have HB1 : Hid (Below w.heap.size w w1) := HB0.out.trans (hb.mono HB0.out.size)
    have HT1 : Hid (w1.heap[w.heap.size]? = some (hdO hd0)) := by show _ = _; rw [hb.block _ (by simp)]; exact HR0.out
    clear hb HB0 HO2 HR0
    obtain ⟨hd0', hd1, hd2, hf0, hf1, hf2⟩ := row_cells HT1.out
    dsimp only [hd0] at hd0' hd1 hd2
    go_wp2
    refine hdEnd rfl w.heap.size hd0 rfl (row_set3 HT1.out _ _ _) rfl ?_
    exact ⟨rfl, below_set3 HB1.out (Nat.le_refl _) _ _ _⟩
end Go.Proofs.YtgagekcjdapkfadGreatDoor

namespace Go.Proofs.YtgagekcjdapkfadGreatDoor
open Go.RowKit Go.Extern.Stop Go.Stop Go.Extern Go.Proofs

theorem text_sizeS {l : List Fl} (h : RightF l) (hl : l.length ≤ 21) : (textL l).length ≤ 4000 := by
  unfold textL
  split
  · simp
  · have := join_len 44 30 (l.map oneT) (fun w hw => by
      obtain ⟨f, hf, rfl⟩ := List.mem_map.1 hw
      exact one_len (h.one f hf))
    rw [List.length_map] at this
    omega
/-- The sum of floors. -/
def sumL (l : List Fl) : Int := if (checkL l).1 = 0 then moreN 1 1 (textL l) else 0

set_option maxRecDepth 100000 in
set_option maxHeartbeats 2000000 in
theorem sum_ev (S : Nat → Bool) (hS : ∀ i, i < 16 → flS i = true → S i = true) (hS9 : S 9 = true) (a : Nat → Addr) (v : Value) (l : List Fl) (w : World) (h : EV S a w) (ht : Tab10 w) (hv : FlAt w v l) (hs : ∀ f ∈ l, f.who.size ≤ maxLen) (hl : l.length ≤ 1000000) :
    Calls Tryz.prog 87 #[v] w fun e w' => e = .returned (.int .i64 (sumL l)) ∧ Below w.heap.size w w' := by
  have HT := hide (text_any a v l w ⟨fun i hi h2 => h.var i hi (hS i hi h2)⟩ ht hv hs hl)
  have HE := hide h
  have HS1 : Hid (S 1 = true ∧ S 9 = true) := ⟨hS 1 (by decide) rfl, hS9⟩
  clear h ht hv hs hl hS hS9
  by_cases h0 : (checkL l).1 = 0
  · have HS : Hid (sumL l = moreN 1 1 (textL l)) := if_pos h0
    obtain ⟨hr, h21⟩ := right_of_check h0
    have HO := hide (fun w h => of_ev S HS1.out.1 HS1.out.2 a 1 (txt (textL l)) w h (by rw [txt_size]; have := text_sizeS hr h21; unfold maxLen; omega))
    rw [txt_list, show moreE 1 1 = 0 from by rw [key_more]; rfl] at HO
    replace HO : Hid (∀ w, EV S a w → Calls Tryz.prog 68 #[.int .i64 1, .string (txt (textL l))] w fun e w' => e = .returned (.tuple #[.int .i64 (moreN 1 1 (textL l)), .nilIface]) ∧ Below w.heap.size w w') := HO.out
    rw [HS.out]
    clear HS hr h21
    generalize moreN 1 1 (textL l) = m at *
    generalize textL l = t at *
    generalize checkL l = c at *
    go_enter Tryz.func87, Tryz.ntmps87
    go_wp2_with fail
    refine HT.out.mono ?_
    rintro e w1 ⟨hp, hb⟩
    rcases hp with ⟨_, rfl⟩ | ⟨hn, _⟩
    · have HB1 := hide hb
      clear hb HT h0
      go_wp2_with fail
      refine (HO.out _ (HE.out.below HB1.out)).mono ?_
      rintro e w2 ⟨rfl, hb⟩
      have HB2 : Hid (Below w.heap.size w w2) := HB1.out.trans (hb.mono HB1.out.size)
      clear hb HO HE HB1
      go_wp2
      go_ret
      exact ⟨rfl, HB2.out⟩
    · exact absurd h0 hn
  · have HS : Hid (sumL l = 0) := if_neg h0
    rw [HS.out]
    clear HS HE
    generalize textL l = t at *
    generalize checkL l = c at *
    go_enter Tryz.func87, Tryz.ntmps87
    go_wp2_with fail
    refine HT.out.mono ?_
    rintro e w1 ⟨hp, hb⟩
    rcases hp with ⟨hn, _⟩ | ⟨_, t1, p1, rfl, _⟩
    · exact absurd hn h0
    · clear h0 HT
      go_wp2
      go_ret
      exact ⟨rfl, hb⟩
theorem sum_any (a : Nat → Addr) (v : Value) (l : List Fl) (w : World) (h : Errs a w) (ht : Tab10 w) (hv : FlAt w v l) (hs : ∀ f ∈ l, f.who.size ≤ maxLen) (hl : l.length ≤ 1000000) :
    Calls Tryz.prog 87 #[v] w fun e w' => e = .returned (.int .i64 (sumL l)) ∧ Below w.heap.size w w' := sum_ev (fun _ => true) (fun _ _ _ => rfl) rfl a v l w (h.ev _) ht hv hs hl
end Go.Proofs.YtgagekcjdapkfadGreatDoor

namespace Go.Proofs.YtgagekcjdapkfadGreatDoor
open Go.RowKit Go.Extern.Stop Go.Stop Go.Extern Go.Proofs

/-- The number of Make's error, and its place; the text. -/
def headC (key : Int) (l : List En) (time : Int) : Nat × Int :=
  if 1 ≤ key ∧ key ≤ 1000000006 then (if (floorsC l).1 = 0 then (if (0 ≤ time ∧ time ≤ 1000000) ∧ newL l ≤ time then (0, -1) else (2, -1)) else floorsC l) else (10, -1)
def headT (key : Int) (l : List En) (time : Int) : List UInt8 := Sl.sealL key (headW (l.length : Int) time (sumL (floorsR l)))
theorem sum_bd (l : List Fl) : 0 ≤ sumL l ∧ sumL l ≤ 1000000006 := by
  unfold sumL
  split
  · unfold moreN
    split
    · have := Mk.mk_bd 1 1 (by omega) (textL l)
      omega
    · omega
  · omega
theorem headC_zero {key : Int} {l : List En} {time : Int} (h : (headC key l time).1 = 0) : (1 ≤ key ∧ key ≤ 1000000006) ∧ (floorsC l).1 = 0 ∧ (0 ≤ time ∧ time ≤ 1000000) ∧ newL l ≤ time := by
  unfold headC at h
  split at h
  · rename_i h1
    split at h
    · rename_i h2
      split at h
      · rename_i h3
        exact ⟨h1, h2, h3⟩
      · cases h
    · rename_i h2; exact absurd h h2
  · cases h
theorem headC_le (key : Int) (l : List En) (time : Int) : (headC key l time).1 ≤ 16 := by
  unfold headC
  have := floors_le l
  repeat' split
  all_goals first | assumption | decide
/-- A head tells what it was made of. -/
theorem head_open {key : Int} {l : List En} {time : Int} (h : (headC key l time).1 = 0) : openHC key (headT key l time) = 0 ∧ openHR key (headT key l time) = ⟨l.length, time, sumL (floorsR l)⟩ := by
  obtain ⟨hk, h2, ht, _⟩ := headC_zero h
  have h60 := (feed_zero (floors_zero h2).1).1
  exact open_made key hk _ _ _ ⟨by omega, by omega⟩ ht (sum_bd _)

set_option maxRecDepth 100000 in
set_option maxHeartbeats 8000000 in
theorem fdMake_any (a : Nat → Addr) (key : Int) (v : Value) (l : List En) (time : Int) (w : World) (h : EnvF a w) (hv : EnAt w v l) (hs : ∀ e ∈ l, e.fl.who.size ≤ maxLen) (hl : l.length ≤ 100000) :
    Calls Tryz.prog 45 #[.int .i64 key, v, .int .i64 time] w fun e w' => TextPost a (headC key l time) (headT key l time) e w' ∧ Below w.heap.size w w' := by
  have HOf := hide (of_ev slS rfl rfl a key ⟨#[]⟩ w h.errs.sl (by decide))
  rw [key_more] at HOf
  have HE := hide h
  have HV := hide hv
  have HFl := hide (fun w h hv => floors_any a v l w h hv hs (by omega))
  have HTm := hide (fun w => fdTime_any time w)
  have HNw := hide (fun w h => newest_any v l w h (by omega))
  by_cases hk : 1 ≤ key ∧ key ≤ 1000000006
  · rw [if_pos hk, errV_zero] at HOf
    generalize moreN key key _ = m0 at *
    have hC : headC key l time = (if (floorsC l).1 = 0 then (if (0 ≤ time ∧ time ≤ 1000000) ∧ newL l ≤ time then (0, -1) else (2, -1)) else floorsC l) := if_pos hk
    by_cases h1 : (floorsC l).1 = 0
    · rw [if_pos h1] at hC
      have h60 := (feed_zero (floors_zero h1).1).1
      by_cases h2 : 0 ≤ time ∧ time ≤ 1000000
      · rw [decide_eq_true h2] at HTm
        by_cases h3 : newL l ≤ time
        · rw [if_pos ⟨h2, h3⟩] at hC
          have HSm := hide (fun v w h ht hv => sum_ev fdS (by decide) rfl a v (floorsR l) w h ht hv (small_floors hs) (by have := (floors_right l).2; omega))
          obtain ⟨hs0, hs1⟩ := sum_bd (floorsR l)
          have HW := hide (fun w h => fdWords_any (l.length : Int) time (sumL (floorsR l)) w h ⟨by omega, by omega⟩ ⟨by omega, by omega⟩ ⟨by omega, by omega⟩)
          have hmm : ((headW (l.length : Int) time (sumL (floorsR l))).map Sl.ofL).map (·.data.toList) = headW (l.length : Int) time (sumL (floorsR l)) := rfl
          have HMk := hide (fun b w h hx => make_ok_ev a key b 0 4 4 ((headW (l.length : Int) time (sumL (floorsR l))).map Sl.ofL) w h hk (Nat.le_refl _) hx rfl (by rw [hmm]; exact headW_ok _ _ _ (by omega) (by omega) (by omega)))
          rw [hmm] at HMk
          have hT : Sl.sealL key (headW (l.length : Int) time (sumL (floorsR l))) = headT key l time := rfl
          rw [hT] at HMk
          rw [hC]
          have h3z : ¬ time < newL l := by omega
          obtain ⟨ad, cap, rfl, hcap⟩ := hv.form
          clear hC hT hmm h hv hs hk
          generalize headW (l.length : Int) time (sumL (floorsR l)) = ws at *
          generalize headT key l time = ht at *
          generalize floorsC l = fc at *
          generalize floorsR l = fr at *
          generalize sumL fr = sm at *
          generalize newL l = nw at *
          generalize hn : l.length = n at *
          clear hn
          go_enter Tryz.func45, Tryz.ntmps45
          go_wp2_with fail
          refine HOf.out.mono ?_
          rintro e w1 ⟨rfl, hb⟩
          have HB1 := hide hb
          clear hb HOf
          go_wp2_with fail
          refine (HFl.out _ (HE.out.below HB1.out).errs (HV.out.below HB1.out)).mono ?_
          rintro e w2 ⟨⟨v2, ev2, rfl, hown, herr, _⟩, hb⟩
          obtain rfl := herr.none h1
          have HB2 : Hid (Below w.heap.size w w2) := HB1.out.trans (hb.mono HB1.out.size)
          have HF2 := hide hown.flAt
          clear herr hown hb HFl HB1 h1
          go_wp2_with fail
          refine (HTm.out _).mono ?_
          rintro e w3 ⟨rfl, rfl⟩
          go_wp2_with fail
          refine (HNw.out _ (HV.out.below HB2.out)).mono ?_
          rintro e w4 ⟨rfl, rfl⟩
          go_wp2_with fail
          refine (HSm.out _ _ (HE.out.below HB2.out).errs (HE.out.below HB2.out).tab HF2.out).mono ?_
          rintro e w5 ⟨rfl, hb⟩
          have HB5 : Hid (Below w.heap.size w w5) := HB2.out.trans (hb.mono HB2.out.size)
          clear hb HSm HF2 HB2
          go_wp2_with fail
          refine (HW.out _ (HE.out.below HB5.out).tab).mono ?_
          rintro e w6 ⟨b6, hx, rfl, hb⟩
          have HB6 : Hid (Below w.heap.size w w6) := HB5.out.trans (hb.mono HB5.out.size)
          have HX6 := hide hx
          clear hb hx HW HB5
          go_wp2_with fail
          refine (HMk.out _ _ (HE.out.below HB6.out).e HX6.out).mono ?_
          rintro e w7 ⟨rfl, hb⟩
          have HB7 : Hid (Below w.heap.size w w7) := HB6.out.trans (hb.mono HB6.out.size)
          clear hb HMk HX6 HB6
          go_wp2
          go_ret2
          exact ⟨Or.inl ⟨rfl, rfl⟩, HB7.out⟩
        · rw [if_neg (fun h => h3 h.2)] at hC
          rw [hC]
          have h3z : time < newL l := by omega
          generalize headT key l time = ht at *
          clear hC h hv hs hk
          generalize floorsC l = fc at *
          generalize floorsR l = fr at *
          generalize newL l = nw at *
          go_enter Tryz.func45, Tryz.ntmps45
          go_wp2_with fail
          refine HOf.out.mono ?_
          rintro e w1 ⟨rfl, hb⟩
          have HB1 := hide hb
          clear hb HOf
          go_wp2_with fail
          refine (HFl.out _ (HE.out.below HB1.out).errs (HV.out.below HB1.out)).mono ?_
          rintro e w2 ⟨⟨v2, ev2, rfl, hown, herr, _⟩, hb⟩
          obtain rfl := herr.none h1
          have HB2 : Hid (Below w.heap.size w w2) := HB1.out.trans (hb.mono HB1.out.size)
          have hvv : w2.cell? ⟨0, 0, none⟩ = some (eV (a 1)) := (HE.out.below HB2.out).errs.var 1 (by decide) rfl
          clear herr hown hb HFl HB1 h1
          go_wp2_with fail
          refine (HTm.out _).mono ?_
          rintro e w3 ⟨rfl, rfl⟩
          go_wp2_with fail
          refine (HNw.out _ (HV.out.below HB2.out)).mono ?_
          rintro e w4 ⟨rfl, rfl⟩
          go_wp2
          go_quiet (fail)
          go_wp2
          go_ret2
          exact ⟨Or.inr ⟨by decide, _, _, rfl, Or.inr (Or.inl ⟨by decide, rfl, rfl⟩)⟩, below_drewN HB2.out _⟩
      · rw [if_neg (fun h => h2 h.1)] at hC
        rw [hC]
        rw [decide_eq_false h2] at HTm
        generalize headT key l time = ht at *
        clear hC h hv hs hk h2 HNw
        generalize floorsC l = fc at *
        generalize floorsR l = fr at *
        go_enter Tryz.func45, Tryz.ntmps45
        go_wp2_with fail
        refine HOf.out.mono ?_
        rintro e w1 ⟨rfl, hb⟩
        have HB1 := hide hb
        clear hb HOf
        go_wp2_with fail
        refine (HFl.out _ (HE.out.below HB1.out).errs (HV.out.below HB1.out)).mono ?_
        rintro e w2 ⟨⟨v2, ev2, rfl, hown, herr, _⟩, hb⟩
        obtain rfl := herr.none h1
        have HB2 : Hid (Below w.heap.size w w2) := HB1.out.trans (hb.mono HB1.out.size)
        have hvv : w2.cell? ⟨0, 0, none⟩ = some (eV (a 1)) := (HE.out.below HB2.out).errs.var 1 (by decide) rfl
        clear herr hown hb HFl HB1 h1
        go_wp2_with fail
        refine (HTm.out _).mono ?_
        rintro e w3 ⟨rfl, rfl⟩
        go_wp2
        go_quiet (fail)
        go_wp2
        go_ret2
        exact ⟨Or.inr ⟨by decide, _, _, rfl, Or.inr (Or.inl ⟨by decide, rfl, rfl⟩)⟩, below_drewN HB2.out _⟩
    · rw [if_neg h1] at hC
      rw [hC]
      generalize headT key l time = ht at *
      clear hC h hv hs hk HNw HTm
      generalize floorsC l = fc at *
      generalize floorsR l = fr at *
      have HH := hide h1
      go_enter Tryz.func45, Tryz.ntmps45
      go_wp2_with fail
      refine HOf.out.mono ?_
      rintro e w1 ⟨rfl, hb⟩
      have HB1 := hide hb
      clear hb HOf
      go_wp2_with fail
      refine (HFl.out _ (HE.out.below HB1.out).errs (HV.out.below HB1.out)).mono ?_
      rintro e w2 ⟨⟨v2, ev2, rfl, hown, herr, hnil⟩, hb⟩
      have HEr := hide herr
      have HB2 : Hid (Below w.heap.size w w2) := HB1.out.trans (hb.mono HB1.out.size)
      rcases herr.cases with ⟨e0, _⟩ | ⟨_, tt, pp, rfl⟩
      · exact absurd e0 HH.out
      · clear herr hown hb hnil h1 HFl HB1
        go_wp2
        go_ret2
        exact ⟨Or.inr ⟨HH.out, _, _, rfl, HEr.out⟩, HB2.out⟩
  · have hC : headC key l time = (10, -1) := if_neg hk
    rw [if_neg hk, show errV a 10 = eV (a 9) from rfl] at HOf
    rw [hC]
    generalize moreN key key _ = m0 at *
    generalize headT key l time = ht at *
    clear hC h hv hs hk HNw HTm HFl
    go_enter Tryz.func45, Tryz.ntmps45
    go_wp2_with fail
    refine HOf.out.mono ?_
    rintro e w1 ⟨rfl, hb⟩
    have HB1 := hide hb
    clear hb HOf
    go_wp2
    go_ret2
    exact ⟨Or.inr ⟨by decide, _, _, rfl, Or.inr (Or.inl ⟨by decide, rfl, rfl⟩)⟩, HB1.out⟩
end Go.Proofs.YtgagekcjdapkfadGreatDoor

/-
  What was seen, in memory: its block, and its map; what package seen's New, Many, and its own isTime, isLate, check and forget give, for every word and every time.
-/
import Derived.Test.YtgagekcjdapkfadDoorSeenPlain
import Derived.Test.YtgagekcjdapkfadDoorSealWords
import Derived.Test.YtgagekcjdapkfadDoorCoded
import Derived.Test.YtgagekcjdapkfadDoorSeenLays
import Derived.Maps.OwnSet
import Derived.Laws.Rows
import Derived.StringKeys
import Derived.Laws.NewBlocks
import Derived.Laws.ResultCell
import Derived.RegionTactic
namespace Go.Proofs.YtgagekcjdapkfadDoor
open Go.RowKit Go.Extern.Stop Go.Stop Go.Extern Go.Maps Go.Shelf

/-- The six errors of the chapter. -/
def seS (i : Nat) : Bool := i == 0 || i == 1 || i == 5 || i == 6 || i == 10 || i == 11
theorem seen_grown {w w' : World} (h : Below w.heap.size w w') (row : Option Nat) : w.grownBy w' row := ⟨h.os, h.tape, h.output, h.size, fun k hk _ => h.block k hk⟩
theorem own_tight {w : World} {b n : Nat} {D : DataW Unit} (h : w.ownsMap Tryd.prog 9 wdR b n D) : w.ownsMap Tryd.prog 9 wdR b (Maps.size D) D := by
  obtain ⟨es, clock, hb, F, hs, hD⟩ := h
  refine ⟨es, clock, hb, F, ?_, hD⟩
  rw [hD]
  simp [Maps.size, length_sorted]
abbrev seO (long : Int) (m : Nat) : Obj := .cells #[.int .i64 long, .map (some m)] 48 (0, 0)
/-- What was seen, in memory. -/
structure SeenAt (w : World) (p m : Nat) (long : Int) (L : List Wd) : Prop where
  row : w.heap[p]? = some (seO long m)
  own : w.ownsMap Tryd.prog 9 wdR m L.length (dOfW L)
  good : GoodW L
  ticks : 0 ≤ long ∧ long ≤ 1000000
theorem SeenAt.ne {w : World} {p m : Nat} {long : Int} {L : List Wd} (h : SeenAt w p m long L) : p ≠ m := fun e => by
  obtain ⟨es, clock, hb, _⟩ := h.own
  rw [← e, h.row] at hb
  cases hb
theorem SeenAt.same {w w' : World} {p m : Nat} {long : Int} {L : List Wd} (h : SeenAt w p m long L) (h1 : w'.heap[p]? = w.heap[p]?) (h2 : w'.heap[m]? = w.heap[m]?) : SeenAt w' p m long L := by
  obtain ⟨es, clock, hb, F, hs, hD⟩ := h.own
  exact ⟨h1.trans h.row, ⟨es, clock, h2.trans hb, F, hs, hD⟩, h.good, h.ticks⟩
theorem SeenAt.kept {w w' : World} {p m : Nat} {long : Int} {L : List Wd} (h : SeenAt w p m long L) {row : Option Nat} (hg : w.grownBy w' row) (h1 : some p ≠ row) (h2 : some m ≠ row) : SeenAt w' p m long L :=
  h.same (hg.block p (row_lt h.row) h1) (hg.block m h.own.lt h2)
theorem SeenAt.below {w w' : World} {p m : Nat} {long : Int} {L : List Wd} (h : SeenAt w p m long L) (hb : Below w.heap.size w w') : SeenAt w' p m long L :=
  h.kept (seen_grown hb none) (by simp) (by simp)
theorem SeenAt.cells {w : World} {p m : Nat} {long : Int} {L : List Wd} (h : SeenAt w p m long L) : w.cell? ⟨p, 0, none⟩ = some (.int .i64 long) ∧ w.cell? ⟨p, 1, none⟩ = some (.map (some m)) :=
  ⟨cell_of_row w p 0 _ _ _ h.row, cell_of_row w p 1 _ _ _ h.row⟩
/-- Its map written. -/
theorem SeenAt.turn {w w' : World} {p m n : Nat} {long : Int} {L L' : List Wd} (h : SeenAt w p m long L) (ho : w'.ownsMap Tryd.prog 9 wdR m n (dOfW L')) (hg : w.grownBy w' (some m)) (hL : GoodW L') : SeenAt w' p m long L' := by
  refine ⟨(hg.block p (row_lt h.row) (by have := h.ne; simpa using this)).trans h.row, ?_, hL, h.ticks⟩
  have := own_tight ho
  rwa [dOfW_size] at this

theorem seIsTime_any (n : Int) (w : World) :
    Calls Tryd.prog 15 #[.int .i64 n] w fun e w' => e = .returned (.bool (decide (0 ≤ n ∧ n ≤ 1000000))) ∧ w' = w := by
  by_cases h1 : 0 ≤ n
  · by_cases h2 : n ≤ 1000000
    · rw [decide_eq_true ⟨h1, h2⟩]
      go_enter Tryd.func15, Tryd.ntmps15
      go_wp2
      go_ret
      exact ⟨rfl, rfl⟩
    · rw [decide_eq_false (fun h => h2 h.2)]
      go_enter Tryd.func15, Tryd.ntmps15
      go_wp2
      go_ret
      exact ⟨by simp_all, rfl⟩
  · rw [decide_eq_false (fun h => h1 h.1)]
    go_enter Tryd.func15, Tryd.ntmps15
    go_wp2
    go_ret
    exact ⟨rfl, rfl⟩

theorem seIsLate_any (p : Nat) (long t now : Int) (w : World) (hc : w.cell? ⟨p, 0, none⟩ = some (.int .i64 long)) (hl : 0 ≤ long ∧ long ≤ 1000000) (hn : 0 ≤ now ∧ now ≤ 1000000) :
    Calls Tryd.prog 23 #[.pointer (some ⟨p, 0, none⟩), .int .i64 t, .int .i64 now] w fun e w' => e = .returned (.bool (lateB long now t)) ∧ w' = w := by
  obtain ⟨hl1, hl2⟩ := hl
  obtain ⟨hn1, hn2⟩ := hn
  unfold lateB
  by_cases h : t < now - long
  · rw [decide_eq_true h]
    go_enter Tryd.func23, Tryd.ntmps23
    go_wp2
    go_ret
    exact ⟨by simp_all, rfl⟩
  · rw [decide_eq_false h]
    go_enter Tryd.func23, Tryd.ntmps23
    go_wp2
    go_ret
    exact ⟨by simp_all, rfl⟩

theorem seForget1_any (p b1 b2 : Nat) (long t now : Int) (k : Value) (w : World) (hc : w.cell? ⟨p, 0, none⟩ = some (.int .i64 long)) (hl : 0 ≤ long ∧ long ≤ 1000000) (hn : 0 ≤ now ∧ now ≤ 1000000)
    (h1 : w.cell? ⟨b1, 0, none⟩ = some (.pointer (some ⟨p, 0, none⟩))) (h2 : w.cell? ⟨b2, 0, none⟩ = some (.int .i64 now)) :
    Calls Tryd.prog 25 (#[k, .int .i64 t] ++ #[.pointer (some ⟨b1, 0, none⟩), .pointer (some ⟨b2, 0, none⟩)]) w fun e w' => e = .returned (.bool (lateB long now t)) ∧ w' = w := by
  have HL := hide (seIsLate_any p long t now w hc hl hn)
  show Calls Tryd.prog 25 #[k, .int .i64 t, .pointer (some ⟨b1, 0, none⟩), .pointer (some ⟨b2, 0, none⟩)] w _
  clear hc hl hn
  generalize lateB long now t = r at *
  go_enter Tryd.func25, Tryd.ntmps25
  go_wp2_with fail
  refine HL.out.mono ?_
  rintro e w1 ⟨rfl, rfl⟩
  go_wp2
  go_ret
  exact ⟨rfl, rfl⟩

abbrev bxP (p : Nat) : Obj := .cells #[.pointer (some ⟨p, 0, none⟩)] 25 (0, 0)
abbrev bxI (n : Int) : Obj := .cells #[.int .i64 n] 3 (0, 0)
set_option maxRecDepth 100000 in
set_option maxHeartbeats 1000000 in
theorem seForget_any (p m : Nat) (long now : Int) (L : List Wd) (w : World) (h : SeenAt w p m long L) (hn : 0 ≤ now ∧ now ≤ 1000000) :
    Calls Tryd.prog 17 #[.pointer (some ⟨p, 0, none⟩), .int .i64 now] w fun e w' => e = .returned (.tuple #[]) ∧ SeenAt w' p m long (keepW long now L) ∧ w.grownBy w' (some m) := by
  have hB : Below w.heap.size w ((w.alloc (bxP p)).alloc (bxI now)) := ((Below.refl _ _).alloc (Nat.le_refl _) _).alloc (by simp) _
  have hS := h.below hB
  have hb1 : ((w.alloc (bxP p)).alloc (bxI now)).cell? ⟨w.heap.size, 0, none⟩ = some (.pointer (some ⟨p, 0, none⟩)) := by
    exact Lib.cell?_alloc_some _ (by rw [World.cell?_alloc_at _ _ _ _ (by simp)]; rfl)
  have hb2 : ((w.alloc (bxP p)).alloc (bxI now)).cell? ⟨w.heap.size + 1, 0, none⟩ = some (.int .i64 now) := by
    rw [World.cell?_alloc_at _ _ _ _ (by simp)]; rfl
  have hml := h.own.lt
  have hpl := row_lt h.row
  have hpm := h.ne
  have eg : ∀ args w, (callFunc 25 args).run Tryd.prog w = .ok (.enter 25 args) w := enters_of Tryd.func25 (by kernel_rfl) rfl
  have hcon := AnyDf.maps_DeleteFunc Tryd.delS (string_keyed Tryd.underlying9) wdR (lateD long now) 25 #[.pointer (some ⟨w.heap.size, 0, none⟩), .pointer (some ⟨w.heap.size + 1, 0, none⟩)] m L.length (dOfW L) ((w.alloc (bxP p)).alloc (bxI now)) eg hS.own (fun W key val kl yd yp hgW _ hv => by
    obtain ⟨t, rfl, hy⟩ := wdR_inv hv
    obtain rfl : yd = .lit (.int .i64 t) := congrArg Prod.fst hy
    have c0 := hgW.cell hS.cells.1 (by simpa using hpm)
    have c1 := hgW.cell hb1 (by simp; omega)
    have c2 := hgW.cell hb2 (by simp; omega)
    exact (seForget1_any p w.heap.size (w.heap.size + 1) long t now key W c0 h.ticks hn c1 c2).mono fun _ _ ⟨he, hw⟩ => ⟨he, hw ▸ World.grownBy.refl _ _⟩)
  change Calls Tryd.prog 24 _ _ _ at hcon
  rw [dOfW_keep] at hcon
  have HC := hide hcon
  have HF : Hid (∀ w', w'.ownsMap Tryd.prog 9 wdR m L.length (dOfW (keepW long now L)) → ((w.alloc (bxP p)).alloc (bxI now)).grownBy w' (some m) → SeenAt w' p m long (keepW long now L) ∧ w.grownBy w' (some m)) := fun w' h1 h2 =>
    ⟨hS.turn h1 h2 (h.good.keep _ _), (seen_grown hB (some m)).trans h2⟩
  have hc1 : ((w.alloc (bxP p)).alloc (bxI now)).cell? ⟨p, 1, none⟩ = some (.map (some m)) := hS.cells.2
  clear hcon hS hB eg h hml hpl hpm
  go_enter Tryd.func17, Tryd.ntmps17
  go_wp2_with fail
  refine HC.out.mono ?_
  rintro e w1 ⟨rfl, h1, h2⟩
  have HQ := hide (HF.out _ h1 h2)
  clear h1 h2
  go_wp2
  go_end0
  exact ⟨rfl, HQ.out⟩

set_option maxRecDepth 100000 in
set_option maxHeartbeats 2000000 in
theorem seCheck_any (a : Nat → Addr) (p m : Nat) (long t now : Int) (L : List Wd) (s : ByteArray) (w : World) (h : SeenAt w p m long L) (hE : EV seS a w) (hs : s.size ≤ maxLen) :
    Calls Tryd.prog 16 #[.pointer (some ⟨p, 0, none⟩), .string s, .int .i64 t, .int .i64 now] w fun e w' => e = .returned (errV a (seenE long t now s)) ∧ Below w.heap.size w w' := by
  have HW := hide (fun w => word_any s w hs)
  have HT := hide (fun w => seIsTime_any t w)
  have HN := hide (fun w => seIsTime_any now w)
  have HV : Hid (∀ i, i < 16 → seS i = true → ∀ w', Below w.heap.size w w' → w'.cell? ⟨errG.getD i 0, 0, none⟩ = some (eV (a i))) := fun i hi hS w' hb => (hE.below hb).var i hi hS
  have HP := hide h
  obtain ⟨hl1, hl2⟩ := h.ticks
  have HR : Hid (∀ c, seenE long t now s = c → Calls Tryd.prog 16 #[.pointer (some ⟨p, 0, none⟩), .string s, .int .i64 t, .int .i64 now] w (fun e w' => e = .returned (errV a c) ∧ Below w.heap.size w w') → Calls Tryd.prog 16 #[.pointer (some ⟨p, 0, none⟩), .string s, .int .i64 t, .int .i64 now] w (fun e w' => e = .returned (errV a (seenE long t now s)) ∧ Below w.heap.size w w')) := fun c hc h => by rw [hc]; exact h
  clear h hE
  cases hw : Sl.wordL s.data.toList with
  | false =>
    refine HR.out 1 (by unfold seenE; rw [if_pos hw]) ?_
    rw [hw] at HW
    clear hw HR
    go_enter Tryd.func16, Tryd.ntmps16
    go_wp2_with fail
    refine (HW.out _).mono ?_
    rintro e w1 ⟨rfl, hb⟩
    have HB1 := hide hb
    have hv : w1.cell? ⟨3, 0, none⟩ = some (eV (a 0)) := HV.out 0 (by decide) rfl _ hb
    clear hb
    go_wp2
    go_ret
    exact ⟨rfl, HB1.out⟩
  | true =>
    have hw2 : ¬ Sl.wordL s.data.toList = false := by rw [hw]; decide
    rw [hw] at HW
    by_cases h1 : 0 ≤ t ∧ t ≤ 1000000
    · rw [decide_eq_true h1] at HT
      by_cases h2 : 0 ≤ now ∧ now ≤ 1000000
      · rw [decide_eq_true h2] at HN
        have hno : ¬ (¬ (0 ≤ t ∧ t ≤ 1000000) ∨ ¬ (0 ≤ now ∧ now ≤ 1000000)) := by omega
        have HL := hide (fun w hc => seIsLate_any p long t now w hc ⟨hl1, hl2⟩ h2)
        by_cases h3 : now + long < t
        · refine HR.out 11 (by unfold seenE; rw [if_neg hw2, if_neg hno, if_pos h3]) ?_
          obtain ⟨h1a, h1b⟩ := h1
          obtain ⟨h2a, h2b⟩ := h2
          clear hw HR hw2 hno HL
          go_enter Tryd.func16, Tryd.ntmps16
          go_wp2_with fail
          refine (HW.out _).mono ?_
          rintro e w1 ⟨rfl, hb⟩
          have HB1 := hide hb
          have hv : w1.cell? ⟨4, 0, none⟩ = some (eV (a 10)) := HV.out 10 (by decide) rfl _ hb
          have hc0 := (HP.out.below hb).cells.1
          clear hb HW
          go_wp2_with fail
          refine (HT.out _).mono ?_
          rintro e w2 ⟨rfl, rfl⟩
          clear HT
          go_wp2_with fail
          refine (HN.out _).mono ?_
          rintro e w3 ⟨rfl, rfl⟩
          clear HN
          go_wp2
          go_ret
          exact ⟨rfl, HB1.out⟩
        · by_cases h4 : t < now - long
          · refine HR.out 12 (by unfold seenE; rw [if_neg hw2, if_neg hno, if_neg h3, if_pos h4]) ?_
            have hlt : lateB long now t = true := decide_eq_true h4
            rw [hlt] at HL
            obtain ⟨h1a, h1b⟩ := h1
            obtain ⟨h2a, h2b⟩ := h2
            clear hw HR hw2 hno hlt
            go_enter Tryd.func16, Tryd.ntmps16
            go_wp2_with fail
            refine (HW.out _).mono ?_
            rintro e w1 ⟨rfl, hb⟩
            have HB1 := hide hb
            have hv : w1.cell? ⟨5, 0, none⟩ = some (eV (a 11)) := HV.out 11 (by decide) rfl _ hb
            have hc0 := (HP.out.below hb).cells.1
            clear hb HW
            go_wp2_with fail
            refine (HT.out _).mono ?_
            rintro e w2 ⟨rfl, rfl⟩
            clear HT
            go_wp2_with fail
            refine (HN.out _).mono ?_
            rintro e w3 ⟨rfl, rfl⟩
            clear HN
            go_wp2_with fail
            refine (HL.out _ hc0).mono ?_
            rintro e w4 ⟨rfl, rfl⟩
            go_wp2
            go_ret
            exact ⟨rfl, HB1.out⟩
          · refine HR.out 0 (by unfold seenE; rw [if_neg hw2, if_neg hno, if_neg h3, if_neg h4]) ?_
            have hlt : lateB long now t = false := decide_eq_false h4
            rw [hlt] at HL
            obtain ⟨h1a, h1b⟩ := h1
            obtain ⟨h2a, h2b⟩ := h2
            clear hw HR hw2 hno hlt
            go_enter Tryd.func16, Tryd.ntmps16
            go_wp2_with fail
            refine (HW.out _).mono ?_
            rintro e w1 ⟨rfl, hb⟩
            have HB1 := hide hb
            have hc0 := (HP.out.below hb).cells.1
            clear hb HW
            go_wp2_with fail
            refine (HT.out _).mono ?_
            rintro e w2 ⟨rfl, rfl⟩
            clear HT
            go_wp2_with fail
            refine (HN.out _).mono ?_
            rintro e w3 ⟨rfl, rfl⟩
            clear HN
            go_wp2_with fail
            refine (HL.out _ hc0).mono ?_
            rintro e w4 ⟨rfl, rfl⟩
            go_wp2
            go_ret
            exact ⟨rfl, HB1.out⟩
      · rw [decide_eq_false h2] at HN
        refine HR.out 2 (by unfold seenE; rw [if_neg hw2, if_pos (Or.inr h2)]) ?_
        clear hw HR hw2 h1 h2
        go_enter Tryd.func16, Tryd.ntmps16
        go_wp2_with fail
        refine (HW.out _).mono ?_
        rintro e w1 ⟨rfl, hb⟩
        have HB1 := hide hb
        have hv : w1.cell? ⟨0, 0, none⟩ = some (eV (a 1)) := HV.out 1 (by decide) rfl _ hb
        clear hb HW
        go_wp2_with fail
        refine (HT.out _).mono ?_
        rintro e w2 ⟨rfl, rfl⟩
        clear HT
        go_wp2_with fail
        refine (HN.out _).mono ?_
        rintro e w3 ⟨rfl, rfl⟩
        clear HN
        go_wp2
        go_ret
        exact ⟨rfl, HB1.out⟩
    · rw [decide_eq_false h1] at HT
      refine HR.out 2 (by unfold seenE; rw [if_neg hw2, if_pos (Or.inl h1)]) ?_
      clear hw HR hw2 h1 HN
      go_enter Tryd.func16, Tryd.ntmps16
      go_wp2_with fail
      refine (HW.out _).mono ?_
      rintro e w1 ⟨rfl, hb⟩
      have HB1 := hide hb
      have hv : w1.cell? ⟨0, 0, none⟩ = some (eV (a 1)) := HV.out 1 (by decide) rfl _ hb
      clear hb HW
      go_wp2_with fail
      refine (HT.out _).mono ?_
      rintro e w2 ⟨rfl, rfl⟩
      clear HT
      go_wp2
      go_ret
      exact ⟨rfl, HB1.out⟩

/-- What New gives. -/
def SeNewPost (a : Nat → Addr) (w : World) (long : Int) (e : Ending) (w' : World) : Prop :=
  Below w.heap.size w w' ∧ (((0 ≤ long ∧ long ≤ 1000000) ∧ ∃ p m, w.heap.size ≤ p ∧ w.heap.size ≤ m ∧ e = .returned (.tuple #[.pointer (some ⟨p, 0, none⟩), .nilIface]) ∧ SeenAt w' p m long []) ∨
    (¬ (0 ≤ long ∧ long ≤ 1000000) ∧ e = .returned (.tuple #[.pointer none, eV (a 1)])))
set_option maxRecDepth 100000 in
set_option maxHeartbeats 1000000 in
theorem seNew_any (a : Nat → Addr) (long : Int) (w : World) (hE : EV seS a w) :
    Calls Tryd.prog 7 #[.int .i64 long] w fun e w' => SeNewPost a w long e w' := by
  have hmm := @run_makeMap Tryd.prog
  have HT := hide (seIsTime_any long w)
  by_cases hl : 0 ≤ long ∧ long ≤ 1000000
  · rw [decide_eq_true hl] at HT
    have HW : Hid (∀ w' : World, w' = (w.alloc (.map #[] 0)).alloc (seO long w.heap.size) → SeenAt w' (w.heap.size + 1) w.heap.size long [] ∧ Below w.heap.size w w') := fun w' e => by
      subst e
      refine ⟨⟨?_, ?_, GoodW.nil, hl⟩, ((Below.refl _ _).alloc (Nat.le_refl _) _).alloc (by simp) _⟩
      · have := heap_alloc_new (w.alloc (.map #[] 0)) (seO long w.heap.size)
        rwa [World.size_alloc] at this
      · exact (World.ownsMap_made w Tryd.prog 9 wdR).alloc _
    have HL := hide hl
    clear hl hE
    go_enter Tryd.func7, Tryd.ntmps7
    go_wp2_with fail
    refine HT.out.mono ?_
    rintro e w1 ⟨rfl, rfl⟩
    clear HT
    go_wp2
    go_ret2
    exact ⟨(HW.out _ rfl).2, Or.inl ⟨HL.out, w1.heap.size + 1, w1.heap.size, by omega, Nat.le_refl _, by simp, (HW.out _ rfl).1⟩⟩
  · rw [decide_eq_false hl] at HT
    have hv : ∀ nq, (w.drewN nq).cell? ⟨0, 0, none⟩ = some (eV (a 1)) := fun nq => hE.var 1 (by decide) rfl
    have HL := hide hl
    clear hl hE
    go_enter Tryd.func7, Tryd.ntmps7
    go_wp2_with fail
    refine HT.out.mono ?_
    rintro e w1 ⟨rfl, rfl⟩
    clear HT
    go_wp2_with fail
    go_quiet (fail)
    go_wp2
    go_ret2
    exact ⟨below_drewN (Below.refl _ _) _, Or.inr ⟨HL.out, rfl⟩⟩

theorem seMany_any (p m : Nat) (long : Int) (L : List Wd) (w : World) (h : SeenAt w p m long L) :
    Calls Tryd.prog 9 #[.pointer (some ⟨p, 0, none⟩)] w fun e w' => e = .returned (.int .i64 L.length) ∧ w' = w := by
  have hc := h.cells.2
  have HO := hide h.own
  have hsz := dOfW_size L
  clear h
  go_enter Tryd.func9, Tryd.ntmps9
  go_wp2_with (first | (at_len; refine wpList_len_own _ rfl _ 46 rfl 9 3 Tryd.underlying46 wdR m L.length (dOfW L) rfl HO.out ?_; rw [hsz]) | go_in)
  go_ret
  exact ⟨rfl, rfl⟩
end Go.Proofs.YtgagekcjdapkfadDoor

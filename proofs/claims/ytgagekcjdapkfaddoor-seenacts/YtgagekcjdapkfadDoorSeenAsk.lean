/-
  What package seen's Ask gives, and what it does: its map is written, and nothing else; for everything that was seen, every word and every time.
-/
import Derived.Test.YtgagekcjdapkfadDoorSeenDo
namespace Go.Proofs.YtgagekcjdapkfadDoor
open Go.RowKit Go.Extern.Stop Go.Stop Go.Extern Go.Maps

theorem cell_not_map {w : World} {i m o : Nat} {v : Value} {es : Array MapEntry} {clock : Nat} (hc : w.cell? ⟨i, o, none⟩ = some v) (hm : w.heap[m]? = some (.map es clock)) : i ≠ m := by
  rintro rfl
  simp [World.cell?, hm] at hc
theorem SeenAt.cell_ne {w : World} {p m : Nat} {long : Int} {L : List Wd} (h : SeenAt w p m long L) {i o : Nat} {v : Value} (hc : w.cell? ⟨i, o, none⟩ = some v) : i ≠ m := by
  obtain ⟨es, clock, hb, _⟩ := h.own
  exact cell_not_map hc hb
theorem EV.seen {S : Nat → Bool} {a : Nat → Addr} {w w' : World} (h : EV S a w) {p m : Nat} {long : Int} {L : List Wd} (hs : SeenAt w p m long L) (hg : w.grownBy w' (some m)) : EV S a w' := ⟨fun i hi hS => by
  have hc := h.var i hi hS
  exact hg.cell hc (by have := hs.cell_ne hc; simpa using this)⟩

section
variable {ops : Array Oper} {rest : List Oper} {o : Oper} {act : Act} {Q : Exit → Act → World → Prop}
theorem wlook_no (w : World) (hg : o.guard = none) (m x : Operand) (hop : o.op = Op.lookup 46 m x true) (b n : Nat) (L : List Wd) (s : ByteArray) (hm : act.eval m = .map (some b)) (hown : w.ownsMap Tryd.prog 9 wdR b n (dOfW L)) (hx : act.eval x = .string s) (hs : s.size ≤ maxLen) (hL : getW L s = none)
    (hK : wpList Tryd.prog ops Q rest (act.put o.dst (.tuple #[.int .i64 0, .bool false])) w) : wpList Tryd.prog ops Q (o :: rest) act w :=
  wpList_lookup_own_ok w hg m x _ hop 9 3 (string_keyed Tryd.underlying9) Tryd.underlying46 wdR (Tryd.zeroValue3 w) (.lit (.int .i64 0)) [] (wdR_val 0) b n _ hm hown _ _ hx (Go.WideMaps.keyOf_string_mk Tryd.underlying9 hs) (fun v ps hv => by
    rw [dOfW_at, hL] at hv
    obtain ⟨t, rfl, hz⟩ := wdR_inv hv
    obtain rfl : (0 : Int) = t := wd_lit (congrArg Prod.fst hz)
    rw [dOfW_has, hL]
    exact hK)
theorem wlook_yes (w : World) (hg : o.guard = none) (m x : Operand) (hop : o.op = Op.lookup 46 m x true) (b n : Nat) (L : List Wd) (s : ByteArray) (hm : act.eval m = .map (some b)) (hown : w.ownsMap Tryd.prog 9 wdR b n (dOfW L)) (hx : act.eval x = .string s) (hs : s.size ≤ maxLen) (q : Wd) (hL : getW L s = some q)
    (hK : wpList Tryd.prog ops Q rest (act.put o.dst (.tuple #[.int .i64 q.t, .bool true])) w) : wpList Tryd.prog ops Q (o :: rest) act w :=
  wpList_lookup_own_ok w hg m x _ hop 9 3 (string_keyed Tryd.underlying9) Tryd.underlying46 wdR (Tryd.zeroValue3 w) (.lit (.int .i64 0)) [] (wdR_val 0) b n _ hm hown _ _ hx (Go.WideMaps.keyOf_string_mk Tryd.underlying9 hs) (fun v ps hv => by
    rw [dOfW_at, hL] at hv
    obtain ⟨t, rfl, hz⟩ := wdR_inv hv
    obtain rfl : q.t = t := wd_lit (congrArg Prod.fst hz)
    rw [dOfW_has, hL]
    exact hK)
end
/-- What a store of a word does. -/
theorem SeenAt.store {w : World} {p m : Nat} {long : Int} {L : List Wd} (h : SeenAt w p m long L) (s : ByteArray) (t : Int) (hs : s.size ≤ maxLen) (hg : GoodW (putW L ⟨s, t⟩)) :
    ∃ w', (Instr.mapUpdate 46 (.map (some m)) (.string s) (.int .i64 t)).run Tryd.prog w = .ok () w' ∧ SeenAt w' p m long (putW L ⟨s, t⟩) ∧ w.grownBy w' (some m) := by
  obtain ⟨w', hrun, ho, ht⟩ := h.own.store (e := 3) (string_keyed Tryd.underlying9) Tryd.underlying46 (Nat.lt_of_le_of_lt h.good.few (by unfold maxLen; omega)) (Go.WideMaps.keyOf_string_mk Tryd.underlying9 hs) (wdR_val t)
  have e := dOfW_put L ⟨s, t⟩
  unfold wdD at e
  rw [e] at ho
  exact ⟨w', hrun, h.turn ho ht.grown hg, ht.grown⟩

set_option maxRecDepth 100000 in
set_option maxHeartbeats 2000000 in
theorem seAsk_any (a : Nat → Addr) (p m : Nat) (long t now : Int) (L : List Wd) (s : ByteArray) (w : World) (h : SeenAt w p m long L) (hE : EV seS a w) (hs : s.size ≤ maxLen) :
    Calls Tryd.prog 8 #[.pointer (some ⟨p, 0, none⟩), .string s, .int .i64 t, .int .i64 now] w fun e w' => e = .returned (errV a (seenC long L s t now)) ∧ SeenAt w' p m long (seenL long L s t now) ∧ w.grownBy w' (some m) := by
  have HC := hide (seCheck_any a p m long t now L s w h hE hs)
  have HA := hide h
  have HE := hide hE
  by_cases he : seenE long t now s = 0
  · rw [he] at HC
    have hnow := (seen_word he).2.2.1
    have HF := hide (fun w h => seForget_any p m long now L w h hnow)
    have HGd := hide h.good
    clear h hE hnow
    cases hg : getW (keepW long now L) s with
    | some q =>
      obtain ⟨e1, e2⟩ := seen_is he hg
      rw [e1, e2]
      clear he e1 e2
      generalize keepW long now L = K at *
      go_enter Tryd.func8, Tryd.ntmps8
      go_wp2_with fail
      refine HC.out.mono ?_
      rintro e w1 ⟨rfl, hb⟩
      have HA1 := hide (HA.out.below hb)
      have HE1 := hide (HE.out.below hb)
      have HB1 := hide hb
      clear hb HC
      rw [show errV a 0 = .nilIface from rfl]
      go_wp2_with fail
      refine (HF.out _ HA1.out).mono ?_
      rintro e w2 ⟨rfl, hA2, hg2⟩
      have hc2 := hA2.cells.2
      have hv : w2.cell? ⟨1, 0, none⟩ = some (eV (a 5)) := (HE1.out.seen HA1.out hg2).var 5 (by decide) rfl
      have HA2 := hide hA2
      have HG2 : Hid (w.grownBy w2 (some m)) := (seen_grown HB1.out (some m)).trans hg2
      clear hA2 hg2 HF
      go_wp2_with (first | (at_lookup; refine wlook_yes _ rfl _ _ rfl m K.length K s rfl HA2.out.own rfl hs q hg ?_) | go_in)
      go_ret
      exact ⟨rfl, HA2.out, HG2.out⟩
    | none =>
      by_cases hn : 40 ≤ (keepW long now L).length
      · obtain ⟨e1, e2⟩ := seen_full he hg hn
        rw [e1, e2]
        clear he e1 e2
        generalize keepW long now L = K at *
        have HM := hide (fun w h => seMany_any p m long K w h)
        generalize hkn : K.length = kn at *
        have HKn := hide hkn
        clear hkn
        go_enter Tryd.func8, Tryd.ntmps8
        go_wp2_with fail
        refine HC.out.mono ?_
        rintro e w1 ⟨rfl, hb⟩
        have HA1 := hide (HA.out.below hb)
        have HE1 := hide (HE.out.below hb)
        have HB1 := hide hb
        clear hb HC
        rw [show errV a 0 = .nilIface from rfl]
        go_wp2_with fail
        refine (HF.out _ HA1.out).mono ?_
        rintro e w2 ⟨rfl, hA2, hg2⟩
        have hc2 := hA2.cells.2
        have hv : w2.cell? ⟨2, 0, none⟩ = some (eV (a 6)) := (HE1.out.seen HA1.out hg2).var 6 (by decide) rfl
        have HA2 := hide hA2
        have HG2 : Hid (w.grownBy w2 (some m)) := (seen_grown HB1.out (some m)).trans hg2
        clear hA2 hg2 HF
        go_wp2_with (first | (at_lookup; refine wlook_no _ rfl _ _ rfl m K.length K s rfl HA2.out.own rfl hs hg ?_) | (go_at_call 9; refine (HM.out _ HA2.out).mono ?_; rintro e w3 ⟨rfl, rfl⟩) | go_in)
        go_ret
        exact ⟨rfl, HA2.out, HG2.out⟩
      · obtain ⟨e1, e2⟩ := seen_ok he hg hn
        rw [e1, e2]
        have HGp := hide ((HGd.out.keep long now).put (p := ⟨s, t⟩) (word_small (seen_word he).1) hg hn).1
        clear he e1 e2
        generalize keepW long now L = K at *
        have HM := hide (fun w h => seMany_any p m long K w h)
        generalize hkn : K.length = kn at *
        have HKn := hide hkn
        clear hkn
        go_enter Tryd.func8, Tryd.ntmps8
        go_wp2_with fail
        refine HC.out.mono ?_
        rintro e w1 ⟨rfl, hb⟩
        have HA1 := hide (HA.out.below hb)
        have HB1 := hide hb
        clear hb HC
        rw [show errV a 0 = .nilIface from rfl]
        go_wp2_with fail
        refine (HF.out _ HA1.out).mono ?_
        rintro e w2 ⟨rfl, hA2, hg2⟩
        have hc2 := hA2.cells.2
        have HA2 := hide hA2
        obtain ⟨w4, hrun, hA4, hg4⟩ := hA2.store s t hs HGp.out
        have HA4 := hide hA4
        have HG4 : Hid (w.grownBy w4 (some m)) := ((seen_grown HB1.out (some m)).trans hg2).trans hg4
        clear hA2 hg2 hA4 hg4 HF
        go_wp2_with (first | (at_lookup; refine wlook_no _ rfl _ _ rfl m K.length K s rfl HA2.out.own rfl hs hg ?_) | (go_at_call 9; refine (HM.out _ HA2.out).mono ?_; rintro e w3 ⟨rfl, rfl⟩) | go_in)
        go_ret
        exact ⟨rfl, HA4.out, HG4.out⟩
  · obtain ⟨e1, e2⟩ := seen_err (L := L) he
    rw [e1, e2]
    clear e1 e2
    generalize seenE long t now s = c at *
    have he2 : errV a c = eV (a (c - 1)) := if_neg he
    rw [he2] at HC ⊢
    clear he h hE he2
    go_enter Tryd.func8, Tryd.ntmps8
    go_wp2_with fail
    refine HC.out.mono ?_
    rintro e w1 ⟨rfl, hb⟩
    have HQ : Hid (SeenAt w1 p m long L ∧ w.grownBy w1 (some m)) := ⟨HA.out.below hb, seen_grown hb _⟩
    clear hb HC
    go_wp2
    go_ret
    exact ⟨rfl, HQ.out⟩
end Go.Proofs.YtgagekcjdapkfadDoor

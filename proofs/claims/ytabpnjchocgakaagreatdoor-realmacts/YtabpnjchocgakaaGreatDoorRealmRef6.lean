/-
  What the document's answer's Add to a realm gives, and what it leaves: whoever is new is of the epoch of the last entry of all.
-/
import Derived.Test.YtabpnjchocgakaaGreatDoorRealmRef5
import Derived.Test.YtabpnjchocgakaaGreatDoorFloorDo
import Derived.BigRegion
namespace Go.Proofs.YtabpnjchocgakaaGreatDoor
open Go.RowKit Go.Extern.Stop Go.Stop Go.Extern Go.Proofs Go.Maps
theorem Kept.setNew {S : Nat → Prop} {a w : World} (h : Kept S a w) {p : Addr} (hp : a.heap.size ≤ p.block) (u : Value) : Kept S a (w.setCell p u) :=
 ⟨h.os, h.tape, h.output, by have := h.size; simpa [World.setCell] using this, fun k hk hs => by
  rw [heap_setCell_other w p k u (fun e => by omega)]; exact h.block k hk hs⟩
def newE_ (L : List Per) (name : ByteArray) (key e : Int) : List Per := putP L { newP name key with epoch := e }
theorem new_one (L : List Per) (name : ByteArray) (key : Int) : newE_ L name key 1 = putP L (newP name key) := rfl
theorem new_form {L : List Per} {name : ByteArray} (key e : Int) (h : Rising L) (hn : getP L name = none) : newE_ L name key e = L.take (placeP L name) ++ { newP name key with epoch := e } :: L.drop (placeP L name) := by
 unfold newE_
 rw [← insert_put (p := { newP name key with epoch := e }) h hn]
 rfl
theorem place_leP (L : List Per) (name : ByteArray) : placeP L name ≤ L.length := (List.takeWhile_sublist _).length_le
theorem new_len {L : List Per} {name : ByteArray} (key e : Int) (h : Rising L) (hn : getP L name = none) : (newE_ L name key e).length = L.length + 1 := by
 have := place_leP L name
 rw [new_form key e h hn, List.length_append, List.length_take, List.length_cons, List.length_drop]
 omega
theorem new_at {L : List Per} {name : ByteArray} (key e : Int) (h : Rising L) (hn : getP L name = none) : (newE_ L name key e)[placeP L name]? = some { newP name key with epoch := e } := by
 have hl : (L.take (placeP L name)).length = placeP L name := by have := place_leP L name; rw [List.length_take]; omega
 rw [new_form key e h hn, List.getElem?_append_right (by omega), hl, Nat.sub_self]
 rfl
theorem new_set {L : List Per} {name : ByteArray} (key e e' : Int) (h : Rising L) (hn : getP L name = none) : (newE_ L name key e).set (placeP L name) { newP name key with epoch := e' } = newE_ L name key e' := by
 have hl : (L.take (placeP L name)).length = placeP L name := by have := place_leP L name; rw [List.length_take]; omega
 rw [new_form key e h hn, new_form key e' h hn, List.set_append_right _ _ (by omega), hl, Nat.sub_self]
 rfl
theorem new_find {L : List Per} {name : ByteArray} (key : Int) (h : Rising L) (hn : getP L name = none) : findP (newE_ L name key 1) name = placeP L name := by
 have hR : Rising (newE_ L name key 1) := by rw [new_one, putP_new (getP_none hn)]; exact insL_rising _ L h (getP_none hn)
 have hat := new_at key 1 h hn
 obtain ⟨hk, he⟩ := List.getElem?_eq_some_iff.1 hat
 refine findP_some _ _ _ hk (by rw [he]; rfl) fun j hj hjk e => ?_
 have hne := hR.ne hj hk (Nat.ne_of_lt hjk)
 rw [he] at hne
 exact hne e
theorem start_take (l : List En) (k : Nat) (hk : k < l.length) : startE (l.take (k + 1)) = if l[k].fl.nm = star then l[k].fl.ep else startE (l.take k) := by
 rw [List.take_succ_eq_append_getElem hk, start_snoc]
theorem new_raised {B : Nat} {w : World} {rb bb : Nat} {lv : Value} {r : Rm} {g cap : Nat} {name : ByteArray} {key e : Int} (hr : Rising r.b) (hn : getP r.b name = none) (h : RefRm B w rb bb (.slice (some ⟨g, 0, none⟩) (r.b.length + 1) cap) lv { r with b := newE_ r.b name key e }) (e' : Int) :
  RefRm B (w.setCell ⟨g, placeP r.b name * 4 + 2, none⟩ (.int .i64 e')) rb bb (.slice (some ⟨g, 0, none⟩) (r.b.length + 1) cap) lv { r with b := newE_ r.b name key e' } := by
 have hl := new_len key e hr hn
 have hl' := new_len key e' hr hn
 obtain ⟨hk, he⟩ := List.getElem?_eq_some_iff.1 (new_at key e hr hn)
 have h2 : w.ownsRow B 46 4 (.slice (some ⟨g, 0, none⟩) (newE_ r.b name key e).length cap) (newE_ r.b name key e).length (cellsP (newE_ r.b name key e)) := by
  have := h.book.2
  rw [hl] at this ⊢
  exact this
 have h3 := own_set h2 (placeP r.b name) 2 hk (by decide) (.int .i64 e') { newP name key with epoch := e' } (by rw [he]; rfl)
 rw [new_set key e e' hr hn, hl] at h3
 have hB : RefBookB B (w.setCell ⟨g, placeP r.b name * 4 + 2, none⟩ (.int .i64 e')) bb (.slice (some ⟨g, 0, none⟩) (r.b.length + 1) cap) (newE_ r.b name key e') := by
  refine ⟨?_, by rw [hl']; exact h3⟩
  rw [heap_setCell_other w ⟨g, placeP r.b name * 4 + 2, none⟩ bb _ (show bb ≠ g from book_ne h.book.1 h2)]
  exact h.book.1
 have := h.booked hB (fun e => by rw [e] at hl'; cases hl') (Kept.setCell (S := fun k => k = bb ∨ (Value.slice (some ⟨g, 0, none⟩) (r.b.length + 1) cap).ownBlock = some k) (Kept.refl _ w) (p := ⟨g, placeP r.b name * 4 + 2, none⟩) (Or.inr rfl) _)
 exact this
set_option maxRecDepth 100000 in
set_option maxHeartbeats 8000000 in
theorem refAddR_any {B : Nat} (rb bb : Nat) (v lv : Value) (r : Rm) (name : ByteArray) (key : Int) (w : World) (h : RefRm B w rb bb v lv r) (hg : GoodR r) (hs : name.size ≤ maxLen) :
  Calls Tryz.prog 35 #[.pointer (some ⟨rb, 0, none⟩), .string name, .int .i64 key] w fun e w' => e = .returned (.int .i64 (r.addC name key : Int)) ∧ RmPost B w rb bb v (r.addR name key) w' := by
 obtain ⟨_, _, _, _, c4, _⟩ := rm_cells h.row
 have HLv : Hid (NewFeed w rb lv) := h.held
 have HA := hide (refAdd_p bb v r.b name key w h.base h.book h.nil hg.book hs)
 have hwlt := row_lt h.row
 by_cases h0 : (addP r.b name key).1 = 0
 ·
  obtain ⟨hne, hgn, _, hput⟩ := addP_zero h0
  have HC : Hid (r.addC name key = 0) := h0
  have HR : Hid (r.addR name key = { r with b := newE_ r.b name key (startE r.l) }) := by show _ = _; unfold Rm.addR; rw [if_pos HC.out]; rfl
  rw [h0, hput, ← new_one] at HA
  have HFi := hide (fun (w2 : World) (hB : RefBook w2 bb (newE_ r.b name key 1)) => refFind_any bb (newE_ r.b name key 1) name w2 hB (by rw [new_len key 1 hg.book.rise hgn]; have := hg.book.few; omega))
  rw [new_find key hg.book.rise hgn] at HFi
  have HStart : Hid (∀ (g cap : Nat) (W : World) (e e' : Int), RefRm B W rb bb (.slice (some ⟨g, 0, none⟩) (r.b.length + 1) cap) lv { r with b := newE_ r.b name key e } → RefRm B (W.setCell ⟨g, placeP r.b name * 4 + 2, none⟩ (.int .i64 e')) rb bb (.slice (some ⟨g, 0, none⟩) (r.b.length + 1) cap) lv { r with b := newE_ r.b name key e' }) := fun g cap W e e' hh => new_raised hg.book.rise hgn hh e'
  have HLen : Hid (∀ e, (newE_ r.b name key e).length = r.b.length + 1) := fun e => new_len key e hg.book.rise hgn
  have HPl : Hid (placeP r.b name < r.b.length + 1) := Nat.lt_succ_of_le (place_leP _ _)
  have HTk : Hid (∀ (k : Nat) (x : En), r.l[k]? = some x → startE (r.l.take (k + 1)) = if x.fl.nm = star then x.fl.ep else startE (r.l.take k)) := fun k x hx => by
   obtain ⟨hk, rfl⟩ := List.getElem?_eq_some_iff.1 hx
   exact start_take r.l k hk
  have hf60 := hg.few
  have HL0 : Hid (∀ W v1, RefBookB B W bb v1 (newE_ r.b name key 1) → Kept (fun k => k = bb ∨ v.ownBlock = some k) w W → RefRm B W rb bb v1 lv { r with b := newE_ r.b name key (startE (r.l.take 0)) }) := fun W v1 hB hk => h.booked hB (fun e => by have := HLen.out (startE (r.l.take 0)); rw [e] at this; cases this) hk
  clear hne hput h0 h hg hs hgn
  go_enter Tryz.func35, Tryz.ntmps35
  go_wp2_with fail
  refine HA.out.mono ?_
  rintro e w1 ⟨rfl, v1, hB1, _, hk1, hv1⟩
  have HB1 := hide hB1
  have HK1 : Hid (Kept (fun k => k = rb ∨ k = bb ∨ v.ownBlock = some k) w w1) := hk1.mono fun _ e => Or.inr e
  have HV1 := hide hv1
  have HX1 := hide (HL0.out w1 v1 hB1 hk1)
  obtain ⟨_, _, _, _, c4, c5⟩ := rm_cells HX1.out.row
  clear hB1 hk1 hv1 HA
  go_wp2_with fail
  refine (HFi.out _ HB1.out.book).mono ?_
  rintro e w2 ⟨rfl, rfl⟩
  obtain ⟨g, cap, e, hcap, hbg, _⟩ := owned_at HB1.out.2 (fun e => by have := HLen.out 1; rw [e] at this; cases this)
  rw [HLen.out 1] at e hcap
  subst e
  have HKs : Hid (∀ (W : World) (o : Nat) (u : Value), Kept (fun k => k = rb ∨ k = bb ∨ v.ownBlock = some k) w W → Kept (fun k => k = rb ∨ k = bb ∨ v.ownBlock = some k) w (W.setCell ⟨g, o, none⟩ u)) := fun W o u hk => by
   rcases HV1.out g rfl with hx | hx
   ·
    exact Kept.setCell (S := fun k => k = rb ∨ k = bb ∨ v.ownBlock = some k) hk (p := ⟨g, o, none⟩) (Or.inr (Or.inr hx)) u
   ·
    exact hk.setNew hx u
  obtain ⟨adl, cl, rfl, hcl⟩ := HX1.out.feed.enAt.form
  have hpk := HPl.out
  have HEnd : Hid (startE (r.l.take r.l.length) = startE r.l) := by show _ = _; rw [List.take_length]
  clear HV1 HFi HL0 HPl HB1 c4 hbg
  generalize placeP r.b name = pk at *
  generalize hn1 : r.b.length + 1 = n1 at *
  clear hn1
  have hcl' : r.l.length ≤ cl := hcl
  clear hcl
  generalize hm : r.l.length = m at *
  have HM := hide hm
  clear hm
  go_wp2
  go_loopw [9] (fun s9 wr => ∃ i : Nat, i ≤ m ∧ s9 = .int .i64 i ∧ Hid (RefRm B wr rb bb (.slice (some ⟨g, 0, none⟩) n1 cap) (.slice adl m cl) { r with b := newE_ r.b name key (startE (r.l.take i)) }) ∧ Hid (Kept (fun k => k = rb ∨ k = bb ∨ v.ownBlock = some k) w wr)) (fun s9 _ => m - (intOf s9).toNat)
  case atStart => exact ⟨0, Nat.zero_le _, rfl, HX1, HK1⟩
  case round =>
   clear HX1 HK1 c5
   obtain ⟨i, hi, rfl, HX, HK⟩ := hrel
   obtain ⟨_, _, _, _, c4, c5⟩ := rm_cells HX.out.row
   by_cases hlt : i < m
   ·
    have hltz : (i : Int) < (m : Int) := by omega
    have hil : i < r.l.length := by rw [HM.out]; exact hlt
    have HSt := hide (HTk.out i r.l[i] (List.getElem?_eq_getElem hil))
    obtain ⟨b, off, cap', e, _, _, _, hcell⟩ := HX.out.feed.enAt.at (by show 0 < r.l.length; omega)
    injection e with e1 e2 e3
    subst e1; subst e3
    have q := hcell i hil
    have q2 : wr.cell? ⟨b, off + i * 4 + 2, none⟩ = some (.string r.l[i].fl.who) := q.2.2.1
    have q3 : wr.cell? ⟨b, off + i * 4 + 3, none⟩ = some (.int .i64 r.l[i].fl.ep) := q.2.2.2
    have hsw := star_who r.l[i].fl
    clear hcell q e2
    by_cases hst : r.l[i].fl.nm = star
    ·
     rw [if_pos hst] at HSt
     rw [decide_eq_true hst] at hsw
     clear hst
     have k0 : wr.cell? ⟨bb, 0, none⟩ = some (.slice (some ⟨g, 0, none⟩) n1 cap) := cell_of_row wr bb 0 _ _ _ HX.out.book.1
     obtain ⟨k2, kf⟩ : (∃ x, wr.cell? ⟨g, pk * 4 + 2, none⟩ = some x) ∧ wr.frozen? ⟨g, pk * 4 + 2, none⟩ = false := by
      have hlen : (newE_ r.b name key (startE (r.l.take i))).length = n1 := HLen.out _
      obtain ⟨g', cap', e, _, _, hcl⟩ := owned_at HX.out.book.2 (fun e => by have e' : newE_ r.b name key (startE (r.l.take i)) = [] := e; rw [e'] at hlen; simp at hlen; omega)
      injection e with e1 _ _
      injection e1 with e1
      injection e1 with e1
      subst e1
      refine ⟨⟨_, (hcl pk (by show pk < (newE_ r.b name key (startE (r.l.take i))).length; omega)).2.2.1⟩, ?_⟩
      obtain ⟨c, hc⟩ := own_tag HX.out.book.2 (g := g) rfl
      exact frozen_of_row wr g _ _ _ hc
     obtain ⟨x2, k2⟩ := k2
     have HX2 : Hid (RefRm B (wr.setCell ⟨g, pk * 4 + 2, none⟩ (.int .i64 r.l[i].fl.ep)) rb bb (.slice (some ⟨g, 0, none⟩) n1 cap) (.slice (some ⟨b, off, none⟩) m cl) { r with b := newE_ r.b name key (startE (r.l.take (i + 1))) }) := by show RefRm _ _ _ _ _ _ _; rw [HSt.out]; exact HStart.out g cap wr _ _ HX.out
     have HK2 : Hid (Kept (fun k => k = rb ∨ k = bb ∨ v.ownBlock = some k) w (wr.setCell ⟨g, pk * 4 + 2, none⟩ (.int .i64 r.l[i].fl.ep))) := HKs.out wr _ _ HK.out
     clear HX HK HStart HKs HSt
     generalize r.l[i].fl.who = who at *
     generalize r.l[i].fl.ep = ep at *
     go_wp2
     go_region
     all_goals
      go_wp2
      go_round
     case rel => exact ⟨i + 1, by omega, by go_num, HX2.out.below (Below.refl _ _).drew, Kept.trans HK2.out (Kept.of_below _ (Below.refl _ _).drew)⟩
     case measure => simp [intOf]; omega
    ·
     rw [if_neg hst] at HSt
     rw [decide_eq_false hst] at hsw
     clear hst
     generalize r.l[i].fl.who = who at *
     generalize r.l[i].fl.ep = ep at *
     have HX2 : Hid (RefRm B wr rb bb (.slice (some ⟨g, 0, none⟩) n1 cap) (.slice (some ⟨b, off, none⟩) m cl) { r with b := newE_ r.b name key (startE (r.l.take (i + 1))) }) := by show RefRm _ _ _ _ _ _ _; rw [HSt.out]; exact HX.out
     go_wp2
     go_round
     case rel => exact ⟨i + 1, by omega, by go_num, HX2, HK⟩
     case measure => simp [intOf]; omega
   ·
    obtain rfl : i = m := by omega
    have hii : ¬ (i : Int) < (i : Int) := by omega
    have HX2 : Hid (RefRm B wr rb bb (.slice (some ⟨g, 0, none⟩) n1 cap) (.slice adl i cl) { r with b := newE_ r.b name key (startE r.l) }) := by show RefRm _ _ _ _ _ _ _; rw [← HEnd.out]; exact HX.out
    clear HX HEnd HStart HTk HKs
    go_wp2
    go_ret
    exact ⟨by rw [HC.out]; rfl, by rw [HR.out]; exact ⟨bb, _, _, HX2.out, HK.out, HLv.out⟩⟩
 ·
  have HC : Hid (r.addC name key = (addP r.b name key).1) := rfl
  have HR : Hid (r.addR name key = r) := if_neg h0
  have hL : (addP r.b name key).2 = r.b := (add_acted hg.book name key).same h0
  rw [hL] at HA
  have HH := hide h
  have hz : (0 : Int) < ((addP r.b name key).1 : Int) := by omega
  clear h hg hs h0 hL
  generalize (addP r.b name key).1 = c at *
  go_enter Tryz.func35, Tryz.ntmps35
  go_wp2_with fail
  refine HA.out.mono ?_
  rintro e w1 ⟨rfl, v1, hB1, hn1, hk1, hv1⟩
  have HX1 := hide (HH.out.booked hB1 hn1 hk1)
  have HK1 : Hid (Kept (fun k => k = rb ∨ k = bb ∨ v.ownBlock = some k) w w1) := hk1.mono fun _ e => Or.inr e
  clear hB1 hn1 hk1 hv1 HA
  go_wp2
  go_ret
  exact ⟨by rw [HC.out]; rfl, by rw [HR.out]; exact ⟨bb, v1, lv, HX1.out, HK1.out, HLv.out⟩⟩
end Go.Proofs.YtabpnjchocgakaaGreatDoor

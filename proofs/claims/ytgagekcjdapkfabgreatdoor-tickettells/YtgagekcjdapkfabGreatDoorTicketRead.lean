/-
  What package ticket's words gives: a slice of a ticket's seven words, new; for every ticket.
-/
import Derived.Test.YtgagekcjdapkfabGreatDoorTicketRenew
import Derived.Test.YtgagekcjdapkfabGreatDoorSealBack
import Derived.Deep.RegionHeld3
namespace Go.Proofs.YtgagekcjdapkfabGreatDoor
open Go.RowKit Go.Extern.Stop Go.Stop Go.Extern

/-- What Itoa gives of a number that is not below 0. -/
theorem itoa_any (a : Nat → Addr) (n : Int) (w : World) (h : Env a w) (h0 : 0 ≤ n) (h1 : n ≤ 1073741824) :
    Calls Tryz.prog 65 #[.int .i64 n] w fun e w' => e = .returned (.string (Sl.ofL (Lib.decDigits n.toNat))) ∧ Below w.heap.size w w' := by
  have hit : (⟨(Lib.itoa n).toArray⟩ : ByteArray) = Sl.ofL (Lib.decDigits n.toNat) := by
    have e : n = (n.toNat : Int) := by omega
    rw [e, Lib.itoa_nonneg]
    rfl
  refine (Tryz.strconv_Itoa n (by omega) (by omega) w h.tab).mono ?_
  rintro e w' ⟨rfl, k, os, rfl⟩
  exact ⟨by rw [hit], below_grow w k os⟩

theorem texts7 (w : World) (x0 x1 x2 x3 x4 x5 x6 : ByteArray) : Texts (w.alloc (.cells #[.string x0, .string x1, .string x2, .string x3, .string x4, .string x5, .string x6] 9)) w.heap.size 0 [x0, x1, x2, x3, x4, x5, x6] := fun j hj => by
  match j, hj with
  | 0, _ => simp
  | 1, _ => simp
  | 2, _ => simp
  | 3, _ => simp
  | 4, _ => simp
  | 5, _ => simp
  | 6, _ => simp

set_option maxRecDepth 100000 in
set_option maxHeartbeats 4000000 in
theorem words_any (a : Nat → Addr) (t : Tk) (w : World) (h : Env a w) (he : t.err = 0) :
    Calls Tryz.prog 44 #[t.val] w fun e w' => ∃ b, Texts w' b 0 (t.words.map Sl.ofL) ∧ e = .returned (.slice (some ⟨b, 0, none⟩) 7 7) ∧ Below w.heap.size w w' := by
  obtain ⟨_, ⟨k1, k2⟩, ⟨k3, k4⟩, ⟨k5, k6⟩, k7, k8⟩ := t.err_iff.1 he
  have H1 := hide (fun w h => itoa_any a t.epoch w h (by omega) (by omega))
  have H2 := hide (fun w h => itoa_any a t.frm w h (by omega) (by omega))
  have H3 := hide (fun w h => itoa_any a t.til w h (by omega) (by omega))
  have H4 := hide (fun w h => itoa_any a t.ser w h (by omega) (by omega))
  have HB0 : Hid (Below w.heap.size w (w.alloc (tkO t))) := (Below.refl _ w).alloc (Nat.le_refl _) _
  have HR0 : Hid ((w.alloc (tkO t)).heap[w.heap.size]? = some (tkO t)) := heap_alloc_new _ _
  have HE := hide (h.below HB0.out)
  have HW : Hid (t.words.map Sl.ofL = [Sl.ofL tickL, t.who, t.dst, Sl.ofL (Lib.decDigits t.epoch.toNat), Sl.ofL (Lib.decDigits t.frm.toNat), Sl.ofL (Lib.decDigits t.til.toNat), Sl.ofL (Lib.decDigits t.ser.toNat)]) := by
    show [Sl.ofL tickL, Sl.ofL t.who.data.toList, Sl.ofL t.dst.data.toList, _, _, _, _] = _
    rw [Sl.ofL_toL, Sl.ofL_toL]
  rw [HW.out]
  clear h he k1 k2 k3 k4 k5 k6 k7 k8 HW
  generalize Sl.ofL (Lib.decDigits t.epoch.toNat) = s1 at *
  generalize Sl.ofL (Lib.decDigits t.frm.toNat) = s2 at *
  generalize Sl.ofL (Lib.decDigits t.til.toNat) = s3 at *
  generalize Sl.ofL (Lib.decDigits t.ser.toNat) = s4 at *
  rw [tk_val]
  obtain ⟨who, dst, epoch, frm, til, ser⟩ := t
  dsimp only at *
  have HC : Hid (∀ W, Below (w.alloc (tkO ⟨who, dst, epoch, frm, til, ser⟩)).heap.size (w.alloc (tkO ⟨who, dst, epoch, frm, til, ser⟩)) W → W.cell? ⟨w.heap.size, 0, none⟩ = some (.string who) ∧ W.cell? ⟨w.heap.size, 1, none⟩ = some (.string dst) ∧ W.cell? ⟨w.heap.size, 2, none⟩ = some (.int .i64 epoch) ∧ W.cell? ⟨w.heap.size, 3, none⟩ = some (.int .i64 frm) ∧ W.cell? ⟨w.heap.size, 4, none⟩ = some (.int .i64 til) ∧ W.cell? ⟨w.heap.size, 5, none⟩ = some (.int .i64 ser)) := fun W hb => by
    refine tk_row (t := ⟨who, dst, epoch, frm, til, ser⟩) ?_
    rw [hb.block _ (by simp)]; exact HR0.out
  go_enter Tryz.func44, Tryz.ntmps44
  go_wp2_with fail
  generalize hW0 : w.alloc (.cells #[.string who, .string dst, .int .i64 epoch, .int .i64 frm, .int .i64 til, .int .i64 ser] 23) = W0 at *
  have Hd : Hid (Below W0.heap.size W0 W0.drew) := (Below.refl _ _).drew
  obtain ⟨z0, z1, z2, z3, z4, z5⟩ := HC.out W0 (Below.refl _ _)
  clear hW0 HR0
  go_region_held3 (fun w' => w'.cell? ⟨w.heap.size, 0, none⟩ = some (.string who) ∧ w'.cell? ⟨w.heap.size, 1, none⟩ = some (.string dst) ∧ w'.cell? ⟨w.heap.size, 2, none⟩ = some (.int .i64 epoch) ∧ w'.cell? ⟨w.heap.size, 3, none⟩ = some (.int .i64 frm) ∧ w'.cell? ⟨w.heap.size, 4, none⟩ = some (.int .i64 til) ∧ w'.cell? ⟨w.heap.size, 5, none⟩ = some (.int .i64 ser)) (first | go_keep | assumption)
    (first
      | (go_at_call 65; refine (H1.out _ (HE.out.below Hd.out)).mono ?_; rintro e w1 ⟨rfl, hb⟩; have HP1 : Hid (Below W0.heap.size W0 w1) := Hd.out.trans (hb.mono Hd.out.size); have hc1 := HC.out _ HP1.out; clear hb)
      | (go_at_call 65; refine (H2.out _ (HE.out.below HP1.out)).mono ?_; rintro e w2 ⟨rfl, hb⟩; have HP2 : Hid (Below W0.heap.size W0 w2) := HP1.out.trans (hb.mono HP1.out.size); have hc2 := HC.out _ HP2.out; clear hb)
      | (go_at_call 65; refine (H3.out _ (HE.out.below HP2.out)).mono ?_; rintro e w3 ⟨rfl, hb⟩; have HP3 : Hid (Below W0.heap.size W0 w3) := HP2.out.trans (hb.mono HP2.out.size); have hc3 := HC.out _ HP3.out; clear hb)
      | (go_at_call 65; refine (H4.out _ (HE.out.below HP3.out)).mono ?_; rintro e w4 ⟨rfl, hb⟩; have HP4 : Hid (Below W0.heap.size W0 w4) := HP3.out.trans (hb.mono HP3.out.size); have hc4 := HC.out _ HP4.out; clear hb))
  have HP5 := hide ((HB0.out.trans (HP4.out.mono HB0.out.size)).alloc (HB0.out.trans (HP4.out.mono HB0.out.size)).size (.cells #[.string ⟨#[116, 105, 99, 107, 101, 116]⟩, .string who, .string dst, .string s1, .string s2, .string s3, .string s4] 9))
  clear hc1 hc2 hc3 hc4 HP1 HP2 HP3 HP4 HC HE HB0 Hd z0 z1 z2 z3 z4 z5 H1 H2 H3 H4
  go_wp2
  go_ret
  exact ⟨w4.heap.size, texts7 w4 _ _ _ _ _ _ _, rfl, HP5.out⟩
end Go.Proofs.YtgagekcjdapkfabGreatDoor

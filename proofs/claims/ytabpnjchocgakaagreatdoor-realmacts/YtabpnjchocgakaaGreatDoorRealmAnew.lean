/-
  What a realm's Renew gives: a ticket of the next serial, of one that was shown; or an error, and nothing.
-/
import Derived.Test.YtabpnjchocgakaaGreatDoorRealmLog2
import Derived.Test.YtabpnjchocgakaaGreatDoorPk15
import Derived.Test.YtabpnjchocgakaaGreatDoorPk13
namespace Go.Proofs.YtabpnjchocgakaaGreatDoor
open Go.RowKit Go.Extern.Stop Go.Stop Go.Extern Go.Proofs Go.Maps Go.Shelf
set_option maxRecDepth 100000 in
set_option maxHeartbeats 4000000 in
theorem rpRenew_first (ad : Addr) (rp : Nat) (s dst : ByteArray) (w : World) (h : Calls Tryz.prog 66 #[.pointer (some ⟨rp, 0, none⟩), .string dst] w fun e w' => e = .returned (.tuple #[.agg #[.string ⟨#[]⟩, .int .i64 0, .int .i64 0, .bool false], eV ad]) ∧ Below w.heap.size w w') :
  Calls Tryz.prog 20 #[.pointer (some ⟨rp, 0, none⟩), .string s, .string dst] w fun e w' => e = .returned (.tuple #[.string ⟨#[]⟩, eV ad]) ∧ Below w.heap.size w w' := by
 have HP := hide h
 clear h
 go_enter Tryz.func20, Tryz.ntmps20
 go_wp2_with fail
 refine HP.out.mono ?_
 rintro e w1 ⟨rfl, hb⟩
 have HB := hide hb
 clear hb
 go_wp2
 go_ret2
 exact ⟨rfl, HB.out.alloc HB.out.size _⟩
structure RnpAt (w W : World) (rp bp mb gk gt : Nat) (v : Value) (r : Rm) (k : Per) (T : Tk) : Prop where
 mine : RmAt W rp bp mb v r
 past : Below w.heap.size w W
 srv : W.heap[gk]? = some (perO k)
 tk : W.heap[gt]? = some (tkO T)
theorem RnpAt.below {w W W' : World} {rp bp mb gk gt : Nat} {v : Value} {r : Rm} {k : Per} {T : Tk} (h : RnpAt w W rp bp mb gk gt v r k T) (hb : Below W.heap.size W W') : RnpAt w W' rp bp mb gk gt v r k T :=
 ⟨h.mine.below hb, h.past.trans (hb.mono h.past.size), (hb.block _ (row_lt h.srv)).trans h.srv, (hb.block _ (row_lt h.tk)).trans h.tk⟩
theorem RnpAt.held {w W : World} {rp bp mb gk gt : Nat} {v : Value} {r : Rm} {k : Per} {T : Tk} (h : RnpAt w W rp bp mb gk gt v r k T) :
  W.cell? ⟨gt, 0, none⟩ = some (.string T.who) ∧ W.cell? ⟨gt, 1, none⟩ = some (.string T.dst) ∧ W.cell? ⟨gt, 2, none⟩ = some (.int .i64 T.epoch) ∧ W.cell? ⟨gt, 3, none⟩ = some (.int .i64 T.frm) ∧ W.cell? ⟨gt, 4, none⟩ = some (.int .i64 T.til) ∧ W.cell? ⟨gt, 5, none⟩ = some (.int .i64 T.ser) ∧ W.cell? ⟨rp, 2, none⟩ = some (.int .i64 r.time) ∧ W.cell? ⟨rp, 3, none⟩ = some (.int .i64 r.ser) := by
 obtain ⟨t0, t1, t2, t3, t4, t5⟩ := tk_row h.tk
 exact ⟨t0, t1, t2, t3, t4, t5, (rp_cells h.mine.row).2.2.1, (rp_cells h.mine.row).2.2.2.1⟩
theorem RnpAt.set6 {w W : World} {rp bp mb gk gt g : Nat} {v : Value} {r : Rm} {k : Per} {T T3 : Tk} (h : RnpAt w W rp bp mb gk gt v r k T) (hz : W.heap[g]? = some (tkO T3)) (hne : g ≠ gt) (a b c d e f : Value) (hn : w.heap.size ≤ g) :
  RnpAt w ((((((W.setCell ⟨g, 0, none⟩ a).setCell ⟨g, 1, none⟩ b).setCell ⟨g, 2, none⟩ c).setCell ⟨g, 3, none⟩ d).setCell ⟨g, 4, none⟩ e).setCell ⟨g, 5, none⟩ f) rp bp mb gk gt v r k T := by
 have hk : ∀ j, j ≠ g → ((((((W.setCell ⟨g, 0, none⟩ a).setCell ⟨g, 1, none⟩ b).setCell ⟨g, 2, none⟩ c).setCell ⟨g, 3, none⟩ d).setCell ⟨g, 4, none⟩ e).setCell ⟨g, 5, none⟩ f).heap[j]? = W.heap[j]? := fun j hj => by
  rw [heap_setCell_other _ ⟨g, 5, none⟩ j _ hj, heap_setCell_other _ ⟨g, 4, none⟩ j _ hj, heap_setCell_other _ ⟨g, 3, none⟩ j _ hj, heap_setCell_other _ ⟨g, 2, none⟩ j _ hj, heap_setCell_other _ ⟨g, 1, none⟩ j _ hj, heap_setCell_other _ ⟨g, 0, none⟩ j _ hj]
 refine ⟨h.mine.same fun j hj => hk j fun e => ?_, below_set6 h.past hn _ _ _ _ _ _, (hk gk (tags_ne h.srv hz (by decide))).trans h.srv, (hk gt (Ne.symm hne)).trans h.tk⟩
 subst e
 rcases hj with e | e | e | e
 ·
  exact tags_ne h.mine.row hz (by decide) e.symm
 ·
  exact tags_ne h.mine.book.row hz (by decide) e.symm
 ·
  obtain ⟨es, c2, hm⟩ := h.mine.book.map
  rw [← e, hz] at hm
  cases hm
 ·
  obtain ⟨c2, hc⟩ := own_tag h.mine.feed e
  exact tags_ne hc hz (by decide) rfl
theorem readR_small {ws : List (List UInt8)} (h : readE ws = 0) : (tkOf ws).who.size ≤ maxLen ∧ (tkOf ws).dst.size ≤ maxLen := by
 unfold readE at h
 split at h
 ·
  have := ((tkOf ws).err_iff.1 h).1
  unfold Tk.names at this
  rw [Bool.and_eq_true] at this
  exact ⟨name_small this.1, name_small this.2⟩
 ·
  cases h
theorem openR_small {key : Int} {l : List UInt8} (h : tkOpenE key l = 0) : (tkOf (Sl.lookW l)).who.size ≤ maxLen ∧ (tkOf (Sl.lookW l)).dst.size ≤ maxLen := by
 unfold tkOpenE at h
 split at h
 ·
  exact readR_small h
 ·
  exact absurd h (by assumption)
set_option maxRecDepth 100000 in
set_option maxHeartbeats 8000000 in
theorem rpRenew_in (a : Nat → Addr) (rp bp mb : Nat) (v : Value) (r : Rm) (s dst : ByteArray) (w : World) (h : RmAt w rp bp mb v r) (hg : GoodR r) (hE : Env a w) {k : Per} (hk : getP r.b dst = some k) (ho : k.off = false) :
  Calls Tryz.prog 20 #[.pointer (some ⟨rp, 0, none⟩), .string s, .string dst] w fun e w' => e = .returned (.tuple #[.string (r.renS s dst), errV a (r.renC s dst)]) ∧ PPost w rp bp mb v (r.serR (r.renC s dst)) w' := by
 have hs2 : dst.size ≤ maxLen := name_small (hg.name hk).1
 have HP := hide (present_yes rp bp mb v r dst w h hs2 hk ho)
 have HO := hide (fun W (hb : Below w.heap.size w W) => tkOpen_any a k.key s W (hE.below hb))
 have HH := hide h
 have HE := hide hE
 have HIn : Hid (tkOf (Sl.lookW s.data.toList) = tkIn s) := rfl
 rw [HIn.out] at HO
 have HLS : Hid (r.renC s dst ≠ 0 → r.renS s dst = ⟨#[]⟩) := fun h0 => renS_no h0
 have hofk : perOf r.b dst = k := per_of hk
 have hc0 : r.renC s dst = if tkOpenE k.key s.data.toList = 0 then
   (if (tkIn s).dst = dst then
    (if getP r.b (tkIn s).who = none then 5 else if (perOf r.b (tkIn s).who).off = true then 16
     else if (tkIn s).epoch = (perOf r.b (tkIn s).who).epoch then (tkIn s).renewE r.time (r.time + r.long) r.ser else 13)
    else 4)
  else tkOpenE k.key s.data.toList := by
  unfold Rm.renC
  rw [hofk, if_neg (by rw [hk]; simp), if_neg (by rw [ho]; decide)]
 have HUn := hide (fun W (hm : RmAt W rp bp mb v r) => rpUntil_any rp bp mb v r W hm hg)
 have HNone : Hid (getP r.b (tkIn s).who = none → (tkIn s).who.size ≤ maxLen → ∀ W, RmAt W rp bp mb v r → Below w.heap.size w W → Calls Tryz.prog 66 #[.pointer (some ⟨rp, 0, none⟩), .string (tkIn s).who] W fun e w' => e = .returned (.tuple #[.agg #[.string ⟨#[]⟩, .int .i64 0, .int .i64 0, .bool false], eV (a 4)]) ∧ Below W.heap.size W w') := fun hn hs W hm hb => present_none a rp bp mb v r _ W hm (hE.below hb).errs hs hn
 have HOff : Hid (∀ p, getP r.b (tkIn s).who = some p → p.off = true → ∀ W, RmAt W rp bp mb v r → Below w.heap.size w W → Calls Tryz.prog 66 #[.pointer (some ⟨rp, 0, none⟩), .string (tkIn s).who] W fun e w' => e = .returned (.tuple #[.agg #[.string ⟨#[]⟩, .int .i64 0, .int .i64 0, .bool false], eV (a 15)]) ∧ Below W.heap.size W w') := fun p hp hpo W hm hb => present_off a rp bp mb v r _ W hm (hE.below hb).errs (name_small (hg.name hp).1) hp hpo
 have HYes : Hid (∀ p, getP r.b (tkIn s).who = some p → p.off = false → ∀ W, RmAt W rp bp mb v r → Calls Tryz.prog 66 #[.pointer (some ⟨rp, 0, none⟩), .string (tkIn s).who] W fun e w' => e = .returned (.tuple #[.agg #[.string p.name, .int .i64 p.key, .int .i64 p.epoch, .bool false], .nilIface]) ∧ Below W.heap.size W w') := fun p hp hpo W hm => present_yes rp bp mb v r _ W hm (name_small (hg.name hp).1) hp hpo
 have HSm := hide (fun h => @openR_small k.key s.data.toList h)
 rw [HIn.out] at HSm
 have HRn : Hid ((tkIn s).who.size ≤ maxLen → (tkIn s).dst.size ≤ maxLen → ∀ W, Below w.heap.size w W → Calls Tryz.prog 67 #[(tkIn s).val, .int .i64 r.time, .int .i64 (r.time + r.long), .int .i64 r.ser] W fun e w' => e = .returned (.tuple #[(okT ((tkIn s).renewE r.time (r.time + r.long) r.ser) ((tkIn s).anew r.time (r.time + r.long) r.ser)).val, errV a ((tkIn s).renewE r.time (r.time + r.long) r.ser)]) ∧ Below W.heap.size W w') := fun h1 h2 W hb => renew_any a (tkIn s) r.time (r.time + r.long) r.ser W (hE.below hb).errs h1 h2
 have HIs : Hid ((tkIn s).renewE r.time (r.time + r.long) r.ser = 0 → (tkIn s).who.size ≤ maxLen → (tkIn s).dst.size ≤ maxLen → ∀ W, RmAt W rp bp mb v r → Below w.heap.size w W → Calls Tryz.prog 52 #[.pointer (some ⟨rp, 0, none⟩), .int .i64 k.key, ((tkIn s).anew r.time (r.time + r.long) r.ser).val] W fun e w' => e = .returned (.tuple #[.string (Sl.ofL (Sl.sealL k.key ((tkIn s).anew r.time (r.time + r.long) r.ser).words)), .nilIface]) ∧ PPost W rp bp mb v (r.serR 0) w') := fun h0 h1 h2 W hm hb => by
  have he : ((tkIn s).anew r.time (r.time + r.long) r.ser).err = 0 := by
   unfold Tk.renewE at h0
   split at h0
   ·
    exact h0
   ·
    rename_i hx; exact absurd h0 hx
  have hm0 : tkMakeE k.key ((tkIn s).anew r.time (r.time + r.long) r.ser) = 0 := by unfold tkMakeE; rw [if_pos (hg.name hk).2.1]; exact he
  have := issue_any a rp bp mb v r k.key ((tkIn s).anew r.time (r.time + r.long) r.ser) W hm (hE.below hb) hg.ser h1 h2
  rw [hm0, errV_zero, show tkMakeS k.key ((tkIn s).anew r.time (r.time + r.long) r.ser) = Sl.ofL (Sl.sealL k.key ((tkIn s).anew r.time (r.time + r.long) r.ser).words) by unfold tkMakeS; rw [if_pos hm0]] at this
  exact this
 have hls : r.renC s dst = 0 → r.renS s dst = Sl.ofL (Sl.sealL k.key ((tkIn s).anew r.time (r.time + r.long) r.ser).words) := fun h0 => by unfold Rm.renS; rw [if_pos h0, hofk]
 have HLY := hide hls
 have HC0 := hide hc0
 have HPo : Hid (∀ p, getP r.b (tkIn s).who = some p → perOf r.b (tkIn s).who = p) := fun p hp => per_of hp
 clear h hE hg hk ho hc0 hofk hls hs2
 generalize tkIn s = T at *
 generalize getP r.b T.who = gw at *
 generalize perOf r.b T.who = po at *
 have HOk : Hid (T.renewE r.time (r.time + r.long) r.ser = 0 → okT (T.renewE r.time (r.time + r.long) r.ser) (T.anew r.time (r.time + r.long) r.ser) = T.anew r.time (r.time + r.long) r.ser) := fun h0 => by rw [h0, okT_yes]
 generalize T.anew r.time (r.time + r.long) r.ser = TA at *
 generalize T.renewE r.time (r.time + r.long) r.ser = rc at *
 generalize okT rc TA = T2 at *
 generalize Sl.ofL (Sl.sealL k.key TA.words) = LS at *
 generalize r.renS s dst = ls at *
 generalize r.renC s dst = lc at *
 have HNo : Hid (∀ c W, lc = c → c ≠ 0 → Below w.heap.size w W → (Ending.returned (.tuple #[.string ⟨#[]⟩, eV (a (c - 1))]) = .returned (.tuple #[.string ls, errV a lc]) ∧ PPost w rp bp mb v (r.serR lc) W)) := fun c W hc hn hb => by
  subst hc
  rw [HLS.out hn, serR_no hn, errV_pos a hn]
  exact ⟨rfl, PPost.same HH.out hb⟩
 generalize tkOpenE k.key s.data.toList = oc at *
 go_enter Tryz.func20, Tryz.ntmps20
 go_wp2_with fail
 refine HP.out.mono ?_
 rintro e w1 ⟨rfl, hb⟩
 have HB1 : Hid (∀ o, Below w.heap.size w (w1.alloc o)) := fun o => hb.alloc hb.size _
 have HW1 : Hid (∀ o, (w1.alloc (.cells o 46)).heap[w1.heap.size]? = some (.cells o 46 (0, 0))) := fun o => heap_alloc_new _ _
 clear hb
 by_cases h0 : oc = 0
 ·
  subst h0
  rw [okT_yes, tk_val, errV_zero] at HO
  obtain ⟨hz1, hz2⟩ := HSm.out rfl
  have HRn2 := hide (HRn.out hz1 hz2)
  rw [tk_val, tk_val] at HRn2
  rw [if_pos rfl] at HC0
  go_wp2_with fail
  refine (HO.out _ (HB1.out _)).mono ?_
  rintro e w2 ⟨rfl, hb⟩
  have hB2 := (HB1.out _).trans (hb.mono (HB1.out _).size)
  have hr1 := (hb.block _ (row_lt (HW1.out _))).trans (HW1.out _)
  have HL2 : Hid (RnpAt w (w2.alloc (tkO T)) rp bp mb w1.heap.size w2.heap.size v r ⟨k.name, k.key, k.epoch, false⟩ T) := ⟨HH.out.below (hB2.alloc hB2.size _), hB2.alloc hB2.size _, row_past hr1 _, heap_alloc_new _ _⟩
  clear hb hB2 hr1
  go_upto_region 7 with fail
  obtain ⟨W3, hW3⟩ : ∃ W, w2.alloc (.cells #[.string T.who, .string T.dst, .int .i64 T.epoch, .int .i64 T.frm, .int .i64 T.til, .int .i64 T.ser] 51) = W := ⟨_, rfl⟩
  have HL3 : Hid (RnpAt w W3 rp bp mb w1.heap.size w2.heap.size v r ⟨k.name, k.key, k.epoch, false⟩ T) := by rw [← hW3]; exact HL2.out
  rw [hW3]
  clear hW3 HL2 HB1 HW1
  generalize w1.heap.size = gk at *
  generalize w2.heap.size = gt at *
  obtain ⟨t0, t1, t2, t3, t4, t5, _, _⟩ := HL3.out.held
  by_cases hd : T.dst = dst
  ·
   have hdz : (T.dst.toList == dst.toList) = true := by rw [hd]; simp
   rw [if_pos hd] at HC0
   clear hd
   cases gw with
   | none =>
    have HPn := hide (HNone.out rfl hz1 W3 HL3.out.mine HL3.out.past)
    rw [if_pos rfl] at HC0
    clear HNone HOff HYes
    go_wp2_with fail
    refine HPn.out.mono ?_
    rintro e w4 ⟨rfl, hb⟩
    have HB4 : Hid (∀ o, Below w.heap.size w (w4.alloc o)) := fun o => (HL3.out.past.trans (hb.mono HL3.out.past.size)).alloc (HL3.out.past.trans (hb.mono HL3.out.past.size)).size o
    clear hb
    go_wp2
    go_ret2
    exact HNo.out 5 _ HC0.out (by decide) (HB4.out _)
   | some p =>
    have hpo := HPo.out p rfl
    subst hpo
    rw [if_neg (by simp)] at HC0
    cases hoff : po.off with
    | true =>
     have HPn := hide (HOff.out po rfl hoff W3 HL3.out.mine HL3.out.past)
     rw [if_pos hoff] at HC0
     clear HNone HOff HYes hoff
     go_wp2_with fail
     refine HPn.out.mono ?_
     rintro e w4 ⟨rfl, hb⟩
     have HB4 : Hid (∀ o, Below w.heap.size w (w4.alloc o)) := fun o => (HL3.out.past.trans (hb.mono HL3.out.past.size)).alloc (HL3.out.past.trans (hb.mono HL3.out.past.size)).size o
     clear hb
     go_wp2
     go_ret2
     exact HNo.out 16 _ HC0.out (by decide) (HB4.out _)
    | false =>
     have HPn := hide (HYes.out po rfl hoff W3 HL3.out.mine)
     rw [if_neg (by rw [hoff]; decide)] at HC0
     clear HNone HOff HYes hoff
     go_wp2_with fail
     refine HPn.out.mono ?_
     rintro e w4 ⟨rfl, hb⟩
     have HL4 := hide (fun o => HL3.out.below (hb.alloc hb.size o))
     have HR4 : Hid (∀ o, (w4.alloc (.cells o 46)).heap[w4.heap.size]? = some (.cells o 46 (0, 0))) := fun o => heap_alloc_new _ _
     clear hb HPn t0 t1 t2 t3 t4 t5
     go_upto_region 12 with fail
     obtain ⟨W5, hW5⟩ : ∃ W, w4.alloc (.cells #[.string po.name, .int .i64 po.key, .int .i64 po.epoch, .bool false] 46) = W := ⟨_, rfl⟩
     have HL5 : Hid (RnpAt w W5 rp bp mb gk gt v r ⟨k.name, k.key, k.epoch, false⟩ T) := by rw [← hW5]; exact HL4.out _
     have HR5 : Hid (W5.heap[w4.heap.size]? = some (.cells #[.string po.name, .int .i64 po.key, .int .i64 po.epoch, .bool false] 46 (0, 0))) := by show _ = _; rw [← hW5]; exact HR4.out _
     rw [hW5]
     clear hW5 HL4 HR4 HL3
     obtain ⟨t0, t1, t2, t3, t4, t5, _, _⟩ := HL5.out.held
     have x2 : W5.cell? ⟨w4.heap.size, 2, none⟩ = some (.int .i64 po.epoch) := cell_of_row _ _ 2 _ _ _ HR5.out
     by_cases hep : T.epoch = po.epoch
     ·
      have hez : (T.epoch == po.epoch) = true := by simpa using hep
      rw [if_pos hep] at HC0
      clear hep
      go_upto_region 14 with fail
      have HLd := hide (HL5.out.below (Below.refl _ W5).drew)
      have HN6 : Hid (gt < W5.heap.size ∧ w.heap.size ≤ W5.heap.size) := ⟨row_lt HL5.out.tk, HL5.out.past.size⟩
      have HN5 : Hid (W5.heap.size ≠ gt ∧ w.heap.size ≤ W5.heap.size) := ⟨by have := HN6.out.1; omega, HN6.out.2⟩
      clear t0 t1 t2 t3 t4 t5 x2 HR5 hez
      go_cut [12, 9] (fun s12 s9 wc => ∃ g2, s12 = .pointer (some ⟨g2, 0, none⟩) ∧ s9 = errV a rc ∧ Hid (wc.heap[g2]? = some (tkO T2)) ∧ Hid (RnpAt w wc rp bp mb gk gt v r ⟨k.name, k.key, k.epoch, false⟩ T))
      case first =>
       refine wp_region_noPanic ?_
       refine wp_region_held_drew (S := (fun w' => w'.cell? ⟨gt, 0, none⟩ = some (.string T.who) ∧ w'.cell? ⟨gt, 1, none⟩ = some (.string T.dst) ∧ w'.cell? ⟨gt, 2, none⟩ = some (.int .i64 T.epoch) ∧ w'.cell? ⟨gt, 3, none⟩ = some (.int .i64 T.frm) ∧ w'.cell? ⟨gt, 4, none⟩ = some (.int .i64 T.til) ∧ w'.cell? ⟨gt, 5, none⟩ = some (.int .i64 T.ser) ∧ w'.cell? ⟨rp, 2, none⟩ = some (.int .i64 r.time) ∧ w'.cell? ⟨rp, 3, none⟩ = some (.int .i64 r.ser))) (by kernel_rfl) HLd.out.held (fun hHeld => ?_)
       refine takeD (i := 0) (oi := _) (v := ?_) (d := 54) rfl rfl (by kernel_rfl) (by kernel_rfl) (by kernel_rfl) (fun _ _ _ h => h) (Or.inl ⟨by rfl, ?_⟩) (by assumption) ?_
       rotate_left
       ·
        intro w hSw
        (try dsimp only at hSw)
        go_simp
        (try with_reducible rfl)
       simp only [List.setIfInBounds_toArray, List.set_cons_zero, List.set_cons_succ]
       refine takeD (i := 1) (oi := _) (v := ?_) (d := 55) rfl rfl (by kernel_rfl) (by kernel_rfl) (by kernel_rfl) (fun _ _ _ h => h) (Or.inl ⟨by rfl, ?_⟩) (by assumption) ?_
       rotate_left
       ·
        intro w hSw
        (try dsimp only at hSw)
        go_simp
        (try with_reducible rfl)
       simp only [List.setIfInBounds_toArray, List.set_cons_zero, List.set_cons_succ]
       refine takeD (i := 2) (oi := _) (v := ?_) (d := 56) rfl rfl (by kernel_rfl) (by kernel_rfl) (by kernel_rfl) (fun _ _ _ h => h) (Or.inl ⟨by rfl, ?_⟩) (by assumption) ?_
       rotate_left
       ·
        intro w hSw
        (try dsimp only at hSw)
        go_simp
        (try with_reducible rfl)
       simp only [List.setIfInBounds_toArray, List.set_cons_zero, List.set_cons_succ]
       refine takeD (i := 3) (oi := _) (v := ?_) (d := 57) rfl rfl (by kernel_rfl) (by kernel_rfl) (by kernel_rfl) (fun _ _ _ h => h) (Or.inl ⟨by rfl, ?_⟩) (by assumption) ?_
       rotate_left
       ·
        intro w hSw
        (try dsimp only at hSw)
        go_simp
        (try with_reducible rfl)
       simp only [List.setIfInBounds_toArray, List.set_cons_zero, List.set_cons_succ]
       refine takeD (i := 4) (oi := _) (v := ?_) (d := 58) rfl rfl (by kernel_rfl) (by kernel_rfl) (by kernel_rfl) (fun _ _ _ h => h) (Or.inl ⟨by rfl, ?_⟩) (by assumption) ?_
       rotate_left
       ·
        intro w hSw
        (try dsimp only at hSw)
        go_simp
        (try with_reducible rfl)
       simp only [List.setIfInBounds_toArray, List.set_cons_zero, List.set_cons_succ]
       refine takeD (i := 5) (oi := _) (v := ?_) (d := 59) rfl rfl (by kernel_rfl) (by kernel_rfl) (by kernel_rfl) (fun _ _ _ h => h) (Or.inl ⟨by rfl, ?_⟩) (by assumption) ?_
       rotate_left
       ·
        intro w hSw
        (try dsimp only at hSw)
        go_simp
        (try with_reducible rfl)
       simp only [List.setIfInBounds_toArray, List.set_cons_zero, List.set_cons_succ]
       refine takeD (i := 7) (oi := _) (v := ?_) (d := 61) rfl rfl (by kernel_rfl) (by kernel_rfl) (by kernel_rfl) (fun _ _ _ h => h) (Or.inl ⟨by rfl, ?_⟩) (by assumption) ?_
       rotate_left
       ·
        intro w hSw
        (try dsimp only at hSw)
        go_simp
        (try with_reducible rfl)
       simp only [List.setIfInBounds_toArray, List.set_cons_zero, List.set_cons_succ]
       refine takeD (i := 8) (oi := _) (v := ?_) (d := 62) rfl rfl (by kernel_rfl) (by kernel_rfl) (by kernel_rfl) (fun _ _ _ h => h) (Or.inl ⟨by rfl, ?_⟩) (by assumption) ?_
       rotate_left
       ·
        intro w hSw
        (try dsimp only at hSw)
        go_simp
        (try with_reducible rfl)
       simp only [List.setIfInBounds_toArray, List.set_cons_zero, List.set_cons_succ]
       refine takeD (i := 9) (oi := _) (v := ?_) (d := 63) rfl rfl (by kernel_rfl) (by kernel_rfl) (by kernel_rfl) (fun _ _ _ h => h) (Or.inl ⟨by rfl, ?_⟩) (by assumption) ?_
       rotate_left
       ·
        intro w hSw
        (try dsimp only at hSw)
        go_simp
        (try with_reducible rfl)
       simp only [List.setIfInBounds_toArray, List.set_cons_zero, List.set_cons_succ]
       refine takeD (i := 10) (oi := _) (v := ?_) (d := 64) rfl rfl (by kernel_rfl) (by kernel_rfl) (by kernel_rfl) (fun _ _ _ h => h) (Or.inl ⟨by rfl, ?_⟩) (by assumption) ?_
       rotate_left
       ·
        intro w hSw
        (try dsimp only at hSw)
        go_simp
        (try with_reducible rfl)
       simp only [List.setIfInBounds_toArray, List.set_cons_zero, List.set_cons_succ]
       refine wpAnyH_ready (rs := [6, 15]) (by kernel_rfl) (by simp) ?_
       refine AllReadyH.cons (o := _) rfl (fun K hK => ?_) (AllReadyH.cons (o := _) rfl (fun K hK => ?_) AllReadyH.nil)
       ·
        go_simp
        refine (HUn.out _ HLd.out.mine).mono ?_
        rintro e hm7w ⟨rfl, hb⟩
        have HM7 := hide (HLd.out.below hb)
        have HZ7 : Hid (W5.heap.size ≤ hm7w.heap.size) := hb.size
        clear hb
        go_wp2_with fail
        refine hK.out _ _ HM7.out.held (fun hHeld => ?_)
        clear hK K
        refine wpAnyH_ready (rs := [11, 15]) (by kernel_rfl) (by simp) ?_
        refine AllReadyH.cons (o := _) rfl (fun K hK => ?_) (AllReadyH.cons (o := _) rfl (fun K hK => ?_) AllReadyH.nil)
        ·
         go_simp
         refine (HRn2.out _ HM7.out.past).mono ?_
         rintro e hm8w ⟨rfl, hb⟩
         have HM8 := hide (HM7.out.below hb)
         clear hb
         go_wp2_with fail
         refine hK.out _ _ HM8.out.held (fun hHeld => ?_)
         clear hK K
         refine takeD (i := 12) (oi := _) (v := ?_) (d := 53) rfl rfl (by kernel_rfl) (by kernel_rfl) (by kernel_rfl) (fun _ _ _ h => h) (Or.inl ⟨by rfl, ?_⟩) (by assumption) ?_
         rotate_left
         ·
          intro w hSw
          (try dsimp only at hSw)
          go_simp
          (try with_reducible rfl)
         simp only [List.setIfInBounds_toArray, List.set_cons_zero, List.set_cons_succ]
         refine takeD (i := 13) (oi := _) (v := ?_) (d := 66) rfl rfl (by kernel_rfl) (by kernel_rfl) (by kernel_rfl) (fun _ _ _ h => h) (Or.inl ⟨by rfl, ?_⟩) (by assumption) ?_
         rotate_left
         ·
          intro w hSw
          (try dsimp only at hSw)
          go_simp
          (try with_reducible rfl)
         simp only [List.setIfInBounds_toArray, List.set_cons_zero, List.set_cons_succ]
         refine takeD (i := 14) (oi := _) (v := ?_) (d := 67) rfl rfl (by kernel_rfl) (by kernel_rfl) (by kernel_rfl) (fun _ _ _ h => h) (Or.inl ⟨by rfl, ?_⟩) (by assumption) ?_
         rotate_left
         ·
          intro w hSw
          (try dsimp only at hSw)
          go_simp
          (try with_reducible rfl)
         simp only [List.setIfInBounds_toArray, List.set_cons_zero, List.set_cons_succ]
         refine wpAnyH_ready (rs := [15]) (by kernel_rfl) (by simp) ?_
         refine AllReadyH.cons (o := _) rfl (fun K hK => ?_) AllReadyH.nil
         go_simp
         have HMa := hide (HM8.out.below ((Below.refl _ _).alloc (Nat.le_refl _) (tkO tk0)))
         refine hK.out _ _ HMa.out.held (fun hHeld => ?_)
         clear hK K
         refine wpAnyH_ready (rs := [16]) (by kernel_rfl) (by simp) ?_
         refine AllReadyH.cons (o := _) rfl (fun K hK => ?_) AllReadyH.nil
         go_simp
         have HMs := hide (HM8.out.below ((Below.refl _ _).alloc (Nat.le_refl _) (tkO T2)))
         refine hK.out _ _ HMs.out.held (fun hHeld => ?_)
         clear hK K
         refine takeD (i := 17) (oi := _) (v := ?_) (d := 9) rfl rfl (by kernel_rfl) (by kernel_rfl) (by kernel_rfl) (fun _ _ _ h => h) (Or.inl ⟨by rfl, ?_⟩) (by assumption) ?_
         rotate_left
         ·
          intro w hSw
          (try dsimp only at hSw)
          go_simp
          (try with_reducible rfl)
         simp only [List.setIfInBounds_toArray, List.set_cons_zero, List.set_cons_succ]
         refine wpAnyH_done (by kernel_rfl) ?_ _
         refine NoPanic.normal ?_
         go_wp2_with fail
         go_meet
         exact ⟨_, rfl, rfl, hide (heap_alloc_new _ _), HMs⟩
        ·
         go_simp
         have HMa := hide (HM7.out.below ((Below.refl _ _).alloc (Nat.le_refl _) (tkO tk0)))
         have HZa : Hid ((hm7w.alloc (tkO tk0)).heap[hm7w.heap.size]? = some (tkO tk0)) := heap_alloc_new hm7w (tkO tk0)
         refine hK.out _ _ HMa.out.held (fun hHeld => ?_)
         clear hK K
         refine wpAnyH_ready (rs := [11]) (by kernel_rfl) (by simp) ?_
         refine AllReadyH.cons (o := _) rfl (fun K hK => ?_) AllReadyH.nil
         go_simp
         refine (HRn2.out _ HMa.out.past).mono ?_
         rintro e hm8w ⟨rfl, hb⟩
         have HM8 := hide (HMa.out.below hb)
         have HZ8 := hide ((hb.block _ (row_lt HZa.out)).trans HZa.out)
         obtain ⟨y0, y1, y2, y3, y4, y5⟩ := tk_row HZ8.out
         obtain ⟨f0, f1, f2, f3, f4, f5⟩ := row_frozen6 HZ8.out
         clear hb
         go_wp2_with fail
         refine hK.out _ _ HM8.out.held (fun hHeld => ?_)
         clear hK K
         refine takeD (i := 12) (oi := _) (v := ?_) (d := 53) rfl rfl (by kernel_rfl) (by kernel_rfl) (by kernel_rfl) (fun _ _ _ h => h) (Or.inl ⟨by rfl, ?_⟩) (by assumption) ?_
         rotate_left
         ·
          intro w hSw
          (try dsimp only at hSw)
          go_simp
          (try with_reducible rfl)
         simp only [List.setIfInBounds_toArray, List.set_cons_zero, List.set_cons_succ]
         refine takeD (i := 13) (oi := _) (v := ?_) (d := 66) rfl rfl (by kernel_rfl) (by kernel_rfl) (by kernel_rfl) (fun _ _ _ h => h) (Or.inl ⟨by rfl, ?_⟩) (by assumption) ?_
         rotate_left
         ·
          intro w hSw
          (try dsimp only at hSw)
          go_simp
          (try with_reducible rfl)
         simp only [List.setIfInBounds_toArray, List.set_cons_zero, List.set_cons_succ]
         refine takeD (i := 14) (oi := _) (v := ?_) (d := 67) rfl rfl (by kernel_rfl) (by kernel_rfl) (by kernel_rfl) (fun _ _ _ h => h) (Or.inl ⟨by rfl, ?_⟩) (by assumption) ?_
         rotate_left
         ·
          intro w hSw
          (try dsimp only at hSw)
          go_simp
          (try with_reducible rfl)
         simp only [List.setIfInBounds_toArray, List.set_cons_zero, List.set_cons_succ]
         refine wpAnyH_ready (rs := [16]) (by kernel_rfl) (by simp) ?_
         refine AllReadyH.cons (o := _) rfl (fun K hK => ?_) AllReadyH.nil
         go_simp
         have HMs := hide (HM8.out.set6 HZ8.out (by have := HN6.out.1; have := HZ7.out; omega) (.string T2.who) (.string T2.dst) (.int .i64 T2.epoch) (.int .i64 T2.frm) (.int .i64 T2.til) (.int .i64 T2.ser) (by have := HN6.out.2; have := HZ7.out; omega))
         have HTs := hide (row_set6 HZ8.out (.string T2.who) (.string T2.dst) (.int .i64 T2.epoch) (.int .i64 T2.frm) (.int .i64 T2.til) (.int .i64 T2.ser))
         refine hK.out _ _ HMs.out.held (fun hHeld => ?_)
         clear hK K
         refine takeD (i := 17) (oi := _) (v := ?_) (d := 9) rfl rfl (by kernel_rfl) (by kernel_rfl) (by kernel_rfl) (fun _ _ _ h => h) (Or.inl ⟨by rfl, ?_⟩) (by assumption) ?_
         rotate_left
         ·
          intro w hSw
          (try dsimp only at hSw)
          go_simp
          (try with_reducible rfl)
         simp only [List.setIfInBounds_toArray, List.set_cons_zero, List.set_cons_succ]
         refine wpAnyH_done (by kernel_rfl) ?_ _
         refine NoPanic.normal ?_
         go_wp2_with fail
         go_meet
         exact ⟨_, rfl, rfl, HTs, HMs⟩
       ·
        go_simp
        have HMa := hide (HL5.out.below ((Below.refl _ W5).alloc (Nat.le_refl _) (tkO tk0)))
        have HMd := hide (HMa.out.below (Below.refl _ _).drew)
        have HZd : Hid ((W5.alloc (tkO tk0)).drew.heap[W5.heap.size]? = some (tkO tk0)) := heap_alloc_new W5 (tkO tk0)
        refine hK.out _ _ HMd.out.held (fun hHeld => ?_)
        clear hK K
        refine wpAnyH_ready (rs := [6]) (by kernel_rfl) (by simp) ?_
        refine AllReadyH.cons (o := _) rfl (fun K hK => ?_) AllReadyH.nil
        go_simp
        refine (HUn.out _ HMd.out.mine).mono ?_
        rintro e hm7w ⟨rfl, hb⟩
        have HM7 := hide (HMd.out.below hb)
        have HZ7 := hide ((hb.block _ (row_lt HZd.out)).trans HZd.out)
        clear hb
        go_wp2_with fail
        refine hK.out _ _ HM7.out.held (fun hHeld => ?_)
        clear hK K
        refine wpAnyH_ready (rs := [11]) (by kernel_rfl) (by simp) ?_
        refine AllReadyH.cons (o := _) rfl (fun K hK => ?_) AllReadyH.nil
        go_simp
        refine (HRn2.out _ HM7.out.past).mono ?_
        rintro e hm8w ⟨rfl, hb⟩
        have HM8 := hide (HM7.out.below hb)
        have HZ8 := hide ((hb.block _ (row_lt HZ7.out)).trans HZ7.out)
        obtain ⟨y0, y1, y2, y3, y4, y5⟩ := tk_row HZ8.out
        obtain ⟨f0, f1, f2, f3, f4, f5⟩ := row_frozen6 HZ8.out
        clear hb
        go_wp2_with fail
        refine hK.out _ _ HM8.out.held (fun hHeld => ?_)
        clear hK K
        refine takeD (i := 12) (oi := _) (v := ?_) (d := 53) rfl rfl (by kernel_rfl) (by kernel_rfl) (by kernel_rfl) (fun _ _ _ h => h) (Or.inl ⟨by rfl, ?_⟩) (by assumption) ?_
        rotate_left
        ·
         intro w hSw
         (try dsimp only at hSw)
         go_simp
         (try with_reducible rfl)
        simp only [List.setIfInBounds_toArray, List.set_cons_zero, List.set_cons_succ]
        refine takeD (i := 13) (oi := _) (v := ?_) (d := 66) rfl rfl (by kernel_rfl) (by kernel_rfl) (by kernel_rfl) (fun _ _ _ h => h) (Or.inl ⟨by rfl, ?_⟩) (by assumption) ?_
        rotate_left
        ·
         intro w hSw
         (try dsimp only at hSw)
         go_simp
         (try with_reducible rfl)
        simp only [List.setIfInBounds_toArray, List.set_cons_zero, List.set_cons_succ]
        refine takeD (i := 14) (oi := _) (v := ?_) (d := 67) rfl rfl (by kernel_rfl) (by kernel_rfl) (by kernel_rfl) (fun _ _ _ h => h) (Or.inl ⟨by rfl, ?_⟩) (by assumption) ?_
        rotate_left
        ·
         intro w hSw
         (try dsimp only at hSw)
         go_simp
         (try with_reducible rfl)
        simp only [List.setIfInBounds_toArray, List.set_cons_zero, List.set_cons_succ]
        refine wpAnyH_ready (rs := [16]) (by kernel_rfl) (by simp) ?_
        refine AllReadyH.cons (o := _) rfl (fun K hK => ?_) AllReadyH.nil
        go_simp
        have HMs := hide (HM8.out.set6 HZ8.out HN5.out.1 (.string T2.who) (.string T2.dst) (.int .i64 T2.epoch) (.int .i64 T2.frm) (.int .i64 T2.til) (.int .i64 T2.ser) HN5.out.2)
        have HTs := hide (row_set6 HZ8.out (.string T2.who) (.string T2.dst) (.int .i64 T2.epoch) (.int .i64 T2.frm) (.int .i64 T2.til) (.int .i64 T2.ser))
        refine hK.out _ _ HMs.out.held (fun hHeld => ?_)
        clear hK K
        refine takeD (i := 17) (oi := _) (v := ?_) (d := 9) rfl rfl (by kernel_rfl) (by kernel_rfl) (by kernel_rfl) (fun _ _ _ h => h) (Or.inl ⟨by rfl, ?_⟩) (by assumption) ?_
        rotate_left
        ·
         intro w hSw
         (try dsimp only at hSw)
         go_simp
         (try with_reducible rfl)
        simp only [List.setIfInBounds_toArray, List.set_cons_zero, List.set_cons_succ]
        refine wpAnyH_done (by kernel_rfl) ?_ _
        refine NoPanic.normal ?_
        go_wp2_with fail
        go_meet
        exact ⟨_, rfl, rfl, HTs, HMs⟩
      case rest =>
       obtain ⟨g2, rfl, rfl, HT2, HL6⟩ := hcut
       clear HL5 HLd HN5 HN6 HUn HRn HRn2
       have x1 : wc.cell? ⟨gk, 1, none⟩ = some (.int .i64 k.key) := cell_of_row _ _ 1 _ _ _ HL6.out.srv
       by_cases hrc : rc = 0
       ·
        have hta := HOk.out hrc
        have HI := hide (HIs.out hrc hz1 hz2 wc HL6.out.mine HL6.out.past)
        have HC1 : Hid (lc = 0) := HC0.out.trans hrc
        have HLs := hide (HLY.out HC1.out)
        rw [hrc, errV_zero]
        rw [hta] at HT2
        clear hta hrc HOk HIs HLY HNo HLS HC0
        rw [tk_val] at HI
        obtain ⟨t0, t1, t2, t3, t4, t5⟩ := tk_row HT2.out
        go_wp2_with fail
        refine HI.out.mono ?_
        rintro e w9 ⟨rfl, hp⟩
        have HPp := hide (PPost.from HL6.out.past hp)
        clear hp
        go_wp2
        go_ret2
        exact ⟨by rw [HC1.out, HLs.out]; rfl, by rw [HC1.out]; exact HPp.out⟩
       ·
        have HEv := hide (errV_pos a hrc)
        have HN := hide hrc
        rw [HEv.out]
        clear hrc HOk HIs HLY
        go_wp2
        go_ret2
        exact HNo.out rc _ HC0.out HN.out HL6.out.past
     ·
      have hez : (T.epoch == po.epoch) = false := by simpa using hep
      rw [if_neg hep] at HC0
      have hvv : ∀ nq, (W5.drewN nq).cell? ⟨3, 0, none⟩ = some (eV (a 12)) := fun nq => (HE.out.below (below_drewN HL5.out.past nq)).errs.var 12 (by decide)
      have hvw : W5.cell? ⟨3, 0, none⟩ = some (eV (a 12)) := (HE.out.below HL5.out.past).errs.var 12 (by decide)
      clear hep
      go_wp2
      go_quiet (fail)
      go_wp2
      go_ret2
      exact HNo.out 13 _ HC0.out (by decide) (below_drewN HL5.out.past _)
  ·
   have hdz : (T.dst.toList == dst.toList) = false := by rw [beq_eq_false_iff_ne]; exact fun e => hd (Go.WideShapes.bytes_inj (by rwa [Lib.toList_data, Lib.toList_data] at e))
   rw [if_neg hd] at HC0
   have hvw : W3.cell? ⟨2, 0, none⟩ = some (eV (a 3)) := (HE.out.below HL3.out.past).errs.var 3 (by decide)
   clear hd
   go_wp2
   go_quiet (fail)
   go_wp2
   go_ret2
   exact HNo.out 4 _ HC0.out (by decide) (below_drewN HL3.out.past _)
 ·
  have HEv := hide (errV_pos a h0)
  rw [HEv.out] at HO
  rw [if_neg h0] at HC0
  have HN := hide h0
  rw [tk_val] at HO
  generalize okT oc T = T3 at *
  go_wp2_with fail
  refine (HO.out _ (HB1.out _)).mono ?_
  rintro e w2 ⟨rfl, hb⟩
  have HB2 : Hid (∀ o, Below w.heap.size w (w2.alloc o)) := fun o => ((HB1.out _).trans (hb.mono (HB1.out _).size)).alloc ((HB1.out _).trans (hb.mono (HB1.out _).size)).size o
  clear hb h0
  go_wp2
  go_ret2
  exact HNo.out oc _ HC0.out HN.out (HB2.out _)
theorem rpRenew_any (a : Nat → Addr) (rp bp mb : Nat) (v : Value) (r : Rm) (s dst : ByteArray) (w : World) (h : RmAt w rp bp mb v r) (hg : GoodR r) (hE : Env a w) (hs2 : dst.size ≤ maxLen) :
  Calls Tryz.prog 20 #[.pointer (some ⟨rp, 0, none⟩), .string s, .string dst] w fun e w' => e = .returned (.tuple #[.string (r.renS s dst), errV a (r.renC s dst)]) ∧ PPost w rp bp mb v (r.serR (r.renC s dst)) w' := by
 have fin : ∀ (c : Nat) (hc : c ≠ 0) (hl : r.renC s dst = c) (e : Ending) (w' : World), (e = .returned (.tuple #[.string ⟨#[]⟩, eV (a (c - 1))]) ∧ Below w.heap.size w w') → e = .returned (.tuple #[.string (r.renS s dst), errV a (r.renC s dst)]) ∧ PPost w rp bp mb v (r.serR (r.renC s dst)) w' := fun c hc hl e w' ⟨h1, h2⟩ => by
  rw [renS_no (by rw [hl]; exact hc), hl, errV_pos a hc, serR_no hc]
  exact ⟨h1, PPost.same h h2⟩
 cases hk : getP r.b dst with
 | none => exact (rpRenew_first (a 4) rp s dst w (present_none a rp bp mb v r dst w h hE.errs hs2 hk)).mono (fin 5 (by decide) (by unfold Rm.renC; rw [if_pos hk]))
 | some k =>
  cases ho : k.off with
  | true => exact (rpRenew_first (a 15) rp s dst w (present_off a rp bp mb v r dst w h hE.errs hs2 hk ho)).mono (fin 16 (by decide) (by unfold Rm.renC; rw [if_neg (by rw [hk]; simp), if_pos (by rw [per_of hk]; exact ho)]))
  | false => exact rpRenew_in a rp bp mb v r s dst w h hg hE hk ho
end Go.Proofs.YtabpnjchocgakaaGreatDoor

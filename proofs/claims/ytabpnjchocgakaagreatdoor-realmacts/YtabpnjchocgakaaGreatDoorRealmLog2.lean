/-
  What a realm's Login gives where both are there and not off; and at whatever names.
-/
import Derived.Test.YtabpnjchocgakaaGreatDoorPk14
import Derived.Test.YtabpnjchocgakaaGreatDoorPk13
namespace Go.Proofs.YtabpnjchocgakaaGreatDoor
open Go.RowKit Go.Extern.Stop Go.Stop Go.Extern Go.Proofs Go.Maps Go.Shelf
theorem log_make {r : Rm} (h : GoodR r) {name dst : ByteArray} {proof : Int} {p s : Per} (hp : getP r.b name = some p) (hs : getP r.b dst = some s) (ho : p.off = false) (ho2 : s.off = false) (hr : rightE p.key (prf name r.time) proof = 0) (ht : r.time < 1000000) :
  r.logC name proof dst = tkMakeE s.key (r.logT name dst) ∧ r.logS name proof dst = tkMakeS s.key (r.logT name dst) := by
 have hc : r.logC name proof dst = tkMakeE s.key (r.logT name dst) := by
  rw [logC_on hp hs (by rw [ho, ho2]; decide), if_pos hr]
  unfold tkMakeE
  rw [if_pos (h.name hs).2.1]
  by_cases hser : r.ser ≤ 1073741824
  ·
   rw [log_err h hp hs hser, if_neg (by omega)]
  ·
   rw [if_pos (by omega)]
   unfold Tk.err
   rw [if_pos (show (r.logT name dst).names = true by
    show (Sl.nameL name.data.toList && Sl.nameL dst.data.toList) = true
    rw [(h.name hp).1, (h.name hs).1]
    rfl), if_neg (fun e => by
    have e' : (1 ≤ (perOf r.b name).epoch ∧ (perOf r.b name).epoch ≤ 1073741824) ∧ (1 ≤ r.ser ∧ r.ser ≤ 1073741824) ∧ (0 ≤ r.time ∧ r.time ≤ 1000000) ∧ (r.time ≤ r.til ∧ r.til ≤ 1000000) := e
    omega)]
 refine ⟨hc, ?_⟩
 unfold Rm.logS tkMakeS
 rw [hc, per_of hs]
theorem serR_time (r : Rm) (c : Nat) : (r.serR c).time = r.time := by unfold Rm.serR; split <;> rfl
theorem issue_after {w W W' : World} {rp bp mb gw gs : Nat} {v : Value} {r : Rm} {p s : Per} {c : Nat} (h : LogAt w W rp bp mb gw gs v r p s) (hp : PPost W rp bp mb v (r.serR c) W') :
  W'.cell? ⟨gs, 1, none⟩ = some (.int .i64 s.key) ∧ W'.cell? ⟨gw, 2, none⟩ = some (.int .i64 p.epoch) ∧ W'.cell? ⟨rp, 2, none⟩ = some (.int .i64 r.time) := by
 obtain ⟨bp', mb', v', h1, h2, _⟩ := hp
 have hne : ∀ {g : Nat} {q : Per}, W.heap[g]? = some (perO q) → W'.heap[g]? = some (perO q) := fun {g q} hg => (h2.block g (row_lt hg) (fun e => by
  rcases e with e | e
  ·
   exact tags_ne h.mine.row hg (by decide) e.symm
  ·
   obtain ⟨es, c2, hm⟩ := h.mine.book.map
   rw [← e, hg] at hm
   cases hm)).trans hg
 refine ⟨cell_of_row _ _ 1 _ _ _ (hne h.dst), cell_of_row _ _ 2 _ _ _ (hne h.who), ?_⟩
 rw [← serR_time r c]
 exact (rp_cells h1.row).2.2.1
set_option maxRecDepth 100000 in
set_option maxHeartbeats 8000000 in
theorem rpLogin_on (a : Nat → Addr) (rp bp mb : Nat) (v : Value) (r : Rm) (name : ByteArray) (proof : Int) (dst : ByteArray) (w : World) (h : RmAt w rp bp mb v r) (hg : GoodR r) (hE : Env a w) {p s : Per} (hp : getP r.b name = some p) (hn : getP r.b dst = some s) (ho : p.off = false) (ho2 : s.off = false) :
  Calls Tryz.prog 12 #[.pointer (some ⟨rp, 0, none⟩), .string name, .int .i64 proof, .string dst] w fun e w' => e = .returned (.tuple #[.string (r.logS name proof dst), errV a (r.logC name proof dst)]) ∧ PPost w rp bp mb v (r.serR (r.logC name proof dst)) w' := by
 obtain ⟨_, _, _, _, c4, _⟩ := rp_cells h.row
 have hns := name_len (hg.name hp).1
 have hnd := name_len (hg.name hn).1
 have hs1 : name.size ≤ maxLen := name_small (hg.name hp).1
 have hs2 : dst.size ≤ maxLen := name_small (hg.name hn).1
 have HG := hide (get_yes bp mb r.b name w h.book hs1 p hp)
 have HG2 := hide (fun W (hb : Below w.heap.size w W) => get_yes bp mb r.b dst W (h.below hb).book hs2 s hn)
 have HH := hide h
 have HE := hide hE
 have hgt := hg.time
 have hgl := hg.long
 have hds : (Sl.ofL (Lib.decDigits r.time.toNat)).size ≤ 1000 := by
  rw [Sl.ofL_size]
  have := ((Sl.numOk_iff _).1 (dec_nat r.time (by have := hg.time; omega)).1).1
  omega
 have HIt := hide (fun W (hb : Below w.heap.size w W) => itoa_any a r.time W (hE.below hb) hgt.1 (by omega))
 have HRi : Hid (∀ W, Below w.heap.size w W → Calls Tryz.prog 50 #[.int .i64 p.key, .string (prfB name r.time), .int .i64 proof] W fun e w' => e = .returned (errV a (rightE p.key (prf name r.time) proof)) ∧ Below W.heap.size W w') := fun W hb => by
  have := right_any a p.key (prfB name r.time) proof W (hE.below hb).errs (prf_small hns hg.time)
  rw [prf_toList] at this
  exact this
 have htil : min (r.time + r.long) 1000000 = r.til := by unfold Rm.til; split <;> omega
 have HUn := hide (fun W (hm : RmAt W rp bp mb v r) => rpUntil_any rp bp mb v r W hm hg)
 have HIs : Hid (∀ W, RmAt W rp bp mb v r → Below w.heap.size w W → Calls Tryz.prog 52 #[.pointer (some ⟨rp, 0, none⟩), .int .i64 s.key, .agg #[.string name, .string dst, .int .i64 p.epoch, .int .i64 r.time, .int .i64 (min (r.time + r.long) 1000000), .int .i64 r.ser]] W fun e w' => e = .returned (.tuple #[.string (tkMakeS s.key (r.logT name dst)), errV a (tkMakeE s.key (r.logT name dst))]) ∧ PPost W rp bp mb v (r.serR (tkMakeE s.key (r.logT name dst))) w') := fun W hm hb => by
  have := issue_any a rp bp mb v r s.key (r.logT name dst) W hm (hE.below hb) hg.ser hs1 hs2
  unfold Rm.logT at this ⊢
  rw [htil, ← show (perOf r.b name).epoch = p.epoch by rw [per_of hp]]
  exact this
 have HBad : Hid (rightE p.key (prf name r.time) proof ≠ 0 → r.logC name proof dst = rightE p.key (prf name r.time) proof) := fun h0 => by
  show r.logC name proof dst = _
  rw [logC_on hp hn (by rw [ho, ho2]; decide), if_neg h0]
 have HLate : Hid (rightE p.key (prf name r.time) proof = 0 → r.time = 1000000 → r.logC name proof dst = 2) := fun h0 h1 => by
  show r.logC name proof dst = _
  rw [logC_on hp hn (by rw [ho, ho2]; decide), if_pos h0, if_pos (Or.inl (by omega))]
 have HMk := hide (fun h0 h1 => log_make hg (proof := proof) hp hn ho ho2 h0 h1)
 unfold prfB at HRi
 have ha1 : ∀ w : World, (Op.stringOp .add name { data := #[32] }).run Tryz.prog w = .ok (.string (name ++ { data := #[32] })) w := fun w => run_string_add_sum w _ _ (by show name.size + 1 ≤ _; omega)
 have ha2 : ∀ w : World, (Op.stringOp .add (name ++ { data := #[32] }) (Sl.ofL (Lib.decDigits r.time.toNat))).run Tryz.prog w = .ok (.string (name ++ { data := #[32] } ++ Sl.ofL (Lib.decDigits r.time.toNat))) w := fun w => run_string_add_sum w _ _ (by rw [ByteArray.size_append]; show name.size + 1 + (Sl.ofL (Lib.decDigits r.time.toNat)).size ≤ _; omega)
 have HLS : Hid (r.logC name proof dst ≠ 0 → r.logS name proof dst = ⟨#[]⟩) := fun h0 => logS_no h0
 clear h hE hn hp hg hns hnd htil hds hs1 hs2
 generalize r.logS name proof dst = ls at *
 generalize r.logC name proof dst = lc at *
 generalize hre : rightE p.key (prf name r.time) proof = re at *
 clear hre
 generalize r.logT name dst = T at *
 generalize Sl.ofL (Lib.decDigits r.time.toNat) = ds at *
 obtain ⟨pn, pk, pe, po⟩ := p
 obtain ⟨sn, sk, se, so⟩ := s
 dsimp only at HG HG2 ho ho2 HRi HIs HMk
 subst ho ho2
 go_enter Tryz.func12, Tryz.ntmps12
 go_wp2_with fail
 refine HG.out.mono ?_
 rintro e w1 ⟨rfl, hb⟩
 have HB1 : Hid (∀ o, Below w.heap.size w (w1.alloc o)) := fun o => hb.alloc hb.size _
 have HZ1 : Hid (w.heap.size ≤ w1.heap.size) := hb.size
 have HW1 : Hid (∀ o, (w1.alloc (.cells o 46)).heap[w1.heap.size]? = some (.cells o 46 (0, 0))) := fun o => heap_alloc_new _ _
 have d4 : ∀ o, (w1.alloc o).cell? ⟨rp, 4, none⟩ = some (.pointer (some ⟨bp, 0, none⟩)) := fun o => (rp_cells (HH.out.below (hb.alloc hb.size o)).row).2.2.2.2.1
 clear hb
 go_wp2_with fail
 refine (HG2.out _ (HB1.out _)).mono ?_
 rintro e w2 ⟨rfl, hb⟩
 have hB2 := (HB1.out _).trans (hb.mono (HB1.out _).size)
 have hr1 := (hb.block _ (row_lt (HW1.out _))).trans (HW1.out _)
 have HZ2 : Hid (w.heap.size ≤ w2.heap.size) := hB2.size
 have HB2 : Hid (∀ o, Below w.heap.size w (w2.alloc o)) := fun o => hB2.alloc hB2.size _
 have x3 := fun o => cell_of_row _ _ 3 _ _ _ (row_past hr1 o)
 have HR1 := hide (fun o => row_past hr1 o)
 have HR2 : Hid (∀ o, (w2.alloc (.cells o 46)).heap[w2.heap.size]? = some (.cells o 46 (0, 0))) := fun o => heap_alloc_new _ _
 clear hb hB2 hr1
 go_upto_region 9 with fail
 obtain ⟨W3, hW3⟩ : ∃ W, w2.alloc (.cells #[.string sn, .int .i64 sk, .int .i64 se, .bool false] 46) = W := ⟨_, rfl⟩
 have HL : Hid (LogAt w W3 rp bp mb w1.heap.size w2.heap.size v r ⟨pn, pk, pe, false⟩ ⟨sn, sk, se, false⟩) := by
  rw [← hW3]
  exact ⟨HH.out.below (HB2.out _), HB2.out _, HR1.out _, HR2.out _, HZ1.out, HZ2.out⟩
 rw [hW3]
 clear hW3 HB1 HZ1 HW1 d4 HZ2 HB2 x3 HR1 HR2
 generalize w1.heap.size = gw at *
 generalize w2.heap.size = gs at *
 have HLd := hide (HL.out.below ((Below.refl _ _).drew))
 have j1 : W3.cell? ⟨gw, 1, none⟩ = some (.int .i64 pk) := cell_of_row _ _ 1 _ _ _ HL.out.who
 have j2 := (rp_cells HL.out.mine.row).2.2.1
 go_cut [13] (fun s13 wc => s13 = errV a re ∧ Hid (LogAt w wc rp bp mb gw gs v r ⟨pn, pk, pe, false⟩ ⟨sn, sk, se, false⟩))
 case first =>
  go_region_held3 (fun w' => w'.cell? ⟨gw, 1, none⟩ = some (.int .i64 pk) ∧ w'.cell? ⟨rp, 2, none⟩ = some (.int .i64 r.time)) (first | go_keep | assumption)
   (first
    | (go_at_call 51; refine (HIt.out _ HLd.out.past).mono ?_; rintro e w5 ⟨rfl, hb5⟩; have HL5 := hide (HLd.out.below hb5); have k1 : w5.cell? ⟨gw, 1, none⟩ = some (.int .i64 pk) := cell_of_row _ _ 1 _ _ _ HL5.out.who; have k2 := (rp_cells HL5.out.mine.row).2.2.1; clear hb5)
    | (go_at_call 50; refine (HRi.out _ HL5.out.past).mono ?_; rintro e w6 ⟨rfl, hb6⟩; have HL6 := hide (HL5.out.below hb6); have g1 : w6.cell? ⟨gw, 1, none⟩ = some (.int .i64 pk) := cell_of_row _ _ 1 _ _ _ HL6.out.who; have g2 := (rp_cells HL6.out.mine.row).2.2.1; clear hb6))
  all_goals
   go_wp2_with fail
   go_meet
   exact ⟨rfl, HL6⟩
 case rest =>
  obtain ⟨rfl, HL6⟩ := hcut
  clear HL HLd j1 j2 HIt HRi HG2
  have j2 := (rp_cells HL6.out.mine.row).2.2.1
  have hv : wc.cell? ⟨0, 0, none⟩ = some (eV (a 1)) := (HE.out.below HL6.out.past).errs.var 1 (by decide)
  by_cases h0 : re = 0
  ·
   subst h0
   rw [errV_zero]
   by_cases ht : r.time = 1000000
   ·
    have HC := hide (HLate.out rfl ht)
    have HS := hide (HLS.out (by rw [HC.out]; decide))
    have hq : (r.time == 1000000) = true := by simpa using ht
    clear ht HMk HIs HLate HBad HLS
    generalize r.time = tm at *
    go_wp2
    go_quiet (fail)
    go_wp2
    go_ret2
    exact ⟨by rw [HC.out, HS.out]; rfl, by rw [HC.out, serR_no (by decide)]; exact PPost.same HH.out (below_drewN HL6.out.past _)⟩
   ·
    have hq : (r.time == 1000000) = false := by simpa using ht
    obtain ⟨hc, hS⟩ := HMk.out rfl (by omega)
    have HC := hide hc
    have HS := hide hS
    have HLd := hide (HL6.out.below ((Below.refl _ _).drew))
    have j3 := (rp_cells HL6.out.mine.row).2.2.2.1
    have x1 : wc.cell? ⟨gs, 1, none⟩ = some (.int .i64 sk) := cell_of_row _ _ 1 _ _ _ HL6.out.dst
    have x2 : wc.cell? ⟨gw, 2, none⟩ = some (.int .i64 pe) := cell_of_row _ _ 2 _ _ _ HL6.out.who
    clear hc hS ht HMk HLate HBad HLS
    generalize tkMakeS sk T = ts at *
    generalize tkMakeE sk T = te at *
    go_upto_region 14 with fail
    go_cut [8, 9] (fun s8 s9 wd => s8 = .string ts ∧ s9 = errV a te ∧ Hid (PPost w rp bp mb v (r.serR te) wd))
    case first =>
     refine wp_region_noPanic ?_
     refine wp_region_held_drew (S := (fun w' => w'.cell? ⟨gs, 1, none⟩ = some (.int .i64 sk) ∧ w'.cell? ⟨gw, 2, none⟩ = some (.int .i64 pe) ∧ w'.cell? ⟨rp, 2, none⟩ = some (.int .i64 r.time))) (by kernel_rfl) ⟨x1, x2, j2⟩ (fun hHeld => ?_)
     refine takeD (i := 0) (oi := _) (v := ?_) (d := 66) rfl rfl (by kernel_rfl) (by kernel_rfl) (by kernel_rfl) (fun _ _ _ h => h) (Or.inl ⟨by rfl, ?_⟩) (by assumption) ?_
     rotate_left
     ·
      intro w hSw
      (try dsimp only at hSw)
      go_simp
      (try with_reducible rfl)
     simp only [List.setIfInBounds_toArray, List.set_cons_zero, List.set_cons_succ]
     refine takeD (i := 1) (oi := _) (v := ?_) (d := 67) rfl rfl (by kernel_rfl) (by kernel_rfl) (by kernel_rfl) (fun _ _ _ h => h) (Or.inl ⟨by rfl, ?_⟩) (by assumption) ?_
     rotate_left
     ·
      intro w hSw
      (try dsimp only at hSw)
      go_simp
      (try with_reducible rfl)
     simp only [List.setIfInBounds_toArray, List.set_cons_zero, List.set_cons_succ]
     refine takeD (i := 2) (oi := _) (v := ?_) (d := 68) rfl rfl (by kernel_rfl) (by kernel_rfl) (by kernel_rfl) (fun _ _ _ h => h) (Or.inl ⟨by rfl, ?_⟩) (by assumption) ?_
     rotate_left
     ·
      intro w hSw
      (try dsimp only at hSw)
      go_simp
      (try with_reducible rfl)
     simp only [List.setIfInBounds_toArray, List.set_cons_zero, List.set_cons_succ]
     refine takeD (i := 3) (oi := _) (v := ?_) (d := 69) rfl rfl (by kernel_rfl) (by kernel_rfl) (by kernel_rfl) (fun _ _ _ h => h) (Or.inl ⟨by rfl, ?_⟩) (by assumption) ?_
     rotate_left
     ·
      intro w hSw
      (try dsimp only at hSw)
      go_simp
      (try with_reducible rfl)
     simp only [List.setIfInBounds_toArray, List.set_cons_zero, List.set_cons_succ]
     refine takeD (i := 4) (oi := _) (v := ?_) (d := 70) rfl rfl (by kernel_rfl) (by kernel_rfl) (by kernel_rfl) (fun _ _ _ h => h) (Or.inl ⟨by rfl, ?_⟩) (by assumption) ?_
     rotate_left
     ·
      intro w hSw
      (try dsimp only at hSw)
      go_simp
      (try with_reducible rfl)
     simp only [List.setIfInBounds_toArray, List.set_cons_zero, List.set_cons_succ]
     refine takeD (i := 5) (oi := _) (v := ?_) (d := 71) rfl rfl (by kernel_rfl) (by kernel_rfl) (by kernel_rfl) (fun _ _ _ h => h) (Or.inl ⟨by rfl, ?_⟩) (by assumption) ?_
     rotate_left
     ·
      intro w hSw
      (try dsimp only at hSw)
      go_simp
      (try with_reducible rfl)
     simp only [List.setIfInBounds_toArray, List.set_cons_zero, List.set_cons_succ]
     refine takeD (i := 6) (oi := _) (v := ?_) (d := 72) rfl rfl (by kernel_rfl) (by kernel_rfl) (by kernel_rfl) (fun _ _ _ h => h) (Or.inl ⟨by rfl, ?_⟩) (by assumption) ?_
     rotate_left
     ·
      intro w hSw
      (try dsimp only at hSw)
      go_simp
      (try with_reducible rfl)
     simp only [List.setIfInBounds_toArray, List.set_cons_zero, List.set_cons_succ]
     refine takeD (i := 7) (oi := _) (v := ?_) (d := 73) rfl rfl (by kernel_rfl) (by kernel_rfl) (by kernel_rfl) (fun _ _ _ h => h) (Or.inl ⟨by rfl, ?_⟩) (by assumption) ?_
     rotate_left
     ·
      intro w hSw
      (try dsimp only at hSw)
      go_simp
      (try with_reducible rfl)
     simp only [List.setIfInBounds_toArray, List.set_cons_zero, List.set_cons_succ]
     refine takeD (i := 8) (oi := _) (v := ?_) (d := 74) rfl rfl (by kernel_rfl) (by kernel_rfl) (by kernel_rfl) (fun _ _ _ h => h) (Or.inl ⟨by rfl, ?_⟩) (by assumption) ?_
     rotate_left
     ·
      intro w hSw
      (try dsimp only at hSw)
      go_simp
      (try with_reducible rfl)
     simp only [List.setIfInBounds_toArray, List.set_cons_zero, List.set_cons_succ]
     refine takeD (i := 9) (oi := _) (v := ?_) (d := 75) rfl rfl (by kernel_rfl) (by kernel_rfl) (by kernel_rfl) (fun _ _ _ h => h) (Or.inl ⟨by rfl, ?_⟩) (by assumption) ?_
     rotate_left
     ·
      intro w hSw
      (try dsimp only at hSw)
      go_simp
      (try with_reducible rfl)
     simp only [List.setIfInBounds_toArray, List.set_cons_zero, List.set_cons_succ]
     refine takeD (i := 10) (oi := _) (v := ?_) (d := 76) rfl rfl (by kernel_rfl) (by kernel_rfl) (by kernel_rfl) (fun _ _ _ h => h) (Or.inl ⟨by rfl, ?_⟩) (by assumption) ?_
     rotate_left
     ·
      intro w hSw
      (try dsimp only at hSw)
      go_simp
      (try with_reducible rfl)
     simp only [List.setIfInBounds_toArray, List.set_cons_zero, List.set_cons_succ]
     refine takeD (i := 11) (oi := _) (v := ?_) (d := 77) rfl rfl (by kernel_rfl) (by kernel_rfl) (by kernel_rfl) (fun _ _ _ h => h) (Or.inl ⟨by rfl, ?_⟩) (by assumption) ?_
     rotate_left
     ·
      intro w hSw
      (try dsimp only at hSw)
      go_simp
      (try with_reducible rfl)
     simp only [List.setIfInBounds_toArray, List.set_cons_zero, List.set_cons_succ]
     refine takeD (i := 14) (oi := _) (v := ?_) (d := 80) rfl rfl (by kernel_rfl) (by kernel_rfl) (by kernel_rfl) (fun _ _ _ h => h) (Or.inl ⟨by rfl, ?_⟩) (by assumption) ?_
     rotate_left
     ·
      intro w hSw
      (try dsimp only at hSw)
      go_simp
      (try with_reducible rfl)
     simp only [List.setIfInBounds_toArray, List.set_cons_zero, List.set_cons_succ]
     refine takeD (i := 15) (oi := _) (v := ?_) (d := 81) rfl rfl (by kernel_rfl) (by kernel_rfl) (by kernel_rfl) (fun _ _ _ h => h) (Or.inl ⟨by rfl, ?_⟩) (by assumption) ?_
     rotate_left
     ·
      intro w hSw
      (try dsimp only at hSw)
      go_simp
      (try with_reducible rfl)
     simp only [List.setIfInBounds_toArray, List.set_cons_zero, List.set_cons_succ]
     refine takeD (i := 16) (oi := _) (v := ?_) (d := 82) rfl rfl (by kernel_rfl) (by kernel_rfl) (by kernel_rfl) (fun _ _ _ h => h) (Or.inl ⟨by rfl, ?_⟩) (by assumption) ?_
     rotate_left
     ·
      intro w hSw
      (try dsimp only at hSw)
      go_simp
      (try with_reducible rfl)
     simp only [List.setIfInBounds_toArray, List.set_cons_zero, List.set_cons_succ]
     refine wpAnyH_ready (rs := [12, 17]) (by kernel_rfl) (by simp) ?_
     refine AllReadyH.cons (o := _) rfl (fun K hK => ?_) (AllReadyH.cons (o := _) rfl (fun K hK => ?_) AllReadyH.nil)
     ·
      go_simp
      refine (HUn.out _ HLd.out.mine).mono ?_
      rintro e w7 ⟨rfl, hb7⟩
      have HL7 := hide (HLd.out.below hb7)
      have k1 : w7.cell? ⟨gs, 1, none⟩ = some (.int .i64 sk) := cell_of_row _ _ 1 _ _ _ HL7.out.dst
      have k2 : w7.cell? ⟨gw, 2, none⟩ = some (.int .i64 pe) := cell_of_row _ _ 2 _ _ _ HL7.out.who
      have k3 := (rp_cells HL7.out.mine.row).2.2.1
      have k4 := (rp_cells HL7.out.mine.row).2.2.2.1
      clear hb7
      go_wp2_with fail
      refine hK.out _ _ ⟨k1, k2, k3⟩ (fun hHeld => ?_)
      clear hK K
      refine takeD (i := 13) (oi := _) (v := ?_) (d := 79) rfl rfl (by kernel_rfl) (by kernel_rfl) (by kernel_rfl) (fun _ _ _ h => h) (Or.inl ⟨by rfl, ?_⟩) (by assumption) ?_
      rotate_left
      ·
       intro w hSw
       (try dsimp only at hSw)
       go_simp
       (try with_reducible rfl)
      simp only [List.setIfInBounds_toArray, List.set_cons_zero, List.set_cons_succ]
      refine wpAnyH_ready (rs := [17]) (by kernel_rfl) (by simp) ?_
      refine AllReadyH.cons (o := _) rfl (fun K hK => ?_) AllReadyH.nil
      go_simp
      refine hK.out _ _ ⟨k1, k2, k3⟩ (fun hHeld => ?_)
      clear hK K
      refine takeD (i := 18) (oi := _) (v := ?_) (d := 84) rfl rfl (by kernel_rfl) (by kernel_rfl) (by kernel_rfl) (fun _ _ _ h => h) (Or.inl ⟨by rfl, ?_⟩) (by assumption) ?_
      rotate_left
      ·
       intro w hSw
       (try dsimp only at hSw)
       go_simp
       (try with_reducible rfl)
      simp only [List.setIfInBounds_toArray, List.set_cons_zero, List.set_cons_succ]
      refine wpAnyH_ready (rs := [19]) (by kernel_rfl) (by simp) ?_
      refine AllReadyH.cons (o := _) rfl (fun K hK => ?_) AllReadyH.nil
      go_simp
      refine (HIs.out _ HL7.out.mine HL7.out.past).mono ?_
      rintro e w8 ⟨rfl, hp8⟩
      have HP8 : Hid (PPost w rp bp mb v (r.serR te) w8) := PPost.from HL7.out.past hp8
      obtain ⟨g1, g2, g3⟩ := issue_after HL7.out hp8
      clear hp8
      go_wp2_with fail
      refine hK.out _ _ ⟨g1, g2, g3⟩ (fun hHeld => ?_)
      clear hK K
      refine takeD (i := 20) (oi := _) (v := ?_) (d := 86) rfl rfl (by kernel_rfl) (by kernel_rfl) (by kernel_rfl) (fun _ _ _ h => h) (Or.inl ⟨by rfl, ?_⟩) (by assumption) ?_
      rotate_left
      ·
       intro w hSw
       (try dsimp only at hSw)
       go_simp
       (try with_reducible rfl)
      simp only [List.setIfInBounds_toArray, List.set_cons_zero, List.set_cons_succ]
      refine takeD (i := 21) (oi := _) (v := ?_) (d := 87) rfl rfl (by kernel_rfl) (by kernel_rfl) (by kernel_rfl) (fun _ _ _ h => h) (Or.inl ⟨by rfl, ?_⟩) (by assumption) ?_
      rotate_left
      ·
       intro w hSw
       (try dsimp only at hSw)
       go_simp
       (try with_reducible rfl)
      simp only [List.setIfInBounds_toArray, List.set_cons_zero, List.set_cons_succ]
      refine takeD (i := 22) (oi := _) (v := ?_) (d := 8) rfl rfl (by kernel_rfl) (by kernel_rfl) (by kernel_rfl) (fun _ _ _ h => h) (Or.inl ⟨by rfl, ?_⟩) (by assumption) ?_
      rotate_left
      ·
       intro w hSw
       (try dsimp only at hSw)
       go_simp
       (try with_reducible rfl)
      simp only [List.setIfInBounds_toArray, List.set_cons_zero, List.set_cons_succ]
      refine takeD (i := 23) (oi := _) (v := ?_) (d := 9) rfl rfl (by kernel_rfl) (by kernel_rfl) (by kernel_rfl) (fun _ _ _ h => h) (Or.inl ⟨by rfl, ?_⟩) (by assumption) ?_
      rotate_left
      ·
       intro w hSw
       (try dsimp only at hSw)
       go_simp
       (try with_reducible rfl)
      simp only [List.setIfInBounds_toArray, List.set_cons_zero, List.set_cons_succ]
      refine wpAnyH_done (by kernel_rfl) ?_ _
      refine NoPanic.normal ?_
      go_wp2_with fail
      go_meet
      exact ⟨rfl, rfl, HP8⟩
     ·
      go_simp
      refine hK.out _ _ hHeld (fun hHeld => ?_)
      clear hK K
      refine wpAnyH_ready (rs := [12]) (by kernel_rfl) (by simp) ?_
      refine AllReadyH.cons (o := _) rfl (fun K hK => ?_) AllReadyH.nil
      go_simp
      refine (HUn.out _ HLd.out.mine).mono ?_
      rintro e w7 ⟨rfl, hb7⟩
      have HL7 := hide (HLd.out.below hb7)
      have k1 : w7.cell? ⟨gs, 1, none⟩ = some (.int .i64 sk) := cell_of_row _ _ 1 _ _ _ HL7.out.dst
      have k2 : w7.cell? ⟨gw, 2, none⟩ = some (.int .i64 pe) := cell_of_row _ _ 2 _ _ _ HL7.out.who
      have k3 := (rp_cells HL7.out.mine.row).2.2.1
      have k4 := (rp_cells HL7.out.mine.row).2.2.2.1
      clear hb7
      go_wp2_with fail
      refine hK.out _ _ ⟨k1, k2, k3⟩ (fun hHeld => ?_)
      clear hK K
      refine takeD (i := 13) (oi := _) (v := ?_) (d := 79) rfl rfl (by kernel_rfl) (by kernel_rfl) (by kernel_rfl) (fun _ _ _ h => h) (Or.inl ⟨by rfl, ?_⟩) (by assumption) ?_
      rotate_left
      ·
       intro w hSw
       (try dsimp only at hSw)
       go_simp
       (try with_reducible rfl)
      simp only [List.setIfInBounds_toArray, List.set_cons_zero, List.set_cons_succ]
      refine takeD (i := 18) (oi := _) (v := ?_) (d := 84) rfl rfl (by kernel_rfl) (by kernel_rfl) (by kernel_rfl) (fun _ _ _ h => h) (Or.inl ⟨by rfl, ?_⟩) (by assumption) ?_
      rotate_left
      ·
       intro w hSw
       (try dsimp only at hSw)
       go_simp
       (try with_reducible rfl)
      simp only [List.setIfInBounds_toArray, List.set_cons_zero, List.set_cons_succ]
      refine wpAnyH_ready (rs := [19]) (by kernel_rfl) (by simp) ?_
      refine AllReadyH.cons (o := _) rfl (fun K hK => ?_) AllReadyH.nil
      go_simp
      refine (HIs.out _ HL7.out.mine HL7.out.past).mono ?_
      rintro e w8 ⟨rfl, hp8⟩
      have HP8 : Hid (PPost w rp bp mb v (r.serR te) w8) := PPost.from HL7.out.past hp8
      obtain ⟨g1, g2, g3⟩ := issue_after HL7.out hp8
      clear hp8
      go_wp2_with fail
      refine hK.out _ _ ⟨g1, g2, g3⟩ (fun hHeld => ?_)
      clear hK K
      refine takeD (i := 20) (oi := _) (v := ?_) (d := 86) rfl rfl (by kernel_rfl) (by kernel_rfl) (by kernel_rfl) (fun _ _ _ h => h) (Or.inl ⟨by rfl, ?_⟩) (by assumption) ?_
      rotate_left
      ·
       intro w hSw
       (try dsimp only at hSw)
       go_simp
       (try with_reducible rfl)
      simp only [List.setIfInBounds_toArray, List.set_cons_zero, List.set_cons_succ]
      refine takeD (i := 21) (oi := _) (v := ?_) (d := 87) rfl rfl (by kernel_rfl) (by kernel_rfl) (by kernel_rfl) (fun _ _ _ h => h) (Or.inl ⟨by rfl, ?_⟩) (by assumption) ?_
      rotate_left
      ·
       intro w hSw
       (try dsimp only at hSw)
       go_simp
       (try with_reducible rfl)
      simp only [List.setIfInBounds_toArray, List.set_cons_zero, List.set_cons_succ]
      refine takeD (i := 22) (oi := _) (v := ?_) (d := 8) rfl rfl (by kernel_rfl) (by kernel_rfl) (by kernel_rfl) (fun _ _ _ h => h) (Or.inl ⟨by rfl, ?_⟩) (by assumption) ?_
      rotate_left
      ·
       intro w hSw
       (try dsimp only at hSw)
       go_simp
       (try with_reducible rfl)
      simp only [List.setIfInBounds_toArray, List.set_cons_zero, List.set_cons_succ]
      refine takeD (i := 23) (oi := _) (v := ?_) (d := 9) rfl rfl (by kernel_rfl) (by kernel_rfl) (by kernel_rfl) (fun _ _ _ h => h) (Or.inl ⟨by rfl, ?_⟩) (by assumption) ?_
      rotate_left
      ·
       intro w hSw
       (try dsimp only at hSw)
       go_simp
       (try with_reducible rfl)
      simp only [List.setIfInBounds_toArray, List.set_cons_zero, List.set_cons_succ]
      refine wpAnyH_done (by kernel_rfl) ?_ _
      refine NoPanic.normal ?_
      go_wp2_with fail
      go_meet
      exact ⟨rfl, rfl, HP8⟩
    case rest =>
     obtain ⟨rfl, rfl, HP8⟩ := hcut
     go_wp2
     go_ret2
     exact ⟨by rw [HC.out, HS.out]; rfl, by rw [HC.out]; exact HP8.out⟩
  ·
   have HC := hide (HBad.out h0)
   have HS := hide (HLS.out (by rw [HC.out]; exact h0))
   have HN := hide h0
   have HEq := hide (errV_pos a h0)
   rw [HEq.out]
   clear h0 HMk HIs HLate HBad HLS
   generalize a (re - 1) = ad at *
   go_wp2
   go_ret2
   exact ⟨by rw [HC.out, HS.out, HEq.out]; rfl, by rw [HC.out, serR_no HN.out]; exact PPost.same HH.out HL6.out.past⟩
theorem rpLogin_any (a : Nat → Addr) (rp bp mb : Nat) (v : Value) (r : Rm) (name : ByteArray) (proof : Int) (dst : ByteArray) (w : World) (h : RmAt w rp bp mb v r) (hg : GoodR r) (hE : Env a w) (hs : name.size ≤ maxLen) (hs2 : dst.size ≤ maxLen) :
  Calls Tryz.prog 12 #[.pointer (some ⟨rp, 0, none⟩), .string name, .int .i64 proof, .string dst] w fun e w' => e = .returned (.tuple #[.string (r.logS name proof dst), errV a (r.logC name proof dst)]) ∧ PPost w rp bp mb v (r.serR (r.logC name proof dst)) w' := by
 have fin : ∀ (c : Nat) (hc : c ≠ 0) (hl : r.logC name proof dst = c) (e : Ending) (w' : World), (e = .returned (.tuple #[.string ⟨#[]⟩, eV (a (c - 1))]) ∧ Below w.heap.size w w') → e = .returned (.tuple #[.string (r.logS name proof dst), errV a (r.logC name proof dst)]) ∧ PPost w rp bp mb v (r.serR (r.logC name proof dst)) w' := fun c hc hl e w' ⟨h1, h2⟩ => by
  rw [logS_no (by rw [hl]; exact hc), hl, errV_pos a hc, serR_no hc]
  exact ⟨h1, PPost.same h h2⟩
 cases hp : getP r.b name with
 | none => exact (rpLogin_none a rp bp mb v r name proof dst w h hE.errs hs hp).mono (fin 5 (by decide) (logC_none (Or.inl hp)))
 | some p =>
  cases hn : getP r.b dst with
  | none => exact (rpLogin_dst a rp bp mb v r name proof dst w h hE.errs hs hs2 hp hn).mono (fin 5 (by decide) (logC_none (Or.inr hn)))
  | some s =>
   by_cases ho : p.off = true ∨ s.off = true
   ·
    exact (rpLogin_off a rp bp mb v r name proof dst w h hE.errs hs hs2 hp hn ho).mono (fin 16 (by decide) (logC_off hp hn ho))
   ·
    exact rpLogin_on a rp bp mb v r name proof dst w h hg hE hp hn (by simpa using fun e => ho (Or.inl e)) (by simpa using fun e => ho (Or.inr e))
end Go.Proofs.YtabpnjchocgakaaGreatDoor

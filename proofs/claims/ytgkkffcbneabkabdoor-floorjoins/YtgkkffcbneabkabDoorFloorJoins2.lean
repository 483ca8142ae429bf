/-
  FloorJoins' law, at lists that are right and short: every call answers as it should; with the early ends, the law whole.
-/
import Derived.Test.YtgkkffcbneabkabDoorFloorJoins
namespace Go.Proofs.YtgkkffcbneabkabDoor
open Go.RowKit Go.Extern.Stop Go.Stop Go.Extern Go.Proofs

/-- Of a join that is no error. -/
theorem joined_plain {la lb : List Fl} (ha : RightF la) (hb : RightF lb) (na : la.length ≤ 21) (nb : lb.length ≤ 21) (n : List UInt8) (ep : Int) (h : (joinC la lb).1 = 0) :
    RightF (joinR la lb) ∧ (joinR la lb).length ≤ 21 ∧ joinL (joinR la lb) lb = joinR la lb ∧ decide (ofL (joinR la lb) n ≤ ep) = (decide (ofL la n ≤ ep) && decide (ofL lb n ≤ ep)) := by
  obtain ⟨h1, h2⟩ := joinC_len ha hb na nb h
  rw [h2]
  refine ⟨right_join ha hb, h1, join_again ha hb, ?_⟩
  rw [of_join ha hb, ← Bool.decide_and]
  refine decide_eq_decide.2 ?_
  omega
/-- Of a floor that is raised. -/
theorem raised_plain {l : List Fl} {f : Fl} (n : List UInt8) (h : (raiseC l f).1 = 0) :
    RightF (raiseR l f) ∧ (raiseR l f).length ≤ 21 ∧ ofL l n ≤ ofL (raiseR l f) n ∧ f.ep ≤ ofL (raiseR l f) f.nm ∧ RightF [f] ∧ joinL l [f] = raiseR l f := by
  obtain ⟨h1, h2, h3, _, h5, h6⟩ := raiseC_zero h
  rw [h6]
  refine ⟨h3, h5, ?_, ?_, right_one h2, rfl⟩
  · rw [of_raised h1 h2]; exact up_le f n _
  · rw [of_raised h1 h2]
    unfold upF
    rw [if_pos (Or.inr rfl)]
    omega
theorem flAt_one (w : World) (f : Fl) : FlAt (w.alloc (.cells #[.string f.who, .int .i64 f.ep] 56)) (.slice (some ⟨w.heap.size, 0, none⟩) 1 1) [f] :=
  Or.inr ⟨w.heap.size, 0, 1, rfl, Nat.le_refl _, fun j u hu => by
    rw [Nat.zero_add]
    have hu' : ([.string f.who, .int .i64 f.ep] : List Value)[j]? = some u := by simpa [cellsF, Fl.cells] using hu
    rw [cell_of_row (w.alloc (.cells #[.string f.who, .int .i64 f.ep] 56)) _ j _ _ _ (heap_alloc_new _ _)]
    simpa using hu'⟩

set_option maxRecDepth 100000 in
set_option maxHeartbeats 16000000 in
theorem joins_main (a : Nat → Addr) (va vb : Value) (la lb : List Fl) (f : Fl) (name : ByteArray) (epoch : Int) (w : World) (h : EV flR a w) (ht : Tab10 w) (hva : FlAt w va la) (hvb : FlAt w vb lb)
    (hla : longF la = false) (hlb : longF lb = false) (hf20 : ¬ 20 < f.who.size) (hn20 : ¬ 20 < name.size) (hca : (checkL la).1 = 0) (hcb : (checkL lb).1 = 0) :
    Calls Tryd.prog 4 #[va, vb, f.val, .string name, .int .i64 epoch] w fun e w' => e = .returned (.bool true) ∧ Below w.heap.size w w' := by
  have HJ0 := hide (JAt.start f.who f.ep h ht hva hvb)
  have HFl := hide (fun w h => floored_any a w h)
  have HLa := hide (fun w h => longFloors_any va la w h)
  have HLb := hide (fun w h => longFloors_any vb lb w h)
  rw [if_neg (by rw [hla]; decide)] at HLa
  rw [if_neg (by rw [hlb]; decide)] at HLb
  obtain ⟨ha, na⟩ := right_of_check hca
  obtain ⟨hb, nb⟩ := right_of_check hcb
  have HCa := hide (fun w h hv => check_ok a va la w h hv ha na)
  have HCb := hide (fun w h hv => check_ok a vb lb w h hv hb nb)
  have HTx := hide (fun w h ht hv => text_ok a va la w h ht hv ha na)
  have HRd := hide (fun w h => read_ok a la w h ha na)
  have HOw := hide (fun w h => ownFloors_any va la w h (by omega))
  have HSe := hide (fun vo w h hv ho => join_ok a va vo la la la w h hv ho ha ha na na (join_self ha) na)
  have HSa := hide (fun v1 w h1 h2 => sameFloors_eq v1 va la w h1 h2 (by omega))
  have HAB := hide (fun w h h1 h2 => join_any a va vb la lb w h h1 h2 (small_right ha) (small_right hb) (by omega) (by omega))
  have HBA := hide (fun w h h1 h2 => join_any a vb va lb la w h h1 h2 (small_right hb) (small_right ha) (by omega) (by omega))
  rw [(joinC_comm ha hb na nb).1, (joinC_comm ha hb na nb).2] at HBA
  have HLx : Hid ((joinR la lb).length ≤ 1000000) := by
    show _ ≤ _
    unfold joinR
    split
    · have := len_fold lb la; unfold joinL; omega
    · simp
  have HSx := hide (fun v1 v2 w h1 h2 => sameFloors_eq v1 v2 (joinR la lb) w h1 h2 HLx.out)
  have HJp : Hid ((joinC la lb).1 = 0 → RightF (joinR la lb) ∧ (joinR la lb).length ≤ 21 ∧ joinL (joinR la lb) lb = joinR la lb ∧ decide (ofL (joinR la lb) name.data.toList ≤ epoch) = (decide (ofL la name.data.toList ≤ epoch) && decide (ofL lb name.data.toList ≤ epoch))) := fun h => joined_plain ha hb na nb _ _ h
  have HPa := hide (fun w h => passes_any va la name epoch w h ha.rising (by omega))
  have HPb := hide (fun w h => passes_any vb lb name epoch w h hb.rising (by omega))
  have HAg : Hid ((joinC la lb).1 = 0 → ∀ vx w h h1 h2, Calls Tryd.prog 30 #[vx, vb] w (GivesL (joinR la lb) w)) := fun h0 vx w h h1 h2 => join_ok a vx vb (joinR la lb) lb (joinR la lb) w h h1 h2 (HJp.out h0).1 hb (HJp.out h0).2.1 nb (HJp.out h0).2.2.1 (HJp.out h0).2.1
  have HCx : Hid ((joinC la lb).1 = 0 → ∀ vx w h h1, Calls Tryd.prog 27 #[vx] w fun e w' => e = .returned .nilIface ∧ Below w.heap.size w w') := fun h0 vx w h h1 => check_ok a vx (joinR la lb) w h h1 (HJp.out h0).1 (HJp.out h0).2.1
  have HPx : Hid ((joinC la lb).1 = 0 → ∀ vx w (h1 : FlAt w vx (joinR la lb)), Calls Tryd.prog 33 #[vx, .string name, .int .i64 epoch] w fun e w' => e = .returned (.bool (decide (ofL la name.data.toList ≤ epoch) && decide (ofL lb name.data.toList ≤ epoch))) ∧ Below w.heap.size w w') := fun h0 vx w h1 => by
    rw [← (HJp.out h0).2.2.2]
    exact passes_any vx (joinR la lb) name epoch w h1 (HJp.out h0).1.rising HLx.out
  have hfm : f.who.size ≤ maxLen := by unfold maxLen; omega
  have HRa := hide (fun w h h1 => raise_any a va la f w h h1 (small_right ha) hfm (by omega))
  have HRp : Hid ((raiseC la f).1 = 0 → RightF (raiseR la f) ∧ (raiseR la f).length ≤ 21 ∧ ofL la name.data.toList ≤ ofL (raiseR la f) name.data.toList ∧ f.ep ≤ ofL (raiseR la f) f.nm ∧ RightF [f] ∧ joinL la [f] = raiseR la f) := fun h => raised_plain _ h
  have HCz : Hid ((raiseC la f).1 = 0 → ∀ vz w h h1, Calls Tryd.prog 27 #[vz] w fun e w' => e = .returned .nilIface ∧ Below w.heap.size w w') := fun h0 vz w h h1 => check_ok a vz (raiseR la f) w h h1 (HRp.out h0).1 (HRp.out h0).2.1
  have HOz : Hid ((raiseC la f).1 = 0 → ∀ vz w (h1 : FlAt w vz (raiseR la f)), Calls Tryd.prog 35 #[vz, .string name] w fun e w' => e = .returned (.int .i64 (ofL (raiseR la f) name.data.toList)) ∧ Below w.heap.size w w') := fun h0 vz w h1 => floorOf_any vz (raiseR la f) name w h1 (HRp.out h0).1.rising (by have := (HRp.out h0).2.1; omega)
  have HOf : Hid ((raiseC la f).1 = 0 → ∀ vz w (h1 : FlAt w vz (raiseR la f)), Calls Tryd.prog 35 #[vz, .string f.who] w fun e w' => e = .returned (.int .i64 (ofL (raiseR la f) f.nm)) ∧ Below w.heap.size w w') := fun h0 vz w h1 => floorOf_any vz (raiseR la f) f.who w h1 (HRp.out h0).1.rising (by have := (HRp.out h0).2.1; omega)
  have HOa := hide (fun w h => floorOf_any va la name w h ha.rising (by omega))
  have HJf : Hid ((raiseC la f).1 = 0 → ∀ (w : World) (h : EV flS a (w.alloc (.cells #[.string f.who, .int .i64 f.ep] 56))) (h1 : FlAt (w.alloc (.cells #[.string f.who, .int .i64 f.ep] 56)) va la), Calls Tryd.prog 30 #[va, .slice (some ⟨w.heap.size, 0, none⟩) 1 1] (w.alloc (.cells #[.string f.who, .int .i64 f.ep] 56)) (GivesL (raiseR la f) (w.alloc (.cells #[.string f.who, .int .i64 f.ep] 56)))) := fun h0 w h h1 =>
    join_ok a va _ la [f] (raiseR la f) _ h h1 (flAt_one w f) ha (HRp.out h0).2.2.2.2.1 na (by simp) (HRp.out h0).2.2.2.2.2 (HRp.out h0).2.1
  have HSz : Hid ((raiseC la f).1 = 0 → ∀ v1 v2 w h1 h2, Calls Tryd.prog 32 #[v1, v2] w fun e w' => e = .returned (.bool true) ∧ Below w.heap.size w w') := fun h0 v1 v2 w h1 h2 => sameFloors_eq v1 v2 (raiseR la f) w h1 h2 (by have := (HRp.out h0).2.1; omega)
  have HRl : Hid ((raiseC la f).1 = 0 → ofL la name.data.toList ≤ ofL (raiseR la f) name.data.toList ∧ f.ep ≤ ofL (raiseR la f) f.nm) := fun h0 => ⟨(HRp.out h0).2.2.1, (HRp.out h0).2.2.2.1⟩
  unfold Fl.val at HRa ⊢
  have h1z : ¬ (20 : Int) < (f.who.size : Int) := by omega
  have h2z : ¬ (20 : Int) < (name.size : Int) := by omega
  clear h ht hva hvb hla hlb hca hcb hf20 hn20 ha na hb nb HJp HRp HLx hfm
  generalize raiseC la f = cz at *
  generalize joinC la lb = c at *
  generalize joinR la lb = x at *
  generalize ofL (raiseR la f) name.data.toList = oz at *
  generalize ofL (raiseR la f) f.nm = of at *
  generalize raiseR la f = z at *
  generalize ofL la name.data.toList = oa at *
  generalize decide (ofL lb name.data.toList ≤ epoch) = pb at *
  generalize decide (oa ≤ epoch) = pa at *
  generalize txt (textL la) = tx at *
  generalize f.who = fw at *
  generalize f.ep = fe at *
  go_enter Tryd.func4, Tryd.ntmps4
  go_wp2_with fail
  refine (HFl.out _ HJ0.out.evs).mono ?_
  rintro e w1 ⟨rfl, hb⟩
  have HJ1 := hide (HJ0.out.next hb)
  have hc0 := HJ1.out.c0
  clear hb HJ0 HFl
  go_wp2_with fail
  refine (HLa.out _ HJ1.out.fa).mono ?_
  rintro e w2 ⟨rfl, rfl⟩
  go_wp2_with fail
  refine (HLb.out _ HJ1.out.fb).mono ?_
  rintro e w3 ⟨rfl, rfl⟩
  clear HLa HLb
  go_wp2_with fail
  refine (HCa.out _ HJ1.out.evs HJ1.out.fa).mono ?_
  rintro e w4 ⟨rfl, hb⟩
  have HJ4 := hide (HJ1.out.next hb)
  clear hb hc0 HJ1 HCa
  go_wp2_with fail
  refine (HCb.out _ HJ4.out.evs HJ4.out.fb).mono ?_
  rintro e w5 ⟨rfl, hb⟩
  have HJ5 := hide (HJ4.out.next hb)
  clear hb HJ4 HCb
  -- Text, Read, Join with itself
  go_wp2_with fail
  refine (HTx.out _ HJ5.out.evs HJ5.out.tab HJ5.out.fa).mono ?_
  rintro e w6 ⟨rfl, hb⟩
  have HJ6 := hide (HJ5.out.next hb)
  clear hb HJ5 HTx
  go_wp2_with fail
  refine (HRd.out _ HJ6.out.ev).mono ?_
  rintro e w7 ⟨⟨vt, rfl, ho⟩, hb⟩
  have HJ7 := hide (HJ6.out.next hb)
  have HT7 := hide ho.flAt
  clear hb ho HJ6 HRd
  go_wp2_with fail
  refine (HOw.out _ HJ7.out.fa).mono ?_
  rintro e w8 ⟨vo, rfl, ho, hb⟩
  have HJ8 := hide (HJ7.out.next hb)
  have HT8 := hide (HT7.out.below hb)
  have HO8 := hide ho.flAt
  clear hb ho HJ7 HT7 HOw
  go_wp2_with fail
  refine (HSe.out _ _ HJ8.out.evs HJ8.out.fa HO8.out).mono ?_
  rintro e w9 ⟨⟨vs, rfl, ho⟩, hb⟩
  have HJ9 := hide (HJ8.out.next hb)
  have HT9 := hide (HT8.out.below hb)
  have HS9 := hide ho.flAt
  clear hb ho HJ8 HT8 HO8 HSe
  go_wp2_with fail
  refine (HSa.out _ _ HT9.out HJ9.out.fa).mono ?_
  rintro e w10 ⟨rfl, hb⟩
  have HJ10 := hide (HJ9.out.next hb)
  have HS10 := hide (HS9.out.below hb)
  clear hb HJ9 HT9 HS9
  go_wp2_with fail
  refine (HSa.out _ _ HS10.out HJ10.out.fa).mono ?_
  rintro e w11 ⟨rfl, hb⟩
  have HJ11 := hide (HJ10.out.next hb)
  clear hb HJ10 HS10 HSa
  -- the two joins
  go_wp2_with fail
  refine (HAB.out _ HJ11.out.evs HJ11.out.fa HJ11.out.fb).mono ?_
  rintro e w12 ⟨⟨vx, ex, rfl, hown, herr, hnil⟩, hb⟩
  have HJ12 := hide (HJ11.out.next hb)
  have HX12 := hide hown.flAt
  have HE12 := hide herr
  clear hb hown herr hnil HJ11 HAB
  go_wp2_with fail
  refine (HBA.out _ HJ12.out.evs HJ12.out.fb HJ12.out.fa).mono ?_
  rintro e w13 ⟨⟨vy, ey, rfl, hown, herr, hnil⟩, hb⟩
  have HJ13 := hide (HJ12.out.next hb)
  have HX13 := hide (HX12.out.below hb)
  have HY13 := hide hown.flAt
  have HE13 := hide herr
  clear hb hown herr hnil HJ12 HX12 HBA
  rcases HE12.out.cases with ⟨hz, rfl⟩ | ⟨hz, t1, p1, rfl⟩
  · -- joined
    obtain rfl := HE13.out.none hz
    have HAg2 := hide (HAg.out hz)
    have HCx2 := hide (HCx.out hz)
    have HPx2 := hide (HPx.out hz)
    clear HAg HCx HPx HE12 HE13 hz
    have hc0 := HJ13.out.c0
    have HB13 : Hid (Below w13.heap.size w13 w13.drew) := (Below.refl _ _).drew
    go_wp2_with fail
    go_region_held (fun w' => w'.cell? ⟨w.heap.size, 0, none⟩ = some (.string fw)) (go_keep)
      (first | (go_at_call 32; refine (HSx.out _ _ w13.drew (HX13.out.below HB13.out) (HY13.out.below HB13.out)).mono ?_; rintro e w14 ⟨rfl, hb⟩; have HJ14 := hide ((HJ13.out.next HB13.out).next hb); have HX14 := hide ((HX13.out.below HB13.out).below hb); have hc1 := HJ14.out.c0; clear hb))
    clear hc0 hc1 HJ13 HX13 HY13 HB13
    go_wp2_with fail
    refine (HPa.out _ HJ14.out.fa).mono ?_
    rintro e w15 ⟨rfl, hb⟩
    have HJ15 := hide (HJ14.out.next hb)
    have HX15 := hide (HX14.out.below hb)
    clear hb HJ14 HX14 HPa
    cases pa with
    | false =>
      have HJ16 := HJ15
      have HX16 := HX15
      clear HJ15 HX15 HPb
      go_wp2_with fail
      refine (HAg2.out _ _ HJ16.out.evs HX16.out HJ16.out.fb).mono ?_
      rintro e w17 ⟨⟨vg, rfl, ho⟩, hb⟩
      have HJ17 := hide (HJ16.out.next hb)
      have HX17 := hide (HX16.out.below hb)
      have HG17 := hide ho.flAt
      clear hb ho HJ16 HX16 HAg2
      go_wp2_with fail
      refine (HCx2.out _ _ HJ17.out.evs HX17.out).mono ?_
      rintro e w18 ⟨rfl, hb⟩
      have HJ18 := hide (HJ17.out.next hb)
      have HX18 := hide (HX17.out.below hb)
      have HG18 := hide (HG17.out.below hb)
      clear hb HJ17 HX17 HG17 HCx2
      go_wp2_with fail
      refine (HPx2.out _ _ HX18.out).mono ?_
      rintro e w19 ⟨rfl, hb⟩
      have HJ19 := hide (HJ18.out.next hb)
      have HX19 := hide (HX18.out.below hb)
      have HG19 := hide (HG18.out.below hb)
      clear hb HJ18 HX18 HG18 HPx2
      go_wp2_with fail
      refine (HSx.out _ _ _ HG19.out HX19.out).mono ?_
      rintro e w20 ⟨rfl, hb⟩
      have HJ18 := hide (HJ19.out.next hb)
      have hd0 := HJ18.out.c0
      have hd1 := HJ18.out.c1
      clear hb HJ19 HX19 HG19 HSx
      go_wp2_with fail
      refine (HRa.out _ HJ18.out.evs HJ18.out.fa).mono ?_
      rintro e w21 ⟨⟨vz, ez, rfl, hown, herr, hnil⟩, hb⟩
      have HJ21 := hide (HJ18.out.next hb)
      have HZ21 := hide hown.flAt
      clear hd0 hd1 HJ18 HRa
      rcases herr.cases with ⟨hz, rfl⟩ | ⟨hz, t3, p3, rfl⟩
      rotate_left
      · obtain rfl := hnil hz
        clear hb hown herr hnil
        go_wp2
        go_ret
        exact ⟨rfl, HJ21.out.below⟩
      clear hb hown herr hnil
      obtain ⟨hl1, hl2⟩ := HRl.out hz
      have hl1n : decide (oz < oa) = false := decide_eq_false (by omega)
      have hl2n : decide (of < fe) = false := decide_eq_false (by omega)
      have HCz2 := hide (HCz.out hz)
      have HOz2 := hide (HOz.out hz)
      have HOf2 := hide (HOf.out hz)
      have HJf2 := hide (HJf.out hz)
      have HSz2 := hide (HSz.out hz)
      have HB21 : Hid (Below w21.heap.size w21 w21.drew) := (Below.refl _ _).drew
      have hd0 := HJ21.out.c0
      have hd1 := HJ21.out.c1
      clear HCz HOz HOf HJf HSz HRl hl1 hl2 hz
      go_wp2_with fail
      go_region_held (fun w' => w'.cell? ⟨w.heap.size, 0, none⟩ = some (.string fw) ∧ w'.cell? ⟨w.heap.size, 1, none⟩ = some (.int .i64 fe)) (go_keep)
        (first
          | (go_at_call 27; refine (HCz2.out _ w21.drew (HJ21.out.next HB21.out).evs (HZ21.out.below HB21.out)).mono ?_; rintro e w22 ⟨rfl, hb⟩; have HJ22 := hide ((HJ21.out.next HB21.out).next hb); have HZ22 := hide ((HZ21.out.below HB21.out).below hb); have i0 := HJ22.out.c0; have i1 := HJ22.out.c1; clear hb HCz2)
          | (go_at_call 35; refine (HOz2.out _ w22 HZ22.out).mono ?_; rintro e w23 ⟨rfl, hb⟩; have HJ23 := hide (HJ22.out.next hb); have HZ23 := hide (HZ22.out.below hb); have j0 := HJ23.out.c0; have j1 := HJ23.out.c1; clear hb HOz2)
          | (go_at_call 35; refine (HOa.out w23 HJ23.out.fa).mono ?_; rintro e w24 ⟨rfl, hb⟩; have HJ24 := hide (HJ23.out.next hb); have HZ24 := hide (HZ23.out.below hb); have k0 := HJ24.out.c0; have k1 := HJ24.out.c1; clear hb HOa)
          | (go_at_call 35; refine (HOf2.out _ w24 HZ24.out).mono ?_; rintro e w25 ⟨rfl, hb⟩; have HJ25 := hide (HJ24.out.next hb); have HZ25 := hide (HZ24.out.below hb); have l0 := HJ25.out.c0; have l1 := HJ25.out.c1; clear hb HOf2))
      clear hd0 hd1 i0 i1 j0 j1 k0 k1 HJ21 HJ22 HJ23 HJ24 HZ21 HZ22 HZ23 HZ24 HB21
      have hq0 := HJ25.out.c0
      have hq1 := HJ25.out.c1
      have HBa : Hid (Below w25.heap.size w25 (w25.alloc (.cells #[.string fw, .int .i64 fe] 56))) := (Below.refl _ _).alloc (Nat.le_refl _) _
      go_wp2_with fail
      refine (HJf2.out w25 (HJ25.out.next HBa.out).evs (HJ25.out.next HBa.out).fa).mono ?_
      rintro e w26 ⟨⟨v1, rfl, ho⟩, hb⟩
      have HJ26 := hide ((HJ25.out.next HBa.out).next hb)
      have HZ26 := hide ((HZ25.out.below HBa.out).below hb)
      have HO26 := hide ho.flAt
      clear hb ho hq0 hq1 l0 l1 HJ25 HZ25 HBa HJf2
      go_wp2_with fail
      refine (HSz2.out _ _ _ HO26.out HZ26.out).mono ?_
      rintro e w27 ⟨rfl, hb⟩
      have HJ27 := hide (HJ26.out.next hb)
      clear hb HJ26 HZ26 HO26 HSz2
      go_wp2
      go_ret
      exact ⟨rfl, HJ27.out.below⟩
    | true =>
      cases pb with
      | false =>
        go_wp2_with fail
        refine (HPb.out _ HJ15.out.fb).mono ?_
        rintro e w16 ⟨rfl, hb⟩
        have HJ16 := hide (HJ15.out.next hb)
        have HX16 := hide (HX15.out.below hb)
        clear hb HJ15 HX15 HPb
        go_wp2_with fail
        refine (HAg2.out _ _ HJ16.out.evs HX16.out HJ16.out.fb).mono ?_
        rintro e w17 ⟨⟨vg, rfl, ho⟩, hb⟩
        have HJ17 := hide (HJ16.out.next hb)
        have HX17 := hide (HX16.out.below hb)
        have HG17 := hide ho.flAt
        clear hb ho HJ16 HX16 HAg2
        go_wp2_with fail
        refine (HCx2.out _ _ HJ17.out.evs HX17.out).mono ?_
        rintro e w18 ⟨rfl, hb⟩
        have HJ18 := hide (HJ17.out.next hb)
        have HX18 := hide (HX17.out.below hb)
        have HG18 := hide (HG17.out.below hb)
        clear hb HJ17 HX17 HG17 HCx2
        go_wp2_with fail
        refine (HPx2.out _ _ HX18.out).mono ?_
        rintro e w19 ⟨rfl, hb⟩
        have HJ19 := hide (HJ18.out.next hb)
        have HX19 := hide (HX18.out.below hb)
        have HG19 := hide (HG18.out.below hb)
        clear hb HJ18 HX18 HG18 HPx2
        go_wp2_with fail
        refine (HSx.out _ _ _ HG19.out HX19.out).mono ?_
        rintro e w20 ⟨rfl, hb⟩
        have HJ18 := hide (HJ19.out.next hb)
        have hd0 := HJ18.out.c0
        have hd1 := HJ18.out.c1
        clear hb HJ19 HX19 HG19 HSx
        go_wp2_with fail
        refine (HRa.out _ HJ18.out.evs HJ18.out.fa).mono ?_
        rintro e w21 ⟨⟨vz, ez, rfl, hown, herr, hnil⟩, hb⟩
        have HJ21 := hide (HJ18.out.next hb)
        have HZ21 := hide hown.flAt
        clear hd0 hd1 HJ18 HRa
        rcases herr.cases with ⟨hz, rfl⟩ | ⟨hz, t3, p3, rfl⟩
        rotate_left
        · obtain rfl := hnil hz
          clear hb hown herr hnil
          go_wp2
          go_ret
          exact ⟨rfl, HJ21.out.below⟩
        clear hb hown herr hnil
        obtain ⟨hl1, hl2⟩ := HRl.out hz
        have hl1n : decide (oz < oa) = false := decide_eq_false (by omega)
        have hl2n : decide (of < fe) = false := decide_eq_false (by omega)
        have HCz2 := hide (HCz.out hz)
        have HOz2 := hide (HOz.out hz)
        have HOf2 := hide (HOf.out hz)
        have HJf2 := hide (HJf.out hz)
        have HSz2 := hide (HSz.out hz)
        have HB21 : Hid (Below w21.heap.size w21 w21.drew) := (Below.refl _ _).drew
        have hd0 := HJ21.out.c0
        have hd1 := HJ21.out.c1
        clear HCz HOz HOf HJf HSz HRl hl1 hl2 hz
        go_wp2_with fail
        go_region_held (fun w' => w'.cell? ⟨w.heap.size, 0, none⟩ = some (.string fw) ∧ w'.cell? ⟨w.heap.size, 1, none⟩ = some (.int .i64 fe)) (go_keep)
          (first
            | (go_at_call 27; refine (HCz2.out _ w21.drew (HJ21.out.next HB21.out).evs (HZ21.out.below HB21.out)).mono ?_; rintro e w22 ⟨rfl, hb⟩; have HJ22 := hide ((HJ21.out.next HB21.out).next hb); have HZ22 := hide ((HZ21.out.below HB21.out).below hb); have i0 := HJ22.out.c0; have i1 := HJ22.out.c1; clear hb HCz2)
            | (go_at_call 35; refine (HOz2.out _ w22 HZ22.out).mono ?_; rintro e w23 ⟨rfl, hb⟩; have HJ23 := hide (HJ22.out.next hb); have HZ23 := hide (HZ22.out.below hb); have j0 := HJ23.out.c0; have j1 := HJ23.out.c1; clear hb HOz2)
            | (go_at_call 35; refine (HOa.out w23 HJ23.out.fa).mono ?_; rintro e w24 ⟨rfl, hb⟩; have HJ24 := hide (HJ23.out.next hb); have HZ24 := hide (HZ23.out.below hb); have k0 := HJ24.out.c0; have k1 := HJ24.out.c1; clear hb HOa)
            | (go_at_call 35; refine (HOf2.out _ w24 HZ24.out).mono ?_; rintro e w25 ⟨rfl, hb⟩; have HJ25 := hide (HJ24.out.next hb); have HZ25 := hide (HZ24.out.below hb); have l0 := HJ25.out.c0; have l1 := HJ25.out.c1; clear hb HOf2))
        clear hd0 hd1 i0 i1 j0 j1 k0 k1 HJ21 HJ22 HJ23 HJ24 HZ21 HZ22 HZ23 HZ24 HB21
        have hq0 := HJ25.out.c0
        have hq1 := HJ25.out.c1
        have HBa : Hid (Below w25.heap.size w25 (w25.alloc (.cells #[.string fw, .int .i64 fe] 56))) := (Below.refl _ _).alloc (Nat.le_refl _) _
        go_wp2_with fail
        refine (HJf2.out w25 (HJ25.out.next HBa.out).evs (HJ25.out.next HBa.out).fa).mono ?_
        rintro e w26 ⟨⟨v1, rfl, ho⟩, hb⟩
        have HJ26 := hide ((HJ25.out.next HBa.out).next hb)
        have HZ26 := hide ((HZ25.out.below HBa.out).below hb)
        have HO26 := hide ho.flAt
        clear hb ho hq0 hq1 l0 l1 HJ25 HZ25 HBa HJf2
        go_wp2_with fail
        refine (HSz2.out _ _ _ HO26.out HZ26.out).mono ?_
        rintro e w27 ⟨rfl, hb⟩
        have HJ27 := hide (HJ26.out.next hb)
        clear hb HJ26 HZ26 HO26 HSz2
        go_wp2
        go_ret
        exact ⟨rfl, HJ27.out.below⟩
      | true =>
        go_wp2_with fail
        refine (HPb.out _ HJ15.out.fb).mono ?_
        rintro e w16 ⟨rfl, hb⟩
        have HJ16 := hide (HJ15.out.next hb)
        have HX16 := hide (HX15.out.below hb)
        clear hb HJ15 HX15 HPb
        go_wp2_with fail
        refine (HAg2.out _ _ HJ16.out.evs HX16.out HJ16.out.fb).mono ?_
        rintro e w17 ⟨⟨vg, rfl, ho⟩, hb⟩
        have HJ17 := hide (HJ16.out.next hb)
        have HX17 := hide (HX16.out.below hb)
        have HG17 := hide ho.flAt
        clear hb ho HJ16 HX16 HAg2
        go_wp2_with fail
        refine (HCx2.out _ _ HJ17.out.evs HX17.out).mono ?_
        rintro e w18 ⟨rfl, hb⟩
        have HJ18 := hide (HJ17.out.next hb)
        have HX18 := hide (HX17.out.below hb)
        have HG18 := hide (HG17.out.below hb)
        clear hb HJ17 HX17 HG17 HCx2
        go_wp2_with fail
        refine (HPx2.out _ _ HX18.out).mono ?_
        rintro e w19 ⟨rfl, hb⟩
        have HJ19 := hide (HJ18.out.next hb)
        have HX19 := hide (HX18.out.below hb)
        have HG19 := hide (HG18.out.below hb)
        clear hb HJ18 HX18 HG18 HPx2
        go_wp2_with fail
        refine (HSx.out _ _ _ HG19.out HX19.out).mono ?_
        rintro e w20 ⟨rfl, hb⟩
        have HJ18 := hide (HJ19.out.next hb)
        have hd0 := HJ18.out.c0
        have hd1 := HJ18.out.c1
        clear hb HJ19 HX19 HG19 HSx
        go_wp2_with fail
        refine (HRa.out _ HJ18.out.evs HJ18.out.fa).mono ?_
        rintro e w21 ⟨⟨vz, ez, rfl, hown, herr, hnil⟩, hb⟩
        have HJ21 := hide (HJ18.out.next hb)
        have HZ21 := hide hown.flAt
        clear hd0 hd1 HJ18 HRa
        rcases herr.cases with ⟨hz, rfl⟩ | ⟨hz, t3, p3, rfl⟩
        rotate_left
        · obtain rfl := hnil hz
          clear hb hown herr hnil
          go_wp2
          go_ret
          exact ⟨rfl, HJ21.out.below⟩
        clear hb hown herr hnil
        obtain ⟨hl1, hl2⟩ := HRl.out hz
        have hl1n : decide (oz < oa) = false := decide_eq_false (by omega)
        have hl2n : decide (of < fe) = false := decide_eq_false (by omega)
        have HCz2 := hide (HCz.out hz)
        have HOz2 := hide (HOz.out hz)
        have HOf2 := hide (HOf.out hz)
        have HJf2 := hide (HJf.out hz)
        have HSz2 := hide (HSz.out hz)
        have HB21 : Hid (Below w21.heap.size w21 w21.drew) := (Below.refl _ _).drew
        have hd0 := HJ21.out.c0
        have hd1 := HJ21.out.c1
        clear HCz HOz HOf HJf HSz HRl hl1 hl2 hz
        go_wp2_with fail
        go_region_held (fun w' => w'.cell? ⟨w.heap.size, 0, none⟩ = some (.string fw) ∧ w'.cell? ⟨w.heap.size, 1, none⟩ = some (.int .i64 fe)) (go_keep)
          (first
            | (go_at_call 27; refine (HCz2.out _ w21.drew (HJ21.out.next HB21.out).evs (HZ21.out.below HB21.out)).mono ?_; rintro e w22 ⟨rfl, hb⟩; have HJ22 := hide ((HJ21.out.next HB21.out).next hb); have HZ22 := hide ((HZ21.out.below HB21.out).below hb); have i0 := HJ22.out.c0; have i1 := HJ22.out.c1; clear hb HCz2)
            | (go_at_call 35; refine (HOz2.out _ w22 HZ22.out).mono ?_; rintro e w23 ⟨rfl, hb⟩; have HJ23 := hide (HJ22.out.next hb); have HZ23 := hide (HZ22.out.below hb); have j0 := HJ23.out.c0; have j1 := HJ23.out.c1; clear hb HOz2)
            | (go_at_call 35; refine (HOa.out w23 HJ23.out.fa).mono ?_; rintro e w24 ⟨rfl, hb⟩; have HJ24 := hide (HJ23.out.next hb); have HZ24 := hide (HZ23.out.below hb); have k0 := HJ24.out.c0; have k1 := HJ24.out.c1; clear hb HOa)
            | (go_at_call 35; refine (HOf2.out _ w24 HZ24.out).mono ?_; rintro e w25 ⟨rfl, hb⟩; have HJ25 := hide (HJ24.out.next hb); have HZ25 := hide (HZ24.out.below hb); have l0 := HJ25.out.c0; have l1 := HJ25.out.c1; clear hb HOf2))
        clear hd0 hd1 i0 i1 j0 j1 k0 k1 HJ21 HJ22 HJ23 HJ24 HZ21 HZ22 HZ23 HZ24 HB21
        have hq0 := HJ25.out.c0
        have hq1 := HJ25.out.c1
        have HBa : Hid (Below w25.heap.size w25 (w25.alloc (.cells #[.string fw, .int .i64 fe] 56))) := (Below.refl _ _).alloc (Nat.le_refl _) _
        go_wp2_with fail
        refine (HJf2.out w25 (HJ25.out.next HBa.out).evs (HJ25.out.next HBa.out).fa).mono ?_
        rintro e w26 ⟨⟨v1, rfl, ho⟩, hb⟩
        have HJ26 := hide ((HJ25.out.next HBa.out).next hb)
        have HZ26 := hide ((HZ25.out.below HBa.out).below hb)
        have HO26 := hide ho.flAt
        clear hb ho hq0 hq1 l0 l1 HJ25 HZ25 HBa HJf2
        go_wp2_with fail
        refine (HSz2.out _ _ _ HO26.out HZ26.out).mono ?_
        rintro e w27 ⟨rfl, hb⟩
        have HJ27 := hide (HJ26.out.next hb)
        clear hb HJ26 HZ26 HO26 HSz2
        go_wp2
        go_ret
        exact ⟨rfl, HJ27.out.below⟩
  · obtain ⟨t2, p2, rfl⟩ : ∃ t p, ey = .iface t p := by
      rcases HE13.out.cases with ⟨h, _⟩ | ⟨_, h⟩
      · exact absurd h hz
      · exact h
    clear HAg HCx HPx HE12 HE13 hz
    have hc0 := HJ13.out.c0
    have HB13 : Hid (Below w13.heap.size w13 w13.drew) := (Below.refl _ _).drew
    go_wp2_with fail
    go_region_held (fun w' => w'.cell? ⟨w.heap.size, 0, none⟩ = some (.string fw)) (go_keep)
      (first | (go_at_call 32; refine (HSx.out _ _ w13.drew (HX13.out.below HB13.out) (HY13.out.below HB13.out)).mono ?_; rintro e w14 ⟨rfl, hb⟩; have HJ18 := hide ((HJ13.out.next HB13.out).next hb); have hc1 := HJ18.out.c0; clear hb))
    clear hc0 hc1 HJ13 HX13 HY13 HB13 HSx
    have hd0 := HJ18.out.c0
    have hd1 := HJ18.out.c1
    go_wp2_with fail
    refine (HRa.out _ HJ18.out.evs HJ18.out.fa).mono ?_
    rintro e w21 ⟨⟨vz, ez, rfl, hown, herr, hnil⟩, hb⟩
    have HJ21 := hide (HJ18.out.next hb)
    have HZ21 := hide hown.flAt
    clear hd0 hd1 HJ18 HRa
    rcases herr.cases with ⟨hz, rfl⟩ | ⟨hz, t3, p3, rfl⟩
    rotate_left
    · obtain rfl := hnil hz
      clear hb hown herr hnil
      go_wp2
      go_ret
      exact ⟨rfl, HJ21.out.below⟩
    clear hb hown herr hnil
    obtain ⟨hl1, hl2⟩ := HRl.out hz
    have hl1n : decide (oz < oa) = false := decide_eq_false (by omega)
    have hl2n : decide (of < fe) = false := decide_eq_false (by omega)
    have HCz2 := hide (HCz.out hz)
    have HOz2 := hide (HOz.out hz)
    have HOf2 := hide (HOf.out hz)
    have HJf2 := hide (HJf.out hz)
    have HSz2 := hide (HSz.out hz)
    have HB21 : Hid (Below w21.heap.size w21 w21.drew) := (Below.refl _ _).drew
    have hd0 := HJ21.out.c0
    have hd1 := HJ21.out.c1
    clear HCz HOz HOf HJf HSz HRl hl1 hl2 hz
    go_wp2_with fail
    go_region_held (fun w' => w'.cell? ⟨w.heap.size, 0, none⟩ = some (.string fw) ∧ w'.cell? ⟨w.heap.size, 1, none⟩ = some (.int .i64 fe)) (go_keep)
      (first
        | (go_at_call 27; refine (HCz2.out _ w21.drew (HJ21.out.next HB21.out).evs (HZ21.out.below HB21.out)).mono ?_; rintro e w22 ⟨rfl, hb⟩; have HJ22 := hide ((HJ21.out.next HB21.out).next hb); have HZ22 := hide ((HZ21.out.below HB21.out).below hb); have i0 := HJ22.out.c0; have i1 := HJ22.out.c1; clear hb HCz2)
        | (go_at_call 35; refine (HOz2.out _ w22 HZ22.out).mono ?_; rintro e w23 ⟨rfl, hb⟩; have HJ23 := hide (HJ22.out.next hb); have HZ23 := hide (HZ22.out.below hb); have j0 := HJ23.out.c0; have j1 := HJ23.out.c1; clear hb HOz2)
        | (go_at_call 35; refine (HOa.out w23 HJ23.out.fa).mono ?_; rintro e w24 ⟨rfl, hb⟩; have HJ24 := hide (HJ23.out.next hb); have HZ24 := hide (HZ23.out.below hb); have k0 := HJ24.out.c0; have k1 := HJ24.out.c1; clear hb HOa)
        | (go_at_call 35; refine (HOf2.out _ w24 HZ24.out).mono ?_; rintro e w25 ⟨rfl, hb⟩; have HJ25 := hide (HJ24.out.next hb); have HZ25 := hide (HZ24.out.below hb); have l0 := HJ25.out.c0; have l1 := HJ25.out.c1; clear hb HOf2))
    clear hd0 hd1 i0 i1 j0 j1 k0 k1 HJ21 HJ22 HJ23 HJ24 HZ21 HZ22 HZ23 HZ24 HB21
    have hq0 := HJ25.out.c0
    have hq1 := HJ25.out.c1
    have HBa : Hid (Below w25.heap.size w25 (w25.alloc (.cells #[.string fw, .int .i64 fe] 56))) := (Below.refl _ _).alloc (Nat.le_refl _) _
    go_wp2_with fail
    refine (HJf2.out w25 (HJ25.out.next HBa.out).evs (HJ25.out.next HBa.out).fa).mono ?_
    rintro e w26 ⟨⟨v1, rfl, ho⟩, hb⟩
    have HJ26 := hide ((HJ25.out.next HBa.out).next hb)
    have HZ26 := hide ((HZ25.out.below HBa.out).below hb)
    have HO26 := hide ho.flAt
    clear hb ho hq0 hq1 l0 l1 HJ25 HZ25 HBa HJf2
    go_wp2_with fail
    refine (HSz2.out _ _ _ HO26.out HZ26.out).mono ?_
    rintro e w27 ⟨rfl, hb⟩
    have HJ27 := hide (HJ26.out.next hb)
    clear hb HJ26 HZ26 HO26 HSz2
    go_wp2
    go_ret
    exact ⟨rfl, HJ27.out.below⟩

theorem floorJoins_law (a : Nat → Addr) (va vb : Value) (la lb : List Fl) (f : Fl) (name : ByteArray) (epoch : Int) (w : World) (h : EV flR a w) (ht : Tab10 w) (hva : FlAt w va la) (hvb : FlAt w vb lb) :
    Calls Tryd.prog 4 #[va, vb, f.val, .string name, .int .i64 epoch] w fun e w' => e = .returned (.bool true) ∧ Below w.heap.size w w' := by
  cases hE : earlyJ la lb f.who name with
  | true => exact joins_early a va vb la lb f name epoch w h ht hva hvb hE
  | false =>
    unfold earlyJ at hE
    simp only [Bool.or_eq_false_iff, decide_eq_false_iff_not, Decidable.not_not] at hE
    obtain ⟨⟨⟨⟨⟨h1, h2⟩, h3⟩, h4⟩, h5⟩, h6⟩ := hE
    exact joins_main a va vb la lb f name epoch w h ht hva hvb h1 h2 h3 h4 h5 h6
end Go.Proofs.YtgkkffcbneabkabDoor

/-
  FloorTells' law: floors, checked, written, raised, joined, read and summed, answer as the document's answer does; for any two lists, any floor, any text.
-/
import Derived.Test.YtgkkffcbneabkabGreatDoorFloorTold
import Derived.Test.YtgkkffcbneabkabGreatDoorFloorRefJoin
import Derived.Test.YtgkkffcbneabkabGreatDoorFloorRefRead
import Derived.Test.YtgkkffcbneabkabGreatDoorFloorRefText
import Derived.Deep.DeepCutAuto
import Derived.Deep.RegionHeld3
namespace Go.Proofs.YtgkkffcbneabkabGreatDoor
open Go.RowKit Go.Extern.Stop Go.Stop Go.Extern Go.Proofs

/-! ### Numbers of faults, lengths of lists -/
/-- A fault that can be told: a number of an error, and no place where there is none. -/
def Told (c : Nat × Int) : Prop := c.1 < 16 ∧ (c.1 = 0 → c.2 = -1)
theorem told_check (l : List Fl) : Told (checkL l) := ⟨check_le l, fun h => by
  obtain ⟨h1, h2⟩ := right_of_check h
  rw [check_right h1, if_neg (by omega)]⟩
theorem told_raise (l : List Fl) (f : Fl) : Told (raiseC l f) := by
  unfold raiseC
  split
  · split
    · exact told_check _
    · refine ⟨?_, fun h => rfl⟩
      show oneE f < 16
      unfold oneE
      repeat' split
      all_goals decide
  · exact told_check _
theorem told_join (l m : List Fl) : Told (joinC l m) := by
  unfold joinC
  split
  · split
    · exact told_check _
    · exact told_check _
  · exact told_check _
theorem told_read (s : List UInt8) : Told (readC s) := by
  unfold readC
  split
  · exact ⟨by decide, fun h => rfl⟩
  · exact told_check _
theorem len_raiseR (l : List Fl) (f : Fl) : (raiseR l f).length ≤ l.length + 1 := by
  unfold raiseR
  split
  · exact len_raised l f
  · exact Nat.zero_le _
theorem len_joinR (l m : List Fl) : (joinR l m).length ≤ l.length + m.length := by
  unfold joinR
  split
  · exact len_fold m l
  · exact Nat.zero_le _
theorem len_readR (s : List UInt8) : (readR s).length ≤ 21 := by
  unfold readR
  split
  · exact Nat.zero_le _
  · split
    · rename_i h
      exact (right_of_check h).2
    · exact Nat.zero_le _
/-- What Text gives, whatever it is. -/
def textS (l : List Fl) : ByteArray := if (checkL l).1 = 0 then txt (textL l) else ByteArray.empty
theorem text_told (a : Nat → Addr) (v : Value) (l : List Fl) (w : World) (h : EV flS a w) (ht : Tab10 w) (hv : FlAt w v l) (hs : ∀ f ∈ l, f.who.size ≤ maxLen) (hl : l.length ≤ 1000000) :
    Calls Tryz.prog 26 #[v] w fun e w' => ∃ ev, e = .returned (.tuple #[.string (textS l), ev]) ∧ FlErr a w' (checkL l) ev ∧ Below w.heap.size w w' :=
  (text_any a v l w h ht hv hs hl).mono (by
    rintro e w' ⟨hp, hb⟩
    unfold textS
    rcases hp with ⟨h0, rfl⟩ | ⟨h0, t, p, rfl, he⟩
    · rw [if_pos h0]; exact ⟨_, rfl, Or.inl ⟨h0, rfl⟩, hb⟩
    · rw [if_neg h0]; exact ⟨_, rfl, he, hb⟩)
theorem faulted_told {a : Nat → Addr} {c : Nat × Int} (hc : Told c) (ev : Value) (w : World) (h : Errs a w) (he : FlErr a w c ev) :
    Calls Tryz.prog 27 #[ev, .agg #[.int .i64 (c.1 : Int), .int .i64 c.2]] w fun e w' => e = .returned (.bool true) ∧ Below w.heap.size w w' := faulted_fl h he hc.1 hc.2

set_option maxRecDepth 1000000 in
set_option maxHeartbeats 16000000 in
theorem tells_main (a : Nat → Addr) (va vb : Value) (la lb : List Fl) (f : Fl) (s : ByteArray) (w : World) (h : Errs a w) (ht : Tab10 w) (hva : FlAt w va la) (hvb : FlAt w vb lb)
    (h1 : longF la = false) (h2 : longF lb = false) (h3 : ¬ 20 < f.who.size) (h4 : ¬ 400 < s.size) :
    Calls Tryz.prog 5 #[va, vb, f.val, .string s] w fun e w' => e = .returned (.bool true) ∧ Below w.heap.size w w' := by
  obtain ⟨na, sa⟩ := longF_no h1
  obtain ⟨nb, sb⟩ := longF_no h2
  have ma : ∀ g ∈ la, g.who.size ≤ maxLen := fun g hg => by have := sa g hg; unfold maxLen; omega
  have mb : ∀ g ∈ lb, g.who.size ≤ maxLen := fun g hg => by have := sb g hg; unfold maxLen; omega
  have mf : f.who.size ≤ maxLen := by unfold maxLen; omega
  have HFl := hide (fun w h => floored_any a w h)
  have HLa := hide (fun w h => longFloors_any va la w h)
  have HLb := hide (fun w h => longFloors_any vb lb w h)
  rw [if_neg (by rw [h1]; decide)] at HLa
  rw [if_neg (by rw [h2]; decide)] at HLb
  have HOwa := hide (fun w h => ownFloors_any va la w h (by omega))
  have HOwb := hide (fun w h => ownFloors_any vb lb w h (by omega))
  have HFF := hide (fun w h => refFault_any va la w h ma (by omega))
  have HTx := hide (fun vo w h ht hv => text_told a vo la w h ht hv ma (by omega))
  have HCk := hide (fun vo w h hv => check_any a vo la w h hv ma (by omega))
  have HFa1 := hide (fun ev w h he => faulted_told (a := a) (told_check la) ev w h he)
  have HFa2 := hide HFa1.out
  have HTt : Hid ((checkL la).1 = 0 → ∀ w (h : FlAt w va la), Calls Tryz.prog 29 #[va] w fun e w' => e = .returned (.string (textS la)) ∧ Below w.heap.size w w') := fun h0 w h => by
    have := refText_any va la w h (right_of_check h0).1 (right_of_check h0).2
    unfold textS
    rw [if_pos h0]
    exact this
  have HOf : Hid ((checkL la).1 = 0 → ∀ vo w (h : FlAt w vo la), Calls Tryz.prog 30 #[vo, .string f.who] w fun e w' => e = .returned (.int .i64 (ofL la f.who.data.toList)) ∧ Below w.heap.size w w') := fun h0 vo w h => floorOf_any vo la f.who w h (right_of_check h0).1.rising (by omega)
  have HFo : Hid ((checkL la).1 = 0 → ∀ w (h : FlAt w va la), Calls Tryz.prog 31 #[va, .string f.who] w fun e w' => e = .returned (.int .i64 (ofL la f.who.data.toList)) ∧ Below w.heap.size w w') := fun h0 w h => (refFloorOf_any va la f.who w h (right_of_check h0).1 (by omega)).mono (by
    rintro e w' ⟨rfl, rfl⟩
    exact ⟨rfl, Below.refl _ _⟩)
  have HPa : Hid ((checkL la).1 = 0 → ∀ vo w (h : FlAt w vo la), Calls Tryz.prog 32 #[vo, .string f.who, .int .i64 f.ep] w fun e w' => e = .returned (.bool (decide (ofL la f.who.data.toList ≤ f.ep))) ∧ Below w.heap.size w w') := fun h0 vo w h => passes_any vo la f.who f.ep w h (right_of_check h0).1.rising (by omega)
  have HRa := hide (fun vo w h hv => raise_any a vo la f w h hv ma mf (by omega))
  have HRr := hide (fun w hv => refRaise_any va la f w hv ma mf (by omega))
  have HFr := hide (fun ev w h he => faulted_told (a := a) (told_raise la f) ev w h he)
  have HSr := hide (fun x y w h1 h2 => sameFloors_eq x y (raiseR la f) w h1 h2 (by have := len_raiseR la f; omega))
  have HJa := hide (fun vo v2 w h hv1 hv2 => join_any a vo v2 la lb w h hv1 hv2 ma mb (by omega) (by omega))
  have HJr := hide (fun w hv1 hv2 => refJoin_any va vb la lb w hv1 hv2 ma mb (by omega) (by omega))
  have HFj := hide (fun ev w h he => faulted_told (a := a) (told_join la lb) ev w h he)
  have HSj := hide (fun x y w h1 h2 => sameFloors_eq x y (joinR la lb) w h1 h2 (by have := len_joinR la lb; omega))
  have HDa := hide (fun w h => read_any a s w h (by omega))
  have HDr := hide (fun w => refRead_any s w (by omega))
  have HFd := hide (fun ev w h he => faulted_told (a := a) (told_read s.data.toList) ev w h he)
  have HSd := hide (fun x y w h1 h2 => sameFloors_eq x y (readR s.data.toList) w h1 h2 (by have := len_readR s.data.toList; omega))
  have HSo := hide (fun x y w h1 h2 => sameFloors_eq x y la w h1 h2 (by omega))
  have HSu := hide (fun vo w h ht hv => sum_any a vo la w h ht hv ma (by omega))
  have HSv := hide (fun w hv => refSum_any va la w hv ma (by omega))
  have HTs : Hid ((checkL la).1 ≠ 0 → textS la = ByteArray.empty) := fun h => if_neg h
  show Calls Tryz.prog 5 #[va, vb, .agg #[.string f.who, .int .i64 f.ep], .string s] w _
  have hfz : ¬ (20 : Int) < (f.who.size : Int) := by omega
  have hsz : ¬ (400 : Int) < (s.size : Int) := by omega
  unfold Fl.val at HRa HRr
  have HE : Hid (∀ W, Below w.heap.size w W → Errs a W) := fun W hb => h.below hb
  have HS : Hid (∀ W, Below w.heap.size w W → EV flS a W) := fun W hb => (h.below hb).ev flS
  have HR : Hid (∀ W, Below w.heap.size w W → EV flR a W) := fun W hb => (h.below hb).ev flR
  have HTb : Hid (∀ W, Below w.heap.size w W → Tab10 W) := fun W hb => tab_below ht hb
  have HA : Hid (∀ W, Below w.heap.size w W → FlAt W va la) := fun W hb => hva.below hb
  have HB : Hid (∀ W, Below w.heap.size w W → FlAt W vb lb) := fun W hb => hvb.below hb
  clear h ht hva hvb h1 h2 h3 h4 na sa nb sb ma mb mf
  generalize f.who = fw at *
  generalize f.ep = fe at *
  generalize checkL la = c at *
  generalize textS la = tx at *
  generalize ofL la fw.data.toList = oa at *
  generalize raiseC la f = cr at *
  generalize raiseR la f = rr at *
  generalize joinC la lb = cj at *
  generalize joinR la lb = rj at *
  generalize readC s.data.toList = cd at *
  generalize readR s.data.toList = rd at *
  generalize sumL la = sm at *
  have HB0 : Hid (Below w.heap.size w (w.alloc (.cells #[.string fw, .int .i64 fe] 51))) := (Below.refl _ _).alloc (Nat.le_refl _) _
  have HX0 : Hid ((w.alloc (.cells #[.string fw, .int .i64 fe] 51)).heap[w.heap.size]? = some (.cells #[.string fw, .int .i64 fe] 51 (0, 0))) := heap_alloc_new _ _
  go_enter Tryz.func5, Tryz.ntmps5
  go_wp2_with fail
  refine (HFl.out _ (HS.out _ HB0.out)).mono ?_
  rintro e w1 ⟨rfl, hb⟩
  have HB1 : Hid (Below w.heap.size w w1) := HB0.out.trans (hb.mono HB0.out.size)
  have HX1 : Hid (w1.heap[w.heap.size]? = some (.cells #[.string fw, .int .i64 fe] 51 (0, 0))) := (hb.block _ (row_lt HX0.out)).trans HX0.out
  have hc0 : w1.cell? ⟨w.heap.size, 0, none⟩ = some (.string fw) := cell_of_row w1 _ 0 _ _ _ HX1.out
  clear hb HFl HB0 HX0
  go_wp2_with fail
  refine (HLa.out _ (HA.out _ HB1.out)).mono ?_
  rintro e w2 ⟨rfl, hww⟩
  rw [hww]
  clear hww w2
  go_wp2_with fail
  refine (HLb.out _ (HB.out _ HB1.out)).mono ?_
  rintro e w2 ⟨rfl, hww⟩
  rw [hww]
  clear hww w2 HLa HLb
  go_wp2_with fail
  refine (HOwa.out _ (HA.out _ HB1.out)).mono ?_
  rintro e w2 ⟨vo, rfl, ho, hb⟩
  have HO2 := hide ho.flAt
  have HB2 : Hid (Below w.heap.size w w2) := HB1.out.trans (hb.mono HB1.out.size)
  have HX2 : Hid (w2.heap[w.heap.size]? = some (.cells #[.string fw, .int .i64 fe] 51 (0, 0))) := (hb.block _ (row_lt HX1.out)).trans HX1.out
  clear ho hb hc0 HB1 HX1 HOwa
  go_wp2_with fail
  refine (HFF.out _ (HA.out _ HB2.out)).mono ?_
  rintro e w3 ⟨rfl, hb⟩
  have HT4 : Hid (TAt vo la fw fe w w3.heap.size (c.1 : Int) c.2 (w3.alloc (.cells #[.int .i64 (c.1 : Int), .int .i64 c.2] 55))) := by
    have hal : Below w3.heap.size w3 (w3.alloc (.cells #[.int .i64 (c.1 : Int), .int .i64 c.2] 55)) := (Below.refl _ _).alloc (Nat.le_refl _) _
    have hx3 := (hb.block _ (row_lt HX2.out)).trans HX2.out
    have hb3 := HB2.out.trans (hb.mono HB2.out.size)
    exact ⟨(HO2.out.below hb).below hal, (hal.block _ (row_lt hx3)).trans hx3, heap_alloc_new _ _, row_lt hx3, hb3.trans (hal.mono hb3.size)⟩
  clear hb HO2 HB2 HX2 HFF
  unfold fltV
  go_upto_region 6 with fail
  obtain ⟨W4, hW4⟩ : ∃ W, w3.alloc (.cells #[.int .i64 (c.1 : Int), .int .i64 c.2] 55) = W := ⟨_, rfl⟩
  rw [hW4] at HT4 ⊢
  generalize w3.heap.size = gb at *
  clear hW4 w3
  go_wp2_with fail
  refine (HTx.out _ _ (HS.out _ HT4.out.below) (HTb.out _ HT4.out.below) HT4.out.fo).mono ?_
  rintro e w5 ⟨ev, rfl, he, hb⟩
  have HT5 := hide (HT4.out.next hb)
  have HE5 := hide he
  clear he hb HT4 HTx
  have HCz : Hid ((c.1 = 0 ∧ (c.1 : Int) = 0) ∨ (c.1 ≠ 0 ∧ (0 : Int) < (c.1 : Int))) := by show _ ∨ _; omega
  generalize (c.1 : Int) = cz at *
  go_upto_region 7 with fail
  go_cut [67] (fun s67 wc => s67 = .bool false ∧ Hid (TAt vo la fw fe w gb cz c.2 wc))
  case first =>
    have hi0 := HT5.out.g0
    have hi1 := HT5.out.g1
    have hd0 : w5.drew.cell? ⟨gb, 0, none⟩ = some (.int .i64 cz) := hi0
    have hd1 : w5.drew.cell? ⟨gb, 1, none⟩ = some (.int .i64 c.2) := hi1
    have HBd : Hid (Below w5.heap.size w5 w5.drew) := (Below.refl _ _).drew
    rcases HCz.out with ⟨h0, hcz⟩ | ⟨h0, hz⟩
    · have HCc := hide hcz
      clear HCz h0
      subst hcz
      clear HCc
      first
        | (go_region_held (fun w' => w'.cell? ⟨gb, 0, none⟩ = some (.int .i64 0) ∧ w'.cell? ⟨gb, 1, none⟩ = some (.int .i64 c.2)) (go_keep)
             (first
               | (go_at_call 28; refine (HCk.out vo w5.drew (HS.out _ (HT5.out.next HBd.out).below) (HT5.out.next HBd.out).fo).mono ?_; rintro e w6 ⟨ev2, rfl, he2, hb⟩; have HT6 := hide ((HT5.out.next HBd.out).next hb); have HE6 := hide ((HE5.out.below HBd.out).below hb); have HG6 := hide he2; have k0 := HT6.out.g0; have k1 := HT6.out.g1; clear hb he2 HCk)
               | (go_at_call 27; refine (HFa1.out ev2 w6 (HE.out _ HT6.out.below) HG6.out).mono ?_; rintro e w7 ⟨rfl, hb⟩; have HT7 := hide (HT6.out.next hb); have HE7 := hide (HE6.out.below hb); have l0 := HT7.out.g0; have l1 := HT7.out.g1; clear hb HFa1)
               | (go_at_call 27; refine (HFa2.out ev w7 (HE.out _ HT7.out.below) HE7.out).mono ?_; rintro e w8 ⟨rfl, hb⟩; have HT8 := hide (HT7.out.next hb); have m0 := HT8.out.g0; have m1 := HT8.out.g1; clear hb HFa2)))
        | fail
      all_goals
        go_wp2
        go_meet
        exact ⟨rfl, HT8⟩
    · have hzb : decide ((0 : Int) < cz) = true := decide_eq_true hz
      have htx : tx.toList = [] := by rw [HTs.out h0, Lib.toList_data]; rfl
      clear h0
      go_region_held (fun w' => w'.cell? ⟨gb, 0, none⟩ = some (.int .i64 cz) ∧ w'.cell? ⟨gb, 1, none⟩ = some (.int .i64 c.2)) (go_keep)
        (first
          | (go_at_call 28; refine (HCk.out vo w5.drew (HS.out _ (HT5.out.next HBd.out).below) (HT5.out.next HBd.out).fo).mono ?_; rintro e w6 ⟨ev2, rfl, he2, hb⟩; have HT6 := hide ((HT5.out.next HBd.out).next hb); have HE6 := hide ((HE5.out.below HBd.out).below hb); have HG6 := hide he2; have k0 := HT6.out.g0; have k1 := HT6.out.g1; clear hb he2 HCk)
          | (go_at_call 27; refine (HFa1.out ev2 w6 (HE.out _ HT6.out.below) HG6.out).mono ?_; rintro e w7 ⟨rfl, hb⟩; have HT7 := hide (HT6.out.next hb); have HE7 := hide (HE6.out.below hb); have l0 := HT7.out.g0; have l1 := HT7.out.g1; clear hb HFa1)
          | (go_at_call 27; refine (HFa2.out ev w7 (HE.out _ HT7.out.below) HE7.out).mono ?_; rintro e w8 ⟨rfl, hb⟩; have HT8 := hide (HT7.out.next hb); have m0 := HT8.out.g0; have m1 := HT8.out.g1; clear hb HFa2))
      all_goals
        go_wp2
        go_meet
        exact ⟨rfl, HT8⟩
  case rest =>
    obtain ⟨rfl, HT6⟩ := hcut
    generalize wc = w6 at *
    clear HT5 HE5 HCk HFa1 HFa2 HTs
    go_upto_region 9 with fail
    go_cut [103] (fun s103 wc => s103 = .bool false ∧ Hid (TAt vo la fw fe w gb cz c.2 wc))
    case first =>
      have hi0 := HT6.out.g0
      have hj0 := HT6.out.c0
      have hj1 := HT6.out.c1
      rcases HCz.out with ⟨h0, hz2⟩ | ⟨h0, hz2⟩
      · have hz : (cz == 0) = true := by rw [hz2]; rfl
        have HTt2 := hide (HTt.out h0)
        have HOf2 := hide (HOf.out h0)
        have HFo1 := hide (HFo.out h0)
        have HFo2 := hide (HFo.out h0)
        have HPa2 := hide (HPa.out h0)
        have htt : (tx.toList == tx.toList) = true := by simp
        have htn : (tx.toList != tx.toList) = false := by simp
        have hoo : (oa == oa) = true := by simp
        have hon : (oa != oa) = false := by simp
        have hd0 : w6.drew.cell? ⟨gb, 0, none⟩ = some (.int .i64 cz) := hi0
        have he0 : w6.drew.cell? ⟨w.heap.size, 0, none⟩ = some (.string fw) := hj0
        have he1 : w6.drew.cell? ⟨w.heap.size, 1, none⟩ = some (.int .i64 fe) := hj1
        have HBd : Hid (Below w6.heap.size w6 w6.drew) := (Below.refl _ _).drew
        clear h0 hz2 HTt HOf HFo HPa
        by_cases hp : oa ≤ fe
        · have hpd := decide_eq_true hp
          rw [hpd] at HPa2
          go_region_held (fun w' => w'.cell? ⟨gb, 0, none⟩ = some (.int .i64 cz) ∧ w'.cell? ⟨w.heap.size, 0, none⟩ = some (.string fw) ∧ w'.cell? ⟨w.heap.size, 1, none⟩ = some (.int .i64 fe)) (go_keep)
            (first
              | (go_at_call 29; refine (HTt2.out w6.drew (HA.out _ (HT6.out.next HBd.out).below)).mono ?_; rintro e w7 ⟨rfl, hb⟩; have HT7 := hide ((HT6.out.next HBd.out).next hb); have k0 := HT7.out.g0; have k1 := HT7.out.c0; have k2 := HT7.out.c1; clear hb HTt2)
              | (go_at_call 30; refine (HOf2.out vo w7 HT7.out.fo).mono ?_; rintro e w8 ⟨rfl, hb⟩; have HT8 := hide (HT7.out.next hb); have l0 := HT8.out.g0; have l1 := HT8.out.c0; have l2 := HT8.out.c1; clear hb HOf2)
              | (go_at_call 31; refine (HFo1.out w8 (HA.out _ HT8.out.below)).mono ?_; rintro e w9 ⟨rfl, hb⟩; have HT9 := hide (HT8.out.next hb); have m0 := HT9.out.g0; have m1 := HT9.out.c0; have m2 := HT9.out.c1; clear hb HFo1)
              | (go_at_call 32; refine (HPa2.out vo w9 HT9.out.fo).mono ?_; rintro e w10 ⟨rfl, hb⟩; have HT10 := hide (HT9.out.next hb); have n0 := HT10.out.g0; have n1 := HT10.out.c0; have n2 := HT10.out.c1; clear hb HPa2)
              | (go_at_call 31; refine (HFo2.out w10 (HA.out _ HT10.out.below)).mono ?_; rintro e w11 ⟨rfl, hb⟩; have HT11 := hide (HT10.out.next hb); have o0 := HT11.out.g0; have o1 := HT11.out.c0; have o2 := HT11.out.c1; clear hb HFo2))
          all_goals
            go_wp2
            go_meet
            exact ⟨rfl, HT11⟩
        · have hpd := decide_eq_false hp
          rw [hpd] at HPa2
          go_region_held (fun w' => w'.cell? ⟨gb, 0, none⟩ = some (.int .i64 cz) ∧ w'.cell? ⟨w.heap.size, 0, none⟩ = some (.string fw) ∧ w'.cell? ⟨w.heap.size, 1, none⟩ = some (.int .i64 fe)) (go_keep)
            (first
              | (go_at_call 29; refine (HTt2.out w6.drew (HA.out _ (HT6.out.next HBd.out).below)).mono ?_; rintro e w7 ⟨rfl, hb⟩; have HT7 := hide ((HT6.out.next HBd.out).next hb); have k0 := HT7.out.g0; have k1 := HT7.out.c0; have k2 := HT7.out.c1; clear hb HTt2)
              | (go_at_call 30; refine (HOf2.out vo w7 HT7.out.fo).mono ?_; rintro e w8 ⟨rfl, hb⟩; have HT8 := hide (HT7.out.next hb); have l0 := HT8.out.g0; have l1 := HT8.out.c0; have l2 := HT8.out.c1; clear hb HOf2)
              | (go_at_call 31; refine (HFo1.out w8 (HA.out _ HT8.out.below)).mono ?_; rintro e w9 ⟨rfl, hb⟩; have HT9 := hide (HT8.out.next hb); have m0 := HT9.out.g0; have m1 := HT9.out.c0; have m2 := HT9.out.c1; clear hb HFo1)
              | (go_at_call 32; refine (HPa2.out vo w9 HT9.out.fo).mono ?_; rintro e w10 ⟨rfl, hb⟩; have HT10 := hide (HT9.out.next hb); have n0 := HT10.out.g0; have n1 := HT10.out.c0; have n2 := HT10.out.c1; clear hb HPa2)
              | (go_at_call 31; refine (HFo2.out w10 (HA.out _ HT10.out.below)).mono ?_; rintro e w11 ⟨rfl, hb⟩; have HT11 := hide (HT10.out.next hb); have o0 := HT11.out.g0; have o1 := HT11.out.c0; have o2 := HT11.out.c1; clear hb HFo2))
          all_goals
            go_wp2
            go_meet
            exact ⟨rfl, HT11⟩
      · have hz : (cz == 0) = false := by rw [beq_eq_false_iff_ne]; omega
        go_quiet (fail)
        go_wp2
        go_meet
        exact ⟨rfl, (show Hid _ from HT6.out.next (below_drewN (Below.refl _ _) _))⟩
    case rest =>
      obtain ⟨rfl, HT7⟩ := hcut
      generalize wc = w7 at *
      clear HT6 HTt HOf HFo HPa
      have j0 := HT7.out.c0
      have j1 := HT7.out.c1
      go_wp2_with fail
      refine (HRa.out vo w7 (HS.out _ HT7.out.below) HT7.out.fo).mono ?_
      rintro e w8 ⟨⟨x, er, rfl, hown, herr, _⟩, hb⟩
      have HT8 := hide (HT7.out.next hb)
      have HX := hide hown.flAt
      have HEr := hide herr
      clear hown herr hb j0 j1 HT7 HRa
      have j0 := HT8.out.c0
      have j1 := HT8.out.c1
      go_wp2_with fail
      refine (HRr.out w8 (HA.out _ HT8.out.below)).mono ?_
      rintro e w9 ⟨⟨y, rfl, hy⟩, hb⟩
      have HT9 := hide (HT8.out.next hb)
      have HXn := hide (HX.out.below hb)
      have HEn := hide (HEr.out.below hb)
      have HY := hide hy
      clear hy hb j0 j1 HT8 HX HEr HRr
      unfold fltV
      have g0 := HT9.out.g0
      have g1 := HT9.out.g1
      have z0 := HT9.out.z0
      have z1 := HT9.out.z1
      go_upto_region 13 with fail
      obtain ⟨w10, hX⟩ : ∃ X, (w9.setCell ⟨gb, 0, none⟩ (.int .i64 (cr.1 : Int))).setCell ⟨gb, 0 + 1, none⟩ (.int .i64 cr.2) = X := ⟨_, rfl⟩
      have HT10 : Hid (TAt vo la fw fe w gb (cr.1 : Int) cr.2 w10) := by rw [← hX]; exact HT9.out.set _ _
      have HXs : Hid (FlAt w10 x rr) := by rw [← hX]; exact HT9.out.other HXn.out _ _
      have HYs : Hid (FlAt w10 y rr) := by rw [← hX]; exact HT9.out.other HY.out _ _
      have HEs : Hid (FlErr a w10 cr er) := by rw [← hX]; exact HT9.out.err HEn.out _ _
      rw [hX]
      clear hX g0 g1 z0 z1 HT9 HXn HY HEn
      have g0 := HT10.out.g0
      have g1 := HT10.out.g1
      go_wp2_with fail
      refine (HFr.out er w10 (HE.out _ HT10.out.below) HEs.out).mono ?_
      rintro e w11 ⟨rfl, hb⟩
      have HT11 := hide (HT10.out.next hb)
      have HXt := hide (HXs.out.below hb)
      have HYt := hide (HYs.out.below hb)
      clear hb g0 g1 HT10 HXs HYs HEs HFr
      go_wp2_with fail
      refine (HSr.out x y w11 HXt.out HYt.out).mono ?_
      rintro e w12 ⟨rfl, hb⟩
      have HT12 := hide (HT11.out.next hb)
      clear hb HT11 HXt HYt HSr
      go_wp2_with fail
      refine (HOwb.out w12 (HB.out _ HT12.out.below)).mono ?_
      rintro e w13 ⟨vb2, rfl, ho, hb⟩
      have HT13 := hide (HT12.out.next hb)
      have HO13 := hide ho.flAt
      clear ho hb HT12 HOwb
      go_wp2_with fail
      refine (HJa.out vo vb2 w13 (HS.out _ HT13.out.below) HT13.out.fo HO13.out).mono ?_
      rintro e w14 ⟨⟨x, er, rfl, hown, herr, _⟩, hb⟩
      have HT14 := hide (HT13.out.next hb)
      have HX := hide hown.flAt
      have HEr := hide herr
      clear hown herr hb HT13 HO13 HJa
      go_wp2_with fail
      refine (HJr.out w14 (HA.out _ HT14.out.below) (HB.out _ HT14.out.below)).mono ?_
      rintro e w15 ⟨⟨y, rfl, hy⟩, hb⟩
      have HT15 := hide (HT14.out.next hb)
      have HXn := hide (HX.out.below hb)
      have HEn := hide (HEr.out.below hb)
      have HY := hide hy
      clear hy hb HT14 HX HEr HJr
      unfold fltV
      have g0 := HT15.out.g0
      have g1 := HT15.out.g1
      have z0 := HT15.out.z0
      have z1 := HT15.out.z1
      go_upto_region 17 with fail
      obtain ⟨w16, hX⟩ : ∃ X, (w15.setCell ⟨gb, 0, none⟩ (.int .i64 (cj.1 : Int))).setCell ⟨gb, 0 + 1, none⟩ (.int .i64 cj.2) = X := ⟨_, rfl⟩
      have HT16 : Hid (TAt vo la fw fe w gb (cj.1 : Int) cj.2 w16) := by rw [← hX]; exact HT15.out.set _ _
      have HXs : Hid (FlAt w16 x rj) := by rw [← hX]; exact HT15.out.other HXn.out _ _
      have HYs : Hid (FlAt w16 y rj) := by rw [← hX]; exact HT15.out.other HY.out _ _
      have HEs : Hid (FlErr a w16 cj er) := by rw [← hX]; exact HT15.out.err HEn.out _ _
      rw [hX]
      clear hX g0 g1 z0 z1 HT15 HXn HY HEn
      have g0 := HT16.out.g0
      have g1 := HT16.out.g1
      go_wp2_with fail
      refine (HFj.out er w16 (HE.out _ HT16.out.below) HEs.out).mono ?_
      rintro e w17 ⟨rfl, hb⟩
      have HT17 := hide (HT16.out.next hb)
      have HXt := hide (HXs.out.below hb)
      have HYt := hide (HYs.out.below hb)
      clear hb g0 g1 HT16 HXs HYs HEs HFj
      go_wp2_with fail
      refine (HSj.out x y w17 HXt.out HYt.out).mono ?_
      rintro e w18 ⟨rfl, hb⟩
      have HT18 := hide (HT17.out.next hb)
      clear hb HT17 HXt HYt HSj
      go_wp2_with fail
      refine (HDa.out w18 (HR.out _ HT18.out.below)).mono ?_
      rintro e w19 ⟨⟨x, er, rfl, hown, herr, _⟩, hb⟩
      have HT19 := hide (HT18.out.next hb)
      have HX := hide hown.flAt
      have HEr := hide herr
      clear hown herr hb HT18 HDa
      go_wp2_with fail
      refine (HDr.out w19).mono ?_
      rintro e w20 ⟨⟨y, rfl, hy⟩, hb⟩
      have HT20 := hide (HT19.out.next hb)
      have HXn := hide (HX.out.below hb)
      have HEn := hide (HEr.out.below hb)
      have HY := hide hy
      clear hy hb HT19 HX HEr HDr
      unfold fltV
      have g0 := HT20.out.g0
      have g1 := HT20.out.g1
      have z0 := HT20.out.z0
      have z1 := HT20.out.z1
      go_upto_region 21 with fail
      obtain ⟨w21, hX⟩ : ∃ X, (w20.setCell ⟨gb, 0, none⟩ (.int .i64 (cd.1 : Int))).setCell ⟨gb, 0 + 1, none⟩ (.int .i64 cd.2) = X := ⟨_, rfl⟩
      have HT21 : Hid (TAt vo la fw fe w gb (cd.1 : Int) cd.2 w21) := by rw [← hX]; exact HT20.out.set _ _
      have HXs : Hid (FlAt w21 x rd) := by rw [← hX]; exact HT20.out.other HXn.out _ _
      have HYs : Hid (FlAt w21 y rd) := by rw [← hX]; exact HT20.out.other HY.out _ _
      have HEs : Hid (FlErr a w21 cd er) := by rw [← hX]; exact HT20.out.err HEn.out _ _
      rw [hX]
      clear hX g0 g1 z0 z1 HT20 HXn HY HEn
      have g0 := HT21.out.g0
      have g1 := HT21.out.g1
      go_wp2_with fail
      refine (HFd.out er w21 (HE.out _ HT21.out.below) HEs.out).mono ?_
      rintro e w22 ⟨rfl, hb⟩
      have HT22 := hide (HT21.out.next hb)
      have HXt := hide (HXs.out.below hb)
      have HYt := hide (HYs.out.below hb)
      clear hb g0 g1 HT21 HXs HYs HEs HFd
      go_wp2_with fail
      refine (HSd.out x y w22 HXt.out HYt.out).mono ?_
      rintro e w23 ⟨rfl, hb⟩
      have HT23 := hide (HT22.out.next hb)
      clear hb HT22 HXt HYt HSd
      go_wp2_with fail
      refine (HSu.out _ _ (HE.out _ HT23.out.below) (HTb.out _ HT23.out.below) HT23.out.fo).mono ?_
      rintro e w24 ⟨rfl, hb⟩
      have HT24 := hide (HT23.out.next hb)
      clear hb HT23 HSu
      go_wp2_with fail
      refine (HSv.out _ (HA.out _ HT24.out.below)).mono ?_
      rintro e w25 ⟨rfl, hb⟩
      have HT25 := hide (HT24.out.next hb)
      have hss : (sm == sm) = true := by simp
      clear hb HT24 HSv
      go_wp2_with fail
      refine (HSo.out _ _ _ HT25.out.fo (HA.out _ HT25.out.below)).mono ?_
      rintro e w26 ⟨rfl, hb⟩
      have HT26 := hide (HT25.out.next hb)
      clear hb HT25 HSo
      go_wp2
      go_ret
      exact ⟨rfl, HT26.out.below⟩

theorem floorTells_law (a : Nat → Addr) (va vb : Value) (la lb : List Fl) (f : Fl) (s : ByteArray) (w : World) (h : Errs a w) (ht : Tab10 w) (hva : FlAt w va la) (hvb : FlAt w vb lb) :
    Calls Tryz.prog 5 #[va, vb, f.val, .string s] w fun e w' => e = .returned (.bool true) ∧ Below w.heap.size w w' := by
  cases hE : earlyT la lb f.who s with
  | true => exact tells_early a va vb la lb f s w h hva hvb hE
  | false =>
    unfold earlyT at hE
    simp only [Bool.or_eq_false_iff, decide_eq_false_iff_not] at hE
    obtain ⟨⟨⟨h1, h2⟩, h3⟩, h4⟩ := hE
    exact tells_main a va vb la lb f s w h ht hva hvb h1 h2 h3 h4
end Go.Proofs.YtgkkffcbneabkabGreatDoor

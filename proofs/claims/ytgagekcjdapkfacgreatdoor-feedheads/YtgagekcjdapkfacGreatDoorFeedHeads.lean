/-
  FeedHeads' law: for every key, list of entries, time, floor, number and name the statement's function returns true, and changes nothing that was there.
-/
import Derived.Test.YtgagekcjdapkfacGreatDoorFeedFed
namespace Go.Proofs.YtgagekcjdapkfacGreatDoor
open Go.RowKit Go.Extern.Stop Go.Stop Go.Extern Go.Proofs

/-- A world behind the one in which the floor's own block was laid. -/
def Aft (w : World) (who : ByteArray) (ep : Int) (w' : World) : Prop := Below (w.alloc (.cells #[.string who, .int .i64 ep] 24)).heap.size (w.alloc (.cells #[.string who, .int .i64 ep] 24)) w'
theorem Aft.start (w : World) (who : ByteArray) (ep : Int) : Aft w who ep (w.alloc (.cells #[.string who, .int .i64 ep] 24)) := Below.refl _ _
theorem Aft.next {w : World} {who : ByteArray} {ep : Int} {w1 w2 : World} (h : Aft w who ep w1) (hb : Below w1.heap.size w1 w2) : Aft w who ep w2 := Below.trans h (hb.mono (Below.size h))
theorem Aft.below {w : World} {who : ByteArray} {ep : Int} {w' : World} (h : Aft w who ep w') : Below w.heap.size w w' :=
  ((Below.refl _ w).alloc (Nat.le_refl _) _).trans (Below.mono h ((Below.refl _ w).alloc (Nat.le_refl _) (.cells #[.string who, .int .i64 ep] 24)).size)
theorem Aft.cells {w : World} {who : ByteArray} {ep : Int} {w' : World} (h : Aft w who ep w') : w'.cell? ⟨w.heap.size, 0, none⟩ = some (.string who) ∧ w'.cell? ⟨w.heap.size, 1, none⟩ = some (.int .i64 ep) := by
  have hr : w'.heap[w.heap.size]? = some (.cells #[.string who, .int .i64 ep] 24 (0, 0)) := (Below.block h w.heap.size (by simp)).trans (heap_alloc_new _ _)
  exact ⟨cell_of_row w' _ 0 _ _ _ hr, cell_of_row w' _ 1 _ _ _ hr⟩
theorem Aft.lt {w : World} {who : ByteArray} {ep : Int} {w' : World} (h : Aft w who ep w') : w.heap.size < w'.heap.size := cell_lt h.cells.1

theorem ownsRow_keepE {w w' : World} {B t k n : Nat} {v : Value} {cs : List Value} (h : w.ownsRow B t k v n cs) (hb : Below w.heap.size w w') : w'.ownsRow B t k v n cs := by
  refine ⟨h.1, ?_⟩
  rcases h.2 with g | ⟨g, cap, cur, rfl, hB, hg, hc, hm, hs, ht⟩
  · exact Or.inl g
  · exact Or.inr ⟨g, cap, cur, rfl, hB, (hb.block g (row_lt hg)).trans hg, hc, hm, hs, ht⟩
theorem run_append_none (w : World) (ty : TypeId) (g k cap : Nat) (h : k ≤ cap) : (Builtin.append_ #[22, 22] ty #[.slice (some ⟨g, 0, none⟩) k cap, .slice none 0 0]).run Tryz.prog w = .ok (.slice (some ⟨g, 0, none⟩) k cap) w := by
  obtain ⟨i0, hi, hz0, hz1, hz2⟩ := info_parts Tryz.infoEntry
  simp [Builtin.append_, run_underlying Tryz.underlying22, Builtin.lenOf, Builtin.firstCells, sizeOf, typeInfo, hi, h, storeCells]
/-- The ways on which the statement's function ends at once. -/
def earlyH (l : List En) (who name : ByteArray) : Bool := longE l || decide (20 < who.size) || decide (20 < name.size) || decide ((feedC l).1 ≠ 0)

theorem short_le {x : ByteArray} (h : ¬ 20 < x.size) : x.size ≤ maxLen := by unfold maxLen; omega
theorem short_all {l : List En} (h : longE l = false) : ∀ e ∈ l, e.fl.who.size ≤ maxLen := fun e he => by
  have := (longE_no h).2 e he
  unfold maxLen; omega

set_option maxRecDepth 100000 in
set_option maxHeartbeats 4000000 in
theorem heads_early (a : Nat → Addr) (key : Int) (v : Value) (l : List En) (time : Int) (f : Fl) (seq : Int) (name : ByteArray) (w : World) (h : EnvF a w) (hv : EnAt w v l) (hE : earlyH l f.who name = true) :
    Calls Tryz.prog 3 #[.int .i64 key, v, .int .i64 time, f.val, .int .i64 seq, .string name] w fun e w' => e = .returned (.bool true) ∧ Below w.heap.size w w' := by
  have HFed := hide (fun w h => fed_any a w h)
  have HLg := hide (fun w h => longEntries_any v l w h)
  have H0 := hide (Aft.start w f.who f.ep)
  have HE := hide h
  have HV := hide hv
  unfold Fl.val
  cases hlong : longE l with
  | true =>
    rw [if_pos hlong] at HLg
    clear h hv hE hlong
    generalize f.who = who at *
    generalize f.ep = ep at *
    go_enter Tryz.func3, Tryz.ntmps3
    go_wp2_with fail
    refine (HFed.out _ (HE.out.below H0.out.below)).mono ?_
    rintro e w1 ⟨rfl, hb⟩
    have H1 := hide (H0.out.next hb)
    clear hb
    go_wp2_with fail
    refine (HLg.out _ (HV.out.below H1.out.below)).mono ?_
    rintro e w2 ⟨rfl, rfl⟩
    go_wp2
    go_ret
    exact ⟨rfl, H1.out.below⟩
  | false =>
    rw [if_neg (by rw [hlong]; decide)] at HLg
    have HCh := hide (fun w h hv => fdCheck_any a v l w h hv (short_all hlong) (by have := (longE_no hlong).1; omega))
    by_cases hf : 20 < f.who.size
    · clear h hv hE hlong HCh
      generalize f.who = who at *
      generalize f.ep = ep at *
      have hfz : (20 : Int) < (who.size : Int) := by omega
      go_enter Tryz.func3, Tryz.ntmps3
      go_wp2_with fail
      refine (HFed.out _ (HE.out.below H0.out.below)).mono ?_
      rintro e w1 ⟨rfl, hb⟩
      have H1 := hide (H0.out.next hb)
      have c0 := H1.out.cells.1
      clear hb
      go_wp2_with fail
      refine (HLg.out _ (HV.out.below H1.out.below)).mono ?_
      rintro e w2 ⟨rfl, rfl⟩
      go_wp2
      go_ret
      exact ⟨rfl, H1.out.below⟩
    · by_cases hn : 20 < name.size
      · clear h hv hE hlong HCh
        generalize f.who = who at *
        generalize f.ep = ep at *
        have hfz : ¬ (20 : Int) < (who.size : Int) := by omega
        have hnz : (20 : Int) < (name.size : Int) := by omega
        go_enter Tryz.func3, Tryz.ntmps3
        go_wp2_with fail
        refine (HFed.out _ (HE.out.below H0.out.below)).mono ?_
        rintro e w1 ⟨rfl, hb⟩
        have H1 := hide (H0.out.next hb)
        have c0 := H1.out.cells.1
        clear hb
        go_wp2_with fail
        refine (HLg.out _ (HV.out.below H1.out.below)).mono ?_
        rintro e w2 ⟨rfl, rfl⟩
        go_wp2
        go_ret
        exact ⟨rfl, H1.out.below⟩
      · have hc : (feedC l).1 ≠ 0 := by
          unfold earlyH at hE
          rw [hlong, decide_eq_false hf, decide_eq_false hn] at hE
          simpa using hE
        clear h hv hE hlong
        generalize feedC l = c at *
        generalize f.who = who at *
        generalize f.ep = ep at *
        have hfz : ¬ (20 : Int) < (who.size : Int) := by omega
        have hnz : ¬ (20 : Int) < (name.size : Int) := by omega
        have HH := hide hc
        go_enter Tryz.func3, Tryz.ntmps3
        go_wp2_with fail
        refine (HFed.out _ (HE.out.below H0.out.below)).mono ?_
        rintro e w1 ⟨rfl, hb⟩
        have H1 := hide (H0.out.next hb)
        have c0 := H1.out.cells.1
        clear hb hc
        go_wp2_with fail
        refine (HLg.out _ (HV.out.below H1.out.below)).mono ?_
        rintro e w2 ⟨rfl, rfl⟩
        go_wp2_with fail
        refine (HCh.out _ (HE.out.below H1.out.below).errs (HV.out.below H1.out.below)).mono ?_
        rintro e w3 ⟨ev, rfl, he, hb⟩
        have H3 := hide (H1.out.next hb)
        rcases he.cases with ⟨e0, _⟩ | ⟨_, tt, pp, rfl⟩
        · exact absurd e0 HH.out
        · clear he hb
          go_wp2
          go_ret
          exact ⟨rfl, H3.out.below⟩

/-- A text and an error, whatever they are. -/
theorem text_any2 {a : Nat → Addr} {c : Nat × Int} {t : List UInt8} {e : Ending} {w' : World} (h : TextPost a c t e w') : ∃ s ev, e = .returned (.tuple #[.string s, ev]) ∧ ((c.1 = 0 ∧ s = txt t ∧ ev = .nilIface) ∨ (c.1 ≠ 0 ∧ ∃ tt pp, ev = .iface tt pp)) := by
  rcases h with ⟨h0, rfl⟩ | ⟨h0, tt, pp, rfl, _⟩
  · exact ⟨_, _, rfl, Or.inl ⟨h0, rfl, rfl⟩⟩
  · exact ⟨_, _, rfl, Or.inr ⟨h0, tt, pp, rfl⟩⟩
theorem since_iff {l : List En} {seq : Int} (h : (feedC l).1 = 0) : ((sinceC l seq).1 = 0 ∧ (0 ≤ seq ∧ seq ≤ (l.length : Int))) ∨ ((sinceC l seq).1 ≠ 0 ∧ (seq < 0 ∨ (0 ≤ seq ∧ (l.length : Int) < seq))) := by
  unfold sinceC
  rw [if_pos h]
  by_cases h1 : seq < 0
  · rw [if_pos h1]; exact Or.inr ⟨by decide, Or.inl h1⟩
  · rw [if_neg h1]
    by_cases h2 : (l.length : Int) < seq
    · rw [if_pos h2]; exact Or.inr ⟨by decide, Or.inr ⟨by omega, h2⟩⟩
    · rw [if_neg h2]; exact Or.inl ⟨rfl, by omega, by omega⟩

set_option maxRecDepth 100000 in
set_option maxHeartbeats 16000000 in
theorem heads_main (a : Nat → Addr) (key : Int) (v : Value) (l : List En) (time : Int) (f : Fl) (seq : Int) (name : ByteArray) (w : World) (h : EnvF a w) (hv : EnAt w v l) (hlong : longE l = false) (hf : ¬ 20 < f.who.size) (hn : ¬ 20 < name.size) (hc : (feedC l).1 = 0) :
    Calls Tryz.prog 3 #[.int .i64 key, v, .int .i64 time, f.val, .int .i64 seq, .string name] w fun e w' => e = .returned (.bool true) ∧ Below w.heap.size w w' := by
  have h61 := (longE_no hlong).1
  have hsm := short_all hlong
  have hfs := short_le hf
  have HFed := hide (fun w h => fed_any a w h)
  have HLg := hide (fun w h => longEntries_any v l w h)
  rw [if_neg (by rw [hlong]; decide)] at HLg
  have HCh := hide (fun w h hv => fdCheck_any a v l w h hv hsm (by omega))
  have HFl := hide (fun w h hv => floors_any a v l w h hv hsm (by omega))
  have HMk := hide (fun w h hv => fdMake_any a key v l time w h hv hsm (by omega))
  have HOp := hide (fun (hz : (headC key l time).1 = 0) w h => fdOpen_any a key (txt (headT key l time)) w h)
  have HOp2 : Hid ((headC key l time).1 = 0 → ∀ w, EnvF a w → Calls Tryz.prog 14 #[.int .i64 key, .string (txt (headT key l time))] w fun e w' => e = .returned (.tuple #[.agg #[.int .i64 (l.length : Int), .int .i64 time, .int .i64 (sumL (floorsR l))], .nilIface]) ∧ Below w.heap.size w w') := fun hz w h => by
    have := fdOpen_any a key (txt (headT key l time)) w h
    rw [txt_list, (head_open hz).1, (head_open hz).2, errV_zero] at this
    exact this
  have HSm := hide (fun v w h ht hv => sum_ev fdS (by decide) rfl a v (floorsR l) w h ht hv (small_floors hsm) (by have := (floors_right l).2; omega))
  have HSi := hide (fun w h hv => since_any a v l seq w h hv hsm (by omega))
  have HSf := hide (since_iff (seq := seq) hc)
  have HAd := hide (fun w h hv => fdAdd_any a v l time f w h hv hsm hfs (by omega))
  have HAz : Hid ((addC l time f).1 = 0 → addR l time f = addL l time f) := fun h => if_pos h
  have HF2 := hide (fun v w h hv => floors_any a v (addL l time f) w h hv (small_add hsm hfs) (by rw [addL_len]; omega))
  have HOa := hide (fun v w h => floorOf_any v (floorsR l) name w h (floors_right l).1.rising (by have := (floors_right l).2; omega))
  have HOb := hide (fun v w h => floorOf_any v (floorsR (addL l time f)) name w h (floors_right (addL l time f)).1.rising (by have := (floors_right (addL l time f)).2; omega))
  have HOc := hide (fun v w h => floorOf_any v (floorsR (addL l time f)) f.who w h (floors_right (addL l time f)).1.rising (by have := (floors_right (addL l time f)).2; omega))
  have HUp : Hid ((floorsC l).1 = 0 → (floorsC (addL l time f)).1 = 0 → ofL (floorsR l) name.data.toList ≤ ofL (floorsR (addL l time f)) name.data.toList ∧ f.ep ≤ ofL (floorsR (addL l time f)) f.who.data.toList) := fun h1 h2 => floors_add h2 h1 name.data.toList
  have HLa : Hid ((addL l time f).length = l.length + 1) := addL_len l time f
  have H0 := hide (Aft.start w f.who f.ep)
  have HE : Hid (∀ w', Aft w f.who f.ep w' → EnvF a w') := fun w' h' => h.below h'.below
  have HV : Hid (∀ w', Aft w f.who f.ep w' → EnAt w' v l) := fun w' h' => hv.below h'.below
  have HOw := hide (fun v k w h => ownEntries_any v (l.take k) w h (by rw [List.length_take]; omega))
  have HSame := hide (fun v1 w h1 h2 => sameEntries_eq v1 v l w h1 h2 (by omega))
  obtain ⟨ad, cap, rfl, hcap⟩ := hv.form
  have HTk : Hid (∀ w' k, Aft w f.who f.ep w' → k ≤ l.length → EnAt w' (.slice ad k cap) (l.take k)) := fun w' k h' hk => by
    rcases hv.below h'.below with ⟨ad', cp, e1, e2⟩ | ⟨b', off', cap', e1, e2, e3⟩
    · subst e2
      obtain rfl : k = 0 := Nat.le_zero.1 hk
      exact Or.inl ⟨_, _, rfl, rfl⟩
    · injection e1 with q1 q2 q3
      subst q1; subst q3
      exact EnAt.take e2 e3 k hk
  obtain ⟨i0, hi, hz0, hz1, hz2⟩ := info_parts Tryz.infoEntry
  unfold Fl.val at HAd ⊢
  have hfz : ¬ (20 : Int) < (f.who.size : Int) := by omega
  have hnz : ¬ (20 : Int) < (name.size : Int) := by omega
  have HSr : Hid ((sinceC l seq).1 = 0 → sinceR l seq = l.drop seq.toNat) := fun h => if_pos h
  have HHc := hide hc
  clear h hv hlong hf hn hsm hfs HOp hc
  generalize headC key l time = hdc at *
  generalize headT key l time = ht at *
  generalize sinceC l seq = sc at *
  generalize sinceR l seq = sr at *
  generalize addC l time f = ac at *
  generalize addR l time f = ar at *
  generalize addL l time f = al at *
  generalize floorsC l = fc at *
  generalize floorsC al = bc at *
  generalize floorsR l = fr at *
  generalize floorsR al = br at *
  generalize sumL fr = sm at *
  generalize ofL fr name.data.toList = oa at *
  generalize ofL br name.data.toList = ob at *
  generalize ofL br f.who.data.toList = oc at *
  generalize feedC l = lc at *
  generalize hn : l.length = n at *
  have HN := hide hn
  generalize f.who = who at *
  generalize f.ep = ep at *
  clear hn
  go_enter Tryz.func3, Tryz.ntmps3
  go_wp2_with fail
  refine (HFed.out _ (HE.out _ H0.out)).mono ?_
  rintro e w1 ⟨rfl, hb⟩
  have H1 := hide (H0.out.next hb)
  have c0 := H1.out.cells.1
  clear hb H0 HFed
  go_wp2_with fail
  refine (HLg.out _ (HV.out _ H1.out)).mono ?_
  rintro e w2 ⟨rfl, rfl⟩
  go_wp2_with fail
  refine (HCh.out _ (HE.out _ H1.out).errs (HV.out _ H1.out)).mono ?_
  rintro e w3 ⟨ev, rfl, he, hb⟩
  obtain rfl := he.none HHc.out
  have H3 := hide (H1.out.next hb)
  clear hb he H1 c0 HLg HCh
  go_wp2_with fail
  refine (HFl.out _ (HE.out _ H3.out).errs (HV.out _ H3.out)).mono ?_
  rintro e w4 ⟨⟨v4, ev4, rfl, hown, herr, hnil⟩, hb⟩
  have H4 := hide (H3.out.next hb)
  have HN4 := hide hnil
  rcases Or.symm herr.cases with ⟨z, tt, pp, rfl⟩ | ⟨z, rfl⟩
  · obtain rfl := HN4.out z
    clear hb herr hown hnil z
    go_wp2
    go_ret
    exact ⟨rfl, H4.out.below⟩
  have HFz := hide z
  have HA4 := hide hown.flAt
  clear hb herr hown hnil z H3 HFl HN4 hfz hnz
  go_wp2_with fail
  refine (HMk.out _ (HE.out _ H4.out) (HV.out _ H4.out)).mono ?_
  rintro e w5 ⟨hp, hb⟩
  obtain ⟨s5, ev5, rfl, hcs⟩ := text_any2 hp
  have HCs := hide hcs
  have H5 := hide (H4.out.next hb)
  have HA5 := hide (HA4.out.below hb)
  clear hb hp hcs H4 HA4 HMk
  go_upto_region 8 with fail
  go_cut [66] (fun s66 wc => s66 = .bool (decide (hdc.1 = 0)) ∧ w5 = wc)
  case first =>
    rcases HCs.out with ⟨z, _, rfl⟩ | ⟨z, tt, pp, rfl⟩
    · have HZ := hide z
      clear z HCs
      go_wp2
      go_meet
      exact ⟨by rw [decide_eq_true HZ.out], rfl⟩
    · have HZ := hide z
      clear z HCs
      go_wp2
      go_meet
      exact ⟨by rw [decide_eq_false HZ.out], rfl⟩
  case rest =>
    obtain ⟨rfl, rfl⟩ := hcut
    go_upto_if 66 with fail
    go_cut [17] (fun _ wc => Hid (Aft w who ep wc) ∧ Hid (FlAt wc v4 fr))
    case first =>
      by_cases z : hdc.1 = 0
      · rw [decide_eq_true z]
        obtain rfl : s5 = txt ht := by
          rcases HCs.out with ⟨_, e, _⟩ | ⟨e, _⟩
          · exact e
          · exact absurd z e
        have HOz := hide (HOp2.out z)
        clear HCs z HOp2
        go_wp2_with fail
        refine (HOz.out _ (HE.out _ H5.out)).mono ?_
        rintro e w6 ⟨rfl, hb⟩
        have H6 := hide (H5.out.next hb)
        have HA6 := hide (HA5.out.below hb)
        clear hb HOz
        have H7 : Hid (Aft w who ep (w6.alloc (hdO ⟨n, time, sm⟩))) := H6.out.next ((Below.refl _ _).alloc (Nat.le_refl _) _)
        have HA7 : Hid (FlAt (w6.alloc (hdO ⟨n, time, sm⟩)) v4 fr) := HA6.out.below ((Below.refl _ _).alloc (Nat.le_refl _) _)
        have HR7 : Hid ((w6.alloc (hdO ⟨n, time, sm⟩)).heap[w6.heap.size]? = some (hdO ⟨n, time, sm⟩)) := heap_alloc_new _ _
        go_upto_region 10 with fail
        obtain ⟨W7, hW7⟩ : ∃ W, w6.alloc (.cells #[.int .i64 n, .int .i64 time, .int .i64 sm] 36) = W := ⟨_, rfl⟩
        rw [hW7] at H7 HA7 HR7 ⊢
        generalize w6.heap.size = gb at *
        clear hW7 HA6 H6 w6
        obtain ⟨d0, d1, d2, _⟩ := row_cells HR7.out
        dsimp only at d0 d1 d2
        have HBd : Hid (Below W7.heap.size W7 W7.drew) := (Below.refl _ _).drew
        have H7d := hide (H7.out.next HBd.out)
        go_region_held3 (fun w' => w'.cell? ⟨gb, 0, none⟩ = some (.int .i64 n) ∧ w'.cell? ⟨gb, 1, none⟩ = some (.int .i64 time) ∧ w'.cell? ⟨gb, 2, none⟩ = some (.int .i64 sm)) (first | go_keep | assumption)
          (first
            | (go_at_call 15; refine (HSm.out _ _ (HE.out _ H7d.out).errs (HE.out _ H7d.out).tab (HA7.out.below HBd.out)).mono ?_; rintro e w8 ⟨rfl, hb⟩; have H8 := hide (H7d.out.next hb); have HA8 := hide ((HA7.out.below HBd.out).below hb); have hx := row_cells ((hb.block _ (row_lt HR7.out)).trans HR7.out); have e0 := hx.1; have e1 := hx.2.1; have e2 := hx.2.2.1; dsimp only at e0 e1 e2; clear hx hb))
        all_goals
          go_wp2
          go_meet
          exact ⟨H8, HA8⟩
      · rw [decide_eq_false z]
        clear HCs z HOp2
        go_wp2
        go_meet
        exact ⟨H5, HA5⟩
    case rest =>
      obtain ⟨H7, HA7⟩ := hcut
      clear H5 HA5 HCs HOp2 HSm
      generalize wc = w7 at *
      go_wp2_with fail
      refine (HSi.out _ (HE.out _ H7.out).errs (HV.out _ H7.out)).mono ?_
      rintro e w8 ⟨⟨v8, ev8, rfl, hown8, herr8, hnil8⟩, hb⟩
      have H8 := hide (H7.out.next hb)
      have HA8 := hide (HA7.out.below hb)
      have HO8 := hide hown8
      have HEr8 := hide herr8.cases
      clear hb hown8 herr8 hnil8 H7 HA7 HSi
      go_upto_region 13 with fail
      go_cut [111] (fun s111 wc => s111 = .bool false ∧ w8 = wc)
      case first =>
        rcases HEr8.out with ⟨z, rfl⟩ | ⟨z, tt, pp, rfl⟩
        · rcases HSf.out with ⟨_, q1, q2⟩ | ⟨q, _⟩
          · have q1z : decide (0 ≤ seq) = true := decide_eq_true q1
            have q2z : decide (seq ≤ (n : Int)) = true := decide_eq_true q2
            clear HSf HEr8 z
            go_wp2
            go_meet
            exact ⟨rfl, rfl⟩
          · exact absurd z q
        · rcases HSf.out with ⟨q, _⟩ | ⟨_, q | ⟨q1, q2⟩⟩
          · exact absurd q z
          · have q1z : ¬ 0 ≤ seq := by omega
            clear HSf HEr8 z
            go_wp2
            go_meet
            exact ⟨rfl, rfl⟩
          · have q2z : ¬ seq ≤ (n : Int) := by omega
            clear HSf HEr8 z
            go_wp2
            go_meet
            exact ⟨rfl, rfl⟩
      case rest =>
        obtain ⟨rfl, rfl⟩ := hcut
        go_upto_region 15 with fail
        go_cut [113] (fun s113 wc => s113 = .bool (decide (sc.1 = 0)) ∧ w8 = wc)
        case first =>
          rcases HEr8.out with ⟨z, rfl⟩ | ⟨z, tt, pp, rfl⟩
          · have HZ := hide z
            clear z HEr8
            go_wp2
            go_meet
            exact ⟨by rw [decide_eq_true HZ.out], rfl⟩
          · have HZ := hide z
            clear z HEr8
            go_wp2
            go_meet
            exact ⟨by rw [decide_eq_false HZ.out], rfl⟩
        case rest =>
          obtain ⟨rfl, rfl⟩ := hcut
          clear HEr8
          go_upto_if 113 with fail
          go_cut [20] (fun _ wc => Hid (Aft w who ep wc) ∧ Hid (FlAt wc v4 fr))
          case first =>
            by_cases z : sc.1 = 0
            · rw [decide_eq_true z]
              obtain ⟨k, rfl, hkn⟩ : ∃ k : Nat, seq = (k : Int) ∧ k ≤ n := by
                rcases HSf.out with ⟨_, q1, q2⟩ | ⟨q, _⟩
                · exact ⟨seq.toNat, by omega, by omega⟩
                · exact absurd z q
              have hsr : sr = l.drop k := HSr.out z
              have HTk2 := hide (fun w' h' => HTk.out w' k h' hkn)
              have HO8k : Hid (w8.ownsRow w7.heap.size 80 4 v8 (n - k) (cellsE (l.drop k))) := by
                have := HO8.out
                rw [hsr] at this
                have e : (l.drop k).length = n - k := by rw [List.length_drop, HN.out]
                have this : w8.ownsRow w7.heap.size 80 4 v8 (l.drop k).length (cellsE (l.drop k)) := this
                rw [e] at this
                exact this
              have hkc : k ≤ cap := by omega
              clear z HSf HSr HO8 hsr HTk
              go_wp2_with fail
              refine (HOw.out _ k _ (HTk2.out _ H8.out)).mono ?_
              rintro e w9 ⟨v9, rfl, hown9, hb⟩
              have H9 := hide (H8.out.next hb)
              have HA9 := hide (HA8.out.below hb)
              have HO9 : Hid (w9.ownsRow w8.heap.size 80 4 v9 k (cellsE (l.take k))) := by
                have e : (l.take k).length = k := by rw [List.length_take, HN.out]; omega
                have this : w9.ownsRow w8.heap.size 80 4 v9 (l.take k).length (cellsE (l.take k)) := hown9
                rw [e] at this
                exact this
              have HB9 := hide hb
              have HO8b : Hid (w9.ownsRow w7.heap.size 80 4 v8 (n - k) (cellsE (l.drop k))) := ownsRow_keepE HO8k.out hb
              clear hown9 hb HOw HTk2 HO8k
              have HAll : Hid (∀ w' v', w'.ownsRow w8.heap.size 80 4 v' (k + (n - k)) (cellsE (l.take k) ++ cellsE (l.drop k)) → EnAt w' v' l) := fun w' v' h' => by
                rw [← cellsE_append, List.take_append_drop, show k + (n - k) = l.length by rw [HN.out]; omega] at h'
                exact OwnE.enAt h'
              rcases HO8b.out.2 with ⟨rfl, h0⟩ | ⟨g, cp, cur, rfl, hB, hg, hcc, hmm, hs2, ht2⟩
              · have HEn9 : Hid (EnAt w9 v9 l) := HAll.out w9 v9 (by
                  have e : cellsE (l.drop k) = [] := by rw [List.drop_of_length_le (by rw [HN.out]; omega)]; rfl
                  rw [h0, e, List.append_nil]
                  exact HO9.out)
                rcases HO9.out.2 with ⟨rfl, h1⟩ | ⟨g9, cp9, cur9, rfl, _, _, hc9, _⟩
                · have hno : ∀ ty, (Builtin.append_ #[22, 22] ty #[.slice none 0 0, .slice none 0 0]).run Tryz.prog w9 = .ok (.slice none 0 0) w9 := fun ty => by kernel_rfl
                  clear HO8b HO9 HAll h0 h1
                  go_wp2_with (at_builtin; refine Lib.wpList_append_run _ rfl _ _ _ _ rfl _ _ rfl rfl _ _ (hno _) ?_)
                  refine (HSame.out _ _ HEn9.out (HV.out _ H9.out)).mono ?_
                  rintro e w10 ⟨rfl, hb⟩
                  have H10 := hide (H9.out.next hb)
                  have HA10 := hide (HA9.out.below hb)
                  clear hb
                  go_wp2
                  go_meet
                  exact ⟨H10, HA10⟩
                · have hno : ∀ ty, (Builtin.append_ #[22, 22] ty #[.slice (some ⟨g9, 0, none⟩) k cp9, .slice none 0 0]).run Tryz.prog w9 = .ok (.slice (some ⟨g9, 0, none⟩) k cp9) w9 := fun ty => run_append_none w9 ty g9 k cp9 hc9
                  clear HO8b HO9 HAll h0 hc9
                  go_wp2_with (at_builtin; refine Lib.wpList_append_run _ rfl _ _ _ _ rfl _ _ rfl rfl _ _ (hno _) ?_)
                  refine (HSame.out _ _ HEn9.out (HV.out _ H9.out)).mono ?_
                  rintro e w10 ⟨rfl, hb⟩
                  have H10 := hide (H9.out.next hb)
                  have HA10 := hide (HA9.out.below hb)
                  clear hb
                  go_wp2
                  go_meet
                  exact ⟨H10, HA10⟩
              · have HNw : Hid (∀ j u, (cellsE (l.drop k))[j]? = some u → w9.cell? ((⟨g, 0, none⟩ : Addr).add j) = some u) := fun j u hu => by
                  rw [Addr.add_lit]
                  rw [cell_of_row w9 g (0 + j) cur _ _ hg, Nat.zero_add]
                  rw [← ht2, List.getElem?_take] at hu
                  split at hu
                  · simpa using hu
                  · cases hu
                have HLn : Hid ((cellsE (l.drop k)).length = (n - k) * 4) := HO8b.out.1
                have HOne := hide (cellsE_one (l.drop k))
                clear hB hg hcc hmm hs2 ht2 HO8b
                go_wp2_with (at_builtin; refine wpList_append_own _ rfl _ _ 22 rfl w8.heap.size 80 i0 _ 4 40 Tryz.underlying22 hi hz0 hz1 hz2 rfl (by decide) _ _ _ rfl HO9.out ⟨g, 0, none⟩ (n - k) cp (cellsE (l.drop k)) rfl HLn.out HNw.out HOne.out (by unfold maxLen; omega) (by omega) HB9.out.size ?_; intro v10 w10 hown10 hgrow10 hnil10)
                have HEn10 := hide (HAll.out _ _ hown10)
                have HB10 : Hid (Below w8.heap.size w8 w10) := HB9.out.grown hgrow10 HB9.out.size (fun q hq => (HO9.out.lt q hq).1)
                have H10 := hide (H8.out.next HB10.out)
                have HA10 := hide (HA8.out.below HB10.out)
                clear hown10 hgrow10 hnil10 HAll HB9 HO9 HNw HLn HOne HB10
                refine (HSame.out _ _ HEn10.out (HV.out _ H10.out)).mono ?_
                rintro e w11 ⟨rfl, hb⟩
                have H11 := hide (H10.out.next hb)
                have HA11 := hide (HA10.out.below hb)
                clear hb
                go_wp2
                go_meet
                exact ⟨H11, HA11⟩
            · rw [decide_eq_false z]
              clear z
              go_wp2
              go_meet
              exact ⟨H8, HA8⟩
          case rest =>
            obtain ⟨H10, HA10⟩ := hcut
            clear H8 HA8 HO8 HSf HSr HTk HOw HSame
            generalize wc = w10 at *
            obtain ⟨c0, c1⟩ := H10.out.cells
            go_wp2_with fail
            refine (HAd.out _ (HE.out _ H10.out).errs (HV.out _ H10.out)).mono ?_
            rintro e w11 ⟨⟨vx, evx, rfl, hownx, herrx, hnilx⟩, hb⟩
            have H11 := hide (H10.out.next hb)
            have HA11 := hide (HA10.out.below hb)
            have HNx := hide hnilx
            rcases Or.symm herrx.cases with ⟨z, tt, pp, rfl⟩ | ⟨z, rfl⟩
            · obtain rfl := HNx.out z
              clear hb herrx hownx hnilx z c0 c1
              go_wp2
              go_ret
              exact ⟨rfl, H11.out.below⟩
            · have HX11 : Hid (EnAt w11 vx al) := by
                have := hownx.enAt
                rw [HAz.out z] at this
                exact this
              obtain ⟨adx, capx, rfl, _⟩ := HX11.out.form
              rw [HLa.out] at HX11 ⊢
              clear hb herrx hownx hnilx z c0 c1 H10 HA10 HNx HAz HAd
              go_wp2_with fail
              refine (HF2.out _ _ (HE.out _ H11.out).errs HX11.out).mono ?_
              rintro e w12 ⟨⟨vb, evb, rfl, hownb, herrb, hnilb⟩, hb⟩
              have H12 := hide (H11.out.next hb)
              have HA12 := hide (HA11.out.below hb)
              have HNb := hide hnilb
              rcases Or.symm herrb.cases with ⟨z, tt, pp, rfl⟩ | ⟨z, rfl⟩
              · obtain rfl := HNb.out z
                clear hb herrb hownb hnilb z
                go_wp2
                go_ret
                exact ⟨rfl, H12.out.below⟩
              · have HB12 := hide hownb.flAt
                obtain ⟨u1, u2⟩ := HUp.out HFz.out z
                clear hb herrb hownb hnilb z H11 HA11 HNb HF2 HX11
                have hl1 : decide (oa ≤ ob) = true := decide_eq_true u1
                have hl2 : decide (ep ≤ oc) = true := decide_eq_true u2
                have hw1 : IntKind.i64.wrap ((n : Int) + 1) = (n : Int) + 1 := by rw [IntKind.wrap_i64]; omega
                have HBd : Hid (Below w12.heap.size w12 w12.drew) := (Below.refl _ _).drew
                obtain ⟨d0, d1⟩ := H12.out.cells
                clear u1 u2 HE HV HLa HUp HFz HHc
                go_wp2_with fail
                go_region_held3 (fun w' => w'.cell? ⟨w.heap.size, 0, none⟩ = some (.string who) ∧ w'.cell? ⟨w.heap.size, 1, none⟩ = some (.int .i64 ep)) (first | go_keep | assumption)
                  (first
                    | (go_at_call 20; refine (HOb.out _ w12.drew (HB12.out.below HBd.out)).mono ?_; rintro e w13 ⟨rfl, hb⟩; have H13 := hide ((H12.out.next HBd.out).next hb); have HA13 := hide ((HA12.out.below HBd.out).below hb); have HB13 := hide ((HB12.out.below HBd.out).below hb); have e0 := H13.out.cells.1; have e1 := H13.out.cells.2; clear hb HOb)
                    | (go_at_call 20; refine (HOa.out _ w13 HA13.out).mono ?_; rintro e w14 ⟨rfl, hb⟩; have H14 := hide (H13.out.next hb); have HB14 := hide (HB13.out.below hb); have f0 := H14.out.cells.1; have f1 := H14.out.cells.2; clear hb HOa)
                    | (go_at_call 20; refine (HOc.out _ w14 HB14.out).mono ?_; rintro e w15 ⟨rfl, hb⟩; have H15 := hide (H14.out.next hb); have g0 := H15.out.cells.1; have g1 := H15.out.cells.2; clear hb HOc))
                all_goals
                  go_wp2
                  go_ret
                  exact ⟨rfl, H15.out.below⟩

theorem feedHeads_law (a : Nat → Addr) (key : Int) (v : Value) (l : List En) (time : Int) (f : Fl) (seq : Int) (name : ByteArray) (w : World) (h : EnvF a w) (hv : EnAt w v l) :
    Calls Tryz.prog 3 #[.int .i64 key, v, .int .i64 time, f.val, .int .i64 seq, .string name] w fun e w' => e = .returned (.bool true) ∧ Below w.heap.size w w' := by
  cases hE : earlyH l f.who name with
  | true => exact heads_early a key v l time f seq name w h hv hE
  | false =>
    unfold earlyH at hE
    simp only [Bool.or_eq_false_iff, decide_eq_false_iff_not, Decidable.not_not] at hE
    obtain ⟨⟨⟨h1, h2⟩, h3⟩, h4⟩ := hE
    exact heads_main a key v l time f seq name w h hv h1 h2 h3 h4
end Go.Proofs.YtgagekcjdapkfacGreatDoor

/-
  News of a feed: what they are in memory, whether they are too many or too long; what NewsOf and a follower's Copy give, for every feed, news and follower.
-/
import Derived.Test.YtgagekcjdapkfacGreatDoorFollowSame
import Derived.Deep.RegionHeld3
import Derived.Deep.DeepCutAuto
namespace Go.Proofs.YtgagekcjdapkfacGreatDoor
open Go.RowKit Go.Extern.Stop Go.Stop Go.Extern Go.Proofs

structure Ns where
  many : Int
  from' : Int
  time : Int
  key : Int
  text : ByteArray
def Ns.val (n : Ns) : Value := .agg #[.int .i64 n.many, .int .i64 n.from', .int .i64 n.time, .int .i64 n.key, .string n.text]
/-- News that came in. -/
def NsIn (w : World) (v : Value) (l : List Ns) : Prop := ∃ ad cap, v = .slice ad l.length cap ∧ l.length ≤ cap ∧ (0 < l.length → ∃ b o, ad = some ⟨b, o, none⟩ ∧ b < w.heap.size ∧
  ∀ i n, l[i]? = some n → w.cell? ⟨b, o + i * 5, none⟩ = some (.int .i64 n.many) ∧ w.cell? ⟨b, o + i * 5 + 1, none⟩ = some (.int .i64 n.from') ∧ w.cell? ⟨b, o + i * 5 + 2, none⟩ = some (.int .i64 n.time) ∧ w.cell? ⟨b, o + i * 5 + 3, none⟩ = some (.int .i64 n.key) ∧ w.cell? ⟨b, o + i * 5 + 4, none⟩ = some (.string n.text))
theorem NsIn.below {w w' : World} {v : Value} {l : List Ns} (h : NsIn w v l) (hb : Below w.heap.size w w') : NsIn w' v l := by
  obtain ⟨ad, cap, h1, h2, h3⟩ := h
  refine ⟨ad, cap, h1, h2, fun h0 => ?_⟩
  obtain ⟨b, o, h4, h5, h6⟩ := h3 h0
  refine ⟨b, o, h4, Nat.lt_of_lt_of_le h5 hb.size, fun i n hi => ?_⟩
  obtain ⟨c0, c1, c2, c3, c4⟩ := h6 i n hi
  exact ⟨(hb.cell (p := ⟨b, o + i * 5, none⟩) h5).trans c0, (hb.cell (p := ⟨b, o + i * 5 + 1, none⟩) h5).trans c1, (hb.cell (p := ⟨b, o + i * 5 + 2, none⟩) h5).trans c2, (hb.cell (p := ⟨b, o + i * 5 + 3, none⟩) h5).trans c3, (hb.cell (p := ⟨b, o + i * 5 + 4, none⟩) h5).trans c4⟩
/-- Too many, or too long. -/
def longN (l : List Ns) : Bool := decide (30 < l.length) || l.any (fun n => decide (200 < n.text.size))
theorem longN_no {l : List Ns} (h : longN l = false) : l.length ≤ 30 ∧ ∀ n ∈ l, n.text.size ≤ 200 := by
  unfold longN at h
  simp only [Bool.or_eq_false_iff, decide_eq_false_iff_not, List.any_eq_false, decide_eq_true_eq] at h
  exact ⟨by omega, fun e he => by have := h.2 e he; omega⟩

set_option maxRecDepth 100000 in
set_option maxHeartbeats 4000000 in
theorem longNews_any (v : Value) (l : List Ns) (w : World) (hv : NsIn w v l) :
    Calls Tryz.prog 31 #[v] w fun e w' => e = .returned (.bool (longN l)) ∧ w' = w := by
  obtain ⟨ad, cap, rfl, hc, hcell⟩ := hv
  by_cases h30 : 30 < l.length
  · have hL : longN l = true := by unfold longN; rw [decide_eq_true h30]; rfl
    rw [hL]
    generalize l.length = n at *
    have hz : (30 : Int) < (n : Int) := by omega
    clear hcell hL
    go_enter Tryz.func31, Tryz.ntmps31
    go_wp2
    go_ret
    exact ⟨rfl, rfl⟩
  · have HQ : Hid (longN l = l.any (fun n => decide (200 < n.text.size))) := by show _ = _; unfold longN; rw [decide_eq_false h30]; rfl
    generalize hr : longN l = r at *
    have HV := hide hcell
    generalize hn : l.length = n at *
    have HN := hide hn
    have hz : ¬ (30 : Int) < (n : Int) := by omega
    have hn30 : n ≤ 30 := by omega
    clear hcell hr hn h30
    go_enter Tryz.func31, Tryz.ntmps31
    go_wp2
    go_loop [3] (fun i => ∃ k : Nat, k ≤ n ∧ i = .int .i64 k ∧ Hid (∀ j (hj : j < l.length), j < k → l[j].text.size ≤ 200)) (fun i => n - (intOf i).toNat)
    case atStart => exact ⟨0, Nat.zero_le _, rfl, fun j _ hj => absurd hj (Nat.not_lt_zero _)⟩
    case round =>
      obtain ⟨k, hk, rfl, A⟩ := hrel
      by_cases hlt : k < n
      · have hkl : k < l.length := by rw [HN.out]; exact hlt
        obtain ⟨b, o, rfl, hb, hcell⟩ := HV.out (by omega)
        obtain ⟨_, _, _, _, c4⟩ := hcell k _ (List.getElem?_eq_getElem hkl)
        have hltz : (k : Int) < (n : Int) := by omega
        by_cases h20 : 200 < (l[k]'hkl).text.size
        · have hr1 : r = true := by
            rw [HQ.out, List.any_eq_true]
            exact ⟨_, List.getElem_mem hkl, by simpa using h20⟩
          have HR1 := hide hr1
          clear hcell hr1
          generalize (l[k]'hkl).text = tx at c4 h20
          have h20z : (200 : Int) < (tx.size : Int) := by omega
          go_wp2
          go_ret
          exact ⟨by rw [HR1.out]; rfl, rfl⟩
        · have H20 := hide (Nat.not_lt.1 h20)
          clear hcell
          generalize (l[k]'hkl).text = tx at c4 h20
          have h20z : ¬ (200 : Int) < (tx.size : Int) := by omega
          go_wp2
          go_round
          case rel =>
            refine ⟨k + 1, by omega, by go_num, (show Hid _ from fun j hj hjk => ?_)⟩
            by_cases e : j = k
            · subst e; exact H20.out
            · exact A.out j hj (by omega)
          case measure => simp [intOf]; omega
      · obtain rfl : k = n := by omega
        have hltz : ¬ (k : Int) < (k : Int) := by omega
        have hr0 : r = false := by
          rw [HQ.out, List.any_eq_false]
          intro f hf
          obtain ⟨j, hj, rfl⟩ := List.getElem_of_mem hf
          have := A.out j hj (by rw [← HN.out]; exact hj)
          simp only [decide_eq_true_eq]
          omega
        have HR0 := hide hr0
        clear hr0
        go_wp2
        go_ret
        exact ⟨by rw [HR0.out]; rfl, rfl⟩

/-- How many entries the news are of, from which on; the head's text, and the entries. -/
def manyK (m : Int) (n : Nat) : Nat := if m < 0 ∨ (n : Int) < m then n else m.toNat
theorem manyK_le (m : Int) (n : Nat) : manyK m n ≤ n := by
  unfold manyK
  split <;> omega
def textX (n : Ns) (l : List En) : ByteArray := if n.text.toList.isEmpty = true then headX n.key (l.take (manyK n.many l.length)) n.time else n.text
def listX (n : Ns) (l : List En) : List En := (l.take (manyK n.many l.length)).drop (manyK n.from' (manyK n.many l.length))

set_option maxRecDepth 100000 in
set_option maxHeartbeats 4000000 in
theorem newsOf_any (v : Value) (l : List En) (n : Ns) (w : World) (hv : EnAt w v l) (hs : ∀ e ∈ l, e.fl.who.size ≤ maxLen) (hl : l.length ≤ 100000) :
    Calls Tryz.prog 33 #[v, n.val] w fun e w' => (∃ ve, e = .returned (.tuple #[.string (textX n l), ve]) ∧ EnAt w' ve (listX n l)) ∧ Below w.heap.size w w' := by
  have HV := hide hv
  obtain ⟨ad, cap, rfl, hcap⟩ := hv.form
  have HX : Hid (textX n l = if n.text.toList.isEmpty = true then headX n.key (l.take (manyK n.many l.length)) n.time else n.text) := rfl
  have HY : Hid (listX n l = (l.take (manyK n.many l.length)).drop (manyK n.from' (manyK n.many l.length))) := rfl
  have HRf := hide (fun key k v w hv time => refHead_any key v (l.take k) time w hv (fun e he => hs e (List.mem_of_mem_take he)) (by rw [List.length_take]; omega))
  generalize textX n l = tx at *
  generalize listX n l = lx at *
  obtain ⟨nm, nf, nt, nk, ntx⟩ := n
  unfold Ns.val
  dsimp only at HX HY ⊢
  generalize hln : l.length = ln at *
  have HLn := hide hln
  have HB1 : Hid (Below w.heap.size w (w.alloc (.cells #[.int .i64 nm, .int .i64 nf, .int .i64 nt, .int .i64 nk, .string ntx] 69))) := (Below.refl _ _).alloc (Nat.le_refl _) _
  have HR1 : Hid ((w.alloc (.cells #[.int .i64 nm, .int .i64 nf, .int .i64 nt, .int .i64 nk, .string ntx] 69)).heap[w.heap.size]? = some (.cells #[.int .i64 nm, .int .i64 nf, .int .i64 nt, .int .i64 nk, .string ntx] 69 (0, 0))) := heap_alloc_new _ _
  clear hv hln
  go_enter Tryz.func33, Tryz.ntmps33
  go_upto_region 1 with fail
  obtain ⟨W1, hW1⟩ : ∃ W, w.alloc (.cells #[.int .i64 nm, .int .i64 nf, .int .i64 nt, .int .i64 nk, .string ntx] 69) = W := ⟨_, rfl⟩
  rw [hW1] at HB1 HR1 ⊢
  generalize hgb : w.heap.size = gb at *
  have HGb := hide hgb
  have HGe : Hid (gb ≤ W1.heap.size) := Nat.le_of_lt (row_lt HR1.out)
  clear hW1 hgb
  have c0 : W1.cell? ⟨gb, 0, none⟩ = some (.int .i64 nm) := cell_of_row W1 gb 0 _ _ _ HR1.out
  have c1 : W1.cell? ⟨gb, 1, none⟩ = some (.int .i64 nf) := cell_of_row W1 gb 1 _ _ _ HR1.out
  have c2 : W1.cell? ⟨gb, 2, none⟩ = some (.int .i64 nt) := cell_of_row W1 gb 2 _ _ _ HR1.out
  have c3 : W1.cell? ⟨gb, 3, none⟩ = some (.int .i64 nk) := cell_of_row W1 gb 3 _ _ _ HR1.out
  have c4 : W1.cell? ⟨gb, 4, none⟩ = some (.string ntx) := cell_of_row W1 gb 4 _ _ _ HR1.out
  go_upto_region 2 with fail
  go_cut [19] (fun s19 wc => s19 = .bool (decide (nm < 0 ∨ (ln : Int) < nm)) ∧ W1 = wc)
  case first =>
    by_cases h1 : nm < 0
    · have HK : Hid (decide (nm < 0 ∨ (ln : Int) < nm) = true) := decide_eq_true (Or.inl h1)
      go_wp2
      go_meet
      exact ⟨by rw [HK.out], rfl⟩
    · by_cases h2 : (ln : Int) < nm
      · have HK : Hid (decide (nm < 0 ∨ (ln : Int) < nm) = true) := decide_eq_true (Or.inr h2)
        go_wp2
        go_meet
        exact ⟨by rw [HK.out], rfl⟩
      · have HK : Hid (decide (nm < 0 ∨ (ln : Int) < nm) = false) := decide_eq_false (by omega)
        go_wp2
        go_meet
        exact ⟨by rw [HK.out], rfl⟩
  case rest =>
  obtain ⟨rfl, rfl⟩ := hcut
  go_upto_if 19 with fail
  go_cut [6] (fun s6 wc => s6 = .int .i64 (manyK nm ln : Nat) ∧ W1 = wc)
  case first =>
    by_cases h : nm < 0 ∨ (ln : Int) < nm
    · have HK : Hid (manyK nm ln = ln) := if_pos h
      rw [decide_eq_true h]
      clear h
      go_wp2
      go_meet
      exact ⟨by rw [HK.out], rfl⟩
    · have HK : Hid (((manyK nm ln : Nat) : Int) = nm) := by
        show _ = _
        rw [show manyK nm ln = nm.toNat from if_neg h]; omega
      rw [decide_eq_false h]
      clear h
      go_wp2
      go_meet
      exact ⟨by rw [HK.out], rfl⟩
  case rest =>
  obtain ⟨rfl, rfl⟩ := hcut
  have hKle : manyK nm ln ≤ ln := manyK_le _ _
  generalize manyK nm ln = K at *
  go_upto_region 5 with fail
  go_cut [30] (fun s30 wc => s30 = .bool (decide (nf < 0 ∨ (K : Int) < nf)) ∧ W1 = wc)
  case first =>
    by_cases h1 : nf < 0
    · have HK : Hid (decide (nf < 0 ∨ (K : Int) < nf) = true) := decide_eq_true (Or.inl h1)
      go_wp2
      go_meet
      exact ⟨by rw [HK.out], rfl⟩
    · by_cases h2 : (K : Int) < nf
      · have HK : Hid (decide (nf < 0 ∨ (K : Int) < nf) = true) := decide_eq_true (Or.inr h2)
        go_wp2
        go_meet
        exact ⟨by rw [HK.out], rfl⟩
      · have HK : Hid (decide (nf < 0 ∨ (K : Int) < nf) = false) := decide_eq_false (by omega)
        go_wp2
        go_meet
        exact ⟨by rw [HK.out], rfl⟩
  case rest =>
  obtain ⟨rfl, rfl⟩ := hcut
  go_upto_if 30 with fail
  go_cut [7] (fun s7 wc => s7 = .int .i64 (manyK nf K : Nat) ∧ W1 = wc)
  case first =>
    by_cases h : nf < 0 ∨ (K : Int) < nf
    · have HK : Hid (manyK nf K = K) := if_pos h
      rw [decide_eq_true h]
      clear h
      go_wp2
      go_meet
      exact ⟨by rw [HK.out], rfl⟩
    · have HK : Hid (((manyK nf K : Nat) : Int) = nf) := by
        show _ = _
        rw [show manyK nf K = nf.toNat from if_neg h]; omega
      rw [decide_eq_false h]
      clear h
      go_wp2
      go_meet
      exact ⟨by rw [HK.out], rfl⟩
  case rest =>
  obtain ⟨rfl, rfl⟩ := hcut
  have hFle : manyK nf K ≤ K := manyK_le _ _
  generalize manyK nf K = F at *
  have hK0 : (0 : Int) ≤ (K : Int) := by omega
  have hF0 : (0 : Int) ≤ (F : Int) := by omega
  have hKc : (K : Int) ≤ (cap : Int) := by omega
  have hFK : (F : Int) ≤ (K : Int) := by omega
  have HT : Hid (∀ W, Below gb w W → EnAt W (.slice ad K cap) (l.take K)) := fun W hb => EnAt.first (HV.out.below (by rw [HGb.out]; exact hb)) K (by rw [HLn.out]; exact hKle)
  have HFin : Hid (∀ W, Below gb w W → (cap = F → EnAt W (.slice ad (K - F) 0) lx) ∧ (¬ cap = F → EnAt W (.slice (Option.map (fun x => x.add (F * 4)) ad) (K - F) (cap - F)) lx)) := fun W hb => by
    rw [HY.out]; exact EnAt.cut (HV.out.below (by rw [HGb.out]; exact hb)) F K hFle (by rw [HLn.out]; exact hKle) hcap
  have HBA : Hid (Below gb w W1.drew) := HB1.out.drew
  have HBB : Hid (Below gb w (W1.alloc flt0).drew) := (HB1.out.alloc HGe.out flt0).drew
  have HBC : Hid (Below gb w (W1.drew.alloc flt0)) := (HB1.out.drew).alloc HGe.out flt0
  have HRB : Hid ((W1.alloc flt0).drew.heap[W1.heap.size]? = some flt0) := heap_alloc_new W1 flt0
  have HRC : Hid ((W1.drew.alloc flt0).heap[W1.heap.size]? = some flt0) := heap_alloc_new W1.drew flt0
  have HLt : Hid (gb < W1.heap.size) := row_lt HR1.out
  have HPA : Hid (∀ W, Below W1.heap.size W1 W → W.heap[gb]? = some (.cells #[.int .i64 nm, .int .i64 nf, .int .i64 nt, .int .i64 nk, .string ntx] 69 (0, 0))) := fun W hb => (hb.block gb HLt.out).trans HR1.out
  have HB11 : Hid (Below W1.heap.size W1 W1.drew) := (Below.refl _ _).drew
  have HB12 : Hid (Below W1.heap.size W1 (W1.alloc flt0).drew) := ((Below.refl _ W1).alloc (Nat.le_refl _) flt0).drew
  have HB13 : Hid (Below W1.heap.size W1 (W1.drew.alloc flt0)) := ((Below.refl _ W1).drew).alloc (Nat.le_refl _) flt0
  have hn1 : W1.heap.size ≠ gb := fun e => by have := HLt.out; omega
  have HTr : Hid (∀ W W', Below W1.heap.size W1 W → Below W.heap.size W W' → Below gb w W' ∧ Below W1.heap.size W1 W') := fun W W' h1 h2 => ⟨HB1.out.trans ((h1.trans (h2.mono h1.size)).mono HGe.out), h1.trans (h2.mono h1.size)⟩
  have HRf2 := hide (fun v w hv => HRf.out nk K v w hv nt)
  clear HRf
  generalize headX nk (l.take K) nt = hx at *
  generalize headC nk (l.take K) nt = hc at *
  obtain ⟨hc1, hc2⟩ := hc
  unfold fltV at HRf2
  dsimp only at HRf2
  go_upto_region 7 with fail
  go_region_held3 (fun w' => w'.cell? ⟨gb, 3, none⟩ = some (.int .i64 nk) ∧ w'.cell? ⟨gb, 2, none⟩ = some (.int .i64 nt)) (first | go_keep | assumption)
    (first
      | (go_at_call 27; refine (HRf2.out _ _ (HT.out _ HBA.out)).mono ?_; rintro e w2 ⟨rfl, hb⟩; have HB2 : Hid (Below gb w w2) := (HTr.out _ _ HB11.out hb).1; have HP2 : Hid (Below W1.heap.size W1 w2) := (HTr.out _ _ HB11.out hb).2; have hn2 : w2.heap.size ≠ gb := (fun e => by have := HLt.out; have := HP2.out.size; omega); have e2 : w2.cell? ⟨gb, 2, none⟩ = some (.int .i64 nt) := cell_of_row w2 gb 2 _ _ _ (HPA.out _ HP2.out); have e3 : w2.cell? ⟨gb, 3, none⟩ = some (.int .i64 nk) := cell_of_row w2 gb 3 _ _ _ (HPA.out _ HP2.out); clear hb HRf2)
      | (go_at_call 27; refine (HRf2.out _ _ (HT.out _ HBB.out)).mono ?_; rintro e w2 ⟨rfl, hb⟩; have HB2 : Hid (Below gb w w2) := (HTr.out _ _ HB12.out hb).1; have HP2 : Hid (Below W1.heap.size W1 w2) := (HTr.out _ _ HB12.out hb).2; have HF2 : Hid (w2.heap[W1.heap.size]? = some flt0) := (hb.block _ (row_lt HRB.out)).trans HRB.out; obtain ⟨y0, y1, z0, z1⟩ := flt_row HF2.out; have e2 : w2.cell? ⟨gb, 2, none⟩ = some (.int .i64 nt) := cell_of_row w2 gb 2 _ _ _ (HPA.out _ HP2.out); have e3 : w2.cell? ⟨gb, 3, none⟩ = some (.int .i64 nk) := cell_of_row w2 gb 3 _ _ _ (HPA.out _ HP2.out); clear hb HRf2)
      | (go_at_call 27; refine (HRf2.out _ _ (HT.out _ HBC.out)).mono ?_; rintro e w2 ⟨rfl, hb⟩; have HB2 : Hid (Below gb w w2) := (HTr.out _ _ HB13.out hb).1; have HP2 : Hid (Below W1.heap.size W1 w2) := (HTr.out _ _ HB13.out hb).2; have HF2 : Hid (w2.heap[W1.heap.size]? = some flt0) := (hb.block _ (row_lt HRC.out)).trans HRC.out; obtain ⟨y0, y1, z0, z1⟩ := flt_row HF2.out; have e2 : w2.cell? ⟨gb, 2, none⟩ = some (.int .i64 nt) := cell_of_row w2 gb 2 _ _ _ (HPA.out _ HP2.out); have e3 : w2.cell? ⟨gb, 3, none⟩ = some (.int .i64 nk) := cell_of_row w2 gb 3 _ _ _ (HPA.out _ HP2.out); clear hb HRf2))
  · have HB3 : Hid (Below gb w (w2.alloc (.cells #[.int .i64 (hc1 : Int), .int .i64 hc2] 49))) := HB2.out.alloc (Nat.le_trans HGe.out HP2.out.size) _
    have e4 : (w2.alloc (.cells #[.int .i64 (hc1 : Int), .int .i64 hc2] 49)).cell? ⟨gb, 4, none⟩ = some (.string ntx) := cell_of_row _ gb 4 _ _ _ (HPA.out _ (HP2.out.alloc HP2.out.size _))
    obtain ⟨W3, hW3⟩ : ∃ W, w2.alloc (.cells #[.int .i64 (hc1 : Int), .int .i64 hc2] 49) = W := ⟨_, rfl⟩
    rw [hW3] at HB3 e4 ⊢
    clear hW3
    clear HB2 HP2 e2 e3 c0 c1 c2 c3 c4 hn1 HBA HBB HBC HRB HRC HB11 HB12 HB13 HR1 HB1 HPA HTr HT
    have HZ := hide (HFin.out _ HB3.out)
    generalize hz : ntx.toList.isEmpty = tz at *
    cases tz with
    | true =>
      have HX2 : Hid (tx = hx) := HX.out.trans (if_pos rfl)
      clear HX
      go_wp2
      go_region
      all_goals go_wp2
      all_goals
        go_ret2
        refine ⟨⟨_, by rw [HX2.out]; rfl, ?_⟩, ?_⟩
        · first
            | exact (HFin.out _ HB3.out.drew).1 (by assumption)
            | exact (HFin.out _ HB3.out.drew).2 (by assumption)
        · rw [HGb.out]; exact HB3.out.drew
    | false =>
      have HX2 : Hid (tx = ntx) := HX.out.trans (if_neg (by decide))
      clear HX
      go_wp2
      go_region
      all_goals go_wp2
      all_goals
        go_ret2
        refine ⟨⟨_, by rw [HX2.out]; rfl, ?_⟩, ?_⟩
        · first
            | exact (HFin.out _ HB3.out.drew).1 (by assumption)
            | exact (HFin.out _ HB3.out.drew).2 (by assumption)
        · rw [HGb.out]; exact HB3.out.drew
  · have HB3 : Hid (Below gb w ((w2.setCell ⟨W1.heap.size, 0, none⟩ (.int .i64 (hc1 : Int))).setCell ⟨W1.heap.size, 1, none⟩ (.int .i64 hc2))) := (HB2.out.setCell HGe.out _).setCell HGe.out _
    have e4 : ((w2.setCell ⟨W1.heap.size, 0, none⟩ (.int .i64 (hc1 : Int))).setCell ⟨W1.heap.size, 1, none⟩ (.int .i64 hc2)).cell? ⟨gb, 4, none⟩ = some (.string ntx) := cell_of_row _ gb 4 _ _ _ (HPA.out _ ((HP2.out.setCell (Nat.le_refl _) _).setCell (Nat.le_refl _) _))
    obtain ⟨W3, hW3⟩ : ∃ W, ((w2.setCell ⟨W1.heap.size, 0, none⟩ (.int .i64 (hc1 : Int))).setCell ⟨W1.heap.size, 1, none⟩ (.int .i64 hc2)) = W := ⟨_, rfl⟩
    rw [hW3] at HB3 e4 ⊢
    clear hW3 HF2 y0 y1 z0 z1
    clear HB2 HP2 e2 e3 c0 c1 c2 c3 c4 hn1 HBA HBB HBC HRB HRC HB11 HB12 HB13 HR1 HB1 HPA HTr HT
    have HZ := hide (HFin.out _ HB3.out)
    generalize hz : ntx.toList.isEmpty = tz at *
    cases tz with
    | true =>
      have HX2 : Hid (tx = hx) := HX.out.trans (if_pos rfl)
      clear HX
      go_wp2
      go_region
      all_goals go_wp2
      all_goals
        go_ret2
        refine ⟨⟨_, by rw [HX2.out]; rfl, ?_⟩, ?_⟩
        · first
            | exact (HFin.out _ HB3.out.drew).1 (by assumption)
            | exact (HFin.out _ HB3.out.drew).2 (by assumption)
        · rw [HGb.out]; exact HB3.out.drew
    | false =>
      have HX2 : Hid (tx = ntx) := HX.out.trans (if_neg (by decide))
      clear HX
      go_wp2
      go_region
      all_goals go_wp2
      all_goals
        go_ret2
        refine ⟨⟨_, by rw [HX2.out]; rfl, ?_⟩, ?_⟩
        · first
            | exact (HFin.out _ HB3.out.drew).1 (by assumption)
            | exact (HFin.out _ HB3.out.drew).2 (by assumption)
        · rw [HGb.out]; exact HB3.out.drew

set_option maxRecDepth 100000 in
set_option maxHeartbeats 4000000 in
theorem foCopy_any (w : World) (p : Nat) (v : Value) (s : Fo) (h : FoAt w p v s) (hl : s.l.length ≤ 1000000) :
    Calls Tryz.prog 34 #[.pointer (some ⟨p, 0, none⟩)] w fun e w' => ∃ q v', w.heap.size ≤ q ∧ e = .returned (.pointer (some ⟨q, 0, none⟩)) ∧ FoAt w' q v' s ∧ Below w.heap.size w w' := by
  have HEn := hide (fun w h => foEntries_any w p v s h hl)
  have HF := hide h
  have HB0 : Hid (Below w.heap.size w w.drew) := (Below.refl _ _).drew
  have hpl : p < w.heap.size := row_lt h.row
  obtain ⟨c0, c1, c2, c3⟩ := fo_cells h.row
  obtain ⟨key, l, hd, tm⟩ := s
  dsimp only at c0 c1 c2 c3 HEn hl
  have HF0 := hide (HF.out.below HB0.out)
  clear h
  go_enter Tryz.func34, Tryz.ntmps34
  go_wp2_with fail
  go_region_held3 (fun w' => w'.cell? ⟨p, 0, none⟩ = some (.int .i64 key) ∧ w'.cell? ⟨p, 2, none⟩ = some (.string hd) ∧ w'.cell? ⟨p, 3, none⟩ = some (.int .i64 tm)) (first | go_keep | assumption)
    (first
      | (go_at_call 39; refine (HEn.out _ HF0.out).mono ?_; rintro e w1 ⟨v1, rfl, hown, hb⟩; obtain ⟨ad1, cap1, rfl, _⟩ := hown.enAt.form; have HB1 : Hid (Below w.heap.size w w1) := HB0.out.trans (hb.mono HB0.out.size); have HO1 := hide (OwnE.less hown (Nat.zero_le _)); have e0 := (hb.cell (p := ⟨p, 0, none⟩) hpl).trans c0; have e2 := (hb.cell (p := ⟨p, 2, none⟩) hpl).trans c2; have e3 := (hb.cell (p := ⟨p, 3, none⟩) hpl).trans c3; clear hb hown HEn))
  have HRw : Hid ((w1.alloc (.cells #[.int .i64 key, .slice ad1 l.length cap1, .string hd, .int .i64 tm] 129)).heap[w1.heap.size]? = some (foO key (.slice ad1 l.length cap1) hd tm)) := heap_alloc_new _ _
  have HB2 : Hid (Below w1.heap.size w1 (w1.alloc (.cells #[.int .i64 key, .slice ad1 l.length cap1, .string hd, .int .i64 tm] 129))) := (Below.refl _ _).alloc (Nat.le_refl _) _
  go_wp2
  go_ret
  exact ⟨_, _, HB1.out.size, rfl, ⟨HRw.out, HO1.out.below HB2.out⟩, HB1.out.trans (HB2.out.mono HB1.out.size)⟩
end Go.Proofs.YtgagekcjdapkfacGreatDoor

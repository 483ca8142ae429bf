/-
  SessionActs: with whatever deals, each answer and what is open are as the document's answer tells.
-/
import Derived.Test.YteabincmopeljaeGreatDoorSessWake
import Derived.Test.YteabincmopeljaeGreatDoorSessPair
import Derived.Test.YteabincmopeljaeGreatDoorFloorJoin
import Derived.Test.YteabincmopeljaeGreatDoorFlPb
import Derived.BigQuiet
import Derived.Deep.RegionHeld3
import Derived.Deep.CutBlock
import Derived.Deep.DeepCutAuto
namespace Go.Proofs.YteabincmopeljaeGreatDoor
open Go Go.RowKit Go.Extern.Stop Go.Stop Go.Extern Go.Proofs

/-- A deal's block. -/
abbrev dlO (kind : ByteArray) (t : Tk) (n now : Int) (vf : Value) : Obj := .cells #[.string kind, .string t.who, .string t.dst, .int .i64 t.epoch, .int .i64 t.frm, .int .i64 t.til, .int .i64 t.ser, .int .i64 n, .int .i64 now, vf] 35 (0, 0)
theorem dl_row {w : World} {g : Nat} {kind : ByteArray} {t : Tk} {n now : Int} {vf : Value} (h : w.heap[g]? = some (dlO kind t n now vf)) :
    w.cell? ⟨g, 0, none⟩ = some (.string kind) ∧ w.cell? ⟨g, 1, none⟩ = some (.string t.who) ∧ w.cell? ⟨g, 2, none⟩ = some (.string t.dst) ∧ w.cell? ⟨g, 3, none⟩ = some (.int .i64 t.epoch) ∧ w.cell? ⟨g, 4, none⟩ = some (.int .i64 t.frm) ∧ w.cell? ⟨g, 5, none⟩ = some (.int .i64 t.til) ∧ w.cell? ⟨g, 6, none⟩ = some (.int .i64 t.ser) ∧ w.cell? ⟨g, 7, none⟩ = some (.int .i64 n) ∧ w.cell? ⟨g, 8, none⟩ = some (.int .i64 now) ∧ w.cell? ⟨g, 9, none⟩ = some vf :=
  ⟨cell_of_row w g 0 _ _ _ h, cell_of_row w g 1 _ _ _ h, cell_of_row w g 2 _ _ _ h, cell_of_row w g 3 _ _ _ h, cell_of_row w g 4 _ _ _ h, cell_of_row w g 5 _ _ _ h, cell_of_row w g 6 _ _ _ h, cell_of_row w g 7 _ _ _ h, cell_of_row w g 8 _ _ _ h, cell_of_row w g 9 _ _ _ h⟩
/-- Deals' sizes. -/
def DlFine (m : Dl) : Prop := (m.t.who.size ≤ maxLen ∧ m.t.dst.size ≤ maxLen) ∧ (∀ f ∈ m.f, f.who.size ≤ maxLen) ∧ m.f.length ≤ 1000000 ∧ NumOk m.n
/-- A block that lies besides stays. -/
theorem SsSt.besideD {W : World} {p m rp : Nat} {v : Value} {d d1 : Dk} {w w1 w2 : World} (h : SsSt W p m rp v d d1 w) {o : Obj} (hB : w1.heap[w.heap.size]? = some o) (hk : KeptD (fun k => k = p ∨ k = m) w1 w2) : w2.heap[w.heap.size]? = some o :=
  (hk.block _ (row_lt hB) (by
    have h1 := h.apart p (Or.inl rfl)
    have h2 := h.apart m (Or.inr (Or.inl rfl))
    omega)).trans hB
theorem SsSt.besideR {W : World} {p m rp : Nat} {v : Value} {d d1 : Dk} {w w1 w2 : World} (h : SsSt W p m rp v d d1 w) {o : Obj} (hB : w1.heap[w.heap.size]? = some o) (hk : KeptD (fun k => k = rp ∨ v.ownBlock = some k) w1 w2) : w2.heap[w.heap.size]? = some o :=
  (hk.block _ (row_lt hB) (by
    rintro (e | e)
    · have := h.apart _ (Or.inr (Or.inr (Or.inl e))); omega
    · have := h.apart _ (Or.inr (Or.inr (Or.inr e))); omega)).trans hB

set_option maxRecDepth 100000 in
set_option maxHeartbeats 8000000 in
theorem sessActs_law (a : Nat → Addr) (v : Value) (l : List Dl) (W : World) (hE : Errs a W) (hv : DlIn W v l) (hfine : ∀ m ∈ l, (m.t.who.size ≤ maxLen ∧ m.t.dst.size ≤ maxLen) ∧ (∀ f ∈ m.f, f.who.size ≤ maxLen) ∧ NumOk m.n) :
    Calls Tryz.prog 3 #[v] W fun e w' => e = .returned (.bool true) ∧ Below W.heap.size W w' := by
  have HOp := hide (opened_any a W (hE.ev _))
  have HLong := hide (fun w hb => longDeals_any v l w (hv.below hb) (fun m hm => (hfine m hm).1))
  have HE := hide hE
  have HFine := hide hfine
  obtain ⟨ad, cap, rfl, hcap, hcell⟩ := hv
  have HV := hide hcell
  have HNo := hide (fun h => longDl_no (l := l) h)
  generalize hn : l.length = n at *
  have HN := hide hn
  clear hE hcell hn hfine
  go_enter Tryz.func3, Tryz.ntmps3
  go_wp2_with fail
  refine HOp.out.mono ?_
  rintro e w1 ⟨rfl, hb⟩
  have HB1 := hide hb
  clear hb HOp
  go_wp2_with fail
  refine (HLong.out w1 HB1.out).mono ?_
  rintro e w2 ⟨rfl, hb⟩
  have HB2 : Hid (Below W.heap.size W w2) := HB1.out.trans (hb.mono HB1.out.size)
  clear HLong hb HB1
  cases hlw : longDl l with
  | true =>
    go_wp2
    go_ret
    exact ⟨rfl, HB2.out⟩
  | false =>
    obtain ⟨hn80, hsz⟩ := HNo.out hlw
    have HS : Hid (∀ x ∈ l, DlFine x) := fun x hx => ⟨(HFine.out x hx).1, (HFine.out x hx).2.1, Nat.le_trans (longF_no (hsz x hx).2.2).1 (by decide), (HFine.out x hx).2.2⟩
    have HNew := hide (deNew_any w2)
    clear HNo hlw hsz HFine
    go_wp2_with fail
    refine HNew.out.mono ?_
    rintro e w3 ⟨rfl, hD, hb⟩
    have HB3 : Hid (Below W.heap.size W w3) := HB2.out.trans (hb.mono HB2.out.size)
    have HSt : Hid (SsSt W (w2.heap.size + 1) w2.heap.size w3.heap.size (.slice none 0 0) ⟨0, []⟩ ⟨0, []⟩ (w3.alloc (dkO 0 (.slice none 0 0)))) := by
      have h1 := row_lt hD.row
      have h2 := HB2.out.size
      exact ⟨hD.below ((Below.refl _ _).alloc (Nat.le_refl _) _), ⟨heap_alloc_new _ _, World.ownsRow_nil _ _ _ _⟩, GoodD.zero, HB3.out.alloc HB3.out.size _, by omega, by omega, by omega, by omega⟩
    clear hb hD HNew HB2
    go_wp2
    generalize w3.heap.size = rp at *
    generalize w2.heap.size + 1 = p at *
    generalize w2.heap.size = m at *
    go_loopg [6] n (fun g s6 wr => ∃ k : Nat, k ≤ n ∧ n - k ≤ g ∧ s6 = .int .i64 k ∧ Hid (∃ v d, SsSt W p m rp v d d wr ∧ d.many ≤ (k : Int)))
    case atStart => exact ⟨0, Nat.zero_le _, by omega, rfl, ⟨_, _, HSt.out, Int.le_refl _⟩⟩
    case round =>
      obtain ⟨k, hk, hg, rfl, HK⟩ := hrel
      obtain ⟨vd, d, hst, hmany⟩ := HK.out
      have HSk := hide hst
      have HMa := hide hmany
      clear HK hst HSt hmany
      by_cases hlt : k < n
      · obtain ⟨b, o, rfl, hbw, hcs⟩ := HV.out (by omega)
        obtain ⟨x, hx⟩ : ∃ x, l[k]? = some x := ⟨l[k]'(by rw [HN.out]; exact hlt), List.getElem?_eq_getElem _⟩
        obtain ⟨⟨c0, c1, c2, c3, c4, c5, c6, c7, c8⟩, vf, c9, hvf⟩ := hcs k x hx
        have HX := hide (HS.out x (List.mem_of_getElem? hx))
        obtain ⟨kind, t, num, now, fl⟩ := x
        dsimp only at c0 c1 c2 c3 c4 c5 c6 c7 c8 c9 hvf HX
        obtain ⟨fa, fn, fc, rfl⟩ : ∃ x y z, vf = .slice x y z := by obtain ⟨x, z, e, _⟩ := hvf.form; exact ⟨x, _, z, e⟩
        have d0 := HSk.out.cell (q := ⟨b, o + k * 10, none⟩) hbw c0
        have d1 := HSk.out.cell (q := ⟨b, o + k * 10 + 1, none⟩) hbw c1
        have d2 := HSk.out.cell (q := ⟨b, o + k * 10 + 2, none⟩) hbw c2
        have d3 := HSk.out.cell (q := ⟨b, o + k * 10 + 3, none⟩) hbw c3
        have d4 := HSk.out.cell (q := ⟨b, o + k * 10 + 4, none⟩) hbw c4
        have d5 := HSk.out.cell (q := ⟨b, o + k * 10 + 5, none⟩) hbw c5
        have d6 := HSk.out.cell (q := ⟨b, o + k * 10 + 6, none⟩) hbw c6
        have d7 := HSk.out.cell (q := ⟨b, o + k * 10 + 7, none⟩) hbw c7
        have d8 := HSk.out.cell (q := ⟨b, o + k * 10 + 8, none⟩) hbw c8
        have d9 := HSk.out.cell (q := ⟨b, o + k * 10 + 9, none⟩) hbw c9
        have HVf := hide hvf
        have hBt : Below wr.heap.size wr (wr.alloc (dlO kind t num now (.slice fa fn fc))) := (Below.refl _ wr).alloc (Nat.le_refl _) _
        have hr5 : (wr.alloc (dlO kind t num now (.slice fa fn fc))).heap[wr.heap.size]? = some (dlO kind t num now (.slice fa fn fc)) := heap_alloc_new _ _
        have HS5 := hide (HSk.out.less hBt)
        have HR5 := hide hr5
        obtain ⟨x0, x1, x2, x3, x4, x5, x6, x7, x8, x9⟩ := dl_row hr5
        have hM : d.many ≤ 1000000 := by have := HMa.out; omega
        have HM := hide hM
        clear c0 c1 c2 c3 c4 c5 c6 c7 c8 c9 hvf hcs hx hbw hBt hr5 hM
        cases hk1 : (kind.toList == [111, 112, 101, 110]) with
        | true =>
          have HA := hide (SsSt.openD a HS5.out HE.out t now HX.out.1.1 HX.out.1.2 HM.out)
          rw [tk_val] at HA
          have HB : Hid (∀ w d1, SsSt W p m rp vd d d1 w → Calls Tryz.prog 8 #[.pointer (some ⟨rp, 0, none⟩), t.val, .int .i64 now] w fun e w' => e = .returned (.tuple #[.int .i64 (if openO d.l t now = 0 then d.many + 1 else 0), .int .i64 (openO d.l t now : Int)]) ∧ ∃ v', SsSt W p m rp v' (d.opens t now) d1 w' ∧ KeptD (fun k => k = rp ∨ vd.ownBlock = some k) w w') := fun w d1 h => h.openR t now HX.out.1.1 HX.out.1.2 HM.out
          rw [tk_val] at HB
          have HCo : Hid (∀ w v d1 d2, SsSt W p m rp v d1 d2 w → Calls Tryz.prog 9 #[errV a (openO d.l t now), .int .i64 (openO d.l t now : Int)] w fun e w' => e = .returned (.bool true) ∧ Below w.heap.size w w') := fun w v d1 d2 h => h.coded a HE.out _ (openO_small _ _ _)
          have hmn : (d.opens t now).many ≤ ((k + 1 : Nat) : Int) := Int.le_trans (opens_many t now) (by have := HMa.out; omega)
          have HMn := hide hmn
          clear hmn
          generalize (if openO d.l t now = 0 then d.many + 1 else 0) = nn at *
          generalize errV a (openO d.l t now) = ev at *
          generalize (openO d.l t now : Int) = cn at *
          generalize d.opens t now = d2 at *
          go_wp2_with fail
          refine HA.out.mono ?_
          rintro e w6 ⟨rfl, hst, hkp⟩
          have HS6 := hide hst
          have HR6 : Hid (w6.heap[wr.heap.size]? = some (dlO kind t num now (.slice fa fn fc))) := HSk.out.besideD HR5.out hkp
          obtain ⟨y0, y1, y2, y3, y4, y5, y6, y7, y8, y9⟩ := dl_row HR6.out
          clear hst hkp HA x0 x1 x2 x3 x4 x5 x6 x7 x8 x9
          go_wp2_with fail
          refine (HB.out _ _ HS6.out).mono ?_
          rintro e w7 ⟨rfl, v7, hst, hkp⟩
          have HS7 := hide hst
          clear hst hkp HB y0 y1 y2 y3 y4 y5 y6 y7 y8 y9
          go_wp2_with fail
          refine (HCo.out _ _ _ _ HS7.out).mono ?_
          rintro e w8 ⟨rfl, hb⟩
          have HS8 : Hid (∃ v d, SsSt W p m rp v d d w8 ∧ d.many ≤ ((k + 1 : Nat) : Int)) := ⟨_, _, HS7.out.less hb, HMn.out⟩
          clear hb HCo
          go_wp2
          go_roundg (n - (k + 1))
          case measure => omega
          case rel => exact ⟨k + 1, by omega, Nat.le_refl _, by go_num, HS8⟩
        | false =>
          cases hk2 : (kind.toList == [97, 115, 107]) with
          | true =>
            have HA := hide (deAsk_any a p m d num now (wr.alloc (dlO kind t num now (.slice fa fn fc))) HS5.out.desk ((HE.out.below HS5.out.below).ev _) HX.out.2.2.2)
            have HB : Hid (∀ w d1, SsSt W p m rp vd d d1 w → Calls Tryz.prog 11 #[.pointer (some ⟨rp, 0, none⟩), .int .i64 num, .int .i64 now] w fun e w' => e = .returned (.tuple #[(askK d.l num now).val, .int .i64 (askO d.l num now : Int)]) ∧ Below w.heap.size w w') := fun w d1 h => refAskD_any rp vd d num now w h.ref (Nat.le_trans h.good.few (by decide)) h.good.len
            have HCo : Hid (∀ w v d1 d2, SsSt W p m rp v d1 d2 w → Calls Tryz.prog 9 #[errV a (askO d.l num now), .int .i64 (askO d.l num now : Int)] w fun e w' => e = .returned (.bool true) ∧ Below w.heap.size w w') := fun w v d1 d2 h => h.coded a HE.out _ (askO_small _ _ _)
            generalize askK d.l num now = tk at *
            generalize errV a (askO d.l num now) = ev at *
            generalize (askO d.l num now : Int) = cn at *
            rw [tk_val] at HA
            simp only [tk_val] at HB
            go_wp2_with fail
            refine HA.out.mono ?_
            rintro e w6 ⟨rfl, hb⟩
            have hB6 : Below w6.heap.size w6 (w6.alloc (tkO tk)) := (Below.refl _ _).alloc (Nat.le_refl _) _
            have HS6 := hide ((HS5.out.less hb).less hB6)
            have HR6 : Hid ((w6.alloc (tkO tk)).heap[wr.heap.size]? = some (dlO kind t num now (.slice fa fn fc))) := (hB6.block _ (row_lt ((hb.block _ (row_lt HR5.out)).trans HR5.out))).trans ((hb.block _ (row_lt HR5.out)).trans HR5.out)
            have HT6 : Hid ((w6.alloc (tkO tk)).heap[w6.heap.size]? = some (tkO tk)) := heap_alloc_new _ _
            obtain ⟨y0, y1, y2, y3, y4, y5, y6, y7, y8, y9⟩ := dl_row HR6.out
            clear hb hB6 HA x0 x1 x2 x3 x4 x5 x6 x7 x8 x9
            go_wp2_with fail
            refine (HB.out _ _ HS6.out).mono ?_
            rintro e w7 ⟨rfl, hb⟩
            have hB7 : Below w7.heap.size w7 (w7.alloc (tkO tk)) := (Below.refl _ _).alloc (Nat.le_refl _) _
            have HS7 := hide ((HS6.out.less hb).less hB7)
            have HT7 : Hid ((w7.alloc (tkO tk)).heap[w6.heap.size]? = some (tkO tk)) := (hB7.block _ (row_lt ((hb.block _ (row_lt HT6.out)).trans HT6.out))).trans ((hb.block _ (row_lt HT6.out)).trans HT6.out)
            have HU7 : Hid ((w7.alloc (tkO tk)).heap[w7.heap.size]? = some (tkO tk)) := heap_alloc_new _ _
            clear hb hB7 HB y0 y1 y2 y3 y4 y5 y6 y7 y8 y9
            go_wp2_with fail
            refine (HCo.out _ _ _ _ HS7.out).mono ?_
            rintro e w8 ⟨rfl, hb⟩
            have HS8 : Hid (∃ v d, SsSt W p m rp v d d w8 ∧ d.many ≤ ((k + 1 : Nat) : Int)) := ⟨_, _, HS7.out.less hb, by have := HMa.out; omega⟩
            obtain ⟨z0, z1, z2, z3, z4, z5⟩ := tk_row (w := w8) ((hb.block _ (row_lt HT7.out)).trans HT7.out)
            obtain ⟨q0, q1, q2, q3, q4, q5⟩ := tk_row (w := w8) ((hb.block _ (row_lt HU7.out)).trans HU7.out)
            clear hb HCo
            go_wp2
            go_roundg (n - (k + 1))
            case measure => omega
            case rel => exact ⟨k + 1, by omega, Nat.le_refl _, by go_num, HS8⟩
          | false =>
            cases hk3 : (kind.toList == [99, 108, 111, 115, 101]) with
            | true =>
              have HS6 := hide (HS5.out.less ((Below.refl _ _).drew))
              have hr6 : (wr.alloc (dlO kind t num now (.slice fa fn fc))).drew.heap[wr.heap.size]? = some (dlO kind t num now (.slice fa fn fc)) := HR5.out
              have HR6 := hide hr6
              have HA := hide (SsSt.closeD a HS6.out HE.out num HX.out.2.2.2)
              have HB : Hid (∀ w d1, SsSt W p m rp vd d d1 w → Calls Tryz.prog 13 #[.pointer (some ⟨rp, 0, none⟩), .int .i64 num] w fun e w' => e = .returned (.int .i64 (closeO d.l num : Int)) ∧ ∃ v', SsSt W p m rp v' ⟨d.many, closeL d.l num⟩ d1 w' ∧ KeptD (fun k => k = rp ∨ vd.ownBlock = some k) w w') := fun w d1 h => h.closeR num
              have HCo : Hid (∀ w v d1 d2, SsSt W p m rp v d1 d2 w → Calls Tryz.prog 9 #[errV a (closeO d.l num), .int .i64 (closeO d.l num : Int)] w fun e w' => e = .returned (.bool true) ∧ Below w.heap.size w w') := fun w v d1 d2 h => h.coded a HE.out _ (closeO_small _ _)
              have HRb : Hid (∀ w1 w2, w1.heap[wr.heap.size]? = some (dlO kind t num now (.slice fa fn fc)) → KeptD (fun k => k = p ∨ k = m) w1 w2 → w2.heap[wr.heap.size]? = some (dlO kind t num now (.slice fa fn fc))) := fun w1 w2 h1 h2 => HSk.out.besideD h1 h2
              have HRc : Hid (∀ w1 w2, w1.heap[wr.heap.size]? = some (dlO kind t num now (.slice fa fn fc)) → KeptD (fun k => k = rp ∨ vd.ownBlock = some k) w1 w2 → w2.heap[wr.heap.size]? = some (dlO kind t num now (.slice fa fn fc))) := fun w1 w2 h1 h2 => HSk.out.besideR h1 h2
              generalize errV a (closeO d.l num) = ev at *
              generalize (closeO d.l num : Int) = cn at *
              go_wp2_with fail
              go_region_held3 (fun w' => w'.cell? ⟨wr.heap.size, 7, none⟩ = some (.int .i64 num)) (first | go_keep | assumption)
                (first
                  | (go_at_call 12; refine HA.out.mono ?_; rintro e w6 ⟨rfl, hst, hkp⟩; have HS7 := hide hst; have HR7 := hide (HRb.out _ _ HR6.out hkp); have e7 := (dl_row HR7.out).2.2.2.2.2.2.2.1; clear hst hkp)
                  | (go_at_call 13; refine (HB.out _ _ HS7.out).mono ?_; rintro e w7 ⟨rfl, v7, hst, hkp⟩; have HS8 := hide hst; have HR8 := hide (HRc.out _ _ HR7.out hkp); have e8 := (dl_row HR8.out).2.2.2.2.2.2.2.1; clear hst hkp)
                  | (go_at_call 9; refine (HCo.out _ _ _ _ HS8.out).mono ?_; rintro e w8 ⟨rfl, hb⟩; have HS9 := hide (HS8.out.less hb); have e9 := (dl_row (w := w8) ((hb.block _ (row_lt HR8.out)).trans HR8.out)).2.2.2.2.2.2.2.1; clear hb))
              all_goals
                have HSn : Hid (∃ v d, SsSt W p m rp v d d w8 ∧ d.many ≤ ((k + 1 : Nat) : Int)) := ⟨_, _, HS9.out, by have := HMa.out; show d.many ≤ _; omega⟩
                go_wp2
                go_roundg (n - (k + 1))
                case measure => omega
                case rel => exact ⟨k + 1, by omega, Nat.le_refl _, by go_num, HSn⟩
            | false =>
              have HS6 := hide (HS5.out.less ((Below.refl _ _).drew))
              have hr6 : (wr.alloc (dlO kind t num now (.slice fa fn fc))).drew.heap[wr.heap.size]? = some (dlO kind t num now (.slice fa fn fc)) := HR5.out
              have HR6 := hide hr6
              have HOF := hide (ownFloors_any (.slice fa fn fc) fl (wr.alloc (dlO kind t num now (.slice fa fn fc))).drew (HVf.out.below HS6.out.below) HX.out.2.2.1)
              have HA : Hid (∀ w vf, SsSt W p m rp vd d d w → FlAt w vf fl → Calls Tryz.prog 14 #[.pointer (some ⟨p, 0, none⟩), vf, .int .i64 now] w fun e w' => ∃ x ev, e = .returned (.tuple #[x, ev]) ∧ FlErr a w' (sweepC fl now) ev ∧ OwnNum w' w.heap.size x (d.ended fl now) ∧ SsSt W p m rp vd d (d.swept fl now) w' ∧ KeptD (fun k => k = p ∨ k = m) w w') := fun w vf h hf => h.sweepD a HE.out vf fl now hf HX.out.2.1 HX.out.2.2.1
              have HB : Hid (∀ w d1, SsSt W p m rp vd d d1 w → Calls Tryz.prog 16 #[.pointer (some ⟨rp, 0, none⟩), (.slice fa fn fc), .int .i64 now] w fun e w' => ∃ x, e = .returned (.tuple #[x, fltV (sweepC fl now)]) ∧ OwnNum w' w.heap.size x (d.ended fl now) ∧ ∃ v', SsSt W p m rp v' (d.swept fl now) d1 w' ∧ KeptD (fun k => k = rp ∨ vd.ownBlock = some k) w w') := fun w d1 h => h.sweepR (.slice fa fn fc) fl now (HVf.out.below h.below) HX.out.2.1 HX.out.2.2.1
              have HFa : Hid (∀ w v d1 d2 ev, SsSt W p m rp v d1 d2 w → FlErr a w (sweepC fl now) ev → Calls Tryz.prog 17 #[ev, fltV (sweepC fl now)] w fun e w' => e = .returned (.bool true) ∧ Below w.heap.size w w') := fun w v d1 d2 ev h he => faulted_fl (HE.out.below h.below) he (sweepC_small _ _) sweepC_zero
              have hel : (d.ended fl now).length ≤ 1000000 := by
                unfold Dk.ended
                split
                · unfold sweepN
                  rw [List.length_map]
                  exact Nat.le_trans (List.length_filter_le _ _) (Nat.le_trans HSk.out.good.few (by decide))
                · exact Nat.zero_le _
              have HSm := hide (fun v1 v2 w => sameNum_any (d.ended fl now) v1 v2 w hel)
              have hmn : (d.swept fl now).many ≤ ((k + 1 : Nat) : Int) := by rw [swept_many]; have := HMa.out; omega
              have HMn := hide hmn
              have HRb : Hid (∀ w1 w2, w1.heap[wr.heap.size]? = some (dlO kind t num now (.slice fa fn fc)) → KeptD (fun k => k = p ∨ k = m) w1 w2 → w2.heap[wr.heap.size]? = some (dlO kind t num now (.slice fa fn fc))) := fun w1 w2 h1 h2 => HSk.out.besideD h1 h2
              clear hmn hel hr6
              generalize d.swept fl now = d2 at *
              generalize d.ended fl now = en at *
              generalize sweepC fl now = cc at *
              unfold fltV at HB HFa
              obtain ⟨cc1, cc2⟩ := cc
              dsimp only at HB HFa
              generalize (cc1 : Int) = ci at HB HFa
              go_wp2_with fail
              go_region_held3 (fun w' => w'.cell? ⟨wr.heap.size, 9, none⟩ = some (.slice fa fn fc) ∧ w'.cell? ⟨wr.heap.size, 8, none⟩ = some (.int .i64 now)) (first | go_keep | assumption)
                (first
                  | (go_at_call 15; refine HOF.out.mono ?_; rintro e w6 ⟨vo, rfl, hof, hb⟩; have HS7 := hide (HS6.out.less hb); have HR7 := hide ((hb.block _ (row_lt HR6.out)).trans HR6.out); have HOf := hide hof.flAt; have e7 := (dl_row (w := w6) HR7.out).2.2.2.2.2.2.2.2.1; have e8 := (dl_row (w := w6) HR7.out).2.2.2.2.2.2.2.2.2; clear hof hb)
                  | (go_at_call 14; refine (HA.out _ _ HS7.out HOf.out).mono ?_; rintro e w7 ⟨xx, ev, rfl, hfe, hon, hst, hkp⟩; have HS8 := hide hst; have HR8 := hide (HRb.out _ _ HR7.out hkp); have HFe := hide hfe; have HOn := hide hon; have e9 := (dl_row (w := w7) HR8.out).2.2.2.2.2.2.2.2.1; have e10 := (dl_row (w := w7) HR8.out).2.2.2.2.2.2.2.2.2; clear hfe hon hst hkp))
              all_goals
                obtain ⟨y0, y1, y2, y3, y4, y5, y6, y7, y8, y9⟩ := dl_row (w := w7) HR8.out
                go_wp2_with fail
                refine (HB.out _ _ HS8.out).mono ?_
                rintro e w8 ⟨xr, rfl, hor, v8, hst, hkp⟩
                have hFe8 := HFe.out.keptR HS8.out hkp
                have hOn8 : OwnNum w8 w6.heap.size xx en := num_keep HOn.out (fun g hg => hkp.block g (HOn.out.lt g hg).2 (by
                  have h1 := (HOn.out.lt g hg).1
                  rintro (e | e)
                  · have := HS7.out.apart _ (Or.inr (Or.inr (Or.inl e))); omega
                  · have := HS7.out.apart _ (Or.inr (Or.inr (Or.inr e))); omega))
                have hBf : Below w8.heap.size w8 (w8.alloc (ftO (.int .i64 ci) (.int .i64 cc2))) := (Below.refl _ _).alloc (Nat.le_refl _) _
                have HS9 := hide (hst.less hBf)
                have HFe9 := hide (hFe8.below hBf)
                have HX9 := hide ((own_num hOn8).below hBf)
                have HY9 := hide ((own_num hor).below hBf)
                obtain ⟨z0, z1, _, _⟩ := ft_row (W := w8.alloc (ftO (.int .i64 ci) (.int .i64 cc2))) (heap_alloc_new _ _)
                clear hor hst hkp hFe8 hOn8 hBf y0 y1 y2 y3 y4 y5 y6 y7 y8 y9
                go_wp2_with fail
                refine (HFa.out _ _ _ _ _ HS9.out HFe9.out).mono ?_
                rintro e w10 ⟨rfl, hb⟩
                have HX10 := hide (HX9.out.below hb)
                have HY10 := hide (HY9.out.below hb)
                have HS10 := hide (HS9.out.less hb)
                clear hb HFe9 HFa
                go_wp2_with fail
                refine (HSm.out _ _ _ HX10.out HY10.out).mono ?_
                rintro e w11 ⟨rfl, hb⟩
                have HSn : Hid (∃ v d, SsSt W p m rp v d d w11 ∧ d.many ≤ ((k + 1 : Nat) : Int)) := ⟨_, _, HS10.out.less hb, HMn.out⟩
                clear hb HSm
                go_wp2
                go_roundg (n - (k + 1))
                case measure => omega
                case rel => exact ⟨k + 1, by omega, Nat.le_refl _, by go_num, HSn⟩
      ·
        have HCp := hide (deCopy_any p m d wr HSk.out.desk)
        have hl6 : (d.l.map Os.n).length ≤ 1000000 := by rw [List.length_map]; exact Nat.le_trans HSk.out.good.few (by decide)
        have HSm := hide (fun v1 v2 w => sameNum_any (d.l.map Os.n) v1 v2 w hl6)
        have HAd : Hid (∀ w, Below wr.heap.size wr w → Calls Tryz.prog 20 #[.pointer (some ⟨p, 0, none⟩)] w fun e w' => ∃ y, e = .returned y ∧ NumAt w' y (d.l.map Os.n) ∧ Below w.heap.size w w') := fun w hb => (deAll_any p m d w (HSk.out.desk.below hb)).mono fun _ _ ⟨y, h1, h2, h3⟩ => ⟨y, h1, own_num h2, h3⟩
        have HRd : Hid (∀ w, Below wr.heap.size wr w → Calls Tryz.prog 21 #[.pointer (some ⟨rp, 0, none⟩)] w fun e w' => ∃ y, e = .returned y ∧ NumAt w' y (d.l.map Os.n) ∧ Below w.heap.size w w') := fun w hb => (refAllD_any rp vd d w (HSk.out.ref.below hb) HSk.out.good.few).mono fun _ _ ⟨y, h1, h2, h3⟩ => ⟨y, h1, own_num h2, h3⟩
        have HCa : Hid (∀ w b c, DeskAt w b c d → Calls Tryz.prog 20 #[.pointer (some ⟨b, 0, none⟩)] w fun e w' => ∃ y, e = .returned y ∧ NumAt w' y (d.l.map Os.n) ∧ Below w.heap.size w w') := fun w b c h => (deAll_any b c d w h).mono fun _ _ ⟨y, h1, h2, h3⟩ => ⟨y, h1, own_num h2, h3⟩
        have HBw := hide HSk.out.below
        clear hl6
        generalize d.l.map Os.n = en at *
        go_wp2_with fail
        refine HCp.out.mono ?_
        rintro e w5 ⟨bc, cm, rfl, hD, hb⟩
        have HB5 := hide hb
        have HD5 := hide hD
        clear hb hD HCp
        go_wp2_with fail
        refine (HAd.out _ HB5.out).mono ?_
        rintro e w6 ⟨y1, rfl, hy, hb⟩
        have HB6 : Hid (Below wr.heap.size wr w6) := HB5.out.trans (hb.mono HB5.out.size)
        have HY6 := hide hy
        have HD6 := hide (HD5.out.below hb)
        clear hb hy
        go_wp2_with fail
        refine (HRd.out _ HB6.out).mono ?_
        rintro e w7 ⟨y2, rfl, hy, hb⟩
        have HB7 : Hid (Below wr.heap.size wr w7) := HB6.out.trans (hb.mono HB6.out.size)
        have HSm7 := hide (HSm.out _ _ _ (HY6.out.below hb) hy)
        have HD7 := hide (HD6.out.below hb)
        clear hb hy HY6
        go_wp2_with fail
        refine HSm7.out.mono ?_
        rintro e w8 ⟨rfl, hb⟩
        have HB8 : Hid (Below wr.heap.size wr w8) := HB7.out.trans (hb.mono HB7.out.size)
        have HAc := hide (HCa.out _ _ _ (HD7.out.below hb))
        clear hb
        go_wp2_with fail
        refine HAc.out.mono ?_
        rintro e w9 ⟨y3, rfl, hy, hb⟩
        have HB9 : Hid (Below wr.heap.size wr w9) := HB8.out.trans (hb.mono HB8.out.size)
        have HY9 := hide hy
        clear hb hy HAc
        go_wp2_with fail
        refine (HRd.out _ HB9.out).mono ?_
        rintro e w10 ⟨y4, rfl, hy, hb⟩
        have HB10 : Hid (Below wr.heap.size wr w10) := HB9.out.trans (hb.mono HB9.out.size)
        have HSm10 := hide (HSm.out _ _ _ (HY9.out.below hb) hy)
        clear hb hy HY9
        go_wp2_with fail
        refine HSm10.out.mono ?_
        rintro e w11 ⟨rfl, hb⟩
        have HB11 : Hid (Below W.heap.size W w11) := HBw.out.trans ((HB10.out.trans (hb.mono HB10.out.size)).mono HBw.out.size)
        clear hb
        go_wp2
        go_ret
        exact ⟨rfl, HB11.out⟩
end Go.Proofs.YteabincmopeljaeGreatDoor

/-
  SessionSwept: behind a sweep all that are open are good, and pass; what ended is told, and nothing else ended; numbers only rise: with whatever deals, whatever floors, at whatever time.
-/
import Derived.Test.YteabincmopeljadDoorSessWake
import Derived.Test.YteabincmopeljadDoorFloorLaw
import Derived.BigQuiet
import Derived.Deep.RegionHeld3
import Derived.Deep.CutBlock
import Derived.Deep.DeepCutAuto
namespace Go.Proofs.YteabincmopeljadDoor
open Go Go.RowKit Go.Extern.Stop Go.Stop Go.Extern Go.Proofs

/-- A desk over the world of before. -/
structure OneSt (W : World) (p m : Nat) (d : Dk) (w : World) : Prop where
  desk : DeskAt w p m d
  below : Below W.heap.size W w
  old : W.heap.size ≤ p ∧ W.heap.size ≤ m
section
variable {W : World} {p m : Nat} {d : Dk} {w w' : World}
theorem OneSt.less (h : OneSt W p m d w) (hb : Below w.heap.size w w') : OneSt W p m d w' := ⟨h.desk.below hb, h.below.trans (hb.mono h.below.size), h.old⟩
theorem OneSt.turn {d2 : Dk} (h : OneSt W p m d w) (hp : DeskPost w p m d2 w') : OneSt W p m d2 w' := by
  obtain ⟨o1, o2⟩ := h.old
  exact ⟨hp.1, below_kept h.below hp.2 (Nat.le_refl _) (by omega), h.old⟩
theorem OneSt.cell (h : OneSt W p m d w) {q : Addr} {x : Value} (hq : q.block < W.heap.size) (hx : W.cell? q = some x) : w.cell? q = some x :=
  (h.below.cell hq).trans hx
theorem NumAt.turned {v : Value} {xs : List Int} (h : DeskAt w p m d) (hg : w.grownBy w' (some m)) (hn : NumAt w v xs) : NumAt w' v xs := by
  obtain ⟨ad, c, h1, h2, h3⟩ := hn
  refine ⟨ad, c, h1, h2, ?_⟩
  rcases h3 with h3 | ⟨b, o, h4, h5⟩
  · exact Or.inl h3
  · exact Or.inr ⟨b, o, h4, fun j x hj => map_cell h hg (h5 j x hj)⟩
end
theorem swept_parts (fl : List Fl) (now : Int) (L : List Os) : (sweepN fl now L).length + (sweepL fl now L).length = L.length := by
  unfold sweepN sweepL
  rw [List.length_map]
  induction L with
  | nil => rfl
  | cons o L ih =>
    cases h : staysO fl now o
    · rw [List.filter_cons_of_pos (by simp [h]), List.filter_cons_of_neg (by simp [h])]
      simp only [List.length_cons]
      omega
    · rw [List.filter_cons_of_neg (by simp [h]), List.filter_cons_of_pos h]
      simp only [List.length_cons]
      omega
theorem swept_one {fl : List Fl} {now : Int} {L : List Os} (hr : L.Pairwise (fun x y => x.n < y.n)) {x : Int} (hx : x ∈ L.map Os.n) : decide (x ∈ sweepN fl now L) = !decide (x ∈ (sweepL fl now L).map Os.n) := by
  obtain ⟨o, ho, rfl⟩ := List.mem_map.1 hx
  have hu : ∀ q ∈ L, q.n = o.n → q = o := fun q hq e => by
    have h1 := findO_mem hr hq
    have h2 := findO_mem hr ho
    rw [e, h2] at h1
    exact (Option.some.inj h1).symm
  cases hs : staysO fl now o
  · have h1 : o.n ∈ sweepN fl now L := List.mem_map.2 ⟨o, List.mem_filter.2 ⟨ho, by simp [hs]⟩, rfl⟩
    have h2 : ¬ o.n ∈ (sweepL fl now L).map Os.n := fun h => by
      obtain ⟨q, hq, e⟩ := List.mem_map.1 h
      obtain ⟨h3, h4⟩ := List.mem_filter.1 hq
      rw [hu q h3 e, hs] at h4
      cases h4
    rw [decide_eq_true h1, decide_eq_false h2]; rfl
  · have h1 : o.n ∈ (sweepL fl now L).map Os.n := List.mem_map.2 ⟨o, List.mem_filter.2 ⟨ho, hs⟩, rfl⟩
    have h2 : ¬ o.n ∈ sweepN fl now L := fun h => by
      obtain ⟨q, hq, e⟩ := List.mem_map.1 h
      obtain ⟨h3, h4⟩ := List.mem_filter.1 hq
      rw [hu q h3 e, hs] at h4
      cases h4
    rw [decide_eq_true h1, decide_eq_false h2]; rfl

set_option maxRecDepth 100000 in
set_option maxHeartbeats 8000000 in
theorem sessSwept_law (a : Nat → Addr) (v : Value) (l : List Dl) (vf : Value) (fl : List Fl) (now : Int) (W : World) (hE : EV dsS a W) (hv : DlIn W v l) (hfine : ∀ m ∈ l, (m.t.who.size ≤ maxLen ∧ m.t.dst.size ≤ maxLen) ∧ (∀ f ∈ m.f, f.who.size ≤ maxLen) ∧ NumOk m.n) (hf : FlAt W vf fl) :
    Calls Tryd.prog 5 #[v, vf, .int .i64 now] W fun e w' => e = .returned (.bool true) ∧ Below W.heap.size W w' := by
  have HOp := hide (opened_any a W hE)
  have HLong := hide (fun w hb => longDeals_any v l w (hv.below hb) (fun m hm => (hfine m hm).1))
  have HLf := hide (fun w hb => longFloors_any vf fl w (hf.below hb))
  have HE := hide hE
  have HF := hide hf
  have HFine := hide hfine
  obtain ⟨ad, cap, rfl, hcap, hcell⟩ := hv
  have HV := hide hcell
  have HNo := hide (fun h => longDl_no (l := l) h)
  have HNf := hide (fun h => longF_no (l := fl) h)
  generalize hn : l.length = n at *
  have HN := hide hn
  clear hE hcell hn hfine hf
  go_enter Tryd.func5, Tryd.ntmps5
  go_wp2_with fail
  refine HOp.out.mono ?_
  rintro e w1 ⟨rfl, hb⟩
  have HB1 := hide hb
  clear hb HOp
  go_wp2_with fail
  refine (HLong.out w1 HB1.out).mono ?_
  rintro e w2 ⟨rfl, hb⟩
  have HB2 : Hid (Below W.heap.size W w2) := HB1.out.trans (hb.mono HB1.out.size)
  clear HLong hb HB1
  cases hlw : longDl l with
  | true =>
    go_wp2
    go_ret
    exact ⟨rfl, HB2.out⟩
  | false =>
    go_wp2_with fail
    refine (HLf.out w2 HB2.out).mono ?_
    rintro e w2' ⟨rfl, hww⟩
    subst hww
    clear HLf
    cases hlf : longF fl with
    | true =>
      rw [if_pos rfl]
      go_wp2
      go_ret
      exact ⟨rfl, HB2.out⟩
    | false =>
      rw [if_neg (by decide)]
      obtain ⟨hn80, hsz⟩ := HNo.out hlw
      obtain ⟨hfl, hfs⟩ := HNf.out hlf
      have HFs : Hid (∀ f ∈ fl, f.who.size ≤ maxLen) := fun f hq => by have := hfs f hq; unfold maxLen; omega
      have HFl : Hid (fl.length ≤ 1000000) := Nat.le_trans hfl (by decide)
      have HNew := hide (deNew_any w2')
      clear HNo HNf hlw hsz hlf hfl hfs
      go_wp2_with fail
      refine HNew.out.mono ?_
      rintro e w3 ⟨rfl, hD, hb⟩
      have HSt : Hid (OneSt W (w2'.heap.size + 1) w2'.heap.size ⟨0, []⟩ w3) := by
        have h2 := HB2.out.size
        exact ⟨hD, HB2.out.trans (hb.mono HB2.out.size), by omega, by omega⟩
      clear hb hD HNew HB2
      go_wp2
      generalize w2'.heap.size + 1 = p at *
      generalize w2'.heap.size = m at *
      go_loopg [9, 10] n (fun g s9 s10 wr => ∃ (k : Nat) (last : Int), k ≤ n ∧ n - k ≤ g ∧ s10 = .int .i64 k ∧ s9 = .int .i64 last ∧ Hid (∃ d, OneSt W p m d wr ∧ d.many ≤ (k : Int) ∧ last ≤ d.many))
      case atStart => exact ⟨0, 0, Nat.zero_le _, by omega, rfl, rfl, ⟨_, HSt.out, Int.le_refl _, Int.le_refl _⟩⟩
      case round =>
        obtain ⟨k, last, hk, hg, rfl, rfl, HK⟩ := hrel
        obtain ⟨d, hst, hmany, hlast⟩ := HK.out
        have HSk := hide hst
        have HMa := hide hmany
        have HLa := hide hlast
        clear HK hst HSt hmany hlast
        by_cases hlt : k < n
        · obtain ⟨b, o, rfl, hbw, hcs⟩ := HV.out (by omega)
          obtain ⟨x, hx⟩ : ∃ x, l[k]? = some x := ⟨l[k]'(by rw [HN.out]; exact hlt), List.getElem?_eq_getElem _⟩
          obtain ⟨⟨c0, c1, c2, c3, c4, c5, c6, c7, c8⟩, _⟩ := hcs k x hx
          have HX := hide (HFine.out x (List.mem_of_getElem? hx))
          obtain ⟨kind, t, num, tm, fx⟩ := x
          dsimp only at c0 c1 c2 c3 c4 c5 c6 c7 c8 HX
          have HC : Hid (∀ w d, OneSt W p m d w → w.cell? ⟨b, o + k * 10 + 1, none⟩ = some (.string t.who) ∧ w.cell? ⟨b, o + k * 10 + 2, none⟩ = some (.string t.dst) ∧ w.cell? ⟨b, o + k * 10 + 3, none⟩ = some (.int .i64 t.epoch) ∧ w.cell? ⟨b, o + k * 10 + 4, none⟩ = some (.int .i64 t.frm) ∧ w.cell? ⟨b, o + k * 10 + 5, none⟩ = some (.int .i64 t.til) ∧ w.cell? ⟨b, o + k * 10 + 6, none⟩ = some (.int .i64 t.ser) ∧ w.cell? ⟨b, o + k * 10 + 8, none⟩ = some (.int .i64 tm)) := fun w d h =>
            ⟨h.cell (q := ⟨b, o + k * 10 + 1, none⟩) hbw c1, h.cell (q := ⟨b, o + k * 10 + 2, none⟩) hbw c2, h.cell (q := ⟨b, o + k * 10 + 3, none⟩) hbw c3, h.cell (q := ⟨b, o + k * 10 + 4, none⟩) hbw c4, h.cell (q := ⟨b, o + k * 10 + 5, none⟩) hbw c5, h.cell (q := ⟨b, o + k * 10 + 6, none⟩) hbw c6, h.cell (q := ⟨b, o + k * 10 + 8, none⟩) hbw c8⟩
          have d0 := HSk.out.cell (q := ⟨b, o + k * 10, none⟩) hbw c0
          have d7 := HSk.out.cell (q := ⟨b, o + k * 10 + 7, none⟩) hbw c7
          have hM : d.many ≤ 1000000 := by have := HMa.out; omega
          have HM := hide hM
          have hkc : k < cap := by omega
          clear c0 c1 c2 c3 c4 c5 c6 c7 c8 hcs hx hbw hM
          cases hk1 : (kind.toList == [111, 112, 101, 110]) with
          | true =>
            have HS6 := hide (HSk.out.less ((Below.refl _ _).drew))
            have HA := hide (deOpen_any a p m d t tm wr.drew HS6.out.desk (HE.out.below HS6.out.below) HX.out.1.1 HX.out.1.2 HM.out)
            rw [tk_val] at HA
            have hmn : (d.opens t tm).many ≤ ((k + 1 : Nat) : Int) := Int.le_trans (opens_many t tm) (by have := HMa.out; omega)
            have HMn := hide hmn
            clear hmn d7
            obtain ⟨d1, d2, d3, d4, d5, d6, d8⟩ := HC.out _ _ HSk.out
            by_cases ho : openO d.l t tm = 0
            · have hdm : (d.opens t tm).many = d.many + 1 := by unfold Dk.opens; rw [if_pos ho]
              have HDm := hide hdm
              rw [ho, if_pos rfl, show errV a 0 = Value.nilIface from rfl] at HA
              have hle : ¬ d.many + 1 ≤ last := by have := HLa.out; omega
              clear ho hdm
              generalize d.opens t tm = dn at *
              generalize d.many + 1 = nn at *
              go_wp2_with fail
              go_region_held3 (fun w' => w'.cell? ⟨b, o + k * 10 + 1, none⟩ = some (.string t.who) ∧ w'.cell? ⟨b, o + k * 10 + 2, none⟩ = some (.string t.dst) ∧ w'.cell? ⟨b, o + k * 10 + 3, none⟩ = some (.int .i64 t.epoch) ∧ w'.cell? ⟨b, o + k * 10 + 4, none⟩ = some (.int .i64 t.frm) ∧ w'.cell? ⟨b, o + k * 10 + 5, none⟩ = some (.int .i64 t.til) ∧ w'.cell? ⟨b, o + k * 10 + 6, none⟩ = some (.int .i64 t.ser) ∧ w'.cell? ⟨b, o + k * 10 + 8, none⟩ = some (.int .i64 tm)) (first | go_keep | assumption)
                (first
                  | (go_at_call 20; refine HA.out.mono ?_; rintro e w6 ⟨rfl, hp⟩; have HS7 := hide (HS6.out.turn hp); obtain ⟨e1, e2, e3, e4, e5, e6, e8⟩ := HC.out _ _ HS7.out; clear hp))
              all_goals
                have HSn : Hid (∃ d, OneSt W p m d w6 ∧ d.many ≤ ((k + 1 : Nat) : Int) ∧ nn ≤ d.many) := ⟨_, HS7.out, HMn.out, by rw [HDm.out]; exact Int.le_refl _⟩
                clear HA d1 d2 d3 d4 d5 d6 d8
                go_wp2
                go_roundg (n - (k + 1))
                case measure => omega
                case rel => exact ⟨k + 1, nn, by omega, Nat.le_refl _, by go_num, rfl, HSn⟩
            · have hdm : d.opens t tm = d := by unfold Dk.opens; rw [if_neg ho]
              rw [if_neg ho, hdm, show errV a (openO d.l t tm) = eV (a (openO d.l t tm - 1)) by unfold errV; rw [if_neg ho]] at HA
              rw [hdm] at HMn
              generalize a (openO d.l t tm - 1) = ad1 at *
              clear ho hdm
              go_wp2_with fail
              go_region_held3 (fun w' => w'.cell? ⟨b, o + k * 10 + 1, none⟩ = some (.string t.who) ∧ w'.cell? ⟨b, o + k * 10 + 2, none⟩ = some (.string t.dst) ∧ w'.cell? ⟨b, o + k * 10 + 3, none⟩ = some (.int .i64 t.epoch) ∧ w'.cell? ⟨b, o + k * 10 + 4, none⟩ = some (.int .i64 t.frm) ∧ w'.cell? ⟨b, o + k * 10 + 5, none⟩ = some (.int .i64 t.til) ∧ w'.cell? ⟨b, o + k * 10 + 6, none⟩ = some (.int .i64 t.ser) ∧ w'.cell? ⟨b, o + k * 10 + 8, none⟩ = some (.int .i64 tm)) (first | go_keep | assumption)
                (first
                  | (go_at_call 20; refine HA.out.mono ?_; rintro e w6 ⟨rfl, hp⟩; have HS7 := hide (HS6.out.turn hp); obtain ⟨e1, e2, e3, e4, e5, e6, e8⟩ := HC.out _ _ HS7.out; clear hp))
              all_goals
                have HSn : Hid (∃ d, OneSt W p m d w6 ∧ d.many ≤ ((k + 1 : Nat) : Int) ∧ last ≤ d.many) := ⟨_, HS7.out, HMn.out, HLa.out⟩
                clear HA d1 d2 d3 d4 d5 d6 d8
                go_wp2
                go_roundg (n - (k + 1))
                case measure => omega
                case rel => exact ⟨k + 1, last, by omega, Nat.le_refl _, by go_num, rfl, HSn⟩
          | false =>
            cases hk2 : (kind.toList == [99, 108, 111, 115, 101]) with
            | true =>
              have HA := hide (deClose_any a p m d num wr HSk.out.desk (HE.out.below HSk.out.below) HX.out.2.2)
              generalize errV a (closeO d.l num) = ev at *
              go_wp2_with fail
              refine HA.out.mono ?_
              rintro e w6 ⟨rfl, h1, h2⟩
              have HSn : Hid (∃ d, OneSt W p m d w6 ∧ d.many ≤ ((k + 1 : Nat) : Int) ∧ last ≤ d.many) := ⟨_, HSk.out.turn (DeskPost.turn h1 h2), by have := HMa.out; show d.many ≤ _; omega, HLa.out⟩
              clear h1 h2 HA
              go_wp2
              go_roundg (n - (k + 1))
              case measure => omega
              case rel => exact ⟨k + 1, last, by omega, Nat.le_refl _, by go_num, rfl, HSn⟩
            | false =>
              have HSn : Hid (∃ d, OneSt W p m d wr ∧ d.many ≤ ((k + 1 : Nat) : Int) ∧ last ≤ d.many) := ⟨_, HSk.out, by have := HMa.out; omega, HLa.out⟩
              go_wp2
              go_roundg (n - (k + 1))
              case measure => omega
              case rel => exact ⟨k + 1, last, by omega, Nat.le_refl _, by go_num, rfl, HSn⟩
        ·
          have HAl := hide (deAll_any p m d wr HSk.out.desk)
          go_wp2_with fail
          refine HAl.out.mono ?_
          rintro e w5 ⟨y, rfl, hy, hb⟩
          have HS5 := hide (HSk.out.less hb)
          have HY5 := hide (own_num hy)
          clear hy hb HAl
          have HSw := hide (deSweep_any a p m d vf fl now w5 HS5.out.desk (HE.out.below HS5.out.below) (HF.out.below HS5.out.below) HFs.out HFl.out)
          have hM : d.many ≤ 80 := by have := HMa.out; omega
          have HM := hide hM
          have HGd := hide HSk.out.desk.good
          have hl6 : (d.l.map Os.n).length ≤ 1000000 := by rw [List.length_map]; exact Nat.le_trans HGd.out.few (by decide)
          have HL6 := hide hl6
          clear hM hl6
          go_wp2_with fail
          refine HSw.out.mono ?_
          intro e w6 hp
          unfold SwpPost at hp
          rcases hp with ⟨h0, et, eq, rfl, _, hb⟩ | ⟨h0, x, rfl, hx, hD, hg⟩
          · have HS6 := hide (HS5.out.less hb)
            have HY6 := hide (HY5.out.below hb)
            have HA2 := hide (deAll_any p m d w6 HS6.out.desk)
            clear h0 hb HSw
            go_wp2_with fail
            refine HA2.out.mono ?_
            rintro e w7 ⟨z, rfl, hz, hb⟩
            have HSm := hide (sameNum_any (d.l.map Os.n) y z w7 HL6.out (HY6.out.below hb) (own_num hz))
            have HS7 := hide (HS6.out.less hb)
            clear hz hb HA2
            go_wp2_with fail
            refine HSm.out.mono ?_
            rintro e w8 ⟨rfl, hb⟩
            have HB8 := hide (HS7.out.less hb).below
            clear hb HSm
            go_wp2
            go_ret
            exact ⟨rfl, HB8.out⟩
          · have HS6 : Hid (OneSt W p m ⟨d.many, sweepL fl now d.l⟩ w6) := HS5.out.turn (DeskPost.turn hD hg)
            have HY6 := hide (HY5.out.turned HS5.out.desk hg)
            have HX6 := hide (own_num hx)
            have HA2 := hide (deAll_any p m ⟨d.many, sweepL fl now d.l⟩ w6 hD)
            have HZ := hide h0
            clear h0 hx hD hg HSw
            go_wp2_with fail
            refine HA2.out.mono ?_
            rintro e w7 ⟨z, rfl, hz, hb⟩
            have HS7 := hide (HS6.out.less hb)
            have HY7 := hide (HY6.out.below hb)
            have HX7 := hide (HX6.out.below hb)
            have HZ7 : Hid (NumAt w7 z ((sweepL fl now d.l).map Os.n)) := own_num hz
            have hlen : (sweepN fl now d.l).length + ((sweepL fl now d.l).map Os.n).length = (d.l.map Os.n).length := by rw [List.length_map, List.length_map]; exact swept_parts fl now d.l
            have HOne : Hid (∀ x ∈ d.l.map Os.n, decide (x ∈ sweepN fl now d.l) = !decide (x ∈ (sweepL fl now d.l).map Os.n)) := fun x hx => swept_one HGd.out.rising hx
            have HAsk : Hid (∀ x ∈ (sweepL fl now d.l).map Os.n, ∃ tk : Tk, NumOk x ∧ askO (sweepL fl now d.l) x now = 0 ∧ askK (sweepL fl now d.l) x now = tk ∧ ofL fl tk.who.data.toList ≤ tk.epoch) := fun x hx => by
              obtain ⟨o, ho, rfl⟩ := List.mem_map.1 hx
              have hr : (sweepL fl now d.l).Pairwise (fun x y => x.n < y.n) := List.Pairwise.filter _ HGd.out.rising
              have hf := findO_mem hr ho
              obtain ⟨h1, h2⟩ := sweep_stays o ho
              have h3 := HGd.out.upto o (List.mem_filter.1 ho).1
              refine ⟨o.tk, num_ok o.n (by omega) (by have := HM.out; omega), ?_, ?_, h2⟩
              · unfold askO; rw [hf]; exact h1
              · unfold askK; rw [hf]; simp only []; rw [h1]; rfl
            obtain ⟨ya, yc, rfl, _, _⟩ := HY7.out
            obtain ⟨xa, xc, rfl, _, _⟩ := HX7.out
            obtain ⟨za, zc, rfl, _, _⟩ := HZ7.out
            have hw : IntKind.i64.wrap (((sweepN fl now d.l).length : Int) + (((sweepL fl now d.l).map Os.n).length : Int)) = ((d.l.map Os.n).length : Int) := by
              have := HL6.out
              rw [IntKind.wrap_i64]; omega
            have hl1 := HL6.out
            have hl2 : (sweepN fl now d.l).length ≤ 1000000 := by omega
            have hl3 : ((sweepL fl now d.l).map Os.n).length ≤ 1000000 := by omega
            have HIg : Hid (∀ w x, Below w7.heap.size w7 w → Calls Tryd.prog 25 #[.int .i64 x, .slice xa (sweepN fl now d.l).length xc] w fun e w' => e = .returned (.bool (decide (x ∈ sweepN fl now d.l))) ∧ w' = w) := fun w x hb => inNum_any x _ _ w hl2 (HX7.out.below hb)
            have HIl : Hid (∀ w x, Below w7.heap.size w7 w → Calls Tryd.prog 25 #[.int .i64 x, .slice za ((sweepL fl now d.l).map Os.n).length zc] w fun e w' => e = .returned (.bool (decide (x ∈ (sweepL fl now d.l).map Os.n))) ∧ w' = w) := fun w x hb => inNum_any x _ _ w hl3 (HZ7.out.below hb)
            have HAk : Hid (∀ w x, Below w7.heap.size w7 w → NumOk x → Calls Tryd.prog 26 #[.pointer (some ⟨p, 0, none⟩), .int .i64 x, .int .i64 now] w fun e w' => e = .returned (.tuple #[(askK (sweepL fl now d.l) x now).val, errV a (askO (sweepL fl now d.l) x now)]) ∧ Below w.heap.size w w') := fun w x hb hx => deAsk_any a p m ⟨d.many, sweepL fl now d.l⟩ x now w (HS7.out.desk.below hb) (HE.out.below (HS7.out.less hb).below) hx
            have HPs : Hid (∀ w who ep, Below w7.heap.size w7 w → Calls Tryd.prog 27 #[vf, .string who, .int .i64 ep] w fun e w' => e = .returned (.bool (decide (ofL fl who.data.toList ≤ ep))) ∧ Below w.heap.size w w') := fun w who ep hb => passes_any vf fl who ep w (HF.out.below (HS7.out.less hb).below) (right_of_check (sweep_ok HZ.out).1).1.rising HFl.out
            have HEnd : Hid (∀ w, Below w7.heap.size w7 w → Calls Tryd.prog 23 #[.pointer (some ⟨p, 0, none⟩), vf, .int .i64 now] w fun e w' => ∃ ad c, e = .returned (.tuple #[.slice ad 0 c, .nilIface]) ∧ Below W.heap.size W w') := fun w hb => by
              have hst := HS7.out.less hb
              refine (deSweep_ok a p m ⟨d.many, sweepL fl now d.l⟩ vf fl now w hst.desk (HE.out.below hst.below) (HF.out.below hst.below) HFs.out HFl.out HZ.out).mono ?_
              rintro e w' ⟨x, rfl, hx, hD, hg⟩
              dsimp only at hx
              rw [(sweep_again fl now d.l).2] at hx
              obtain ⟨ad, c, rfl, _⟩ := own_num hx
              exact ⟨ad, c, rfl, (hst.turn (DeskPost.turn hD hg)).below⟩
            have HBW := hide HS7.out.below
            clear hz hb HA2 HX6 HY6 HS6 HS5 HY5 HL6
            generalize askK (sweepL fl now d.l) = fK at *
            generalize askO (sweepL fl now d.l) = fO at *
            generalize (sweepL fl now d.l).map Os.n = left at *
            generalize sweepN fl now d.l = gone at *
            generalize d.l.map Os.n = was at *
            generalize hgn : gone.length = gn at *
            generalize hrn : left.length = rn at *
            generalize htn : was.length = tn at *
            have HTn := hide htn
            have HRn := hide hrn
            clear hgn hrn htn hlen
            go_wp2
            go_loopg [17] tn (fun g s17 wq => ∃ i : Nat, i ≤ tn ∧ tn - i ≤ g ∧ s17 = .int .i64 i ∧ Hid (Below w7.heap.size w7 wq))
            case atStart => exact ⟨0, Nat.zero_le _, by omega, rfl, Below.refl _ _⟩
            case round =>
              obtain ⟨i, hi, hgi, rfl, HB⟩ := hrel
              by_cases hlti : i < tn
              · obtain ⟨x, hx⟩ : ∃ x, was[i]? = some x := ⟨was[i]'(by rw [HTn.out]; exact hlti), List.getElem?_eq_getElem _⟩
                have hmem : x ∈ was := List.mem_of_getElem? hx
                obtain ⟨ya', yc', e0, hyc, hyy⟩ := HY7.out
                obtain ⟨rfl, hq0, rfl⟩ := Value.slice.inj e0; clear hq0 e0
                rw [HTn.out] at hyc
                rcases hyy with h0 | ⟨b, o, rfl, hcy⟩
                · rw [h0] at hx; simp at hx
                have hc := hcy i x hx
                have hcn : ∀ nq, (wr.drewN nq).cell? ⟨b, o + i, none⟩ = some (.int .i64 x) := fun nq => ((below_drewN HB.out nq).cell (cell_lt hc)).trans hc
                have hic : i < yc := by omega
                have HG1 := hide (fun nq => HIg.out (wr.drewN nq) x (below_drewN HB.out nq))
                have HL1 := hide (fun nq => HIl.out (wr.drewN nq) x (below_drewN HB.out nq))
                simp only [HOne.out x hmem] at HG1
                generalize decide (x ∈ left) = bl at HG1 HL1
                clear hcy hc hx hmem
                cases bl
                all_goals
                  go_wp2_with fail
                  go_quiet (first | (go_at_call 25; with_reducible exact Calls.quiet_of_same (HG1.out _)) | (go_at_call 25; with_reducible exact Calls.quiet_of_same (HL1.out _)))
                  go_wp2
                  go_roundg (tn - (i + 1))
                  case measure => omega
                  case rel => exact ⟨i + 1, by omega, Nat.le_refl _, by go_num, below_drewN HB.out _⟩
              · go_wp2
                go_loopg [18] rn (fun g s18 wq => ∃ i : Nat, i ≤ rn ∧ rn - i ≤ g ∧ s18 = .int .i64 i ∧ Hid (Below w7.heap.size w7 wq))
                case atStart => exact ⟨0, Nat.zero_le _, by omega, rfl, HB.out⟩
                case round =>
                  obtain ⟨j, hj, hgj, rfl, HB3⟩ := hrel
                  by_cases hltj : j < rn
                  · obtain ⟨x, hx⟩ : ∃ x, left[j]? = some x := ⟨left[j]'(by rw [HRn.out]; exact hltj), List.getElem?_eq_getElem _⟩
                    obtain ⟨tk, hok, h1, h2, h3⟩ := HAsk.out x (List.mem_of_getElem? hx)
                    obtain ⟨za', zc', e0, hzc, hzz⟩ := HZ7.out
                    obtain ⟨rfl, hq0, rfl⟩ := Value.slice.inj e0; clear hq0 e0
                    rw [HRn.out] at hzc
                    rcases hzz with h0 | ⟨b, o, rfl, hcz⟩
                    · rw [h0] at hx; simp at hx
                    have hc := hcz j x hx
                    have hcr : wr.cell? ⟨b, o + j, none⟩ = some (.int .i64 x) := (HB3.out.cell (cell_lt hc)).trans hc
                    have hjc : j < zc := by omega
                    have HA := hide (HAk.out wr x HB3.out hok)
                    rw [h1, h2, show errV a 0 = Value.nilIface from rfl, tk_val] at HA
                    have HP0 := hide (fun w hb => HPs.out w tk.who tk.epoch hb)
                    simp only [decide_eq_true h3] at HP0
                    clear hcz hc hx h1 h2 h3 hok
                    go_wp2_with fail
                    refine HA.out.mono ?_
                    rintro e w8 ⟨rfl, hb⟩
                    have hB8 : Below w7.heap.size w7 (w8.alloc (tkO tk)) := (HB3.out.trans (hb.mono HB3.out.size)).alloc (HB3.out.trans (hb.mono HB3.out.size)).size _
                    obtain ⟨x0, x1, x2, x3, x4, x5⟩ := tk_row (w := w8.alloc (tkO tk)) (heap_alloc_new _ _)
                    have HP := hide (HP0.out _ hB8)
                    have HB8 := hide hB8
                    clear hb hB8 HA HP0
                    go_wp2_with fail
                    refine HP.out.mono ?_
                    rintro e w9 ⟨rfl, hb⟩
                    have HB9 : Hid (Below w7.heap.size w7 w9) := HB8.out.trans (hb.mono HB8.out.size)
                    clear hb HP
                    go_wp2
                    go_roundg (rn - (j + 1))
                    case measure => omega
                    case rel => exact ⟨j + 1, by omega, Nat.le_refl _, by go_num, HB9⟩
                  ·
                    have HSn := hide (HEnd.out wr HB3.out)
                    go_wp2_with fail
                    refine HSn.out.mono ?_
                    rintro e w8 ⟨ad2, c2, rfl, hb⟩
                    have HB8 := hide hb
                    clear hb HSn
                    go_wp2
                    go_ret
                    exact ⟨rfl, HB8.out⟩
end Go.Proofs.YteabincmopeljadDoor

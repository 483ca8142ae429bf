/-
  SeenActs: with whatever words, at whatever times, what is there and each answer are as the document's answer tells.
-/
import Derived.Test.YtgagekcjdapkfadDoorSeenPair
import Derived.BigQuiet
import Derived.Deep.RegionHeld3
import Derived.Deep.CutBlock
import Derived.Deep.DeepCutAuto
namespace Go.Proofs.YtgagekcjdapkfadDoor
open Go Go.RowKit Go.Extern.Stop Go.Stop Go.Extern

/-- In the midst of a region that draws more may be asked of the world. -/
theorem wpAnyH_more {P : Program} {ops : Array Oper} {Q : Exit → Act → World → Prop} {md : Region.Mode} {S S' : World → Prop} (hSS : ∀ w, S' w → S w) :
    ∀ {fuel : Nat} {listed : Array Bool} {a : Act} {w : World}, wpAnyH P md ops Q S' fuel listed a w → wpAnyH P md ops Q S fuel listed a w
  | 0, _, _, _, h => h
  | _ + 1, _, _, _, h => ⟨h.1, fun i hi => wpOp_mono (fun _ w' h' => ⟨hSS w' h'.1, wpAnyH_more hSS h'.2⟩) (h.2 i hi)⟩

/-- One that may be taken first, its slot named. -/
theorem wpAnyH_takeD {P : Program} {ops : Array Oper} {Q : Exit → Act → World → Prop} {md : Region.Mode} {S : World → Prop} {i : Nat} {oi : Oper} {v : Value} {d : Tmp} {fuel : Nat} {listed : Array Bool} {a : Act} {w : World} (hi : ops[i]? = some oi) (hd : oi.dst = some d)
    (hs : Region.noSelect ops = true) (hf : Region.free md ops listed i = true) (hr : (Region.ready md ops listed).contains i = true)
    (hQ : ∀ c a w, Q (.panic c) (a.put oi.dst v) w → Q (.panic c) a w) (hy : YieldsIf P ops S oi v a) (hS : S w)
    (h : wpAnyH P md ops Q S fuel (listed.setIfInBounds i true) { a with tmps := a.tmps.setIfInBounds d v } w) : wpAnyH P md ops Q S (fuel + 1) listed a w :=
  wpAnyH_take hi hs hf hr hQ hy hS (by rw [hd]; exact h)

set_option maxRecDepth 100000 in
set_option maxHeartbeats 8000000 in
theorem seenActs_law (a : Nat → Addr) (long : Int) (v : Value) (l : List Wq) (W : World) (hE : Errs a W) (hv : WqIn W v l) :
    Calls Tryd.prog 4 #[.int .i64 long, v] W fun e w' => e = .returned (.bool true) ∧ Below W.heap.size W w' := by
  have HSaw := hide (saw_any a W hE)
  have HLong := hide (fun w hb => longAsked_any v l w (hv.below hb))
  have HE := hide hE
  obtain ⟨ad, cap, rfl, hcap, hcell⟩ := hv
  have HV := hide hcell
  have HNo := hide (fun h => longW_no (l := l) h)
  generalize hn : l.length = n at *
  have HN := hide hn
  clear hE hcell hn
  go_enter Tryd.func4, Tryd.ntmps4
  go_wp2_with fail
  refine HSaw.out.mono ?_
  rintro e w1 ⟨rfl, hb⟩
  have HB1 := hide hb
  clear hb HSaw
  go_wp2_with fail
  refine (HLong.out w1 HB1.out).mono ?_
  rintro e w2 ⟨rfl, hww⟩
  subst hww
  clear HLong
  cases hlw : longW l with
  | true =>
    go_wp2
    go_ret
    exact ⟨rfl, HB1.out⟩
  | false =>
    obtain ⟨hn100, hsz⟩ := HNo.out hlw
    have HS := hide hsz
    have HNew := hide (seNew_any a long w2 ((HE.out.below HB1.out).ev _))
    clear HNo hlw hsz
    go_wp2_with fail
    refine HNew.out.mono ?_
    rintro e w3 ⟨hb, ⟨hl, p, m, hp, hm, rfl, hS⟩ | ⟨hl, rfl⟩⟩
    · have HB3 : Hid (Below W.heap.size W w3) := HB1.out.trans (hb.mono HB1.out.size)
      have hrl := hb.size
      have HSt : Hid (SeSt W p m w3.heap.size long [] [] (w3.alloc (rsO long (.slice none 0 0)))) :=
        ⟨hS.below ((Below.refl _ _).alloc (Nat.le_refl _) _), ⟨_, heap_alloc_new _ _, World.ownsRow_nil _ _ _ _⟩, GoodW.nil, HB3.out.alloc HB3.out.size _, Nat.le_trans HB1.out.size hm, Nat.le_trans HB1.out.size hrl⟩
      obtain ⟨hl1, hl2⟩ := hl
      clear hb hS hp hm hrl HNew HB1
      go_wp2
      generalize w3.heap.size = rp at *
      go_loopg [9] n (fun g s9 wr => ∃ k : Nat, k ≤ n ∧ n - k ≤ g ∧ s9 = .int .i64 k ∧ Hid (∃ L, SeSt W p m rp long L L wr))
      case atStart => exact ⟨0, Nat.zero_le _, by omega, rfl, ⟨_, HSt.out⟩⟩
      case round =>
        obtain ⟨k, hk, hg, rfl, HK⟩ := hrel
        obtain ⟨L, hst⟩ := HK.out
        have HSk := hide hst
        clear HK hst HSt
        by_cases hlt : k < n
        · obtain ⟨b, o, rfl, hbw, hcs⟩ := HV.out (by omega)
          obtain ⟨x, hx⟩ : ∃ x, l[k]? = some x := ⟨l[k]'(by rw [HN.out]; exact hlt), List.getElem?_eq_getElem _⟩
          obtain ⟨c0, c1, c2⟩ := hcs k x hx
          have HX := hide (HS.out x (List.mem_of_getElem? hx))
          obtain ⟨s, t, now⟩ := x
          have HC : Hid (∀ w L1 L2, SeSt W p m rp long L1 L2 w → w.cell? ⟨b, o + k * 3, none⟩ = some (.string s) ∧ w.cell? ⟨b, o + k * 3 + 1, none⟩ = some (.int .i64 t) ∧ w.cell? ⟨b, o + k * 3 + 2, none⟩ = some (.int .i64 now)) := fun w L1 L2 h =>
            ⟨h.cell (q := ⟨b, o + k * 3, none⟩) hbw c0, h.cell (q := ⟨b, o + k * 3 + 1, none⟩) hbw c1, h.cell (q := ⟨b, o + k * 3 + 2, none⟩) hbw c2⟩
          clear hcs hx c0 c1 c2 hbw
          go_upto_region 13 with fail
          go_cut [95] (fun s95 wc => s95 = .bool false ∧ Hid (∃ L', SeSt W p m rp long L' L' wc))
          case first =>
            have HSd := hide (HSk.out.less ((Below.refl _ _).drew))
            have HA := hide (fun w h => SeSt.ask (W := W) (p := p) (m := m) (rp := rp) (long := long) (L := L) (w := w) a h HE.out s t now (Nat.le_trans HX.out (by unfold maxLen; decide)))
            have HR := hide (fun w h => SeSt.refAsk (W := W) (p := p) (m := m) (rp := rp) (long := long) (L := L) (L1 := seenL long L s t now) (w := w) h s t now (Nat.le_trans HX.out (by unfold maxLen; decide)))
            have HCo := hide (fun w h => SeSt.coded (W := W) (p := p) (m := m) (rp := rp) (long := long) (L := seenL long L s t now) (L1 := seenL long L s t now) (w := w) a h HE.out (seenC long L s t now) (seenC_small _ _ _ _ _))
            have HM := hide (fun w (h : SeSt W p m rp long (seenL long L s t now) (seenL long L s t now) w) => seMany_any p m long (seenL long L s t now) w h.see)
            obtain ⟨d0, d1, d2⟩ := HC.out _ _ _ HSk.out
            generalize seenL long L s t now = L' at *
            generalize errV a (seenC long L s t now) = ev at *
            generalize (seenC long L s t now : Int) = cn at *
            generalize hln : L'.length = ln at *
            have HLn := hide hln
            clear hln
            refine wp_region_noPanic ?_
            refine wp_region_held_drew (S := (fun w' => w'.cell? ⟨b, o + k * 3, none⟩ = some (.string s) ∧ w'.cell? ⟨b, o + k * 3 + 1, none⟩ = some (.int .i64 t) ∧ w'.cell? ⟨b, o + k * 3 + 2, none⟩ = some (.int .i64 now))) (by kernel_rfl) ⟨d0, d1, d2⟩ (fun hHeld => ?_)
            refine wpAnyH_takeD (i := 0) (oi := _) (v := ?_) (d := 50) rfl rfl (by kernel_rfl) (by kernel_rfl) (by kernel_rfl) (fun _ _ _ h => h) (Or.inl ⟨by rfl, ?_⟩) (by assumption) ?_
            rotate_left
            · intro w hSw
              (try dsimp only at hSw)
              go_simp
              (try with_reducible rfl)
            simp only [List.setIfInBounds_toArray, List.set_cons_zero, List.set_cons_succ]
            refine wpAnyH_takeD (i := 1) (oi := _) (v := ?_) (d := 51) rfl rfl (by kernel_rfl) (by kernel_rfl) (by kernel_rfl) (fun _ _ _ h => h) (Or.inl ⟨by rfl, ?_⟩) (by assumption) ?_
            rotate_left
            · intro w hSw
              (try dsimp only at hSw)
              go_simp
              (try with_reducible rfl)
            simp only [List.setIfInBounds_toArray, List.set_cons_zero, List.set_cons_succ]
            refine wpAnyH_takeD (i := 2) (oi := _) (v := ?_) (d := 52) rfl rfl (by kernel_rfl) (by kernel_rfl) (by kernel_rfl) (fun _ _ _ h => h) (Or.inl ⟨by rfl, ?_⟩) (by assumption) ?_
            rotate_left
            · intro w hSw
              (try dsimp only at hSw)
              go_simp
              (try with_reducible rfl)
            simp only [List.setIfInBounds_toArray, List.set_cons_zero, List.set_cons_succ]
            refine wpAnyH_takeD (i := 3) (oi := _) (v := ?_) (d := 53) rfl rfl (by kernel_rfl) (by kernel_rfl) (by kernel_rfl) (fun _ _ _ h => h) (Or.inl ⟨by rfl, ?_⟩) (by assumption) ?_
            rotate_left
            · intro w hSw
              (try dsimp only at hSw)
              go_simp
              (try with_reducible rfl)
            simp only [List.setIfInBounds_toArray, List.set_cons_zero, List.set_cons_succ]
            refine wpAnyH_takeD (i := 4) (oi := _) (v := ?_) (d := 54) rfl rfl (by kernel_rfl) (by kernel_rfl) (by kernel_rfl) (fun _ _ _ h => h) (Or.inl ⟨by rfl, ?_⟩) (by assumption) ?_
            rotate_left
            · intro w hSw
              (try dsimp only at hSw)
              go_simp
              (try with_reducible rfl)
            simp only [List.setIfInBounds_toArray, List.set_cons_zero, List.set_cons_succ]
            refine wpAnyH_takeD (i := 5) (oi := _) (v := ?_) (d := 55) rfl rfl (by kernel_rfl) (by kernel_rfl) (by kernel_rfl) (fun _ _ _ h => h) (Or.inl ⟨by rfl, ?_⟩) (by assumption) ?_
            rotate_left
            · intro w hSw
              (try dsimp only at hSw)
              go_simp
              (try with_reducible rfl)
            simp only [List.setIfInBounds_toArray, List.set_cons_zero, List.set_cons_succ]
            refine wpAnyH_takeD (i := 6) (oi := _) (v := ?_) (d := 56) rfl rfl (by kernel_rfl) (by kernel_rfl) (by kernel_rfl) (fun _ _ _ h => h) (Or.inl ⟨by rfl, ?_⟩) (by assumption) ?_
            rotate_left
            · intro w hSw
              (try dsimp only at hSw)
              go_simp
              (try with_reducible rfl)
            simp only [List.setIfInBounds_toArray, List.set_cons_zero, List.set_cons_succ]
            refine wpAnyH_takeD (i := 7) (oi := _) (v := ?_) (d := 57) rfl rfl (by kernel_rfl) (by kernel_rfl) (by kernel_rfl) (fun _ _ _ h => h) (Or.inl ⟨by rfl, ?_⟩) (by assumption) ?_
            rotate_left
            · intro w hSw
              (try dsimp only at hSw)
              go_simp
              (try with_reducible rfl)
            simp only [List.setIfInBounds_toArray, List.set_cons_zero, List.set_cons_succ]
            refine wpAnyH_takeD (i := 8) (oi := _) (v := ?_) (d := 58) rfl rfl (by kernel_rfl) (by kernel_rfl) (by kernel_rfl) (fun _ _ _ h => h) (Or.inl ⟨by rfl, ?_⟩) (by assumption) ?_
            rotate_left
            · intro w hSw
              (try dsimp only at hSw)
              go_simp
              (try with_reducible rfl)
            simp only [List.setIfInBounds_toArray, List.set_cons_zero, List.set_cons_succ]
            refine wpAnyH_takeD (i := 9) (oi := _) (v := ?_) (d := 59) rfl rfl (by kernel_rfl) (by kernel_rfl) (by kernel_rfl) (fun _ _ _ h => h) (Or.inl ⟨by rfl, ?_⟩) (by assumption) ?_
            rotate_left
            · intro w hSw
              (try dsimp only at hSw)
              go_simp
              (try with_reducible rfl)
            simp only [List.setIfInBounds_toArray, List.set_cons_zero, List.set_cons_succ]
            refine wpAnyH_takeD (i := 10) (oi := _) (v := ?_) (d := 60) rfl rfl (by kernel_rfl) (by kernel_rfl) (by kernel_rfl) (fun _ _ _ h => h) (Or.inl ⟨by rfl, ?_⟩) (by assumption) ?_
            rotate_left
            · intro w hSw
              (try dsimp only at hSw)
              go_simp
              (try with_reducible rfl)
            simp only [List.setIfInBounds_toArray, List.set_cons_zero, List.set_cons_succ]
            refine wpAnyH_takeD (i := 11) (oi := _) (v := ?_) (d := 61) rfl rfl (by kernel_rfl) (by kernel_rfl) (by kernel_rfl) (fun _ _ _ h => h) (Or.inl ⟨by rfl, ?_⟩) (by assumption) ?_
            rotate_left
            · intro w hSw
              (try dsimp only at hSw)
              go_simp
              (try with_reducible rfl)
            simp only [List.setIfInBounds_toArray, List.set_cons_zero, List.set_cons_succ]
            refine wpAnyH_takeD (i := 12) (oi := _) (v := ?_) (d := 62) rfl rfl (by kernel_rfl) (by kernel_rfl) (by kernel_rfl) (fun _ _ _ h => h) (Or.inl ⟨by rfl, ?_⟩) (by assumption) ?_
            rotate_left
            · intro w hSw
              (try dsimp only at hSw)
              go_simp
              (try with_reducible rfl)
            simp only [List.setIfInBounds_toArray, List.set_cons_zero, List.set_cons_succ]
            refine wpAnyH_takeD (i := 13) (oi := _) (v := ?_) (d := 63) rfl rfl (by kernel_rfl) (by kernel_rfl) (by kernel_rfl) (fun _ _ _ h => h) (Or.inl ⟨by rfl, ?_⟩) (by assumption) ?_
            rotate_left
            · intro w hSw
              (try dsimp only at hSw)
              go_simp
              (try with_reducible rfl)
            simp only [List.setIfInBounds_toArray, List.set_cons_zero, List.set_cons_succ]
            refine wpAnyH_takeD (i := 14) (oi := _) (v := ?_) (d := 64) rfl rfl (by kernel_rfl) (by kernel_rfl) (by kernel_rfl) (fun _ _ _ h => h) (Or.inl ⟨by rfl, ?_⟩) (by assumption) ?_
            rotate_left
            · intro w hSw
              (try dsimp only at hSw)
              go_simp
              (try with_reducible rfl)
            simp only [List.setIfInBounds_toArray, List.set_cons_zero, List.set_cons_succ]
            refine wpAnyH_takeD (i := 15) (oi := _) (v := ?_) (d := 65) rfl rfl (by kernel_rfl) (by kernel_rfl) (by kernel_rfl) (fun _ _ _ h => h) (Or.inl ⟨by rfl, ?_⟩) (by assumption) ?_
            rotate_left
            · intro w hSw
              (try dsimp only at hSw)
              go_simp
              (try with_reducible rfl)
            simp only [List.setIfInBounds_toArray, List.set_cons_zero, List.set_cons_succ]
            refine wpAnyH_takeD (i := 17) (oi := _) (v := ?_) (d := 67) rfl rfl (by kernel_rfl) (by kernel_rfl) (by kernel_rfl) (fun _ _ _ h => h) (Or.inl ⟨by rfl, ?_⟩) (by assumption) ?_
            rotate_left
            · intro w hSw
              (try dsimp only at hSw)
              go_simp
              (try with_reducible rfl)
            simp only [List.setIfInBounds_toArray, List.set_cons_zero, List.set_cons_succ]
            refine wpAnyH_takeD (i := 18) (oi := _) (v := ?_) (d := 68) rfl rfl (by kernel_rfl) (by kernel_rfl) (by kernel_rfl) (fun _ _ _ h => h) (Or.inl ⟨by rfl, ?_⟩) (by assumption) ?_
            rotate_left
            · intro w hSw
              (try dsimp only at hSw)
              go_simp
              (try with_reducible rfl)
            simp only [List.setIfInBounds_toArray, List.set_cons_zero, List.set_cons_succ]
            refine wpAnyH_takeD (i := 19) (oi := _) (v := ?_) (d := 69) rfl rfl (by kernel_rfl) (by kernel_rfl) (by kernel_rfl) (fun _ _ _ h => h) (Or.inl ⟨by rfl, ?_⟩) (by assumption) ?_
            rotate_left
            · intro w hSw
              (try dsimp only at hSw)
              go_simp
              (try with_reducible rfl)
            simp only [List.setIfInBounds_toArray, List.set_cons_zero, List.set_cons_succ]
            refine wpAnyH_takeD (i := 20) (oi := _) (v := ?_) (d := 70) rfl rfl (by kernel_rfl) (by kernel_rfl) (by kernel_rfl) (fun _ _ _ h => h) (Or.inl ⟨by rfl, ?_⟩) (by assumption) ?_
            rotate_left
            · intro w hSw
              (try dsimp only at hSw)
              go_simp
              (try with_reducible rfl)
            simp only [List.setIfInBounds_toArray, List.set_cons_zero, List.set_cons_succ]
            refine wpAnyH_takeD (i := 21) (oi := _) (v := ?_) (d := 71) rfl rfl (by kernel_rfl) (by kernel_rfl) (by kernel_rfl) (fun _ _ _ h => h) (Or.inl ⟨by rfl, ?_⟩) (by assumption) ?_
            rotate_left
            · intro w hSw
              (try dsimp only at hSw)
              go_simp
              (try with_reducible rfl)
            simp only [List.setIfInBounds_toArray, List.set_cons_zero, List.set_cons_succ]
            refine wpAnyH_takeD (i := 22) (oi := _) (v := ?_) (d := 72) rfl rfl (by kernel_rfl) (by kernel_rfl) (by kernel_rfl) (fun _ _ _ h => h) (Or.inl ⟨by rfl, ?_⟩) (by assumption) ?_
            rotate_left
            · intro w hSw
              (try dsimp only at hSw)
              go_simp
              (try with_reducible rfl)
            simp only [List.setIfInBounds_toArray, List.set_cons_zero, List.set_cons_succ]
            refine wpAnyH_takeD (i := 23) (oi := _) (v := ?_) (d := 73) rfl rfl (by kernel_rfl) (by kernel_rfl) (by kernel_rfl) (fun _ _ _ h => h) (Or.inl ⟨by rfl, ?_⟩) (by assumption) ?_
            rotate_left
            · intro w hSw
              (try dsimp only at hSw)
              go_simp
              (try with_reducible rfl)
            simp only [List.setIfInBounds_toArray, List.set_cons_zero, List.set_cons_succ]
            refine wpAnyH_takeD (i := 24) (oi := _) (v := ?_) (d := 74) rfl rfl (by kernel_rfl) (by kernel_rfl) (by kernel_rfl) (fun _ _ _ h => h) (Or.inl ⟨by rfl, ?_⟩) (by assumption) ?_
            rotate_left
            · intro w hSw
              (try dsimp only at hSw)
              go_simp
              (try with_reducible rfl)
            simp only [List.setIfInBounds_toArray, List.set_cons_zero, List.set_cons_succ]
            refine wpAnyH_takeD (i := 25) (oi := _) (v := ?_) (d := 75) rfl rfl (by kernel_rfl) (by kernel_rfl) (by kernel_rfl) (fun _ _ _ h => h) (Or.inl ⟨by rfl, ?_⟩) (by assumption) ?_
            rotate_left
            · intro w hSw
              (try dsimp only at hSw)
              go_simp
              (try with_reducible rfl)
            simp only [List.setIfInBounds_toArray, List.set_cons_zero, List.set_cons_succ]
            refine wpAnyH_takeD (i := 26) (oi := _) (v := ?_) (d := 76) rfl rfl (by kernel_rfl) (by kernel_rfl) (by kernel_rfl) (fun _ _ _ h => h) (Or.inl ⟨by rfl, ?_⟩) (by assumption) ?_
            rotate_left
            · intro w hSw
              (try dsimp only at hSw)
              go_simp
              (try with_reducible rfl)
            simp only [List.setIfInBounds_toArray, List.set_cons_zero, List.set_cons_succ]
            refine wpAnyH_takeD (i := 27) (oi := _) (v := ?_) (d := 77) rfl rfl (by kernel_rfl) (by kernel_rfl) (by kernel_rfl) (fun _ _ _ h => h) (Or.inl ⟨by rfl, ?_⟩) (by assumption) ?_
            rotate_left
            · intro w hSw
              (try dsimp only at hSw)
              go_simp
              (try with_reducible rfl)
            simp only [List.setIfInBounds_toArray, List.set_cons_zero, List.set_cons_succ]
            refine wpAnyH_takeD (i := 28) (oi := _) (v := ?_) (d := 78) rfl rfl (by kernel_rfl) (by kernel_rfl) (by kernel_rfl) (fun _ _ _ h => h) (Or.inl ⟨by rfl, ?_⟩) (by assumption) ?_
            rotate_left
            · intro w hSw
              (try dsimp only at hSw)
              go_simp
              (try with_reducible rfl)
            simp only [List.setIfInBounds_toArray, List.set_cons_zero, List.set_cons_succ]
            refine wpAnyH_takeD (i := 29) (oi := _) (v := ?_) (d := 79) rfl rfl (by kernel_rfl) (by kernel_rfl) (by kernel_rfl) (fun _ _ _ h => h) (Or.inl ⟨by rfl, ?_⟩) (by assumption) ?_
            rotate_left
            · intro w hSw
              (try dsimp only at hSw)
              go_simp
              (try with_reducible rfl)
            simp only [List.setIfInBounds_toArray, List.set_cons_zero, List.set_cons_succ]
            refine wpAnyH_takeD (i := 30) (oi := _) (v := ?_) (d := 80) rfl rfl (by kernel_rfl) (by kernel_rfl) (by kernel_rfl) (fun _ _ _ h => h) (Or.inl ⟨by rfl, ?_⟩) (by assumption) ?_
            rotate_left
            · intro w hSw
              (try dsimp only at hSw)
              go_simp
              (try with_reducible rfl)
            simp only [List.setIfInBounds_toArray, List.set_cons_zero, List.set_cons_succ]
            refine wpAnyH_takeD (i := 31) (oi := _) (v := ?_) (d := 81) rfl rfl (by kernel_rfl) (by kernel_rfl) (by kernel_rfl) (fun _ _ _ h => h) (Or.inl ⟨by rfl, ?_⟩) (by assumption) ?_
            rotate_left
            · intro w hSw
              (try dsimp only at hSw)
              go_simp
              (try with_reducible rfl)
            simp only [List.setIfInBounds_toArray, List.set_cons_zero, List.set_cons_succ]
            refine wpAnyH_takeD (i := 32) (oi := _) (v := ?_) (d := 82) rfl rfl (by kernel_rfl) (by kernel_rfl) (by kernel_rfl) (fun _ _ _ h => h) (Or.inl ⟨by rfl, ?_⟩) (by assumption) ?_
            rotate_left
            · intro w hSw
              (try dsimp only at hSw)
              go_simp
              (try with_reducible rfl)
            simp only [List.setIfInBounds_toArray, List.set_cons_zero, List.set_cons_succ]
            refine wpAnyH_ready (rs := [16]) (by kernel_rfl) (by simp) ?_
            refine AllReadyH.cons (o := _) rfl (fun K hK => ?_) AllReadyH.nil
            go_simp
            refine (HA.out _ HSd.out).mono ?_
            rintro e w6 ⟨rfl, hst⟩
            have HS6 := hide hst
            clear hst HA
            go_wp2_with fail
            refine hK.out _ _ (HC.out _ _ _ HS6.out) (fun hHeld => ?_)
            clear hK K
            refine wpAnyH_ready (rs := [33]) (by kernel_rfl) (by simp) ?_
            refine AllReadyH.cons (o := _) rfl (fun K hK => ?_) AllReadyH.nil
            go_simp
            refine (HR.out _ HS6.out).mono ?_
            rintro e w7 ⟨rfl, hst⟩
            have HS7 := hide hst
            clear hst HR
            go_wp2_with fail
            refine hK.out _ _ (HC.out _ _ _ HS7.out) (fun hHeld => ?_)
            clear hK K
            refine wpAnyH_ready (rs := [34]) (by kernel_rfl) (by simp) ?_
            refine AllReadyH.cons (o := _) rfl (fun K hK => ?_) AllReadyH.nil
            go_simp
            refine (HCo.out _ HS7.out).mono ?_
            rintro e w8 ⟨rfl, hst⟩
            have HS8 := hide hst
            clear hst HCo
            go_wp2_with fail
            refine hK.out _ _ (HC.out _ _ _ HS8.out) (fun hHeld => ?_)
            clear hK K
            obtain ⟨ad8, cap8, hl8⟩ := HS8.out.len
            rw [HLn.out] at hl8
            refine wpAnyH_more (S' := (fun w' => (w'.cell? ⟨b, o + k * 3, none⟩ = some (.string s) ∧ w'.cell? ⟨b, o + k * 3 + 1, none⟩ = some (.int .i64 t) ∧ w'.cell? ⟨b, o + k * 3 + 2, none⟩ = some (.int .i64 now)) ∧ w'.cell? ⟨rp, 1, none⟩ = some (.slice ad8 ln cap8))) (fun _ h => h.1) ?_
            have hHeld8 : (fun w' : World => (w'.cell? ⟨b, o + k * 3, none⟩ = some (.string s) ∧ w'.cell? ⟨b, o + k * 3 + 1, none⟩ = some (.int .i64 t) ∧ w'.cell? ⟨b, o + k * 3 + 2, none⟩ = some (.int .i64 now)) ∧ w'.cell? ⟨rp, 1, none⟩ = some (.slice ad8 ln cap8)) w8 := ⟨HC.out _ _ _ HS8.out, hl8⟩
            refine wpAnyH_takeD (i := 35) (oi := _) (v := ?_) (d := 85) rfl rfl (by kernel_rfl) (by kernel_rfl) (by kernel_rfl) (fun _ _ _ h => h) (Or.inl ⟨by rfl, ?_⟩) (by assumption) ?_
            rotate_left
            · intro w hSw
              (try dsimp only at hSw)
              go_simp
              (try with_reducible rfl)
            simp only [List.setIfInBounds_toArray, List.set_cons_zero, List.set_cons_succ]
            refine wpAnyH_takeD (i := 36) (oi := _) (v := ?_) (d := 86) rfl rfl (by kernel_rfl) (by kernel_rfl) (by kernel_rfl) (fun _ _ _ h => h) (Or.inl ⟨by rfl, ?_⟩) (by assumption) ?_
            rotate_left
            · intro w hSw
              (try dsimp only at hSw)
              go_simp
              (try with_reducible rfl)
            simp only [List.setIfInBounds_toArray, List.set_cons_zero, List.set_cons_succ]
            refine wpAnyH_takeD (i := 37) (oi := _) (v := ?_) (d := 87) rfl rfl (by kernel_rfl) (by kernel_rfl) (by kernel_rfl) (fun _ _ _ h => h) (Or.inl ⟨by rfl, ?_⟩) (by assumption) ?_
            rotate_left
            · intro w hSw
              (try dsimp only at hSw)
              go_simp
              (try with_reducible rfl)
            simp only [List.setIfInBounds_toArray, List.set_cons_zero, List.set_cons_succ]
            refine wpAnyH_takeD (i := 39) (oi := _) (v := ?_) (d := 89) rfl rfl (by kernel_rfl) (by kernel_rfl) (by kernel_rfl) (fun _ _ _ h => h) (Or.inl ⟨by rfl, ?_⟩) (by assumption) ?_
            rotate_left
            · intro w hSw
              (try dsimp only at hSw)
              go_simp
              (try with_reducible rfl)
            simp only [List.setIfInBounds_toArray, List.set_cons_zero, List.set_cons_succ]
            refine wpAnyH_takeD (i := 40) (oi := _) (v := ?_) (d := 90) rfl rfl (by kernel_rfl) (by kernel_rfl) (by kernel_rfl) (fun _ _ _ h => h) (Or.inl ⟨by rfl, ?_⟩) (by assumption) ?_
            rotate_left
            · intro w hSw
              (try dsimp only at hSw)
              go_simp
              (try with_reducible rfl)
            simp only [List.setIfInBounds_toArray, List.set_cons_zero, List.set_cons_succ]
            refine wpAnyH_takeD (i := 41) (oi := _) (v := ?_) (d := 91) rfl rfl (by kernel_rfl) (by kernel_rfl) (by kernel_rfl) (fun _ _ _ h => h) (Or.inl ⟨by rfl, ?_⟩) (by assumption) ?_
            rotate_left
            · intro w hSw
              (try dsimp only at hSw)
              go_simp
              (try with_reducible rfl)
            simp only [List.setIfInBounds_toArray, List.set_cons_zero, List.set_cons_succ]
            refine wpAnyH_takeD (i := 42) (oi := _) (v := ?_) (d := 92) rfl rfl (by kernel_rfl) (by kernel_rfl) (by kernel_rfl) (fun _ _ _ h => h) (Or.inl ⟨by rfl, ?_⟩) (by assumption) ?_
            rotate_left
            · intro w hSw
              (try dsimp only at hSw)
              go_simp
              (try with_reducible rfl)
            simp only [List.setIfInBounds_toArray, List.set_cons_zero, List.set_cons_succ]
            refine wpAnyH_takeD (i := 43) (oi := _) (v := ?_) (d := 93) rfl rfl (by kernel_rfl) (by kernel_rfl) (by kernel_rfl) (fun _ _ _ h => h) (Or.inl ⟨by rfl, ?_⟩) (by assumption) ?_
            rotate_left
            · intro w hSw
              (try dsimp only at hSw)
              go_simp
              (try with_reducible rfl)
            simp only [List.setIfInBounds_toArray, List.set_cons_zero, List.set_cons_succ]
            refine wpAnyH_ready (rs := [38]) (by kernel_rfl) (by simp) ?_
            refine AllReadyH.cons (o := _) rfl (fun K hK => ?_) AllReadyH.nil
            go_simp
            refine (HM.out _ HS8.out).mono ?_
            rintro e w9 ⟨rfl, hww⟩
            subst hww
            clear HM
            go_wp2_with fail
            refine hK.out _ _ hHeld8 (fun hHeld => ?_)
            clear hK K
            refine wpAnyH_takeD (i := 44) (oi := _) (v := ?_) (d := 94) rfl rfl (by kernel_rfl) (by kernel_rfl) (by kernel_rfl) (fun _ _ _ h => h) (Or.inl ⟨by rfl, ?_⟩) (by assumption) ?_
            rotate_left
            · intro w hSw
              (try dsimp only at hSw)
              go_simp
              (try with_reducible rfl)
            simp only [List.setIfInBounds_toArray, List.set_cons_zero, List.set_cons_succ]
            refine wpAnyH_takeD (i := 45) (oi := _) (v := ?_) (d := 95) rfl rfl (by kernel_rfl) (by kernel_rfl) (by kernel_rfl) (fun _ _ _ h => h) (Or.inl ⟨by rfl, ?_⟩) (by assumption) ?_
            rotate_left
            · intro w hSw
              (try dsimp only at hSw)
              go_simp
              (try with_reducible rfl)
            simp only [List.setIfInBounds_toArray, List.set_cons_zero, List.set_cons_succ]
            refine wpAnyH_done (by kernel_rfl) ?_ _
            refine NoPanic.normal ?_
            go_wp2_with fail
            go_meet
            case rel => exact ⟨by simp, ⟨_, HS8.out⟩⟩
          case rest =>
            obtain ⟨rfl, HS2⟩ := hcut
            go_wp2
            go_roundg (n - (k + 1))
            case measure => omega
            case rel => exact ⟨k + 1, by omega, Nat.le_refl _, by go_num, HS2⟩
        · have HWo := hide (seWords_any p m long L wr HSk.out.see)
          have HRw : Hid (∀ w, Below wr.heap.size wr w → Calls Tryd.prog 14 #[.pointer (some ⟨rp, 0, none⟩)] w fun e w' => ∃ v', e = .returned v' ∧ WordsAt w' v' (L.map Wd.s) ∧ Below w.heap.size w w') := fun w hb => by
            obtain ⟨v, hv⟩ := HSk.out.ref
            exact refWords_any rp long L v w (hv.below hb) HSk.out.good.few
          have hfew : (L.map Wd.s).length ≤ 1000000 := by rw [List.length_map]; exact Nat.le_trans HSk.out.good.few (by decide)
          have HSm := hide (fun v1 v2 w => seSame_any (L.map Wd.s) v1 v2 w hfew)
          have HBw := hide HSk.out.below
          clear hfew
          go_wp2_with fail
          refine HWo.out.mono ?_
          rintro e w5 ⟨v5, rfl, hw5, hb5⟩
          have HW5 := hide hw5
          have HB5 := hide hb5
          clear hw5 hb5 HWo
          go_wp2_with fail
          refine (HRw.out _ HB5.out).mono ?_
          rintro e w6 ⟨v6, rfl, hw6, hb6⟩
          have HW6 := hide hw6
          have HW56 := hide (HW5.out.below hb6)
          have HB6 : Hid (Below wr.heap.size wr w6) := HB5.out.trans (hb6.mono HB5.out.size)
          clear hw6 hb6 HRw HB5
          go_wp2_with fail
          refine (HSm.out _ _ _ HW56.out HW6.out).mono ?_
          rintro e w7 ⟨rfl, hb7⟩
          have HB7 : Hid (Below W.heap.size W w7) := HBw.out.trans ((HB6.out.trans (hb7.mono HB6.out.size)).mono HBw.out.size)
          clear hb7
          go_wp2
          go_ret
          exact ⟨rfl, HB7.out⟩
    · have HB3 : Hid (Below W.heap.size W w3) := HB1.out.trans (hb.mono HB1.out.size)
      have HCo := hide (coded_err a 1 (by decide) 2 w3 (HE.out.below HB3.out))
      have hq : long < 0 ∨ (0 ≤ long ∧ 1000000 < long) := by omega
      clear hb hl HNew HB1
      rcases hq with q | ⟨q, q2⟩
      all_goals
        go_wp2_with fail
        refine HCo.out.mono ?_
        rintro e w4 ⟨rfl, hb⟩
        have HB4 : Hid (Below W.heap.size W w4) := HB3.out.trans (hb.mono HB3.out.size)
        clear hb HCo
        go_wp2
        go_ret
        exact ⟨rfl, HB4.out⟩
end Go.Proofs.YtgagekcjdapkfadDoor

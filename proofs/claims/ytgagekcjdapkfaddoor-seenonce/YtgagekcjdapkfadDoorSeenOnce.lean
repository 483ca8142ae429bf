/-
  SeenOnce: with times that only rise a word of one time passes once, and never more than may be are kept: with whatever words, at whatever times.
-/
import Derived.Test.YtgagekcjdapkfadDoorSeenLaw
import Derived.BigQuiet
import Derived.Deep.RegionHeld3
import Derived.Deep.CutBlock
import Derived.Deep.DeepCutAuto
namespace Go.Proofs.YtgagekcjdapkfadDoor
open Go Go.RowKit Go.Extern.Stop Go.Stop Go.Extern

theorem Tryd.infoInt : (Tryd.prog.info? 3).map (fun i => (i.zero, i.size, i.bytes)) = some (some (.int .i64 0), 1, 8) := by kernel_rfl
def cellsU (L : List Wd) : List Value := L.map fun p => .int .i64 p.t
theorem own_tagV {w : World} {base : Nat} {e : TypeId} {size : Nat} {v : Value} {n : Nat} {xs : List Value} (h : w.ownsRow base e size v n xs) {g : Nat} (hg : v.ownBlock = some g) : ∃ c, w.heap[g]? = some (.cells c e (0, 0)) := by
  rcases h.2 with ⟨rfl, _⟩ | ⟨g', cap, cur, rfl, _, hb, _⟩
  · simp [Value.ownBlock] at hg
  · have : g' = g := by simpa [Value.ownBlock] using hg
    subst this
    exact ⟨_, hb⟩
theorem own_stay {w w' : World} {base : Nat} {e : TypeId} {size : Nat} {v : Value} {n : Nat} {xs : List Value} (h : w.ownsRow base e size v n xs) (hk : ∀ (g : Nat) (c : Array Value), w.heap[g]? = some (Obj.cells c e (0, 0)) → w'.heap[g]? = w.heap[g]?) : w'.ownsRow base e size v n xs := by
  refine ⟨h.1, ?_⟩
  rcases h.2 with g | ⟨g, cap, cur, rfl, hb, hg, hc, hm, hs, ht⟩
  · exact Or.inl g
  · exact Or.inr ⟨g, cap, cur, rfl, hb, by rw [hk g _ hg]; exact hg, hc, hm, hs, ht⟩
/-- A row of times, read. -/
theorem own_timesV {w : World} {B : Nat} {v : Value} {L : List Wd} (h : w.ownsRow B 3 1 v L.length (cellsU L)) : ∃ ad c, v = .slice ad L.length c ∧ L.length ≤ c ∧ (L.length = 0 ∨ ∃ g, ad = some ⟨g, 0, none⟩ ∧ ∀ j (hj : j < L.length), w.cell? ⟨g, j, none⟩ = some (.int .i64 L[j].t)) := by
  rcases h.2 with ⟨rfl, h0⟩ | ⟨g, cap, cur, rfl, _, hg, hc, _, _, ht⟩
  · exact ⟨none, 0, by rw [h0], by omega, Or.inl h0⟩
  · refine ⟨_, cap, rfl, hc, Or.inr ⟨g, rfl, fun j hj => ?_⟩⟩
    rw [cell_of_row w g j cur _ _ hg]
    have e1 : (cellsU L)[j]? = some (.int .i64 L[j].t) := by
      unfold cellsU
      rw [List.getElem?_map, List.getElem?_eq_getElem hj]
      rfl
    rw [← ht, List.getElem?_take] at e1
    split at e1
    · simpa using e1
    · cases e1

/-- A row of words, read. -/
theorem own_wordsL {w : World} {B : Nat} {v : Value} {L : List Wd} (h : w.ownsRow B 9 1 v L.length (cellsV L)) : ∃ ad c, v = .slice ad L.length c ∧ L.length ≤ c ∧ (L.length = 0 ∨ ∃ g, ad = some ⟨g, 0, none⟩ ∧ ∀ j (hj : j < L.length), w.cell? ⟨g, j, none⟩ = some (.string L[j].s)) := by
  rcases h.2 with ⟨rfl, h0⟩ | ⟨g, cap, cur, rfl, _, hg, hc, _, _, ht⟩
  · exact ⟨none, 0, by rw [h0], by omega, Or.inl h0⟩
  · refine ⟨_, cap, rfl, hc, Or.inr ⟨g, rfl, fun j hj => ?_⟩⟩
    rw [cell_of_row w g j cur _ _ hg]
    have e1 : (cellsV L)[j]? = some (.string L[j].s) := by
      unfold cellsV
      rw [List.getElem?_map, List.getElem?_eq_getElem hj]
      rfl
    rw [← ht, List.getElem?_take] at e1
    split at e1
    · simpa using e1
    · cases e1

theorem new_cell1 (w : World) (x : Value) (e : TypeId) : ∀ j u, [x][j]? = some u → (w.alloc (.cells #[x] e)).cell? ((⟨w.heap.size, 0, none⟩ : Addr).add j) = some u := fun j u hj => by
  rw [Go.WideShapes.add_plain, World.cell?_alloc_at _ _ _ _ rfl, Nat.zero_add]
  match j, hj with
  | 0, hj => exact hj
  | j + 1, hj => simp at hj
theorem new_one1 {x : Value} (h : x.oneCell' = true) : ∀ u ∈ [x], u.oneCell' = true := fun u hu => by
  rw [List.mem_singleton.1 hu]; exact h

/-- What was seen, and what passed, in memory, over the world of before. -/
structure OnSt (W : World) (p m : Nat) (long nw : Int) (v8 v9 : Value) (L H8 H9 : List Wd) (w : World) : Prop where
  see : SeenAt w p m long L
  words : w.ownsRow W.heap.size 9 1 v8 H8.length (cellsV H8)
  times : w.ownsRow W.heap.size 3 1 v9 H9.length (cellsU H9)
  past : PastW long nw L H8
  below : Below W.heap.size W w
  old : W.heap.size ≤ m
theorem OnSt.less {W : World} {p m : Nat} {long nw : Int} {v8 v9 : Value} {L H8 H9 : List Wd} {w w' : World} (h : OnSt W p m long nw v8 v9 L H8 H9 w) (hb : Below w.heap.size w w') : OnSt W p m long nw v8 v9 L H8 H9 w' :=
  ⟨h.see.below hb, own_stay h.words fun g _ hg => hb.block g (row_lt hg), own_stay h.times fun g _ hg => hb.block g (row_lt hg), h.past, h.below.trans (hb.mono h.below.size), h.old⟩
/-- Asked. -/
theorem OnSt.asked {W : World} {p m : Nat} {long nw nw' : Int} {v8 v9 : Value} {L L' H8 H9 : List Wd} {w w' : World} (h : OnSt W p m long nw v8 v9 L H8 H9 w) (hs : SeenAt w' p m long L') (hg : w.grownBy w' (some m)) (hp : PastW long nw' L' H8) : OnSt W p m long nw' v8 v9 L' H8 H9 w' := by
  have hne : ∀ (g : Nat) (c : Array Value) (e : TypeId), w.heap[g]? = some (Obj.cells c e (0, 0)) → some g ≠ some m := fun g c e hc he => by
    obtain ⟨es, clock, hb, _⟩ := h.see.own
    rw [← Option.some.inj he, hc] at hb
    cases hb
  exact ⟨hs, own_stay h.words fun g c hc => hg.block g (row_lt hc) (hne g c _ hc), own_stay h.times fun g c hc => hg.block g (row_lt hc) (hne g c _ hc), hp, h.below.grown hg h.below.size (fun k hk => by cases hk; exact h.old), h.old⟩
/-- One more word of those that passed. -/
theorem OnSt.pushS {W : World} {p m : Nat} {long nw : Int} {v8 v8' v9 : Value} {L H8 H9 : List Wd} {q : Wd} {w w1 w' : World} (h : OnSt W p m long nw v8 v9 L H8 H9 w) (hb : Below w.heap.size w w1) (hp : PastW long nw L (H8 ++ [q]))
    (hown : w'.ownsRow W.heap.size 9 1 v8' (H8.length + 1) (cellsV H8 ++ [.string q.s])) (hg : w1.grownBy w' v8.ownBlock) : OnSt W p m long nw v8' v9 L (H8 ++ [q]) H9 w' := by
  have h1 := h.less hb
  have hne : ∀ (g : Nat) (c : Array Value) (e : TypeId), w1.heap[g]? = some (Obj.cells c e (0, 0)) → e ≠ 9 → some g ≠ v8.ownBlock := fun g c e hc he hh => by
    obtain ⟨c', hc'⟩ := own_tagV h1.words hh.symm
    rw [hc] at hc'
    exact he (Obj.cells.inj (Option.some.inj hc')).2.1
  have hm : some m ≠ v8.ownBlock := fun hh => by
    obtain ⟨c', hc'⟩ := own_tagV h1.words hh.symm
    obtain ⟨es, clock, hb2, _⟩ := h1.see.own
    rw [hc'] at hb2
    cases hb2
  refine ⟨h1.see.kept hg (hne p _ _ h1.see.row (by decide)) hm, ?_, own_stay h1.times fun g c hc => hg.block g (row_lt hc) (hne g c _ hc (by decide)), hp, h1.below.grown hg h1.below.size (fun k hk => (h1.words.lt k hk).1), h.old⟩
  have e1 : cellsV (H8 ++ [q]) = cellsV H8 ++ [.string q.s] := by simp [cellsV]
  rw [e1, List.length_append]
  exact hown
/-- One more time of those that passed. -/
theorem OnSt.pushT {W : World} {p m : Nat} {long nw : Int} {v8 v9 v9' : Value} {L H8 H9 : List Wd} {q : Wd} {w w1 w' : World} (h : OnSt W p m long nw v8 v9 L H8 H9 w) (hb : Below w.heap.size w w1)
    (hown : w'.ownsRow W.heap.size 3 1 v9' (H9.length + 1) (cellsU H9 ++ [.int .i64 q.t])) (hg : w1.grownBy w' v9.ownBlock) : OnSt W p m long nw v8 v9' L H8 (H9 ++ [q]) w' := by
  have h1 := h.less hb
  have hne : ∀ (g : Nat) (c : Array Value) (e : TypeId), w1.heap[g]? = some (Obj.cells c e (0, 0)) → e ≠ 3 → some g ≠ v9.ownBlock := fun g c e hc he hh => by
    obtain ⟨c', hc'⟩ := own_tagV h1.times hh.symm
    rw [hc] at hc'
    exact he (Obj.cells.inj (Option.some.inj hc')).2.1
  have hm : some m ≠ v9.ownBlock := fun hh => by
    obtain ⟨c', hc'⟩ := own_tagV h1.times hh.symm
    obtain ⟨es, clock, hb2, _⟩ := h1.see.own
    rw [hc'] at hb2
    cases hb2
  refine ⟨h1.see.kept hg (hne p _ _ h1.see.row (by decide)) hm, own_stay h1.words fun g c hc => hg.block g (row_lt hc) (hne g c _ hc (by decide)), ?_, h.past, h1.below.grown hg h1.below.size (fun k hk => (h1.times.lt k hk).1), h.old⟩
  have e1 : cellsU (H9 ++ [q]) = cellsU H9 ++ [.int .i64 q.t] := by simp [cellsU]
  rw [e1, List.length_append]
  exact hown

set_option maxRecDepth 100000 in
set_option maxHeartbeats 8000000 in
theorem seenOnce_law (a : Nat → Addr) (long : Int) (v : Value) (l : List Wq) (W : World) (hE : Errs a W) (hv : WqIn W v l) :
    Calls Tryd.prog 3 #[.int .i64 long, v] W fun e w' => e = .returned (.bool true) ∧ Below W.heap.size W w' := by
  obtain ⟨iS, hiS, hzS0, hzS1, hzS2⟩ := info_parts Tryd.infoText
  obtain ⟨iI, hiI, hzI0, hzI1, hzI2⟩ := info_parts Tryd.infoInt
  have HSaw := hide (saw_any a W hE)
  have HLong := hide (fun w hb => longAsked_any v l w (hv.below hb))
  have HE := hide hE
  obtain ⟨ad, cap, rfl, hcap, hcell⟩ := hv
  have HV := hide hcell
  have HNo := hide (fun h => longW_no (l := l) h)
  generalize hn : l.length = n at *
  have HN := hide hn
  clear hE hcell hn
  go_enter Tryd.func3, Tryd.ntmps3
  go_wp2_with fail
  refine HSaw.out.mono ?_
  rintro e w1 ⟨rfl, hb⟩
  have HB1 := hide hb
  clear hb HSaw
  go_wp2_with fail
  refine (HLong.out w1 HB1.out).mono ?_
  rintro e w2 ⟨rfl, hww⟩
  subst hww
  clear HLong
  cases hlw : longW l with
  | true =>
    go_wp2
    go_ret
    exact ⟨rfl, HB1.out⟩
  | false =>
    obtain ⟨hn100, hsz⟩ := HNo.out hlw
    have HS := hide hsz
    have HNew := hide (seNew_any a long w2 ((HE.out.below HB1.out).ev _))
    clear HNo hlw hsz
    go_wp2_with fail
    refine HNew.out.mono ?_
    rintro e w3 ⟨hb, ⟨hl, p, m, hp, hm, rfl, hS⟩ | ⟨hl, rfl⟩⟩
    · have HSt : Hid (OnSt W p m long 0 (.slice none 0 0) (.slice none 0 0) [] [] [] w3) :=
        ⟨hS, World.ownsRow_nil _ _ _ _, World.ownsRow_nil _ _ _ _, fun h hh => by simp at hh, HB1.out.trans (hb.mono HB1.out.size), Nat.le_trans HB1.out.size hm⟩
      obtain ⟨hl1, hl2⟩ := hl
      clear hb hS hp hm HNew HB1
      go_wp2
      go_loopg [8, 9, 10, 11] n (fun gg s8 s9 s10 s11 wr => ∃ (k : Nat) (nw : Int) (L H : List Wd), k ≤ n ∧ n - k ≤ gg ∧ s11 = .int .i64 k ∧ s10 = .int .i64 nw ∧ (0 ≤ nw ∧ nw ≤ 1000000) ∧ H.length ≤ k ∧ Hid (OnSt W p m long nw s8 s9 L H H wr))
      case atStart => exact ⟨0, 0, [], [], Nat.zero_le _, by omega, rfl, rfl, by decide, Nat.zero_le _, HSt.out⟩
      case round =>
        obtain ⟨k, nw, L, H, hk, hg, rfl, rfl, ⟨hn1, hn2⟩, hHk, HO⟩ := hrel
        clear HSt
        by_cases hlt : k < n
        · obtain ⟨b, o, rfl, hbw, hcs⟩ := HV.out (by omega)
          obtain ⟨x, hx⟩ : ∃ x, l[k]? = some x := ⟨l[k]'(by rw [HN.out]; exact hlt), List.getElem?_eq_getElem _⟩
          obtain ⟨c0, c1, c2⟩ := hcs k x hx
          have HX := hide (HS.out x (List.mem_of_getElem? hx))
          obtain ⟨s, t, now⟩ := x
          have HC : Hid (∀ w, Below W.heap.size W w → w.cell? ⟨b, o + k * 3, none⟩ = some (.string s) ∧ w.cell? ⟨b, o + k * 3 + 1, none⟩ = some (.int .i64 t) ∧ w.cell? ⟨b, o + k * 3 + 2, none⟩ = some (.int .i64 now)) := fun w h =>
            ⟨(h.cell (p := ⟨b, o + k * 3, none⟩) hbw).trans c0, (h.cell (p := ⟨b, o + k * 3 + 1, none⟩) hbw).trans c1, (h.cell (p := ⟨b, o + k * 3 + 2, none⟩) hbw).trans c2⟩
          clear hcs hx c0 c1 c2 hbw
          obtain ⟨d0, d1, d2⟩ := HC.out _ HO.out.below
          by_cases q1 : now < nw
          · clear d0 d1
            go_wp2
            go_roundg (n - (k + 1))
            case measure => omega
            case rel => exact ⟨k + 1, nw, L, H, by omega, Nat.le_refl _, by go_num, rfl, ⟨hn1, hn2⟩, by omega, HO⟩
          · by_cases q2 : 1000000 < now
            · clear d0 d1
              go_wp2
              go_roundg (n - (k + 1))
              case measure => omega
              case rel => exact ⟨k + 1, nw, L, H, by omega, Nat.le_refl _, by go_num, rfl, ⟨hn1, hn2⟩, by omega, HO⟩
            · have hnn1 : 0 ≤ now := by omega
              have hnn2 : now ≤ 1000000 := by omega
              have hle : nw ≤ now := by omega
              have HA := hide (fun w h hE => seAsk_any a p m long t now L s w h hE (Nat.le_trans HX.out (by unfold maxLen; decide)))
              have HPs := hide (pastW_step HO.out.past hle s t)
              have HOd := hide (HO.out.less ((Below.refl _ _).drew))
              have HEd := hide ((HE.out.below HOd.out.below).ev seS)
              by_cases hc0 : seenC long L s t now = 0
              · obtain ⟨hnew, hpass⟩ := pastW_pass HO.out.past hle hc0
                obtain ⟨hz, _, _⟩ := seen_zero hc0
                obtain ⟨_, _, _, ht1, ht2⟩ := seen_word hz
                have HNw := hide hnew
                have HPa := hide hpass
                obtain ⟨ad8, c8, rfl, hc8, _⟩ := own_wordsL HO.out.words
                obtain ⟨ad9, c9, rfl, hc9, _⟩ := own_timesV HO.out.times
                rw [hc0, show errV a 0 = .nilIface from rfl] at HA
                clear hz hnew hpass hc0
                generalize seenL long L s t now = L' at *
                go_wp2_with fail
                go_region_held3 (fun w' => w'.cell? ⟨b, o + k * 3, none⟩ = some (.string s) ∧ w'.cell? ⟨b, o + k * 3 + 1, none⟩ = some (.int .i64 t)) (first | go_keep | assumption)
                (first
                  | (go_at_call 8; refine (HA.out _ HOd.out.see HEd.out).mono ?_; rintro e w6 ⟨rfl, hS6, hg6⟩; have HO6 := hide (HOd.out.asked hS6 hg6 HPs.out); obtain ⟨e0, e1, _⟩ := HC.out _ HO6.out.below; clear hS6 hg6 HA))
                go_wp2
                obtain ⟨ad8', c8', e8, _, hw8⟩ := own_wordsL HO6.out.words
                injection e8 with e8a _ e8c
                subst e8a; subst e8c
                obtain ⟨ad9', c9', e9, _, hw9⟩ := own_timesV HO6.out.times
                injection e9 with e9a _ e9c
                subst e9a; subst e9c
                have HW8 := hide hw8
                have HW9 := hide hw9
                clear hw8 hw9 e0 e1 d0 d1 d2
                obtain ⟨hn, hhn⟩ : ∃ hn, hn = H.length := ⟨_, rfl⟩
                rw [← hhn] at hc8 hc9 hHk ⊢
                have HHn := hide hhn
                clear hhn
                go_loopw [12] (fun i wr => ∃ j : Nat, j ≤ hn ∧ i = .int .i64 j ∧ Hid (Below w6.heap.size w6 wr)) (fun i _ => hn - (intOf i).toNat)
                case atStart => exact ⟨0, Nat.zero_le _, rfl, Below.refl _ _⟩
                case round =>
                  obtain ⟨j, hj, rfl, HB2⟩ := hrel
                  have HO2 := hide (HO6.out.less HB2.out)
                  obtain ⟨f0, f1, f2⟩ := HC.out _ HO2.out.below
                  by_cases hjl : j < hn
                  · have hjH : j < H.length := by rw [← HHn.out]; exact hjl
                    rcases HW8.out with h0 | ⟨g8, rfl, hcell8⟩
                    · omega
                    rcases HW9.out with h0 | ⟨g9, rfl, hcell9⟩
                    · omega
                    have k8 : wr.cell? ⟨g8, j, none⟩ = some (.string H[j].s) := (HB2.out.cell (p := ⟨g8, j, none⟩) (cell_lt (hcell8 j hjH))).trans (hcell8 j hjH)
                    have k9 : wr.cell? ⟨g9, j, none⟩ = some (.int .i64 H[j].t) := (HB2.out.cell (p := ⟨g9, j, none⟩) (cell_lt (hcell9 j hjH))).trans (hcell9 j hjH)
                    have HNj := hide (HNw.out H[j] (List.getElem_mem hjH))
                    have hj8 : j < c8 := by omega
                    have hj9 : j < c9 := by omega
                    clear hcell8 hcell9
                    by_cases hy : H[j].s = s
                    · have hu : (H[j].t == t) = false := by rw [beq_eq_false_iff_ne]; exact fun e => HNj.out hy e
                      rw [hy] at k8
                      clear hy HNj
                      generalize (H[j]'hjH).t = u at *
                      go_wp2_with fail
                      go_quiet (fail)
                      go_wp2
                      go_roundw
                      case rel => exact ⟨j + 1, by omega, by go_num, below_drewN HB2.out _⟩
                      case measure => simp [intOf]; omega
                    · have hqy := texts_neW hy
                      clear hy HNj
                      generalize (H[j]'hjH).s = y at *
                      generalize (H[j]'hjH).t = u at *
                      go_wp2_with fail
                      go_quiet (fail)
                      go_wp2
                      go_roundw
                      case rel => exact ⟨j + 1, by omega, by go_num, below_drewN HB2.out _⟩
                      case measure => simp [intOf]; omega
                  · obtain rfl : j = hn := by omega
                    have HPu := hide HPa.out
                    have HN8 : Hid (j = H.length) := HHn.out
                    have HOj : Hid (OnSt W p m long now (.slice ad8 j c8) (.slice ad9 j c9) L' H H wr) := by show OnSt _ _ _ _ _ _ _ _ _ _ _; rw [HN8.out]; exact HO2.out
                    have hLn : (L'.length : Int) ≤ 40 := by have := HO2.out.see.good.few; omega
                    have HM := hide (fun w (h : SeenAt w p m long L') => seMany_any p m long L' w h)
                    have HLw : Hid (W.heap.size ≤ wr.heap.size) := HO2.out.below.size
                    generalize (L'.length : Int) = ln at *
                    clear hc8 hc9
                    go_wp2_with (first
                      | (at_builtin; refine wpList_append_own _ rfl (.tmp 98) (.tmp 104) 30 rfl W.heap.size 9 iS (.string ByteArray.empty) 1 16 Tryd.underlying30 hiS hzS0 hzS1 hzS2 rfl (by decide) _ _ _ rfl (HOj.out.words.alloc _) ⟨wr.heap.size, 0, none⟩ 1 1 [.string s] rfl rfl (new_cell1 wr (.string s) 9) (new_one1 rfl) (by have := HN8.out; unfold maxLen; omega) (by have := HN8.out; omega) (Nat.le_trans HLw.out (by simp)) ?_; intro v8 w7 hown7 hgrow7 _; have HO7 := hide (OnSt.pushS (q := ⟨s, t⟩) HOj.out ((Below.refl _ _).alloc (Nat.le_refl _) _) HPu.out hown7 hgrow7); obtain ⟨_, g1, g2⟩ := HC.out _ HO7.out.below; have HLw7 : Hid (W.heap.size ≤ w7.heap.size) := HO7.out.below.size; clear hown7 hgrow7)
                      | (at_builtin; refine wpList_append_own _ rfl (.tmp 106) (.tmp 112) 31 rfl W.heap.size 3 iI (.int .i64 0) 1 8 Tryd.underlying31 hiI hzI0 hzI1 hzI2 rfl (by decide) _ _ _ rfl (HO7.out.times.alloc _) ⟨w7.heap.size, 0, none⟩ 1 1 [.int .i64 t] rfl rfl (new_cell1 w7 (.int .i64 t) 3) (new_one1 rfl) (by have := HN8.out; unfold maxLen; omega) (by have := HN8.out; omega) (Nat.le_trans HLw7.out (by simp)) ?_; intro v9 w8 hown8 hgrow8 _; have HO8 := hide (OnSt.pushT (q := ⟨s, t⟩) HO7.out ((Below.refl _ _).alloc (Nat.le_refl _) _) hown8 hgrow8); obtain ⟨_, h1, h2⟩ := HC.out _ HO8.out.below; clear hown8 hgrow8)
                      | (go_at_call 9; refine (HM.out _ HO8.out.see).mono ?_; rintro e w9 ⟨rfl, hww⟩; subst hww; clear HM))
                    go_roundg (n - (k + 1))
                    case measure => omega
                    case rel => exact ⟨k + 1, now, L', H ++ [⟨s, t⟩], by omega, Nat.le_refl _, by go_num, rfl, ⟨hnn1, hnn2⟩, by rw [List.length_append, ← HN8.out]; simp; omega, HO8⟩
              · have hev : errV a (seenC long L s t now) = eV (a (seenC long L s t now - 1)) := if_neg hc0
                rw [hev] at HA
                clear hc0 hev
                generalize a (seenC long L s t now - 1) = pe at *
                generalize seenL long L s t now = L' at *
                go_wp2_with fail
                go_region_held3 (fun w' => w'.cell? ⟨b, o + k * 3, none⟩ = some (.string s) ∧ w'.cell? ⟨b, o + k * 3 + 1, none⟩ = some (.int .i64 t)) (first | go_keep | assumption)
                (first
                  | (go_at_call 8; refine (HA.out _ HOd.out.see HEd.out).mono ?_; rintro e w6 ⟨rfl, hS6, hg6⟩; have HO6 := hide (HOd.out.asked hS6 hg6 HPs.out); obtain ⟨e0, e1, _⟩ := HC.out _ HO6.out.below; clear hS6 hg6 HA))
                go_wp2
                go_roundg (n - (k + 1))
                case measure => omega
                case rel => exact ⟨k + 1, now, L', H, by omega, Nat.le_refl _, by go_num, rfl, ⟨hnn1, hnn2⟩, by omega, HO6⟩
        · go_wp2
          go_ret
          exact ⟨rfl, HO.out.below⟩
    · have HB3 : Hid (Below W.heap.size W w3) := HB1.out.trans (hb.mono HB1.out.size)
      clear hb hl HNew HB1
      go_wp2
      go_ret
      exact ⟨rfl, HB3.out⟩
end Go.Proofs.YtgagekcjdapkfadDoor

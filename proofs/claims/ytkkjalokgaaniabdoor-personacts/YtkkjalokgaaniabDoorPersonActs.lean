/-
  PersonActs: with whatever acts and person, the statement's function answers true: package person's book answers as the document's answer's does.
-/
import Derived.Test.YtkkjalokgaaniabDoorPersonFin
import Derived.Test.YtkkjalokgaaniabDoorQuietBelow
import Derived.Deep.CutBlock
import Derived.Deep.DeepCutAuto
import Derived.Deep.RegionHeld
namespace Go.Proofs.YtkkjalokgaaniabDoor
open Go Go.RowKit Go.Extern.Stop Go.Stop Go.Extern Go.Maps

set_option maxRecDepth 100000 in
set_option maxHeartbeats 8000000 in
theorem personActs_any (a : Nat → Addr) (v : Value) (l : List ActD) (p : Per) (W : World) (hE : Errs a W) (hA : ActsAt W v l) (hm : l.length ≤ maxLen) (hs : ∀ x ∈ l, x.kind.size ≤ maxLen ∧ x.name.size ≤ maxLen) (hp : p.name.size ≤ maxLen) :
    Calls Tryd.prog 3 #[v, .agg #[.string p.name, .int .i64 p.key, .int .i64 p.epoch, .bool p.off]] W fun e w' => e = .returned (.bool true) ∧ Below W.heap.size W w' := by
  have HE := hide hE
  have HLong := hide (fun w hb => longActs_any v l w (hA.below hb) hm hs)
  have HB0 : Hid (Below W.heap.size W (W.alloc (.cells #[.string p.name, .int .i64 p.key, .int .i64 p.epoch, .bool p.off] 24))) := (Below.refl _ _).alloc (Nat.le_refl _) _
  have HR0 : Hid ((W.alloc (.cells #[.string p.name, .int .i64 p.key, .int .i64 p.epoch, .bool p.off] 24)).heap[W.heap.size]? = some (.cells #[.string p.name, .int .i64 p.key, .int .i64 p.epoch, .bool p.off] 24 (0, 0))) := heap_alloc_new _ _
  have HPe := hide (peopled_any a _ ((hE.below HB0.out).ev perS))
  have HS := hide hs
  have HPs := hide hp
  have hp2 : p.name.size ≤ 9223372036854775807 := by unfold maxLen at hp; exact hp
  obtain ⟨ad, cap, rfl, hcap, hC⟩ := hA
  have HC := hide hC
  clear hE hs hC hp
  generalize hl : l.length = n at hcap hm ⊢
  rw [hl] at HLong
  have HL := hide hl
  clear hl
  go_enter Tryd.func3, Tryd.ntmps3
  go_wp2_with fail
  refine HPe.out.mono ?_
  rintro e w1 ⟨rfl, hb⟩
  have HB1 : Hid (Below W.heap.size W w1) := HB0.out.trans (hb.mono HB0.out.size)
  have hrow1 : w1.heap[W.heap.size]? = some (.cells #[.string p.name, .int .i64 p.key, .int .i64 p.epoch, .bool p.off] 24 (0, 0)) := by rw [hb.block _ (by simp)]; exact HR0.out
  have HR1 := hide hrow1
  have hpn : w1.cell? ⟨W.heap.size, 0, none⟩ = some (.string p.name) := cell_of_row w1 _ 0 _ _ _ hrow1
  clear hb hrow1
  go_wp2_with fail
  refine (HLong.out w1 HB1.out).mono ?_
  rintro e w2 ⟨⟨b, rfl, hsh⟩, rfl⟩
  have HSh := hide hsh
  clear hsh HLong HPe HB0 HR0
  cases b with
  | true =>
    go_wp2
    go_ret
    exact ⟨rfl, HB1.out⟩
  | false =>
    have hn80 : n ≤ 80 := by have := (HSh.out rfl).1; rw [HL.out] at this; exact this
    clear HSh hm
    by_cases hp20 : 20 < p.name.size
    · go_wp2
      go_ret
      exact ⟨rfl, HB1.out⟩
    · have hgl : W.heap.size < w2.heap.size := row_lt HR1.out
      have z0 := fun q : BelowAt w2 => q.cell hpn hgl
      have z1 := fun q : BelowAt w2 => q.cell (cell_of_row w2 W.heap.size 1 _ _ _ HR1.out : w2.cell? ⟨W.heap.size, 1, none⟩ = some (.int .i64 p.key)) hgl
      have z2 := fun q : BelowAt w2 => q.cell (cell_of_row w2 W.heap.size 2 _ _ _ HR1.out : w2.cell? ⟨W.heap.size, 2, none⟩ = some (.int .i64 p.epoch)) hgl
      have z3 := fun q : BelowAt w2 => q.cell (cell_of_row w2 W.heap.size 3 _ _ _ HR1.out : w2.cell? ⟨W.heap.size, 3, none⟩ = some (.bool p.off)) hgl
      have HChk : Hid (∀ q : BelowAt w2, Calls Tryd.prog 9 #[.agg #[.string p.name, .int .i64 p.key, .int .i64 p.epoch, .bool p.off]] q.to fun e w'' => e = .returned (errV a p.err) ∧ ∃ r : BelowAt w2, w'' = r.to) := fun q => BelowAt.calls (pcheck_any a p q.to (((HE.out.below HB1.out).below q.below).ev perS) HPs.out)
      have HRef : Hid (∀ q : BelowAt w2, Calls Tryd.prog 10 #[.agg #[.string p.name, .int .i64 p.key, .int .i64 p.epoch, .bool p.off]] q.to fun e w'' => e = .returned (.int .i64 (p.err : Int)) ∧ ∃ r : BelowAt w2, w'' = r.to) := fun q => BelowAt.calls (refPerson_any p q.to HPs.out)
      have HCod : Hid (∀ q : BelowAt w2, Calls Tryd.prog 8 #[errV a p.err, .int .i64 (p.err : Int)] q.to fun e w'' => e = .returned (.bool true) ∧ ∃ r : BelowAt w2, w'' = r.to) := fun q => BelowAt.calls ((coded_errV a p.err (err_small p) (p.err : Int) q.to ((HE.out.below HB1.out).below q.below)).mono fun _ _ ⟨h1, h2⟩ => ⟨by rw [h1]; simp, h2⟩)
      generalize (p.err : Int) = pe at HRef HCod
      generalize errV a p.err = pv at HChk HCod
      have any1 : Nonempty (BelowAt w2) := BelowAt.any w2
      go_wp2_with fail
      refine wp_region_below (by kernel_rfl) (by kernel_rfl) ?_
      repeat (go_big_quiet_step (first | exact HChk.out _ | exact HRef.out _ | exact HCod.out _))
      refine wpQuiet_nil ?_
      intro _ hw'
      obtain ⟨pq, hw''⟩ := hw'
      subst hw''
      have HBq : Hid (Below W.heap.size W pq.to) := HB1.out.trans (pq.below.mono HB1.out.size)
      have HRq : Hid (pq.to.heap[W.heap.size]? = some (.cells #[.string p.name, .int .i64 p.key, .int .i64 p.epoch, .bool p.off] 24 (0, 0))) := (pq.below.block _ hgl).trans HR1.out
      clear z0 z1 z2 z3 HChk HRef HCod hpn hgl HR1
      generalize pq.to = w3 at *
      clear pq any1 HB1
      have HN := hide (new_any w3)
      go_wp2_with fail
      refine HN.out.mono ?_
      rintro e w4 ⟨rfl, hk, hb⟩
      have HMb : Hid (BookAt w4 (w3.heap.size + 1) w3.heap.size [] ∧ Below w3.heap.size w3 w4) := ⟨hk, hb⟩
      have HE3 := hide (HE.out.below HBq.out)
      have HBo : Hid (Bo w3 (w3.heap.size + 1) w3.heap.size w4.heap.size [] (w4.alloc (.cells #[.slice none 0 0] 37))) :=
        ⟨hk.below ((Below.refl _ _).alloc (Nat.le_refl _) _), ⟨.slice none 0 0, ⟨heap_alloc_new _ _, World.ownsRow_nil _ _ _ _⟩, fun _ => rfl⟩, hb.alloc hb.size _, Nat.le_refl _, hb.size⟩
      clear hk hb HN HMb HE
      generalize w3.heap.size = mb at HBo
      go_wp2
      generalize w4.heap.size = bb at *
      go_loopg [8] n (fun g s8 wr => ∃ k : Nat, k ≤ n ∧ n - k ≤ g ∧ s8 = .int .i64 k ∧ Hid (∃ L, Bo w3 (mb + 1) mb bb L wr))
      case atStart => exact ⟨0, Nat.zero_le _, by omega, rfl, ⟨_, HBo.out⟩⟩
      case round =>
        obtain ⟨k, hk, hg, rfl, HK⟩ := hrel
        obtain ⟨L, hbo⟩ := HK.out
        have HBw : Hid (Below W.heap.size W wr) := HBq.out.trans (hbo.below.mono HBq.out.size)
        have HBk := hide hbo
        clear HK hbo HBo
        by_cases hlt : k < n
        · obtain ⟨b, o, rfl, hbw, hcs⟩ := HC.out (by rw [HL.out]; omega)
          obtain ⟨x, hx⟩ : ∃ x, l[k]? = some x := ⟨l[k]'(by rw [HL.out]; exact hlt), List.getElem?_eq_getElem _⟩
          obtain ⟨c0, c1, c2, c3⟩ := hcs k x hx
          have HX := hide (HS.out x (List.mem_of_getElem? hx))
          rw [← HBw.out.cell (p := ⟨b, _, none⟩) hbw] at c0 c1 c2 c3
          clear hcs hx
          obtain ⟨kind, name, key, is⟩ := x
          have HSt := hide (HBk.out.st #[.string kind, .string name, .int .i64 key, .bool is])
          go_upto_block 2 with fail
          clear c0 c1 c2 c3 hbw
          go_cut [10] from 44 to 124 (fun s10 wc => s10 = .bool true ∧ Hid (∃ L', Bo w3 (mb + 1) mb bb L' wc))
          case first =>
            obtain ⟨c1, L1, hc1, f1, g1⟩ := pair_add (W := w3) (bp := mb + 1) (mb := mb) (bb := bb) (ab := wr.heap.size) (cs := #[.string kind, .string name, .int .i64 key, .bool is]) (L := L) HE3.out name key HX.out.2
            obtain ⟨c2, L2, hc2, f2, g2⟩ := pair_rekey (W := w3) (bp := mb + 1) (mb := mb) (bb := bb) (ab := wr.heap.size) (cs := #[.string kind, .string name, .int .i64 key, .bool is]) (L := L) HE3.out name key HX.out.2
            obtain ⟨c3, L3, hc3, f3, g3⟩ := pair_off (W := w3) (bp := mb + 1) (mb := mb) (bb := bb) (ab := wr.heap.size) (cs := #[.string kind, .string name, .int .i64 key, .bool is]) (L := L) HE3.out name is HX.out.2
            obtain ⟨nn, c4, L4, hc4, f4, g4⟩ := pair_raise (W := w3) (bp := mb + 1) (mb := mb) (bb := bb) (ab := wr.heap.size) (cs := #[.string kind, .string name, .int .i64 key, .bool is]) (L := L) HE3.out name HX.out.2
            have F1 := hide f1
            have G1 := hide g1
            have D1 := hide (fun w => pair_coded (W := w3) (bp := mb + 1) (mb := mb) (bb := bb) (ab := wr.heap.size) (cs := #[.string kind, .string name, .int .i64 key, .bool is]) (L := L1) (L1 := L1) HE3.out c1 hc1 w)
            have F2 := hide f2
            have G2 := hide g2
            have D2 := hide (fun w => pair_coded (W := w3) (bp := mb + 1) (mb := mb) (bb := bb) (ab := wr.heap.size) (cs := #[.string kind, .string name, .int .i64 key, .bool is]) (L := L2) (L1 := L2) HE3.out c2 hc2 w)
            have F3 := hide f3
            have G3 := hide g3
            have D3 := hide (fun w => pair_coded (W := w3) (bp := mb + 1) (mb := mb) (bb := bb) (ab := wr.heap.size) (cs := #[.string kind, .string name, .int .i64 key, .bool is]) (L := L3) (L1 := L3) HE3.out c3 hc3 w)
            have F4 := hide f4
            have G4 := hide g4
            have D4 := hide (fun w => pair_coded (W := w3) (bp := mb + 1) (mb := mb) (bb := bb) (ab := wr.heap.size) (cs := #[.string kind, .string name, .int .i64 key, .bool is]) (L := L4) (L1 := L4) HE3.out c4 hc4 w)
            clear f1 g1 f2 g2 f3 g3 f4 g4
            generalize hw5 : wr.alloc (.cells #[.string kind, .string name, .int .i64 key, .bool is] 39) = w5 at *
            have d0 : w5.cell? ⟨wr.heap.size, 0, none⟩ = some (.string kind) := HSt.out.cell 0 _ rfl
            have d1 : w5.cell? ⟨wr.heap.size, 1, none⟩ = some (.string name) := HSt.out.cell 1 _ rfl
            have d2 : w5.cell? ⟨wr.heap.size, 2, none⟩ = some (.int .i64 key) := HSt.out.cell 2 _ rfl
            have d3 : w5.cell? ⟨wr.heap.size, 3, none⟩ = some (.bool is) := HSt.out.cell 3 _ rfl
            have HSd := hide (HSt.out.less ((Below.refl _ _).drew))
            clear hw5
            generalize wr.heap.size = ab at *
            cases h1 : (kind.toList == [97, 100, 100]) with
            | true =>
              go_wp2_with fail
              go_region_held (fun w' => w'.cell? ⟨ab, 1, none⟩ = some (.string name) ∧ w'.cell? ⟨ab, 2, none⟩ = some (.int .i64 key)) (go_keep)
                (first
                  | (go_at_call 12; refine (F1.out _ HSd.out).mono ?_; rintro e w6 ⟨rfl, hst⟩; have HS6 := hide hst; have e1 : w6.cell? ⟨ab, 1, none⟩ = some (.string name) := hst.cell 1 _ rfl; have e2 : w6.cell? ⟨ab, 2, none⟩ = some (.int .i64 key) := hst.cell 2 _ rfl; clear hst)
                  | (go_at_call 13; refine (G1.out _ HS6.out).mono ?_; rintro e w7 ⟨rfl, hst⟩; have HS7 := hide hst; have e3 : w7.cell? ⟨ab, 1, none⟩ = some (.string name) := hst.cell 1 _ rfl; have e4 : w7.cell? ⟨ab, 2, none⟩ = some (.int .i64 key) := hst.cell 2 _ rfl; clear hst)
                  | (go_at_call 8; refine (D1.out _ HS7.out).mono ?_; rintro e w8 ⟨rfl, hst⟩; have HS8 := hide hst; have e5 : w8.cell? ⟨ab, 1, none⟩ = some (.string name) := hst.cell 1 _ rfl; have e6 : w8.cell? ⟨ab, 2, none⟩ = some (.int .i64 key) := hst.cell 2 _ rfl; clear hst))
              go_wp2_with fail
              go_meet
              case rel => exact ⟨rfl, ⟨_, HS8.out.bo⟩⟩
            | false =>
              cases h2 : (kind.toList == [114, 101, 107, 101, 121]) with
              | true =>
                go_wp2_with fail
                go_region_held (fun w' => w'.cell? ⟨ab, 1, none⟩ = some (.string name) ∧ w'.cell? ⟨ab, 2, none⟩ = some (.int .i64 key)) (go_keep)
                  (first
                    | (go_at_call 14; refine (F2.out _ HSd.out).mono ?_; rintro e w6 ⟨rfl, hst⟩; have HS6 := hide hst; have e1 : w6.cell? ⟨ab, 1, none⟩ = some (.string name) := hst.cell 1 _ rfl; have e2 : w6.cell? ⟨ab, 2, none⟩ = some (.int .i64 key) := hst.cell 2 _ rfl; clear hst)
                    | (go_at_call 15; refine (G2.out _ HS6.out).mono ?_; rintro e w7 ⟨rfl, hst⟩; have HS7 := hide hst; have e3 : w7.cell? ⟨ab, 1, none⟩ = some (.string name) := hst.cell 1 _ rfl; have e4 : w7.cell? ⟨ab, 2, none⟩ = some (.int .i64 key) := hst.cell 2 _ rfl; clear hst)
                    | (go_at_call 8; refine (D2.out _ HS7.out).mono ?_; rintro e w8 ⟨rfl, hst⟩; have HS8 := hide hst; have e5 : w8.cell? ⟨ab, 1, none⟩ = some (.string name) := hst.cell 1 _ rfl; have e6 : w8.cell? ⟨ab, 2, none⟩ = some (.int .i64 key) := hst.cell 2 _ rfl; clear hst))
                go_wp2_with fail
                go_meet
                case rel => exact ⟨rfl, ⟨_, HS8.out.bo⟩⟩
              | false =>
                cases h3 : (kind.toList == [114, 97, 105, 115, 101]) with
                | true =>
                  go_wp2_with fail
                  refine (F4.out _ HSt.out).mono ?_
                  rintro e w6 ⟨rfl, hst⟩
                  have HS6 := hide hst
                  have e1 : w6.cell? ⟨ab, 1, none⟩ = some (.string name) := hst.cell 1 _ rfl
                  clear hst
                  go_wp2_with fail
                  refine (G4.out _ HS6.out).mono ?_
                  rintro e w7 ⟨rfl, hst⟩
                  have HS7 := hide hst
                  clear hst
                  go_wp2_with fail
                  refine (D4.out _ HS7.out).mono ?_
                  rintro e w8 ⟨rfl, hst⟩
                  have HS8 := hide hst
                  clear hst
                  go_wp2_with fail
                  go_meet
                  case rel => exact ⟨by simp, ⟨_, HS8.out.bo⟩⟩
                | false =>
                  go_wp2_with fail
                  go_region_held (fun w' => w'.cell? ⟨ab, 1, none⟩ = some (.string name) ∧ w'.cell? ⟨ab, 3, none⟩ = some (.bool is)) (go_keep)
                    (first
                      | (go_at_call 18; refine (F3.out _ HSd.out).mono ?_; rintro e w6 ⟨rfl, hst⟩; have HS6 := hide hst; have e1 : w6.cell? ⟨ab, 1, none⟩ = some (.string name) := hst.cell 1 _ rfl; have e2 : w6.cell? ⟨ab, 3, none⟩ = some (.bool is) := hst.cell 3 _ rfl; clear hst)
                      | (go_at_call 19; refine (G3.out _ HS6.out).mono ?_; rintro e w7 ⟨rfl, hst⟩; have HS7 := hide hst; have e3 : w7.cell? ⟨ab, 1, none⟩ = some (.string name) := hst.cell 1 _ rfl; have e4 : w7.cell? ⟨ab, 3, none⟩ = some (.bool is) := hst.cell 3 _ rfl; clear hst)
                      | (go_at_call 8; refine (D3.out _ HS7.out).mono ?_; rintro e w8 ⟨rfl, hst⟩; have HS8 := hide hst; have e5 : w8.cell? ⟨ab, 1, none⟩ = some (.string name) := hst.cell 1 _ rfl; have e6 : w8.cell? ⟨ab, 3, none⟩ = some (.bool is) := hst.cell 3 _ rfl; clear hst))
                  go_wp2_with fail
                  go_meet
                  case rel => exact ⟨rfl, ⟨_, HS8.out.bo⟩⟩
          case rest =>
            obtain ⟨rfl, HB2⟩ := hcut
            clear HSt
            go_wp2
            go_roundg (n - (k + 1))
            case measure => omega
            case rel => exact ⟨k + 1, by omega, Nat.le_refl _, by go_num, HB2⟩
        · clear HC HS HL
          have HRw : Hid (wr.heap[W.heap.size]? = some (.cells #[.string p.name, .int .i64 p.key, .int .i64 p.epoch, .bool p.off] 24 (0, 0))) := (HBk.out.below.block _ (row_lt HRq.out)).trans HRq.out
          have hpn : wr.cell? ⟨W.heap.size, 0, none⟩ = some (.string p.name) := cell_of_row wr _ 0 _ _ _ HRw.out
          have hpl : W.heap.size < wr.heap.size := row_lt HRw.out
          obtain ⟨vL, hr, hvn⟩ := HBk.out.ref
          have HV := hide hr
          have HGd := hide HBk.out.book.good
          clear hr hvn HRq
          cases hgp : getP L p.name with
          | none =>
            have hfind := find_of_get hgp
            have HG := hide (get_no a (mb + 1) mb L p.name wr HBk.out.book ((HE3.out.below HBk.out.below).ev perS) HPs.out hgp)
            have HBx : Hid (∀ w5, Below wr.heap.size wr w5 → ∀ w6 b2 m2, BookAt w6 b2 m2 L → Below (w5.alloc (.cells #[.string ByteArray.empty, .int .i64 0, .int .i64 0, .bool false] 24)).heap.size (w5.alloc (.cells #[.string ByteArray.empty, .int .i64 0, .int .i64 0, .bool false] 24)) w6 → Fin w3 (mb + 1) mb bb b2 m2 L vL w5.heap.size noP w6) := fun w5 h5 w6 b2 m2 h2 h6 => by
              have h7 : Below w5.heap.size w5 (w5.alloc (.cells #[.string ByteArray.empty, .int .i64 0, .int .i64 0, .bool false] 24)) := (Below.refl _ _).alloc (Nat.le_refl _) _
              have h8 : Below wr.heap.size wr w6 := (h5.trans (h7.mono h5.size)).trans (h6.mono (h5.trans (h7.mono h5.size)).size)
              exact ⟨HBk.out.book.below h8, h2, HV.out.below h8, (h6.block _ (by simp)).trans (heap_alloc_new _ _), HBk.out.below.trans (h8.mono HBk.out.below.size)⟩
            go_wp2_with fail
            refine HG.out.mono ?_
            rintro e w5 ⟨rfl, hb5⟩
            have HB5 := hide hb5
            have hpn5 : ∀ o, (w5.alloc o).cell? ⟨W.heap.size, 0, none⟩ = some (.string p.name) := fun o => by
              rw [(hb5.trans (((Below.refl w5.heap.size w5).alloc (Nat.le_refl _) o).mono hb5.size)).cell (p := ⟨W.heap.size, 0, none⟩) hpl]; exact hpn
            have HF5 : Hid (∀ o, Calls Tryd.prog 21 #[.pointer (some ⟨bb, 0, none⟩), .string p.name] (w5.alloc o) fun e w' => e = .returned (.int .i64 (-1)) ∧ w' = w5.alloc o) := fun o => by
              have := refFind_any bb L p.name (w5.alloc o) (HV.out.below (hb5.trans (((Below.refl w5.heap.size w5).alloc (Nat.le_refl _) o).mono hb5.size))).book (Nat.le_trans HGd.out.few (by decide))
              rw [hfind] at this
              exact this
            have HCp : Hid (∀ o, Calls Tryd.prog 22 #[.pointer (some ⟨mb + 1, 0, none⟩)] (w5.alloc o) fun e w' => ∃ b m, e = .returned (.pointer (some ⟨b, 0, none⟩)) ∧ BookAt w' b m L ∧ Below (w5.alloc o).heap.size (w5.alloc o) w') := fun o => copy_any (mb + 1) mb L (w5.alloc o) (HBk.out.book.below (hb5.trans (((Below.refl w5.heap.size w5).alloc (Nat.le_refl _) o).mono hb5.size)))
            clear hb5 hpn HG
            go_wp2_with fail
            refine (HF5.out _).mono ?_
            rintro e w6 ⟨rfl, rfl⟩
            go_wp2_with fail
            refine (HCp.out _).mono ?_
            rintro e w6 ⟨b2, m2, rfl, hbk2, hb6⟩
            have HF6 := hide (HBx.out w5 HB5.out w6 b2 m2 hbk2 hb6)
            have HFd := hide (HF6.out.less ((Below.refl _ _).drew))
            have dv := HF6.out.cell
            clear hbk2 hb6 HBx HF5 HCp hpn5
            generalize w5.heap.size = xb at *
            go_wp2_with fail
            go_region_held (fun w' => w'.cell? ⟨bb, 0, none⟩ = some vL) (go_keep)
              (first
                | (go_at_call 24; refine (fin_all HFd.out).mono ?_; rintro e w7 ⟨v7, base7, rfl, ho, hf⟩; have HO7 := hide ho; have HF7 := hide hf; have dv7 := hf.cell; clear ho hf HFd)
                | (go_at_call 23; refine (fin_same HF7.out HO7.out).mono ?_; rintro e w8 ⟨rfl, hf⟩; have HF8 := hide hf; have dv8 := hf.cell; clear hf HF7 HO7)
                | (go_at_call 24; refine (fin_all2 HF8.out).mono ?_; rintro e w9 ⟨v9, base9, rfl, ho, hf⟩; have HO9 := hide ho; have HF9 := hide hf; have dv9 := hf.cell; clear ho hf HF8)
                | (go_at_call 23; refine (fin_same HF9.out HO9.out).mono ?_; rintro e w10 ⟨rfl, hf⟩; have HF10 := hide hf; have dv10 := hf.cell; clear hf))
            go_wp2_with fail
            refine (fin_none HE3.out HF10.out).mono ?_
            rintro e w11 ⟨rfl, hf⟩
            have HBe : Hid (Below W.heap.size W w11) := HBq.out.trans (hf.below.mono HBq.out.size)
            obtain ⟨y0, y1, y2, y3⟩ := cells_row hf.box
            simp only [noP] at y0 y1 y2 y3
            clear hf HF10 dv10 dv9 dv8 dv7 dv HO9 HF9
            go_wp2
            go_ret
            exact ⟨rfl, HBe.out⟩
          | some q =>
            obtain ⟨kk, hkk, hq, hfind⟩ := find_of_some hgp
            have HG := hide (get_yes (mb + 1) mb L p.name wr HBk.out.book HPs.out q hgp)
            have HQ : Hid (L[kk]? = some q) := by show _ = _; rw [← hq]; exact List.getElem?_eq_getElem hkk
            have hkm : (kk : Int) < (L.length : Int) := by omega
            have hkp : decide ((kk : Int) < 0) = false := decide_eq_false (by omega)
            clear hq
            have HBx : Hid (∀ w5, Below wr.heap.size wr w5 → ∀ w6 b2 m2, BookAt w6 b2 m2 L → Below (w5.alloc (.cells #[.string q.name, .int .i64 q.key, .int .i64 q.epoch, .bool q.off] 24)).heap.size (w5.alloc (.cells #[.string q.name, .int .i64 q.key, .int .i64 q.epoch, .bool q.off] 24)) w6 → Fin w3 (mb + 1) mb bb b2 m2 L vL w5.heap.size q w6) := fun w5 h5 w6 b2 m2 h2 h6 => by
              have h7 : Below w5.heap.size w5 (w5.alloc (.cells #[.string q.name, .int .i64 q.key, .int .i64 q.epoch, .bool q.off] 24)) := (Below.refl _ _).alloc (Nat.le_refl _) _
              have h8 : Below wr.heap.size wr w6 := (h5.trans (h7.mono h5.size)).trans (h6.mono (h5.trans (h7.mono h5.size)).size)
              exact ⟨HBk.out.book.below h8, h2, HV.out.below h8, (h6.block _ (by simp)).trans (heap_alloc_new _ _), HBk.out.below.trans (h8.mono HBk.out.below.size)⟩
            go_wp2_with fail
            refine HG.out.mono ?_
            rintro e w5 ⟨rfl, hb5⟩
            have HB5 := hide hb5
            have hpn5 : ∀ o, (w5.alloc o).cell? ⟨W.heap.size, 0, none⟩ = some (.string p.name) := fun o => by
              rw [(hb5.trans (((Below.refl w5.heap.size w5).alloc (Nat.le_refl _) o).mono hb5.size)).cell (p := ⟨W.heap.size, 0, none⟩) hpl]; exact hpn
            have HF5 : Hid (∀ o, Calls Tryd.prog 21 #[.pointer (some ⟨bb, 0, none⟩), .string p.name] (w5.alloc o) fun e w' => e = .returned (.int .i64 (kk : Int)) ∧ w' = w5.alloc o) := fun o => by
              have := refFind_any bb L p.name (w5.alloc o) (HV.out.below (hb5.trans (((Below.refl w5.heap.size w5).alloc (Nat.le_refl _) o).mono hb5.size))).book (Nat.le_trans HGd.out.few (by decide))
              rw [hfind] at this
              exact this
            have HCp : Hid (∀ o, Calls Tryd.prog 22 #[.pointer (some ⟨mb + 1, 0, none⟩)] (w5.alloc o) fun e w' => ∃ b m, e = .returned (.pointer (some ⟨b, 0, none⟩)) ∧ BookAt w' b m L ∧ Below (w5.alloc o).heap.size (w5.alloc o) w') := fun o => copy_any (mb + 1) mb L (w5.alloc o) (HBk.out.book.below (hb5.trans (((Below.refl w5.heap.size w5).alloc (Nat.le_refl _) o).mono hb5.size)))
            clear hb5 hpn HG
            go_wp2_with fail
            refine (HF5.out _).mono ?_
            rintro e w6 ⟨rfl, rfl⟩
            go_wp2_with fail
            refine (HCp.out _).mono ?_
            rintro e w6 ⟨b2, m2, rfl, hbk2, hb6⟩
            have HF6 := hide (HBx.out w5 HB5.out w6 b2 m2 hbk2 hb6)
            have HFd := hide (HF6.out.less ((Below.refl _ _).drew))
            have dv := HF6.out.cell
            clear hbk2 hb6 HBx HF5 HCp hpn5
            generalize w5.heap.size = xb at *
            go_wp2_with fail
            go_region_held (fun w' => w'.cell? ⟨bb, 0, none⟩ = some vL) (go_keep)
              (first
                | (go_at_call 24; refine (fin_all HFd.out).mono ?_; rintro e w7 ⟨v7, base7, rfl, ho, hf⟩; have HO7 := hide ho; have HF7 := hide hf; have dv7 := hf.cell; clear ho hf HFd)
                | (go_at_call 23; refine (fin_same HF7.out HO7.out).mono ?_; rintro e w8 ⟨rfl, hf⟩; have HF8 := hide hf; have dv8 := hf.cell; clear hf HF7 HO7)
                | (go_at_call 24; refine (fin_all2 HF8.out).mono ?_; rintro e w9 ⟨v9, base9, rfl, ho, hf⟩; have HO9 := hide ho; have HF9 := hide hf; have dv9 := hf.cell; clear ho hf HF8)
                | (go_at_call 23; refine (fin_same HF9.out HO9.out).mono ?_; rintro e w10 ⟨rfl, hf⟩; have HF10 := hide hf; have dv10 := hf.cell; clear hf))
            obtain ⟨adL, capL, rfl, hcL⟩ := row_form HF10.out.ref.2
            obtain ⟨gL, rfl, _, hcsL⟩ := prow_cells HF10.out.ref.2 (by omega)
            obtain ⟨y0, y1, y2, y3⟩ := hcsL kk q HQ.out
            obtain ⟨x0, x1, x2, x3⟩ := cells_row HF10.out.box
            have HBe : Hid (Below W.heap.size W w10) := HBq.out.trans (HF10.out.below.mono HBq.out.size)
            have dvL := HF10.out.cell
            clear hcsL HF10 dv10 dv9 dv8 dv7 dv HO9 HF9
            generalize L.length = mL at *
            go_wp2_with fail
            go_quiet (fail)
            go_wp2
            go_ret
            exact ⟨rfl, below_drewN HBe.out _⟩
end Go.Proofs.YtkkjalokgaaniabDoor

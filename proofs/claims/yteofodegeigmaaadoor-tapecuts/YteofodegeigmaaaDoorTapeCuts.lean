/-
  The law TapeCuts: wherever power is cut, what is recovered is what was appended with no error, and it goes on from there.
-/
import Derived.Test.YteofodegeigmaaaDoorTapeDone
namespace Go.Proofs.YteofodegeigmaaaDoor
open Go Go.RowKit Go.Extern.Stop Go.Stop Go.Extern Go.Proofs

set_option maxRecDepth 100000 in
set_option maxHeartbeats 4000000 in
theorem tapeCuts_law (a : Nat → Addr) (v : Value) (l : List ByteArray) (cut : Int) (W : World) (hE : EV tpS a W) (hT : Tab10 W) (hv : WordsAt W v l) (hcut : cut ≤ 9223372036854775807) :
    Calls Tryd.prog 3 #[v, .int .i64 cut] W fun e w' => e = .returned (.bool true) ∧ Below W.heap.size W w' := by
  obtain ⟨i0, hi, hz0, hz1, hz2⟩ := info_parts Tryd.infoStringT
  have HTp := hide (taped_any a W hE hT)
  have HE := hide hE
  have HT := hide hT
  obtain ⟨ad, cap, rfl, hcap, hcell⟩ := hv
  have HV := hide hcell
  generalize hn : l.length = n at *
  have HN := hide hn
  clear hE hT hcell hn
  go_enter Tryd.func3, Tryd.ntmps3
  go_wp2_with fail
  refine HTp.out.mono ?_
  rintro e w1 ⟨rfl, hb⟩
  have HB1 := hide hb
  clear hb HTp
  by_cases hn30 : 30 < n
  · have hz : (30 : Int) < (n : Int) := by omega
    go_wp2
    go_ret
    exact ⟨rfl, HB1.out⟩
  have hz30 : ¬ (30 : Int) < (n : Int) := by omega
  by_cases hc0 : cut < 0
  · go_wp2
    go_ret
    exact ⟨rfl, HB1.out⟩
  have HNew := hide (newDisk_any ⟨#[]⟩ w1 (by decide))
  go_wp2_with fail
  refine HNew.out.mono ?_
  rintro e w2 ⟨d, v0, rfl, hd, hD, hb⟩
  have hB2 : Below W.heap.size W w2 := HB1.out.trans (hb.mono HB1.out.size)
  have hD' : DiskAt w2 W.heap.size d v0 ⟨[], false, -1⟩ := ⟨hD.row, hD.own.less HB1.out.size⟩
  have hdW : W.heap.size ≤ d := Nat.le_trans HB1.out.size hd
  have HdW := hide hdW
  have HCut := hide (cutD_any a W.heap.size d v0 ⟨[], false, -1⟩ cut w2 hD' (HE.out.below hB2))
  have hcc : Tp.cutC ⟨[], false, -1⟩ cut = 0 := by unfold Tp.cutC; rw [if_neg (by omega)]; rfl
  have hcr : Tp.cutR ⟨[], false, -1⟩ cut = ⟨[], false, cut⟩ := if_pos hcc
  rw [hcc, hcr, show errV a 0 = .nilIface from rfl] at HCut
  have HD2 := hide hD'
  have HB2 := hide hB2
  clear hB2 hD' hdW hcc hcr hb hd hD HNew
  go_wp2_with fail
  refine HCut.out.mono ?_
  rintro e w3 ⟨rfl, hP⟩
  have hSt : TcSt W d (.slice none 0 0) ⟨[], false, cut⟩ [] w3 := by
    obtain ⟨v1, h1, h2⟩ := hP
    exact ⟨⟨v1, h1⟩, World.ownsRow_nil _ _ _ _, DPost.low ⟨v1, h1, h2⟩ HB2.out HdW.out HD2.out⟩
  have HSt := hide hSt
  clear hSt hP HCut HD2 HB2
  go_wp2
  go_loopg [8, 9] n (fun gg s8 s9 wr => ∃ (k : Nat) (t : Tp) (L : List (List UInt8)), s9 = .int .i64 k ∧ k ≤ n ∧ n - k ≤ gg ∧ L.length ≤ k ∧ Hid (t.Right ∧ t.holds L ∧ t.b.length ≤ 213 * k) ∧ Hid (TcSt W d s8 t L wr))
  case atStart => exact ⟨0, _, [], rfl, Nat.zero_le _, Nat.le_refl _, Nat.le_refl _, (show Hid _ from ⟨⟨Nat.zero_le _, by show (-1 : Int) ≤ cut; omega, hcut⟩, ⟨fun x hx => (by cases hx), [], rfl, rfl, fun _ => rfl⟩, Nat.zero_le _⟩), HSt⟩
  case round =>
    obtain ⟨k, t, L, rfl, hk, hgg, hLk, HG, HO⟩ := hrel
    clear HSt
    by_cases hlt : k < n
    · have hkl : k < l.length := by rw [HN.out]; exact hlt
      rcases HV.out with h0 | ⟨ba, oa, rfl, ha⟩
      · omega
      have HC : Hid (∀ w', Below W.heap.size W w' → w'.cell? ⟨ba, oa + k, none⟩ = some (.string l[k])) := fun w' hb => by
        have := ha k hkl
        exact (hb.cell (p := ⟨ba, oa + k, none⟩) (cell_lt this)).trans this
      have c0 := HC.out wr HO.out.below
      clear ha
      generalize l[k] = x at *
      by_cases hx : 200 < x.size
      · have hz : (200 : Int) < (x.size : Int) := by omega
        go_wp2
        go_ret
        exact ⟨rfl, HO.out.below⟩
      have hz : ¬ (200 : Int) < (x.size : Int) := by omega
      obtain ⟨v1, hd1⟩ := HO.out.disk
      have HD1 := hide hd1
      have HA := hide (append_any a W d v1 t x wr HE.out HT.out HO.out.below HdW.out hd1 HG.out.1)
      have hxl : x.data.toList.length ≤ 200 := by rw [size_list]; omega
      have HG2 : Hid ((t.appR x.data.toList).Right ∧ (t.appR x.data.toList).holds (if t.appC x.data.toList = 0 then L ++ [x.data.toList] else L) ∧ (t.appR x.data.toList).b.length ≤ 213 * (k + 1)) :=
        ⟨HG.out.1.app _, Tp.holds_app (show t.holds L from HG.out.2.1) _, by have h1 := app_len t x.data.toList; have h2 := rec_small hxl; have h3 := HG.out.2.2; omega⟩
      clear hd1 hxl
      by_cases hc : t.appC x.data.toList = 0
      · rw [hc, show errV a 0 = .nilIface from rfl] at HA
        rw [if_pos hc] at HG2
        clear hc
        go_wp2_with fail
        refine HA.out.mono ?_
        rintro e w4 ⟨rfl, hP⟩
        have HO4 := hide (HO.out.acted HdW.out HD1.out hP)
        have c1 := HC.out w4 HO4.out.below
        clear hP HA HD1 c0 HO
        generalize t.appR x.data.toList = t' at *
        go_wp2_with (first
          | (at_builtin; refine wpList_append_own _ rfl _ _ 22 rfl W.heap.size 9 i0 (.string ByteArray.empty) 1 16 Tryd.underlying22 hi hz0 hz1 hz2 rfl (by decide) _ _ _ rfl (HO4.out.words.alloc _) ⟨w4.heap.size, 0, none⟩ 1 1 [.string x] rfl rfl ?c1 ?c2 ?c3 ?c4 ?c5 ?_))
        case c1 =>
          intro j u hj
          match j, hj with
          | 0, hj => simp at hj; subst hj; simp [Addr.add]
        case c2 => intro u hu; simp at hu; subst hu; rfl
        case c3 => unfold maxLen; omega
        case c4 => omega
        case c5 => have := HO4.out.below.size; simp; omega
        · intro v' w5 hown' hgrow _
          have HO5 := hide (HO4.out.push ((Below.refl _ _).alloc (Nat.le_refl _) _) hown' hgrow)
          clear hown' hgrow HO4 c1
          go_wp2
          go_roundg (n - (k + 1))
          case measure => omega
          case rel => exact ⟨k + 1, _, _, by go_num, by omega, Nat.le_refl _, by rw [List.length_append, List.length_singleton]; omega, HG2, HO5⟩
      · rw [errV_pos a hc] at HA
        rw [if_neg hc] at HG2
        clear hc
        generalize a (t.appC x.data.toList - 1) = am at *
        go_wp2_with fail
        refine HA.out.mono ?_
        rintro e w4 ⟨rfl, hP⟩
        have HO4 := hide (HO.out.acted HdW.out HD1.out hP)
        clear hP HA HD1 c0 HO
        generalize t.appR x.data.toList = t' at *
        go_wp2
        go_roundg (n - (k + 1))
        case measure => omega
        case rel => exact ⟨k + 1, _, _, by go_num, by omega, Nat.le_refl _, by omega, HG2, HO4⟩
    · obtain rfl : k = n := by omega
      obtain ⟨ad8, c8, he8, hc8, _⟩ := HO.out.wordsAt
      rw [List.length_map] at he8
      subst he8
      obtain ⟨v1, hd1⟩ := HO.out.disk
      have HD1 := hide hd1
      have HR := hide (recover_any W d v1 t wr HT.out HO.out.below HdW.out hd1 HG.out.1)
      obtain ⟨hr1, hr2⟩ := Tp.holds.read (show t.holds L from HG.out.2.1)
      have HRd := hide (And.intro hr1 hr2)
      have HSm := hide (show t.holds L from HG.out.2.1).1
      have hbl : t.recR.b.length ≤ 6390 := by
        have h1 := HG.out.2.2
        have h2 := (read_cat t.b).2.2
        show (t.b.take (readN t.b)).length ≤ _
        rw [List.length_take]
        omega
      obtain ⟨g1, g2⟩ := app_ok (t := t.recR) (s := [111, 110, 101, 32, 109, 111, 114, 101]) (by decide) (by omega) rfl (by show (-1 : Int) < 0; decide)
      have HAp := hide (And.intro g1 g2)
      have HRt := hide (HG.out.1.recR)
      obtain ⟨o1, o2⟩ := one_more (L := L) (s := [111, 110, 101, 32, 109, 111, 114, 101]) (show t.holds L from HG.out.2.1).1 (by decide)
      rw [← hr2] at o1 o2
      have HOne := hide (And.intro o1 o2)
      have h3l : (t.recR.b ++ recL [111, 110, 101, 32, 109, 111, 114, 101]).length ≤ 262144 := by
        have := rec_small (s := [111, 110, 101, 32, 109, 111, 114, 101]) (by decide)
        rw [List.length_append]
        omega
      have HZ := hide h3l
      clear hd1 hr1 hr2 hbl g1 g2 o1 o2 h3l
      go_wp2_with fail
      refine HR.out.mono ?_
      rintro e w4 ⟨x, rfl, hx, hP⟩
      have HO4 := hide (HO.out.acted HdW.out HD1.out hP)
      have hx' : w4.ownsRow wr.heap.size 9 1 x L.length (cellsT (L.map txt)) := by rw [← HRd.out.1]; exact hx
      have HSame := hide (sameT_any (L.map txt) x _ w4 (by rw [List.length_map]; omega) (words_own (by rw [List.length_map]; exact hx')) HO4.out.wordsAt)
      clear hx hx' hP HR HD1 HO HG HRd
      go_wp2_with fail
      refine HSame.out.mono ?_
      rintro e w5 ⟨rfl, hb⟩
      have HO5 := hide (HO4.out.less hb)
      obtain ⟨v5, hd5⟩ := HO5.out.disk
      have HD5 := hide hd5
      have HPw := hide (power_any W.heap.size d v5 t.recR w5 hd5)
      have HA := hide (append_any a W d v5 t.recR ⟨#[111, 110, 101, 32, 109, 111, 114, 101]⟩ w5 HE.out HT.out HO5.out.below HdW.out hd5 HRt.out)
      have hap : t.recR.appC (ByteArray.data ⟨#[111, 110, 101, 32, 109, 111, 114, 101]⟩).toList = 0 := HAp.out.1
      have hap2 : t.recR.appR (ByteArray.data ⟨#[111, 110, 101, 32, 109, 111, 114, 101]⟩).toList = ⟨t.recR.b ++ recL [111, 110, 101, 32, 109, 111, 114, 101], false, -1⟩ := HAp.out.2
      rw [hap, hap2, show errV a 0 = .nilIface from rfl] at HA
      change Hid (Calls _ _ _ _ fun e w' => e = .returned (.bool true) ∧ w' = w5) at HPw
      clear hb hd5 HO4 HSame hap hap2 HAp
      go_wp2_with fail
      refine HPw.out.mono ?_
      rintro e w6 ⟨rfl, rfl⟩
      clear HPw
      go_wp2_with fail
      refine HA.out.mono ?_
      rintro e w7 ⟨rfl, hP⟩
      have HO7 := hide (HO5.out.acted HdW.out HD5.out hP)
      obtain ⟨v7, hd7⟩ := HO7.out.disk
      have HBy := hide (fun w' (h : Below w7.heap.size w7 w') => bytesD_any W.heap.size d v7 _ w' (hd7.below h))
      have HRe := hide (read_any (txt (t.recR.b ++ recL [111, 110, 101, 32, 109, 111, 114, 101])) w7 (tab_below HT.out HO7.out.below) (by rw [txt_size]; exact HZ.out))
      rw [txt_list] at HRe
      have hzt : (txt (t.recR.b ++ recL [111, 110, 101, 32, 109, 111, 114, 101])).size = (t.recR.b ++ recL [111, 110, 101, 32, 109, 111, 114, 101]).length := txt_size _
      clear hP HA HD5 HO5 hd7
      generalize t.recR.b ++ recL [111, 110, 101, 32, 109, 111, 114, 101] = bb at *
      go_wp2_with fail
      refine (HBy.out w7 (Below.refl _ _)).mono ?_
      rintro e w8 ⟨rfl, rfl⟩
      go_wp2_with fail
      refine HRe.out.mono ?_
      rintro e w9 ⟨x2, rfl, hx2, hb⟩
      rw [HOne.out.1] at hx2
      rw [HOne.out.2, ← hzt]
      have hw2 : WordsAt w9 x2 ((L ++ [[111, 110, 101, 32, 109, 111, 114, 101]]).map txt) := words_own (by rw [List.length_map]; exact hx2)
      obtain ⟨ad2, c2, he2, hc2, hcell2⟩ := hw2
      have hxl : ((L ++ [[111, 110, 101, 32, 109, 111, 114, 101]]).map txt).length = L.length + 1 := by simp
      rw [hxl] at he2 hc2
      subst he2
      rcases hcell2 with h0 | ⟨b2, o2, rfl, ht2⟩
      · rw [hxl] at h0; omega
      have q0 : w9.cell? ⟨b2, o2 + L.length, none⟩ = some (.string ⟨#[111, 110, 101, 32, 109, 111, 114, 101]⟩) := by
        have := ht2 L.length (by rw [hxl]; omega)
        rw [this]
        simp
      have HB9 := hide hb
      clear hx2 ht2 hb HRe HOne hzt
      generalize L.length = m at *
      have hm1 : IntKind.i64.wrap ((m : Int) + 1) = (m : Int) + 1 := by rw [IntKind.wrap_i64]; omega
      have hm2 : (m : Int) < ((m + 1 : Nat) : Int) := by omega
      go_wp2_with fail
      refine (HBy.out w9 HB9.out).mono ?_
      rintro e w10 ⟨rfl, rfl⟩
      go_wp2
      go_ret
      exact ⟨by simp, HO7.out.below.trans (HB9.out.mono HO7.out.below.size)⟩
end Go.Proofs.YteofodegeigmaaaDoor

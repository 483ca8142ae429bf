/-
  What package tape's Read and Recover give: the records of bytes, and how many bytes they have; a disk whose bytes behind them are gone.
-/
import Derived.Test.YteofodegeigmaaaDoorTapeFirst
import Derived.Test.YteofodegeigmaaaDoorTapeApp2
import Derived.Test.YteofodegeigmaaaDoorTapeWords
namespace Go.Proofs.YteofodegeigmaaaDoor
open Go Go.RowKit Go.Extern.Stop Go.Stop Go.Extern Go.Proofs

theorem cellsTx_snoc (L : List (List UInt8)) (x : ByteArray) : cellsT (L.map txt) ++ [.string x] = cellsT ((L ++ [x.data.toList]).map txt) := by
  simp [cellsT, txt_back]
/-- What reading bytes gives. -/
def ReadPost (w : World) (b : List UInt8) (e : Ending) (w' : World) : Prop := ∃ v, e = .returned (.tuple #[v, .int .i64 (readN b : Nat)]) ∧ w'.ownsRow w.heap.size 9 1 v (readA b).length (cellsT ((readA b).map txt)) ∧ Below w.heap.size w w'
theorem read_end {w w' : World} {b : List UInt8} {f done : Nat} {L : List (List UInt8)} {v : Value} (h : ReadAt b f done L) (hn : oneR (b.drop done) = none) (ho : w'.ownsRow w.heap.size 9 1 v L.length (cellsT (L.map txt))) (hb : Below w.heap.size w w') : ReadPost w b (.returned (.tuple #[v, .int .i64 (done : Int)])) w' := by
  obtain ⟨h1, h2⟩ := h.stop hn
  exact ⟨v, by rw [h2], by rw [h1]; exact ho, hb⟩
theorem readL_le {b : List UInt8} {f done : Nat} {L : List (List UInt8)} (h : ReadAt b f done L) : L.length ≤ b.length := by
  have h1 := read_len b
  unfold readA at h1
  rw [h.all, List.length_append] at h1
  omega
set_option maxRecDepth 100000 in
set_option maxHeartbeats 2000000 in
theorem read_any (s : ByteArray) (w : World) (hT : Tab10 w) (hs : s.size ≤ 262144) :
    Calls Tryd.prog 12 #[.string s] w (ReadPost w s.data.toList) := by
  obtain ⟨i0, hi, hz0, hz1, hz2⟩ := info_parts Tryd.infoStringT
  have es : s.data.toList.length = s.size := by simp
  have HT := hide (fun (w' : World) (hb : Below w.heap.size w w') => tab_below hT hb)
  clear hT
  go_enter Tryd.func12, Tryd.ntmps12
  go_wp2
  go_loopg [4, 5, 6, 7] s.size (fun gg s4 s5 _ _ wr => ∃ (f k : Nat) (L : List (List UInt8)), s5 = .int .i64 k ∧ k ≤ s.size ∧ s.size - k ≤ gg ∧ Hid (ReadAt s.data.toList f k L) ∧ Hid (wr.ownsRow w.heap.size 9 1 s4 L.length (cellsT (L.map txt))) ∧ Hid (Below w.heap.size w wr))
  case atStart => exact ⟨_, 0, [], rfl, Nat.zero_le _, Nat.le_refl _, (show Hid _ from ReadAt.start _), (show Hid _ from World.ownsRow_nil _ _ _ _), (show Hid _ from Below.refl _ _)⟩
  case round =>
    obtain ⟨f, k, L, rfl, hk, hgg, HR, HO, HB⟩ := hrel
    have hx : (s.extract k s.size).data.toList = s.data.toList.drop k := extract_drop s k
    have hxs : (s.extract k s.size).size ≤ 262144 := by rw [ByteArray.size_extract]; omega
    have HF := hide (first_any (s.extract k s.size) wr (HT.out _ HB.out) hxs)
    have hk2 : (k : Int) ≤ (s.size : Int) := by omega
    have hk0 : (0 : Int) ≤ (k : Int) := by omega
    have HL := hide (readL_le HR.out)
    have Hx := hide hx
    clear hx hxs
    go_wp2_with fail
    refine HF.out.mono ?_
    rintro e w1 ⟨⟨x, ok, rfl, hone⟩, hb⟩
    rw [Hx.out] at hone
    have HB1 : Hid (Below w.heap.size w w1) := HB.out.trans (hb.mono HB.out.size)
    have HO1 : Hid (w1.ownsRow w.heap.size 9 1 u4 L.length (cellsT (L.map txt))) := words_kept HO.out fun g hg => hb.block g (HO.out.lt g hg).2
    clear hb HF HO HB Hx
    cases ok with
    | false =>
      have HE := hide (read_end HR.out (by simpa using hone) HO1.out HB1.out)
      clear hone
      go_wp2
      go_ret2
      exact HE.out
    | true =>
      obtain ⟨t, ht⟩ : ∃ t, oneR (s.data.toList.drop k) = some (x.data.toList, t) := by simpa using hone
      obtain ⟨g, rfl, hr2, hle, _⟩ := HR.out.more ht
      have h4 := (one_sound ht).1
      have hp := rec_pos x.data.toList
      have hxz : x.size ≤ 4000 := by rw [← size_list]; exact h4
      have HRec := hide (fun w' hT' => recT_any x w' hT' hxz)
      have hrs : (txt (recL x.data.toList)).size = (recL x.data.toList).length := txt_size _
      have HR2 := hide hr2
      generalize txt (recL x.data.toList) = rc at *
      generalize hm : (recL x.data.toList).length = m at *
      have HLl : Hid (L.length ≤ 262144) := by have := HL.out; show _ ≤ _; omega
      clear hone ht hr2 h4 hm HL
      subst hrs
      go_wp2_with (first
        | (at_builtin; refine wpList_append_own _ rfl _ _ 22 rfl w.heap.size 9 i0 (.string ByteArray.empty) 1 16 Tryd.underlying22 hi hz0 hz1 hz2 rfl (by decide) _ _ _ rfl (HO1.out.alloc _) ⟨w1.heap.size, 0, none⟩ 1 1 [.string x] rfl rfl ?c1 ?c2 ?c3 ?c4 ?c5 ?_))
      case c1 =>
        intro j u hj
        match j, hj with
        | 0, hj => simp at hj; subst hj; simp [Addr.add]
      case c2 => intro u hu; simp at hu; subst hu; rfl
      case c3 => have := HLl.out; unfold maxLen; omega
      case c4 => have := HLl.out; omega
      case c5 => have := HB1.out.size; simp; omega
      · intro v' w2 hown' hgrow _
        have HB2 : Hid (Below w.heap.size w w2) := (HB1.out.alloc HB1.out.size _).grown hgrow (by have := HB1.out.size; simp; omega) (fun g hg => (HO1.out.lt g hg).1)
        rw [cellsTx_snoc] at hown'
        have HO2 : Hid (w2.ownsRow w.heap.size 9 1 v' (L ++ [x.data.toList]).length (cellsT ((L ++ [x.data.toList]).map txt))) := by rw [List.length_append]; exact hown'
        clear hown' hgrow HB1 HO1
        go_wp2_with fail
        refine (HRec.out _ (HT.out _ HB2.out)).mono ?_
        rintro e w3 ⟨rfl, hb⟩
        have HB3 : Hid (Below w.heap.size w w3) := HB2.out.trans (hb.mono HB2.out.size)
        have HO3 : Hid (w3.ownsRow w.heap.size 9 1 v' (L ++ [x.data.toList]).length (cellsT ((L ++ [x.data.toList]).map txt))) := words_kept HO2.out fun g hg => hb.block g (HO2.out.lt g hg).2
        clear hb HB2 HO2 HRec
        go_wp2
        go_roundg (s.size - (k + rc.size))
        case measure => omega
        case rel => exact ⟨_, k + rc.size, _, by go_num, by omega, Nat.le_refl _, HR2, HO3, HB3⟩
theorem words_less {w : World} {B C : Nat} {v : Value} {n : Nat} {cs : List Value} (h : w.ownsRow B 9 1 v n cs) (hc : C ≤ B) : w.ownsRow C 9 1 v n cs := by
  refine ⟨h.1, ?_⟩
  rcases h.2 with hn | ⟨g, cap, cur, rfl, hB, rest⟩
  · exact .inl hn
  · exact .inr ⟨g, cap, cur, rfl, Nat.le_trans hc hB, rest⟩
/-- What recovering gives. -/
def RecPost (w : World) (B d : Nat) (v : Value) (t : Tp) (e : Ending) (w' : World) : Prop := ∃ x, e = .returned (.tuple #[x, .nilIface]) ∧ w'.ownsRow w.heap.size 9 1 x (readA t.b).length (cellsT ((readA t.b).map txt)) ∧ DPost w B d v t.recR w'
set_option maxRecDepth 100000 in
set_option maxHeartbeats 2000000 in
theorem recover_any (W : World) (d : Nat) (v : Value) (t : Tp) (w : World) (hT : Tab10 W) (hW : Below W.heap.size W w) (hd : W.heap.size ≤ d) (h : DiskAt w W.heap.size d v t) (hR : t.Right) :
    Calls Tryd.prog 9 #[.pointer (some ⟨d, 0, none⟩)] w (RecPost w W.heap.size d v t) := by
  have HON := hide (on_any W.heap.size d v t w h)
  have HD := hide h
  have HW := hide hW
  have HT := hide hT
  have hlen := hR.len
  have HD0 := hide (row_lt h.row)
  clear h hW hT hR
  go_enter Tryd.func9, Tryd.ntmps9
  go_wp2_with fail
  refine HON.out.mono ?_
  rintro e w1 ⟨rfl, v1, hd1, hk1⟩
  have hW1 : Below W.heap.size W w1 := below_kept HW.out hk1 (Nat.le_refl _) (fun j hj => by
    rcases hj with rfl | hj
    · exact hd
    · exact (HD.out.own.lt j hj).1)
  have HBy := hide (bytesD_any W.heap.size d v1 t.onR w1 hd1)
  have HRd := hide (read_any (txt t.b) w1 (tab_below HT.out hW1) (by rw [txt_size]; exact hlen))
  rw [txt_list] at HRd
  have HD1 := hide hd1
  have HK1 := hide hk1
  have HW1 := hide hW1
  clear hd1 hk1 hW1 HON
  go_wp2_with fail
  refine HBy.out.mono ?_
  rintro e w2 ⟨rfl, rfl⟩
  go_wp2_with fail
  refine HRd.out.mono ?_
  rintro e w3 ⟨x, rfl, hx, hb⟩
  have hd3 := HD1.out.below hb
  obtain ⟨g, cap, rfl, hcap, _⟩ := HD1.out.own.form
  obtain ⟨hr1, hr2, hr3⟩ := read_cat t.b
  have hbl : t.onR.b = t.b := rfl
  rw [hbl] at hcap hd3
  obtain ⟨⟨c0, _⟩, f0, _⟩ := dky_cells hd3.row
  have HEnd : Hid (RecPost w W.heap.size d v t (.returned (.tuple #[x, .nilIface])) (w3.setCell ⟨d, 0, none⟩ (.slice (some ⟨g, 0, none⟩) (readN t.b) cap))) := by
    have hle : readN t.b ≤ t.onR.b.length := hr3
    have ho := hd3.own.cut hle
    have hrow := heap_setCell_same w3 d 0 _ _ (.slice (some ⟨g, 0, none⟩) (readN t.b) cap) hd3.row
    have hk3 : KeptD (fun k => k = d ∨ v.ownBlock = some k) w (w3.setCell ⟨d, 0, none⟩ (.slice (some ⟨g, 0, none⟩) (readN t.b) cap)) := (HK1.out.trans (KeptD.of_below _ hb)).setCell (p := ⟨d, 0, none⟩) (Or.inl rfl) _
    refine ⟨x, rfl, ?_, .slice (some ⟨g, 0, none⟩) (readN t.b) cap, ⟨hrow, ?_⟩, hk3⟩
    · exact words_less (words_kept hx fun k hk => heap_setCell_other w3 _ k _ fun e => by
        have h1 := (hx.lt k hk).1
        have h2 := HK1.out.size
        have h3 := HD0.out
        simp only at e
        omega) HK1.out.size
    · exact ho.setCell (ho.apart hd3.row (by decide)) _
  have hz : (readN t.b : Int) ≤ (cap : Int) := by have := hr3; omega
  have hz0 : (0 : Int) ≤ (readN t.b : Int) := by omega
  clear hx hd3 hr1 hr2 hr3 hcap HRd HBy hb
  generalize readN t.b = rn at *
  go_wp2
  go_ret2
  exact HEnd.out
end Go.Proofs.YteofodegeigmaaaDoor

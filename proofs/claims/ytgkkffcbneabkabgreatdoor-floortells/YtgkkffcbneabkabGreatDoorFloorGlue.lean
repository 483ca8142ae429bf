/-
  What the document's answer's Glue and Cut give at a comma: texts with a comma between, for texts of at most 6000 bytes together; the pieces of a text of at most 4000 bytes between commas, in a slice of their own.
  One floor's text by its bytes: where its colon is, what is ahead of it and behind; and what is read of pieces, one more at a time.
-/
import Derived.Test.YtgkkffcbneabkabGreatDoorFloorWords
import Derived.Test.YtgkkffcbneabkabGreatDoorSealRef2
import Derived.WalkKit
import Derived.OwnWalk
namespace Go.Proofs.YtgkkffcbneabkabGreatDoor
open Go.RowKit Go.Extern.Stop Go.Stop Go.Extern

theorem Tryz.infoStringG : (Tryz.prog.info? 9).map (fun i => (i.zero, i.size, i.bytes)) = some (some (.string ByteArray.empty), 1, 16) := by kernel_rfl

/-- Texts as bytes. -/
abbrev bytesL (xs : List ByteArray) : List (List UInt8) := xs.map (·.data.toList)
theorem bytes_txt (ws : List (List UInt8)) : bytesL (ws.map txt) = ws := by
  unfold bytesL
  rw [List.map_map]
  exact (List.map_congr_left (fun x _ => rfl)).trans (List.map_id _)
/-- Texts as cells. -/
def cellsW (o : List (List UInt8)) : List Value := o.map fun l => .string (txt l)
theorem cellsW_len (o : List (List UInt8)) : (cellsW o).length = o.length := by simp [cellsW]
theorem cellsW_snoc (o : List (List UInt8)) (s : ByteArray) : cellsW o ++ [.string s] = cellsW (o ++ [s.data.toList]) := by
  simp only [cellsW, List.map_append, List.map_cons, List.map_nil, txt_back]
/-- Owned texts, read. -/
theorem owns_words {w : World} {base : Nat} {v : Value} {n : Nat} {o : List (List UInt8)} (h : w.ownsRow base 9 1 v n (cellsW o)) (hn : o ≠ []) :
    ∃ b cap, v = .slice (some ⟨b, 0, none⟩) o.length cap ∧ o.length ≤ cap ∧ Texts w b 0 (o.map txt) := by
  have hlen := h.1
  rw [cellsW_len, Nat.mul_one] at hlen
  subst hlen
  rcases h.2 with ⟨_, h0⟩ | ⟨g, cap, cur, rfl, _, hg, hc, _, _, ht⟩
  · exact absurd (List.length_eq_zero_iff.1 h0) hn
  · refine ⟨g, cap, rfl, hc, fun j hj => ?_⟩
    rw [Nat.zero_add, cell_of_row w g j cur _ _ hg]
    have hj2 : j < o.length := by simpa using hj
    have e1 : (cellsW o)[j]? = some (.string (o.map txt)[j]) := by
      unfold cellsW
      rw [List.getElem?_map, List.getElem?_eq_getElem hj2, List.getElem_map]
      rfl
    rw [← ht, List.getElem?_take] at e1
    split at e1
    · simpa using e1
    · cases e1

/-! ### Glue -/
theorem joinc_append_le (c : UInt8) : ∀ (b a : List (List UInt8)), (Lib.join a [c]).length ≤ (Lib.join (a ++ b) [c]).length
  | [], a => by rw [List.append_nil]; exact Nat.le_refl _
  | x :: b, a => by
    have ih := joinc_append_le c b (a ++ [x])
    rw [List.append_assoc] at ih
    refine Nat.le_trans ?_ ih
    by_cases ha : a = []
    · subst ha
      rw [Lib.join_nil]
      exact Nat.zero_le _
    · rw [join_snocc c x a ha, List.length_append]
      omega
theorem joinc_take_le (c : UInt8) (ws : List (List UInt8)) (k : Nat) : (Lib.join (ws.take k) [c]).length ≤ (Lib.join ws [c]).length := by
  have := joinc_append_le c (ws.drop k) (ws.take k)
  rwa [List.take_append_drop] at this
theorem joinc_next (c : UInt8) (xs : List ByteArray) (k : Nat) (hk : k < xs.length) :
    (k = 0 → txt (Lib.join ((bytesL xs).take k) [c]) ++ xs[k] = txt (Lib.join ((bytesL xs).take (k + 1)) [c])) ∧
    (k ≠ 0 → txt (Lib.join ((bytesL xs).take k) [c]) ++ ⟨#[c]⟩ ++ xs[k] = txt (Lib.join ((bytesL xs).take (k + 1)) [c])) := by
  have hkl : k < (bytesL xs).length := by simpa using hk
  have ht : (bytesL xs).take (k + 1) = (bytesL xs).take k ++ [xs[k].data.toList] := by
    rw [List.take_succ_eq_append_getElem hkl, List.getElem_map]
  refine ⟨fun h => ?_, fun h => ?_⟩
  · refine Sl.ba_ext ?_
    rw [ba_toList, txt_list, txt_list, ht]
    subst h
    show Lib.join [] [c] ++ _ = Lib.join ([] ++ [xs[0].data.toList]) [c]
    rw [List.nil_append, Lib.join_one, Lib.join_nil]
    rfl
  · refine Sl.ba_ext ?_
    rw [ba_toList, ba_toList, txt_list, txt_list, ht]
    have hne : (bytesL xs).take k ≠ [] := by
      intro e
      have := congrArg List.length e
      rw [List.length_take, List.length_nil] at this
      omega
    rw [join_snocc c _ _ hne]
    simp
theorem textc_le (c : UInt8) (xs : List ByteArray) (k : Nat) (hk : k < xs.length) : xs[k].size ≤ (Lib.join (bytesL xs) [c]).length := by
  have h1 := joinc_take_le c (bytesL xs) (k + 1)
  obtain ⟨a, b⟩ := joinc_next c xs k hk
  have e1 := txt_size (Lib.join ((bytesL xs).take (k + 1)) [c])
  by_cases h0 : k = 0
  · have := congrArg ByteArray.size (a h0)
    rw [ByteArray.size_append, e1] at this
    omega
  · have := congrArg ByteArray.size (b h0)
    rw [ByteArray.size_append, ByteArray.size_append, e1] at this
    omega

set_option maxRecDepth 100000 in
set_option maxHeartbeats 1000000 in
theorem refGlueC_any (xs : List ByteArray) (b o n c : Nat) (w : World) (hl : xs.length = n) (hn : n ≤ 100000) (hx : Texts w b o xs) (hg : (Lib.join (bytesL xs) [44]).length ≤ 6000) :
    Calls Tryz.prog 68 #[.slice (some ⟨b, o, none⟩) n c, .string ⟨#[44]⟩] w fun e w' => e = .returned (.string (txt (Lib.join (bytesL xs) [44]))) ∧ w' = w := by
  have HX := hide hx
  have HL := hide hl
  have HG := hide hg
  clear hx hl hg
  go_enter Tryz.func68, Tryz.ntmps68
  go_wp2
  go_loop [5, 6] (fun sv i => ∃ k : Nat, k ≤ n ∧ i = .int .i64 k ∧ sv = .string (txt (Lib.join ((bytesL xs).take k) [44]))) (fun _ i => n - (intOf i).toNat)
  case atStart => exact ⟨0, Nat.zero_le _, rfl, rfl⟩
  case round =>
    obtain ⟨k, hk, rfl, rfl⟩ := hrel
    by_cases hlt : k < n
    · have hkl : k < xs.length := by rw [HL.out]; exact hlt
      have hcell := HX.out k hkl
      have hsz : (txt (Lib.join ((bytesL xs).take k) [44])).size ≤ 6000 := by rw [txt_size]; exact Nat.le_trans (joinc_take_le _ _ _) HG.out
      have hyz : xs[k].size ≤ 6000 := Nat.le_trans (textc_le 44 xs k hkl) HG.out
      have HN := hide (joinc_next 44 xs k hkl)
      generalize txt (Lib.join ((bytesL xs).take k) [44]) = g at *
      generalize xs[k] = y at *
      by_cases h0 : k = 0
      · subst h0
        have HN0 := hide (HN.out.1 rfl)
        rw [Nat.add_zero] at hcell
        clear HN
        go_wp2
        go_round
        case rel => exact ⟨1, by omega, rfl, by rw [← HN0.out]⟩
        case measure => simp [intOf]; omega
      · have HN0 := hide (HN.out.2 h0)
        have h0' : (0 : Int) < (k : Int) := by omega
        clear HN
        go_wp2
        go_round
        case rel => exact ⟨k + 1, by omega, by go_num, by rw [← HN0.out]⟩
        case measure => simp [intOf]; omega
    · have hkn : (bytesL xs).take k = bytesL xs := List.take_of_length_le (by rw [List.length_map, HL.out]; omega)
      rw [hkn]
      clear hkn
      go_wp2
      go_ret
      exact ⟨rfl, rfl⟩

/-! ### Cut -/
theorem extract_listC (s : ByteArray) (f k : Nat) : (s.extract f k).data.toList = (s.data.toList.take k).drop f := by
  rw [Lib.extract_data, List.drop_take]
/-- A comma more. -/
theorem cutC_at (s : ByteArray) (f k : Nat) (o : List (List UInt8)) (hk : k < s.size) (hb : s[k] = 44) (h : cutB 44 (s.data.toList.take k) = o ++ [(s.extract f k).data.toList]) :
    cutB 44 (s.data.toList.take (k + 1)) = (o ++ [(s.extract f k).data.toList]) ++ [(s.extract (k + 1) (k + 1)).data.toList] := by
  rw [take_snoc s k hk, hb, cutB_cut, h, extract_listC s (k + 1) (k + 1)]
  have : List.drop (k + 1) (List.take (k + 1) s.data.toList) = [] := List.drop_eq_nil_of_le (by rw [List.length_take]; omega)
  rw [this]
  rfl
/-- A byte more that is none. -/
theorem cutC_byte (s : ByteArray) (f k : Nat) (o : List (List UInt8)) (hk : k < s.size) (hf : f ≤ k) (hb : s[k] ≠ 44) (h : cutB 44 (s.data.toList.take k) = o ++ [(s.extract f k).data.toList]) :
    cutB 44 (s.data.toList.take (k + 1)) = o ++ [(s.extract f (k + 1)).data.toList] := by
  rw [take_snoc s k hk, cutB_snoc 44 s[k] hb _ _ _ h, extract_listC, extract_listC, take_snoc s k hk, List.drop_append_of_le_length (by rw [List.length_take, size_list]; omega)]

set_option maxRecDepth 1000000 in
set_option maxHeartbeats 2000000 in
theorem refCutC_any (s : ByteArray) (w : World) (hs : s.size ≤ 4000) :
    Calls Tryz.prog 58 #[.string s, .int .u8 44] w fun e w' => ∃ b cap, e = .returned (.slice (some ⟨b, 0, none⟩) (cutB 44 s.data.toList).length cap) ∧ (cutB 44 s.data.toList).length ≤ cap ∧ Texts w' b 0 ((cutB 44 s.data.toList).map txt) ∧ Below w.heap.size w w' := by
  obtain ⟨i0, hi, hz0, hz1, hz2⟩ := info_parts Tryz.infoStringG
  have HLen : Hid (∀ k, (cutB 44 (s.data.toList.take k)).length ≤ 4001) := fun k => by
    have := cutB_len 44 (s.data.toList.take k)
    rw [List.length_take, size_list] at this
    omega
  have h44 : (44 : UInt8).toNat = 44 := by decide
  go_enter Tryz.func58, Tryz.ntmps58
  go_wp2
  go_loopw [5, 6, 7] (fun v fr i wr => ∃ (k f : Nat) (o : List (List UInt8)), k ≤ s.size ∧ f ≤ k ∧ i = .int .i64 k ∧ fr = .int .i64 f ∧ wr.ownsRow w.heap.size 9 1 v o.length (cellsW o) ∧ Hid (cutB 44 (s.data.toList.take k) = o ++ [(s.extract f k).data.toList]) ∧ Hid (Below w.heap.size w wr)) (fun _ _ i _ => s.size - (intOf i).toNat)
  case atStart => exact ⟨0, 0, [], Nat.zero_le _, Nat.le_refl _, rfl, rfl, World.ownsRow_nil _ _ _ _, (show Hid _ from by show _ = _; rw [extract_listC]; rfl), Below.refl _ _⟩
  case round =>
    obtain ⟨k, f, o, hk, hf, rfl, rfl, hown, HPi, HB⟩ := hrel
    have Ho : Hid (o.length + 1 ≤ 4001) := by
      have := HLen.out k
      rw [HPi.out, List.length_append] at this
      exact this
    by_cases hlt : k < s.size
    · by_cases hb : s[k] = 44
      · have hq : ((s[k].toNat : Int) == 44) = true := by rw [hb]; decide
        have HN := hide (cutC_at s f k o hlt hb HPi.out)
        clear hb
        go_wp2_with (first
          | (at_builtin; refine wpList_append_own _ rfl _ _ 43 rfl w.heap.size 9 i0 (.string ByteArray.empty) 1 16 Tryz.underlying43 hi hz0 hz1 hz2 rfl (by decide) _ _ _ rfl (hown.alloc _) ⟨wr.heap.size, 0, none⟩ 1 1 [.string (s.extract f k)] rfl rfl ?c1 ?c2 ?c3 ?c4 ?c5 ?_))
        case c1 =>
          intro j u hj
          match j, hj with
          | 0, hj => simp at hj; subst hj; simp [Addr.add]
        case c2 => intro u hu; simp at hu; subst hu; rfl
        case c3 => have := Ho.out; unfold maxLen; omega
        case c4 => have := Ho.out; omega
        case c5 => have := HB.out.size; simp; omega
        · intro v' w1 hown' hgrow _
          have HB1 : Hid (Below w.heap.size w w1) := (HB.out.alloc HB.out.size _).grown hgrow (by have := HB.out.size; simp; omega) (fun g hg => (hown.lt g hg).1)
          rw [cellsW_snoc] at hown'
          clear hown hgrow HB
          go_wp2
          go_roundw
          case rel => exact ⟨k + 1, k + 1, o ++ [(s.extract f k).data.toList], by omega, Nat.le_refl _, by go_num, by go_num, by rw [List.length_append]; exact hown', HN, HB1⟩
          case measure => simp [intOf]; omega
      · have hq : ((s[k].toNat : Int) == 44) = false := by
          rw [beq_eq_false_iff_ne]
          intro e
          exact hb (UInt8.toNat_inj.1 (by omega))
        have HN := hide (cutC_byte s f k o hlt hf hb HPi.out)
        clear hb
        go_wp2
        go_roundw
        case rel => exact ⟨k + 1, f, o, by omega, by omega, by go_num, rfl, hown, HN, HB⟩
        case measure => simp [intOf]; omega
    · have hks : k = s.size := by omega
      subst hks
      have HN : Hid (cutB 44 s.data.toList = o ++ [(s.extract f s.size).data.toList]) := by
        have := HPi.out
        rwa [List.take_of_length_le (by rw [size_list]; exact Nat.le_refl _)] at this
      go_wp2_with (first
        | (at_builtin; refine wpList_append_own _ rfl _ _ 43 rfl w.heap.size 9 i0 (.string ByteArray.empty) 1 16 Tryz.underlying43 hi hz0 hz1 hz2 rfl (by decide) _ _ _ rfl (hown.alloc _) ⟨wr.heap.size, 0, none⟩ 1 1 [.string (s.extract f s.size)] rfl rfl ?c1 ?c2 ?c3 ?c4 ?c5 ?_))
      case c1 =>
        intro j u hj
        match j, hj with
        | 0, hj => simp at hj; subst hj; simp [Addr.add]
      case c2 => intro u hu; simp at hu; subst hu; rfl
      case c3 => have := Ho.out; unfold maxLen; omega
      case c4 => have := Ho.out; omega
      case c5 => have := HB.out.size; simp; omega
      · intro v' w1 hown' hgrow _
        have HB1 : Hid (Below w.heap.size w w1) := (HB.out.alloc HB.out.size _).grown hgrow (by have := HB.out.size; simp; omega) (fun g hg => (hown.lt g hg).1)
        rw [cellsW_snoc, ← HN.out] at hown'
        obtain ⟨b, cap, rfl, hcap, htx⟩ := owns_words hown' (cutB_ne _ _)
        have HX := hide htx
        have HCap := hide hcap
        clear hown hown' hgrow HB htx hcap
        go_wp2
        go_ret
        exact ⟨b, cap, rfl, HCap.out, HX.out, HB1.out⟩
end Go.Proofs.YtgkkffcbneabkabGreatDoor

namespace Go.Proofs.YtgkkffcbneabkabGreatDoor
open Go

theorem no_colon (p : ByteArray) (h : ∀ m (hm : m < p.size), p[m] ≠ 58) : (58 : UInt8) ∉ p.data.toList := fun hx => by
  obtain ⟨j, hj, e⟩ := List.getElem_of_mem hx
  exact h j (by rw [size_list] at hj; exact hj) e
theorem at_colon (p : ByteArray) (j : Nat) (hj : j < p.size) (h : p[j] = 58) (hb : ∀ m (hm : m < p.size), m < j → p[m] ≠ 58) :
    (58 : UInt8) ∈ p.data.toList ∧ txt (aheadB 58 p.data.toList) = p.extract 0 j ∧ behindB 58 p.data.toList = (p.extract (j + 1) p.size).data.toList := by
  have hl : j < p.data.toList.length := by rw [size_list]; exact hj
  have he : p.data.toList = p.data.toList.take j ++ 58 :: p.data.toList.drop (j + 1) := by
    have h2 : p.data.toList[j] = 58 := h
    conv => lhs; rw [← List.take_append_drop j p.data.toList, List.drop_eq_getElem_cons hl, h2]
  have hn : (58 : UInt8) ∉ p.data.toList.take j := by
    intro hm
    obtain ⟨m, hm1, hm2⟩ := List.getElem_of_mem hm
    rw [List.length_take] at hm1
    rw [List.getElem_take] at hm2
    exact hb m (by omega) (by omega) hm2
  obtain ⟨e1, e2⟩ := ahead_cut 58 (p.data.toList.drop (j + 1)) (p.data.toList.take j) hn
  rw [← he] at e1 e2
  refine ⟨by rw [he]; simp, ?_, ?_⟩
  · refine Sl.ba_ext ?_
    rw [txt_list, e1, extract_listC, List.drop_zero]
  · rw [e2, extract_listC, List.take_of_length_le (by rw [size_list]; exact Nat.le_refl _)]
theorem numI_most (l : List UInt8) : numI l 9999999999 = if Sl.numOk l = true then (Sl.valL l : Int) else -1 := by
  unfold numI numB
  by_cases h : Sl.numOk l = true
  · have h2 := (Sl.numOk_iff l).1 h
    have := Sl.valL_lt l h2.2.1 h2.1.2
    rw [h, if_pos (by simp; omega), if_pos rfl]
  · rw [if_neg h, if_neg (by simp [h])]
theorem readOne_none (p : List UInt8) (h : (58 : UInt8) ∉ p) : readOneL p = none := if_neg h
theorem readOne_at (p : ByteArray) (j : Nat) (hj : j < p.size) (h : p[j] = 58) (hb : ∀ m (hm : m < p.size), m < j → p[m] ≠ 58) :
    (numI (p.extract (j + 1) p.size).data.toList 9999999999 < 0 → readOneL p.data.toList = none) ∧
    (¬ numI (p.extract (j + 1) p.size).data.toList 9999999999 < 0 → readOneL p.data.toList = some ⟨p.extract 0 j, numI (p.extract (j + 1) p.size).data.toList 9999999999⟩) := by
  obtain ⟨h1, h2, h3⟩ := at_colon p j hj h hb
  unfold readOneL numAny
  rw [if_pos h1, h2, h3, numI_most]
  by_cases hn : Sl.numOk (p.extract (j + 1) p.size).data.toList = true
  · rw [if_pos hn, if_pos hn]
    exact ⟨fun e => by omega, fun _ => rfl⟩
  · rw [if_neg hn, if_neg hn]
    exact ⟨fun _ => rfl, fun e => absurd (show (-1 : Int) < 0 by decide) e⟩
theorem read_step (ps : List (List UInt8)) (k : Nat) (hk : k < ps.length) (o : List Fl) (h : readAllL (ps.take k) = some o) :
    (readOneL ps[k] = none → readAllL ps = none) ∧ (∀ f, readOneL ps[k] = some f → readAllL (ps.take (k + 1)) = some (o ++ [f])) := by
  refine ⟨fun e => ?_, fun f e => ?_⟩
  · rw [← List.take_append_drop k ps, List.drop_eq_getElem_cons hk, readAll_append, h, readAllL_cons, e]
    rfl
  · rw [List.take_succ_eq_append_getElem hk, readAll_append, h, readAllL_cons, e]
    rfl
theorem readC_none (s : List UInt8) (hd : s ≠ [45]) (h : readAllL (cutB 44 s) = none) : readC s = (1, -1) ∧ readR s = [] := by
  have e : readL s = none := by unfold readL; rw [if_neg hd]; exact h
  exact ⟨by unfold readC; rw [e], by unfold readR; rw [e]⟩
theorem readC_some (s : List UInt8) (hd : s ≠ [45]) (r : List Fl) (h : readAllL (cutB 44 s) = some r) : readC s = checkL r ∧ readR s = if (checkL r).1 = 0 then r else [] := by
  have e : readL s = some r := by unfold readL; rw [if_neg hd]; exact h
  exact ⟨by unfold readC; rw [e], by unfold readR; rw [e]⟩
end Go.Proofs.YtgkkffcbneabkabGreatDoor

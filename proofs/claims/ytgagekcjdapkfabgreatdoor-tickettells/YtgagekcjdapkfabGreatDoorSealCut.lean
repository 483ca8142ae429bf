/-
  What the document's answer's Cut and Glue give: the pieces of a text of at most 4000 bytes between blanks, in a slice of their own; texts with a blank between, for texts of at most 6000 bytes together.
-/
import Derived.Test.YtgagekcjdapkfabGreatDoorSealRef2
import Derived.Test.YtgagekcjdapkfabGreatDoorSealTake
import Derived.WalkKit
import Derived.OwnWalk
namespace Go.Proofs.YtgagekcjdapkfabGreatDoor
open Go.RowKit Go.Extern.Stop Go.Stop Go.Extern

theorem Tryz.infoString : (Tryz.prog.info? 9).map (fun i => (i.zero, i.size, i.bytes)) = some (some (.string ByteArray.empty), 1, 16) := by kernel_rfl

/-- Texts as cells. -/
def cellsT (o : List (List UInt8)) : List Value := o.map fun l => .string (Sl.ofL l)
theorem cellsT_len (o : List (List UInt8)) : (cellsT o).length = o.length := by simp [cellsT]
theorem cellsT_snoc (o : List (List UInt8)) (s : ByteArray) : cellsT o ++ [.string s] = cellsT (o ++ [s.data.toList]) := by
  simp only [cellsT, List.map_append, List.map_cons, List.map_nil, Sl.ofL_toL]

theorem extract_list (s : ByteArray) (f k : Nat) : (s.extract f k).data.toList = (s.data.toList.take k).drop f := by
  rw [Lib.extract_data, List.drop_take]

/-- A blank more. -/
theorem cut_blank (s : ByteArray) (f k : Nat) (o : List (List UInt8)) (hk : k < s.size) (hb : s[k] = 32) (h : Sl.pieces (s.data.toList.take k) = o ++ [(s.extract f k).data.toList]) :
    Sl.pieces (s.data.toList.take (k + 1)) = (o ++ [(s.extract f k).data.toList]) ++ [(s.extract (k + 1) (k + 1)).data.toList] := by
  rw [take_snoc s k hk, hb, Sl.pieces_cut, h, extract_list s (k + 1) (k + 1)]
  have : List.drop (k + 1) (List.take (k + 1) s.data.toList) = [] := List.drop_eq_nil_of_le (by rw [List.length_take]; omega)
  rw [this]
  rfl
/-- A byte more that is none. -/
theorem cut_byte (s : ByteArray) (f k : Nat) (o : List (List UInt8)) (hk : k < s.size) (hf : f ≤ k) (hb : s[k] ≠ 32) (h : Sl.pieces (s.data.toList.take k) = o ++ [(s.extract f k).data.toList]) :
    Sl.pieces (s.data.toList.take (k + 1)) = o ++ [(s.extract f (k + 1)).data.toList] := by
  rw [take_snoc s k hk, Sl.pieces_snoc s[k] hb _ _ _ h, extract_list, extract_list, take_snoc s k hk, List.drop_append_of_le_length (by rw [List.length_take, size_list]; omega)]

/-- Owned texts, read. -/
theorem owns_texts {w : World} {base : Nat} {v : Value} {n : Nat} {o : List (List UInt8)} (h : w.ownsRow base 9 1 v n (cellsT o)) (hn : o ≠ []) :
    ∃ b cap, v = .slice (some ⟨b, 0, none⟩) o.length cap ∧ o.length ≤ cap ∧ Texts w b 0 (o.map Sl.ofL) := by
  have hlen := h.1
  rw [cellsT_len, Nat.mul_one] at hlen
  subst hlen
  rcases h.2 with ⟨_, h0⟩ | ⟨g, cap, cur, rfl, _, hg, hc, _, _, ht⟩
  · exact absurd (List.length_eq_zero_iff.1 h0) hn
  · refine ⟨g, cap, rfl, hc, fun j hj => ?_⟩
    rw [Nat.zero_add, cell_of_row w g j cur _ _ hg]
    have hj2 : j < o.length := by simpa using hj
    have e1 : (cellsT o)[j]? = some (.string (o.map Sl.ofL)[j]) := by
      unfold cellsT
      rw [List.getElem?_map, List.getElem?_eq_getElem hj2, List.getElem_map]
      rfl
    rw [← ht, List.getElem?_take] at e1
    split at e1
    · simpa using e1
    · cases e1

set_option maxRecDepth 1000000 in
set_option maxHeartbeats 2000000 in
theorem refCut_any (s : ByteArray) (w : World) (hs : s.size ≤ 4000) :
    Calls Tryz.prog 58 #[.string s, .int .u8 32] w fun e w' => ∃ b cap, e = .returned (.slice (some ⟨b, 0, none⟩) (Sl.pieces s.data.toList).length cap) ∧ (Sl.pieces s.data.toList).length ≤ cap ∧ Texts w' b 0 ((Sl.pieces s.data.toList).map Sl.ofL) ∧ Below w.heap.size w w' := by
  obtain ⟨i0, hi, hz0, hz1, hz2⟩ := info_parts Tryz.infoString
  have HLen : Hid (∀ k, (Sl.pieces (s.data.toList.take k)).length ≤ 4001) := fun k => by
    have := pieces_len (s.data.toList.take k)
    rw [List.length_take, size_list] at this
    omega
  have h32 : (32 : UInt8).toNat = 32 := by decide
  go_enter Tryz.func58, Tryz.ntmps58
  go_wp2
  go_loopw [5, 6, 7] (fun v fr i wr => ∃ (k f : Nat) (o : List (List UInt8)), k ≤ s.size ∧ f ≤ k ∧ i = .int .i64 k ∧ fr = .int .i64 f ∧ wr.ownsRow w.heap.size 9 1 v o.length (cellsT o) ∧ Hid (Sl.pieces (s.data.toList.take k) = o ++ [(s.extract f k).data.toList]) ∧ Hid (Below w.heap.size w wr)) (fun _ _ i _ => s.size - (intOf i).toNat)
  case atStart => exact ⟨0, 0, [], Nat.zero_le _, Nat.le_refl _, rfl, rfl, World.ownsRow_nil _ _ _ _, (show Hid _ from by show _ = _; rw [extract_list]; rfl), Below.refl _ _⟩
  case round =>
    obtain ⟨k, f, o, hk, hf, rfl, rfl, hown, HPi, HB⟩ := hrel
    have Ho : Hid (o.length + 1 ≤ 4001) := by
      have := HLen.out k
      rw [HPi.out, List.length_append] at this
      exact this
    by_cases hlt : k < s.size
    · by_cases hb : s[k] = 32
      · have hq : ((s[k].toNat : Int) == 32) = true := by rw [hb]; decide
        have HN := hide (cut_blank s f k o hlt hb HPi.out)
        clear hb
        go_wp2_with (first
          | (at_builtin; refine wpList_append_own _ rfl _ _ 43 rfl w.heap.size 9 i0 (.string ByteArray.empty) 1 16 Tryz.underlying43 hi hz0 hz1 hz2 rfl (by decide) _ _ _ rfl (hown.alloc _) ⟨wr.heap.size, 0, none⟩ 1 1 [.string (s.extract f k)] rfl rfl ?c1 ?c2 ?c3 ?c4 ?c5 ?_))
        case c1 =>
          intro j u hj
          match j, hj with
          | 0, hj => simp at hj; subst hj; simp [Addr.add]
        case c2 => intro u hu; simp at hu; subst hu; rfl
        case c3 => have := Ho.out; unfold maxLen; omega
        case c4 => have := Ho.out; omega
        case c5 => have := HB.out.size; simp; omega
        · intro v' w1 hown' hgrow _
          have HB1 : Hid (Below w.heap.size w w1) := (HB.out.alloc HB.out.size _).grown hgrow (by have := HB.out.size; simp; omega) (fun g hg => (hown.lt g hg).1)
          rw [cellsT_snoc] at hown'
          clear hown hgrow HB
          go_wp2
          go_roundw
          case rel => exact ⟨k + 1, k + 1, o ++ [(s.extract f k).data.toList], by omega, Nat.le_refl _, by go_num, by go_num, by rw [List.length_append]; exact hown', HN, HB1⟩
          case measure => simp [intOf]; omega
      · have hq : ((s[k].toNat : Int) == 32) = false := by
          rw [beq_eq_false_iff_ne]
          intro e
          exact hb (UInt8.toNat_inj.1 (by omega))
        have HN := hide (cut_byte s f k o hlt hf hb HPi.out)
        clear hb
        go_wp2
        go_roundw
        case rel => exact ⟨k + 1, f, o, by omega, by omega, by go_num, rfl, hown, HN, HB⟩
        case measure => simp [intOf]; omega
    · have hks : k = s.size := by omega
      subst hks
      have HN : Hid (Sl.pieces s.data.toList = o ++ [(s.extract f s.size).data.toList]) := by
        have := HPi.out
        rwa [List.take_of_length_le (by rw [size_list]; exact Nat.le_refl _)] at this
      go_wp2_with (first
        | (at_builtin; refine wpList_append_own _ rfl _ _ 43 rfl w.heap.size 9 i0 (.string ByteArray.empty) 1 16 Tryz.underlying43 hi hz0 hz1 hz2 rfl (by decide) _ _ _ rfl (hown.alloc _) ⟨wr.heap.size, 0, none⟩ 1 1 [.string (s.extract f s.size)] rfl rfl ?c1 ?c2 ?c3 ?c4 ?c5 ?_))
      case c1 =>
        intro j u hj
        match j, hj with
        | 0, hj => simp at hj; subst hj; simp [Addr.add]
      case c2 => intro u hu; simp at hu; subst hu; rfl
      case c3 => have := Ho.out; unfold maxLen; omega
      case c4 => have := Ho.out; omega
      case c5 => have := HB.out.size; simp; omega
      · intro v' w1 hown' hgrow _
        have HB1 : Hid (Below w.heap.size w w1) := (HB.out.alloc HB.out.size _).grown hgrow (by have := HB.out.size; simp; omega) (fun g hg => (hown.lt g hg).1)
        rw [cellsT_snoc, ← HN.out] at hown'
        obtain ⟨b, cap, rfl, hcap, htx⟩ := owns_texts hown' (Sl.pieces_ne _)
        have HX := hide htx
        have HCap := hide hcap
        clear hown hown' hgrow HB htx hcap
        go_wp2
        go_ret
        exact ⟨b, cap, rfl, HCap.out, HX.out, HB1.out⟩
end Go.Proofs.YtgagekcjdapkfabGreatDoor

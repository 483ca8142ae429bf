/-
  What the document's answer's TicketOf and OpenTicket give: of words, of a text, the ticket, or an error's number; for every slice of texts, key and text.
-/
import Derived.Test.YtgagekcjdapkfabGreatDoorTicketRef3
import Derived.Test.YtgagekcjdapkfabGreatDoorSealPair
import Derived.WalkKit
import Derived.OwnWalk
namespace Go.Proofs.YtgagekcjdapkfabGreatDoor
open Go.RowKit Go.Extern.Stop Go.Stop Go.Extern

theorem Tryz.infoInt : (Tryz.prog.info? 3).map (fun i => (i.zero, i.size, i.bytes)) = some (some (.int .i64 0), 1, 8) := by kernel_rfl
/-- Numbers as cells. -/
def cellsN (o : List Int) : List Value := o.map fun n => .int .i64 n
theorem cellsN_len (o : List Int) : (cellsN o).length = o.length := by simp [cellsN]
theorem cellsN_snoc (o : List Int) (n : Int) : cellsN o ++ [.int .i64 n] = cellsN (o ++ [n]) := by simp [cellsN]
/-- Owned numbers, read. -/
theorem owns_ints {w : World} {base : Nat} {v : Value} {n : Nat} {o : List Int} (h : w.ownsRow base 3 1 v n (cellsN o)) (hn : o ≠ []) :
    ∃ b cap, v = .slice (some ⟨b, 0, none⟩) o.length cap ∧ base ≤ b ∧ b < w.heap.size ∧ ∀ j (hj : j < o.length), w.cell? ⟨b, j, none⟩ = some (.int .i64 o[j]) := by
  have hlen := h.1
  rw [cellsN_len, Nat.mul_one] at hlen
  subst hlen
  rcases h.2 with ⟨_, h0⟩ | ⟨g, cap, cur, rfl, hb, hg, hc, _, _, ht⟩
  · exact absurd (List.length_eq_zero_iff.1 h0) hn
  · refine ⟨g, cap, rfl, hb, row_lt hg, fun j hj => ?_⟩
    rw [cell_of_row w g j cur _ _ hg]
    have e1 : (cellsN o)[j]? = some (.int .i64 o[j]) := by
      unfold cellsN
      rw [List.getElem?_map, List.getElem?_eq_getElem hj]
      rfl
    rw [← ht, List.getElem?_take] at e1
    split at e1
    · simpa using e1
    · cases e1

theorem numB_Any (l : List UInt8) : numB l 9999999999 = Sl.numOk l := by
  unfold numB
  cases h : Sl.numOk l with
  | false => rfl
  | true =>
    obtain ⟨h1, h2, _⟩ := (Sl.numOk_iff l).1 h
    have := Sl.valL_lt l h2 h1.2
    rw [decide_eq_true (by omega)]
    rfl
theorem numI_Any (l : List UInt8) : (Sl.numOk l = false ∧ numI l 9999999999 = -1) ∨ (Sl.numOk l = true ∧ numI l 9999999999 = (Sl.valL l : Int) ∧ (Sl.valL l : Int) < 10000000000) := by
  unfold numI
  rw [numB_Any]
  cases h : Sl.numOk l with
  | false => exact Or.inl ⟨rfl, rfl⟩
  | true =>
    obtain ⟨h1, h2, _⟩ := (Sl.numOk_iff l).1 h
    have := Sl.valL_lt l h2 h1.2
    exact Or.inr ⟨rfl, rfl, by omega⟩

set_option maxRecDepth 100000 in
set_option maxHeartbeats 2000000 in
theorem refOf_len (ad : Option Addr) (n c : Nat) (w : World) (hn : n ≠ 7) :
    Calls Tryz.prog 20 #[.slice ad n c] w fun e w' => e = .returned (.tuple #[tk0.val, .int .i64 1]) ∧ Below w.heap.size w w' := by
  have hn2 : ((n : Int) != 7) = true := by rw [bne_iff_ne]; omega
  clear hn
  go_enter Tryz.func20, Tryz.ntmps20
  go_wp2
  refine tkEnd rfl w.heap.size tk0 rfl (heap_alloc_new _ _) rfl ?_
  exact ⟨rfl, (Below.refl _ w).alloc (Nat.le_refl _) _⟩

/-- The first k of the four numbers. -/
def first4 (ys : List ByteArray) (k : Nat) : List Int := (ys.take k).map fun y => (Sl.valL y.data.toList : Int)
theorem first4_snoc (y0 y1 y2 y3 : ByteArray) (k : Nat) (hk : k < 4) : first4 [y0, y1, y2, y3] (k + 1) = first4 [y0, y1, y2, y3] k ++ [(Sl.valL ([y0, y1, y2, y3].getD k ⟨#[]⟩).data.toList : Int)] := by
  match k, hk with
  | 0, _ => rfl
  | 1, _ => rfl
  | 2, _ => rfl
  | 3, _ => rfl
theorem first4_len (y0 y1 y2 y3 : ByteArray) (k : Nat) (hk : k ≤ 4) : (first4 [y0, y1, y2, y3] k).length = k := by
  unfold first4
  rw [List.length_map, List.length_take]
  show min k 4 = k
  omega

set_option maxRecDepth 1000000 in
set_option maxHeartbeats 8000000 in
theorem refOf_nums (b o c : Nat) (x0 x1 x2 x3 x4 x5 x6 : ByteArray) (w : World) (hx : Texts w b o [x0, x1, x2, x3, x4, x5, x6]) (hs : ∀ x ∈ [x0, x1, x2, x3, x4, x5, x6], x.size ≤ maxLen)
    (r : Tk) (rv : Int) (hbad : ∀ k, k < 4 → Sl.numOk ([x3, x4, x5, x6].getD k ⟨#[]⟩).data.toList = false → r = tk0 ∧ rv = 1)
    (hkind : (∀ k, k < 4 → Sl.numOk ([x3, x4, x5, x6].getD k ⟨#[]⟩).data.toList = true) → x0.data.toList ≠ tickL → r = tk0 ∧ rv = 1)
    (hgood : (∀ k, k < 4 → Sl.numOk ([x3, x4, x5, x6].getD k ⟨#[]⟩).data.toList = true) → x0.data.toList = tickL → (rv = 0 ∧ r = ⟨x1, x2, (Sl.valL x3.data.toList : Int), (Sl.valL x4.data.toList : Int), (Sl.valL x5.data.toList : Int), (Sl.valL x6.data.toList : Int)⟩ ∨ 0 < rv ∧ rv ≤ 16 ∧ r = tk0) ∧ ∀ w, Calls Tryz.prog 16 #[.agg #[.string x1, .string x2, .int .i64 (Sl.valL x3.data.toList), .int .i64 (Sl.valL x4.data.toList), .int .i64 (Sl.valL x5.data.toList), .int .i64 (Sl.valL x6.data.toList)]] w fun e w' => e = .returned (.int .i64 rv) ∧ Below w.heap.size w w') :
    Calls Tryz.prog 20 #[.slice (some ⟨b, o, none⟩) 7 c] w fun e w' => e = .returned (.tuple #[r.val, .int .i64 rv]) ∧ Below w.heap.size w w' := by
  obtain ⟨i0, hi, hz0, hz1, hz2⟩ := info_parts Tryz.infoInt
  have HX := hide hx
  have HS := hide hs
  have HBad := hide hbad
  have HKind := hide hkind
  have HGood := hide hgood
  have HBl : Hid (b < w.heap.size) := hx.lt (by simp)
  have HB0 : Hid (Below w.heap.size w (w.alloc (tkO tk0))) := (Below.refl _ w).alloc (Nat.le_refl _) _
  have HR0 : Hid ((w.alloc (tkO tk0)).heap[w.heap.size]? = some (tkO tk0)) := heap_alloc_new _ _
  clear hx hs hbad hgood hkind
  go_enter Tryz.func20, Tryz.ntmps20
  go_wp2
  have HXW : Hid (∀ W, Below (w.alloc (tkO tk0)).heap.size (w.alloc (tkO tk0)) W → Texts W b o [x0, x1, x2, x3, x4, x5, x6]) := fun W hb => HX.out.below (HB0.out.trans (hb.mono HB0.out.size))
  have HSz : Hid (w.heap.size < (w.alloc (tkO tk0)).heap.size) := row_lt HR0.out
  generalize hW0 : w.alloc (.cells #[.string ⟨#[]⟩, .string ⟨#[]⟩, .int .i64 0, .int .i64 0, .int .i64 0, .int .i64 0] 23) = W0
  rw [show w.alloc (tkO tk0) = W0 from hW0] at HB0 HR0 HXW HSz
  clear hW0 HX
  go_loopw [4, 5] (fun v i wr => ∃ k : Nat, k ≤ 4 ∧ i = .int .i64 ((3 + k : Nat) : Int) ∧ wr.ownsRow W0.heap.size 3 1 v k (cellsN (first4 [x3, x4, x5, x6] k)) ∧ Hid (Below W0.heap.size W0 wr) ∧ Hid (∀ j, j < k → Sl.numOk ([x3, x4, x5, x6].getD j ⟨#[]⟩).data.toList = true)) (fun _ i _ => 7 - (intOf i).toNat)
  case atStart => exact ⟨0, Nat.zero_le _, rfl, World.ownsRow_nil _ _ _ _, Below.refl _ _, fun j hj => absurd hj (Nat.not_lt_zero _)⟩
  case round =>
    obtain ⟨k, hk, rfl, hown, HB, A⟩ := hrel
    by_cases hlt : k < 4
    · have hm1 : ((3 + k : Nat) : Int) < 7 := by omega
      have hm0 : (0 : Int) ≤ ((3 + k : Nat) : Int) := by omega
      have hcell : wr.cell? ⟨b, o + (3 + k), none⟩ = some (.string ([x3, x4, x5, x6].getD k ⟨#[]⟩)) := by
        rw [HXW.out wr HB.out (3 + k) (by simp; omega)]
        match k, hlt with
        | 0, _ => rfl
        | 1, _ => rfl
        | 2, _ => rfl
        | 3, _ => rfl
      have hsz : ([x3, x4, x5, x6].getD k ⟨#[]⟩).size ≤ maxLen := by
        refine HS.out _ ?_
        match k, hlt with
        | 0, _ => simp
        | 1, _ => simp
        | 2, _ => simp
        | 3, _ => simp
      have HN := hide (refNumber_any ([x3, x4, x5, x6].getD k ⟨#[]⟩) 9999999999 wr hsz)
      have HBk := hide (HBad.out k hlt)
      have HSn := hide (first4_snoc x3 x4 x5 x6 k hlt)
      have HA := hide A.out
      generalize hmm : 3 + k = m at *
      have HM := hide hmm
      clear hmm hsz A
      rcases numI_Any ([x3, x4, x5, x6].getD k ⟨#[]⟩).data.toList with ⟨hno, hnv⟩ | ⟨hyes, hnv, hlt10⟩
      · obtain ⟨rfl, rfl⟩ := HBk.out hno
        rw [hnv] at HN
        generalize [x3, x4, x5, x6].getD k ⟨#[]⟩ = y at *
        have HT2 : Hid (wr.heap[w.heap.size]? = some (tkO tk0)) := (HB.out.block _ HSz.out).trans HR0.out
        have HB2 : Hid (Below w.heap.size w wr) := HB0.out.trans (HB.out.mono HB0.out.size)
        obtain ⟨hd0, hd1, hd2, hd3, hd4, hd5⟩ := tk_row HT2.out
        obtain ⟨hf0, hf1, hf2, hf3, hf4, hf5⟩ := row_frozen6 HT2.out
        dsimp only [tk0] at hd0 hd1 hd2 hd3 hd4 hd5
        clear hno hnv HBk HSn HA hown HBad HKind HGood
        go_wp2_with fail
        refine HN.out.mono ?_
        rintro e w1 ⟨rfl, rfl⟩
        go_wp2
        refine tkEnd rfl w.heap.size tk0 rfl (row_set6 HT2.out _ _ _ _ _ _) rfl ?_
        exact ⟨rfl, below_set6 HB2.out (Nat.le_refl _) _ _ _ _ _ _⟩
      · rw [hnv] at HN
        have HY := hide hyes
        have hv0 : (0 : Int) ≤ (Sl.valL ([x3, x4, x5, x6].getD k ⟨#[]⟩).data.toList : Int) := by omega
        have Hlen := hide (first4_len x3 x4 x5 x6 k hk)
        have HBs : Hid (W0.heap.size ≤ wr.heap.size) := HB.out.size
        generalize (Sl.valL ([x3, x4, x5, x6].getD k ⟨#[]⟩).data.toList : Int) = nv at *
        have hvn : ¬ nv < 0 := by omega
        generalize hyy : [x3, x4, x5, x6].getD k ⟨#[]⟩ = y at *
        have HYy := hide hyy
        clear hyes hnv HBk hyy HBad HKind HGood
        go_wp2_with fail
        refine HN.out.mono ?_
        rintro e w1 ⟨rfl, rfl⟩
        go_wp2_with (first
          | (at_builtin; refine wpList_append_own _ rfl _ _ 93 rfl W0.heap.size 3 i0 (.int .i64 0) 1 8 Tryz.underlying93 hi hz0 hz1 hz2 rfl (by decide) _ _ _ rfl (hown.alloc _) ⟨w1.heap.size, 0, none⟩ 1 1 [.int .i64 nv] rfl rfl ?c1 ?c2 ?c3 ?c4 ?c5 ?_))
        case c1 =>
          intro j u hj
          match j, hj with
          | 0, hj => simp at hj; subst hj; simp [Addr.add]
        case c2 => intro u hu; simp at hu; subst hu; rfl
        case c3 => unfold maxLen; omega
        case c4 => omega
        case c5 => have := HBs.out; simp; omega
        · intro v' w2 hown' hgrow _
          have HB1 : Hid (Below W0.heap.size W0 w2) := (HB.out.alloc HB.out.size _).grown hgrow (by have := HBs.out; simp; omega) (fun g hg => (hown.lt g hg).1)
          rw [cellsN_snoc, ← HSn.out] at hown'
          clear hown hgrow HB
          go_wp2
          go_roundw
          case rel =>
            refine ⟨k + 1, by omega, by have := HM.out; go_num, hown', HB1, (show Hid _ from fun j hj => ?_)⟩
            by_cases e : j = k
            · subst e; rw [HYy.out]; exact HY.out
            · exact HA.out j (by omega)
          case measure => have := HM.out; simp [intOf]; omega
    · have : k = 4 := by omega
      subst this
      rw [show first4 [x3, x4, x5, x6] 4 = [(Sl.valL x3.data.toList : Int), (Sl.valL x4.data.toList : Int), (Sl.valL x5.data.toList : Int), (Sl.valL x6.data.toList : Int)] from rfl] at hown
      obtain ⟨g, cap, rfl, hgb, hgl, hcells⟩ := owns_ints hown (by simp)
      have hn0 := hcells 0 (by simp)
      have hn1 := hcells 1 (by simp)
      have hn2 := hcells 2 (by simp)
      have hn3 := hcells 3 (by simp)
      have hx0 : wr.cell? ⟨b, o, none⟩ = some (.string x0) := HXW.out wr HB.out 0 (by simp)
      have hx1 : wr.cell? ⟨b, o + 1, none⟩ = some (.string x1) := HXW.out wr HB.out 1 (by simp)
      have hx2 : wr.cell? ⟨b, o + 2, none⟩ = some (.string x2) := HXW.out wr HB.out 2 (by simp)
      simp only [List.getElem_cons_zero, List.getElem_cons_succ] at hn0 hn1 hn2 hn3
      have HKd := hide (HKind.out A.out)
      have HGd := hide (HGood.out A.out)
      have HT2 : Hid (wr.heap[w.heap.size]? = some (tkO tk0)) := (HB.out.block _ HSz.out).trans HR0.out
      have HB2 : Hid (Below w.heap.size w wr) := HB0.out.trans (HB.out.mono HB0.out.size)
      have HL0 : Hid (w.heap.size < wr.heap.size) := row_lt HT2.out
      have HL2 : Hid (b < wr.heap.size) := Nat.lt_of_lt_of_le HBl.out HB2.out.size
      have HL3 := hide hgl
      clear hown hcells HBad HKind HGood A HXW HS HB HB0 HR0 HSz hgb hgl hi hz0 hz1 hz2
      generalize (Sl.valL x3.data.toList : Int) = v3 at *
      generalize (Sl.valL x4.data.toList : Int) = v4 at *
      generalize (Sl.valL x5.data.toList : Int) = v5 at *
      generalize (Sl.valL x6.data.toList : Int) = v6 at *
      by_cases hk0 : x0.data.toList = tickL
      · have hq : (x0.toList == [116, 105, 99, 107, 101, 116]) = true := by
          rw [beq_iff_eq, Go.ByteArray.toList_eq]
          exact hk0
        obtain ⟨hor, hcall⟩ := HGd.out hk0
        have HCall := hide hcall
        have hne1 : wr.heap.size ≠ b := by have := HL2.out; omega
        have hne2 : wr.heap.size ≠ g := by have := HL3.out; omega
        clear HKd HGd hcall hk0
        go_wp2_with fail
        go_region_held3 (fun w' => w'.cell? ⟨b, o + 1, none⟩ = some (.string x1) ∧ w'.cell? ⟨b, o + 2, none⟩ = some (.string x2) ∧ w'.cell? ⟨g, 0, none⟩ = some (.int .i64 v3) ∧ w'.cell? ⟨g, 1, none⟩ = some (.int .i64 v4) ∧ w'.cell? ⟨g, 2, none⟩ = some (.int .i64 v5) ∧ w'.cell? ⟨g, 3, none⟩ = some (.int .i64 v6)) (go_keep) (fail)
        have HB3 : Hid (Below w.heap.size w ((wr.alloc (tkO ⟨x1, x2, v3, v4, v5, v6⟩)).drew)) := (HB2.out.alloc HB2.out.size _).drew
        have HT3 : Hid (((wr.alloc (tkO ⟨x1, x2, v3, v4, v5, v6⟩)).drew).heap[w.heap.size]? = some (tkO tk0)) := row_pushed HT2.out _
        have HX3 : Hid (((wr.alloc (tkO ⟨x1, x2, v3, v4, v5, v6⟩)).drew).heap[wr.heap.size]? = some (tkO ⟨x1, x2, v3, v4, v5, v6⟩)) := heap_alloc_new _ _
        go_wp2_with fail
        refine (HCall.out _).mono ?_
        rintro e w2 ⟨rfl, hb⟩
        have HB4 : Hid (Below w.heap.size w w2) := HB3.out.trans (hb.mono HB3.out.size)
        have HT4 : Hid (w2.heap[w.heap.size]? = some (tkO tk0)) := row_kept HT3.out hb
        have HX4 : Hid (w2.heap[wr.heap.size]? = some (tkO ⟨x1, x2, v3, v4, v5, v6⟩)) := row_kept HX3.out hb
        clear hb HB3 HT3 HX3 HCall
        obtain ⟨hc0, hc1, hc2, hc3, hc4, hc5⟩ := tk_row HX4.out
        obtain ⟨hd0, hd1, hd2, hd3, hd4, hd5⟩ := tk_row HT4.out
        obtain ⟨hf0, hf1, hf2, hf3, hf4, hf5⟩ := row_frozen6 HT4.out
        dsimp only [tk0] at hc0 hc1 hc2 hc3 hc4 hc5 hd0 hd1 hd2 hd3 hd4 hd5
        rcases hor with ⟨rfl, rfl⟩ | ⟨hp, hp2, rfl⟩
        · go_wp2
          refine tkEnd rfl w.heap.size ⟨x1, x2, v3, v4, v5, v6⟩ rfl (row_set6 HT4.out _ _ _ _ _ _) rfl ?_
          exact ⟨rfl, below_set6 HB4.out (Nat.le_refl _) _ _ _ _ _ _⟩
        · go_wp2
          refine tkEnd rfl w.heap.size tk0 rfl (row_set6 HT4.out _ _ _ _ _ _) rfl ?_
          exact ⟨rfl, below_set6 HB4.out (Nat.le_refl _) _ _ _ _ _ _⟩
      · obtain ⟨rfl, rfl⟩ := HKd.out hk0
        have hq : (x0.toList == [116, 105, 99, 107, 101, 116]) = false := by
          rw [beq_eq_false_iff_ne, Go.ByteArray.toList_eq]
          exact hk0
        obtain ⟨hd0, hd1, hd2, hd3, hd4, hd5⟩ := tk_row HT2.out
        obtain ⟨hf0, hf1, hf2, hf3, hf4, hf5⟩ := row_frozen6 HT2.out
        dsimp only [tk0] at hd0 hd1 hd2 hd3 hd4 hd5
        clear HKd HGd hk0
        go_wp2
        refine tkEnd rfl w.heap.size tk0 rfl (row_set6 HT2.out _ _ _ _ _ _) rfl ?_
        exact ⟨rfl, below_set6 HB2.out (Nat.le_refl _) _ _ _ _ _ _⟩
end Go.Proofs.YtgagekcjdapkfabGreatDoor

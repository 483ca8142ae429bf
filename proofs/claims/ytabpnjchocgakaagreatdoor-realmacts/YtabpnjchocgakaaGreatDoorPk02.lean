/-
  What the functions of these parts do, and what holds of their plain forms: SealOpen, SealMake, SealSame, SealBack, MarkRef, PersonRef, PersonRef2, PersonAdd, PersonAdd2, PersonAdd3, BookRefs, SealRef2, SealCut, SealGlue, SealLook, SealAnswer, SealOf, SealPair.
-/
import Derived.Test.YtabpnjchocgakaaGreatDoorPk01
import Derived.Test.YtabpnjchocgakaaGreatDoorMarkOf
import Derived.Test.YtabpnjchocgakaaGreatDoorPk00
import Derived.Test.YtabpnjchocgakaaGreatDoorSealRef
import Derived.Laws.Rows
import Derived.OwnWalk
import Derived.Laws.AppendOwnNone
import Derived.Sort.Walk0
import Derived.WalkKit
namespace Go.Proofs.YtabpnjchocgakaaGreatDoor
open Go.RowKit Go.Extern.Stop Go.Stop Go.Extern
def WordsPost (a : Nat → Addr) (c : Nat) (ws : List (List UInt8)) (e : Ending) (w' : World) : Prop :=
 if c = 0 then ∃ b, Texts w' b 0 (ws.map Sl.ofL) ∧ e = .returned (.tuple #[.slice (some ⟨b, 0, none⟩) ws.length ws.length, .nilIface])
 else e = .returned (.tuple #[.slice none 0 0, errV a c])
theorem words_yes (a : Nat → Addr) (c : Nat) (ws : List (List UInt8)) (e : Ending) (w' : World) (h : c = 0) (b : Nat) (hx : Texts w' b 0 (ws.map Sl.ofL)) (he : e = .returned (.tuple #[.slice (some ⟨b, 0, none⟩) ws.length ws.length, .nilIface])) : WordsPost a c ws e w' := by
 unfold WordsPost
 rw [if_pos h]
 exact ⟨b, hx, he⟩
theorem words_no (a : Nat → Addr) (c : Nat) (ws : List (List UInt8)) (e : Ending) (w' : World) (h : c ≠ 0) (he : e = .returned (.tuple #[.slice none 0 0, errV a c])) : WordsPost a c ws e w' := by
 unfold WordsPost
 rw [if_neg h]
 exact he
theorem take_ev (a : Nat → Addr) (s : ByteArray) (w : World) (h : EnvE a w) :
  Calls Tryz.prog 103 #[.string s] w fun e w' => Below w.heap.size w w' ∧
   ((Sl.lookE s.data.toList ≠ 0 ∧ Sl.lookE s.data.toList ≤ 2 ∧ e = .returned (.tuple #[.agg #[.string ⟨#[]⟩, .slice none 0 0, .int .i64 0], eV (a (Sl.lookE s.data.toList - 1))])) ∨
     (Sl.lookE s.data.toList = 0 ∧ ∃ b, Texts w' b 0 ((Sl.lookW s.data.toList).map Sl.ofL) ∧
      e = .returned (.tuple #[.agg #[.string (Sl.ofL (Sl.glue (Sl.lookW s.data.toList))), .slice (some ⟨b, 0, none⟩) (Sl.lookW s.data.toList).length (Sl.lookW s.data.toList).length, .int .i64 (Sl.lookN s.data.toList)], .nilIface]))) := by
 by_cases hl : 4000 < s.size
 ·
  have e2 : Sl.lookE s.data.toList = 2 := by unfold Sl.lookE; rw [size_list, if_pos hl]
  refine (take_long a s w h hl).mono ?_
  rintro e w' ⟨rfl, hb⟩
  rw [e2]
  exact ⟨hb, Or.inl ⟨by decide, by decide, rfl⟩⟩
 ·
  by_cases hm : (32 : UInt8) ∈ s.data.toList
  ·
   obtain ⟨hd, tl, hs2, ht⟩ := Sl.last_blank 32 s.data.toList hm
   refine (take_cut a s hd tl w h (by omega) hs2 ht).mono ?_
   rintro e w' ⟨hb, hp⟩
   refine ⟨hb, ?_⟩
   unfold TakePost at hp
   by_cases hok : Sl.lookOk s.data.toList = true
   ·
    rw [if_pos hok] at hp
    obtain ⟨b, hx, he⟩ := hp
    obtain ⟨w1, w2⟩ := Sl.look_cut hd tl ht
    rw [← hs2] at w1 w2
    have hg : Sl.glue (Sl.lookW s.data.toList) = hd := by rw [w1]; exact Sl.join_pieces hd
    refine Or.inr ⟨by unfold Sl.lookE; rw [size_list, if_neg hl, if_pos hok], b, by rw [w1]; exact hx, ?_⟩
    unfold Sl.lookN
    rw [hg, w1, w2]
    exact he
   ·
    rw [if_neg hok] at hp
    have e1 : Sl.lookE s.data.toList = 1 := by unfold Sl.lookE; rw [size_list, if_neg hl, if_neg hok]
    rw [e1]
    exact Or.inl ⟨by decide, by decide, hp⟩
  ·
   have e1 : Sl.lookE s.data.toList = 1 := by
    unfold Sl.lookE
    rw [size_list, if_neg hl, Sl.lookOk_plain _ hm]
    rfl
   refine (take_none a s w h (by omega) hm).mono ?_
   rintro e w' ⟨rfl, hb⟩
   rw [e1]
   exact ⟨hb, Or.inl ⟨by decide, by decide, rfl⟩⟩
theorem openE_key (key : Int) (l : List UInt8) (hk : ¬ (1 ≤ key ∧ key ≤ 1000000006)) : Sl.openE key l = 10 := by unfold Sl.openE; rw [if_neg hk]
theorem errV_posS (a : Nat → Addr) (c : Nat) (h : c ≠ 0) : errV a c = eV (a (c - 1)) := by unfold errV; rw [if_neg h]
set_option maxRecDepth 100000 in
set_option maxHeartbeats 2000000 in
theorem open_ev (a : Nat → Addr) (key : Int) (s : ByteArray) (w : World) (h : EnvE a w) :
  Calls Tryz.prog 54 #[.int .i64 key, .string s] w fun e w' => Below w.heap.size w w' ∧ WordsPost a (Sl.openE key s.data.toList) (Sl.lookW s.data.toList) e w' := by
 have HK := hide (keyError_ev a key w h.errs)
 rw [key_more] at HK
 have HE := hide h
 clear h
 by_cases hk : 1 ≤ key ∧ key ≤ 1000000006
 ·
  rw [if_pos hk] at HK
  have HKk := hide hk
  have HT := hide (fun w h => take_ev a s w h)
  have HO : Hid (∀ c, Sl.lookE s.data.toList = c → c ≠ 0 → Sl.openE key s.data.toList = c) := fun c hc h0 => by unfold Sl.openE; rw [if_pos hk, hc, if_neg h0]
  have HO0 : Hid (Sl.lookE s.data.toList = 0 → Sl.openE key s.data.toList = if Mk.mk key key (Sl.glue (Sl.lookW s.data.toList)) = (Sl.lookN s.data.toList : Int) then 0 else 9) := fun hc => by unfold Sl.openE; rw [if_pos hk, if_pos hc]
  clear hk
  have HSz : Hid (Sl.lookE s.data.toList = 0 → (Sl.ofL (Sl.glue (Sl.lookW s.data.toList))).size ≤ maxLen) := fun hc => by
   have hok := Sl.lookE_ok _ hc
   obtain ⟨hd, e1, _, e3, _⟩ := Sl.look_glue _ hok
   have hle : s.data.toList.length ≤ 4000 := by
    unfold Sl.lookE at hc
    split at hc
    ·
     cases hc
    ·
     omega
   rw [Sl.ofL_size, e3]
   rw [e1] at hle
   simp only [List.length_append, List.length_cons] at hle
   unfold maxLen; omega
  generalize s.data.toList = l at *
  go_enter Tryz.func54, Tryz.ntmps54
  go_wp2_with fail
  refine HK.out.mono ?_
  rintro e w1 ⟨rfl, hb⟩
  have HE1 := hide (HE.out.below hb)
  have HB1 := hide hb
  clear hb HE HK
  rw [show errV a 0 = Value.nilIface from rfl]
  go_wp2_with fail
  refine (HT.out w1 HE1.out).mono ?_
  rintro e w2 ⟨hb, ⟨hn, hn2, rfl⟩ | ⟨h0, b, hx, rfl⟩⟩
  ·
   have HB2 : Hid (Below w.heap.size w w2) := HB1.out.trans (hb.mono HB1.out.size)
   have HN := hide (HO.out _ rfl hn)
   have HNN := hide hn
   clear hb hn hn2 HT HO HO0 HSz HE1 HB1
   generalize Sl.lookE l = c at *
   go_wp2
   go_ret2
   refine ⟨HB2.out.alloc HB2.out.size _, words_no _ _ _ _ _ (by rw [HN.out]; exact HNN.out) ?_⟩
   rw [HN.out, errV_posS a c HNN.out]
   rfl
  ·
   have HB2 : Hid (Below w.heap.size w w2) := HB1.out.trans (hb.mono HB1.out.size)
   have HE2 := hide (HE1.out.below hb)
   have HOp := hide (HO0.out h0)
   have HZ := hide (HSz.out h0)
   have HX := hide hx
   clear hb hx h0 HT HO HO0 HSz HE1 HB1
   generalize hgl : Sl.ofL (Sl.glue (Sl.lookW l)) = g at *
   have HG : Hid (g.data.toList = Sl.glue (Sl.lookW l)) := by show _ = _; rw [← hgl]; rfl
   clear hgl
   generalize (Sl.lookN l : Int) = n at *
   generalize hlen : (Sl.lookW l).length = k at *
   have HLen := hide hlen
   clear hlen
   have HB3 : Hid (∀ o, Below w.heap.size w (w2.alloc o)) := fun o => HB2.out.alloc HB2.out.size o
   have HR := hide (fun w h => right_ev a key g n w h HZ.out)
   have Hre : Hid (rightE key g.data.toList n = Sl.openE key l) := by
    show _ = _
    unfold rightE
    rw [if_pos HKk.out, HG.out, HOp.out]
   rw [Hre.out] at HR
   have Hcase : Hid (Sl.openE key l = 0 ∨ Sl.openE key l = 9) := by
    show _ ∨ _
    rw [HOp.out]
    by_cases g2 : Mk.mk key key (Sl.glue (Sl.lookW l)) = n
    ·
     rw [if_pos g2]; exact Or.inl rfl
    ·
     rw [if_neg g2]; exact Or.inr rfl
   clear HOp Hre HG HZ
   generalize hoe : Sl.openE key l = c at *
   have HOE := hide hoe
   clear hoe
   go_wp2_with fail
   refine (HR.out _ (HE2.out.errs.below ((Below.refl _ _).alloc (Nat.le_refl _) _))).mono ?_
   rintro e w3 ⟨rfl, hb⟩
   have hcell : w3.cell? ⟨w2.heap.size, 1, none⟩ = some (.slice (some ⟨b, 0, none⟩) k k) := by
    rw [hb.cell (p := ⟨w2.heap.size, 1, none⟩) (by simp)]
    simp
   have HB4 : Hid (Below w.heap.size w w3) := (HB3.out _).trans (hb.mono (HB3.out _).size)
   have HX3 := hide ((HX.out.below ((Below.refl _ _).alloc (Nat.le_refl _) _)).below hb)
   clear hb HB3 HR HX HE2 HB2
   rcases Hcase.out with rfl | rfl
   ·
    rw [show errV a 0 = Value.nilIface from rfl]
    go_wp2
    go_ret2
    exact ⟨HB4.out, words_yes _ _ _ _ _ HOE.out b HX3.out (by rw [HLen.out]; rfl)⟩
   ·
    rw [show errV a 9 = eV (a 8) from rfl]
    go_wp2
    go_ret2
    exact ⟨HB4.out, words_no _ _ _ _ _ (by rw [HOE.out]; decide) (by rw [HOE.out]; rfl)⟩
 ·
  rw [if_neg hk] at HK
  have HO := hide (openE_key key s.data.toList hk)
  clear hk
  rw [show errV a 10 = eV (a 9) from rfl] at HK
  generalize s.data.toList = l at *
  go_enter Tryz.func54, Tryz.ntmps54
  go_wp2_with fail
  refine HK.out.mono ?_
  rintro e w1 ⟨rfl, hb⟩
  have HB1 := hide hb
  clear hb
  go_wp2
  go_ret2
  exact ⟨HB1.out, words_no _ _ _ _ _ (by rw [HO.out]; decide) (by rw [HO.out]; rfl)⟩
theorem open_any (a : Nat → Addr) (key : Int) (s : ByteArray) (w : World) (h : Env a w) :
  Calls Tryz.prog 54 #[.int .i64 key, .string s] w fun e w' => Below w.heap.size w w' ∧ WordsPost a (Sl.openE key s.data.toList) (Sl.lookW s.data.toList) e w' := open_ev a key s w h.s
theorem below_grow (w : World) (k : Nat) (os : Array Obj) : Below w.heap.size w (Sort.grow (w.drewN k) os) := by
 refine ⟨rfl, rfl, rfl, ?_, fun j hj => ?_⟩
 ·
  show w.heap.size ≤ (w.heap ++ os).size
  rw [Array.size_append]; omega
 ·
  exact Sort.heap_grow_old (w.drewN k) os hj
set_option maxRecDepth 100000 in
set_option maxHeartbeats 1000000 in
theorem make_ok_ev (a : Nat → Addr) (key : Int) (b o n c : Nat) (xs : List ByteArray) (w : World) (h : EnvE a w) (hk : 1 ≤ key ∧ key ≤ 1000000006) (hc : n ≤ c) (hx : Texts w b o xs) (hl : xs.length = n) (hw : Sl.wordsOk (xs.map (·.data.toList)) = true) :
  Calls Tryz.prog 137 #[.int .i64 key, .slice (some ⟨b, o, none⟩) n c] w fun e w' => e = .returned (.tuple #[.string (Sl.ofL (Sl.sealL key (xs.map (·.data.toList)))), .nilIface]) ∧ Below w.heap.size w w' := by
 have HK := hide (keyError_ev a key w h.errs)
 rw [key_more, if_pos hk, show errV a 0 = Value.nilIface from rfl] at HK
 obtain ⟨⟨h1, h10⟩, hall⟩ := (Sl.wordsOk_iff _).1 hw
 rw [List.length_map, hl] at h1 h10
 have HC := hide (fun w => isCount_any (n : Int) w)
 rw [decide_eq_true (by omega)] at HC
 have hone : ∀ x ∈ xs, Sl.wordL x.data.toList = true := fun x hm => hall _ (List.mem_map.2 ⟨x, hm, rfl⟩)
 have hs : ∀ x ∈ xs, x.size ≤ maxLen := fun x hm => by
  have := (Sl.word_len _ (hone x hm)).2
  rw [size_list] at this
  unfold maxLen; omega
 have HF := hide (fun w hx => firstWrong_any xs b o n c w hs (by omega) hl hx)
 rw [wrongI_none xs (fun j hj => hone _ (List.getElem_mem hj))] at HF
 have hgl : (Sl.glue (xs.map (·.data.toList))).length ≤ 210 := by
  have := Sl.glue_len 20 (xs.map (·.data.toList)) (fun l hm => (Sl.word_len l (hall l hm)).2)
  rw [List.length_map, hl] at this
  omega
 have HJ : Hid (∀ w, Texts w b o xs → Calls Tryz.prog 179 #[.slice (some ⟨b, o, none⟩) n c, .string ⟨#[32]⟩] w fun e w' => e = .returned (.string (Sl.ofL (Sl.glue (xs.map (·.data.toList))))) ∧ Below w.heap.size w w') := fun w hx => by
  have := Tryz.strings_Join b o c xs ⟨#[32]⟩ w (fun j x hj => by
   obtain ⟨hj', e⟩ := List.getElem?_eq_some_iff.1 hj
   rw [hx j hj', e]) (hx.lt (by omega)) (by omega) (by omega) (by show (Sl.glue (xs.map (·.data.toList))).length ≤ _; omega)
  rw [hl] at this
  exact this
 have HO := hide (fun w h => of_keyS a key (Sl.ofL (Sl.glue (xs.map (·.data.toList)))) w h (by rw [Sl.ofL_size]; unfold maxLen; omega) hk)
 rw [Sl.toL_ofL] at HO
 have hmk := Mk.mk_bd key key (by omega) (Sl.glue (xs.map (·.data.toList)))
 have HI := hide (fun w (h : EnvE a w) => Tryz.strconv_Itoa (Mk.mk key key (Sl.glue (xs.map (·.data.toList)))) (by omega) (by omega) w h.tab)
 have hit : (⟨(Lib.itoa (Mk.mk key key (Sl.glue (xs.map (·.data.toList))))).toArray⟩ : ByteArray) = Sl.ofL (Lib.decDigits (Sl.sealM key (xs.map (·.data.toList)))) := by
  rw [← Sl.sealM_mk key hk, Lib.itoa_nonneg]
  rfl
 rw [hit] at HI
 have hd := (Sl.numOk_iff _).1 (Sl.dec_ok (Sl.sealM key (xs.map (·.data.toList))) (by have := Sl.sealM_le key hk (xs.map (·.data.toList)); omega))
 have hz1 : (Sl.ofL (Sl.glue (xs.map (·.data.toList)))).size ≤ 210 := by rw [Sl.ofL_size]; exact hgl
 have hz2 : (Sl.ofL (Lib.decDigits (Sl.sealM key (xs.map (·.data.toList))))).size ≤ 10 := by rw [Sl.ofL_size]; exact hd.1.2
 have HR : Hid (Sl.ofL (Sl.glue (xs.map (·.data.toList))) ++ ⟨#[32]⟩ ++ Sl.ofL (Lib.decDigits (Sl.sealM key (xs.map (·.data.toList)))) = Sl.ofL (Sl.sealL key (xs.map (·.data.toList)))) := by
  show _ = _
  refine Sl.ba_ext ?_
  rw [ba_toList, ba_toList]
  unfold Sl.sealL
  simp only [Sl.toL_ofL]
  simp
 have HE := hide h
 have HX := hide hx
 clear hk h hx hl hs hw hit hd hgl hone hall h1 h10 hc hmk
 generalize Sl.ofL (Sl.sealL key (xs.map (·.data.toList))) = res at *
 generalize Sl.ofL (Lib.decDigits (Sl.sealM key (xs.map (·.data.toList)))) = dg at *
 generalize Mk.mk key key (Sl.glue (xs.map (·.data.toList))) = m at *
 generalize Sl.ofL (Sl.glue (xs.map (·.data.toList))) = g at *
 go_enter Tryz.func137, Tryz.ntmps137
 go_wp2_with fail
 refine HK.out.mono ?_
 rintro e w1 ⟨rfl, hb⟩
 have HB1 := hide hb
 have HE1 := hide (HE.out.below hb)
 have HX1 := hide (HX.out.below hb)
 clear hb HE HX HK
 go_wp2_with fail
 refine (HC.out _).mono ?_
 rintro e w2 ⟨rfl, rfl⟩
 go_wp2_with fail
 refine (HF.out _ HX1.out).mono ?_
 rintro e w3 ⟨rfl, hb⟩
 have HB3 : Hid (Below w.heap.size w w3) := HB1.out.trans (hb.mono HB1.out.size)
 have HE3 := hide (HE1.out.below hb)
 have HX3 := hide (HX1.out.below hb)
 clear hb HE1 HX1 HF HC HB1
 go_wp2_with fail
 refine (HJ.out _ HX3.out).mono ?_
 rintro e w4 ⟨rfl, hb⟩
 have HB4 : Hid (Below w.heap.size w w4) := HB3.out.trans (hb.mono HB3.out.size)
 have HE4 := hide (HE3.out.below hb)
 clear hb HE3 HX3 HJ HB3
 go_wp2_with fail
 refine (HO.out _ HE4.out.errs).mono ?_
 rintro e w5 ⟨rfl, hb⟩
 have HB5 : Hid (Below w.heap.size w w5) := HB4.out.trans (hb.mono HB4.out.size)
 have HE5 := hide (HE4.out.below hb)
 clear hb HE4 HO HB4
 go_wp2_with fail
 refine (HI.out _ HE5.out).mono ?_
 rintro e w6 ⟨rfl, k, os, rfl⟩
 have HB6 : Hid (Below w.heap.size w (Sort.grow (w5.drewN k) os)) := HB5.out.trans ((below_grow w5 k os).mono HB5.out.size)
 generalize Sort.grow (w5.drewN k) os = w6 at *
 clear HE5 HI HB5
 go_wp2
 go_ret2
 exact ⟨by rw [← HR.out]; rfl, HB6.out⟩
theorem make_ok (a : Nat → Addr) (key : Int) (b o n c : Nat) (xs : List ByteArray) (w : World) (h : Env a w) (hk : 1 ≤ key ∧ key ≤ 1000000006) (hc : n ≤ c) (hx : Texts w b o xs) (hl : xs.length = n) (hw : Sl.wordsOk (xs.map (·.data.toList)) = true) :
  Calls Tryz.prog 137 #[.int .i64 key, .slice (some ⟨b, o, none⟩) n c] w fun e w' => e = .returned (.tuple #[.string (Sl.ofL (Sl.sealL key (xs.map (·.data.toList)))), .nilIface]) ∧ Below w.heap.size w w' := make_ok_ev a key b o n c xs w h.s hk hc hx hl hw
def TextsAt (w : World) (v : Value) (xs : List ByteArray) : Prop := ∃ ad c, v = .slice ad xs.length c ∧ xs.length ≤ c ∧ (xs.length = 0 ∨ ∃ b o, ad = some ⟨b, o, none⟩ ∧ Texts w b o xs)
theorem TextsAt.below {w w' : World} {v : Value} {xs : List ByteArray} (h : TextsAt w v xs) (hb : Below w.heap.size w w') : TextsAt w' v xs := by
 obtain ⟨ad, c, h1, h2, h3⟩ := h
 refine ⟨ad, c, h1, h2, ?_⟩
 rcases h3 with h3 | ⟨b, o, h4, h5⟩
 ·
  exact Or.inl h3
 ·
  exact Or.inr ⟨b, o, h4, h5.below hb⟩
abbrev toLs (xs : List ByteArray) : List (List UInt8) := xs.map (·.data.toList)
theorem refKey_any (key : Int) (w : World) :
  Calls Tryz.prog 34 #[.int .i64 key] w fun e w' => e = .returned (.bool (decide (1 ≤ key ∧ key ≤ 1000000006))) ∧ w' = w := by
 by_cases h1 : 1 ≤ key
 ·
  by_cases h2 : key < 1000000007
  ·
   rw [show decide (1 ≤ key ∧ key ≤ 1000000006) = true by simp; omega]
   go_enter Tryz.func34, Tryz.ntmps34
   go_wp2
   go_ret
   exact ⟨rfl, rfl⟩
  ·
   rw [show decide (1 ≤ key ∧ key ≤ 1000000006) = false by simp; omega]
   go_enter Tryz.func34, Tryz.ntmps34
   go_wp2
   go_ret
   exact ⟨rfl, rfl⟩
 ·
  rw [show decide (1 ≤ key ∧ key ≤ 1000000006) = false by simp; omega]
  go_enter Tryz.func34, Tryz.ntmps34
  go_wp2
  go_ret
  exact ⟨rfl, rfl⟩
theorem drop_cons (s : ByteArray) (k : Nat) (h : k < s.size) : s.data.toList.drop k = s[k] :: s.data.toList.drop (k + 1) := by
 rw [List.drop_eq_getElem_cons (by simpa using h)]; rfl
theorem mul_bd (p q : Int) (hp : 0 ≤ p ∧ p ≤ 1000000006) (hq : 0 ≤ q ∧ q ≤ 1000000006) : 0 ≤ p * q ∧ p * q ≤ 1000000012000000036 := by
 refine ⟨Int.mul_nonneg hp.1 hq.1, ?_⟩
 have h1 : p * q ≤ 1000000006 * q := Int.mul_le_mul_of_nonneg_right hp.2 hq.1
 omega
set_option maxHeartbeats 2000000 in
theorem from_ok (key n : Int) (s : ByteArray) (w : World) (hk1 : 1 ≤ key) (hk2 : key ≤ 1000000006) (hn1 : 0 ≤ n) (hn2 : n ≤ 1000000006) (hs : s.size ≤ maxLen) :
  Calls Tryz.prog 75 #[.int .i64 key, .int .i64 n, .string s] w fun e w' => e = .returned (.tuple #[.int .i64 (Mk.mk key n s.data.toList), .int .i64 0]) ∧ w' = w := by
 unfold maxLen at hs
 have hd : decide (1 ≤ key ∧ key ≤ 1000000006) = true := by simp; omega
 go_enter Tryz.func75, Tryz.ntmps75
 go_wp2_with (go_at_call 34; refine (refKey_any key _).mono ?_; rintro e w1 ⟨rfl, rfl⟩)
 go_loop [9, 10, 11] (fun p o i => ∃ k : Nat, k ≤ s.size ∧ i = .int .i64 ((k : Int) - 1) ∧ p = .int .i64 (Mk.pw (s.data.toList.drop k).length) ∧ o = .int .i64 (Mk.sm key (s.data.toList.drop k))) (fun _ _ i => (intOf i + 1).toNat)
 case atStart => exact ⟨s.size, Nat.le_refl _, rfl, by rw [List.drop_of_length_le (by simp)]; rfl, by rw [List.drop_of_length_le (by simp)]; rfl⟩
 case round =>
  obtain ⟨k, hk, rfl, rfl, rfl⟩ := hrel
  cases k with
  | succ k =>
   have HS : Hid (Mk.sm key (s.data.toList.drop k) = (Mk.sm key (s.data.toList.drop (k + 1)) + Mk.pw (s.data.toList.drop (k + 1)).length * (((s[k].toNat : Int) + 1 + key) % 1000000007)) % 1000000007) := by
    show _ = _
    rw [drop_cons s k (by omega)]; rfl
   have HP : Hid (Mk.pw (s.data.toList.drop k).length = Mk.pw (s.data.toList.drop (k + 1)).length * 257 % 1000000007) := by
    show _ = _
    rw [drop_cons s k (by omega), List.length_cons, Mk.pw_succ]
   obtain ⟨ho1, ho2⟩ := Mk.sm_bd key (s.data.toList.drop (k + 1))
   have hp := Mk.pw_bd (s.data.toList.drop (k + 1)).length
   generalize Mk.sm key (s.data.toList.drop (k + 1)) = o at *
   generalize Mk.pw (s.data.toList.drop (k + 1)).length = p at *
   have hb0 : (0 : Int) ≤ (s[k].toNat : Int) := by omega
   have hb1 : (s[k].toNat : Int) ≤ 255 := by have := s[k].toNat_lt; omega
   obtain ⟨hx1, hx2⟩ := mul_bd p (((s[k].toNat : Int) + 1 + key) % 1000000007) hp (by omega)
   obtain ⟨hp1, hp2⟩ := hp
   have hkk : ((k + 1 : Nat) : Int) - 1 = (k : Int) := by omega
   rw [hkk]
   clear hkk
   have hlt : k < s.size := by omega
   go_wp2
   go_round
   case rel => exact ⟨k, by omega, by go_num, by rw [HP.out], by rw [HS.out]⟩
   case measure => simp [intOf]
  | zero =>
   have HR : Hid ((Mk.sm key (s.data.toList.drop 0) + Mk.pw (s.data.toList.drop 0).length * n) % 1000000007 = Mk.mk key n s.data.toList) := by
    show _ = _
    rw [List.drop_zero, Mk.mk_behind key n _ ⟨hn1, hn2⟩]
   obtain ⟨ho1, ho2⟩ := Mk.sm_bd key (s.data.toList.drop 0)
   have hp := Mk.pw_bd (s.data.toList.drop 0).length
   generalize Mk.sm key (s.data.toList.drop 0) = o at *
   generalize Mk.pw (s.data.toList.drop 0).length = p at *
   obtain ⟨hx1, hx2⟩ := mul_bd p n hp ⟨hn1, hn2⟩
   obtain ⟨hp1, hp2⟩ := hp
   go_wp2
   go_ret2
   exact ⟨by rw [← HR.out]; rfl, rfl⟩
theorem from_any (key n : Int) (s : ByteArray) (w : World) (hs : s.size ≤ maxLen) :
  Calls Tryz.prog 75 #[.int .i64 key, .int .i64 n, .string s] w fun e w' => e = .returned (.tuple #[.int .i64 (moreN key n s.data.toList), .int .i64 (moreE key n : Int)]) ∧ w' = w := by
 by_cases hk : 1 ≤ key ∧ key ≤ 1000000006
 ·
  by_cases hn : 0 ≤ n ∧ n ≤ 1000000006
  ·
   have e1 : moreE key n = 0 := by simp [moreE, hk, hn]
   have e2 : moreN key n s.data.toList = Mk.mk key n s.data.toList := by simp [moreN, e1]
   rw [e1, e2]
   exact from_ok key n s w hk.1 hk.2 hn.1 hn.2 hs
  ·
   have e1 : moreE key n = 2 := by simp [moreE, hk, hn]
   have e2 : moreN key n s.data.toList = 0 := by simp [moreN, e1]
   rw [e1, e2]
   have hd : decide (1 ≤ key ∧ key ≤ 1000000006) = true := by simpa using hk
   clear e1 e2 hk hs
   by_cases hn1 : n < 0
   ·
    clear hn
    go_enter Tryz.func75, Tryz.ntmps75
    go_wp2_with (go_at_call 34; refine (refKey_any key _).mono ?_; rintro e w1 ⟨rfl, rfl⟩)
    go_ret2
    exact ⟨rfl, rfl⟩
   ·
    have hn2 : 1000000007 ≤ n := by omega
    clear hn
    go_enter Tryz.func75, Tryz.ntmps75
    go_wp2_with (go_at_call 34; refine (refKey_any key _).mono ?_; rintro e w1 ⟨rfl, rfl⟩)
    go_ret2
    exact ⟨rfl, rfl⟩
 ·
  have e1 : moreE key n = 10 := by simp [moreE, hk]
  have e2 : moreN key n s.data.toList = 0 := by simp [moreN, e1]
  rw [e1, e2]
  have hd : decide (1 ≤ key ∧ key ≤ 1000000006) = false := by simpa using hk
  clear e1 e2 hk hs
  go_enter Tryz.func75, Tryz.ntmps75
  go_wp2_with (go_at_call 34; refine (refKey_any key _).mono ?_; rintro e w1 ⟨rfl, rfl⟩)
  go_ret2
  exact ⟨rfl, rfl⟩
theorem refOf_any (key : Int) (s : ByteArray) (w : World) (hs : s.size ≤ maxLen) :
  Calls Tryz.prog 24 #[.int .i64 key, .string s] w fun e w' => e = .returned (.tuple #[.int .i64 (moreN key key s.data.toList), .int .i64 (moreE key key : Int)]) ∧ w' = w := by
 by_cases hk : 1 ≤ key ∧ key ≤ 1000000006
 ·
  have hd : decide (1 ≤ key ∧ key ≤ 1000000006) = true := by simpa using hk
  generalize hm : moreN key key s.data.toList = m
  generalize he : (moreE key key : Int) = x
  have HM : Hid (moreN key key s.data.toList = m) := hm
  have HX : Hid ((moreE key key : Int) = x) := he
  clear hk hm he
  go_enter Tryz.func24, Tryz.ntmps24
  go_wp2_with (go_at_call 34; refine (refKey_any key _).mono ?_; rintro e w1 ⟨rfl, rfl⟩)
  go_wp2_with fail
  refine (from_any key key s _ hs).mono ?_
  rintro e w1 ⟨rfl, rfl⟩
  rw [HM.out, HX.out]
  go_wp2
  go_ret2
  exact ⟨rfl, rfl⟩
 ·
  have hd : decide (1 ≤ key ∧ key ≤ 1000000006) = false := by simpa using hk
  have e1 : moreE key key = 10 := by simp [moreE, hk]
  have e2 : moreN key key s.data.toList = 0 := by simp [moreN, e1]
  rw [e1, e2]
  clear hk e1 e2 hs
  go_enter Tryz.func24, Tryz.ntmps24
  go_wp2_with (go_at_call 34; refine (refKey_any key _).mono ?_; rintro e w1 ⟨rfl, rfl⟩)
  go_ret2
  exact ⟨rfl, rfl⟩
theorem refError_any (key : Int) (s : ByteArray) (n : Int) (w : World) (hs : s.size ≤ maxLen) :
  Calls Tryz.prog 85 #[.int .i64 key, .string s, .int .i64 n] w fun e w' => e = .returned (.int .i64 (rightE key s.data.toList n : Int)) ∧ w' = w := by
 have HO := refOf_any key s w hs
 rw [key_more] at HO
 by_cases hk : 1 ≤ key ∧ key ≤ 1000000006
 ·
  have em : moreN key key s.data.toList = Mk.mk key key s.data.toList := by simp [moreN, key_more, hk]
  have er : rightE key s.data.toList n = if Mk.mk key key s.data.toList = n then 0 else 9 := by simp [rightE, hk]
  rw [if_pos hk, em] at HO
  rw [er]
  generalize Mk.mk key key s.data.toList = m at *
  have HO' := (show Hid (Calls Tryz.prog 24 #[.int .i64 key, .string s] w fun e w' => e = .returned (.tuple #[.int .i64 m, .int .i64 0]) ∧ w' = w) from HO)
  clear em er HO hs hk
  by_cases hm : m = n
  ·
   rw [if_pos hm]
   have hm' : (m == n) = true := by simpa using hm
   clear hm
   go_enter Tryz.func85, Tryz.ntmps85
   go_wp2_with (go_at_call 24; refine HO'.out.mono ?_; rintro e w1 ⟨rfl, rfl⟩)
   go_ret
   exact ⟨rfl, rfl⟩
  ·
   rw [if_neg hm]
   have hm' : (m == n) = false := by simpa using hm
   clear hm
   go_enter Tryz.func85, Tryz.ntmps85
   go_wp2_with (go_at_call 24; refine HO'.out.mono ?_; rintro e w1 ⟨rfl, rfl⟩)
   go_ret
   exact ⟨rfl, rfl⟩
 ·
  have er : rightE key s.data.toList n = 10 := by simp [rightE, hk]
  rw [if_neg hk] at HO
  rw [er]
  generalize moreN key key s.data.toList = m at *
  have HO' := (show Hid (Calls Tryz.prog 24 #[.int .i64 key, .string s] w fun e w' => e = .returned (.tuple #[.int .i64 m, .int .i64 10]) ∧ w' = w) from HO)
  clear er HO hs hk
  go_enter Tryz.func85, Tryz.ntmps85
  go_wp2_with (go_at_call 24; refine HO'.out.mono ?_; rintro e w1 ⟨rfl, rfl⟩)
  go_ret
  exact ⟨rfl, rfl⟩
set_option maxRecDepth 100000 in
set_option maxHeartbeats 1000000 in
theorem refPerson_any (p : Per) (w : World) (hs : p.name.size ≤ maxLen) :
  Calls Tryz.prog 129 #[p.val] w fun e w' => e = .returned (.int .i64 (p.err : Int)) ∧ Below w.heap.size w w' := by
 obtain ⟨name, key, epoch, off⟩ := p
 have HB : Hid (Below w.heap.size w (w.alloc (.cells #[.string name, .int .i64 key, .int .i64 epoch, .bool off] 46))) := (Below.refl _ _).alloc (Nat.le_refl _) _
 have HN := hide (fun w => refName_any name w hs)
 have HK := hide (fun w => refKey_any key w)
 show Calls Tryz.prog 129 #[.agg #[.string name, .int .i64 key, .int .i64 epoch, .bool off]] w _
 have HR : Hid (∀ c, (Per.mk name key epoch off).err = c → Calls Tryz.prog 129 #[.agg #[.string name, .int .i64 key, .int .i64 epoch, .bool off]] w (fun e w' => e = .returned (.int .i64 (c : Int)) ∧ Below w.heap.size w w') → Calls Tryz.prog 129 #[.agg #[.string name, .int .i64 key, .int .i64 epoch, .bool off]] w (fun e w' => e = .returned (.int .i64 ((Per.mk name key epoch off).err : Int)) ∧ Below w.heap.size w w')) := fun c hc h => by rw [hc]; exact h
 cases hn : Sl.nameL name.data.toList with
 | false =>
  refine HR.out 4 (by unfold Per.err; simp [hn]) ?_
  rw [hn] at HN
  clear hn HR
  generalize decide (1 ≤ key ∧ key ≤ 1000000006) = kb at *
  go_enter Tryz.func129, Tryz.ntmps129
  go_wp2_with fail
  refine (HN.out _).mono ?_
  rintro e w1 ⟨rfl, rfl⟩
  go_wp2_with fail
  refine (HK.out _).mono ?_
  rintro e w1 ⟨rfl, rfl⟩
  go_wp2
  go_ret
  exact ⟨rfl, HB.out⟩
 | true =>
  rw [hn] at HN
  by_cases hk : 1 ≤ key ∧ key ≤ 1000000006
  ·
   rw [decide_eq_true hk] at HK
   by_cases he : 1 ≤ epoch ∧ epoch ≤ 1073741824
   ·
    refine HR.out 0 (by unfold Per.err; simp [hn, hk, he]) ?_
    obtain ⟨he1, he2⟩ := he
    clear hn HR hk
    go_enter Tryz.func129, Tryz.ntmps129
    go_wp2_with fail
    refine (HN.out _).mono ?_
    rintro e w1 ⟨rfl, rfl⟩
    go_wp2_with fail
    refine (HK.out _).mono ?_
    rintro e w1 ⟨rfl, rfl⟩
    go_wp2
    go_ret
    exact ⟨rfl, HB.out⟩
   ·
    refine HR.out 2 (by unfold Per.err; rw [if_pos hn, if_pos hk, if_neg he]) ?_
    have he2 : epoch < 1 ∨ (1 ≤ epoch ∧ 1073741824 < epoch) := by omega
    clear hn HR hk he
    rcases he2 with g | ⟨g, g2⟩
    all_goals
     go_enter Tryz.func129, Tryz.ntmps129
     go_wp2_with fail
     refine (HN.out _).mono ?_
     rintro e w1 ⟨rfl, rfl⟩
     go_wp2_with fail
     refine (HK.out _).mono ?_
     rintro e w1 ⟨rfl, rfl⟩
     go_wp2
     go_ret
     exact ⟨rfl, HB.out⟩
  ·
   refine HR.out 10 (by unfold Per.err; rw [if_pos hn, if_neg hk]) ?_
   rw [decide_eq_false hk] at HK
   clear hn HR hk
   go_enter Tryz.func129, Tryz.ntmps129
   go_wp2_with fail
   refine (HN.out _).mono ?_
   rintro e w1 ⟨rfl, rfl⟩
   go_wp2_with fail
   refine (HK.out _).mono ?_
   rintro e w1 ⟨rfl, rfl⟩
   go_wp2
   go_ret
   exact ⟨rfl, HB.out⟩
theorem texts_ne {a b : ByteArray} (h : a ≠ b) : (a.toList == b.toList) = false := by
 rw [beq_eq_false_iff_ne]
 intro e
 rw [Go.ByteArray.toList_eq, Go.ByteArray.toList_eq] at e
 exact h (Go.WideShapes.bytes_inj e)
def RefBook (w : World) (bb : Nat) (L : List Per) : Prop := ∃ v B, w.heap[bb]? = some (.cells #[v] 49 (0, 0)) ∧ w.ownsRow B 46 4 v L.length (cellsP L)
theorem owned_at {w : World} {base : Nat} {v : Value} {L : List Per} (h : w.ownsRow base 46 4 v L.length (cellsP L)) (hn : L ≠ []) :
  ∃ g cap, v = .slice (some ⟨g, 0, none⟩) L.length cap ∧ L.length ≤ cap ∧ base ≤ g ∧ ∀ i (hi : i < L.length), w.cell? ⟨g, i * 4, none⟩ = some (.string L[i].name) ∧ w.cell? ⟨g, i * 4 + 1, none⟩ = some (.int .i64 L[i].key) ∧ w.cell? ⟨g, i * 4 + 2, none⟩ = some (.int .i64 L[i].epoch) ∧ w.cell? ⟨g, i * 4 + 3, none⟩ = some (.bool L[i].off) := by
 rcases h.2 with ⟨_, h0⟩ | ⟨g, cap, cur, rfl, hb, hg, hc, _, _, ht⟩
 ·
  exact absurd (List.length_eq_zero_iff.1 h0) hn
 ·
  refine ⟨g, cap, rfl, hc, hb, fun i hi => ?_⟩
  have key : ∀ j (_ : j < 4) u, (L[i].cells)[j]? = some u → w.cell? ⟨g, i * 4 + j, none⟩ = some u := fun j hj u hu => by
   have e := cellsP_at L i j hi hj
   rw [hu, ← ht, List.getElem?_take] at e
   rw [cell_of_row w g _ cur _ _ hg]
   split at e
   ·
    simpa using e
   ·
    cases e
  exact ⟨key 0 (by decide) _ rfl, key 1 (by decide) _ rfl, key 2 (by decide) _ rfl, key 3 (by decide) _ rfl⟩
set_option maxRecDepth 100000 in
set_option maxHeartbeats 1000000 in
theorem refFind_any (bb : Nat) (L : List Per) (name : ByteArray) (w : World) (h : RefBook w bb L) (hn : L.length ≤ 1000) :
  Calls Tryz.prog 11 #[.pointer (some ⟨bb, 0, none⟩), .string name] w fun e w' => e = .returned (.int .i64 (findP L name)) ∧ w' = w := by
 obtain ⟨v, B, hbb, hown⟩ := h
 have hcb : w.cell? ⟨bb, 0, none⟩ = some v := cell_of_row w bb 0 _ _ _ hbb
 clear hbb
 by_cases h0 : L = []
 ·
  subst h0
  have HF : Hid (findP [] name = -1) := rfl
  have hv : ∃ ad cap, v = .slice ad 0 cap := by
   rcases hown.2 with ⟨rfl, _⟩ | ⟨g, cap, cur, rfl, _⟩
   ·
    exact ⟨_, _, rfl⟩
   ·
    exact ⟨_, _, rfl⟩
  obtain ⟨ad, cap, rfl⟩ := hv
  clear hown hn
  go_enter Tryz.func11, Tryz.ntmps11
  go_wp2
  go_loop [5] (fun i => i = .int .i64 0) (fun _ => 0)
  case atStart => exact rfl
  case round =>
   subst hrel
   go_wp2
   go_ret
   exact ⟨by rw [HF.out]; rfl, rfl⟩
 ·
  obtain ⟨g, cap, rfl, hcap, _, hcells⟩ := owned_at hown h0
  have HC := hide hcells
  clear hown hcells h0
  generalize hlen : L.length = n at hn hcb hcap
  have HL := hide hlen
  clear hlen
  go_enter Tryz.func11, Tryz.ntmps11
  go_wp2
  go_loop [5] (fun i => ∃ k : Nat, k ≤ n ∧ i = .int .i64 k ∧ Hid (∀ j (hj : j < L.length), j < k → L[j].name ≠ name)) (fun i => n - (intOf i).toNat)
  case atStart => exact ⟨0, Nat.zero_le _, rfl, fun j _ hj => absurd hj (Nat.not_lt_zero _)⟩
  case round =>
   obtain ⟨k, hk, rfl, A⟩ := hrel
   by_cases hlt : k < n
   ·
    have hkl : k < L.length := by rw [HL.out]; exact hlt
    have hc0 := (HC.out k hkl).1
    by_cases he : L[k].name = name
    ·
     have HF := hide (findP_some L name k hkl he A.out)
     rw [he] at hc0
     clear he
     go_wp2
     go_ret
     exact ⟨by rw [HF.out]; rfl, rfl⟩
    ·
     have HE := hide he
     generalize L[k].name = y at hc0 he
     have hq := texts_ne he
     clear he
     go_wp2
     go_round
     case rel =>
      refine ⟨k + 1, by omega, by go_num, (show Hid _ from fun j hj hjk => ?_)⟩
      by_cases e : j = k
      ·
       subst e; exact HE.out
      ·
       exact A.out j hj (by omega)
     case measure => simp [intOf]; omega
   ·
    have HF : Hid (findP L name = -1) := findP_none L name (fun j hj => A.out j hj (by rw [HL.out] at hj; omega))
    go_wp2
    go_ret
    exact ⟨by rw [HF.out]; rfl, rfl⟩
structure Kept (S : Nat → Prop) (w w' : World) : Prop where
 os : w'.os = w.os
 tape : w'.tape = w.tape
 output : w'.output = w.output
 size : w.heap.size ≤ w'.heap.size
 block : ∀ k, k < w.heap.size → ¬ S k → w'.heap[k]? = w.heap[k]?
theorem Kept.refl (S : Nat → Prop) (w : World) : Kept S w w := ⟨rfl, rfl, rfl, Nat.le_refl _, fun _ _ _ => rfl⟩
theorem Kept.trans {S : Nat → Prop} {a b c : World} (h : Kept S a b) (k : Kept S b c) : Kept S a c :=
 ⟨k.os.trans h.os, k.tape.trans h.tape, k.output.trans h.output, Nat.le_trans h.size k.size, fun j hj hs => (k.block j (Nat.lt_of_lt_of_le hj h.size) hs).trans (h.block j hj hs)⟩
theorem Kept.of_below (S : Nat → Prop) {w w' : World} (h : Below w.heap.size w w') : Kept S w w' := ⟨h.os, h.tape, h.output, h.size, fun k hk _ => h.block k hk⟩
theorem Kept.setCell {S : Nat → Prop} {a w : World} (h : Kept S a w) {p : Addr} (hp : S p.block) (u : Value) : Kept S a (w.setCell p u) :=
 ⟨h.os, h.tape, h.output, by have := h.size; simpa [World.setCell] using this, fun k hk hs => by
  rw [heap_setCell_other w p k u (fun e => hs (e ▸ hp))]; exact h.block k hk hs⟩
theorem own_set {w : World} {base g cap : Nat} {L : List Per} (h : w.ownsRow base 46 4 (.slice (some ⟨g, 0, none⟩) L.length cap) L.length (cellsP L)) (i j : Nat) (hi : i < L.length) (hj : j < 4) (u : Value) (q : Per) (hq : q.cells = (L[i].cells).set j u) :
  (w.setCell ⟨g, i * 4 + j, none⟩ u).ownsRow base 46 4 (.slice (some ⟨g, 0, none⟩) L.length cap) L.length (cellsP (L.set i q)) := by
 rcases h.2 with ⟨e, _⟩ | ⟨g', cap', cur, e, hb, hg, hc, hm, hs, ht⟩
 ·
  cases e
 ·
  injection e with e1 e2 e3
  injection e1 with e1
  injection e1 with e1
  subst e1; subst e3
  refine ⟨by rw [cellsP_len, List.length_set], Or.inr ⟨g, cap, cur.setIfInBounds (i * 4 + j) u, rfl, hb, heap_setCell_same w g _ cur _ u hg, hc, hm, by rw [Array.size_setIfInBounds]; exact hs, ?_⟩⟩
  rw [Array.toList_setIfInBounds, List.take_set, ht]
  exact cellsP_set L i j hi u q hj hq
theorem own_frozen {w : World} {base g cap n : Nat} {xs : List Value} (h : w.ownsRow base 46 4 (.slice (some ⟨g, 0, none⟩) n cap) n xs) (o : Nat) : w.frozen? ⟨g, o, none⟩ = false := by
 rcases h.2 with ⟨e, _⟩ | ⟨g', cap', cur, e, _, hg, _⟩
 ·
  cases e
 ·
  injection e with e1 e2 e3
  injection e1 with e1
  injection e1 with e1
  subst e1
  exact frozen_of_row w g o cur _ hg
theorem idx_some (L : List Per) (name : ByteArray) (k : Nat) (hk : k < L.length) (h : L[k].name = name) (hb : ∀ j (hj : j < L.length), j < k → L[j].name ≠ name) : L.findIdx? (fun p => decide (p.name = name)) = some k := by
 rw [List.findIdx?_eq_some_iff_getElem]
 exact ⟨hk, by simp [h], fun j hj => by simp [hb j (by omega) hj]⟩
theorem idx_none (L : List Per) (name : ByteArray) (h : ∀ j (hj : j < L.length), L[j].name ≠ name) : L.findIdx? (fun p => decide (p.name = name)) = none := by
 rw [List.findIdx?_eq_none_iff]
 intro x hx
 obtain ⟨j, hj, rfl⟩ := List.getElem_of_mem hx
 simp [h j hj]
theorem kept_row (w : World) (g o n cap : Nat) (u : Value) : Kept (fun k => (Value.slice (some ⟨g, 0, none⟩) n cap).ownBlock = some k) w (w.setCell ⟨g, o, none⟩ u) :=
 Kept.setCell (S := fun k => (Value.slice (some ⟨g, 0, none⟩) n cap).ownBlock = some k) (Kept.refl _ w) (p := ⟨g, o, none⟩) (show (Value.slice (some ⟨g, 0, none⟩) n cap).ownBlock = some g from rfl) u
theorem tags_ne {w : World} {i j : Nat} {c c' : Array Value} {t t' : TypeId} (h : w.heap[i]? = some (.cells c t (0, 0))) (h' : w.heap[j]? = some (.cells c' t' (0, 0))) (ht : t ≠ t') : i ≠ j := fun e => by
 subst e
 rw [h] at h'
 exact ht (Obj.cells.inj (Option.some.inj h')).2.1
theorem own_tag {w : World} {base : Nat} {e : TypeId} {size : Nat} {v : Value} {n : Nat} {xs : List Value} (h : w.ownsRow base e size v n xs) {g : Nat} (hg : v.ownBlock = some g) : ∃ c, w.heap[g]? = some (.cells c e (0, 0)) := by
 rcases h.2 with ⟨rfl, _⟩ | ⟨g', cap, cur, rfl, _, hb, _⟩
 ·
  simp [Value.ownBlock] at hg
 ·
  have : g' = g := by simpa [Value.ownBlock] using hg
  subst this
  exact ⟨_, hb⟩
theorem book_ne {w : World} {B bb g n cap : Nat} {xs : List Value} {cs : Array Value} (h : w.heap[bb]? = some (.cells cs 49 (0, 0))) (hr : w.ownsRow B 46 4 (.slice (some ⟨g, 0, none⟩) n cap) n xs) : bb ≠ g := by
 obtain ⟨c, hc⟩ := own_tag hr (g := g) rfl
 exact tags_ne h hc (by decide)
def RefBookB (B : Nat) (w : World) (bb : Nat) (v : Value) (L : List Per) : Prop := w.heap[bb]? = some (.cells #[v] 49 (0, 0)) ∧ w.ownsRow B 46 4 v L.length (cellsP L)
theorem RefBookB.book {B : Nat} {w : World} {bb : Nat} {v : Value} {L : List Per} (h : RefBookB B w bb v L) : RefBook w bb L := ⟨v, B, h.1, h.2⟩
set_option maxRecDepth 100000 in
set_option maxHeartbeats 2000000 in
theorem refRaiseB_any {B : Nat} (bb : Nat) (v : Value) (L : List Per) (name : ByteArray) (w : World) (h : RefBookB B w bb v L) (hn : L.length ≤ 1000) (hep : ∀ i (hi : i < L.length), 1 ≤ L[i].epoch) :
  Calls Tryz.prog 90 #[.pointer (some ⟨bb, 0, none⟩), .string name] w fun e w' => e = .returned (.tuple #[.int .i64 (raiseP L name).1, .int .i64 ((raiseP L name).2.1 : Int)]) ∧ RefBookB B w' bb v (raiseP L name).2.2 ∧ Kept (fun k => v.ownBlock = some k) w w' := by
 have HF := hide (fun w h => refFind_any bb L name w h hn)
 have HB := hide h
 have hcb : w.cell? ⟨bb, 0, none⟩ = some v := cell_of_row w bb 0 _ _ _ h.1
 rcases findP_cases L name with ⟨hf, hno⟩ | ⟨k, hk, hf, hk1, hk2⟩
 ·
  have HR : Hid (raiseP L name = (0, 5, L)) := by show _ = _; unfold raiseP; rw [idx_none L name hno]
  rw [HR.out]
  rw [hf] at HF
  clear h hno hf
  go_enter Tryz.func90, Tryz.ntmps90
  go_wp2_with fail
  refine (HF.out _ HB.out.book).mono ?_
  rintro e w1 ⟨rfl, rfl⟩
  go_wp2
  go_ret2
  exact ⟨rfl, HB.out, Kept.refl _ _⟩
 ·
  have h0 : L ≠ [] := by intro e; subst e; simp at hk
  obtain ⟨g, cap, rfl, hcap, hgb, hcells⟩ := owned_at h.2 h0
  have hc2 := (hcells k hk).2.2.1
  have hfr := own_frozen h.2 (k * 4 + 2)
  rw [hf] at HF
  by_cases he : 1073741824 ≤ L[k].epoch
  ·
   have HR : Hid (raiseP L name = (0, 2, L)) := by
    show _ = _
    unfold raiseP
    rw [idx_some L name k hk hk1 hk2]
    simp only [List.getElem?_eq_getElem hk]
    rw [if_pos he]
   rw [HR.out]
   clear h hf hcells hk1 hk2 h0
   generalize L[k].epoch = ep at *
   have hkn : k < L.length := hk
   clear hk
   generalize hlen : L.length = n at hn hcb hcap hkn
   have HLn := hide hlen
   clear hlen
   go_enter Tryz.func90, Tryz.ntmps90
   go_wp2_with fail
   refine (HF.out _ HB.out.book).mono ?_
   rintro e w1 ⟨rfl, rfl⟩
   go_wp2
   go_ret2
   exact ⟨rfl, by rw [← HLn.out]; exact HB.out, Kept.refl _ _⟩
  ·
   have HR : Hid (raiseP L name = (L[k].epoch + 1, 0, L.set k { L[k] with epoch := L[k].epoch + 1 })) := by
    show _ = _
    unfold raiseP
    rw [idx_some L name k hk hk1 hk2]
    simp only [List.getElem?_eq_getElem hk]
    rw [if_neg he]
   rw [HR.out]
   have he1 := hep k hk
   have HS := hide (own_set h.2 k 2 hk (by decide) (.int .i64 (L[k].epoch + 1)) { L[k] with epoch := L[k].epoch + 1 } rfl)
   have HH : Hid ((w.setCell ⟨g, k * 4 + 2, none⟩ (.int .i64 (L[k].epoch + 1))).heap[bb]? = some (.cells #[.slice (some ⟨g, 0, none⟩) L.length cap] 49 (0, 0))) := by
    show _ = _
    rw [heap_setCell_other w _ bb _ (book_ne h.1 h.2)]
    exact h.1
   have hcb2 : (w.setCell ⟨g, k * 4 + 2, none⟩ (.int .i64 (L[k].epoch + 1))).cell? ⟨bb, 0, none⟩ = some (.slice (some ⟨g, 0, none⟩) L.length cap) := cell_of_row _ bb 0 _ _ _ HH.out
   have hc3 : (w.setCell ⟨g, k * 4 + 2, none⟩ (.int .i64 (L[k].epoch + 1))).cell? ⟨g, k * 4 + 2, none⟩ = some (.int .i64 (L[k].epoch + 1)) := World.cell?_setCell_same _ _ _ hc2
   have HLs : Hid ((L.set k { L[k] with epoch := L[k].epoch + 1 }).length = L.length) := List.length_set
   clear h hf hcells hk1 hk2 h0 hep
   generalize L.set k { L[k] with epoch := L[k].epoch + 1 } = L2 at *
   generalize L[k].epoch = ep at *
   have hkn : k < L.length := hk
   clear hk
   generalize hlen : L.length = n at hn hcb hcap HS HH hcb2 HLs hkn
   have HLn := hide hlen
   clear hlen
   go_enter Tryz.func90, Tryz.ntmps90
   go_wp2_with fail
   refine (HF.out _ HB.out.book).mono ?_
   rintro e w1 ⟨rfl, rfl⟩
   go_wp2
   go_ret2
   exact ⟨rfl, ⟨HH.out, by rw [HLs.out]; exact HS.out⟩, kept_row _ _ _ _ _ _⟩
set_option maxRecDepth 100000 in
set_option maxHeartbeats 2000000 in
theorem refOff_any {B : Nat} (bb : Nat) (v : Value) (L : List Per) (name : ByteArray) (off : Bool) (w : World) (h : RefBookB B w bb v L) (hn : L.length ≤ 1000) :
  Calls Tryz.prog 37 #[.pointer (some ⟨bb, 0, none⟩), .string name, .bool off] w fun e w' => e = .returned (.int .i64 ((offP L name off).1 : Int)) ∧ RefBookB B w' bb v (offP L name off).2 ∧ Kept (fun k => v.ownBlock = some k) w w' := by
 have HF := hide (fun w h => refFind_any bb L name w h hn)
 have HB := hide h
 have hcb : w.cell? ⟨bb, 0, none⟩ = some v := cell_of_row w bb 0 _ _ _ h.1
 rcases findP_cases L name with ⟨hf, hno⟩ | ⟨k, hk, hf, hk1, hk2⟩
 ·
  have HR : Hid (offP L name off = (5, L)) := by show _ = _; unfold offP; rw [idx_none L name hno]
  rw [HR.out]
  rw [hf] at HF
  clear h hno hf
  go_enter Tryz.func37, Tryz.ntmps37
  go_wp2_with fail
  refine (HF.out _ HB.out.book).mono ?_
  rintro e w1 ⟨rfl, rfl⟩
  go_wp2
  go_ret
  exact ⟨rfl, HB.out, Kept.refl _ _⟩
 ·
  have h0 : L ≠ [] := by intro e; subst e; simp at hk
  obtain ⟨g, cap, rfl, hcap, hgb, hcells⟩ := owned_at h.2 h0
  have hc3 := (hcells k hk).2.2.2
  have hfr := own_frozen h.2 (k * 4 + 3)
  rw [hf] at HF
  by_cases he : L[k].off = off
  ·
   have HR : Hid (offP L name off = (6, L)) := by
    show _ = _
    unfold offP
    rw [idx_some L name k hk hk1 hk2]
    simp only [List.getElem?_eq_getElem hk]
    rw [if_pos he]
   rw [HR.out]
   rw [he] at hc3
   clear h hf hcells hk1 hk2 h0 he
   have hkn : k < L.length := hk
   clear hk
   generalize hlen : L.length = n at hn hcb hcap hkn
   have HLn := hide hlen
   clear hlen
   cases off
   all_goals
    go_enter Tryz.func37, Tryz.ntmps37
    go_wp2_with fail
    refine (HF.out _ HB.out.book).mono ?_
    rintro e w1 ⟨rfl, rfl⟩
    go_wp2
    go_ret
    exact ⟨rfl, by rw [← HLn.out]; exact HB.out, Kept.refl _ _⟩
  ·
   have HR : Hid (offP L name off = (0, L.set k { L[k] with off := off })) := by
    show _ = _
    unfold offP
    rw [idx_some L name k hk hk1 hk2]
    simp only [List.getElem?_eq_getElem hk]
    rw [if_neg he]
   rw [HR.out]
   have HS := hide (own_set h.2 k 3 hk (by decide) (.bool off) { L[k] with off := off } rfl)
   have HH : Hid ((w.setCell ⟨g, k * 4 + 3, none⟩ (.bool off)).heap[bb]? = some (.cells #[.slice (some ⟨g, 0, none⟩) L.length cap] 49 (0, 0))) := by
    show _ = _
    rw [heap_setCell_other w _ bb _ (book_ne h.1 h.2)]
    exact h.1
   have HLs : Hid ((L.set k { L[k] with off := off }).length = L.length) := List.length_set
   have hoff : L[k].off = !off := by
    revert he
    cases L[k].off <;> cases off <;> simp
   rw [hoff] at hc3
   clear h hf hcells hk1 hk2 h0 he hoff
   generalize L.set k { L[k] with off := off } = L2 at *
   have hkn : k < L.length := hk
   clear hk
   generalize hlen : L.length = n at hn hcb hcap HS HH HLs hkn
   have HLn := hide hlen
   clear hlen
   cases off
   all_goals
    go_enter Tryz.func37, Tryz.ntmps37
    go_wp2_with fail
    refine (HF.out _ HB.out.book).mono ?_
    rintro e w1 ⟨rfl, rfl⟩
    go_wp2
    go_ret
    exact ⟨rfl, ⟨HH.out, by rw [HLs.out]; exact HS.out⟩, kept_row _ _ _ _ _ _⟩
set_option maxRecDepth 100000 in
set_option maxHeartbeats 2000000 in
theorem refRekey_any {B : Nat} (bb : Nat) (v : Value) (L : List Per) (name : ByteArray) (key : Int) (w : World) (h : RefBookB B w bb v L) (hn : L.length ≤ 1000) (hep : ∀ i (hi : i < L.length), 1 ≤ L[i].epoch) :
  Calls Tryz.prog 94 #[.pointer (some ⟨bb, 0, none⟩), .string name, .int .i64 key] w fun e w' => e = .returned (.int .i64 ((rekeyP L name key).1 : Int)) ∧ RefBookB B w' bb v (rekeyP L name key).2 ∧ Kept (fun k => v.ownBlock = some k) w w' := by
 have HF := hide (fun w h => refFind_any bb L name w h hn)
 have HK := hide (fun w => refKey_any key w)
 have HB := hide h
 have hcb : w.cell? ⟨bb, 0, none⟩ = some v := cell_of_row w bb 0 _ _ _ h.1
 rcases findP_cases L name with ⟨hf, hno⟩ | ⟨k, hk, hf, hk1, hk2⟩
 ·
  have HR : Hid (rekeyP L name key = (5, L)) := by show _ = _; unfold rekeyP; rw [idx_none L name hno]
  rw [HR.out]
  rw [hf] at HF
  clear h hno hf
  go_enter Tryz.func94, Tryz.ntmps94
  go_wp2_with fail
  refine (HF.out _ HB.out.book).mono ?_
  rintro e w1 ⟨rfl, rfl⟩
  go_wp2
  go_ret
  exact ⟨rfl, HB.out, Kept.refl _ _⟩
 ·
  have h0 : L ≠ [] := by intro e; subst e; simp at hk
  obtain ⟨g, cap, rfl, hcap, hgb, hcells⟩ := owned_at h.2 h0
  have hc1 := (hcells k hk).2.1
  have hc2 := (hcells k hk).2.2.1
  have hf1 := own_frozen h.2 (k * 4 + 1)
  have he1 := hep k hk
  rw [hf] at HF
  have hrk : rekeyP L name key = if 1 ≤ key ∧ key ≤ 1000000006 then (if L[k].key = key then (6, L) else if 1073741824 ≤ L[k].epoch then (2, L) else (0, L.set k { L[k] with key := key, epoch := L[k].epoch + 1 })) else (10, L) := by
   unfold rekeyP
   rw [idx_some L name k hk hk1 hk2]
   simp only [List.getElem?_eq_getElem hk]
  rw [hrk]
  by_cases hkey : 1 ≤ key ∧ key ≤ 1000000006
  ·
   rw [if_pos hkey]
   rw [decide_eq_true hkey] at HK
   by_cases hsame : L[k].key = key
   ·
    rw [if_pos hsame]
    rw [hsame] at hc1
    have hq : (key == key) = true := by simp
    clear h hf hcells hk1 hk2 h0 hsame hkey hrk hep
    generalize L[k].epoch = ep at *
    have hkn : k < L.length := hk
    clear hk
    generalize hlen : L.length = n at hn hcb hcap hkn
    have HLn := hide hlen
    clear hlen
    go_enter Tryz.func94, Tryz.ntmps94
    go_wp2_with fail
    refine (HF.out _ HB.out.book).mono ?_
    rintro e w1 ⟨rfl, rfl⟩
    go_wp2_with fail
    refine (HK.out _).mono ?_
    rintro e w2 ⟨rfl, rfl⟩
    go_wp2
    go_ret
    exact ⟨rfl, by rw [← HLn.out]; exact HB.out, Kept.refl _ _⟩
   ·
    rw [if_neg hsame]
    have hq : (L[k].key == key) = false := by rw [beq_eq_false_iff_ne]; exact hsame
    by_cases hfull : 1073741824 ≤ L[k].epoch
    ·
     rw [if_pos hfull]
     clear h hf hcells hk1 hk2 h0 hsame hkey hrk hep
     generalize L[k].epoch = ep at *
     generalize L[k].key = ky at *
     have hkn : k < L.length := hk
     clear hk
     generalize hlen : L.length = n at hn hcb hcap hkn
     have HLn := hide hlen
     clear hlen
     go_enter Tryz.func94, Tryz.ntmps94
     go_wp2_with fail
     refine (HF.out _ HB.out.book).mono ?_
     rintro e w1 ⟨rfl, rfl⟩
     go_wp2_with fail
     refine (HK.out _).mono ?_
     rintro e w2 ⟨rfl, rfl⟩
     go_wp2
     go_ret
     exact ⟨rfl, by rw [← HLn.out]; exact HB.out, Kept.refl _ _⟩
    ·
     rw [if_neg hfull]
     have S1 := own_set h.2 k 1 hk (by decide) (.int .i64 key) { L[k] with key := key } rfl
     have hl1 : (L.set k { L[k] with key := key }).length = L.length := List.length_set
     have S2 := own_set (L := L.set k { L[k] with key := key }) (by rw [hl1]; exact S1) k 2 (by rw [hl1]; exact hk) (by decide) (.int .i64 (L[k].epoch + 1)) { L[k] with key := key, epoch := L[k].epoch + 1 } (by rw [List.getElem_set_self]; rfl)
     rw [hl1, List.set_set] at S2
     have HS := hide S2
     have H1 : (w.setCell ⟨g, k * 4 + 1, none⟩ (.int .i64 key)).heap[bb]? = some (.cells #[.slice (some ⟨g, 0, none⟩) L.length cap] 49 (0, 0)) := by
      rw [heap_setCell_other w _ bb _ (book_ne h.1 h.2)]
      exact h.1
     have hcb2 : (w.setCell ⟨g, k * 4 + 1, none⟩ (.int .i64 key)).cell? ⟨bb, 0, none⟩ = some (.slice (some ⟨g, 0, none⟩) L.length cap) := cell_of_row _ bb 0 _ _ _ H1
     have hc3 : (w.setCell ⟨g, k * 4 + 1, none⟩ (.int .i64 key)).cell? ⟨g, k * 4 + 2, none⟩ = some (.int .i64 L[k].epoch) := by
      rw [World.cell?_setCell_other _ _ _ _ (fun e => by have := (Addr.mk.inj e).2.1; omega)]; exact hc2
     have hf2 := own_frozen S1 (k * 4 + 2)
     have HH : Hid (((w.setCell ⟨g, k * 4 + 1, none⟩ (.int .i64 key)).setCell ⟨g, k * 4 + 2, none⟩ (.int .i64 (L[k].epoch + 1))).heap[bb]? = some (.cells #[.slice (some ⟨g, 0, none⟩) L.length cap] 49 (0, 0))) := by
      show _ = _
      rw [heap_setCell_other _ _ bb _ (book_ne h.1 h.2)]
      exact H1
     have HLs : Hid ((L.set k { L[k] with key := key, epoch := L[k].epoch + 1 }).length = L.length) := List.length_set
     clear h hf hcells hk1 hk2 h0 hsame hkey hrk hep S1 S2 hl1 H1
     generalize L.set k { L[k] with key := key, epoch := L[k].epoch + 1 } = L2 at *
     generalize L[k].epoch = ep at *
     generalize L[k].key = ky at *
     have hkn : k < L.length := hk
     clear hk
     generalize hlen : L.length = n at hn hcb hcap HS HH hcb2 HLs hkn
     have HLn := hide hlen
     clear hlen
     go_enter Tryz.func94, Tryz.ntmps94
     go_wp2_with fail
     refine (HF.out _ HB.out.book).mono ?_
     rintro e w1 ⟨rfl, rfl⟩
     go_wp2_with fail
     refine (HK.out _).mono ?_
     rintro e w2 ⟨rfl, rfl⟩
     go_wp2
     go_ret
     exact ⟨rfl, ⟨HH.out, by rw [HLs.out]; exact HS.out⟩, (kept_row _ _ _ _ _ _).setCell (p := ⟨g, k * 4 + 2, none⟩) rfl _⟩
  ·
   rw [if_neg hkey]
   rw [decide_eq_false hkey] at HK
   clear h hf hcells hk1 hk2 h0 hkey hrk hep he1 hc1 hc2
   have hkn : k < L.length := hk
   clear hk
   generalize hlen : L.length = n at hn hcb hcap hkn
   have HLn := hide hlen
   clear hlen
   go_enter Tryz.func94, Tryz.ntmps94
   go_wp2_with fail
   refine (HF.out _ HB.out.book).mono ?_
   rintro e w1 ⟨rfl, rfl⟩
   go_wp2_with fail
   refine (HK.out _).mono ?_
   rintro e w2 ⟨rfl, rfl⟩
   go_wp2
   go_ret
   exact ⟨rfl, by rw [← HLn.out]; exact HB.out, Kept.refl _ _⟩
theorem own_block {w w' : World} {base : Nat} {e : TypeId} {size : Nat} {v : Value} {n : Nat} {xs : List Value} (h : w.ownsRow base e size v n xs) (hk : ∀ g, v.ownBlock = some g → w'.heap[g]? = w.heap[g]?) : w'.ownsRow base e size v n xs := by
 refine ⟨h.1, ?_⟩
 rcases h.2 with g | ⟨g, cap, cur, rfl, hb, hg, hc, hm, hs, ht⟩
 ·
  exact Or.inl g
 ·
  exact Or.inr ⟨g, cap, cur, rfl, hb, by rw [hk g rfl]; exact hg, hc, hm, hs, ht⟩
theorem RefBookB.kept {B : Nat} {S : Nat → Prop} {w w' : World} {bb : Nat} {v : Value} {L : List Per} (h : RefBookB B w bb v L) (hk : Kept S w w') (h1 : ¬ S bb) (h2 : ∀ g, v.ownBlock = some g → ¬ S g) : RefBookB B w' bb v L :=
 ⟨by rw [hk.block _ (row_lt h.1) h1]; exact h.1, own_block h.2 (fun g hg => hk.block g (h.2.lt g hg).2 (h2 g hg))⟩
theorem RefBookB.below {B : Nat} {w w' : World} {bb : Nat} {v : Value} {L : List Per} (h : RefBookB B w bb v L) (hb : Below w.heap.size w w') : RefBookB B w' bb v L :=
 h.kept (Kept.of_below (fun _ => False) hb) id (fun _ _ => id)
set_option maxRecDepth 100000 in
set_option maxHeartbeats 2000000 in
theorem refAdd_err {B : Nat} (bb : Nat) (v : Value) (L : List Per) (name : ByteArray) (key : Int) (w : World) (h : RefBookB B w bb v L) (hs : name.size ≤ maxLen) (he : (newP name key).err ≠ 0) :
  Calls Tryz.prog 83 #[.pointer (some ⟨bb, 0, none⟩), .string name, .int .i64 key] w fun e w' => e = .returned (.int .i64 ((newP name key).err : Int)) ∧ RefBookB B w' bb v L ∧ Below w.heap.size w w' := by
 have HP := hide (fun w => refPerson_any (newP name key) w hs)
 have hpos : (0 : Int) < ((newP name key).err : Int) := by omega
 have HB0 : Hid (Below w.heap.size w (w.alloc (.cells #[.string name, .int .i64 key, .int .i64 1, .bool false] 46))) := (Below.refl _ _).alloc (Nat.le_refl _) _
 have HB := hide h
 have HP2 : Hid (∀ w, Calls Tryz.prog 129 #[.agg #[.string name, .int .i64 key, .int .i64 1, .bool false]] w fun e w' => e = .returned (.int .i64 ((newP name key).err : Int)) ∧ Below w.heap.size w w') := HP.out
 clear h he HP
 generalize ((newP name key).err : Int) = c at *
 go_enter Tryz.func83, Tryz.ntmps83
 go_wp2_with fail
 refine (HP2.out _).mono ?_
 rintro e w1 ⟨rfl, hb⟩
 have HB1 : Hid (Below w.heap.size w w1) := HB0.out.trans (hb.mono HB0.out.size)
 clear hb
 go_wp2
 go_ret
 exact ⟨rfl, HB.out.below HB1.out, HB1.out⟩
set_option maxRecDepth 100000 in
set_option maxHeartbeats 2000000 in
theorem refAdd_no {B : Nat} (bb : Nat) (v : Value) (L : List Per) (name : ByteArray) (key : Int) (w : World) (h : RefBookB B w bb v L) (hn : L.length ≤ 1000) (hs : name.size ≤ maxLen) (he : (newP name key).err = 0) (c : Nat) (hc : (0 ≤ findP L name ∧ c = 6) ∨ (findP L name < 0 ∧ 20 ≤ L.length ∧ c = 7)) :
  Calls Tryz.prog 83 #[.pointer (some ⟨bb, 0, none⟩), .string name, .int .i64 key] w fun e w' => e = .returned (.int .i64 (c : Int)) ∧ RefBookB B w' bb v L ∧ Below w.heap.size w w' := by
 have HP := hide (fun w => refPerson_any (newP name key) w hs)
 rw [he] at HP
 have HP2 : Hid (∀ w, Calls Tryz.prog 129 #[.agg #[.string name, .int .i64 key, .int .i64 1, .bool false]] w fun e w' => e = .returned (.int .i64 0) ∧ Below w.heap.size w w') := HP.out
 have HF := hide (fun w h => refFind_any bb L name w h hn)
 have HB0 : Hid (Below w.heap.size w (w.alloc (.cells #[.string name, .int .i64 key, .int .i64 1, .bool false] 46))) := (Below.refl _ _).alloc (Nat.le_refl _) _
 have HB := hide h
 have hlen : ∃ ad cap, v = .slice ad L.length cap := by
  rcases h.2.2 with ⟨rfl, h0⟩ | ⟨g, cap, cur, rfl, _⟩
  ·
   exact ⟨none, 0, by rw [h0]⟩
  ·
   exact ⟨_, _, rfl⟩
 obtain ⟨ad, cap, rfl⟩ := hlen
 clear h he HP
 generalize findP L name = f at *
 rcases hc with ⟨hf, rfl⟩ | ⟨hf, h20, rfl⟩
 ·
  go_enter Tryz.func83, Tryz.ntmps83
  go_wp2_with fail
  refine (HP2.out _).mono ?_
  rintro e w1 ⟨rfl, hb⟩
  have HB1 : Hid (Below w.heap.size w w1) := HB0.out.trans (hb.mono HB0.out.size)
  have HK1 := hide (HB.out.below HB1.out)
  clear hb
  go_wp2_with fail
  refine (HF.out _ HK1.out.book).mono ?_
  rintro e w2 ⟨rfl, rfl⟩
  go_wp2
  go_ret
  exact ⟨rfl, HK1.out, HB1.out⟩
 ·
  generalize hln : L.length = n at hn h20
  have HLn := hide hln
  go_enter Tryz.func83, Tryz.ntmps83
  go_wp2_with fail
  refine (HP2.out _).mono ?_
  rintro e w1 ⟨rfl, hb⟩
  have HB1 : Hid (Below w.heap.size w w1) := HB0.out.trans (hb.mono HB0.out.size)
  have HK1 := hide (HB.out.below HB1.out)
  clear hb
  go_wp2_with fail
  refine (HF.out _ HK1.out.book).mono ?_
  rintro e w2 ⟨rfl, rfl⟩
  have hcb : w2.cell? ⟨bb, 0, none⟩ = some (.slice ad n cap) := by rw [← HLn.out]; exact cell_of_row w2 bb 0 _ _ _ HK1.out.1
  clear hln
  go_wp2
  go_ret
  exact ⟨rfl, by rw [← HLn.out]; exact HK1.out, HB1.out⟩
def lessP (name : ByteArray) (p : Per) : Bool := Op.bytesLess p.name.toList name.toList
def placeP (L : List Per) (name : ByteArray) : Nat := (L.takeWhile (lessP name)).length
def insertP (L : List Per) (p : Per) : List Per := L.take (placeP L p.name) ++ p :: L.drop (placeP L p.name)
theorem place_eq : ∀ (L : List Per) (name : ByteArray) (k : Nat), k ≤ L.length → (∀ j (hj : j < L.length), j < k → lessP name L[j] = true) → (∀ hk : k < L.length, lessP name L[k] = false) → placeP L name = k
 | [], name, k, hk, _, _ => by
  have : k = 0 := by simpa using hk
  subst this
  rfl
 | p :: L, name, 0, _, _, h2 => by
  have := h2 (by simp)
  unfold placeP
  rw [List.takeWhile_cons_of_neg (by simpa using this)]
  rfl
 | p :: L, name, k + 1, hk, h1, h2 => by
  have hp := h1 0 (by simp) (by omega)
  have ih := place_eq L name k (by simpa using hk) (fun j hj hjk => h1 (j + 1) (by simpa using hj) (by omega)) (fun hk2 => h2 (by simpa using hk2))
  unfold placeP at ih ⊢
  rw [List.takeWhile_cons_of_pos (by simpa using hp), List.length_cons, ih]
theorem cellsP_one (L : List Per) : ∀ u ∈ cellsP L, u.oneCell' = true := fun u hu => by
 obtain ⟨p, _, hp⟩ := List.mem_flatMap.1 hu
 exact cells_one p u hp
theorem own_mono {w : World} {base base' : Nat} {e : TypeId} {size : Nat} {v : Value} {n : Nat} {xs : List Value} (h : w.ownsRow base e size v n xs) (hb : base' ≤ base) : w.ownsRow base' e size v n xs := by
 refine ⟨h.1, ?_⟩
 rcases h.2 with g | ⟨g, cap, cur, rfl, hg, r⟩
 ·
  exact Or.inl g
 ·
  exact Or.inr ⟨g, cap, cur, rfl, Nat.le_trans hb hg, r⟩
theorem after_append {w0 w w' : World} {B bb : Nat} {v v' old : Value} {n : Nat} {xs : List Value} (hb0 : Below B w0 w) (hB : B ≤ w.heap.size) (hv : ∀ k, v.ownBlock = some k → B ≤ k) (hbb : bb < B) (hw0 : w0.heap[bb]? = some (.cells #[old] 49 (0, 0)))
  (hown : w'.ownsRow B 46 4 v' n xs) (hn : n ≠ 0) (hgrow : w.grownBy w' v.ownBlock) :
  ∃ g cap, v' = .slice (some ⟨g, 0, none⟩) n cap ∧ B ≤ g ∧ g < w'.heap.size ∧ w'.cell? ⟨bb, 0, none⟩ = some old ∧ w'.frozen? ⟨bb, 0, none⟩ = false ∧ Below B w0 w' := by
 have hb := hb0.grown hgrow hB hv
 have hrow : w'.heap[bb]? = some (.cells #[old] 49 (0, 0)) := by rw [hb.block bb hbb]; exact hw0
 rcases hown.2 with ⟨_, h0⟩ | ⟨g, cap, cur, rfl, hg, hgr, _⟩
 ·
  exact absurd h0 hn
 ·
  exact ⟨g, cap, rfl, hg, row_lt hgr, cell_of_row w' bb 0 _ _ _ hrow, frozen_of_row w' bb 0 _ _ hrow, hb⟩
theorem close_add {B : Nat} {w w2 w3 : World} {bb g1 cap1 n : Nat} {old : Value} {L' : List Per} {xs : List Value} (hb1 : Below w.heap.size w w2) (hbb : bb < w.heap.size) (hrow : w2.heap[bb]? = some (.cells #[old] 49 (0, 0))) (hb3 : Below w2.heap.size w2 w3) (hg : w2.heap.size ≤ g1)
  (hown : w3.ownsRow w2.heap.size 46 4 (.slice (some ⟨g1, 0, none⟩) n cap1) n xs) (hn : n = L'.length) (hBw : B ≤ w.heap.size) (hxs : xs = cellsP L') :
  ∃ v', RefBookB B (w3.setCell ⟨bb, 0, none⟩ (.slice (some ⟨g1, 0, none⟩) n cap1)) bb v' L' ∧ (∀ g, v'.ownBlock = some g → w.heap.size ≤ g) ∧ Kept (fun k => k = bb) w (w3.setCell ⟨bb, 0, none⟩ (.slice (some ⟨g1, 0, none⟩) n cap1)) := by
 have hs1 := hb1.size
 have hbb2 : bb < w2.heap.size := Nat.lt_of_lt_of_le hbb hs1
 have hrow3 : w3.heap[bb]? = some (.cells #[old] 49 (0, 0)) := by rw [hb3.block bb hbb2]; exact hrow
 subst hn; subst hxs
 refine ⟨_, ⟨heap_setCell_same w3 bb 0 _ _ _ hrow3, own_mono (ownsRow_setCell_below hown hbb2 _) (by omega)⟩, fun g e => ?_, ?_⟩
 ·
  have : g1 = g := by simpa [Value.ownBlock] using e
  omega
 ·
  exact Kept.setCell (S := fun k => k = bb) (p := ⟨bb, 0, none⟩) ((Kept.of_below _ hb1).trans (Kept.of_below _ hb3)) rfl _
set_option maxRecDepth 100000 in
set_option maxHeartbeats 4000000 in
theorem refAdd_first {B : Nat} (bb : Nat) (name : ByteArray) (key : Int) (w : World) (hBw : B ≤ w.heap.size) (h : RefBookB B w bb (.slice none 0 0) []) (hs : name.size ≤ maxLen) (he : (newP name key).err = 0) :
  Calls Tryz.prog 83 #[.pointer (some ⟨bb, 0, none⟩), .string name, .int .i64 key] w fun e w' => e = .returned (.int .i64 0) ∧ ∃ v', RefBookB B w' bb v' (insertP [] (newP name key)) ∧ (∀ g, v'.ownBlock = some g → w.heap.size ≤ g) ∧ Kept (fun k => k = bb) w w' := by
 obtain ⟨i0, hi, hz0, hz1, hz2⟩ := info_parts Tryz.infoPerson
 have HP := hide (fun w => refPerson_any (newP name key) w hs)
 rw [he] at HP
 have HP2 : Hid (∀ w, Calls Tryz.prog 129 #[.agg #[.string name, .int .i64 key, .int .i64 1, .bool false]] w fun e w' => e = .returned (.int .i64 0) ∧ Below w.heap.size w w') := HP.out
 have HF : Hid (∀ w, RefBook w bb [] → Calls Tryz.prog 11 #[.pointer (some ⟨bb, 0, none⟩), .string name] w fun e w' => e = .returned (.int .i64 (-1)) ∧ w' = w) := fun w h => refFind_any bb [] name w h (by decide)
 have HB0 : Hid (Below w.heap.size w (w.alloc (.cells #[.string name, .int .i64 key, .int .i64 1, .bool false] 46))) := (Below.refl _ _).alloc (Nat.le_refl _) _
 have hcp : (w.alloc (.cells #[.string name, .int .i64 key, .int .i64 1, .bool false] 46)).heap[w.heap.size]? = some (.cells #[.string name, .int .i64 key, .int .i64 1, .bool false] 46 (0, 0)) := heap_alloc_new _ _
 have HCp := hide hcp
 have HB := hide h
 have HBb := hide (row_lt h.1)
 clear h he HP hcp
 go_enter Tryz.func83, Tryz.ntmps83
 go_wp2_with fail
 refine (HP2.out _).mono ?_
 rintro e w1 ⟨rfl, hb⟩
 have HB1 : Hid (Below w.heap.size w w1) := HB0.out.trans (hb.mono HB0.out.size)
 have HK1 := hide (HB.out.below HB1.out)
 have HC1 : Hid (w1.heap[w.heap.size]? = some (.cells #[.string name, .int .i64 key, .int .i64 1, .bool false] 46 (0, 0))) := by show _ = _; rw [hb.block _ (by simp)]; exact HCp.out
 clear hb HCp
 go_wp2_with fail
 refine (HF.out _ HK1.out.book).mono ?_
 rintro e w2 ⟨rfl, rfl⟩
 have hcb : w2.cell? ⟨bb, 0, none⟩ = some (.slice none 0 0) := cell_of_row w2 bb 0 _ _ _ HK1.out.1
 have hc0 : w2.cell? ⟨w.heap.size, 0, none⟩ = some (.string name) := cell_of_row w2 _ 0 _ _ _ HC1.out
 have hc1 : w2.cell? ⟨w.heap.size, 1, none⟩ = some (.int .i64 key) := cell_of_row w2 _ 1 _ _ _ HC1.out
 have hc2 : w2.cell? ⟨w.heap.size, 2, none⟩ = some (.int .i64 1) := cell_of_row w2 _ 2 _ _ _ HC1.out
 have hc3 : w2.cell? ⟨w.heap.size, 3, none⟩ = some (.bool false) := cell_of_row w2 _ 3 _ _ _ HC1.out
 go_wp2
 go_loop [9] (fun i => i = .int .i64 0) (fun _ => 0)
 case atStart => exact rfl
 case round =>
  subst hrel
  have Hnew : Hid (∀ j u, (newP name key).cells[j]? = some u → (w2.alloc (.cells #[.string name, .int .i64 key, .int .i64 1, .bool false] 46)).cell? ((⟨w2.heap.size, 0, none⟩ : Addr).add j) = some u) := fun j u hj => by
   rw [Go.WideShapes.add_plain, World.cell?_alloc_at _ _ _ _ rfl, Nat.zero_add]
   match j, hj with
   | 0, hj => exact hj
   | 1, hj => exact hj
   | 2, hj => exact hj
   | 3, hj => exact hj
   | j + 4, hj => simp [Per.cells] at hj
  have HbB : Hid (w2.heap.size ≤ (w2.alloc (.cells #[.string name, .int .i64 key, .int .i64 1, .bool false] 46)).heap.size) := by
   show _ ≤ _
   simp
  have HA := hide (fun (v1 : Value) (w3 : World) hown hgrow => after_append (w0 := w2) (w := w2.alloc (.cells #[.string name, .int .i64 key, .int .i64 1, .bool false] 46)) (w' := w3) (B := w2.heap.size) (bb := bb) (v := .slice none 0 0) (v' := v1) (n := 0 + 1) (xs := [] ++ (newP name key).cells) ((Below.refl _ _).alloc (Nat.le_refl _) _) HbB.out (fun k hk => by cases hk) (row_lt HK1.out.1) HK1.out.1 hown (by decide) hgrow)
  go_wp2_with (first
   | (at_builtin; refine wpList_append_own _ rfl (.tmp 58) (.tmp 60) 47 rfl w2.heap.size 46 i0 _ 4 40 Tryz.underlying47 hi hz0 hz1 hz2 rfl (by decide) _ _ _ rfl (World.ownsRow_nil _ _ _ _) ⟨w2.heap.size, 0, none⟩ 1 1 (newP name key).cells rfl rfl Hnew.out (cells_one _) (by unfold maxLen; omega) (by omega) HbB.out ?_; intro v1 w3 hown hgrow hnn; obtain ⟨g1, cap1, rfl, hg1, hg2, hcb3, hfz3, hb3⟩ := HA.out v1 w3 hown hgrow; have HO := hide hown; have HB3 := hide hb3; clear hown hgrow hnn hb3 HA)
   | (at_builtin; refine wpList_append_own_none rfl (.tmp 63) (.tmp 69) 47 rfl w2.heap.size 46 i0 4 Tryz.underlying47 hi _ _ _ rfl HO.out rfl ?_))
  go_ret
  exact ⟨rfl, close_add HB1.out HBb.out HK1.out.1 HB3.out hg1 HO.out rfl hBw rfl⟩
theorem cellsP_cut (L : List Per) (k : Nat) : cellsP L = cellsP (L.take k) ++ cellsP (L.drop k) := by rw [← cellsP_append, List.take_append_drop]
theorem cellsP_take (L : List Per) (k : Nat) (j : Nat) (u : Value) (h : (cellsP (L.take k))[j]? = some u) : (cellsP L)[j]? = some u := by
 obtain ⟨hj, _⟩ := List.getElem?_eq_some_iff.1 h
 rw [cellsP_cut L k, List.getElem?_append_left hj]
 exact h
theorem cellsP_drop (L : List Per) (k : Nat) (hk : k ≤ L.length) (j : Nat) (u : Value) (h : (cellsP (L.drop k))[j]? = some u) : (cellsP L)[k * 4 + j]? = some u := by
 have hl : (cellsP (L.take k)).length = k * 4 := by rw [cellsP_len, List.length_take]; omega
 rw [cellsP_cut L k, List.getElem?_append_right (by omega), hl, show k * 4 + j - k * 4 = j by omega]
 exact h
theorem own_cells {w : World} {base g cap : Nat} {L : List Per} (h : w.ownsRow base 46 4 (.slice (some ⟨g, 0, none⟩) L.length cap) L.length (cellsP L)) (j : Nat) (u : Value) (hu : (cellsP L)[j]? = some u) : w.cell? ⟨g, j, none⟩ = some u := by
 have := h.cells (g := g) rfl j u hu
 rwa [Go.WideShapes.add_plain, Nat.zero_add] at this
theorem after_any {w0 w w' : World} {B bb pb : Nat} {v v' old x0 x1 x2 x3 : Value} {n : Nat} {xs : List Value} (hb0 : Below B w0 w) (hB : B ≤ w.heap.size) (hv : ∀ k, v.ownBlock = some k → B ≤ k) (hbb : bb < B) (hpb : pb < B) (hw0 : w0.heap[bb]? = some (.cells #[old] 49 (0, 0))) (hp0 : w0.heap[pb]? = some (.cells #[x0, x1, x2, x3] 46 (0, 0)))
  (hown : w'.ownsRow B 46 4 v' n xs) (hgrow : w.grownBy w' v.ownBlock) :
  Below B w0 w' ∧ (∀ k, v'.ownBlock = some k → B ≤ k) ∧ w'.cell? ⟨bb, 0, none⟩ = some old ∧ w'.frozen? ⟨bb, 0, none⟩ = false ∧ w'.cell? ⟨pb, 0, none⟩ = some x0 ∧ w'.cell? ⟨pb, 1, none⟩ = some x1 ∧ w'.cell? ⟨pb, 2, none⟩ = some x2 ∧ w'.cell? ⟨pb, 3, none⟩ = some x3 ∧ B ≤ w'.heap.size := by
 have hb := hb0.grown hgrow hB hv
 have hrow : w'.heap[bb]? = some (.cells #[old] 49 (0, 0)) := by rw [hb.block bb hbb]; exact hw0
 have hprow : w'.heap[pb]? = some (.cells #[x0, x1, x2, x3] 46 (0, 0)) := by rw [hb.block pb hpb]; exact hp0
 exact ⟨hb, fun k hk => (hown.lt k hk).1, cell_of_row w' bb 0 _ _ _ hrow, frozen_of_row w' bb 0 _ _ hrow, cell_of_row w' pb 0 _ _ _ hprow, cell_of_row w' pb 1 _ _ _ hprow, cell_of_row w' pb 2 _ _ _ hprow, cell_of_row w' pb 3 _ _ _ hprow, Nat.le_trans hB hgrow.size⟩
theorem insert_cells (L : List Per) (p : Per) (k : Nat) (hk : placeP L p.name = k) : [] ++ cellsP (L.take k) ++ p.cells ++ cellsP (L.drop k) = cellsP (insertP L p) := by
 unfold insertP
 rw [hk, cellsP_append, List.nil_append, List.append_assoc]
 rfl
theorem insert_len (L : List Per) (p : Per) (n k : Nat) (hl : L.length = n) (hk : placeP L p.name = k) (hkn : k ≤ n) : k + 1 + (n - k) = (insertP L p).length := by
 unfold insertP
 rw [hk, List.length_append, List.length_take, List.length_cons, List.length_drop]
 omega
theorem own_block_lt {w : World} {base g cap : Nat} {L : List Per} (h : w.ownsRow base 46 4 (.slice (some ⟨g, 0, none⟩) L.length cap) L.length (cellsP L)) : g < w.heap.size := (h.lt g rfl).2
set_option maxRecDepth 100000 in
set_option maxHeartbeats 8000000 in
theorem refAdd_some {B : Nat} (bb g cap n : Nat) (L : List Per) (name : ByteArray) (key : Int) (w : World) (hBw : B ≤ w.heap.size) (h : RefBookB B w bb (.slice (some ⟨g, 0, none⟩) L.length cap) L) (hln : L.length = n) (h1 : 1 ≤ n) (hn : n < 20) (hs : name.size ≤ maxLen) (he : (newP name key).err = 0) (hf : findP L name = -1) :
  Calls Tryz.prog 83 #[.pointer (some ⟨bb, 0, none⟩), .string name, .int .i64 key] w fun e w' => e = .returned (.int .i64 0) ∧ ∃ v', RefBookB B w' bb v' (insertP L (newP name key)) ∧ (∀ g, v'.ownBlock = some g → w.heap.size ≤ g) ∧ Kept (fun k => k = bb) w w' := by
 obtain ⟨i0, hi, hz0, hz1, hz2⟩ := info_parts Tryz.infoPerson
 have HP := hide (fun w => refPerson_any (newP name key) w hs)
 rw [he] at HP
 have HP2 : Hid (∀ w, Calls Tryz.prog 129 #[.agg #[.string name, .int .i64 key, .int .i64 1, .bool false]] w fun e w' => e = .returned (.int .i64 0) ∧ Below w.heap.size w w') := HP.out
 have HF := hide (fun w h => refFind_any bb L name w h (by omega))
 rw [hf] at HF
 have HB0 : Hid (Below w.heap.size w (w.alloc (.cells #[.string name, .int .i64 key, .int .i64 1, .bool false] 46))) := (Below.refl _ _).alloc (Nat.le_refl _) _
 have HCp : Hid ((w.alloc (.cells #[.string name, .int .i64 key, .int .i64 1, .bool false] 46)).heap[w.heap.size]? = some (.cells #[.string name, .int .i64 key, .int .i64 1, .bool false] 46 (0, 0))) := heap_alloc_new _ _
 have HB := hide h
 have HBb := hide (row_lt h.1)
 have HLn := hide hln
 clear h he HP hln hf
 go_enter Tryz.func83, Tryz.ntmps83
 go_wp2_with fail
 refine (HP2.out _).mono ?_
 rintro e w1 ⟨rfl, hb⟩
 have HB1 : Hid (Below w.heap.size w w1) := HB0.out.trans (hb.mono HB0.out.size)
 have HK1 := hide (HB.out.below HB1.out)
 have HC1 : Hid (w1.heap[w.heap.size]? = some (.cells #[.string name, .int .i64 key, .int .i64 1, .bool false] 46 (0, 0))) := by show _ = _; rw [hb.block _ (by simp)]; exact HCp.out
 clear hb HCp HB0
 go_wp2_with fail
 refine (HF.out _ HK1.out.book).mono ?_
 rintro e w2 ⟨rfl, rfl⟩
 have hne : L ≠ [] := by intro e; have := HLn.out; rw [e] at this; simp at this; omega
 obtain ⟨g', cap', e', hcap, _, hcells⟩ := owned_at HK1.out.2 hne
 have hcap : n ≤ cap := by
  injection e' with _ _ e3
  have := HLn.out
  omega
 have HNm : Hid (∀ i (hi : i < L.length), w2.cell? ⟨g, i * 4, none⟩ = some (.string L[i].name)) := fun i hi => by
  injection e' with e1 _ _
  injection e1 with e1
  injection e1 with e1
  subst e1
  exact (hcells i hi).1
 have hcb : w2.cell? ⟨bb, 0, none⟩ = some (.slice (some ⟨g, 0, none⟩) n cap) := by rw [← HLn.out]; exact cell_of_row w2 bb 0 _ _ _ HK1.out.1
 have hrow2 : w2.heap[bb]? = some (.cells #[.slice (some ⟨g, 0, none⟩) n cap] 49 (0, 0)) := by rw [← HLn.out]; exact HK1.out.1
 have HR2 := hide hrow2
 have HPb : Hid (w.heap.size < w2.heap.size) := row_lt HC1.out
 have HBb2 : Hid (bb < w2.heap.size) := row_lt hrow2
 have hc0 : w2.cell? ⟨w.heap.size, 0, none⟩ = some (.string name) := cell_of_row w2 _ 0 _ _ _ HC1.out
 have hc1 : w2.cell? ⟨w.heap.size, 1, none⟩ = some (.int .i64 key) := cell_of_row w2 _ 1 _ _ _ HC1.out
 have hc2 : w2.cell? ⟨w.heap.size, 2, none⟩ = some (.int .i64 1) := cell_of_row w2 _ 2 _ _ _ HC1.out
 have hc3 : w2.cell? ⟨w.heap.size, 3, none⟩ = some (.bool false) := cell_of_row w2 _ 3 _ _ _ HC1.out
 clear e' hcells hne hrow2
 go_wp2
 go_loop [9] (fun i => ∃ k : Nat, k ≤ n ∧ i = .int .i64 k ∧ Hid (∀ j (hj : j < L.length), j < k → lessP name L[j] = true)) (fun i => n - (intOf i).toNat)
 case atStart => exact ⟨0, Nat.zero_le _, rfl, fun j _ hj => absurd hj (Nat.not_lt_zero _)⟩
 case round =>
  obtain ⟨k, hk, rfl, A⟩ := hrel
  by_cases hlt : k < n
  ·
   have hkl : k < L.length := by rw [HLn.out]; exact hlt
   have hnm := HNm.out k hkl
   cases hls : lessP name L[k] with
   | true =>
    have HLs := hide hls
    have hq : Op.bytesLess L[k].name.toList name.toList = true := hls
    clear hls
    generalize L[k].name = y at hnm hq
    go_wp2
    go_round
    case rel =>
     refine ⟨k + 1, by omega, by go_num, (show Hid _ from fun j hj hjk => ?_)⟩
     by_cases e : j = k
     ·
      subst e; exact HLs.out
     ·
      exact A.out j hj (by omega)
    case measure => simp [intOf]; omega
   | false =>
    have HPl := hide (place_eq L name k (by omega) A.out (fun _ => hls))
    have hq : Op.bytesLess L[k].name.toList name.toList = false := hls
    clear hls
    generalize L[k].name = y at hnm hq
    have Hnew1 : Hid (∀ j u, (cellsP (L.take k))[j]? = some u → w2.cell? ((⟨g, 0, none⟩ : Addr).add j) = some u) := fun j u hj => by
     rw [Go.WideShapes.add_plain, Nat.zero_add]
     exact own_cells HK1.out.2 j u (cellsP_take L k j u hj)
    have Hl1 : Hid ((cellsP (L.take k)).length = k * 4) := by show _ = _; rw [cellsP_len, List.length_take, HLn.out]; omega
    have HA1 := hide (fun (v1 : Value) (w3 : World) hown hgrow => after_any (w0 := w2) (w := w2) (w' := w3) (B := w2.heap.size) (bb := bb) (pb := w.heap.size) (v := .slice none 0 0) (v' := v1) (n := 0 + k) (xs := [] ++ cellsP (L.take k)) (Below.refl _ _) (Nat.le_refl _) (fun k hk => by cases hk) HBb2.out HPb.out HR2.out HC1.out hown hgrow)
    have HA2 := hide (fun (v1 : Value) (w3 : World) (v2 : Value) (w4 : World) (hb3 : Below w2.heap.size w2 w3) hv1 hown hgrow => after_any (w0 := w2) (w := w3.alloc (.cells #[.string name, .int .i64 key, .int .i64 1, .bool false] 46)) (w' := w4) (B := w2.heap.size) (bb := bb) (pb := w.heap.size) (v := v1) (v' := v2) (n := 0 + k + 1) (xs := [] ++ cellsP (L.take k) ++ (newP name key).cells) (hb3.alloc hb3.size _) (Nat.le_trans hb3.size (by simp)) hv1 HBb2.out HPb.out HR2.out HC1.out hown hgrow)
    have Hnew3 : Hid (∀ w4, Below w2.heap.size w2 w4 → ∀ j u, (cellsP (L.drop k))[j]? = some u → w4.cell? ((⟨g, k * 4, none⟩ : Addr).add j) = some u) := fun w4 hb j u hj => by
     rw [Go.WideShapes.add_plain, hb.cell (p := ⟨g, k * 4 + j, none⟩) (own_block_lt HK1.out.2)]
     exact own_cells HK1.out.2 _ u (cellsP_drop L k (by rw [HLn.out]; omega) j u hj)
    have Hl3 : Hid ((cellsP (L.drop k)).length = (n - k) * 4) := by show _ = _; rw [cellsP_len, List.length_drop, HLn.out]
    have HA3 := hide (fun (v2 : Value) (w4 : World) (v3 : Value) (w5 : World) (hb4 : Below w2.heap.size w2 w4) hv2 hown hgrow => after_append (w0 := w2) (w := w4) (w' := w5) (B := w2.heap.size) (bb := bb) (v := v2) (v' := v3) (n := 0 + k + 1 + (n - k)) (xs := [] ++ cellsP (L.take k) ++ (newP name key).cells ++ cellsP (L.drop k)) hb4 hb4.size hv2 HBb2.out HR2.out hown (by omega) hgrow)
    clear hc0 hc1 hc2 hc3
    go_wp2_with (first
     | (at_builtin; refine wpList_append_own _ rfl (.tmp 50) (.tmp 56) 47 rfl w2.heap.size 46 i0 _ 4 40 Tryz.underlying47 hi hz0 hz1 hz2 rfl (by decide) _ _ _ rfl (World.ownsRow_nil _ _ _ _) ⟨g, 0, none⟩ k cap (cellsP (L.take k)) rfl Hl1.out Hnew1.out (cellsP_one _) (by unfold maxLen; omega) (by omega) (Nat.le_refl _) ?_; intro v1 w3 hown hgrow hnn; obtain ⟨hb3, hv1, hcb3, hfz3, hd0, hd1, hd2, hd3, hsz3⟩ := HA1.out v1 w3 hown hgrow; have HO1 := hide hown; have HB3 := hide hb3; have HV1 := hide hv1; clear hown hgrow hnn hb3 hv1 HA1)
     | (at_builtin; refine wpList_append_own _ rfl (.tmp 58) (.tmp 60) 47 rfl w2.heap.size 46 i0 _ 4 40 Tryz.underlying47 hi hz0 hz1 hz2 rfl (by decide) _ _ _ rfl (HO1.out.alloc _) ⟨w3.heap.size, 0, none⟩ 1 1 (newP name key).cells rfl rfl (new_cells w3 (newP name key)) (cells_one _) (by unfold maxLen; omega) (by omega) (Nat.le_trans HB3.out.size (by simp)) ?_; intro v2 w4 hown hgrow hnn; obtain ⟨hb4, hv2, hcb4, hfz4, he0, he1, he2, he3, hsz4⟩ := HA2.out v1 w3 v2 w4 HB3.out HV1.out hown hgrow; have HO2 := hide hown; have HB4 := hide hb4; have HV2 := hide hv2; clear hown hgrow hnn hb4 hv2 HA2 he0 he1 he2 he3)
     | (at_builtin; refine wpList_append_own _ rfl (.tmp 63) (.tmp 69) 47 rfl w2.heap.size 46 i0 _ 4 40 Tryz.underlying47 hi hz0 hz1 hz2 rfl (by decide) _ _ _ rfl HO2.out ⟨g, k * 4, none⟩ (n - k) (cap - k) (cellsP (L.drop k)) rfl Hl3.out (Hnew3.out _ HB4.out) (cellsP_one _) (by unfold maxLen; omega) (by omega) HB4.out.size ?_; intro v3 w5 hown hgrow hnn; obtain ⟨g3, cap3, rfl, hg3, hg4, hcb5, hfz5, hb5⟩ := HA3.out v2 w4 v3 w5 HB4.out HV2.out hown hgrow; rw [Nat.zero_add] at hown; have HO3 := hide hown; have HB5 := hide hb5; clear hown hgrow hnn hb5 HA3))
    go_ret
    exact ⟨rfl, close_add HB1.out HBb.out HR2.out HB5.out hg3 HO3.out (insert_len L (newP name key) n k HLn.out HPl.out (by omega)) hBw (insert_cells L (newP name key) k HPl.out)⟩
  ·
   obtain rfl : k = n := by omega
   have HPl := hide (place_eq L name k (by rw [HLn.out]; exact Nat.le_refl _) A.out (fun hk => absurd hk (by rw [HLn.out]; exact hlt)))
   have Hnew1 : Hid (∀ j u, (cellsP (L.take k))[j]? = some u → w2.cell? ((⟨g, 0, none⟩ : Addr).add j) = some u) := fun j u hj => by
    rw [Go.WideShapes.add_plain, Nat.zero_add]
    exact own_cells HK1.out.2 j u (cellsP_take L k j u hj)
   have Hl1 : Hid ((cellsP (L.take k)).length = k * 4) := by show _ = _; rw [cellsP_len, List.length_take, HLn.out]; omega
   have HA1 := hide (fun (v1 : Value) (w3 : World) hown hgrow => after_any (w0 := w2) (w := w2) (w' := w3) (B := w2.heap.size) (bb := bb) (pb := w.heap.size) (v := .slice none 0 0) (v' := v1) (n := 0 + k) (xs := [] ++ cellsP (L.take k)) (Below.refl _ _) (Nat.le_refl _) (fun k hk => by cases hk) HBb2.out HPb.out HR2.out HC1.out hown hgrow)
   have HA2 := hide (fun (v1 : Value) (w3 : World) (v2 : Value) (w4 : World) (hb3 : Below w2.heap.size w2 w3) hv1 hown hgrow => after_any (w0 := w2) (w := w3.alloc (.cells #[.string name, .int .i64 key, .int .i64 1, .bool false] 46)) (w' := w4) (B := w2.heap.size) (bb := bb) (pb := w.heap.size) (v := v1) (v' := v2) (n := 0 + k + 1) (xs := [] ++ cellsP (L.take k) ++ (newP name key).cells) (hb3.alloc hb3.size _) (Nat.le_trans hb3.size (by simp)) hv1 HBb2.out HPb.out HR2.out HC1.out hown hgrow)
   have HA3 := hide (fun (v2 : Value) (w4 : World) (v3 : Value) (w5 : World) (hb4 : Below w2.heap.size w2 w4) hv2 hown hgrow => after_append (w0 := w2) (w := w4) (w' := w5) (B := w2.heap.size) (bb := bb) (v := v2) (v' := v3) (n := 0 + k + 1 + 0) (xs := [] ++ cellsP (L.take k) ++ (newP name key).cells ++ []) hb4 hb4.size hv2 HBb2.out HR2.out hown (by omega) hgrow)
   clear hc0 hc1 hc2 hc3
   rcases Nat.eq_or_lt_of_le hcap with hck | hck
   ·
    subst hck
    go_wp2_with (first
     | (at_builtin; refine wpList_append_own _ rfl (.tmp 50) (.tmp 56) 47 rfl w2.heap.size 46 i0 _ 4 40 Tryz.underlying47 hi hz0 hz1 hz2 rfl (by decide) _ _ _ rfl (World.ownsRow_nil _ _ _ _) ⟨g, 0, none⟩ k _ (cellsP (L.take k)) rfl Hl1.out Hnew1.out (cellsP_one _) (by unfold maxLen; omega) (by omega) (Nat.le_refl _) ?_; intro v1 w3 hown hgrow hnn; obtain ⟨hb3, hv1, hcb3, hfz3, hd0, hd1, hd2, hd3, hsz3⟩ := HA1.out v1 w3 hown hgrow; have HO1 := hide hown; have HB3 := hide hb3; have HV1 := hide hv1; clear hown hgrow hnn hb3 hv1 HA1)
     | (at_builtin; refine wpList_append_own _ rfl (.tmp 58) (.tmp 60) 47 rfl w2.heap.size 46 i0 _ 4 40 Tryz.underlying47 hi hz0 hz1 hz2 rfl (by decide) _ _ _ rfl (HO1.out.alloc _) ⟨w3.heap.size, 0, none⟩ 1 1 (newP name key).cells rfl rfl (new_cells w3 (newP name key)) (cells_one _) (by unfold maxLen; omega) (by omega) (Nat.le_trans HB3.out.size (by simp)) ?_; intro v2 w4 hown hgrow hnn; obtain ⟨hb4, hv2, hcb4, hfz4, he0, he1, he2, he3, hsz4⟩ := HA2.out v1 w3 v2 w4 HB3.out HV1.out hown hgrow; have HO2 := hide hown; have HB4 := hide hb4; have HV2 := hide hv2; clear hown hgrow hnn hb4 hv2 HA2 he0 he1 he2 he3)
     | (at_builtin; refine wpList_append_own _ rfl (.tmp 63) (.tmp 69) 47 rfl w2.heap.size 46 i0 _ 4 40 Tryz.underlying47 hi hz0 hz1 hz2 rfl (by decide) _ _ _ rfl HO2.out _ 0 _ [] rfl rfl (fun j u hj => by simp at hj) (by simp) (by unfold maxLen; omega) (by omega) HB4.out.size ?_; intro v3 w5 hown hgrow hnn; obtain ⟨g3, cap3, rfl, hg3, hg4, hcb5, hfz5, hb5⟩ := HA3.out v2 w4 v3 w5 HB4.out HV2.out hown hgrow; rw [Nat.zero_add, Nat.add_zero] at hown; have HO3 := hide hown; have HB5 := hide hb5; clear hown hgrow hnn hb5 HA3))
    go_ret
    exact ⟨rfl, close_add HB1.out HBb.out HR2.out HB5.out hg3 HO3.out (by have := insert_len L (newP name key) k k HLn.out HPl.out (Nat.le_refl _); omega) hBw (by rw [← insert_cells L (newP name key) k HPl.out, List.drop_of_length_le (Nat.le_of_eq HLn.out)]; rfl)⟩
   ·
    have hcn : ¬ cap = k := by omega
    go_wp2_with (first
     | (at_builtin; refine wpList_append_own _ rfl (.tmp 50) (.tmp 56) 47 rfl w2.heap.size 46 i0 _ 4 40 Tryz.underlying47 hi hz0 hz1 hz2 rfl (by decide) _ _ _ rfl (World.ownsRow_nil _ _ _ _) ⟨g, 0, none⟩ k _ (cellsP (L.take k)) rfl Hl1.out Hnew1.out (cellsP_one _) (by unfold maxLen; omega) (by omega) (Nat.le_refl _) ?_; intro v1 w3 hown hgrow hnn; obtain ⟨hb3, hv1, hcb3, hfz3, hd0, hd1, hd2, hd3, hsz3⟩ := HA1.out v1 w3 hown hgrow; have HO1 := hide hown; have HB3 := hide hb3; have HV1 := hide hv1; clear hown hgrow hnn hb3 hv1 HA1)
     | (at_builtin; refine wpList_append_own _ rfl (.tmp 58) (.tmp 60) 47 rfl w2.heap.size 46 i0 _ 4 40 Tryz.underlying47 hi hz0 hz1 hz2 rfl (by decide) _ _ _ rfl (HO1.out.alloc _) ⟨w3.heap.size, 0, none⟩ 1 1 (newP name key).cells rfl rfl (new_cells w3 (newP name key)) (cells_one _) (by unfold maxLen; omega) (by omega) (Nat.le_trans HB3.out.size (by simp)) ?_; intro v2 w4 hown hgrow hnn; obtain ⟨hb4, hv2, hcb4, hfz4, he0, he1, he2, he3, hsz4⟩ := HA2.out v1 w3 v2 w4 HB3.out HV1.out hown hgrow; have HO2 := hide hown; have HB4 := hide hb4; have HV2 := hide hv2; clear hown hgrow hnn hb4 hv2 HA2 he0 he1 he2 he3)
     | (at_builtin; refine wpList_append_own _ rfl (.tmp 63) (.tmp 69) 47 rfl w2.heap.size 46 i0 _ 4 40 Tryz.underlying47 hi hz0 hz1 hz2 rfl (by decide) _ _ _ rfl HO2.out _ 0 _ [] rfl rfl (fun j u hj => by simp at hj) (by simp) (by unfold maxLen; omega) (by omega) HB4.out.size ?_; intro v3 w5 hown hgrow hnn; obtain ⟨g3, cap3, rfl, hg3, hg4, hcb5, hfz5, hb5⟩ := HA3.out v2 w4 v3 w5 HB4.out HV2.out hown hgrow; rw [Nat.zero_add, Nat.add_zero] at hown; have HO3 := hide hown; have HB5 := hide hb5; clear hown hgrow hnn hb5 HA3))
    go_ret
    exact ⟨rfl, close_add HB1.out HBb.out HR2.out HB5.out hg3 HO3.out (by have := insert_len L (newP name key) k k HLn.out HPl.out (Nat.le_refl _); omega) hBw (by rw [← insert_cells L (newP name key) k HPl.out, List.drop_of_length_le (Nat.le_of_eq HLn.out)]; rfl)⟩
end Go.Proofs.YtabpnjchocgakaaGreatDoor

namespace Go.Proofs.YtabpnjchocgakaaGreatDoor
open Go.RowKit Go.Extern.Stop Go.Stop Go.Extern Go.Maps
theorem insert_ins (p : Per) : ∀ L : List Per, Rising L → (∀ q ∈ L, q.name ≠ p.name) → insertP L p = insL p L
 | [], _, _ => rfl
 | q :: r, h, hne => by
  obtain ⟨h1, h2⟩ := List.pairwise_cons.1 h
  have hl : lessP p.name q = decide (q.nm < p.nm) := by
   unfold lessP Per.nm
   rw [bytesLess_eq, Lib.toList_data, Lib.toList_data]
  have ih := insert_ins p r h2 (fun x hx => hne x (by simp [hx]))
  unfold insL
  by_cases hlt : p.nm < q.nm
  ·
   rw [if_pos hlt]
   have : lessP p.name q = false := by rw [hl]; exact decide_eq_false fun e => List.lt_irrefl _ (List.lt_trans e hlt)
   unfold insertP placeP
   rw [List.takeWhile_cons_of_neg (by simpa using this)]
   rfl
  ·
   rw [if_neg hlt]
   have hqp : q.nm < p.nm := by
    refine Decidable.byContradiction fun g => hne q (by simp) (name_eq ?_)
    exact List.le_antisymm (List.not_lt.1 hlt) (List.not_lt.1 g)
   have : lessP p.name q = true := by rw [hl]; exact decide_eq_true hqp
   rw [← ih]
   unfold insertP placeP
   rw [List.takeWhile_cons_of_pos (by simpa using this), List.length_cons, List.take_succ_cons, List.drop_succ_cons]
   rfl
theorem insert_ne (L : List Per) (p : Per) : insertP L p ≠ [] := by unfold insertP; simp
theorem insert_put {L : List Per} {p : Per} (h : Rising L) (hn : getP L p.name = none) : insertP L p = putP L p := by
 rw [putP_new (getP_none hn), insert_ins p L h (getP_none hn)]
theorem Kept.mono {S S' : Nat → Prop} {w w' : World} (h : Kept S w w') (hs : ∀ k, S k → S' k) : Kept S' w w' := ⟨h.os, h.tape, h.output, h.size, fun k hk hn => h.block k hk (fun e => hn (hs k e))⟩
def RefPostB (B : Nat) (w : World) (bb : Nat) (v : Value) (L' : List Per) (w' : World) : Prop := ∃ v', RefBookB B w' bb v' L' ∧ (L' = [] → v' = .slice none 0 0) ∧ Kept (fun k => k = bb ∨ v.ownBlock = some k) w w' ∧ ∀ g, v'.ownBlock = some g → v.ownBlock = some g ∨ w.heap.size ≤ g
theorem find_of_get {L : List Per} {name : ByteArray} (h : getP L name = none) : findP L name = -1 := by unfold findP; rw [getP_no_idx h]
theorem find_of_some {L : List Per} {name : ByteArray} {p : Per} (h : getP L name = some p) : ∃ k : Nat, ∃ hk : k < L.length, L[k] = p ∧ findP L name = k := by
 obtain ⟨k, hk, e, hi⟩ := getP_idx h
 exact ⟨k, hk, e, by unfold findP; rw [hi]⟩
theorem Good.epoch {L : List Per} (h : Good L) (i : Nat) (hi : i < L.length) : 1 ≤ L[i].epoch := (err_zero.1 (h.fine _ (List.getElem_mem hi))).2.2.1
theorem refAdd_p {B : Nat} (bb : Nat) (v : Value) (L : List Per) (name : ByteArray) (key : Int) (w : World) (hBw : B ≤ w.heap.size) (h : RefBookB B w bb v L) (hv : L = [] → v = .slice none 0 0) (hg : Good L) (hs : name.size ≤ maxLen) :
  Calls Tryz.prog 83 #[.pointer (some ⟨bb, 0, none⟩), .string name, .int .i64 key] w fun e w' => e = .returned (.int .i64 ((addP L name key).1 : Int)) ∧ RefPostB B w bb v (addP L name key).2 w' := by
 have hn : L.length ≤ 1000 := Nat.le_trans hg.few (by decide)
 by_cases he : (newP name key).err = 0
 ·
  cases hgp : getP L name with
  | some p =>
   obtain ⟨k, hk, _, hf⟩ := find_of_some hgp
   rw [add_is he hgp]
   exact (refAdd_no bb v L name key w h hn hs he 6 (Or.inl ⟨by rw [hf]; omega, rfl⟩)).mono fun _ _ ⟨h1, h2, h3⟩ => ⟨h1, v, h2, hv, Kept.of_below _ h3, fun _ e => Or.inl e⟩
  | none =>
   have hf := find_of_get hgp
   by_cases h20 : 20 ≤ L.length
   ·
    rw [add_full he hgp h20]
    exact (refAdd_no bb v L name key w h hn hs he 7 (Or.inr ⟨by rw [hf]; decide, h20, rfl⟩)).mono fun _ _ ⟨h1, h2, h3⟩ => ⟨h1, v, h2, hv, Kept.of_below _ h3, fun _ e => Or.inl e⟩
   ·
    rw [add_ok he hgp h20, ← insert_put hg.rise (p := newP name key) hgp]
    cases L with
    | nil =>
     obtain rfl := hv rfl
     exact (refAdd_first bb name key w hBw h hs he).mono fun _ _ ⟨h1, v', h2, h4, h3⟩ => ⟨h1, v', h2, (fun e => absurd e (insert_ne _ _)), h3.mono (fun _ e => Or.inl e), fun g e => Or.inr (h4 g e)⟩
    | cons q r =>
     rcases h.2.2 with ⟨_, h0⟩ | ⟨g, cap, cur, rfl, _⟩
     ·
      cases h0
     ·
      exact (refAdd_some bb g cap _ (q :: r) name key w hBw h rfl (by simp) (by omega) hs he hf).mono fun _ _ ⟨h1, v', h2, h4, h3⟩ => ⟨h1, v', h2, (fun e => absurd e (insert_ne _ _)), h3.mono (fun _ e => Or.inl e), fun g e => Or.inr (h4 g e)⟩
 ·
  rw [add_err he]
  exact (refAdd_err bb v L name key w h hs he).mono fun _ _ ⟨h1, h2, h3⟩ => ⟨h1, v, h2, hv, Kept.of_below _ h3, fun _ e => Or.inl e⟩
theorem nil_of_len {L L' : List Per} {v : Value} (hl : L'.length = L.length) (hv : L = [] → v = .slice none 0 0) : L' = [] → v = .slice none 0 0 := fun e => by
 subst e
 exact hv (List.eq_nil_of_length_eq_zero hl.symm)
theorem raise_len (L : List Per) (name : ByteArray) : (raiseP L name).2.2.length = L.length := by
 unfold raiseP
 split
 ·
  rfl
 ·
  split
  ·
   rfl
  ·
   split
   ·
    rfl
   ·
    simp
theorem rekey_len (L : List Per) (name : ByteArray) (key : Int) : (rekeyP L name key).2.length = L.length := by
 unfold rekeyP
 split
 ·
  rfl
 ·
  split
  ·
   rfl
  ·
   split
   ·
    split
    ·
     rfl
    ·
     split
     ·
      rfl
     ·
      simp
   ·
    rfl
theorem refRaise_p {B : Nat} (bb : Nat) (v : Value) (L : List Per) (name : ByteArray) (w : World) (h : RefBookB B w bb v L) (hv : L = [] → v = .slice none 0 0) (hg : Good L) :
  Calls Tryz.prog 90 #[.pointer (some ⟨bb, 0, none⟩), .string name] w fun e w' => e = .returned (.tuple #[.int .i64 (raiseP L name).1, .int .i64 ((raiseP L name).2.1 : Int)]) ∧ RefPostB B w bb v (raiseP L name).2.2 w' :=
 (refRaiseB_any bb v L name w h (Nat.le_trans hg.few (by decide)) hg.epoch).mono fun _ _ ⟨h1, h2, h3⟩ => ⟨h1, v, h2, nil_of_len (raise_len L name) hv, h3.mono (fun _ e => Or.inr e), fun _ e => Or.inl e⟩
theorem refRekey_p {B : Nat} (bb : Nat) (v : Value) (L : List Per) (name : ByteArray) (key : Int) (w : World) (h : RefBookB B w bb v L) (hv : L = [] → v = .slice none 0 0) (hg : Good L) :
  Calls Tryz.prog 94 #[.pointer (some ⟨bb, 0, none⟩), .string name, .int .i64 key] w fun e w' => e = .returned (.int .i64 ((rekeyP L name key).1 : Int)) ∧ RefPostB B w bb v (rekeyP L name key).2 w' :=
 (refRekey_any bb v L name key w h (Nat.le_trans hg.few (by decide)) hg.epoch).mono fun _ _ ⟨h1, h2, h3⟩ => ⟨h1, v, h2, nil_of_len (rekey_len L name key) hv, h3.mono (fun _ e => Or.inr e), fun _ e => Or.inl e⟩
end Go.Proofs.YtabpnjchocgakaaGreatDoor

namespace Go.Proofs.YtabpnjchocgakaaGreatDoor
open Go.RowKit Go.Extern.Stop Go.Stop Go.Extern
def numI (l : List UInt8) (most : Int) : Int := if numB l most = true then (Sl.valL l : Int) else -1
theorem numI_no (l : List UInt8) (most : Int) (h : numB l most = false) : numI l most = -1 := by unfold numI; rw [h]; rfl
theorem numB_len (l : List UInt8) (most : Int) (h : ¬ (1 ≤ l.length ∧ l.length ≤ 10)) : numB l most = false := by
 unfold numB Sl.numOk Sl.madeL
 rw [decide_eq_false h]
 rfl
theorem numB_dig (s : ByteArray) (most : Int) (k : Nat) (hk : k < s.size) (h : Sl.digB s[k] = false) : numB s.data.toList most = false := by
 unfold numB Sl.numOk Sl.madeL
 rw [all_no Sl.digB s k hk h, Bool.and_false]
 rfl
set_option maxRecDepth 100000 in
set_option maxHeartbeats 1000000 in
theorem refNumber_loop (s : ByteArray) (most : Int) (w : World) (h1 : 1 ≤ s.size) (h10 : s.size ≤ 10) (hz : s.size = 1 ∨ (1 < s.size ∧ ((s[0].toNat : Int) == 48) = false)) :
  Calls Tryz.prog 177 #[.string s, .int .i64 most] w fun e w' => e = .returned (.int .i64 (numI s.data.toList most)) ∧ w' = w := by
 have el := size_list s
 have Hz := hide hz
 rcases hz with hz | ⟨hz1, hz2⟩
 all_goals
  go_enter Tryz.func177, Tryz.ntmps177
  go_wp2
  go_loop [5, 6] (fun n i => ∃ k : Nat, k ≤ s.size ∧ i = .int .i64 k ∧ n = .int .i64 (Sl.valF 0 (s.data.toList.take k) : Nat) ∧ Hid (∀ j (hj : j < s.size), j < k → Sl.digB s[j] = true)) (fun _ i => s.size - (intOf i).toNat)
  case atStart => exact ⟨0, Nat.zero_le _, rfl, rfl, fun j _ hj => absurd hj (Nat.not_lt_zero _)⟩
  case round =>
   obtain ⟨k, hk, rfl, rfl, A⟩ := hrel
   by_cases hlt : k < s.size
   ·
    have hb0 : (0 : Int) ≤ (s[k].toNat : Int) := by omega
    have hb1 : (s[k].toNat : Int) ≤ 255 := by have := s[k].toNat_lt; omega
    by_cases hd : Sl.digB s[k] = true
    ·
     have hd2 : 48 ≤ s[k].toNat ∧ s[k].toNat ≤ 57 := by simpa [Sl.digB] using hd
     have HD := hide hd
     have hvl : Sl.valF 0 (s.data.toList.take k) < 10000000000 := by
      refine Sl.valL_lt _ ?_ (by rw [List.length_take]; omega)
      rw [List.all_eq_true]
      intro x hx
      obtain ⟨j, hj, rfl⟩ := List.getElem_of_mem hx
      rw [List.length_take, el] at hj
      rw [List.getElem_take]
      exact A.out j (by omega) (by omega)
     have HV : Hid ((Sl.valF 0 (s.data.toList.take (k + 1)) : Int) = 10 * (Sl.valF 0 (s.data.toList.take k) : Int) + ((s[k].toNat : Int) - 48)) := by
      show _ = _
      rw [take_snoc s k hlt, Sl.valF_snoc]
      omega
     obtain ⟨hd3, hd4⟩ := hd2
     have hd5 : (48 : Int) ≤ (s[k].toNat : Int) := by omega
     have hd6 : (s[k].toNat : Int) ≤ 57 := by omega
     have hv0 : (0 : Int) ≤ (Sl.valF 0 (s.data.toList.take k) : Int) := by omega
     have hv1 : (Sl.valF 0 (s.data.toList.take k) : Int) < 10000000000 := by omega
     clear hd hvl hd3 hd4
     generalize (Sl.valF 0 (s.data.toList.take k) : Int) = v at *
     go_wp2
     go_round
     case rel =>
      refine ⟨k + 1, by omega, by go_num, by rw [HV.out], (show Hid _ from fun j hj hjk => ?_)⟩
      by_cases e : j = k
      ·
       subst e; exact HD.out
      ·
       exact A.out j hj (by omega)
     case measure => simp [intOf]; omega
    ·
     have hdf : Sl.digB s[k] = false := by simpa using hd
     have HR := hide (numI_no _ _ (numB_dig s most k hlt hdf))
     have hd2 : (s[k].toNat : Int) < 48 ∨ (48 ≤ (s[k].toNat : Int) ∧ 57 < (s[k].toNat : Int)) := by
      unfold Sl.digB at hdf
      rw [decide_eq_false_iff_not] at hdf
      omega
     clear hd hdf
     rcases hd2 with g | ⟨g1, g2⟩
     ·
      go_wp2
      go_ret
      exact ⟨by rw [HR.out]; rfl, rfl⟩
     ·
      go_wp2
      go_ret
      exact ⟨by rw [HR.out]; rfl, rfl⟩
   ·
    have htake : s.data.toList.take k = s.data.toList := List.take_of_length_le (by rw [el]; omega)
    have hall : s.data.toList.all Sl.digB = true := all_at Sl.digB s (fun j hj => A.out j hj (by omega))
    have hok : Sl.numOk s.data.toList = true := by
     rw [Sl.numOk_iff]
     refine ⟨by omega, hall, fun h => ?_⟩
     rcases Hz.out with g | ⟨_, g⟩
     ·
      omega
     ·
      rw [head_at s (by omega)]
      intro e
      rw [beq_eq_false_iff_ne] at g
      apply g
      rw [Option.some.inj e]
      decide
    have HR : Hid (numI s.data.toList most = if (Sl.valF 0 (s.data.toList.take k) : Int) ≤ most then (Sl.valF 0 (s.data.toList.take k) : Int) else -1) := by
     show _ = _
     rw [htake]
     unfold numI numB
     rw [hok]
     simp only [Bool.true_and, decide_eq_true_eq]
     rfl
    clear htake hall hok
    generalize (Sl.valF 0 (s.data.toList.take k) : Int) = v at *
    by_cases hm : v ≤ most
    ·
     rw [if_pos hm] at HR
     go_wp2
     go_ret
     exact ⟨by rw [HR.out]; rfl, rfl⟩
    ·
     rw [if_neg hm] at HR
     go_wp2
     go_ret
     exact ⟨by rw [HR.out]; rfl, rfl⟩
theorem refNumber_any (s : ByteArray) (most : Int) (w : World) (hs : s.size ≤ maxLen) :
  Calls Tryz.prog 177 #[.string s, .int .i64 most] w fun e w' => e = .returned (.int .i64 (numI s.data.toList most)) ∧ w' = w := by
 have el := size_list s
 by_cases h1 : 1 ≤ s.size
 ·
  by_cases h10 : s.size ≤ 10
  ·
   by_cases hz : 1 < s.size ∧ s[0] = 48
   ·
    have hb : numB s.data.toList most = false := by
     have : s.data.toList.head? = some 48 := by rw [head_at s (by omega), hz.2]
     simp [numB, Sl.numOk, this, el, hz.1]
    have HR := hide (numI_no _ _ hb)
    obtain ⟨hz1, hz2⟩ := hz
    have hz3 : ((s[0].toNat : Int) == 48) = true := by rw [hz2]; decide
    clear hb hz2 hs el
    go_enter Tryz.func177, Tryz.ntmps177
    go_wp2
    go_ret
    exact ⟨by rw [HR.out]; rfl, rfl⟩
   ·
    refine refNumber_loop s most w h1 h10 ?_
    by_cases g : s.size = 1
    ·
     exact Or.inl g
    ·
     refine Or.inr ⟨by omega, ?_⟩
     rw [beq_eq_false_iff_ne]
     intro e
     refine hz ⟨by omega, UInt8.toNat_inj.1 ?_⟩
     have : (48 : UInt8).toNat = 48 := by decide
     omega
  ·
   have HR := hide (numI_no _ _ (numB_len s.data.toList most (by rw [el]; omega)))
   unfold maxLen at hs
   go_enter Tryz.func177, Tryz.ntmps177
   go_wp2
   go_ret
   exact ⟨by rw [HR.out]; rfl, rfl⟩
 ·
  have HR := hide (numI_no _ _ (numB_len s.data.toList most (by rw [el]; omega)))
  go_enter Tryz.func177, Tryz.ntmps177
  go_wp2
  go_ret
  exact ⟨by rw [HR.out]; rfl, rfl⟩
/-! ### Digits -/
theorem refByte_any (u : Nat) (hu : u < 256) (w : World) :
  Calls Tryz.prog 122 #[.int .i64 u] w fun e w' => e = .returned (.string (Sl.ofL [UInt8.ofNat u])) ∧ Below w.heap.size w w' := by
 have hn : (UInt8.ofNat u).toNat = u := by rw [UInt8.toNat_ofNat']; omega
 have hback := string_of [UInt8.ofNat u] 1 w.heap.size 1 (w.alloc (.cells #[.int .u8 u] 5)) rfl (fun j hj => by
  have : j = 0 := by simpa using hj
  subst this
  simp [hn])
 have h0 : (0 : Int) ≤ (u : Int) := by omega
 have h1 : (u : Int) ≤ 255 := by omega
 have HB : Hid (Below w.heap.size w (w.alloc (.cells #[.int .u8 u] 5))) := (Below.refl _ _).alloc (Nat.le_refl _) _
 rw [show (⟨[UInt8.ofNat u].toArray⟩ : ByteArray) = Sl.ofL [UInt8.ofNat u] from rfl] at hback
 generalize Sl.ofL [UInt8.ofNat u] = r at *
 generalize (u : Int) = z at *
 clear hn
 go_enter Tryz.func122, Tryz.ntmps122
 go_wp2
 go_ret
 exact ⟨rfl, HB.out⟩
theorem dec_size (u : Nat) (hu : u < 10000000000) : (Sl.ofL (Lib.decDigits u)).size ≤ 10 := by
 rw [Sl.ofL_size]
 exact ((Sl.numOk_iff _).1 (Sl.dec_ok u hu)).1.2
set_option maxRecDepth 100000 in
set_option maxHeartbeats 1000000 in
theorem refBelow_any : ∀ (u : Nat), u ≤ 1073741824 → ∀ (w : World),
  Calls Tryz.prog 76 #[.int .i64 (-(u : Int))] w fun e w' => e = .returned (.string (Sl.ofL (Lib.decDigits u))) ∧ Below w.heap.size w w' := by
 intro u
 induction u using Nat.strongRecOn with
 | _ u ih =>
  intro hu w
  by_cases h : u < 10
  ·
   have HB := hide (refByte_any (48 + u) (by omega) w)
   rw [Lib.decDigits_one h]
   have hz : -10 < -(u : Int) := by omega
   have hz0 : -(u : Int) ≤ 0 := by omega
   have he : (48 : Int) - -(u : Int) = ((48 + u : Nat) : Int) := by omega
   generalize Sl.ofL [UInt8.ofNat (48 + u)] = r at *
   generalize ((48 + u : Nat) : Int) = b at *
   generalize -(u : Int) = z at *
   clear ih
   go_enter Tryz.func76, Tryz.ntmps76
   go_wp2_with fail
   refine HB.out.mono ?_
   rintro e w1 ⟨rfl, hb⟩
   go_wp2
   go_ret
   exact ⟨rfl, hb⟩
  ·
   have HI := hide (fun w => ih (u / 10) (by omega) (by omega) w)
   have HB := hide (fun w => refByte_any (48 + u % 10) (by omega) w)
   have hdec : Sl.ofL (Lib.decDigits u) = Sl.ofL (Lib.decDigits (u / 10)) ++ Sl.ofL [UInt8.ofNat (48 + u % 10)] := by
    refine Sl.ba_ext ?_
    rw [ba_toList, Sl.toL_ofL, Sl.toL_ofL, Sl.toL_ofL]
    conv => lhs; rw [Lib.decDigits]
    rw [dif_neg h]
   have hz : ¬ -10 < -(u : Int) := by omega
   have hz2 : -1073741824 ≤ -(u : Int) := by omega
   have hz3 : -(u : Int) ≤ 0 := by omega
   have hq : (-(u : Int)).tdiv 10 = -((u / 10 : Nat) : Int) := by rw [Int.neg_tdiv]; rfl
   have hr : (-(u : Int)).tmod 10 = -((u % 10 : Nat) : Int) := by rw [Int.neg_tmod]; rfl
   have he : (48 : Int) - -((u % 10 : Nat) : Int) = ((48 + u % 10 : Nat) : Int) := by omega
   have hs1 := dec_size (u / 10) (by omega)
   have hs2 : (Sl.ofL [UInt8.ofNat (48 + u % 10)]).size = 1 := by rw [Sl.ofL_size]; rfl
   have hr0 : -((u % 10 : Nat) : Int) ≤ 0 := by omega
   have hq0 : -((u / 10 : Nat) : Int) ≤ 0 := by omega
   have hq1 : -1073741824 ≤ -((u / 10 : Nat) : Int) := by omega
   have hr1 : -10 ≤ -((u % 10 : Nat) : Int) := by omega
   have HD := hide hdec
   clear hdec ih hu h
   generalize Sl.ofL (Lib.decDigits u) = res at *
   generalize Sl.ofL (Lib.decDigits (u / 10)) = res1 at *
   generalize Sl.ofL [UInt8.ofNat (48 + u % 10)] = r at *
   generalize ((48 + u % 10 : Nat) : Int) = b at *
   generalize -((u % 10 : Nat) : Int) = z2 at *
   generalize -((u / 10 : Nat) : Int) = z1 at *
   generalize -(u : Int) = z at *
   go_enter Tryz.func76, Tryz.ntmps76
   go_wp2_with fail
   refine (HI.out _).mono ?_
   rintro e w1 ⟨rfl, hb⟩
   have HB1 := hide hb
   clear hb HI
   go_wp2_with fail
   refine (HB.out _).mono ?_
   rintro e w2 ⟨rfl, hb⟩
   have HB2 : Hid (Below w.heap.size w w2) := HB1.out.trans (hb.mono HB1.out.size)
   clear hb HB1 HB
   go_wp2
   go_ret
   exact ⟨by rw [HD.out]; rfl, HB2.out⟩
theorem refDecimal_any (u : Nat) (hu : u ≤ 1073741824) (w : World) :
  Calls Tryz.prog 25 #[.int .i64 (u : Int)] w fun e w' => e = .returned (.string (Sl.ofL (Lib.decDigits u))) ∧ Below w.heap.size w w' := by
 have HB := hide (refBelow_any u hu w)
 have h0 : (0 : Int) ≤ (u : Int) := by omega
 have h1 : (u : Int) ≤ 1073741824 := by omega
 generalize Sl.ofL (Lib.decDigits u) = res at *
 generalize (u : Int) = z at *
 go_enter Tryz.func25, Tryz.ntmps25
 go_wp2_with fail
 refine HB.out.mono ?_
 rintro e w1 ⟨rfl, hb⟩
 go_wp2
 go_ret
 exact ⟨rfl, hb⟩
theorem Tryz.infoString : (Tryz.prog.info? 9).map (fun i => (i.zero, i.size, i.bytes)) = some (some (.string ByteArray.empty), 1, 16) := by kernel_rfl
def cellsT (o : List (List UInt8)) : List Value := o.map fun l => .string (Sl.ofL l)
theorem cellsT_len (o : List (List UInt8)) : (cellsT o).length = o.length := by simp [cellsT]
theorem cellsT_snoc (o : List (List UInt8)) (s : ByteArray) : cellsT o ++ [.string s] = cellsT (o ++ [s.data.toList]) := by
 simp only [cellsT, List.map_append, List.map_cons, List.map_nil, Sl.ofL_toL]
theorem extract_list (s : ByteArray) (f k : Nat) : (s.extract f k).data.toList = (s.data.toList.take k).drop f := by
 rw [Lib.extract_data, List.drop_take]
theorem cut_blank (s : ByteArray) (f k : Nat) (o : List (List UInt8)) (hk : k < s.size) (hb : s[k] = 32) (h : Sl.pieces (s.data.toList.take k) = o ++ [(s.extract f k).data.toList]) :
  Sl.pieces (s.data.toList.take (k + 1)) = (o ++ [(s.extract f k).data.toList]) ++ [(s.extract (k + 1) (k + 1)).data.toList] := by
 rw [take_snoc s k hk, hb, Sl.pieces_cut, h, extract_list s (k + 1) (k + 1)]
 have : List.drop (k + 1) (List.take (k + 1) s.data.toList) = [] := List.drop_eq_nil_of_le (by rw [List.length_take]; omega)
 rw [this]
 rfl
theorem cut_byte (s : ByteArray) (f k : Nat) (o : List (List UInt8)) (hk : k < s.size) (hf : f ≤ k) (hb : s[k] ≠ 32) (h : Sl.pieces (s.data.toList.take k) = o ++ [(s.extract f k).data.toList]) :
  Sl.pieces (s.data.toList.take (k + 1)) = o ++ [(s.extract f (k + 1)).data.toList] := by
 rw [take_snoc s k hk, Sl.pieces_snoc s[k] hb _ _ _ h, extract_list, extract_list, take_snoc s k hk, List.drop_append_of_le_length (by rw [List.length_take, size_list]; omega)]
theorem owns_texts {w : World} {base : Nat} {v : Value} {n : Nat} {o : List (List UInt8)} (h : w.ownsRow base 9 1 v n (cellsT o)) (hn : o ≠ []) :
  ∃ b cap, v = .slice (some ⟨b, 0, none⟩) o.length cap ∧ o.length ≤ cap ∧ Texts w b 0 (o.map Sl.ofL) := by
 have hlen := h.1
 rw [cellsT_len, Nat.mul_one] at hlen
 subst hlen
 rcases h.2 with ⟨_, h0⟩ | ⟨g, cap, cur, rfl, _, hg, hc, _, _, ht⟩
 ·
  exact absurd (List.length_eq_zero_iff.1 h0) hn
 ·
  refine ⟨g, cap, rfl, hc, fun j hj => ?_⟩
  rw [Nat.zero_add, cell_of_row w g j cur _ _ hg]
  have hj2 : j < o.length := by simpa using hj
  have e1 : (cellsT o)[j]? = some (.string (o.map Sl.ofL)[j]) := by
   unfold cellsT
   rw [List.getElem?_map, List.getElem?_eq_getElem hj2, List.getElem_map]
   rfl
  rw [← ht, List.getElem?_take] at e1
  split at e1
  ·
   simpa using e1
  ·
   cases e1
set_option maxRecDepth 1000000 in
set_option maxHeartbeats 2000000 in
theorem refCut_any (s : ByteArray) (w : World) (hs : s.size ≤ 4000) :
  Calls Tryz.prog 210 #[.string s, .int .u8 32] w fun e w' => ∃ b cap, e = .returned (.slice (some ⟨b, 0, none⟩) (Sl.pieces s.data.toList).length cap) ∧ (Sl.pieces s.data.toList).length ≤ cap ∧ Texts w' b 0 ((Sl.pieces s.data.toList).map Sl.ofL) ∧ Below w.heap.size w w' := by
 obtain ⟨i0, hi, hz0, hz1, hz2⟩ := info_parts Tryz.infoString
 have HLen : Hid (∀ k, (Sl.pieces (s.data.toList.take k)).length ≤ 4001) := fun k => by
  have := pieces_len (s.data.toList.take k)
  rw [List.length_take, size_list] at this
  omega
 have h32 : (32 : UInt8).toNat = 32 := by decide
 go_enter Tryz.func210, Tryz.ntmps210
 go_wp2
 go_loopw [5, 6, 7] (fun v fr i wr => ∃ (k f : Nat) (o : List (List UInt8)), k ≤ s.size ∧ f ≤ k ∧ i = .int .i64 k ∧ fr = .int .i64 f ∧ wr.ownsRow w.heap.size 9 1 v o.length (cellsT o) ∧ Hid (Sl.pieces (s.data.toList.take k) = o ++ [(s.extract f k).data.toList]) ∧ Hid (Below w.heap.size w wr)) (fun _ _ i _ => s.size - (intOf i).toNat)
 case atStart => exact ⟨0, 0, [], Nat.zero_le _, Nat.le_refl _, rfl, rfl, World.ownsRow_nil _ _ _ _, (show Hid _ from by show _ = _; rw [extract_list]; rfl), Below.refl _ _⟩
 case round =>
  obtain ⟨k, f, o, hk, hf, rfl, rfl, hown, HPi, HB⟩ := hrel
  have Ho : Hid (o.length + 1 ≤ 4001) := by
   have := HLen.out k
   rw [HPi.out, List.length_append] at this
   exact this
  by_cases hlt : k < s.size
  ·
   by_cases hb : s[k] = 32
   ·
    have hq : ((s[k].toNat : Int) == 32) = true := by rw [hb]; decide
    have HN := hide (cut_blank s f k o hlt hb HPi.out)
    clear hb
    go_wp2_with (first
     | (at_builtin; refine wpList_append_own _ rfl _ _ 106 rfl w.heap.size 9 i0 (.string ByteArray.empty) 1 16 Tryz.underlying106 hi hz0 hz1 hz2 rfl (by decide) _ _ _ rfl (hown.alloc _) ⟨wr.heap.size, 0, none⟩ 1 1 [.string (s.extract f k)] rfl rfl ?c1 ?c2 ?c3 ?c4 ?c5 ?_))
    case c1 =>
     intro j u hj
     match j, hj with
     | 0, hj => simp at hj; subst hj; simp [Addr.add]
    case c2 => intro u hu; simp at hu; subst hu; rfl
    case c3 => have := Ho.out; unfold maxLen; omega
    case c4 => have := Ho.out; omega
    case c5 => have := HB.out.size; simp; omega
    ·
     intro v' w1 hown' hgrow _
     have HB1 : Hid (Below w.heap.size w w1) := (HB.out.alloc HB.out.size _).grown hgrow (by have := HB.out.size; simp; omega) (fun g hg => (hown.lt g hg).1)
     rw [cellsT_snoc] at hown'
     clear hown hgrow HB
     go_wp2
     go_roundw
     case rel => exact ⟨k + 1, k + 1, o ++ [(s.extract f k).data.toList], by omega, Nat.le_refl _, by go_num, by go_num, by rw [List.length_append]; exact hown', HN, HB1⟩
     case measure => simp [intOf]; omega
   ·
    have hq : ((s[k].toNat : Int) == 32) = false := by
     rw [beq_eq_false_iff_ne]
     intro e
     exact hb (UInt8.toNat_inj.1 (by omega))
    have HN := hide (cut_byte s f k o hlt hf hb HPi.out)
    clear hb
    go_wp2
    go_roundw
    case rel => exact ⟨k + 1, f, o, by omega, by omega, by go_num, rfl, hown, HN, HB⟩
    case measure => simp [intOf]; omega
  ·
   have hks : k = s.size := by omega
   subst hks
   have HN : Hid (Sl.pieces s.data.toList = o ++ [(s.extract f s.size).data.toList]) := by
    have := HPi.out
    rwa [List.take_of_length_le (by rw [size_list]; exact Nat.le_refl _)] at this
   go_wp2_with (first
    | (at_builtin; refine wpList_append_own _ rfl _ _ 106 rfl w.heap.size 9 i0 (.string ByteArray.empty) 1 16 Tryz.underlying106 hi hz0 hz1 hz2 rfl (by decide) _ _ _ rfl (hown.alloc _) ⟨wr.heap.size, 0, none⟩ 1 1 [.string (s.extract f s.size)] rfl rfl ?c1 ?c2 ?c3 ?c4 ?c5 ?_))
   case c1 =>
    intro j u hj
    match j, hj with
    | 0, hj => simp at hj; subst hj; simp [Addr.add]
   case c2 => intro u hu; simp at hu; subst hu; rfl
   case c3 => have := Ho.out; unfold maxLen; omega
   case c4 => have := Ho.out; omega
   case c5 => have := HB.out.size; simp; omega
   ·
    intro v' w1 hown' hgrow _
    have HB1 : Hid (Below w.heap.size w w1) := (HB.out.alloc HB.out.size _).grown hgrow (by have := HB.out.size; simp; omega) (fun g hg => (hown.lt g hg).1)
    rw [cellsT_snoc, ← HN.out] at hown'
    obtain ⟨b, cap, rfl, hcap, htx⟩ := owns_texts hown' (Sl.pieces_ne _)
    have HX := hide htx
    have HCap := hide hcap
    clear hown hown' hgrow HB htx hcap
    go_wp2
    go_ret
    exact ⟨b, cap, rfl, HCap.out, HX.out, HB1.out⟩
theorem glue_append_le : ∀ (b a : List (List UInt8)), (Sl.glue a).length ≤ (Sl.glue (a ++ b)).length
 | [], a => by rw [List.append_nil]; exact Nat.le_refl _
 | x :: b, a => by
  have ih := glue_append_le b (a ++ [x])
  rw [List.append_assoc] at ih
  refine Nat.le_trans ?_ ih
  by_cases ha : a = []
  ·
   subst ha
   show (Lib.join [] [32]).length ≤ _
   rw [Lib.join_nil]
   exact Nat.zero_le _
  ·
   show (Lib.join a [32]).length ≤ (Lib.join (a ++ [x]) [32]).length
   rw [Sl.join_snoc x a ha, List.length_append]
   omega
theorem glue_take_le (ws : List (List UInt8)) (k : Nat) : (Sl.glue (ws.take k)).length ≤ (Sl.glue ws).length := by
 have := glue_append_le (ws.drop k) (ws.take k)
 rwa [List.take_append_drop] at this
theorem glue_next (xs : List ByteArray) (k : Nat) (hk : k < xs.length) :
  (k = 0 → Sl.ofL (Sl.glue ((toLs xs).take k)) ++ xs[k] = Sl.ofL (Sl.glue ((toLs xs).take (k + 1)))) ∧
  (k ≠ 0 → Sl.ofL (Sl.glue ((toLs xs).take k)) ++ ⟨#[32]⟩ ++ xs[k] = Sl.ofL (Sl.glue ((toLs xs).take (k + 1)))) := by
 have hkl : k < (toLs xs).length := by simpa using hk
 have ht : (toLs xs).take (k + 1) = (toLs xs).take k ++ [xs[k].data.toList] := by
  rw [List.take_succ_eq_append_getElem hkl, List.getElem_map]
 refine ⟨fun h => ?_, fun h => ?_⟩
 ·
  refine Sl.ba_ext ?_
  rw [ba_toList, Sl.toL_ofL, Sl.toL_ofL, ht]
  subst h
  show Lib.join [] [32] ++ _ = Lib.join ([] ++ [xs[0].data.toList]) [32]
  rw [List.nil_append, Lib.join_one, Lib.join_nil]
  rfl
 ·
  refine Sl.ba_ext ?_
  rw [ba_toList, ba_toList, Sl.toL_ofL, Sl.toL_ofL, ht]
  have hne : (toLs xs).take k ≠ [] := by
   intro e
   have := congrArg List.length e
   rw [List.length_take, List.length_nil] at this
   omega
  show _ = Lib.join ((toLs xs).take k ++ [xs[k].data.toList]) [32]
  rw [Sl.join_snoc _ _ hne]
  simp
theorem text_le (xs : List ByteArray) (k : Nat) (hk : k < xs.length) : xs[k].size ≤ (Sl.glue (toLs xs)).length := by
 have h1 := glue_take_le (toLs xs) (k + 1)
 obtain ⟨a, b⟩ := glue_next xs k hk
 by_cases h0 : k = 0
 ·
  have := congrArg ByteArray.size (a h0)
  rw [ByteArray.size_append, Sl.ofL_size, Sl.ofL_size] at this
  omega
 ·
  have := congrArg ByteArray.size (b h0)
  rw [ByteArray.size_append, ByteArray.size_append, Sl.ofL_size, Sl.ofL_size] at this
  omega
set_option maxRecDepth 100000 in
set_option maxHeartbeats 1000000 in
theorem refGlue_any (xs : List ByteArray) (b o n c : Nat) (w : World) (hl : xs.length = n) (hn : n ≤ 100000) (hx : Texts w b o xs) (hg : (Sl.glue (toLs xs)).length ≤ 6000) :
  Calls Tryz.prog 143 #[.slice (some ⟨b, o, none⟩) n c, .string ⟨#[32]⟩] w fun e w' => e = .returned (.string (Sl.ofL (Sl.glue (toLs xs)))) ∧ w' = w := by
 have HX := hide hx
 have HL := hide hl
 have HG := hide hg
 clear hx hl hg
 go_enter Tryz.func143, Tryz.ntmps143
 go_wp2
 go_loop [5, 6] (fun sv i => ∃ k : Nat, k ≤ n ∧ i = .int .i64 k ∧ sv = .string (Sl.ofL (Sl.glue ((toLs xs).take k)))) (fun _ i => n - (intOf i).toNat)
 case atStart => exact ⟨0, Nat.zero_le _, rfl, rfl⟩
 case round =>
  obtain ⟨k, hk, rfl, rfl⟩ := hrel
  by_cases hlt : k < n
  ·
   have hkl : k < xs.length := by rw [HL.out]; exact hlt
   have hcell := HX.out k hkl
   have hsz : (Sl.ofL (Sl.glue ((toLs xs).take k))).size ≤ 6000 := by rw [Sl.ofL_size]; exact Nat.le_trans (glue_take_le _ _) HG.out
   have hyz : xs[k].size ≤ 6000 := Nat.le_trans (text_le xs k hkl) HG.out
   have HN := hide (glue_next xs k hkl)
   generalize Sl.ofL (Sl.glue ((toLs xs).take k)) = g at *
   generalize xs[k] = y at *
   by_cases h0 : k = 0
   ·
    subst h0
    have HN0 := hide (HN.out.1 rfl)
    rw [Nat.add_zero] at hcell
    clear HN
    go_wp2
    go_round
    case rel => exact ⟨1, by omega, rfl, by rw [← HN0.out]⟩
    case measure => simp [intOf]; omega
   ·
    have HN0 := hide (HN.out.2 h0)
    have h0' : (0 : Int) < (k : Int) := by omega
    clear HN
    go_wp2
    go_round
    case rel => exact ⟨k + 1, by omega, by go_num, by rw [← HN0.out]⟩
    case measure => simp [intOf]; omega
  ·
   have hkn : (toLs xs).take k = toLs xs := List.take_of_length_le (by rw [List.length_map, HL.out]; omega)
   rw [hkn]
   clear hkn
   go_wp2
   go_ret
   exact ⟨rfl, rfl⟩
theorem pieces_look (l : List UInt8) : Sl.pieces l = Sl.lookW l ++ [Sl.lastP l] := by
 unfold Sl.lookW Sl.lastP
 rw [List.getLastD_eq_getLast?, List.getLast?_eq_some_getLast (Sl.pieces_ne l)]
 exact (List.dropLast_concat_getLast (Sl.pieces_ne l)).symm
def LookPost (l : List UInt8) (e : Ending) (w' : World) : Prop :=
 if Sl.lookE l = 0 then ∃ b cap, Texts w' b 0 ((Sl.lookW l).map Sl.ofL) ∧ (Sl.lookW l).length ≤ cap ∧ e = .returned (.tuple #[.slice (some ⟨b, 0, none⟩) (Sl.lookW l).length cap, .int .i64 (Sl.lookN l), .int .i64 0])
 else e = .returned (.tuple #[.slice none 0 0, .int .i64 0, .int .i64 (Sl.lookE l)])
theorem lookP_no (l : List UInt8) (e : Ending) (w' : World) (c : Nat) (hc : Sl.lookE l = c) (h : c ≠ 0) (he : e = .returned (.tuple #[.slice none 0 0, .int .i64 0, .int .i64 c])) : LookPost l e w' := by
 unfold LookPost
 rw [hc, if_neg h]
 exact he
theorem lookP_yes (l : List UInt8) (e : Ending) (w' : World) (hc : Sl.lookE l = 0) (b cap : Nat) (hx : Texts w' b 0 ((Sl.lookW l).map Sl.ofL)) (hcap : (Sl.lookW l).length ≤ cap) (he : e = .returned (.tuple #[.slice (some ⟨b, 0, none⟩) (Sl.lookW l).length cap, .int .i64 (Sl.lookN l), .int .i64 0])) : LookPost l e w' := by
 unfold LookPost
 rw [if_pos hc]
 exact ⟨b, cap, hx, hcap, he⟩
theorem lookE_bad (l : List UInt8) (h : l.length ≤ 4000) (hb : Sl.lookOk l = false) : Sl.lookE l = 1 := by
 unfold Sl.lookE
 rw [if_neg (by omega), hb]
 rfl
theorem lookOk_split (l : List UInt8) : Sl.lookOk l = (numB (Sl.lastP l) 1000000006 && Sl.wordsOk (Sl.lookW l)) := by
 unfold Sl.lookOk numB
 congr 2
 rw [decide_eq_decide]; omega
theorem texts_split {w : World} {b : Nat} {ws : List (List UInt8)} {tl : List UInt8} (h : Texts w b 0 ((ws ++ [tl]).map Sl.ofL)) :
  (∀ j (hj : j < ws.length), w.cell? ⟨b, j, none⟩ = some (.string (Sl.ofL ws[j]))) ∧ w.cell? ⟨b, ws.length, none⟩ = some (.string (Sl.ofL tl)) ∧ Texts w b 0 (ws.map Sl.ofL) := by
 have hlen : ((ws ++ [tl]).map Sl.ofL).length = ws.length + 1 := by simp
 have h1 : ∀ j (hj : j < ws.length), w.cell? ⟨b, j, none⟩ = some (.string (Sl.ofL ws[j])) := fun j hj => by
  have := h j (by omega)
  rw [Nat.zero_add] at this
  rw [this, List.getElem_map, List.getElem_append_left hj]
 refine ⟨h1, ?_, fun j hj => ?_⟩
 ·
  have := h ws.length (by omega)
  rw [Nat.zero_add] at this
  rw [this, List.getElem_map, List.getElem_append_right (Nat.le_refl _)]
  simp
 ·
  rw [Nat.zero_add, h1 j (by simpa using hj), List.getElem_map]
set_option maxRecDepth 100000 in
set_option maxHeartbeats 2000000 in
theorem refLook_any (s : ByteArray) (w : World) (hs : s.size ≤ maxLen) :
  Calls Tryz.prog 176 #[.string s] w fun e w' => Below w.heap.size w w' ∧ LookPost s.data.toList e w' := by
 by_cases h4 : 4000 < s.size
 ·
  have HE : Hid (Sl.lookE s.data.toList = 2) := by show _ = _; unfold Sl.lookE; rw [size_list, if_pos h4]
  unfold maxLen at hs
  go_enter Tryz.func176, Tryz.ntmps176
  go_wp2
  go_ret3
  exact ⟨Below.refl _ _, lookP_no _ _ _ 2 HE.out (by decide) rfl⟩
 ·
  have HC := hide (refCut_any s w (by omega))
  have hlen : s.data.toList.length ≤ 4000 := by rw [size_list]; omega
  have HBad := hide (lookE_bad s.data.toList hlen)
  have HOk : Hid (Sl.lookOk s.data.toList = true → Sl.lookE s.data.toList = 0) := fun h => by unfold Sl.lookE; rw [if_neg (by omega), if_pos h]
  have HSp := hide (lookOk_split s.data.toList)
  have hp := pieces_look s.data.toList
  have HSz : Hid (∀ l ∈ Sl.pieces s.data.toList, (Sl.ofL l).size ≤ maxLen) := fun l hl => by
   have := pieces_part _ l hl
   rw [Sl.ofL_size]
   unfold maxLen; omega
  rw [hp] at HC HSz
  have HNv : Hid (Sl.lookN s.data.toList = Sl.valL (Sl.lastP s.data.toList)) := rfl
  have HLn : Hid ((Sl.lookW s.data.toList ++ [Sl.lastP s.data.toList]).length ≤ 4001) := by
   have := pieces_len s.data.toList
   rw [hp] at this
   show _ ≤ _
   omega
  clear hp hlen hs
  have HWs : Hid (Sl.lookW s.data.toList = Sl.lookW s.data.toList) := rfl
  generalize hl : s.data.toList = l at *
  clear hl HWs
  generalize hws : Sl.lookW l = ws at *
  generalize htl : Sl.lastP l = tl at *
  have HWs := hide hws
  have HTl := hide htl
  clear hws htl
  have hn1 : (ws ++ [tl]).length = ws.length + 1 := by simp
  rw [hn1] at HC HLn
  have hn2 : ws.length ≤ 4000 := by have := HLn.out; omega
  clear hn1 HLn
  go_enter Tryz.func176, Tryz.ntmps176
  go_wp2_with fail
  refine HC.out.mono ?_
  rintro e w1 ⟨b, cap, rfl, hcap, htx, hb⟩
  have HB := hide hb
  obtain ⟨hc1, hc2, hc3⟩ := texts_split htx
  have HC1 := hide hc1
  have HX := hide hc3
  clear hb htx hc1 hc3 HC
  by_cases hcnt : 1 ≤ ws.length ∧ ws.length ≤ 10
  ·
   obtain ⟨hn3, hn4⟩ := hcnt
   have HNu := hide (fun w => refNumber_any (Sl.ofL tl) 1000000006 w (HSz.out tl (by simp)))
   rw [Sl.toL_ofL] at HNu
   cases hnb : numB tl 1000000006 with
   | false =>
    have HE : Hid (Sl.lookE l = 1) := HBad.out (by rw [HSp.out, hnb]; rfl)
    rw [numI_no _ _ hnb] at HNu
    clear hnb
    go_wp2_with fail
    refine (HNu.out _).mono ?_
    rintro e w2 ⟨rfl, rfl⟩
    go_wp2
    go_ret3
    exact ⟨HB.out, lookP_no _ _ _ 1 HE.out (by decide) rfl⟩
   | true =>
    have hv : numI tl 1000000006 = (Sl.valL tl : Int) := by unfold numI; rw [if_pos hnb]
    rw [hv] at HNu
    have HNB := hide hnb
    have HV : Hid ((Sl.lookN l : Int) = (Sl.valL tl : Int)) := by show _ = _; rw [HNv.out]
    have hv0 : (0 : Int) ≤ (Sl.valL tl : Int) := by omega
    clear hnb hv
    generalize (Sl.valL tl : Int) = v at *
    go_wp2_with fail
    refine (HNu.out _).mono ?_
    rintro e w2 ⟨rfl, rfl⟩
    clear HNu
    go_wp2
    go_loop [8] (fun i => ∃ k : Nat, k ≤ ws.length ∧ i = .int .i64 k ∧ Hid (∀ j (hj : j < ws.length), j < k → Sl.wordL ws[j] = true)) (fun i => ws.length - (intOf i).toNat)
    case atStart => exact ⟨0, Nat.zero_le _, rfl, fun j _ hj => absurd hj (Nat.not_lt_zero _)⟩
    case round =>
     obtain ⟨k, hk, rfl, A⟩ := hrel
     by_cases hlt : k < ws.length
     ·
      have hcell := HC1.out k hlt
      have HW := hide (fun w => refWord_any (Sl.ofL ws[k]) w (HSz.out ws[k] (by simp)))
      rw [Sl.toL_ofL] at HW
      cases hwd : Sl.wordL ws[k] with
      | true =>
       rw [hwd] at HW
       have HWD := hide hwd
       clear hwd
       generalize Sl.ofL ws[k] = y at *
       go_wp2_with fail
       refine (HW.out _).mono ?_
       rintro e w3 ⟨rfl, rfl⟩
       go_wp2
       go_round
       case rel =>
        refine ⟨k + 1, by omega, by go_num, (show Hid _ from fun j hj hjk => ?_)⟩
        by_cases e : j = k
        ·
         subst e; exact HWD.out
        ·
         exact A.out j hj (by omega)
       case measure => simp [intOf]; omega
      | false =>
       rw [hwd] at HW
       have HE : Hid (Sl.lookE l = 1) := HBad.out (by
        rw [HSp.out, HNB.out]
        have : ws.all Sl.wordL = false := by
         rw [List.all_eq_false]
         exact ⟨ws[k], List.getElem_mem _, by rw [hwd]; decide⟩
        unfold Sl.wordsOk
        rw [this, Bool.and_false]
        rfl)
       clear hwd
       generalize Sl.ofL ws[k] = y at *
       go_wp2_with fail
       refine (HW.out _).mono ?_
       rintro e w3 ⟨rfl, rfl⟩
       go_wp2
       go_ret3
       exact ⟨HB.out, lookP_no _ _ _ 1 HE.out (by decide) rfl⟩
     ·
      have hkk : k = ws.length := by omega
      subst hkk
      have HE : Hid (Sl.lookE l = 0) := HOk.out (by
       rw [HSp.out, HNB.out]
       unfold Sl.wordsOk
       rw [decide_eq_true (And.intro hn3 hn4), show ws.all Sl.wordL = true by
        rw [List.all_eq_true]
        intro x hx
        obtain ⟨j, hj, rfl⟩ := List.getElem_of_mem hx
        exact A.out j hj hj]
       rfl)
      go_wp2
      go_ret3
      refine ⟨HB.out, lookP_yes _ _ _ HE.out b cap (by rw [HWs.out]; exact HX.out) (by rw [HWs.out]; omega) ?_⟩
      rw [HWs.out, HV.out]
      rfl
  ·
   have HE : Hid (Sl.lookE l = 1) := HBad.out (by
    rw [HSp.out]
    unfold Sl.wordsOk
    rw [decide_eq_false hcnt]
    simp)
   by_cases h0 : ws.length < 1
   ·
    go_wp2
    go_ret3
    exact ⟨HB.out, lookP_no _ _ _ 1 HE.out (by decide) rfl⟩
   ·
    have h11 : 10 < ws.length := by omega
    clear hcnt
    go_wp2
    go_ret3
    exact ⟨HB.out, lookP_no _ _ _ 1 HE.out (by decide) rfl⟩
theorem toLs_map (ws : List (List UInt8)) : toLs (ws.map Sl.ofL) = ws := by
 unfold toLs
 rw [List.map_map]
 conv => rhs; rw [← List.map_id ws]
 exact List.map_congr_left fun l _ => rfl
def UnsealPost (c : Nat) (ws : List (List UInt8)) (e : Ending) (w' : World) : Prop :=
 if c = 0 then ∃ b cap, Texts w' b 0 (ws.map Sl.ofL) ∧ ws.length ≤ cap ∧ e = .returned (.tuple #[.slice (some ⟨b, 0, none⟩) ws.length cap, .int .i64 0])
 else e = .returned (.tuple #[.slice none 0 0, .int .i64 c])
theorem unseal_no (c : Nat) (ws : List (List UInt8)) (e : Ending) (w' : World) (d : Nat) (hd : c = d) (h : d ≠ 0) (he : e = .returned (.tuple #[.slice none 0 0, .int .i64 d])) : UnsealPost c ws e w' := by
 unfold UnsealPost
 rw [hd, if_neg h]
 exact he
theorem unseal_yes (c : Nat) (ws : List (List UInt8)) (e : Ending) (w' : World) (hc : c = 0) (b cap : Nat) (hx : Texts w' b 0 (ws.map Sl.ofL)) (hcap : ws.length ≤ cap) (he : e = .returned (.tuple #[.slice (some ⟨b, 0, none⟩) ws.length cap, .int .i64 0])) : UnsealPost c ws e w' := by
 unfold UnsealPost
 rw [if_pos hc]
 exact ⟨b, cap, hx, hcap, he⟩
theorem glue_small (l : List UInt8) (h : Sl.lookE l = 0) : (Sl.glue (Sl.lookW l)).length ≤ 6000 ∧ (Sl.lookW l).length ≤ 10 := by
 have hok := Sl.lookE_ok l h
 obtain ⟨a, e1, _, e3, _⟩ := Sl.look_glue l hok
 have hle : l.length ≤ 4000 := by
  unfold Sl.lookE at h
  split at h
  ·
   cases h
  ·
   omega
 refine ⟨?_, ((Sl.wordsOk_iff _).1 (Sl.lookOk_words l hok)).1.2⟩
 rw [e3]
 rw [e1] at hle
 simp only [List.length_append, List.length_cons] at hle
 omega
set_option maxRecDepth 100000 in
set_option maxHeartbeats 2000000 in
theorem refUnseal_any (key : Int) (s : ByteArray) (w : World) (hs : s.size ≤ maxLen) :
  Calls Tryz.prog 131 #[.int .i64 key, .string s] w fun e w' => Below w.heap.size w w' ∧ UnsealPost (Sl.openE key s.data.toList) (Sl.lookW s.data.toList) e w' := by
 have HK := hide (fun w => refKey_any key w)
 by_cases hk : 1 ≤ key ∧ key ≤ 1000000006
 ·
  rw [decide_eq_true hk] at HK
  have HL := hide (fun w => refLook_any s w hs)
  have HKk := hide hk
  clear hk hs
  generalize s.data.toList = l at *
  go_enter Tryz.func131, Tryz.ntmps131
  go_wp2_with fail
  refine (HK.out _).mono ?_
  rintro e w1 ⟨rfl, rfl⟩
  go_wp2_with fail
  refine (HL.out _).mono ?_
  rintro e w2 ⟨hb, hp⟩
  have HB := hide hb
  clear hb HL HK
  unfold LookPost at hp
  by_cases h0 : Sl.lookE l = 0
  ·
   rw [if_pos h0] at hp
   obtain ⟨b, cap, hx, hcap, rfl⟩ := hp
   obtain ⟨hg, hg10⟩ := glue_small l h0
   have HO : Hid (Sl.openE key l = if Mk.mk key key (Sl.glue (Sl.lookW l)) = (Sl.lookN l : Int) then 0 else 9) := by show _ = _; unfold Sl.openE; rw [if_pos HKk.out, if_pos h0]
   have HG := hide (fun w hx => refGlue_any ((Sl.lookW l).map Sl.ofL) b 0 (Sl.lookW l).length cap w (by simp) (by omega) hx (by rw [toLs_map]; exact hg))
   rw [toLs_map] at HG
   have HM := hide (fun w => refError_any key (Sl.ofL (Sl.glue (Sl.lookW l))) (Sl.lookN l) w (by rw [Sl.ofL_size]; unfold maxLen; omega))
   have Hre : Hid (rightE key (Sl.ofL (Sl.glue (Sl.lookW l))).data.toList (Sl.lookN l) = Sl.openE key l) := by
    show _ = _
    unfold rightE
    rw [if_pos HKk.out, HO.out]
    rfl
   rw [Hre.out] at HM
   have HX := hide hx
   have HCap := hide hcap
   have Hcase : Hid (Sl.openE key l = 0 ∨ Sl.openE key l = 9) := by
    show _ ∨ _
    rw [HO.out]
    by_cases g : Mk.mk key key (Sl.glue (Sl.lookW l)) = (Sl.lookN l : Int)
    ·
     rw [if_pos g]; exact Or.inl rfl
    ·
     rw [if_neg g]; exact Or.inr rfl
   clear hx hcap h0 hg HO Hre
   generalize hlw : (Sl.lookW l).length = n at *
   have HLn := hide hlw
   clear hlw
   generalize Sl.ofL (Sl.glue (Sl.lookW l)) = g at *
   generalize (Sl.lookN l : Int) = v at *
   generalize hoe : Sl.openE key l = c at *
   have HOE := hide hoe
   clear hoe
   go_wp2_with fail
   refine (HG.out _ HX.out).mono ?_
   rintro e w3 ⟨rfl, rfl⟩
   go_wp2_with fail
   refine (HM.out _).mono ?_
   rintro e w4 ⟨rfl, rfl⟩
   clear HG HM
   rcases Hcase.out with rfl | rfl
   ·
    go_wp2
    go_ret2
    exact ⟨HB.out, unseal_yes _ _ _ _ HOE.out b cap HX.out (by rw [HLn.out]; exact HCap.out) (by rw [HLn.out]; rfl)⟩
   ·
    go_wp2
    go_ret2
    exact ⟨HB.out, unseal_no _ _ _ _ 9 HOE.out (by decide) rfl⟩
  ·
   rw [if_neg h0] at hp
   subst hp
   have HO : Hid (Sl.openE key l = Sl.lookE l) := by show _ = _; unfold Sl.openE; rw [if_pos HKk.out, if_neg h0]
   have H0 := hide h0
   have hq : ((Sl.lookE l : Int) == 0) = false := by rw [beq_eq_false_iff_ne]; omega
   have hq2 : (0 : Int) < (Sl.lookE l : Int) := by omega
   clear h0
   generalize hle : Sl.lookE l = c at *
   clear hle
   go_wp2
   go_ret2
   exact ⟨HB.out, unseal_no _ _ _ _ c HO.out H0.out rfl⟩
 ·
  rw [decide_eq_false hk] at HK
  have HO := hide (openE_key key s.data.toList hk)
  clear hk hs
  go_enter Tryz.func131, Tryz.ntmps131
  go_wp2_with fail
  refine (HK.out _).mono ?_
  rintro e w1 ⟨rfl, rfl⟩
  go_wp2
  go_ret2
  exact ⟨Below.refl _ _, unseal_no _ _ _ _ 10 HO.out (by decide) rfl⟩
/-! ### Faults -/
theorem refFine_any (w : World) :
  Calls Tryz.prog 144 #[] w fun e w' => e = .returned (.agg #[.int .i64 0, .int .i64 (-1)]) ∧ Below w.heap.size w w' := by
 go_enter Tryz.func144, Tryz.ntmps144
 go_wp2
 refine bodyPost_ret (results_cell_row rfl _ _ w.heap.size _ _ _ _ rfl (heap_alloc_new _ _) Tryz.underlying98 rfl (by kernel_rfl)) rfl ?_
 exact ⟨rfl, (Below.refl _ _).alloc (Nat.le_refl _) _⟩
theorem results_tmp_row {P : Program} {fn : Func} {p u : Tmp} {ty : TypeId} (h : fn.results = #[.tmp u, .cell p ty]) (tmps : Array Value) (w : World) (g : Nat) (t : TypeId) (cs : Array Value) (fr : Nat × Nat) (d : TypeDesc)
  (hp : tmps.getD p undef = .pointer (some ⟨g, 0, none⟩)) (hg : w.heap[g]? = some (.cells cs t fr))
  (hu : P.underlying ty = some d) (hd : (match d with | .struct _ | .array _ _ => true | _ => false) = true) (hi : (P.info? ty).map (·.size) = some cs.size) :
  (results fn tmps).run P w = .ok (.tuple #[tmps.getD u undef, .agg cs]) w := by
 have hp' : tmps[p]?.getD undef = .pointer (some ⟨g, 0, none⟩) := by simpa using hp
 simp [results, h, hp', asAddr, run_loadVar_row w g t ty cs fr d hg hu hd hi]
theorem sealOfEnd {a : Act} {w : World} {R : Ending → World → Prop} (g : Nat) (cs : Array Value) (hp : a.tmps.getD 5 undef = .pointer (some ⟨g, 0, none⟩)) (hg : w.heap[g]? = some (.cells cs 98 (0, 0))) (hn : cs.size = 2) (hd : a.defers = [])
  (hR : R (.returned (.tuple #[a.tmps.getD 4 undef, .agg cs])) w) : bodyPost Tryz.prog Tryz.f98 R .ret a w :=
 bodyPost_ret (results_tmp_row rfl a.tmps w g _ cs (0, 0) _ hp hg Tryz.underlying98 rfl (by rw [hn]; kernel_rfl)) hd hR
theorem row_set2 {w : World} {g : Nat} {t : TypeId} {x y : Value} (h : w.heap[g]? = some (.cells #[x, y] t (0, 0))) (a b : Value) :
  ((w.setCell ⟨g, 0, none⟩ a).setCell ⟨g, 1, none⟩ b).heap[g]? = some (.cells #[a, b] t (0, 0)) := by
 have h1 := heap_setCell_same w g 0 _ t a h
 exact heap_setCell_same _ g 1 _ t b h1
theorem row_cells2 {w : World} {g : Nat} {t : TypeId} {x y : Value} (h : w.heap[g]? = some (.cells #[x, y] t (0, 0))) :
  w.cell? ⟨g, 0, none⟩ = some x ∧ w.cell? ⟨g, 1, none⟩ = some y ∧ w.frozen? ⟨g, 0, none⟩ = false ∧ w.frozen? ⟨g, 1, none⟩ = false :=
 ⟨cell_of_row w g 0 _ t _ h, cell_of_row w g 1 _ t _ h, frozen_of_row w g 0 _ t h, frozen_of_row w g 1 _ t h⟩
abbrev fault0 : Obj := .cells #[.int .i64 0, .int .i64 0] 98
set_option maxRecDepth 100000 in
set_option maxHeartbeats 2000000 in
theorem sealOf_ok (key : Int) (b o n c : Nat) (xs : List ByteArray) (w : World) (hk : 1 ≤ key ∧ key ≤ 1000000006) (hx : Texts w b o xs) (hl : xs.length = n) (hw : Sl.wordsOk (toLs xs) = true) :
  Calls Tryz.prog 98 #[.int .i64 key, .slice (some ⟨b, o, none⟩) n c] w fun e w' => e = .returned (.tuple #[.string (Sl.ofL (Sl.sealL key (toLs xs))), .agg #[.int .i64 0, .int .i64 (-1)]]) ∧ Below w.heap.size w w' := by
 have HK := hide (fun w => refKey_any key w)
 rw [decide_eq_true hk] at HK
 obtain ⟨⟨h1, h10⟩, hall⟩ := (Sl.wordsOk_iff _).1 hw
 rw [List.length_map, hl] at h1 h10
 have hone : ∀ x ∈ xs, Sl.wordL x.data.toList = true := fun x hm => hall _ (List.mem_map.2 ⟨x, hm, rfl⟩)
 have HX : Hid (Texts (w.alloc fault0) b o xs) := hx.below ((Below.refl _ w).alloc (Nat.le_refl _) _)
 have HB0 : Hid (Below w.heap.size w (w.alloc fault0)) := (Below.refl _ w).alloc (Nat.le_refl _) _
 have HR0 : Hid ((w.alloc fault0).heap[w.heap.size]? = some (.cells #[.int .i64 0, .int .i64 0] 98 (0, 0))) := heap_alloc_new _ _
 have HT0 : Hid (w.heap.size < (w.alloc fault0).heap.size) := by show _ < _; simp
 have HOne := hide hone
 have hgl : (Sl.glue (toLs xs)).length ≤ 210 := by
  have := Sl.glue_len 20 (toLs xs) (fun l hm => (Sl.word_len l (hall l hm)).2)
  rw [List.length_map, hl] at this
  omega
 have HG := hide (fun w hx => refGlue_any xs b o n c w hl (by omega) hx (by omega))
 have HM := hide (fun w => refOf_any key (Sl.ofL (Sl.glue (toLs xs))) w (by rw [Sl.ofL_size]; unfold maxLen; omega))
 rw [show moreN key key (Sl.ofL (Sl.glue (toLs xs))).data.toList = (Sl.sealM key (toLs xs) : Int) by rw [Sl.sealM_mk key hk, Sl.toL_ofL]; simp [moreN, key_more, hk]] at HM
 rw [show ((moreE key key : Nat) : Int) = 0 by rw [key_more, if_pos hk]; rfl] at HM
 have HD := hide (fun w => refDecimal_any (Sl.sealM key (toLs xs)) (by have := Sl.sealM_le key hk (toLs xs); omega) w)
 have hz1 : (Sl.ofL (Sl.glue (toLs xs))).size ≤ 210 := by rw [Sl.ofL_size]; exact hgl
 have hz2 := dec_size (Sl.sealM key (toLs xs)) (by have := Sl.sealM_le key hk (toLs xs); omega)
 have HRs : Hid (Sl.ofL (Sl.glue (toLs xs)) ++ ⟨#[32]⟩ ++ Sl.ofL (Lib.decDigits (Sl.sealM key (toLs xs))) = Sl.ofL (Sl.sealL key (toLs xs))) := by
  show _ = _
  refine Sl.ba_ext ?_
  rw [ba_toList, ba_toList]
  unfold Sl.sealL
  simp only [Sl.toL_ofL]
  simp
 have HL := hide hl
 have HFi := hide (fun w => refFine_any w)
 clear hk hx hl hw hone hall hgl
 generalize Sl.ofL (Sl.sealL key (toLs xs)) = res at *
 generalize Sl.ofL (Lib.decDigits (Sl.sealM key (toLs xs))) = dg at *
 generalize (Sl.sealM key (toLs xs) : Int) = m at *
 generalize Sl.ofL (Sl.glue (toLs xs)) = g at *
 go_enter Tryz.func98, Tryz.ntmps98
 go_wp2_with fail
 refine (HK.out _).mono ?_
 rintro e w1 ⟨rfl, rfl⟩
 clear HK
 go_wp2
 generalize w.alloc (.cells #[.int .i64 0, .int .i64 0] 98) = w0 at *
 go_loop [7] (fun i => ∃ k : Nat, k ≤ n ∧ i = .int .i64 k) (fun i => n - (intOf i).toNat)
 case atStart => exact ⟨0, Nat.zero_le _, rfl⟩
 case round =>
  obtain ⟨k, hk, rfl⟩ := hrel
  by_cases hkn : k < n
  ·
   have hkl : k < xs.length := by rw [HL.out]; exact hkn
   have hcell := HX.out k hkl
   have HWd := hide (fun w => refWord_any xs[k] w (by have := (Sl.word_len _ (HOne.out _ (List.getElem_mem hkl))).2; rw [size_list] at this; unfold maxLen; omega))
   rw [HOne.out _ (List.getElem_mem hkl)] at HWd
   generalize xs[k] = y at hcell HWd
   go_wp2_with fail
   refine (HWd.out _).mono ?_
   rintro e w3 ⟨rfl, rfl⟩
   go_wp2
   go_round
   case rel => exact ⟨k + 1, by omega, by go_num⟩
   case measure => simp [intOf]; omega
  ·
   go_wp2_with fail
   refine (HG.out _ HX.out).mono ?_
   rintro e w3 ⟨rfl, rfl⟩
   go_wp2_with fail
   refine (HM.out _).mono ?_
   rintro e w4 ⟨rfl, rfl⟩
   go_wp2_with fail
   refine (HD.out _).mono ?_
   rintro e w5 ⟨rfl, hb⟩
   have HR5 : Hid (w5.heap[w.heap.size]? = some (.cells #[.int .i64 0, .int .i64 0] 98 (0, 0))) := by show _ = _; rw [hb.block _ HT0.out]; exact HR0.out
   have HB5 : Hid (Below w.heap.size w w5) := HB0.out.trans (hb.mono HB0.out.size)
   have HT5 : Hid (w.heap.size < w5.heap.size) := Nat.lt_of_lt_of_le HT0.out hb.size
   clear hb HR0 HB0 HT0 HX HG HM HD
   go_wp2_with fail
   refine (HFi.out _).mono ?_
   rintro e w6 ⟨rfl, hb⟩
   have HR6 : Hid (w6.heap[w.heap.size]? = some (.cells #[.int .i64 0, .int .i64 0] 98 (0, 0))) := by show _ = _; rw [hb.block _ HT5.out]; exact HR5.out
   have HB6 : Hid (Below w.heap.size w w6) := HB5.out.trans (hb.mono HB5.out.size)
   clear hb HR5 HB5 HT5
   obtain ⟨hc0, hc1, hf0, hf1⟩ := row_cells2 HR6.out
   go_wp2
   refine sealOfEnd w.heap.size _ rfl (row_set2 HR6.out _ _) rfl rfl ?_
   exact ⟨by rw [← HRs.out]; rfl, (HB6.out.setCell (Nat.le_refl _) _).setCell (Nat.le_refl _) _⟩
def okW (c : Nat) (ws : List (List UInt8)) : List ByteArray := if c = 0 then ws.map Sl.ofL else []
theorem okW_no (c : Nat) (ws : List (List UInt8)) (h : c ≠ 0) : okW c ws = [] := by unfold okW; rw [if_neg h]
theorem okW_yes (ws : List (List UInt8)) : okW 0 ws = ws.map Sl.ofL := rfl
theorem textsAt_nil (w : World) : TextsAt w (.slice none 0 0) [] := ⟨none, 0, rfl, Nat.le_refl _, Or.inl rfl⟩
theorem textsAt_of {w : World} {b n cap : Nat} {xs : List ByteArray} (hn : xs.length = n) (h : Texts w b 0 xs) (hc : n ≤ cap) : TextsAt w (.slice (some ⟨b, 0, none⟩) n cap) xs := ⟨some ⟨b, 0, none⟩, cap, by rw [hn], by rw [hn]; exact hc, Or.inr ⟨b, 0, rfl, h⟩⟩
theorem unseal_t (key : Int) (s : ByteArray) (w : World) (hs : s.size ≤ maxLen) :
  Calls Tryz.prog 131 #[.int .i64 key, .string s] w fun e w' => ∃ sl, e = .returned (.tuple #[sl, .int .i64 (Sl.openE key s.data.toList)]) ∧ TextsAt w' sl (okW (Sl.openE key s.data.toList) (Sl.lookW s.data.toList)) ∧ Below w.heap.size w w' := by
 refine (refUnseal_any key s w hs).mono ?_
 rintro e w' ⟨hb, hp⟩
 generalize Sl.openE key s.data.toList = c at *
 unfold UnsealPost at hp
 by_cases h0 : c = 0
 ·
  rw [if_pos h0] at hp
  obtain ⟨b, cap, hx, hc, rfl⟩ := hp
  subst h0
  exact ⟨_, rfl, textsAt_of (by rw [okW_yes, List.length_map]) hx hc, hb⟩
 ·
  rw [if_neg h0] at hp
  subst hp
  rw [okW_no c _ h0]
  exact ⟨_, rfl, textsAt_nil w', hb⟩
theorem lookE_le (l : List UInt8) : Sl.lookE l ≤ 2 := by
 unfold Sl.lookE
 split
 ·
  omega
 ·
  split <;> omega
theorem openE_le (key : Int) (l : List UInt8) : Sl.openE key l ≤ 16 := by
 have := lookE_le l
 unfold Sl.openE
 split
 ·
  split
  ·
   split <;> omega
  ·
   omega
 ·
  omega
theorem coded_self (a : Nat → Addr) (c : Nat) (hc : c ≤ 16) (w : World) (h : Errs a w) :
  Calls Tryz.prog 21 #[errV a c, .int .i64 (c : Int)] w fun e w' => e = .returned (.bool true) ∧ Below w.heap.size w w' := by
 have := coded_errV a c hc (c : Int) w h
 rwa [decide_eq_true rfl] at this
end Go.Proofs.YtabpnjchocgakaaGreatDoor

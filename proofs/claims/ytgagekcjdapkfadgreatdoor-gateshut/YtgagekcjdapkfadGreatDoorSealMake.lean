/-
  What seal.Make answers: ErrKey, ErrShape for no words or more than ten, an *api.Fault with ErrText at the first that is no word, else the sealed text; for every key and slice of texts.
-/
import Derived.Test.YtgagekcjdapkfadGreatDoorSealOpen
namespace Go.Proofs.YtgagekcjdapkfadGreatDoor
open Go.RowKit Go.Extern.Stop Go.Stop Go.Extern

set_option maxRecDepth 100000 in
theorem make_key_ev (a : Nat → Addr) (key : Int) (v : Value) (w : World) (h : EnvE a w) (hk : ¬ (1 ≤ key ∧ key ≤ 1000000006)) :
    Calls Tryz.prog 70 #[.int .i64 key, v] w fun e w' => e = .returned (.tuple #[.string ⟨#[]⟩, eV (a 9)]) ∧ Below w.heap.size w w' := by
  have HK := hide (keyError_ev a key w h.errs)
  rw [key_more, if_neg hk, show errV a 10 = eV (a 9) from rfl] at HK
  clear hk h
  go_enter Tryz.func70, Tryz.ntmps70
  go_wp2_with fail
  refine HK.out.mono ?_
  rintro e w1 ⟨rfl, hb⟩
  have HB := hide hb
  clear hb
  go_wp2
  go_ret2
  exact ⟨rfl, HB.out⟩

set_option maxRecDepth 100000 in
theorem make_count_ev (a : Nat → Addr) (key : Int) (ad : Option Addr) (n c : Nat) (w : World) (h : EnvE a w) (hk : 1 ≤ key ∧ key ≤ 1000000006) (hn : ¬ (1 ≤ n ∧ n ≤ 10)) :
    Calls Tryz.prog 70 #[.int .i64 key, .slice ad n c] w fun e w' => e = .returned (.tuple #[.string ⟨#[]⟩, eV (a 2)]) ∧ Below w.heap.size w w' := by
  have HK := hide (keyError_ev a key w h.errs)
  rw [key_more, if_pos hk, show errV a 0 = Value.nilIface from rfl] at HK
  have HC := hide (fun w => isCount_any (n : Int) w)
  rw [decide_eq_false (by omega)] at HC
  have HE := hide h
  clear hk h hn
  go_enter Tryz.func70, Tryz.ntmps70
  go_wp2_with fail
  refine HK.out.mono ?_
  rintro e w1 ⟨rfl, hb⟩
  have HB := hide hb
  have hv := (HE.out.below hb).errs.var 2 (by decide) rfl
  simp only [errG, List.getD_cons_zero, List.getD_cons_succ] at hv
  clear hb HE
  go_wp2_with fail
  refine (HC.out _).mono ?_
  rintro e w2 ⟨rfl, rfl⟩
  go_wp2
  go_quiet (fail)
  go_wp2
  go_ret2
  exact ⟨rfl, below_drewN HB.out _⟩

set_option maxRecDepth 100000 in
set_option maxHeartbeats 1000000 in
theorem make_wrong_ev (a : Nat → Addr) (key : Int) (b o n c : Nat) (xs : List ByteArray) (w : World) (h : EnvE a w) (hk : 1 ≤ key ∧ key ≤ 1000000006) (hn : 1 ≤ n ∧ n ≤ 10) (hx : Texts w b o xs) (hl : xs.length = n) (hs : ∀ x ∈ xs, x.size ≤ maxLen) (k : Nat) (hw : wrongI xs = k) :
    Calls Tryz.prog 70 #[.int .i64 key, .slice (some ⟨b, o, none⟩) n c] w fun e w' => ∃ f, w'.cell? ⟨f, 0, none⟩ = some (.int .i64 k) ∧ w'.cell? ⟨f, 1, none⟩ = some (eV (a 0)) ∧ e = .returned (.tuple #[.string ⟨#[]⟩, fV f 0]) ∧ Below w.heap.size w w' := by
  have HK := hide (keyError_ev a key w h.errs)
  rw [key_more, if_pos hk, show errV a 0 = Value.nilIface from rfl] at HK
  have HC := hide (fun w => isCount_any (n : Int) w)
  rw [decide_eq_true (by omega)] at HC
  have HF := hide (fun w hx => firstWrong_any xs b o n c w hs (by omega) hl hx)
  rw [hw] at HF
  have HE := hide h
  have HX := hide hx
  have hk0 : (0 : Int) ≤ (k : Int) := by omega
  clear hk h hn hx hl hs hw
  generalize (k : Int) = z at *
  go_enter Tryz.func70, Tryz.ntmps70
  go_wp2_with fail
  refine HK.out.mono ?_
  rintro e w1 ⟨rfl, hb⟩
  have HB := hide hb
  have HE1 := hide (HE.out.below hb)
  have HX1 := hide (HX.out.below hb)
  clear hb HE HX HK
  go_wp2_with fail
  refine (HC.out _).mono ?_
  rintro e w2 ⟨rfl, rfl⟩
  go_wp2_with fail
  refine (HF.out _ HX1.out).mono ?_
  rintro e w3 ⟨rfl, hb⟩
  have HB3 : Hid (Below w.heap.size w w3) := HB.out.trans (hb.mono HB.out.size)
  have HE3 := hide (HE1.out.below hb)
  have hv := HE3.out.errs.var 0 (by decide) rfl
  have hv2 := HE3.out.errs.later 0 (by decide) rfl
  simp only [errG, List.getD_cons_zero] at hv hv2
  clear hb HE1 HX1 HF HC HB
  go_wp2
  go_region
  go_wp2
  go_ret2
  exact ⟨w3.heap.size, by simp, by simp, rfl, (HB3.out.alloc HB3.out.size _).drew⟩

theorem below_grow (w : World) (k : Nat) (os : Array Obj) : Below w.heap.size w (Sort.grow (w.drewN k) os) := by
  refine ⟨rfl, rfl, rfl, ?_, fun j hj => ?_⟩
  · show w.heap.size ≤ (w.heap ++ os).size
    rw [Array.size_append]; omega
  · exact Sort.heap_grow_old (w.drewN k) os hj

set_option maxRecDepth 100000 in
set_option maxHeartbeats 1000000 in
theorem make_ok_ev (a : Nat → Addr) (key : Int) (b o n c : Nat) (xs : List ByteArray) (w : World) (h : EnvE a w) (hk : 1 ≤ key ∧ key ≤ 1000000006) (hc : n ≤ c) (hx : Texts w b o xs) (hl : xs.length = n) (hw : Sl.wordsOk (xs.map (·.data.toList)) = true) :
    Calls Tryz.prog 70 #[.int .i64 key, .slice (some ⟨b, o, none⟩) n c] w fun e w' => e = .returned (.tuple #[.string (Sl.ofL (Sl.sealL key (xs.map (·.data.toList)))), .nilIface]) ∧ Below w.heap.size w w' := by
  have HK := hide (keyError_ev a key w h.errs)
  rw [key_more, if_pos hk, show errV a 0 = Value.nilIface from rfl] at HK
  obtain ⟨⟨h1, h10⟩, hall⟩ := (Sl.wordsOk_iff _).1 hw
  rw [List.length_map, hl] at h1 h10
  have HC := hide (fun w => isCount_any (n : Int) w)
  rw [decide_eq_true (by omega)] at HC
  have hone : ∀ x ∈ xs, Sl.wordL x.data.toList = true := fun x hm => hall _ (List.mem_map.2 ⟨x, hm, rfl⟩)
  have hs : ∀ x ∈ xs, x.size ≤ maxLen := fun x hm => by
    have := (Sl.word_len _ (hone x hm)).2
    rw [size_list] at this
    unfold maxLen; omega
  have HF := hide (fun w hx => firstWrong_any xs b o n c w hs (by omega) hl hx)
  rw [wrongI_none xs (fun j hj => hone _ (List.getElem_mem hj))] at HF
  have hgl : (Sl.glue (xs.map (·.data.toList))).length ≤ 210 := by
    have := Sl.glue_len 20 (xs.map (·.data.toList)) (fun l hm => (Sl.word_len l (hall l hm)).2)
    rw [List.length_map, hl] at this
    omega
  have HJ : Hid (∀ w, Texts w b o xs → Calls Tryz.prog 111 #[.slice (some ⟨b, o, none⟩) n c, .string ⟨#[32]⟩] w fun e w' => e = .returned (.string (Sl.ofL (Sl.glue (xs.map (·.data.toList))))) ∧ Below w.heap.size w w') := fun w hx => by
    have := Tryz.strings_Join b o c xs ⟨#[32]⟩ w (fun j x hj => by
      obtain ⟨hj', e⟩ := List.getElem?_eq_some_iff.1 hj
      rw [hx j hj', e]) (hx.lt (by omega)) (by omega) (by omega) (by show (Sl.glue (xs.map (·.data.toList))).length ≤ _; omega)
    rw [hl] at this
    exact this
  have HO := hide (fun w h => of_keyS a key (Sl.ofL (Sl.glue (xs.map (·.data.toList)))) w h (by rw [Sl.ofL_size]; unfold maxLen; omega) hk)
  rw [Sl.toL_ofL] at HO
  have hmk := Mk.mk_bd key key (by omega) (Sl.glue (xs.map (·.data.toList)))
  have HI := hide (fun w (h : EnvE a w) => Tryz.strconv_Itoa (Mk.mk key key (Sl.glue (xs.map (·.data.toList)))) (by omega) (by omega) w h.tab)
  have hit : (⟨(Lib.itoa (Mk.mk key key (Sl.glue (xs.map (·.data.toList))))).toArray⟩ : ByteArray) = Sl.ofL (Lib.decDigits (Sl.sealM key (xs.map (·.data.toList)))) := by
    rw [← Sl.sealM_mk key hk, Lib.itoa_nonneg]
    rfl
  rw [hit] at HI
  have hd := (Sl.numOk_iff _).1 (Sl.dec_ok (Sl.sealM key (xs.map (·.data.toList))) (by have := Sl.sealM_le key hk (xs.map (·.data.toList)); omega))
  have hz1 : (Sl.ofL (Sl.glue (xs.map (·.data.toList)))).size ≤ 210 := by rw [Sl.ofL_size]; exact hgl
  have hz2 : (Sl.ofL (Lib.decDigits (Sl.sealM key (xs.map (·.data.toList))))).size ≤ 10 := by rw [Sl.ofL_size]; exact hd.1.2
  have HR : Hid (Sl.ofL (Sl.glue (xs.map (·.data.toList))) ++ ⟨#[32]⟩ ++ Sl.ofL (Lib.decDigits (Sl.sealM key (xs.map (·.data.toList)))) = Sl.ofL (Sl.sealL key (xs.map (·.data.toList)))) := by
    show _ = _
    refine Sl.ba_ext ?_
    rw [ba_toList, ba_toList]
    unfold Sl.sealL
    simp only [Sl.toL_ofL]
    simp
  have HE := hide h
  have HX := hide hx
  clear hk h hx hl hs hw hit hd hgl hone hall h1 h10 hc hmk
  generalize Sl.ofL (Sl.sealL key (xs.map (·.data.toList))) = res at *
  generalize Sl.ofL (Lib.decDigits (Sl.sealM key (xs.map (·.data.toList)))) = dg at *
  generalize Mk.mk key key (Sl.glue (xs.map (·.data.toList))) = m at *
  generalize Sl.ofL (Sl.glue (xs.map (·.data.toList))) = g at *
  go_enter Tryz.func70, Tryz.ntmps70
  go_wp2_with fail
  refine HK.out.mono ?_
  rintro e w1 ⟨rfl, hb⟩
  have HB1 := hide hb
  have HE1 := hide (HE.out.below hb)
  have HX1 := hide (HX.out.below hb)
  clear hb HE HX HK
  go_wp2_with fail
  refine (HC.out _).mono ?_
  rintro e w2 ⟨rfl, rfl⟩
  go_wp2_with fail
  refine (HF.out _ HX1.out).mono ?_
  rintro e w3 ⟨rfl, hb⟩
  have HB3 : Hid (Below w.heap.size w w3) := HB1.out.trans (hb.mono HB1.out.size)
  have HE3 := hide (HE1.out.below hb)
  have HX3 := hide (HX1.out.below hb)
  clear hb HE1 HX1 HF HC HB1
  go_wp2_with fail
  refine (HJ.out _ HX3.out).mono ?_
  rintro e w4 ⟨rfl, hb⟩
  have HB4 : Hid (Below w.heap.size w w4) := HB3.out.trans (hb.mono HB3.out.size)
  have HE4 := hide (HE3.out.below hb)
  clear hb HE3 HX3 HJ HB3
  go_wp2_with fail
  refine (HO.out _ HE4.out.errs).mono ?_
  rintro e w5 ⟨rfl, hb⟩
  have HB5 : Hid (Below w.heap.size w w5) := HB4.out.trans (hb.mono HB4.out.size)
  have HE5 := hide (HE4.out.below hb)
  clear hb HE4 HO HB4
  go_wp2_with fail
  refine (HI.out _ HE5.out).mono ?_
  rintro e w6 ⟨rfl, k, os, rfl⟩
  have HB6 : Hid (Below w.heap.size w (Sort.grow (w5.drewN k) os)) := HB5.out.trans ((below_grow w5 k os).mono HB5.out.size)
  generalize Sort.grow (w5.drewN k) os = w6 at *
  clear HE5 HI HB5
  go_wp2
  go_ret2
  exact ⟨by rw [← HR.out]; rfl, HB6.out⟩
theorem make_key (a : Nat → Addr) (key : Int) (v : Value) (w : World) (h : Env a w) (hk : ¬ (1 ≤ key ∧ key ≤ 1000000006)) :
    Calls Tryz.prog 70 #[.int .i64 key, v] w fun e w' => e = .returned (.tuple #[.string ⟨#[]⟩, eV (a 9)]) ∧ Below w.heap.size w w' := make_key_ev a key v w h.s hk
theorem make_count (a : Nat → Addr) (key : Int) (ad : Option Addr) (n c : Nat) (w : World) (h : Env a w) (hk : 1 ≤ key ∧ key ≤ 1000000006) (hn : ¬ (1 ≤ n ∧ n ≤ 10)) :
    Calls Tryz.prog 70 #[.int .i64 key, .slice ad n c] w fun e w' => e = .returned (.tuple #[.string ⟨#[]⟩, eV (a 2)]) ∧ Below w.heap.size w w' := make_count_ev a key ad n c w h.s hk hn
theorem make_wrong (a : Nat → Addr) (key : Int) (b o n c : Nat) (xs : List ByteArray) (w : World) (h : Env a w) (hk : 1 ≤ key ∧ key ≤ 1000000006) (hn : 1 ≤ n ∧ n ≤ 10) (hx : Texts w b o xs) (hl : xs.length = n) (hs : ∀ x ∈ xs, x.size ≤ maxLen) (k : Nat) (hw : wrongI xs = k) :
    Calls Tryz.prog 70 #[.int .i64 key, .slice (some ⟨b, o, none⟩) n c] w fun e w' => ∃ f, w'.cell? ⟨f, 0, none⟩ = some (.int .i64 k) ∧ w'.cell? ⟨f, 1, none⟩ = some (eV (a 0)) ∧ e = .returned (.tuple #[.string ⟨#[]⟩, fV f 0]) ∧ Below w.heap.size w w' := make_wrong_ev a key b o n c xs w h.s hk hn hx hl hs k hw
theorem make_ok (a : Nat → Addr) (key : Int) (b o n c : Nat) (xs : List ByteArray) (w : World) (h : Env a w) (hk : 1 ≤ key ∧ key ≤ 1000000006) (hc : n ≤ c) (hx : Texts w b o xs) (hl : xs.length = n) (hw : Sl.wordsOk (xs.map (·.data.toList)) = true) :
    Calls Tryz.prog 70 #[.int .i64 key, .slice (some ⟨b, o, none⟩) n c] w fun e w' => e = .returned (.tuple #[.string (Sl.ofL (Sl.sealL key (xs.map (·.data.toList)))), .nilIface]) ∧ Below w.heap.size w w' := make_ok_ev a key b o n c xs w h.s hk hc hx hl hw
end Go.Proofs.YtgagekcjdapkfadGreatDoor

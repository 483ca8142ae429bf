/-
  The call of SealBack at a key and words: what was sealed is opened as it was, and with one byte another one it is not; nothing that was there changes.
-/
import Derived.Test.YtgagekcjdapkfaaGreatDoorSealBack
namespace Go.Proofs.YtgagekcjdapkfaaGreatDoor
open Go.RowKit Go.Extern.Stop Go.Stop Go.Extern

theorem toLs_ofL (xs : List ByteArray) : (toLs xs).map Sl.ofL = xs := Sl.map_ofL xs

/-- A sealed text byte by byte: a blank at one place, none behind it. -/
theorem seal_bytes (key : Int) (hk : 1 ≤ key ∧ key ≤ 1000000006) (ws : List (List UInt8)) (hw : Sl.wordsOk ws = true) (t : ByteArray) (ht : t.data.toList = Sl.sealL key ws) :
    (Sl.glue ws).length < t.size ∧ 1 ≤ (Sl.glue ws).length ∧ t.size ≤ 400 ∧ (∀ k (hk : k < t.size), (Sl.glue ws).length < k → ((t[k].toNat : Int) != 32) = true) ∧ (∀ hg : (Sl.glue ws).length < t.size, ((t[(Sl.glue ws).length].toNat : Int) != 32) = false) := by
  obtain ⟨_, _, _, _, hle⟩ := Sl.seal_look key hk ws hw
  have hcl := Sl.num_clean _ (Sl.dec_ok (Sl.sealM key ws) (by have := Sl.sealM_le key hk ws; omega))
  have hsz : t.size = (Sl.sealL key ws).length := by rw [← size_list, ht]
  have h32 : (32 : UInt8).toNat = 32 := by decide
  have hat : ∀ k (hk : k < t.size), (Sl.sealL key ws)[k]? = some t[k] := fun k hk => by
    rw [← ht, List.getElem?_eq_getElem (by rw [size_list]; exact hk)]
    rfl
  refine ⟨?_, Sl.glue_ne ws hw, by omega, fun k hk2 hlt => ?_, fun hg => ?_⟩
  · rw [hsz]
    unfold Sl.sealL
    simp
  · have := hat k hk2
    unfold Sl.sealL at this
    obtain ⟨i, rfl⟩ : ∃ i, k = (Sl.glue ws).length + 1 + i := ⟨k - (Sl.glue ws).length - 1, by omega⟩
    rw [List.getElem?_append_right (by omega), show (Sl.glue ws).length + 1 + i - (Sl.glue ws).length = i + 1 by omega, List.getElem?_cons_succ] at this
    have hm := List.mem_of_getElem? this
    rw [bne_iff_ne]
    intro e
    exact hcl (by
      have e2 : t[(Sl.glue ws).length + 1 + i] = 32 := UInt8.toNat_inj.1 (by omega)
      rw [← e2]; exact hm)
  · have := hat _ hg
    unfold Sl.sealL at this
    rw [List.getElem?_append_right (by omega), Nat.sub_self, List.getElem?_cons_zero] at this
    rw [← Option.some.inj this]
    decide

set_option maxRecDepth 100000 in
set_option maxHeartbeats 4000000 in
theorem sealBack_ok (a : Nat → Addr) (key : Int) (v : Value) (xs : List ByteArray) (s : ByteArray) (at0 x : Int) (w : World) (h : Env a w) (hv : TextsAt w v xs) (hs : ∀ x ∈ xs, x.size ≤ maxLen) (hl : longB xs = false) (hz : s.size ≤ 400)
    (hat : I64 at0) (hxb : U8 x) (hk : 1 ≤ key ∧ key ≤ 1000000006) (hw : Sl.wordsOk (toLs xs) = true) :
    Calls Tryz.prog 3 #[.int .i64 key, v, .string s, .int .i64 at0, .int .u8 x] w fun e w' => e = .returned (.bool true) ∧ Below w.heap.size w w' := by
  have HS := hide (sealed_any a w h)
  have HW := hide (fun w hv => longWords_any v xs w hv hs)
  have HM := hide (fun w h hv => make_good a key v xs w h hv hk hw)
  have HO := hide (fun w h => open_cases a key s w h)
  have HK := hide (fun b w h h0 hx => make_back a key s b w h h0 hx)
  obtain ⟨h1, h2, h3, h4, h5⟩ := Sl.seal_look key hk (toLs xs) hw
  have hlen : (toLs xs).length = xs.length := by simp
  have HO2 : Hid (∀ w, Env a w → Calls Tryz.prog 7 #[.int .i64 key, .string (Sl.ofL (Sl.sealL key (toLs xs)))] w fun e w' => ∃ b, Texts w' b 0 xs ∧ e = .returned (.tuple #[.slice (some ⟨b, 0, none⟩) xs.length xs.length, .nilIface]) ∧ Below w.heap.size w w') := fun w hw => by
    refine (open_any a key (Sl.ofL (Sl.sealL key (toLs xs))) w hw).mono ?_
    rintro e w' ⟨hb, hp⟩
    rw [Sl.toL_ofL, h1, h4] at hp
    unfold WordsPost at hp
    rw [if_pos rfl, toLs_ofL, hlen] at hp
    obtain ⟨b, hx, he⟩ := hp
    exact ⟨b, hx, he, hb⟩
  have hn15 : xs.length ≤ 1000000 := by
    have := ((Sl.wordsOk_iff _).1 hw).1
    rw [hlen] at this
    omega
  have HT := hide (fun b w hx hv => sameTexts_any v xs b w hn15 hx hv)
  have hbytes := seal_bytes key hk (toLs xs) hw (Sl.ofL (Sl.sealL key (toLs xs))) (Sl.toL_ofL _)
  have HSet : Hid (∀ j (hj : j < (Sl.ofL (Sl.sealL key (toLs xs))).size) (c : UInt8), (Sl.ofL (Sl.sealL key (toLs xs)))[j] ≠ c → j ≠ (Sl.glue (toLs xs)).length → ((Sl.glue (toLs xs)).length < j → c ≠ 32) → Sl.openE key ((Sl.ofL (Sl.sealL key (toLs xs))).data.toList.set j c) ≠ 0) :=
    fun j hj c hc hg hb => Sl.seal_set key hk (toLs xs) hw j (by rw [Sl.ofL_size] at hj; exact hj) c hc hg hb
  have HV := hide hv
  have HE := hide h
  have Ht := hide hxb
  unfold I64 at hat
  rw [hl] at HW
  clear h hv hs hl h1 h2 h3 h4 h5 hlen hn15 hxb hk hw
  generalize Sl.ofL (Sl.sealL key (toLs xs)) = t at *
  generalize (Sl.glue (toLs xs)).length = g at *
  obtain ⟨hg1, hg2, hg3, hdig, hbl⟩ := hbytes
  have Hdig := hide hdig
  have Hbl := hide hbl
  clear hdig hbl
  generalize xs.length = nx at *
  go_enter Tryz.func3, Tryz.ntmps3
  go_wp2_with fail
  refine HS.out.mono ?_
  rintro e w1 ⟨rfl, hb⟩
  have HV1 := hide (HV.out.below hb)
  have HE1 := hide (HE.out.below hb)
  have HB1 := hide hb
  clear hb HV HE HS
  go_wp2_with fail
  refine (HW.out _ HV1.out).mono ?_
  rintro e w2 ⟨rfl, hb⟩
  have HB2 : Hid (Below w.heap.size w w2) := HB1.out.trans (hb.mono HB1.out.size)
  have HV2 := hide (HV1.out.below hb)
  have HE2 := hide (HE1.out.below hb)
  clear hb HB1 HV1 HE1 HW
  go_wp2_with fail
  refine (HO.out _ HE2.out).mono ?_
  rintro e w30 ⟨hb, ⟨h0, b, hx, rfl⟩ | ⟨h0, p, rfl⟩⟩
  · have HB30 : Hid (Below w.heap.size w w30) := HB2.out.trans (hb.mono HB2.out.size)
    have HV30 := hide (HV2.out.below hb)
    have HE30 := hide (HE2.out.below hb)
    have HKK := hide (HK.out b w30 HE30.out h0 hx)
    clear hb h0 hx HB2 HV2 HE2 HO HK
    generalize (Sl.lookW s.data.toList).length = n at *
    go_wp2_with fail
    refine HKK.out.mono ?_
    rintro e w3 ⟨rfl, hb⟩
    have HB3 : Hid (Below w.heap.size w w3) := HB30.out.trans (hb.mono HB30.out.size)
    have HV3 := hide (HV30.out.below hb)
    have HE3 := hide (HE30.out.below hb)
    clear hb HB30 HV30 HE30 HKK
    go_wp2_with fail
    refine (HM.out _ HE3.out HV3.out).mono ?_
    rintro e w5 ⟨rfl, hb⟩
    have HB5 : Hid (Below w.heap.size w w5) := HB3.out.trans (hb.mono HB3.out.size)
    have HV5 := hide (HV3.out.below hb)
    have HE5 := hide (HE3.out.below hb)
    clear hb HM HB3 HV3 HE3
    go_wp2_with fail
    refine (HO2.out _ HE5.out).mono ?_
    rintro e w6 ⟨b6, hx6, rfl, hb⟩
    have HB6 : Hid (Below w.heap.size w w6) := HB5.out.trans (hb.mono HB5.out.size)
    have HV6 := hide (HV5.out.below hb)
    have HE6 := hide (HE5.out.below hb)
    have HT6 := hide (HT.out _ _ hx6 HV6.out)
    clear hb hx6 HO2 HB5 HV5 HE5
    go_wp2_with fail
    refine HT6.out.mono ?_
    rintro e w7 ⟨rfl, hb⟩
    have HB7 : Hid (Below w.heap.size w w7) := HB6.out.trans (hb.mono HB6.out.size)
    have HE7 := hide (HE6.out.below hb)
    clear hb HT6 HT HB6 HV6 HE6
    by_cases ha1 : at0 < 0
    · go_wp2
      go_ret
      exact ⟨rfl, HB7.out⟩
    · by_cases ha2 : (t.size : Int) ≤ at0
      · go_wp2
        go_ret
        exact ⟨rfl, HB7.out⟩
      · obtain ⟨j, rfl⟩ := Int.eq_ofNat_of_zero_le (show 0 ≤ at0 by omega)
        have hj : j < t.size := by omega
        obtain ⟨cx, hcx⟩ : ∃ c : UInt8, (c.toNat : Int) = x := ⟨UInt8.ofNat x.toNat, by rw [UInt8.toNat_ofNat']; have := Ht.out; unfold U8 at this; omega⟩
        subst hcx
        have hc0 : (0 : Int) ≤ (cx.toNat : Int) := by omega
        have hc1 : (cx.toNat : Int) ≤ 255 := by have := cx.toNat_lt; omega
        clear Ht
        go_wp2
        go_loop [17] (fun c => ∃ k : Nat, g ≤ k ∧ k < t.size ∧ c = .int .i64 k) (fun c => (intOf c).toNat)
        case atStart => exact ⟨t.size - 1, by omega, by omega, by go_num⟩
        case round =>
          obtain ⟨k, hk1, hk2, rfl⟩ := hrel
          by_cases hgk : g < k
          · have hne := Hdig.out k hk2 hgk
            go_wp2
            go_round
            case rel => exact ⟨k - 1, by omega, by omega, by go_num⟩
            case measure => simp [intOf]; omega
          · have hkg : k = g := by omega
            subst hkg
            have hbl := Hbl.out hk2
            clear hgk hk1
            by_cases heq : t[j] = cx
            · have hq : ((t[j].toNat : Int) == (cx.toNat : Int)) = true := by simp [heq]
              clear heq
              go_wp2
              go_ret
              exact ⟨rfl, HB7.out⟩
            · have hq : ((t[j].toNat : Int) == (cx.toNat : Int)) = false := by
                rw [beq_eq_false_iff_ne]
                intro e
                exact heq (UInt8.toNat_inj.1 (by omega))
              by_cases hjk : j = k
              · have hq2 : ((j : Int) == (k : Int)) = true := by simp [hjk]
                clear heq hjk
                go_wp2
                go_ret
                exact ⟨rfl, HB7.out⟩
              · have hq2 : ((j : Int) == (k : Int)) = false := by rw [beq_eq_false_iff_ne]; omega
                by_cases hb32 : k < j ∧ cx = 32
                · have hq3 : ((cx.toNat : Int) == 32) = true := by rw [hb32.2]; decide
                  have hlt : (k : Int) < (j : Int) := by omega
                  clear heq hjk hb32
                  go_wp2
                  go_ret
                  exact ⟨rfl, HB7.out⟩
                · have Hset := hide (HSet.out j hj cx heq hjk (fun h e => hb32 ⟨h, e⟩))
                  have hq3 : (k : Int) ≥ (j : Int) ∨ ((k : Int) < (j : Int) ∧ ((cx.toNat : Int) == 32) = false) := by
                    by_cases hkj : k < j
                    · refine Or.inr ⟨by omega, ?_⟩
                      rw [beq_eq_false_iff_ne]
                      intro e
                      refine hb32 ⟨hkj, UInt8.toNat_inj.1 ?_⟩
                      have : (32 : UInt8).toNat = 32 := by decide
                      omega
                    · exact Or.inl (by omega)
                  clear heq hjk hb32 HSet
                  obtain ⟨w8, cap, hconv, hcell, hfr, hb8, hz8⟩ := bytes_at t w7
                  obtain ⟨old, hck⟩ : ∃ old, w8.cell? ⟨w7.heap.size, j, none⟩ = some (.int .u8 old) := ⟨_, hcell j hj⟩
                  have hfk := hfr j hj
                  have HB8 : Hid (Below w.heap.size w w8) := HB7.out.trans (hb8.mono HB7.out.size)
                  have HE9 : Hid (Env a (w8.setCell ⟨w7.heap.size, j, none⟩ (.int .u8 (cx.toNat : Int)))) := HE7.out.below (hb8.setCell (Nat.le_refl _) _)
                  have HB9 : Hid (Below w.heap.size w (w8.setCell ⟨w7.heap.size, j, none⟩ (.int .u8 (cx.toNat : Int)))) := HB8.out.setCell HB7.out.size _
                  have hlen : (t.data.toList.set j cx).length = t.size := by simp
                  have hcs := set_cells t cx j w7.heap.size w8 hj hcell
                  have hback := string_of (t.data.toList.set j cx) t.size w7.heap.size cap _ hlen.symm hcs
                  have HOr := hide (fun w h => open_cases a key ⟨(t.data.toList.set j cx).toArray⟩ w h)
                  clear hcell hfr hb8 hcs hlen hz8
                  generalize hr : ByteArray.mk (t.data.toList.set j cx).toArray = r at *
                  have HR : Hid (Sl.openE key r.data.toList ≠ 0) := by show _ ≠ _; rw [← hr]; exact Hset.out
                  clear hr Hset
                  rcases hq3 with hq3 | ⟨hq3, hq4⟩
                  · go_wp2_with fail
                    refine (HOr.out _ HE9.out).mono ?_
                    rintro e w10 ⟨hb, ⟨h0, _⟩ | ⟨_, p, rfl⟩⟩
                    · exact absurd h0 HR.out
                    · have HB10 : Hid (Below w.heap.size w w10) := HB9.out.trans (hb.mono HB9.out.size)
                      clear hb
                      go_wp2
                      go_ret
                      exact ⟨rfl, HB10.out⟩
                  · go_wp2_with fail
                    refine (HOr.out _ HE9.out).mono ?_
                    rintro e w10 ⟨hb, ⟨h0, _⟩ | ⟨_, p, rfl⟩⟩
                    · exact absurd h0 HR.out
                    · have HB10 : Hid (Below w.heap.size w w10) := HB9.out.trans (hb.mono HB9.out.size)
                      clear hb
                      go_wp2
                      go_ret
                      exact ⟨rfl, HB10.out⟩
  · have HB3 : Hid (Below w.heap.size w w30) := HB2.out.trans (hb.mono HB2.out.size)
    have HV3 := hide (HV2.out.below hb)
    have HE3 := hide (HE2.out.below hb)
    clear hb h0 HB2 HV2 HE2 HO HK
    go_wp2_with fail
    refine (HM.out _ HE3.out HV3.out).mono ?_
    rintro e w5 ⟨rfl, hb⟩
    have HB5 : Hid (Below w.heap.size w w5) := HB3.out.trans (hb.mono HB3.out.size)
    have HV5 := hide (HV3.out.below hb)
    have HE5 := hide (HE3.out.below hb)
    clear hb HM HB3 HV3 HE3
    go_wp2_with fail
    refine (HO2.out _ HE5.out).mono ?_
    rintro e w6 ⟨b6, hx6, rfl, hb⟩
    have HB6 : Hid (Below w.heap.size w w6) := HB5.out.trans (hb.mono HB5.out.size)
    have HV6 := hide (HV5.out.below hb)
    have HE6 := hide (HE5.out.below hb)
    have HT6 := hide (HT.out _ _ hx6 HV6.out)
    clear hb hx6 HO2 HB5 HV5 HE5
    go_wp2_with fail
    refine HT6.out.mono ?_
    rintro e w7 ⟨rfl, hb⟩
    have HB7 : Hid (Below w.heap.size w w7) := HB6.out.trans (hb.mono HB6.out.size)
    have HE7 := hide (HE6.out.below hb)
    clear hb HT6 HT HB6 HV6 HE6
    by_cases ha1 : at0 < 0
    · go_wp2
      go_ret
      exact ⟨rfl, HB7.out⟩
    · by_cases ha2 : (t.size : Int) ≤ at0
      · go_wp2
        go_ret
        exact ⟨rfl, HB7.out⟩
      · obtain ⟨j, rfl⟩ := Int.eq_ofNat_of_zero_le (show 0 ≤ at0 by omega)
        have hj : j < t.size := by omega
        obtain ⟨cx, hcx⟩ : ∃ c : UInt8, (c.toNat : Int) = x := ⟨UInt8.ofNat x.toNat, by rw [UInt8.toNat_ofNat']; have := Ht.out; unfold U8 at this; omega⟩
        subst hcx
        have hc0 : (0 : Int) ≤ (cx.toNat : Int) := by omega
        have hc1 : (cx.toNat : Int) ≤ 255 := by have := cx.toNat_lt; omega
        clear Ht
        go_wp2
        go_loop [17] (fun c => ∃ k : Nat, g ≤ k ∧ k < t.size ∧ c = .int .i64 k) (fun c => (intOf c).toNat)
        case atStart => exact ⟨t.size - 1, by omega, by omega, by go_num⟩
        case round =>
          obtain ⟨k, hk1, hk2, rfl⟩ := hrel
          by_cases hgk : g < k
          · have hne := Hdig.out k hk2 hgk
            go_wp2
            go_round
            case rel => exact ⟨k - 1, by omega, by omega, by go_num⟩
            case measure => simp [intOf]; omega
          · have hkg : k = g := by omega
            subst hkg
            have hbl := Hbl.out hk2
            clear hgk hk1
            by_cases heq : t[j] = cx
            · have hq : ((t[j].toNat : Int) == (cx.toNat : Int)) = true := by simp [heq]
              clear heq
              go_wp2
              go_ret
              exact ⟨rfl, HB7.out⟩
            · have hq : ((t[j].toNat : Int) == (cx.toNat : Int)) = false := by
                rw [beq_eq_false_iff_ne]
                intro e
                exact heq (UInt8.toNat_inj.1 (by omega))
              by_cases hjk : j = k
              · have hq2 : ((j : Int) == (k : Int)) = true := by simp [hjk]
                clear heq hjk
                go_wp2
                go_ret
                exact ⟨rfl, HB7.out⟩
              · have hq2 : ((j : Int) == (k : Int)) = false := by rw [beq_eq_false_iff_ne]; omega
                by_cases hb32 : k < j ∧ cx = 32
                · have hq3 : ((cx.toNat : Int) == 32) = true := by rw [hb32.2]; decide
                  have hlt : (k : Int) < (j : Int) := by omega
                  clear heq hjk hb32
                  go_wp2
                  go_ret
                  exact ⟨rfl, HB7.out⟩
                · have Hset := hide (HSet.out j hj cx heq hjk (fun h e => hb32 ⟨h, e⟩))
                  have hq3 : (k : Int) ≥ (j : Int) ∨ ((k : Int) < (j : Int) ∧ ((cx.toNat : Int) == 32) = false) := by
                    by_cases hkj : k < j
                    · refine Or.inr ⟨by omega, ?_⟩
                      rw [beq_eq_false_iff_ne]
                      intro e
                      refine hb32 ⟨hkj, UInt8.toNat_inj.1 ?_⟩
                      have : (32 : UInt8).toNat = 32 := by decide
                      omega
                    · exact Or.inl (by omega)
                  clear heq hjk hb32 HSet
                  obtain ⟨w8, cap, hconv, hcell, hfr, hb8, hz8⟩ := bytes_at t w7
                  obtain ⟨old, hck⟩ : ∃ old, w8.cell? ⟨w7.heap.size, j, none⟩ = some (.int .u8 old) := ⟨_, hcell j hj⟩
                  have hfk := hfr j hj
                  have HB8 : Hid (Below w.heap.size w w8) := HB7.out.trans (hb8.mono HB7.out.size)
                  have HE9 : Hid (Env a (w8.setCell ⟨w7.heap.size, j, none⟩ (.int .u8 (cx.toNat : Int)))) := HE7.out.below (hb8.setCell (Nat.le_refl _) _)
                  have HB9 : Hid (Below w.heap.size w (w8.setCell ⟨w7.heap.size, j, none⟩ (.int .u8 (cx.toNat : Int)))) := HB8.out.setCell HB7.out.size _
                  have hlen : (t.data.toList.set j cx).length = t.size := by simp
                  have hcs := set_cells t cx j w7.heap.size w8 hj hcell
                  have hback := string_of (t.data.toList.set j cx) t.size w7.heap.size cap _ hlen.symm hcs
                  have HOr := hide (fun w h => open_cases a key ⟨(t.data.toList.set j cx).toArray⟩ w h)
                  clear hcell hfr hb8 hcs hlen hz8
                  generalize hr : ByteArray.mk (t.data.toList.set j cx).toArray = r at *
                  have HR : Hid (Sl.openE key r.data.toList ≠ 0) := by show _ ≠ _; rw [← hr]; exact Hset.out
                  clear hr Hset
                  rcases hq3 with hq3 | ⟨hq3, hq4⟩
                  · go_wp2_with fail
                    refine (HOr.out _ HE9.out).mono ?_
                    rintro e w10 ⟨hb, ⟨h0, _⟩ | ⟨_, p, rfl⟩⟩
                    · exact absurd h0 HR.out
                    · have HB10 : Hid (Below w.heap.size w w10) := HB9.out.trans (hb.mono HB9.out.size)
                      clear hb
                      go_wp2
                      go_ret
                      exact ⟨rfl, HB10.out⟩
                  · go_wp2_with fail
                    refine (HOr.out _ HE9.out).mono ?_
                    rintro e w10 ⟨hb, ⟨h0, _⟩ | ⟨_, p, rfl⟩⟩
                    · exact absurd h0 HR.out
                    · have HB10 : Hid (Below w.heap.size w w10) := HB9.out.trans (hb.mono HB9.out.size)
                      clear hb
                      go_wp2
                      go_ret
                      exact ⟨rfl, HB10.out⟩

theorem sealBack_walk (a : Nat → Addr) (key : Int) (v : Value) (xs : List ByteArray) (s : ByteArray) (at0 x : Int) (w : World) (h : Env a w) (_ : I64 key) (hv : TextsAt w v xs) (hs : ∀ x ∈ xs, x.size ≤ maxLen) (hz : s.size ≤ maxLen) (hat : I64 at0) (hx : U8 x) :
    Calls Tryz.prog 3 #[.int .i64 key, v, .string s, .int .i64 at0, .int .u8 x] w fun e w' => e = .returned (.bool true) ∧ Below w.heap.size w w' := by
  by_cases hl : longB xs = true ∨ 400 < s.size
  · exact sealBack_long a key v xs s at0 x w h hv hs hz hl
  · have h1 : longB xs = false := by
      cases e : longB xs with
      | false => rfl
      | true => exact absurd (Or.inl e) hl
    have h2 : s.size ≤ 400 := by
      rcases Nat.lt_or_ge 400 s.size with g | g
      · exact absurd (Or.inr g) hl
      · exact g
    by_cases hg : (1 ≤ key ∧ key ≤ 1000000006) ∧ Sl.wordsOk (toLs xs) = true
    · exact sealBack_ok a key v xs s at0 x w h hv hs h1 h2 hat hx hg.1 hg.2
    · exact sealBack_fail a key v xs s at0 x w h hv hs h1 h2 hg
end Go.Proofs.YtgagekcjdapkfaaGreatDoor

/-
  The call of MarkParts returns true wherever the sixteen errors lie as the program lays them, for every key, two texts, a place and a byte; nothing that was there changes.
-/
import Derived.Test.YtpohajdgoaobfaaDoorMarkLaws
namespace Go.Proofs.YtpohajdgoaobfaaDoor
open Go.RowKit Go.Extern.Stop Go.Stop Go.Extern

theorem ba_toList (a b : ByteArray) : (a ++ b).data.toList = a.data.toList ++ b.data.toList := by simp
theorem size_list (s : ByteArray) : s.data.toList.length = s.size := by simp

/-- Short texts, and a key. -/
theorem of_key (a : Nat → Addr) (key : Int) (s : ByteArray) (w : World) (h : Errs a w) (hs : s.size ≤ maxLen) (hk : 1 ≤ key ∧ key ≤ 1000000006) :
    Calls Tryd.prog 11 #[.int .i64 key, .string s] w fun e w' => e = .returned (.tuple #[.int .i64 (Mk.mk key key s.data.toList), .nilIface]) ∧ Below w.heap.size w w' := by
  have := of_any a key s w h hs
  rw [show moreN key key s.data.toList = Mk.mk key key s.data.toList by simp [moreN, key_more, hk], show errV a (moreE key key) = .nilIface by rw [key_more, if_pos hk]; rfl] at this
  exact this
theorem of_nokey (a : Nat → Addr) (key : Int) (s : ByteArray) (w : World) (h : Errs a w) (hs : s.size ≤ maxLen) (hk : ¬ (1 ≤ key ∧ key ≤ 1000000006)) :
    Calls Tryd.prog 11 #[.int .i64 key, .string s] w fun e w' => e = .returned (.tuple #[.int .i64 0, eV (a 9)]) ∧ Below w.heap.size w w' := by
  have := of_any a key s w h hs
  rw [show moreN key key s.data.toList = 0 by simp [moreN, key_more, hk], show errV a (moreE key key) = eV (a 9) by rw [key_more, if_neg hk]; rfl] at this
  exact this
theorem more_key (a : Nat → Addr) (key n : Int) (s : ByteArray) (w : World) (h : Errs a w) (hs : s.size ≤ maxLen) (hk : 1 ≤ key ∧ key ≤ 1000000006) (hn : 0 ≤ n ∧ n ≤ 1000000006) :
    Calls Tryd.prog 12 #[.int .i64 key, .int .i64 n, .string s] w fun e w' => e = .returned (.tuple #[.int .i64 (Mk.mk key n s.data.toList), .nilIface]) ∧ Below w.heap.size w w' := by
  have e1 : moreE key n = 0 := by simp [moreE, hk, hn]
  have := more_any a key n s w h hs
  rw [show moreN key n s.data.toList = Mk.mk key n s.data.toList by simp [moreN, e1], show errV a (moreE key n) = .nilIface by rw [e1]; rfl] at this
  exact this
theorem right_yes (a : Nat → Addr) (key : Int) (s : ByteArray) (n : Int) (w : World) (h : Errs a w) (hs : s.size ≤ maxLen) (hk : 1 ≤ key ∧ key ≤ 1000000006) (hn : Mk.mk key key s.data.toList = n) :
    Calls Tryd.prog 13 #[.int .i64 key, .string s, .int .i64 n] w fun e w' => e = .returned .nilIface ∧ Below w.heap.size w w' := by
  have := right_any a key s n w h hs
  rw [show rightE key s.data.toList n = 0 by simp [rightE, hk, hn]] at this
  exact this
theorem right_no (a : Nat → Addr) (key : Int) (s : ByteArray) (n : Int) (w : World) (h : Errs a w) (hs : s.size ≤ maxLen) (hk : 1 ≤ key ∧ key ≤ 1000000006) (hn : Mk.mk key key s.data.toList ≠ n) :
    Calls Tryd.prog 13 #[.int .i64 key, .string s, .int .i64 n] w fun e w' => e = .returned (eV (a 8)) ∧ Below w.heap.size w w' := by
  have := right_any a key s n w h hs
  rw [show rightE key s.data.toList n = 9 by simp [rightE, hk, hn]] at this
  exact this

/-- What '[]byte(s)' gives, its world named. -/
theorem bytes_at (s : ByteArray) (w : World) : ∃ (w' : World) (cap : Nat), (convert 9 39 (.string s)).run Tryd.prog w = .ok (.slice (some ⟨w.heap.size, 0, none⟩) s.size cap) w' ∧
    (∀ j (hj : j < s.size), w'.cell? ⟨w.heap.size, j, none⟩ = some (.int .u8 (s[j].toNat : Int))) ∧ (∀ j, j < s.size → w'.frozen? ⟨w.heap.size, j, none⟩ = false) ∧ Below w.heap.size w w' ∧ w.heap.size < w'.heap.size := by
  obtain ⟨C, cap, hconv, hC⟩ := bytes_of s w
  have hsz : ∀ j, j < s.size → j < C.size := fun j hj => by
    rcases Nat.lt_or_ge j C.size with g | g
    · exact g
    · have := hC j hj
      rw [Array.getElem?_eq_none g] at this
      cases this
  refine ⟨_, cap, hconv, fun j hj => ?_, fun j hj => ?_, (Below.refl _ _).drew.alloc (Nat.le_refl _) _, by simp⟩
  · exact (World.cell?_alloc_mark w.drew C _ _ j).trans (hC j hj)
  · refine (World.frozen?_alloc_mark w.drew C _ _ _ j).trans ?_
    have := hsz j hj
    simp; omega

/-- 'string(b)', b's cells the bytes of a list. -/
theorem string_of (l : List UInt8) (n b cap : Nat) (w : World) (hn : n = l.length) (hc : ∀ j (hj : j < l.length), w.cell? ⟨b, j, none⟩ = some (.int .u8 (l[j].toNat : Int))) :
    (convert 39 9 (.slice (some ⟨b, 0, none⟩) n cap)).run Tryd.prog w = .ok (.string ⟨l.toArray⟩) w := by
  subst hn
  exact run_convert_bytes_back w 39 9 5 ⟨b, 0, none⟩ cap l Tryd.underlying39 Tryd.underlying5 Tryd.underlying9 (fun j hj => by
    have e : (Addr.add ⟨b, 0, none⟩ j) = ⟨b, j, none⟩ := by
      simp only [Addr.add, Nat.zero_add]
      split <;> simp_all
    rw [e]; exact hc j hj)

/-- One byte stored. -/
theorem set_cells (s : ByteArray) (c : UInt8) (k B : Nat) (w : World) (hk : k < s.size) (hcell : ∀ j (hj : j < s.size), w.cell? ⟨B, j, none⟩ = some (.int .u8 (s[j].toNat : Int))) :
    ∀ j (hj : j < (s.data.toList.set k c).length), (w.setCell ⟨B, k, none⟩ (.int .u8 (c.toNat : Int))).cell? ⟨B, j, none⟩ = some (.int .u8 ((s.data.toList.set k c)[j].toNat : Int)) := by
  intro j hj
  have hjs : j < s.size := by simpa using hj
  by_cases hjk : k = j
  · subst hjk
    rw [World.cell?_setCell_same _ _ _ (hcell k hk)]
    simp
  · have hne : (⟨B, k, none⟩ : Addr) ≠ ⟨B, j, none⟩  := fun e => hjk (Addr.mk.inj e).2.1
    refine (World.cell?_setCell_other _ _ _ _ hne).trans ?_
    rw [hcell j hjs, List.getElem_set_ne hjk]
    rfl

set_option maxRecDepth 100000 in
set_option maxHeartbeats 2000000 in
theorem markParts_any (a : Nat → Addr) (key : Int) (s t : ByteArray) (at0 : Int) (x : Int) (w : World) (h : Errs a w) (hs : s.size ≤ maxLen) (ht : t.size ≤ maxLen) (hat : I64 at0) (hx : U8 x) :
    Calls Tryd.prog 4 #[.int .i64 key, .string s, .string t, .int .i64 at0, .int .u8 x] w fun e w' => e = .returned (.bool true) ∧ Below w.heap.size w w' := by
  have HE : Hid (Errs a w) := h
  have HM := hide (marked_any a w h)
  unfold maxLen at hs ht
  clear h
  by_cases h3 : s.size ≤ 300
  · by_cases h4 : t.size ≤ 300
    · have HS : Hid (s.size ≤ maxLen) := by show _ ≤ maxLen; unfold maxLen; omega
      have HT : Hid (t.size ≤ maxLen) := by show _ ≤ maxLen; unfold maxLen; omega
      have HST : Hid ((s ++ t).size ≤ maxLen) := by show _ ≤ maxLen; unfold maxLen; rw [ByteArray.size_append]; omega
      clear hs ht
      by_cases hk : 1 ≤ key ∧ key ≤ 1000000006
      · have HK : Hid (1 ≤ key ∧ key ≤ 1000000006) := hk
        obtain ⟨hk1, hk2⟩ := hk
        go_enter Tryd.func4, Tryd.ntmps4
        go_wp2_with fail
        refine HM.out.mono ?_
        rintro e w1 ⟨rfl, hb1⟩
        have HE1 : Hid (Errs a w1) := HE.out.below hb1
        have HB1 : Hid (Below w.heap.size w w1) := hb1
        clear hb1 HM HE
        go_wp2_with fail
        refine (of_key a key s w1 HE1.out HS.out HK.out).mono ?_
        rintro e w2 ⟨rfl, hb2⟩
        have HE2 : Hid (Errs a w2) := HE1.out.below hb2
        have HB2 : Hid (Below w.heap.size w w2) := HB1.out.trans (hb2.mono HB1.out.size)
        clear hb2 HE1 HB1
        have Hn : Hid (0 ≤ Mk.mk key key s.data.toList ∧ Mk.mk key key s.data.toList ≤ 1000000006) := Mk.mk_bd key key (by omega) _
        have Hall : Hid (Mk.mk key (Mk.mk key key s.data.toList) t.data.toList = Mk.mk key key (s ++ t).data.toList) := by
          show _ = _
          rw [ba_toList, Mk.mk_append]
        have Hset : Hid (∀ (l : List UInt8), (∃ k c, ∃ hk : k < s.size, s[k] ≠ c ∧ l = s.data.toList.set k c) → Mk.mk key key (l ++ t.data.toList) ≠ Mk.mk key key (s ++ t).data.toList) := by
          rintro l ⟨k, c, hks, hc, rfl⟩
          rw [ba_toList]
          exact Mk.mk_set key key (by omega) _ k (by simpa using hks) c hc _
        go_wp2_with fail
        refine (more_key a key _ t w2 HE2.out HT.out HK.out Hn.out).mono ?_
        rintro e w3 ⟨rfl, hb3⟩
        have HE3 : Hid (Errs a w3) := HE2.out.below hb3
        have HB3 : Hid (Below w.heap.size w w3) := HB2.out.trans (hb3.mono HB2.out.size)
        clear hb3 HE2 HB2
        rw [Hall.out]
        generalize hall : Mk.mk key key (s ++ t).data.toList = all at *
        have HA := hide hall
        clear hall
        go_wp2_with fail
        refine (of_key a key (s ++ t) w3 HE3.out HST.out HK.out).mono ?_
        rintro e w4 ⟨rfl, hb4⟩
        have HE4 : Hid (Errs a w4) := HE3.out.below hb4
        have HB4 : Hid (Below w.heap.size w w4) := HB3.out.trans (hb4.mono HB3.out.size)
        clear hb4 HE3 HB3
        rw [HA.out]
        go_wp2_with fail
        refine (right_yes a key (s ++ t) _ w4 HE4.out HST.out HK.out HA.out).mono ?_
        rintro e w5 ⟨rfl, hb5⟩
        have HE5 : Hid (Errs a w5) := HE4.out.below hb5
        have HB5 : Hid (Below w.heap.size w w5) := HB4.out.trans (hb5.mono HB4.out.size)
        clear hb5 HE4 HB4
        clear Hall Hn HA
        have Ht : Hid (I64 at0 ∧ U8 x) := ⟨hat, hx⟩
        clear hat hx
        by_cases ha1 : at0 < 0
        · go_wp2
          go_ret
          exact ⟨rfl, HB5.out⟩
        · by_cases ha2 : (s.size : Int) ≤ at0
          · go_wp2
            go_ret
            exact ⟨rfl, HB5.out⟩
          · obtain ⟨k, rfl⟩ := Int.eq_ofNat_of_zero_le (show 0 ≤ at0 by omega)
            obtain ⟨hx1, hx2⟩ := Ht.out.2
            obtain ⟨c, hc⟩ : ∃ c : UInt8, (c.toNat : Int) = x := ⟨UInt8.ofNat x.toNat, by rw [UInt8.toNat_ofNat']; omega⟩
            subst hc
            have hks : k < s.size := by omega
            clear Ht
            by_cases heq : s[k] = c
            · have hq : ((s[k].toNat : Int) == (c.toNat : Int)) = true := by simp [heq]
              clear heq
              go_wp2
              go_ret
              exact ⟨rfl, HB5.out⟩
            · have hq : ((s[k].toNat : Int) == (c.toNat : Int)) = false := by
                rw [beq_eq_false_iff_ne]
                intro e
                exact heq (UInt8.toNat_inj.1 (by omega))
              have Hne := hide (Hset.out _ ⟨k, c, hks, heq, rfl⟩)
              clear heq
              obtain ⟨w6, cap, hconv, hcell, hfr, hb6, hz6⟩ := bytes_at s w5
              obtain ⟨old, hck⟩ : ∃ old, w6.cell? ⟨w5.heap.size, k, none⟩ = some (.int .u8 old) := ⟨_, hcell k hks⟩
              have hfk := hfr k hks
              have HB6 : Hid (Below w.heap.size w w6) := HB5.out.trans (hb6.mono HB5.out.size)
              have HE6 : Hid (Errs a (w6.setCell ⟨w5.heap.size, k, none⟩ (.int .u8 (c.toNat : Int)))) := HE5.out.below (hb6.setCell (Nat.le_refl _) _)
              have HB7 : Hid (Below w.heap.size w (w6.setCell ⟨w5.heap.size, k, none⟩ (.int .u8 (c.toNat : Int)))) := HB6.out.setCell HB5.out.size _
              have hlen : (s.data.toList.set k c).length = s.size := by simp
              have hcs := set_cells s c k w5.heap.size w6 hks hcell
              have hback1 := string_of (s.data.toList.set k c) s.size w5.heap.size cap _ hlen.symm hcs
              have hz7 : w5.heap.size < (w6.setCell ⟨w5.heap.size, k, none⟩ (.int .u8 (c.toNat : Int))).heap.size := by simpa [World.setCell] using hz6
              have HCS := hide hcs
              have HZ7 := hide hz7
              have HST2 : Hid ((ByteArray.mk (s.data.toList.set k c).toArray ++ t).size ≤ maxLen) := by
                show _ ≤ maxLen
                unfold maxLen; rw [ByteArray.size_append]
                have : (ByteArray.mk (s.data.toList.set k c).toArray).size = s.size := by show (s.data.toList.set k c).toArray.size = _; simp
                omega
              have Hne2 : Hid (Mk.mk key key (ByteArray.mk (s.data.toList.set k c).toArray ++ t).data.toList ≠ all) := by
                show _ ≠ _
                rw [ba_toList (ByteArray.mk _)]
                exact Hne.out
              have hsz2 : (ByteArray.mk (s.data.toList.set k c).toArray).size = s.size := by show (s.data.toList.set k c).toArray.size = _; simp
              have HL := hide hlen
              clear hcell hfr hb6 hcs Hset Hne HST hlen hz6 hz7
              generalize hr : ByteArray.mk (s.data.toList.set k c).toArray = r at *
              have HR := hide hr
              clear hr
              go_wp2_with fail
              refine (of_key a key (r ++ t) _ HE6.out HST2.out HK.out).mono ?_
              rintro e w8 ⟨rfl, hb8⟩
              have HE8 : Hid (Errs a w8) := HE6.out.below hb8
              have HB8 : Hid (Below w.heap.size w w8) := HB7.out.trans (hb8.mono HB7.out.size)
              have hback2 := string_of (s.data.toList.set k c) s.size w5.heap.size cap w8 HL.out.symm (fun j hj => by rw [hb8.cell (p := ⟨w5.heap.size, j, none⟩) HZ7.out]; exact HCS.out j hj)
              rw [HR.out] at hback2
              clear hb8 hback1 hconv hck hfk HE6 HB7 HCS HB6 HZ7
              have hne : (Mk.mk key key (r ++ t).data.toList != all) = true := by rw [bne_iff_ne]; exact Hne2.out
              generalize hoth : Mk.mk key key (r ++ t).data.toList = oth at *
              have HOT := hide hoth
              clear hoth
              go_wp2_with fail
              refine (right_no a key (r ++ t) _ _ HE8.out HST2.out HK.out (by rw [HOT.out]; exact Hne2.out)).mono ?_
              rintro e w9 ⟨rfl, hb9⟩
              have HE9 : Hid (Errs a w9) := HE8.out.below hb9
              have HB9 : Hid (Below w.heap.size w w9) := HB8.out.trans (hb9.mono HB8.out.size)
              clear hb9 HE8 HB8 hback2
              go_wp2_with fail
              refine (coded_err a 8 (by decide) 9 w9 HE9.out).mono ?_
              rintro e w10 ⟨rfl, hb10⟩
              have HB10 : Hid (Below w.heap.size w w10) := HB9.out.trans (hb10.mono HB9.out.size)
              clear hb10
              go_wp2
              go_ret
              exact ⟨rfl, HB10.out⟩
      · have HK : Hid (¬ (1 ≤ key ∧ key ≤ 1000000006)) := hk
        clear hk
        go_enter Tryd.func4, Tryd.ntmps4
        go_wp2_with fail
        refine HM.out.mono ?_
        rintro e w1 ⟨rfl, hb1⟩
        have HE1 : Hid (Errs a w1) := HE.out.below hb1
        have HB1 : Hid (Below w.heap.size w w1) := hb1
        clear hb1 HM HE
        go_wp2_with fail
        refine (of_nokey a key s w1 HE1.out HS.out HK.out).mono ?_
        rintro e w2 ⟨rfl, hb2⟩
        have HB2 : Hid (Below w.heap.size w w2) := HB1.out.trans (hb2.mono HB1.out.size)
        clear hb2 HE1 HB1
        go_wp2
        go_ret
        exact ⟨rfl, HB2.out⟩
    · go_enter Tryd.func4, Tryd.ntmps4
      go_wp2_with (go_at_call 10; refine HM.out.mono ?_; rintro e w1 ⟨rfl, hb1⟩)
      go_ret
      exact ⟨rfl, by assumption⟩
  · go_enter Tryd.func4, Tryd.ntmps4
    go_wp2_with (go_at_call 10; refine HM.out.mono ?_; rintro e w1 ⟨rfl, hb1⟩)
    go_ret
    exact ⟨rfl, by assumption⟩

theorem markParts_walk (a : Nat → Addr) (key : Int) (s t : ByteArray) (at0 x : Int) (w : World) (h : Errs a w) (_ : I64 key) (hs : s.size ≤ maxLen) (ht : t.size ≤ maxLen) (hat : I64 at0) (hx : U8 x) :
    Calls Tryd.prog 4 #[.int .i64 key, .string s, .string t, .int .i64 at0, .int .u8 x] w fun e w' => e = .returned (.bool true) ∧ Below w.heap.size w w' := markParts_any a key s t at0 x w h hs ht hat hx
end Go.Proofs.YtpohajdgoaobfaaDoor

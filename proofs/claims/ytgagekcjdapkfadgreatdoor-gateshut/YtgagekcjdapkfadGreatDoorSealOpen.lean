/-
  What seal.Look and seal.Open answer: the words of a sealed text, or the error that the document names (ErrKey, ErrBound, ErrText, ErrMark, in this order); for every key and text.
-/
import Derived.Test.YtgagekcjdapkfadGreatDoorSealTake
namespace Go.Proofs.YtgagekcjdapkfadGreatDoor
open Go.RowKit Go.Extern.Stop Go.Stop Go.Extern

/-- Texts in a slice of their own, or none and an error by its number. -/
def WordsPost (a : Nat → Addr) (c : Nat) (ws : List (List UInt8)) (e : Ending) (w' : World) : Prop :=
  if c = 0 then ∃ b, Texts w' b 0 (ws.map Sl.ofL) ∧ e = .returned (.tuple #[.slice (some ⟨b, 0, none⟩) ws.length ws.length, .nilIface])
  else e = .returned (.tuple #[.slice none 0 0, errV a c])
theorem words_yes (a : Nat → Addr) (c : Nat) (ws : List (List UInt8)) (e : Ending) (w' : World) (h : c = 0) (b : Nat) (hx : Texts w' b 0 (ws.map Sl.ofL)) (he : e = .returned (.tuple #[.slice (some ⟨b, 0, none⟩) ws.length ws.length, .nilIface])) : WordsPost a c ws e w' := by
  unfold WordsPost
  rw [if_pos h]
  exact ⟨b, hx, he⟩
theorem words_no (a : Nat → Addr) (c : Nat) (ws : List (List UInt8)) (e : Ending) (w' : World) (h : c ≠ 0) (he : e = .returned (.tuple #[.slice none 0 0, errV a c])) : WordsPost a c ws e w' := by
  unfold WordsPost
  rw [if_neg h]
  exact he

theorem take_ev (a : Nat → Addr) (s : ByteArray) (w : World) (h : EnvE a w) :
    Calls Tryz.prog 152 #[.string s] w fun e w' => Below w.heap.size w w' ∧
      ((Sl.lookE s.data.toList ≠ 0 ∧ Sl.lookE s.data.toList ≤ 2 ∧ e = .returned (.tuple #[.agg #[.string ⟨#[]⟩, .slice none 0 0, .int .i64 0], eV (a (Sl.lookE s.data.toList - 1))])) ∨
       (Sl.lookE s.data.toList = 0 ∧ ∃ b, Texts w' b 0 ((Sl.lookW s.data.toList).map Sl.ofL) ∧
         e = .returned (.tuple #[.agg #[.string (Sl.ofL (Sl.glue (Sl.lookW s.data.toList))), .slice (some ⟨b, 0, none⟩) (Sl.lookW s.data.toList).length (Sl.lookW s.data.toList).length, .int .i64 (Sl.lookN s.data.toList)], .nilIface]))) := by
  by_cases hl : 4000 < s.size
  · have e2 : Sl.lookE s.data.toList = 2 := by unfold Sl.lookE; rw [size_list, if_pos hl]
    refine (take_long a s w h hl).mono ?_
    rintro e w' ⟨rfl, hb⟩
    rw [e2]
    exact ⟨hb, Or.inl ⟨by decide, by decide, rfl⟩⟩
  · by_cases hm : (32 : UInt8) ∈ s.data.toList
    · obtain ⟨hd, tl, hs2, ht⟩ := Sl.last_blank 32 s.data.toList hm
      refine (take_cut a s hd tl w h (by omega) hs2 ht).mono ?_
      rintro e w' ⟨hb, hp⟩
      refine ⟨hb, ?_⟩
      unfold TakePost at hp
      by_cases hok : Sl.lookOk s.data.toList = true
      · rw [if_pos hok] at hp
        obtain ⟨b, hx, he⟩ := hp
        obtain ⟨w1, w2⟩ := Sl.look_cut hd tl ht
        rw [← hs2] at w1 w2
        have hg : Sl.glue (Sl.lookW s.data.toList) = hd := by rw [w1]; exact Sl.join_pieces hd
        refine Or.inr ⟨by unfold Sl.lookE; rw [size_list, if_neg hl, if_pos hok], b, by rw [w1]; exact hx, ?_⟩
        unfold Sl.lookN
        rw [hg, w1, w2]
        exact he
      · rw [if_neg hok] at hp
        have e1 : Sl.lookE s.data.toList = 1 := by unfold Sl.lookE; rw [size_list, if_neg hl, if_neg hok]
        rw [e1]
        exact Or.inl ⟨by decide, by decide, hp⟩
    · have e1 : Sl.lookE s.data.toList = 1 := by
        unfold Sl.lookE
        rw [size_list, if_neg hl, Sl.lookOk_plain _ hm]
        rfl
      refine (take_none a s w h (by omega) hm).mono ?_
      rintro e w' ⟨rfl, hb⟩
      rw [e1]
      exact ⟨hb, Or.inl ⟨by decide, by decide, rfl⟩⟩

theorem openE_key (key : Int) (l : List UInt8) (hk : ¬ (1 ≤ key ∧ key ≤ 1000000006)) : Sl.openE key l = 10 := by unfold Sl.openE; rw [if_neg hk]
theorem errV_posS (a : Nat → Addr) (c : Nat) (h : c ≠ 0) : errV a c = eV (a (c - 1)) := by unfold errV; rw [if_neg h]

set_option maxRecDepth 100000 in
set_option maxHeartbeats 2000000 in
theorem open_ev (a : Nat → Addr) (key : Int) (s : ByteArray) (w : World) (h : EnvE a w) :
    Calls Tryz.prog 113 #[.int .i64 key, .string s] w fun e w' => Below w.heap.size w w' ∧ WordsPost a (Sl.openE key s.data.toList) (Sl.lookW s.data.toList) e w' := by
  have HK := hide (keyError_ev a key w h.errs)
  rw [key_more] at HK
  have HE := hide h
  clear h
  by_cases hk : 1 ≤ key ∧ key ≤ 1000000006
  · rw [if_pos hk] at HK
    have HKk := hide hk
    have HT := hide (fun w h => take_ev a s w h)
    have HO : Hid (∀ c, Sl.lookE s.data.toList = c → c ≠ 0 → Sl.openE key s.data.toList = c) := fun c hc h0 => by unfold Sl.openE; rw [if_pos hk, hc, if_neg h0]
    have HO0 : Hid (Sl.lookE s.data.toList = 0 → Sl.openE key s.data.toList = if Mk.mk key key (Sl.glue (Sl.lookW s.data.toList)) = (Sl.lookN s.data.toList : Int) then 0 else 9) := fun hc => by unfold Sl.openE; rw [if_pos hk, if_pos hc]
    clear hk
    have HSz : Hid (Sl.lookE s.data.toList = 0 → (Sl.ofL (Sl.glue (Sl.lookW s.data.toList))).size ≤ maxLen) := fun hc => by
      have hok := Sl.lookE_ok _ hc
      obtain ⟨hd, e1, _, e3, _⟩ := Sl.look_glue _ hok
      have hle : s.data.toList.length ≤ 4000 := by
        unfold Sl.lookE at hc
        split at hc
        · cases hc
        · omega
      rw [Sl.ofL_size, e3]
      rw [e1] at hle
      simp only [List.length_append, List.length_cons] at hle
      unfold maxLen; omega
    generalize s.data.toList = l at *
    go_enter Tryz.func113, Tryz.ntmps113
    go_wp2_with fail
    refine HK.out.mono ?_
    rintro e w1 ⟨rfl, hb⟩
    have HE1 := hide (HE.out.below hb)
    have HB1 := hide hb
    clear hb HE HK
    rw [show errV a 0 = Value.nilIface from rfl]
    go_wp2_with fail
    refine (HT.out w1 HE1.out).mono ?_
    rintro e w2 ⟨hb, ⟨hn, hn2, rfl⟩ | ⟨h0, b, hx, rfl⟩⟩
    · have HB2 : Hid (Below w.heap.size w w2) := HB1.out.trans (hb.mono HB1.out.size)
      have HN := hide (HO.out _ rfl hn)
      have HNN := hide hn
      clear hb hn hn2 HT HO HO0 HSz HE1 HB1
      generalize Sl.lookE l = c at *
      go_wp2
      go_ret2
      refine ⟨HB2.out.alloc HB2.out.size _, words_no _ _ _ _ _ (by rw [HN.out]; exact HNN.out) ?_⟩
      rw [HN.out, errV_posS a c HNN.out]
      rfl
    · have HB2 : Hid (Below w.heap.size w w2) := HB1.out.trans (hb.mono HB1.out.size)
      have HE2 := hide (HE1.out.below hb)
      have HOp := hide (HO0.out h0)
      have HZ := hide (HSz.out h0)
      have HX := hide hx
      clear hb hx h0 HT HO HO0 HSz HE1 HB1
      generalize hgl : Sl.ofL (Sl.glue (Sl.lookW l)) = g at *
      have HG : Hid (g.data.toList = Sl.glue (Sl.lookW l)) := by show _ = _; rw [← hgl]; rfl
      clear hgl
      generalize (Sl.lookN l : Int) = n at *
      generalize hlen : (Sl.lookW l).length = k at *
      have HLen := hide hlen
      clear hlen
      have HB3 : Hid (∀ o, Below w.heap.size w (w2.alloc o)) := fun o => HB2.out.alloc HB2.out.size o
      have HR := hide (fun w h => right_ev a key g n w h HZ.out)
      have Hre : Hid (rightE key g.data.toList n = Sl.openE key l) := by
        show _ = _
        unfold rightE
        rw [if_pos HKk.out, HG.out, HOp.out]
      rw [Hre.out] at HR
      have Hcase : Hid (Sl.openE key l = 0 ∨ Sl.openE key l = 9) := by
        show _ ∨ _
        rw [HOp.out]
        by_cases g2 : Mk.mk key key (Sl.glue (Sl.lookW l)) = n
        · rw [if_pos g2]; exact Or.inl rfl
        · rw [if_neg g2]; exact Or.inr rfl
      clear HOp Hre HG HZ
      generalize hoe : Sl.openE key l = c at *
      have HOE := hide hoe
      clear hoe
      go_wp2_with fail
      refine (HR.out _ (HE2.out.errs.below ((Below.refl _ _).alloc (Nat.le_refl _) _))).mono ?_
      rintro e w3 ⟨rfl, hb⟩
      have hcell : w3.cell? ⟨w2.heap.size, 1, none⟩ = some (.slice (some ⟨b, 0, none⟩) k k) := by
        rw [hb.cell (p := ⟨w2.heap.size, 1, none⟩) (by simp)]
        simp
      have HB4 : Hid (Below w.heap.size w w3) := (HB3.out _).trans (hb.mono (HB3.out _).size)
      have HX3 := hide ((HX.out.below ((Below.refl _ _).alloc (Nat.le_refl _) _)).below hb)
      clear hb HB3 HR HX HE2 HB2
      rcases Hcase.out with rfl | rfl
      · rw [show errV a 0 = Value.nilIface from rfl]
        go_wp2
        go_ret2
        exact ⟨HB4.out, words_yes _ _ _ _ _ HOE.out b HX3.out (by rw [HLen.out]; rfl)⟩
      · rw [show errV a 9 = eV (a 8) from rfl]
        go_wp2
        go_ret2
        exact ⟨HB4.out, words_no _ _ _ _ _ (by rw [HOE.out]; decide) (by rw [HOE.out]; rfl)⟩
  · rw [if_neg hk] at HK
    have HO := hide (openE_key key s.data.toList hk)
    clear hk
    rw [show errV a 10 = eV (a 9) from rfl] at HK
    generalize s.data.toList = l at *
    go_enter Tryz.func113, Tryz.ntmps113
    go_wp2_with fail
    refine HK.out.mono ?_
    rintro e w1 ⟨rfl, hb⟩
    have HB1 := hide hb
    clear hb
    go_wp2
    go_ret2
    exact ⟨HB1.out, words_no _ _ _ _ _ (by rw [HO.out]; decide) (by rw [HO.out]; rfl)⟩
theorem take_any (a : Nat → Addr) (s : ByteArray) (w : World) (h : Env a w) :
    Calls Tryz.prog 152 #[.string s] w fun e w' => Below w.heap.size w w' ∧
      ((Sl.lookE s.data.toList ≠ 0 ∧ Sl.lookE s.data.toList ≤ 2 ∧ e = .returned (.tuple #[.agg #[.string ⟨#[]⟩, .slice none 0 0, .int .i64 0], eV (a (Sl.lookE s.data.toList - 1))])) ∨
       (Sl.lookE s.data.toList = 0 ∧ ∃ b, Texts w' b 0 ((Sl.lookW s.data.toList).map Sl.ofL) ∧
         e = .returned (.tuple #[.agg #[.string (Sl.ofL (Sl.glue (Sl.lookW s.data.toList))), .slice (some ⟨b, 0, none⟩) (Sl.lookW s.data.toList).length (Sl.lookW s.data.toList).length, .int .i64 (Sl.lookN s.data.toList)], .nilIface]))) := take_ev a s w h.s
theorem open_any (a : Nat → Addr) (key : Int) (s : ByteArray) (w : World) (h : Env a w) :
    Calls Tryz.prog 113 #[.int .i64 key, .string s] w fun e w' => Below w.heap.size w w' ∧ WordsPost a (Sl.openE key s.data.toList) (Sl.lookW s.data.toList) e w' := open_ev a key s w h.s
end Go.Proofs.YtgagekcjdapkfadGreatDoor

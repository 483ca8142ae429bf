/-
  What the document's answer does to a tape: SetCut, Append.
-/
import Derived.Test.YteofodegeigmaaaDoorTapeApp2
import Derived.Test.YteofodegeigmaaaDoorSealRef2
namespace Go.Proofs.YteofodegeigmaaaDoor
open Go Go.RowKit Go.Extern.Stop Go.Stop Go.Extern Go.Proofs

theorem txt_cat (a b : List UInt8) : txt (a ++ b) = txt a ++ txt b := by
  refine Go.WideShapes.bytes_inj ?_
  rw [txt_list]
  simp
theorem refRecord_any (s : ByteArray) (w : World) (hs : s.size ≤ 4000) :
    Calls Tryd.prog 24 #[.string s] w fun e w' => e = .returned (.string (txt (recL s.data.toList))) ∧ Below w.heap.size w w' := by
  have HI := hide (refDecimal_any s.size (by omega) w)
  have HR := hide (rec_txt s)
  have hD : (Sl.ofL (Lib.decDigits s.size)).size ≤ 20 := by
    show (txt (Lib.decDigits s.size)).size ≤ 20
    rw [txt_size]
    have := (Sl.numOk_iff _).1 (Sl.dec_ok s.size (by omega))
    omega
  change Hid (txt (Lib.decDigits s.size) ++ ⟨#[58]⟩ ++ s ++ ⟨#[10, 46]⟩ = txt (recL s.data.toList)) at HR
  change Hid ((Sl.ofL (Lib.decDigits s.size)) ++ ⟨#[58]⟩ ++ s ++ ⟨#[10, 46]⟩ = txt (recL s.data.toList)) at HR
  generalize Sl.ofL (Lib.decDigits s.size) = D at *
  have hz1 : D.size + 1 ≤ 9223372036854775807 := by omega
  have hz2 : D.size + 1 + s.size ≤ 9223372036854775807 := by omega
  have hz3 : D.size + 1 + s.size + 2 ≤ 9223372036854775807 := by omega
  go_enter Tryd.func24, Tryd.ntmps24
  go_wp2_with fail
  refine HI.out.mono ?_
  rintro e w1 ⟨rfl, hb⟩
  have HB := hide hb
  clear hb HI
  go_wp2
  go_ret
  exact ⟨congrArg (fun x => Ending.returned (Value.string x)) HR.out, HB.out⟩
/-- What an act leaves of the document's tape. -/
def TPost (w : World) (m : Nat) (t : Tp) (w' : World) : Prop := w'.heap[m]? = some (rtY t) ∧ KeptD (fun k => k = m) w w'
theorem TPost.same {w : World} {m : Nat} {t : Tp} (h : w.heap[m]? = some (rtY t)) : TPost w m t w := ⟨h, KeptD.refl _ _⟩
theorem TPost.from {w w1 w' : World} {m : Nat} {t : Tp} (hb : Below w.heap.size w w1) (h : TPost w1 m t w') : TPost w m t w' := ⟨h.1, (KeptD.of_below _ hb).trans h.2⟩
theorem rt_set0 {w0 w : World} {m : Nat} {t : Tp} (h : TPost w0 m t w) (b : List UInt8) : TPost w0 m ⟨b, t.off, t.cut⟩ (w.setCell ⟨m, 0, none⟩ (.string (txt b))) := ⟨heap_setCell_same w m 0 _ _ _ h.1, h.2.setCell (p := ⟨m, 0, none⟩) rfl _⟩
theorem rt_set1 {w0 w : World} {m : Nat} {t : Tp} (h : TPost w0 m t w) (o : Bool) : TPost w0 m ⟨t.b, o, t.cut⟩ (w.setCell ⟨m, 1, none⟩ (.bool o)) := ⟨heap_setCell_same w m 1 _ _ _ h.1, h.2.setCell (p := ⟨m, 1, none⟩) rfl _⟩
theorem rt_set2 {w0 w : World} {m : Nat} {t : Tp} (h : TPost w0 m t w) (c : Int) : TPost w0 m ⟨t.b, t.off, c⟩ (w.setCell ⟨m, 2, none⟩ (.int .i64 c)) := ⟨heap_setCell_same w m 2 _ _ _ h.1, h.2.setCell (p := ⟨m, 2, none⟩) rfl _⟩
theorem refSetCut_any (m : Nat) (t : Tp) (n : Int) (w : World) (h : w.heap[m]? = some (rtY t)) :
    Calls Tryd.prog 16 #[.pointer (some ⟨m, 0, none⟩), .int .i64 n] w fun e w' => e = .returned (.int .i64 (t.cutC n : Nat)) ∧ TPost w m (t.cutR n) w' := by
  obtain ⟨⟨c0, c1, c2⟩, f0, f1, f2⟩ := rt_cells h
  have HS : Hid (TPost w m t w) := TPost.same h
  by_cases hn : n < 0
  · have e1 : t.cutC n = 2 := if_pos hn
    have e2 : t.cutR n = t := if_neg (by rw [e1]; decide)
    rw [e1, e2]
    clear h e1 e2
    go_enter Tryd.func16, Tryd.ntmps16
    go_wp2
    go_ret
    exact ⟨rfl, HS.out⟩
  · cases hof : t.off with
    | true =>
      have e1 : t.cutC n = 16 := by unfold Tp.cutC; rw [if_neg hn, hof]; rfl
      have e2 : t.cutR n = t := if_neg (by rw [e1]; decide)
      rw [e1, e2]
      rw [hof] at c1
      clear h e1 e2 hof
      go_enter Tryd.func16, Tryd.ntmps16
      go_wp2
      go_ret
      exact ⟨rfl, HS.out⟩
    | false =>
      have e1 : t.cutC n = 0 := by unfold Tp.cutC; rw [if_neg hn, hof]; rfl
      have e2 : t.cutR n = ⟨t.b, t.off, n⟩ := if_pos e1
      have HP := hide (rt_set2 (TPost.same h) n)
      rw [e1, e2]
      rw [hof] at c1
      clear h e1 e2 hof HS
      go_enter Tryd.func16, Tryd.ntmps16
      go_wp2
      go_ret
      exact ⟨rfl, HP.out⟩
set_option maxRecDepth 100000 in
set_option maxHeartbeats 2000000 in
theorem refAppend_any (m : Nat) (t : Tp) (s : ByteArray) (w : World) (h : w.heap[m]? = some (rtY t)) (hR : t.Right) :
    Calls Tryd.prog 15 #[.pointer (some ⟨m, 0, none⟩), .string s] w fun e w' => e = .returned (.int .i64 (t.appC s.data.toList : Nat)) ∧ TPost w m (t.appR s.data.toList) w' := by
  have el : s.data.toList.length = s.size := by simp
  have HS : Hid (TPost w m t w) := TPost.same h
  have hlen := hR.len
  have hlo := hR.lo
  have hhi := hR.hi
  by_cases hs : 4000 < s.size
  · have e1 : t.appC s.data.toList = 2 := if_pos (by rw [el]; exact hs)
    have e2 : t.appR s.data.toList = t := if_pos (Or.inl (by rw [el]; exact hs))
    have hz : (4000 : Int) < (s.size : Int) := by omega
    rw [e1, e2]
    clear h hR e1 e2 hs el
    go_enter Tryd.func15, Tryd.ntmps15
    go_wp2
    go_ret
    exact ⟨rfl, HS.out⟩
  · have HREC := hide (refRecord_any s w (by omega))
    have hz : ¬ (4000 : Int) < (s.size : Int) := by omega
    have hrl : (recL s.data.toList).length ≤ 4100 := by
      rw [rec_len, el]
      have := (Sl.numOk_iff _).1 (Sl.dec_ok s.size (by omega))
      rw [Lib.decDigits_length] at this
      omega
    have hrs : (txt (recL s.data.toList)).size = (recL s.data.toList).length := txt_size _
    have hbs : (txt t.b).size = t.b.length := txt_size _
    have HC1 : Hid (∀ w1, Below w.heap.size w w1 → (w1.heap[m]? = some (rtY t))) := fun w1 hb => (hb.block m (row_lt h)).trans h
    have hcat := txt_cat t.b (recL s.data.toList)
    by_cases hf : 262144 < t.b.length + (recL s.data.toList).length
    · have e1 : t.appC s.data.toList = 7 := by unfold Tp.appC; rw [if_neg (by rw [el]; exact hs), if_pos hf]
      have e2 : t.appR s.data.toList = t := if_pos (Or.inr (Or.inl hf))
      have hq : (262144 : Int) < ((txt t.b).size : Int) + ((txt (recL s.data.toList)).size : Int) := by rw [hrs, hbs]; omega
      have hq1 : ((txt t.b).size : Int) ≤ 262144 := by rw [hbs]; omega
      have hq2 : ((txt (recL s.data.toList)).size : Int) ≤ 4100 := by rw [hrs]; omega
      rw [e1, e2]
      clear h hR e1 e2 hs el hrl hf hrs hbs hcat hlen
      generalize txt (recL s.data.toList) = r at *
      go_enter Tryd.func15, Tryd.ntmps15
      go_wp2_with fail
      refine HREC.out.mono ?_
      rintro e w1 ⟨rfl, hb⟩
      have h1 := HC1.out w1 hb
      obtain ⟨⟨c0, c1, c2⟩, _⟩ := rt_cells h1
      have HE : Hid (TPost w m t w1) := TPost.from hb (TPost.same h1)
      clear hb h1
      generalize txt t.b = bb at *
      go_wp2
      go_ret
      exact ⟨rfl, HE.out⟩
    · have hq : ¬ (262144 : Int) < ((txt t.b).size : Int) + ((txt (recL s.data.toList)).size : Int) := by rw [hrs, hbs]; omega
      have hq1 : ((txt t.b).size : Int) ≤ 262144 := by rw [hbs]; omega
      have hq2 : ((txt (recL s.data.toList)).size : Int) ≤ 4100 := by rw [hrs]; omega
      obtain ⟨e1, e2⟩ := app_wr (t := t) (s := s.data.toList) (by omega) (by omega)
      rw [e1, e2]
      cases hof : t.off with
      | true =>
        have g1 : t.wrC (recL s.data.toList).length = 16 := if_pos hof
        have g2 : t.wrR (recL s.data.toList) = t := if_pos hof
        rw [g1, g2]
        clear h hR e1 e2 g1 g2 hs el hrl hf hrs hbs hcat hlen
        generalize txt (recL s.data.toList) = r at *
        go_enter Tryd.func15, Tryd.ntmps15
        go_wp2_with fail
        refine HREC.out.mono ?_
        rintro e w1 ⟨rfl, hb⟩
        have h1 := HC1.out w1 hb
        obtain ⟨⟨c0, c1, c2⟩, _⟩ := rt_cells h1
        rw [hof] at c1
        have HE : Hid (TPost w m t w1) := TPost.from hb (TPost.same h1)
        clear hb h1 hof
        generalize txt t.b = bb at *
        go_wp2
        go_ret
        exact ⟨rfl, HE.out⟩
      | false =>
        by_cases hc : 0 ≤ t.cut ∧ t.cut < (recL s.data.toList).length
        · have g1 : t.wrC (recL s.data.toList).length = 16 := by unfold Tp.wrC; rw [hof, if_neg (by decide), if_pos hc]
          have g2 : t.wrR (recL s.data.toList) = ⟨t.b ++ (recL s.data.toList).take t.cut.toNat, true, t.cut⟩ := by unfold Tp.wrR; rw [hof, if_neg (by decide), if_pos hc]
          obtain ⟨k, hk⟩ : ∃ k : Nat, t.cut = (k : Int) := ⟨t.cut.toNat, by omega⟩
          have hkt : t.cut.toNat = k := by omega
          have hx : txt (t.b ++ (recL s.data.toList).take k) = txt t.b ++ (txt (recL s.data.toList)).extract 0 k := by
            rw [txt_cat]
            congr 1
            refine Go.WideShapes.bytes_inj ?_
            rw [txt_list, Lib.extract_data, txt_list]
            simp
          have hkz : (k : Int) < ((txt (recL s.data.toList)).size : Int) := by rw [hrs]; omega
          have hk0 : (0 : Int) ≤ (k : Int) := by omega
          have HEnd : Hid (∀ w1, TPost w m t w1 → TPost w m ⟨t.b ++ (recL s.data.toList).take t.cut.toNat, true, t.cut⟩ ((w1.setCell ⟨m, 0, none⟩ (.string (txt t.b ++ (txt (recL s.data.toList)).extract 0 k))).setCell ⟨m, 1, none⟩ (.bool true))) := fun w1 h1 => by
            rw [hkt, ← hx]
            exact rt_set1 (rt_set0 h1 _) true
          have HRw : Hid (∀ w1 b, TPost w m t w1 → (w1.setCell ⟨m, 0, none⟩ (.string (txt b))).cell? ⟨m, 1, none⟩ = some (.bool false) ∧ (w1.setCell ⟨m, 0, none⟩ (.string (txt b))).frozen? ⟨m, 1, none⟩ = false) := fun w1 b h1 => by
            obtain ⟨⟨_, z1, _⟩, _, y1, _⟩ := rt_cells (rt_set0 h1 b).1
            rw [hof] at z1
            exact ⟨z1, y1⟩
          have hsz : (txt t.b).size + ((txt (recL s.data.toList)).extract 0 k).size ≤ 9223372036854775807 := by
            rw [ByteArray.size_extract]
            omega
          rw [g1, g2]
          clear h hR e1 e2 g1 g2 hs el hrl hf hrs hbs hcat hlen hx hc hkt
          generalize txt (recL s.data.toList) = r at *
          go_enter Tryd.func15, Tryd.ntmps15
          go_wp2_with fail
          refine HREC.out.mono ?_
          rintro e w1 ⟨rfl, hb⟩
          have h1 := HC1.out w1 hb
          obtain ⟨⟨c0, c1, c2⟩, f0, f1, f2⟩ := rt_cells h1
          rw [hof] at c1
          rw [hk] at c2
          have HE : Hid (TPost w m t w1.drew) := ⟨h1, (KeptD.of_below _ (hb.trans ((Below.refl _ _).drew.mono hb.size)))⟩
          clear hb h1 hof
          have HEE := hide (HEnd.out _ HE.out)
          generalize txt t.b = bb at *
          go_wp2
          go_region
          all_goals
            go_wp2
            go_ret
            exact ⟨rfl, HEE.out⟩
        · have g1 : t.wrC (recL s.data.toList).length = 0 := by unfold Tp.wrC; rw [hof, if_neg (by decide), if_neg hc]
          have g2 : t.wrR (recL s.data.toList) = ⟨t.b ++ recL s.data.toList, false, if 0 ≤ t.cut then t.cut - (recL s.data.toList).length else t.cut⟩ := by unfold Tp.wrR; rw [hof, if_neg (by decide), if_neg hc]
          rw [g1, g2]
          have hsz : (txt t.b).size + (txt (recL s.data.toList)).size ≤ 9223372036854775807 := by omega
          by_cases hq0 : 0 ≤ t.cut
          · rw [if_pos hq0]
            have HEnd : Hid (∀ w1, TPost w m t w1 → TPost w m ⟨t.b ++ recL s.data.toList, false, t.cut - (recL s.data.toList).length⟩ ((w1.setCell ⟨m, 2, none⟩ (.int .i64 (t.cut - ((txt (recL s.data.toList)).size : Int)))).setCell ⟨m, 0, none⟩ (.string (txt t.b ++ txt (recL s.data.toList))))) := fun w1 h1 => by
              rw [← hcat, hrs]
              have := rt_set0 (rt_set2 h1 (t.cut - ((recL s.data.toList).length : Int))) (t.b ++ recL s.data.toList)
              rw [hof] at this
              exact this
            have hqc : ¬ t.cut < ((txt (recL s.data.toList)).size : Int) := by rw [hrs]; omega
            have hw1 : IntKind.i64.wrap (t.cut - ((txt (recL s.data.toList)).size : Int)) = t.cut - ((txt (recL s.data.toList)).size : Int) := by rw [IntKind.wrap_i64]; omega
            clear h hR e1 e2 g1 g2 hs el hrl hf hrs hbs hcat hlen hc
            generalize txt (recL s.data.toList) = r at *
            go_enter Tryd.func15, Tryd.ntmps15
            go_wp2_with fail
            refine HREC.out.mono ?_
            rintro e w1 ⟨rfl, hb⟩
            have h1 := HC1.out w1 hb
            obtain ⟨⟨c0, c1, c2⟩, f0, f1, f2⟩ := rt_cells h1
            rw [hof] at c1
            have HE := hide (HEnd.out _ (TPost.from hb (TPost.same h1)))
            clear hb h1 hof HEnd
            generalize txt t.b = bb at *
            go_wp2
            go_ret
            exact ⟨rfl, HE.out⟩
          · rw [if_neg hq0]
            have HEnd : Hid (∀ w1, TPost w m t w1 → TPost w m ⟨t.b ++ recL s.data.toList, false, t.cut⟩ (w1.setCell ⟨m, 0, none⟩ (.string (txt t.b ++ txt (recL s.data.toList))))) := fun w1 h1 => by
              rw [← hcat]
              have := rt_set0 h1 (t.b ++ recL s.data.toList)
              rw [hof] at this
              exact this
            clear h hR e1 e2 g1 g2 hs el hrl hf hrs hbs hcat hlen hc
            generalize txt (recL s.data.toList) = r at *
            go_enter Tryd.func15, Tryd.ntmps15
            go_wp2_with fail
            refine HREC.out.mono ?_
            rintro e w1 ⟨rfl, hb⟩
            have h1 := HC1.out w1 hb
            obtain ⟨⟨c0, c1, c2⟩, f0, f1, f2⟩ := rt_cells h1
            rw [hof] at c1
            have HE := hide (HEnd.out _ (TPost.from hb (TPost.same h1)))
            clear hb h1 hof HEnd
            generalize txt t.b = bb at *
            go_wp2
            go_ret
            exact ⟨rfl, HE.out⟩
end Go.Proofs.YteofodegeigmaaaDoor

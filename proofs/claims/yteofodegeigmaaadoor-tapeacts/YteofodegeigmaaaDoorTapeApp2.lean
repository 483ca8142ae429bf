/-
  What package tape's Append does to a disk in memory: an error, or a record more.
-/
import Derived.Test.YteofodegeigmaaaDoorTapeApp
namespace Go.Proofs.YteofodegeigmaaaDoor
open Go Go.RowKit Go.Extern.Stop Go.Stop Go.Extern Go.Proofs

theorem DPost.from {w w1 w' : World} {B d : Nat} {v : Value} {t : Tp} (hb : Below w.heap.size w w1) (h : DPost w1 B d v t w') : DPost w B d v t w' := by
  obtain ⟨v', h1, h2⟩ := h
  exact ⟨v', h1, (KeptD.of_below _ hb).trans h2⟩
theorem app_wr {t : Tp} {s : List UInt8} (h1 : s.length ≤ 4000) (h2 : t.b.length + (recL s).length ≤ 262144) : t.appC s = t.wrC (recL s).length ∧ t.appR s = t.wrR (recL s) := by
  unfold Tp.appC Tp.appR Tp.wrC Tp.wrR
  rw [if_neg (show ¬ 4000 < s.length by omega), if_neg (show ¬ 262144 < t.b.length + (recL s).length by omega)]
  refine ⟨rfl, ?_⟩
  cases t.off with
  | true => rw [if_pos (Or.inr (Or.inr rfl)), if_pos rfl]
  | false =>
    rw [if_neg (show ¬ (4000 < s.length ∨ 262144 < t.b.length + (recL s).length ∨ false = true) by rintro (h | h | h) <;> first | omega | cases h)]
    rw [if_neg (show ¬ (false = true) by decide)]
set_option maxRecDepth 100000 in
set_option maxHeartbeats 2000000 in
theorem append_any (a : Nat → Addr) (W : World) (d : Nat) (v : Value) (t : Tp) (s : ByteArray) (w : World) (hE : EV tpS a W) (hT : Tab10 W) (hW : Below W.heap.size W w) (hd : W.heap.size ≤ d) (h : DiskAt w W.heap.size d v t) (hR : t.Right) :
    Calls Tryd.prog 8 #[.pointer (some ⟨d, 0, none⟩), .string s] w fun e w' => e = .returned (errV a (t.appC s.data.toList)) ∧ DPost w W.heap.size d v (t.appR s.data.toList) w' := by
  have el : s.data.toList.length = s.size := by simp
  have HS : Hid (DPost w W.heap.size d v t w) := ⟨v, h, KeptD.refl _ _⟩
  obtain ⟨v1, v2, v6, v15⟩ := glob_at hE hW
  by_cases hs : 4000 < s.size
  · have e1 : t.appC s.data.toList = 2 := if_pos (by rw [el]; exact hs)
    have e2 : t.appR s.data.toList = t := if_pos (Or.inl (by rw [el]; exact hs))
    have hz : (4000 : Int) < (s.size : Int) := by omega
    rw [e1, e2]
    clear h hE hT hW hR e1 e2 hs el
    go_enter Tryd.func8, Tryd.ntmps8
    go_wp2
    go_ret
    exact ⟨rfl, HS.out⟩
  · obtain ⟨g, cap, rfl, hcap, _⟩ := h.own.form
    have hlen := hR.len
    have HREC := hide (recT_any s w (tab_below hT hW) (by omega))
    have hz : ¬ (4000 : Int) < (s.size : Int) := by omega
    have hrl : (recL s.data.toList).length ≤ 4100 := by
      rw [rec_len, el]
      have := (Sl.numOk_iff _).1 (Sl.dec_ok s.size (by omega))
      rw [Lib.decDigits_length] at this
      omega
    have HC1 : Hid (∀ w1, Below w.heap.size w w1 → w1.cell? ⟨d, 0, none⟩ = some (.slice (some ⟨g, 0, none⟩) t.b.length cap) ∧ w1.cell? ⟨3, 0, none⟩ = some (eV (a 6))) := fun w1 hb =>
      ⟨(dky_cells (h.below hb).row).1.1, (glob_at hE (hW.trans (hb.mono hW.size))).2.2.1⟩
    have hrs : (txt (recL s.data.toList)).size = (recL s.data.toList).length := txt_size _
    have hw1 : IntKind.i64.wrap (262144 - (t.b.length : Int)) = 262144 - (t.b.length : Int) := by rw [IntKind.wrap_i64]; omega
    by_cases hf : 262144 < t.b.length + (recL s.data.toList).length
    · have e1 : t.appC s.data.toList = 7 := by unfold Tp.appC; rw [if_neg (by rw [el]; exact hs), if_pos hf]
      have e2 : t.appR s.data.toList = t := if_pos (Or.inr (Or.inl hf))
      have hq : 262144 - (t.b.length : Int) < ((txt (recL s.data.toList)).size : Int) := by rw [hrs]; omega
      have HD := hide h
      rw [e1, e2]
      clear h hE hT hW hR e1 e2 hs el hrl hf hrs
      generalize txt (recL s.data.toList) = r at *
      go_enter Tryd.func8, Tryd.ntmps8
      go_wp2_with fail
      refine HREC.out.mono ?_
      rintro e w1 ⟨rfl, hb⟩
      obtain ⟨c0, v6'⟩ := HC1.out w1 hb
      have HB := hide hb
      clear hb
      go_wp2
      go_ret
      exact ⟨rfl, _, HD.out.below HB.out, KeptD.of_below _ HB.out⟩
    · have hq : ¬ 262144 - (t.b.length : Int) < ((txt (recL s.data.toList)).size : Int) := by rw [hrs]; omega
      obtain ⟨e1, e2⟩ := app_wr (t := t) (s := s.data.toList) (by omega) (by omega)
      have HWR := hide (fun w1 (hb : Below w.heap.size w w1) => write_any a W d _ t (txt (recL s.data.toList)) w1 hE (hW.trans (hb.mono hW.size)) hd (h.below hb) hR (by rw [hrs]; omega))
      rw [hrs, txt_list] at HWR
      rw [e1, e2]
      clear h hE hT hW hR e1 e2 hs el hrl hf hrs
      generalize t.wrC (recL s.data.toList).length = c at *
      generalize t.wrR (recL s.data.toList) = t' at *
      generalize txt (recL s.data.toList) = r at *
      go_enter Tryd.func8, Tryd.ntmps8
      go_wp2_with fail
      refine HREC.out.mono ?_
      rintro e w1 ⟨rfl, hb⟩
      obtain ⟨c0, v6'⟩ := HC1.out w1 hb
      have HB := hide hb
      clear hb
      go_wp2_with fail
      refine (HWR.out w1 HB.out).mono ?_
      rintro e w2 ⟨rfl, hP⟩
      have HP : Hid (DPost w W.heap.size d (.slice (some ⟨g, 0, none⟩) t.b.length cap) t' w2) := DPost.from HB.out hP
      clear hP
      go_wp2
      go_ret
      exact ⟨rfl, HP.out⟩
end Go.Proofs.YteofodegeigmaaaDoor

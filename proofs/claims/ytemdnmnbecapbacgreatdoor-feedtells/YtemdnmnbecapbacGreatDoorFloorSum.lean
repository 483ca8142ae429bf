/-
  What package floor's Sum gives: the mark of a list's text, or 0, for every list.
-/
import Derived.Test.YtemdnmnbecapbacGreatDoorFeedPackA
import Derived.Test.YtemdnmnbecapbacGreatDoorMarkOf
namespace Go.Proofs.YtemdnmnbecapbacGreatDoor
open Go.RowKit Go.Extern.Stop Go.Stop Go.Extern Go.Proofs

theorem text_sizeS {l : List Fl} (h : RightF l) (hl : l.length ≤ 21) : (textL l).length ≤ 4000 := by
  unfold textL
  split
  · simp
  · have := join_len 44 30 (l.map oneT) (fun w hw => by
      obtain ⟨f, hf, rfl⟩ := List.mem_map.1 hw
      exact one_len (h.one f hf))
    rw [List.length_map] at this
    omega
/-- The sum of floors. -/
def sumL (l : List Fl) : Int := if (checkL l).1 = 0 then moreN 1 1 (textL l) else 0

set_option maxRecDepth 100000 in
set_option maxHeartbeats 2000000 in
theorem sum_ev (S : Nat → Bool) (hS : ∀ i, i < 16 → flS i = true → S i = true) (hS9 : S 9 = true) (a : Nat → Addr) (v : Value) (l : List Fl) (w : World) (h : EV S a w) (ht : Tab10 w) (hv : FlAt w v l) (hs : ∀ f ∈ l, f.who.size ≤ maxLen) (hl : l.length ≤ 1000000) :
    Calls Tryz.prog 11 #[v] w fun e w' => e = .returned (.int .i64 (sumL l)) ∧ Below w.heap.size w w' := by
  have HT := hide (text_any a v l w ⟨fun i hi h2 => h.var i hi (hS i hi h2)⟩ ht hv hs hl)
  have HE := hide h
  have HS1 : Hid (S 1 = true ∧ S 9 = true) := ⟨hS 1 (by decide) rfl, hS9⟩
  clear h ht hv hs hl hS hS9
  by_cases h0 : (checkL l).1 = 0
  · have HS : Hid (sumL l = moreN 1 1 (textL l)) := if_pos h0
    obtain ⟨hr, h21⟩ := right_of_check h0
    have HO := hide (fun w h => of_ev S HS1.out.1 HS1.out.2 a 1 (txt (textL l)) w h (by rw [txt_size]; have := text_sizeS hr h21; unfold maxLen; omega))
    rw [txt_list, show moreE 1 1 = 0 from by rw [key_more]; rfl] at HO
    replace HO : Hid (∀ w, EV S a w → Calls Tryz.prog 29 #[.int .i64 1, .string (txt (textL l))] w fun e w' => e = .returned (.tuple #[.int .i64 (moreN 1 1 (textL l)), .nilIface]) ∧ Below w.heap.size w w') := HO.out
    rw [HS.out]
    clear HS hr h21
    generalize moreN 1 1 (textL l) = m at *
    generalize textL l = t at *
    generalize checkL l = c at *
    go_enter Tryz.func11, Tryz.ntmps11
    go_wp2_with fail
    refine HT.out.mono ?_
    rintro e w1 ⟨hp, hb⟩
    rcases hp with ⟨_, rfl⟩ | ⟨hn, _⟩
    · have HB1 := hide hb
      clear hb HT h0
      go_wp2_with fail
      refine (HO.out _ (HE.out.below HB1.out)).mono ?_
      rintro e w2 ⟨rfl, hb⟩
      have HB2 : Hid (Below w.heap.size w w2) := HB1.out.trans (hb.mono HB1.out.size)
      clear hb HO HE HB1
      go_wp2
      go_ret
      exact ⟨rfl, HB2.out⟩
    · exact absurd h0 hn
  · have HS : Hid (sumL l = 0) := if_neg h0
    rw [HS.out]
    clear HS HE
    generalize textL l = t at *
    generalize checkL l = c at *
    go_enter Tryz.func11, Tryz.ntmps11
    go_wp2_with fail
    refine HT.out.mono ?_
    rintro e w1 ⟨hp, hb⟩
    rcases hp with ⟨hn, _⟩ | ⟨_, t1, p1, rfl, _⟩
    · exact absurd hn h0
    · clear h0 HT
      go_wp2
      go_ret
      exact ⟨rfl, hb⟩
theorem sum_any (a : Nat → Addr) (v : Value) (l : List Fl) (w : World) (h : Errs a w) (ht : Tab10 w) (hv : FlAt w v l) (hs : ∀ f ∈ l, f.who.size ≤ maxLen) (hl : l.length ≤ 1000000) :
    Calls Tryz.prog 11 #[v] w fun e w' => e = .returned (.int .i64 (sumL l)) ∧ Below w.heap.size w w' := sum_ev (fun _ => true) (fun _ _ _ => rfl) rfl a v l w (h.ev _) ht hv hs hl
end Go.Proofs.YtemdnmnbecapbacGreatDoor

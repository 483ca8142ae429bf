/-
  The closed fact of the chapter's statements: a head of one entry tells what it was made of.
-/
import Derived.Test.YtgagekcjdapkfacGreatDoorFeedAdd
import Derived.Test.YtgagekcjdapkfacGreatDoorFeedPb
import Derived.Deep.DeepCutAuto
namespace Go.Proofs.YtgagekcjdapkfacGreatDoor
open Go.RowKit Go.Extern.Stop Go.Stop Go.Extern Go.Proofs

abbrev enAnn : En := ⟨1, 3, ⟨fAnn, 2⟩⟩
theorem feed_nil : feedC [] = (0, -1) := rfl
theorem new_ann : newE [] 3 ⟨fAnn, 2⟩ = 0 := by
  unfold newE entE
  rw [if_neg (by decide), if_pos (by decide), if_pos (by decide), if_neg (by decide)]
  rfl
theorem add_ann : addC [] 3 ⟨fAnn, 2⟩ = (0, -1) ∧ addR [] 3 ⟨fAnn, 2⟩ = [enAnn] := by
  have e : addC [] 3 ⟨fAnn, 2⟩ = (0, -1) := by unfold addC; rw [if_pos (by rw [feed_nil]), new_ann]
  refine ⟨e, ?_⟩
  unfold addR
  rw [e, if_pos rfl]
  rfl
theorem feed_ann : (feedC [enAnn]).1 = 0 := (feed_add (l := []) (by rw [feed_nil]) 3 ⟨fAnn, 2⟩).trans new_ann
theorem raise_ann : (raiseC [] ⟨fAnn, 2⟩).1 = 0 ∧ raisedL [] ⟨fAnn, 2⟩ = [⟨fAnn, 2⟩] := ⟨by rw [raiseC_right right_nil (by decide) rfl]; rfl, rfl⟩
theorem floors_ann : floorsC [enAnn] = (0, -1) ∧ floorsR [enAnn] = [⟨fAnn, 2⟩] := by
  refine floors_some feed_ann ?_
  show stepO (some []) enAnn = _
  show (if (raiseC [] ⟨fAnn, 2⟩).1 = 0 then some (raisedL [] ⟨fAnn, 2⟩) else none) = _
  rw [if_pos raise_ann.1, raise_ann.2]
theorem head_ann : headC 7 [enAnn] 4 = (0, -1) := by
  unfold headC
  rw [if_pos (by decide), if_pos (by rw [floors_ann.1]), if_pos ⟨by decide, by decide⟩]
theorem opened_ann : openHC 7 (headT 7 [enAnn] 4) = 0 ∧ openHR 7 (headT 7 [enAnn] 4) = ⟨1, 4, sumL [⟨fAnn, 2⟩]⟩ := by
  have := head_open (key := 7) (l := [enAnn]) (time := 4) (by rw [head_ann])
  rw [floors_ann.2] at this
  exact this
theorem small_ann : ∀ f ∈ ([⟨fAnn, 2⟩] : List Fl), f.who.size ≤ maxLen := by
  intro f hf
  rw [List.mem_singleton.1 hf]
  decide

set_option maxRecDepth 100000 in
set_option maxHeartbeats 4000000 in
theorem fed_any (a : Nat → Addr) (w : World) (h : EnvF a w) :
    Calls Tryz.prog 9 #[] w fun e w' => e = .returned (.bool true) ∧ Below w.heap.size w w' := by
  have HAd := hide (fdAdd_any a (.slice none 0 0) [] 3 ⟨fAnn, 2⟩ w h.errs (Or.inl ⟨none, 0, rfl, rfl⟩) (fun e he => by cases he) (by decide) (by simp))
  rw [add_ann.1, add_ann.2] at HAd
  have HMk := hide (fun v w h hv => fdMake_any a 7 v [enAnn] 4 w h hv (fun e he => by rw [List.mem_singleton.1 he]; decide) (by simp))
  rw [head_ann] at HMk
  have HOp := hide (fun w h => fdOpen_any a 7 (txt (headT 7 [enAnn] 4)) w h)
  rw [txt_list, opened_ann.1, opened_ann.2, errV_zero] at HOp
  have HSm := hide (fun b w h ht hv => sum_ev fdS (by decide) rfl a (.slice (some ⟨b, 0, none⟩) 1 1) [⟨fAnn, 2⟩] w h ht hv small_ann (by simp))
  have HE := hide h
  unfold Fl.val at HAd
  unfold Hd.val at HOp
  clear h
  generalize headT 7 [enAnn] 4 = tx at *
  generalize sumL [⟨fAnn, 2⟩] = sm at *
  go_enter Tryz.func9, Tryz.ntmps9
  go_wp2_with fail
  refine HAd.out.mono ?_
  rintro e w1 ⟨⟨v1, ev, rfl, hown, herr, hnil⟩, hb⟩
  obtain rfl := herr.none rfl
  clear hnil
  have HB1 := hide hb
  have HV1 := hide hown.enAt
  obtain ⟨ad, cap, rfl, hcap⟩ := hown.enAt.form
  clear hb herr hown HAd
  go_wp2_with fail
  refine (HMk.out _ _ (HE.out.below HB1.out) HV1.out).mono ?_
  rintro e w2 ⟨hp, hb⟩
  rcases hp with ⟨_, rfl⟩ | ⟨hn, _⟩
  · have HB2 : Hid (Below w.heap.size w w2) := HB1.out.trans (hb.mono HB1.out.size)
    clear hb HMk HV1 HB1
    go_wp2_with fail
    refine (HOp.out _ (HE.out.below HB2.out)).mono ?_
    rintro e w3 ⟨rfl, hb⟩
    have HB3 : Hid (Below w.heap.size w w3) := HB2.out.trans (hb.mono HB2.out.size)
    clear hb HOp HB2
    have HB4 : Hid (Below w.heap.size w (w3.alloc (hdO ⟨1, 4, sm⟩))) := HB3.out.alloc HB3.out.size _
    have HR4 : Hid ((w3.alloc (hdO ⟨1, 4, sm⟩)).heap[w3.heap.size]? = some (hdO ⟨1, 4, sm⟩)) := heap_alloc_new _ _
    go_upto_region 4 with fail
    obtain ⟨W4, hW4⟩ : ∃ W, w3.alloc (.cells #[.int .i64 1, .int .i64 4, .int .i64 sm] 36) = W := ⟨_, rfl⟩
    rw [hW4] at HB4 HR4 ⊢
    generalize w3.heap.size = gb at *
    clear HB3 hW4 w3
    obtain ⟨c0, c1, c2, _⟩ := row_cells HR4.out
    dsimp only at c0 c1 c2
    have HB5 : Hid (Below w.heap.size w (W4.alloc (.cells #[.string fAnn, .int .i64 2] 24)).drew) := (HB4.out.alloc HB4.out.size _).drew
    have HF5 : Hid (FlAt (W4.alloc (.cells #[.string fAnn, .int .i64 2] 24)).drew (.slice (some ⟨W4.heap.size, 0, none⟩) 1 1) [⟨fAnn, 2⟩]) := (fl_alone W4 fAnn 2).below (Below.refl _ _).drew
    have HX5 : Hid ((W4.alloc (.cells #[.string fAnn, .int .i64 2] 24)).drew.heap[gb]? = some (hdO ⟨1, 4, sm⟩)) := (heap_alloc_old W4 _ (row_lt HR4.out)).trans HR4.out
    go_region_held3 (fun w' => w'.cell? ⟨gb, 0, none⟩ = some (.int .i64 1) ∧ w'.cell? ⟨gb, 1, none⟩ = some (.int .i64 4) ∧ w'.cell? ⟨gb, 2, none⟩ = some (.int .i64 sm)) (first | go_keep | assumption)
      (first
        | (go_at_call 15; refine (HSm.out _ _ (HE.out.below HB5.out).errs (HE.out.below HB5.out).tab HF5.out).mono ?_; rintro e w6 ⟨rfl, hb⟩; have HB6 : Hid (Below w.heap.size w w6) := HB5.out.trans (hb.mono HB5.out.size); have hx := row_cells ((hb.block _ (row_lt HX5.out)).trans HX5.out); have e0 := hx.1; have e1 := hx.2.1; have e2 := hx.2.2.1; dsimp only at e0 e1 e2; clear hx hb))
    go_wp2
    go_ret
    exact ⟨rfl, HB6.out⟩
  · exact absurd rfl hn
end Go.Proofs.YtgagekcjdapkfacGreatDoor

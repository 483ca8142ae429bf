/-
  The statement of FeedHeads: called with any arguments in any world where the listed package-level variables read as the program's text lays them, FeedHeads returns true and changes nothing that was there; the card ties the list to the program's text.
  What FeedHeads' own list of package-level variables gives, in a world of the program's shape: nine errors in their variables, the powers of ten, and some int in the library's MaxLen; and the world that the program's start lays meets the list.
-/
import Derived.Test.YtgagekcjdapkfacGreatDoorLaidLib
import Derived.Test.YtgagekcjdapkfacGreatDoorFeedPb
import Derived.Test.YtgagekcjdapkfacGreatDoorRows
import Derived.Test.YtgagekcjdapkfacGreatDoorCards
import Derived.Test.YtgagekcjdapkfacGreatDoorTie
import Derived.Test.YtgagekcjdapkfacGreatDoorFlPo
import Derived.Test.YtgagekcjdapkfacGreatDoorFeedHeads
import Derived.ProofKit
import Derived.LaidMore
import Derived.OpenShut
import Derived.Stop.Joined
import Derived.SevenTiedAt
namespace Go.Proofs.YtgagekcjdapkfacGreatDoor
open Go.ChangeShapes Go.WideShapes Go.ChangeAt Go.RowKit

/-- The row's own list. -/
def laidH : List (String × DataW Unit) := Rows.feedHeadsRow.laid
def nine : List Nat := [0, 1, 2, 3, 6, 7, 8, 9, 14]
def errL9 : List (String × List UInt8) := nine.map fun i => errL.getD (errPos.getD i 0) ("", [])
theorem errL9_ok : (errL9.all fun x => match Tryz.prog.globalNamed x.1 with | some g => (Tryz.prog.globals[g]?).map (·.type) == some 28 | none => false) = true := by kernel_rfl
theorem errL9_at : ((List.range 9).all fun k => match errL9[k]? with | some x => Tryz.prog.globalNamed x.1 == some (errG.getD (nine.getD k 0) 0) | none => false) = true := by kernel_rfl
theorem errL9_len : errL9.length = 9 := rfl
theorem env_of_laidH {W : World} (h : laidMetH Tryz.prog laidH W) (hsh : W.ShapedOpen Tryz.prog) : ∃ a, EnvF a W := by
  have h1 : laidMet Tryz.prog (("math/bits.deBruijn32tab", Rows.laid_math_bits_deBruijn32tab) :: ("math/bits.deBruijn64tab", Rows.laid_math_bits_deBruijn64tab) :: ("internal/strconv.uint64pow10", Rows.laid_internal_strconv_uint64pow10) :: ("unicode/utf8.acceptRanges", Rows.laid_unicode_utf8_acceptRanges) ::
      (errL9.map (sentD "*errors.errorString") ++ [("strconv.ErrRange", Rows.laid_strconv_ErrRange), ("strconv.ErrSyntax", Rows.laid_strconv_ErrSyntax), ("unicode/utf8.first", Rows.laid_unicode_utf8_first)])) W := h
  have h3 := laid_tail (laid_tail h1)
  have h4 := laid_tail (laid_tail h3)
  rw [pow10_data] at h3
  have htab : Lib.TabIs Tryz.prog W "internal/strconv.uint64pow10" .u64 Lib.pow10Tab := Lib.tabIs_of_head (g := 18) Tryz.pow10 (by kernel_rfl) Tryz.underlying251 Tryz.underlying232 (by kernel_rfl) (by kernel_rfl) h3
  have hlen9 : ∃ m, W.cell? ⟨17, 0, none⟩ = some (.int .i64 m) := cell_of_shapedOpen_int (t := 3) (zero := #[.int .i64 0]) hsh (of_decide_eq_true (by kernel_rfl)) (by kernel_rfl) rfl (by kernel_rfl) (by kernel_rfl) Tryz.underlying3
  obtain ⟨ps, hl, hnd, hrows⟩ := h4
  obtain ⟨al, hlen, hn, hm, hvs⟩ := sents_of_laid (nm := "*errors.errorString") Tryz.underlying28 Tryz.errRow Tryz.underlying263 Tryz.underlying265 rfl rfl Tryz.underlying9 Tryz.errCells Tryz.strCells _ errL9 ps hl hnd hrows (fun x hx => by
    have := List.all_eq_true.1 errL9_ok x hx
    cases hg : Tryz.prog.globalNamed x.1 with
    | none => simp [hg] at this
    | some g => exact ⟨g, rfl, by simpa [hg] using this⟩)
  rw [errL9_len] at hlen
  have hat : ∀ k, k < 9 → W.cell? ⟨errG.getD (nine.getD k 0) 0, 0, none⟩ = some (eV (al.getD k ⟨0, 0, none⟩)) := fun k hk => by
    have h2 := List.all_eq_true.1 errL9_at k (List.mem_range.2 hk)
    cases hx : errL9[k]? with
    | none => simp only [hx] at h2; cases h2
    | some x =>
      simp only [hx, beq_iff_eq] at h2
      have hb : al[k]? = some (al.getD k ⟨0, 0, none⟩) := by
        rw [List.getD_eq_getElem?_getD, List.getElem?_eq_getElem (by omega)]
        rfl
      simpa using World.var?_cell h2 (hvs k x _ hx hb) 0
  refine ⟨fun i => al.getD (nine.idxOf i) ⟨0, 0, none⟩, ⟨⟨fun i _ hs => ?_⟩, hlen9, htab⟩⟩
  have hi : i = 0 ∨ i = 1 ∨ i = 2 ∨ i = 3 ∨ i = 6 ∨ i = 7 ∨ i = 8 ∨ i = 9 ∨ i = 14 := by
    unfold fdS flS at hs
    simp only [Bool.or_eq_true, beq_iff_eq] at hs
    omega
  rcases hi with rfl | rfl | rfl | rfl | rfl | rfl | rfl | rfl | rfl
  · exact hat 0 (by decide)
  · exact hat 1 (by decide)
  · exact hat 2 (by decide)
  · exact hat 3 (by decide)
  · exact hat 4 (by decide)
  · exact hat 5 (by decide)
  · exact hat 6 (by decide)
  · exact hat 7 (by decide)
  · exact hat 8 (by decide)
theorem doorH_met (os : Os) (args : Array Value) : laidMetH Tryz.prog laidH (((World.doorLaid Tryz.prog 2000 os).layVars Tryz.prog [("unicode/utf8.first", Rows.laid_unicode_utf8_first)]).forCall (fun _ _ => 0) ⟨#[], args, []⟩).memory :=
  laidMetH_of_parts3 (fuel := 8)
    (laidMet_layVars (w0 := World.doorLaid Tryz.prog 2000 os) ["unicode/utf8.first"] ((List.range (World.doorLaid Tryz.prog 2000 os).heap.size).filter (· != 23)) (by kernel_rfl) (by kernel_rfl) (by kernel_rfl) (LaidIn.of_run ((List.range (World.doorLaid Tryz.prog 2000 os).heap.size).filter (· != 23)) 8 (by kernel_rfl) (by kernel_rfl) (by kernel_rfl) (by kernel_rfl)))
    (by kernel_rfl) (by kernel_rfl)
end Go.Proofs.YtgagekcjdapkfacGreatDoor

namespace Go.Proofs.YtgagekcjdapkfacGreatDoor
open Go.ChangeShapes Go.WideShapes Go.ChangeAt Go.RowKit
open Go.ChangeMaps (open_string shut_string)

set_option maxRecDepth 100000 in
theorem feedHeads_lifted (os : Os) (started : os.Started) (H : Type) (enc : TypeId × Value → H) :
    ReturnsInHanded {} Tryz.checked os 3 .any (fun w args => (Rows.feedHeadsSpec.pre enc Tryz.prog Tryz.f3 [] false w args ∧ laidMetH Tryz.prog laidH w) ∧ sizedMet enc Tryz.prog Tryz.f3 (OpenSpec.ofChange Rows.feedHeadsSpec) false w args)
      (Rows.feedHeadsSpec.post enc Tryz.prog Tryz.f3 false true false false) := by
  refine handed_shaped (C := Tryz.checked) (X := fun w => laidMetH Tryz.prog laidH w) (fun _ _ hh h => h.of_heap hh) Tryz.own started (by kernel_rfl) Tryz.func3
    (ChangeSpec.witness_shaped (enc := enc) (C := Tryz.checked) (os := os) (X := fun w _ => laidMetH Tryz.prog laidH w) false ((World.doorLaid Tryz.prog 2000 os).layVars Tryz.prog [("unicode/utf8.first", Rows.laid_unicode_utf8_first)]) #[.int .i64 0, .slice none 0 0, .int .i64 0, .agg #[.string ByteArray.empty, .int .i64 0], .int .i64 0, .string ByteArray.empty] 8 (wit_os os) (World.shaped_of_ZipB (by kernel_rfl) (by kernel_rfl)) (by kernel_rfl) (by kernel_rfl) (by kernel_rfl) (doorH_met os _)) ?_
  intro W base args ds gs before hval0 hW hL hsh
  have hval : ∀ (j : Nat) t v, Tryz.f3.params[j]? = some t → args[j]? = some v → Value.okWide Tryz.prog W .any base t v := hval0
  have hW' := hW
  obtain ⟨p, q, hA0, hV, rfl, hfz, hnd⟩ := hW
  have hA : DataW.TrodAll enc Tryz.prog W 0 (fun _ => true) true Tryz.f3.params.toList args.toList ds p := hA0
  rw [Tryz.params3] at hA hval
  obtain ⟨v0, vs0, d0, ds0, p0, q0, hargs, rfl, rfl, h0, r0⟩ := trodAll_cons hA
  obtain ⟨v1, vs1, d1, ds1, p1, q1, rfl, rfl, rfl, h1, r1⟩ := trodAll_cons r0
  obtain ⟨v2, vs2, d2, ds2, p2, q2, rfl, rfl, rfl, h2, r2⟩ := trodAll_cons r1
  obtain ⟨v3, vs3, d3, ds3, p3, q3, rfl, rfl, rfl, h3, r3⟩ := trodAll_cons r2
  obtain ⟨v4, vs4, d4, ds4, p4, q4, rfl, rfl, rfl, h4, r4⟩ := trodAll_cons r3
  obtain ⟨v5, vs5, d5, ds5, p5, q5, rfl, rfl, rfl, h5, r5⟩ := trodAll_cons r4
  obtain ⟨rfl, rfl, rfl⟩ := trodAll_nil r5
  obtain rfl : args = #[v0, v1, v2, v3, v4, v5] := by cases args; simp_all
  obtain ⟨rfl, rfl⟩ := trodVars_none hV
  obtain ⟨key, rfl, rfl, rfl, wkey⟩ := open_int Tryz.underlying3 (hval 0 3 v0 rfl rfl) h0
  obtain ⟨ad1, len1, cap1, rfl⟩ := okWide_slice Tryz.underlying22 (hval 1 22 v1 rfl rfl)
  obtain ⟨l, hl, _⟩ := entries_open h1
  obtain ⟨time, rfl, rfl, rfl, wtime⟩ := open_int Tryz.underlying3 (hval 2 3 v2 rfl rfl) h2
  obtain ⟨f, rfl, _⟩ := fl_open (hval 3 24 v3 rfl rfl) h3
  obtain ⟨seq, rfl, rfl, rfl, wseq⟩ := open_int Tryz.underlying3 (hval 4 3 v4 rfl rfl) h4
  obtain ⟨name, rfl, rfl, rfl, wname⟩ := open_string Tryz.underlying9 (hval 5 9 v5 rfl rfl) h5
  obtain ⟨a, hE⟩ := env_of_laidH hL hsh
  clear hA0 hval0
  simp only [List.append_nil, List.nil_append] at hW'
  have hlt1 : ∀ x ∈ p1, x.block < W.heap.size := fun x hx => by simpa using hW'.lt x (by simp [hx])
  have hlt3 : ∀ x ∈ p3, x.block < W.heap.size := fun x hx => by simpa using hW'.lt x (by simp [hx])
  refine (feedHeads_law a key _ l time f seq name W hE hl).mono fun e W' ⟨he, hb⟩ => ?_
  subst he
  refine ⟨_, rfl, _, _, _, [], [] ++ (p1 ++ ([] ++ (p3 ++ ([] ++ ([] ++ ([])))))), [], by simpa using hW', ?_, ?_, ?_, hb.frame _, fun h => by cases h⟩
  · exact trodAll_cons_mk (p := []) (p' := []) (shut_bool Tryz.underlying4 _) trodAll_mk0
  · exact trodAll_cons_mk (p := []) (p' := p1 ++ ([] ++ (p3 ++ ([] ++ ([] ++ ([])))))) (shut_int Tryz.underlying3 wkey) (trodAll_cons_mk (p := p1) (p' := [] ++ (p3 ++ ([] ++ ([] ++ ([]))))) (Below.trod Tryz.laidOut (by kernel_rfl) (of_decide_eq_true (by kernel_rfl)) h1 hb hlt1) (trodAll_cons_mk (p := []) (p' := p3 ++ ([] ++ ([] ++ ([])))) (shut_int Tryz.underlying3 wtime) (trodAll_cons_mk (p := p3) (p' := [] ++ ([] ++ ([]))) (Below.trod Tryz.laidOut (by kernel_rfl) (of_decide_eq_true (by kernel_rfl)) h3 hb hlt3) (trodAll_cons_mk (p := []) (p' := [] ++ ([])) (shut_int Tryz.underlying3 wseq) (trodAll_cons_mk (p := []) (p' := []) (shut_string Tryz.underlying9 wname) trodAll_mk0)))))
  · rfl

theorem feedHeads_holds : Rows.FeedHeadsSaid :=
  OpenClaim.holds_of_wide 3 Tryz.f3 rfl rfl rfl rfl rfl rfl rfl ⟨rfl, rfl, rfl, rfl, rfl⟩ rfl rfl rfl rfl rfl (by kernel_rfl) Tryz.func3 (by kernel_rfl)
    (of_decide_eq_true (by kernel_rfl)) (by unfold Func.isWrapper; first | (rw [if_pos (by decide +kernel)]; kernel_rfl) | (rw [if_neg (by decide +kernel)]; exact ⟨rfl, rfl⟩))
    (fun os started H enc _ => feedHeads_lifted os started H enc)

theorem feedHeads_plain (f : FuncId) (fn : Func) (hf : Tryz.pinned.checked.prog.funcNamed "keyholder/keyholderlaw2.FeedHeads" = some f) (hfn : Tryz.pinned.checked.prog.funcs[f]? = some fn) :
    true = Tryz.pinned.checked.prog.looks [] ∧ ∀ (j : Nat) t, fn.params[j]? = some t → Tryz.pinned.checked.prog.wantsStandIn t = false := by
  obtain rfl : f = 3 := Option.some.inj ((show Tryz.prog.funcNamed "keyholder/keyholderlaw2.FeedHeads" = some 3 by kernel_rfl).symm.trans hf) |>.symm
  obtain rfl : fn = Tryz.f3 := (Option.some.inj (Tryz.func3.symm.trans hfn)).symm
  refine ⟨by kernel_rfl, fun j t ht => ?_⟩
  rw [Tryz.params3] at ht
  have hm : t ∈ [3, 22, 3, 24, 3, 9] := by simpa using Array.mem_of_getElem? ht
  have hall : ([3, 22, 3, 24, 3, 9].all fun u => !Tryz.prog.wantsStandIn u) = true := by kernel_rfl
  exact (show Tryz.prog.wantsStandIn t = false by simpa using List.all_eq_true.1 hall t hm)

theorem feedHeads_card : Rows.FeedHeadsCardSaid :=
  Claim7.holds_tied_plain_at .later [] _ _ _ _ feedHeads_holds (fun _ h => by cases h) (by kernel_rfl) (fun _ h => by cases h) feedHeads_row_tie rfl ⟨rfl, rfl⟩ (by kernel_rfl) rfl feedHeads_plain (by kernel_rfl)
#print axioms feedHeads_card
end Go.Proofs.YtgagekcjdapkfacGreatDoor

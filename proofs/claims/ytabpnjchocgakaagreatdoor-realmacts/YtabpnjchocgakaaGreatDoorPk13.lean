/-
  What the functions of these parts do, and what holds of their plain forms: LaidBase, LaidLib, RealmAsk, FieldSix, AskOpen, RealmPlus, RealmBack, RealmAdd, FeedHead, FloorSum, FeedMake, Hand, TicketRef4, TicketRef5, TicketLaw, RealmNew, BookSort, BookAll, BookLaw, RealmFlu, FloorGlue, FloorRefText, FeedRefHead.
-/
import Derived.Test.YtabpnjchocgakaaGreatDoorRows
import Derived.Test.YtabpnjchocgakaaGreatDoorErrs
import Derived.ProofKit
import Derived.LaidMore
import Derived.LaidHandle
import Derived.LaidLaws
import Derived.Stop.LaidErr
import Derived.Test.YtabpnjchocgakaaGreatDoorPk02
import Derived.Lib.LaidTab
import Derived.Lib.LaidIn
import Derived.Lay
import Derived.Shelf.Vars
import Derived.Handed
import Derived.SliceStrings
import Derived.Carry
import Derived.OpenShut
import Derived.Test.YtabpnjchocgakaaGreatDoorProg
import Derived.Test.YtabpnjchocgakaaGreatDoorPk00
import Derived.WalkKit
import Derived.OwnWalk
import Derived.Laws.Rows
import Derived.BigQuiet
import Derived.Deep.Fields
import Derived.Deep.Slices
import Derived.Lib.SmallJoins
import Derived.ChangeArms
import Derived.Test.YtabpnjchocgakaaGreatDoorRealmRef6
import Derived.Test.YtabpnjchocgakaaGreatDoorPk04
import Derived.Test.YtabpnjchocgakaaGreatDoorPk12
import Derived.RangeFuncNested
import Derived.RangeFuncLeaves
import Derived.Shelf.Abstract
import Derived.OwnWalkIn
import Derived.TacticsInMore
import Derived.BigFrameIn
import Derived.LoopNIn
import Derived.LoopIn
import Derived.Shelf.SlIter.Collect
import Derived.Test.YtabpnjchocgakaaGreatDoorPk09
import Derived.Deep.RegionHeld3
import Derived.Test.YtabpnjchocgakaaGreatDoorMarkOf
import Derived.Test.YtabpnjchocgakaaGreatDoorPk06
import Derived.Test.YtabpnjchocgakaaGreatDoorRealmRef
import Derived.Shelf.SlSortCmp.InsertionK
import Derived.Lib.Bytealg
import Derived.Shelf.SlSortCmp.NoneTotal
import Derived.Deep.QuietTactic
import Derived.Test.YtabpnjchocgakaaGreatDoorPk10
import Derived.Test.YtabpnjchocgakaaGreatDoorRealmRef5
import Derived.Test.YtabpnjchocgakaaGreatDoorPk11
namespace Go.Proofs.YtabpnjchocgakaaGreatDoor
open Go.ChangeShapes Go.WideShapes Go.ChangeAt Go.RowKit
def sentD (nm : String) (x : String × List UInt8) : String × DataW Unit := (x.1, .iface nm (.ptr (.agg [.lit (.string x.2)])))
theorem sents_of_laid {P : Program} {W : World} {nm : String} {ti tp te ts : TypeId} {ms : Array (String × TypeId)} {f : Field}
  (hi : P.underlying ti = some (.interface ms)) (hrow : ∀ u, P.typeName? 3 u = some nm → u = tp)
  (hp : P.underlying tp = some (.pointer te)) (he : P.underlying te = some (.struct #[f])) (hft : f.type = ts) (hfo : f.offset = 0) (hs : P.underlying ts = some .string) (hc : P.cellsOf te = 1) (hcs : P.cellsOf ts = 1) (r : List (String × DataW Unit)) :
  ∀ (l : List (String × List UInt8)) (ps : List MemPlace), DataW.LaidVars P W (l.map (sentD nm) ++ r) ps → ps.Nodup →
   (∀ b off, MemPlace.cell b off ∈ ps → (∃ c t, W.heap[b]? = some (.cells c t (0, 0))) ∧ ∀ u v, W.cell? ⟨b, off, none⟩ = some (.iface u v) → Value.okWide P W .any 0 u v) →
   (∀ x ∈ l, ∃ g, P.globalNamed x.1 = some g ∧ (P.globals[g]?).map (·.type) = some ti) →
   ∃ al : List Addr, al.length = l.length ∧ al.Nodup ∧ (∀ b ∈ al, MemPlace.cell b.block b.off ∈ ps) ∧
    ∀ (i : Nat) (x : String × List UInt8) (b : Addr), l[i]? = some x → al[i]? = some b → W.var? P x.1 = some #[.iface tp (.pointer (some b))] := by
 intro l
 induction l with
 | nil =>
  intro ps _ _ _ _
  exact ⟨[], rfl, List.nodup_nil, fun b h => by simp at h, fun i x b h => by simp at h⟩
 | cons y l ih =>
  intro ps h hnd hrows hty
  obtain ⟨g, hg, ht⟩ := hty y (by simp)
  obtain ⟨g', t', cs, fuel, p, q, hg', ht', hv, hd, hr, e⟩ := h
  obtain rfl := Option.some.inj (hg.symm.trans hg')
  obtain rfl := Option.some.inj (ht.symm.trans ht')
  subst e
  obtain ⟨cl⟩ := cs
  have ok : ∀ u v, cl = [.iface u v] → Value.okWide P W .any 0 u v := fun u v e => by
   subst e
   exact (hrows g 0 (by simp [MemPlace.row])).2 u v (by simpa using World.var?_cell hg hv 0)
  obtain ⟨a, s, rfl, _, _, _, rfl⟩ := errorString_of_trod hi hrow hp he hft hfo hs hc hcs hd ok
  obtain ⟨al, hlen, hn, hm, hvs⟩ := ih q hr (List.nodup_append.1 hnd).2.1 (fun b off hb => hrows b off (by simp [hb])) (fun x hx => hty x (by simp [hx]))
  refine ⟨a :: al, by simp [hlen], ?_, ?_, ?_⟩
  ·
   refine List.nodup_cons.2 ⟨fun hmem => ?_, hn⟩
   have h1 := hm a hmem
   have h2 := (List.nodup_append.1 hnd).2.2 (MemPlace.cell a.block a.off) (by simp [MemPlace.row]) _ h1
   exact h2 rfl
  ·
   intro b hb
   rcases List.mem_cons.1 hb with rfl | hb
   ·
    simp [MemPlace.row]
   ·
    simp [hm b hb]
  ·
   intro i x b hx hb
   cases i with
   | zero =>
    simp only [List.getElem?_cons_zero, Option.some.injEq] at hx hb
    subst hx; subst hb
    exact hv
   | succ i =>
    simp only [List.getElem?_cons_succ] at hx hb
    exact hvs i x b hx hb
theorem Tryz.star : "*errors.errorString" = "*" ++ "errors.errorString" := by decide
theorem Tryz.errRow (u : TypeId) (h : Tryz.prog.typeName? 3 u = some "*errors.errorString") : u = 328 :=
 typeName_ptr_named (nm := "errors.errorString") (by rw [← Tryz.star]; kernel_rfl) (by kernel_rfl) (by decide) u (by rw [← Tryz.star]; exact h)
theorem Tryz.errCells : Tryz.prog.cellsOf 330 = 1 := by kernel_rfl
theorem Tryz.strCells : Tryz.prog.cellsOf 9 = 1 := by kernel_rfl
theorem Tryz.own : ownKnob Tryz.prog.godebug = none := by kernel_rfl
theorem Tryz.et : Tryz.prog.globalNamed "errors.errorType" = some 16 := by kernel_rfl
theorem Tryz.rt : (Tryz.prog.cutTypes.find? (·.1 == "internal/reflectlite.rtype")).map (·.2) = some 263 := by kernel_rfl
theorem Tryz.oneRow : ((List.range 363).filter fun t => Tryz.prog.rowNamed t [101, 114, 114, 111, 114]) = [27] := by kernel_rfl
theorem Tryz.size : Tryz.prog.types.size = 363 := by kernel_rfl
theorem handle_of {W : World} {hs : List (String × DataW Unit)} (h : handlesMet Tryz.prog (("errors.errorType", Rows.laid_errors_errorType) :: hs) W) : W.cell? ⟨16, 0, none⟩ = some (.iface 263 (.agg #[.pointer (some ⟨25, 27, none⟩)])) := by
 obtain ⟨name, u, ty, e1, e2, e3, e4, e5⟩ := h ("errors.errorType", Rows.laid_errors_errorType) List.mem_cons_self
 have en : name = [101, 114, 114, 111, 114] := (Option.some.inj e1).symm
 subst en
 obtain rfl := Option.some.inj (Tryz.rt.symm.trans e2)
 have hm : ty ∈ (List.range 363).filter fun t => Tryz.prog.rowNamed t [101, 114, 114, 111, 114] := List.mem_filter.2 ⟨List.mem_range.2 (by rw [← Tryz.size]; exact e3), e4⟩
 rw [Tryz.oneRow] at hm
 obtain rfl := List.mem_singleton.1 hm
 have hh : typeHandle Tryz.prog 27 = .pointer (some ⟨25, 27, none⟩) := by kernel_rfl
 rw [hh] at e5
 simpa using World.var?_cell Tryz.et e5 0
def errL : List (String × List UInt8) := [("keyholder/api.ErrText", [107, 101, 121, 104, 111, 108, 100, 101, 114, 58, 32, 116, 101, 120, 116]), ("keyholder/api.ErrBound", [107, 101, 121, 104, 111, 108, 100, 101, 114, 58, 32, 98, 111, 117, 110, 100]), ("keyholder/api.ErrShape", [107, 101, 121, 104, 111, 108, 100, 101, 114, 58, 32, 115, 104, 97, 112, 101]), ("keyholder/api.ErrName", [107, 101, 121, 104, 111, 108, 100, 101, 114, 58, 32, 110, 97, 109, 101]), ("keyholder/api.ErrNone", [107, 101, 121, 104, 111, 108, 100, 101, 114, 58, 32, 110, 111, 110, 101]), ("keyholder/api.ErrExist", [107, 101, 121, 104, 111, 108, 100, 101, 114, 58, 32, 101, 120, 105, 115, 116]), ("keyholder/api.ErrFull", [107, 101, 121, 104, 111, 108, 100, 101, 114, 58, 32, 102, 117, 108, 108]), ("keyholder/api.ErrOrder", [107, 101, 121, 104, 111, 108, 100, 101, 114, 58, 32, 111, 114, 100, 101, 114]), ("keyholder/api.ErrMark", [107, 101, 121, 104, 111, 108, 100, 101, 114, 58, 32, 109, 97, 114, 107]), ("keyholder/api.ErrKey", [107, 101, 121, 104, 111, 108, 100, 101, 114, 58, 32, 107, 101, 121]), ("keyholder/api.ErrEarly", [107, 101, 121, 104, 111, 108, 100, 101, 114, 58, 32, 101, 97, 114, 108, 121]), ("keyholder/api.ErrLate", [107, 101, 121, 104, 111, 108, 100, 101, 114, 58, 32, 108, 97, 116, 101]), ("keyholder/api.ErrFloor", [107, 101, 121, 104, 111, 108, 100, 101, 114, 58, 32, 102, 108, 111, 111, 114]), ("keyholder/api.ErrStale", [107, 101, 121, 104, 111, 108, 100, 101, 114, 58, 32, 115, 116, 97, 108, 101]), ("keyholder/api.ErrGap", [107, 101, 121, 104, 111, 108, 100, 101, 114, 58, 32, 103, 97, 112]), ("keyholder/api.ErrOff", [107, 101, 121, 104, 111, 108, 100, 101, 114, 58, 32, 111, 102, 102])]
def errPos : List Nat := [0, 1, 2, 3, 4, 5, 6, 7, 8, 9, 10, 11, 12, 13, 14, 15]
theorem errL_ok : (errL.all fun x => match Tryz.prog.globalNamed x.1 with | some g => (Tryz.prog.globals[g]?).map (·.type) == some 27 | none => false) = true := by kernel_rfl
theorem errPos_ok : ((List.range 16).all fun i => match errL[errPos.getD i 0]? with | some x => Tryz.prog.globalNamed x.1 == some (errG.getD i 0) && errPos.getD i 0 < 16 | none => false) = true := by kernel_rfl
theorem errPos_inj : ((List.range 16).all fun i => (List.range 16).all fun j => i == j || errPos.getD i 0 != errPos.getD j 0) = true := by decide
theorem errL_len : errL.length = 16 := rfl
theorem errs_of_vars {W : World} {r : List (String × DataW Unit)} (h : laidMet Tryz.prog (errL.map (sentD "*errors.errorString") ++ r) W)
  (ht : W.cell? ⟨16, 0, none⟩ = some (.iface 263 (.agg #[.pointer (some ⟨25, 27, none⟩)]))) : ∃ a, Errs a W := by
 obtain ⟨ps, hl, hnd, hrows⟩ := h
 obtain ⟨al, hlen, hn, hm, hvs⟩ := sents_of_laid (nm := "*errors.errorString") Tryz.underlying27 Tryz.errRow Tryz.underlying328 Tryz.underlying330 rfl rfl Tryz.underlying9 Tryz.errCells Tryz.strCells r errL ps hl hnd hrows (fun x hx => by
  have := List.all_eq_true.1 errL_ok x hx
  cases hg : Tryz.prog.globalNamed x.1 with
  | none => simp [hg] at this
  | some g => exact ⟨g, rfl, by simpa [hg] using this⟩)
 rw [errL_len] at hlen
 have hpos : ∀ i, i < 16 → ∃ x, errL[errPos.getD i 0]? = some x ∧ Tryz.prog.globalNamed x.1 = some (errG.getD i 0) ∧ errPos.getD i 0 < 16 := by
  intro i hi
  have := List.all_eq_true.1 errPos_ok i (List.mem_range.2 hi)
  cases hx : errL[errPos.getD i 0]? with
  | none => simp only [hx] at this; cases this
  | some x =>
   simp only [hx, Bool.and_eq_true, beq_iff_eq, decide_eq_true_eq] at this
   exact ⟨x, rfl, this.1, this.2⟩
 have hget : ∀ i, i < 16 → al[errPos.getD i 0]? = some (al.getD (errPos.getD i 0) ⟨0, 0, none⟩) := by
  intro i hi
  obtain ⟨_, _, _, h3⟩ := hpos i hi
  generalize errPos.getD i 0 = n at h3 ⊢
  rw [List.getD_eq_getElem?_getD, List.getElem?_eq_getElem (by omega)]
  rfl
 refine ⟨fun i => al.getD (errPos.getD i 0) ⟨0, 0, none⟩, ⟨fun i hi => ?_, fun i hi => ?_, fun i j hi hj hij => ?_, ht⟩⟩
 ·
  obtain ⟨x, hx, hg, h3⟩ := hpos i hi
  have := hvs _ x _ hx (hget i hi)
  simpa using World.var?_cell hg this 0
 ·
  have hmem : al.getD (errPos.getD i 0) ⟨0, 0, none⟩ ∈ al := List.mem_of_getElem? (hget i hi)
  exact (hrows _ _ (hm _ hmem)).1
 ·
  have hd := List.all_eq_true.1 (List.all_eq_true.1 errPos_inj i (List.mem_range.2 hi)) j (List.mem_range.2 hj)
  simp only [Bool.or_eq_true, beq_iff_eq, hij, false_or, bne_iff_ne, ne_eq] at hd
  intro e
  have e' : al.getD (errPos.getD i 0) ⟨0, 0, none⟩ = al.getD (errPos.getD j 0) ⟨0, 0, none⟩ := e
  obtain ⟨_, _, _, hi3⟩ := hpos i hi
  obtain ⟨_, _, _, hj3⟩ := hpos j hj
  have h1 := hget i hi
  have h2 := hget j hj
  rw [e', ← h2] at h1
  exact hd ((List.getElem?_inj (i := errPos.getD i 0) (j := errPos.getD j 0) (by omega) hn).1 h1)
def laidL : List (String × DataW Unit) := Rows.realmActsRow.laid
theorem laid_tail {P : Program} {W : World} {x : String × DataW Unit} {r : List (String × DataW Unit)} (h : laidMet P (x :: r) W) : laidMet P r W := by
 obtain ⟨ps, ⟨g, t, cs, fuel, p, q, _, _, _, _, hr, rfl⟩, hnd, hrows⟩ := h
 exact ⟨q, hr, (List.nodup_append.1 hnd).2.1, fun b off hb => hrows b off (by simp [hb])⟩
theorem pow10_data : Rows.laid_internal_strconv_uint64pow10 (H := Unit) = Lib.tabData .u64 Lib.pow10Tab := by kernel_rfl
theorem env_of_laid {W : World} (h : laidMetH Tryz.prog laidL W) (hsh : W.ShapedOpen Tryz.prog) : ∃ a, Env a W := by
 have h1 : laidMet Tryz.prog (("math/bits.deBruijn32tab", Rows.laid_math_bits_deBruijn32tab) :: ("math/bits.deBruijn64tab", Rows.laid_math_bits_deBruijn64tab) :: ("internal/strconv.uint64pow10", Rows.laid_internal_strconv_uint64pow10) :: ("unicode/utf8.acceptRanges", Rows.laid_unicode_utf8_acceptRanges) ::
   (errL.map (sentD "*errors.errorString") ++ [("strconv.ErrRange", Rows.laid_strconv_ErrRange), ("strconv.ErrSyntax", Rows.laid_strconv_ErrSyntax), ("unicode/utf8.first", Rows.laid_unicode_utf8_first)])) W := h.1
 have h3 := laid_tail (laid_tail h1)
 have h4 := laid_tail (laid_tail h3)
 obtain ⟨a, hE⟩ := errs_of_vars h4 (handle_of (hs := []) h.2)
 rw [pow10_data] at h3
 have htab : Lib.TabIs Tryz.prog W "internal/strconv.uint64pow10" .u64 Lib.pow10Tab := Lib.tabIs_of_head (g := 18) Tryz.pow10 (by kernel_rfl) Tryz.underlying288 Tryz.underlying249 (by kernel_rfl) (by kernel_rfl) h3
 have hlen : ∃ m, W.cell? ⟨17, 0, none⟩ = some (.int .i64 m) := cell_of_shapedOpen_int (t := 3) (zero := #[.int .i64 0]) hsh (of_decide_eq_true (by kernel_rfl)) (by kernel_rfl) rfl (by kernel_rfl) (by kernel_rfl) Tryz.underlying3
 exact ⟨a, hE, hlen, htab⟩
theorem wit_os (os : Os) : ((World.doorLaid Tryz.prog 2000 os).layVars Tryz.prog [("unicode/utf8.first", Rows.laid_unicode_utf8_first)]).os = os := World.layVars_os _ _ _
theorem door_met (os : Os) (args : Array Value) : laidMetH Tryz.prog laidL (((World.doorLaid Tryz.prog 2000 os).layVars Tryz.prog [("unicode/utf8.first", Rows.laid_unicode_utf8_first)]).forCall (fun _ _ => 0) ⟨#[], args, []⟩).memory :=
 laidMetH_of_parts3 (fuel := 8)
  (laidMet_layVars (w0 := World.doorLaid Tryz.prog 2000 os) ["unicode/utf8.first"] ((List.range (World.doorLaid Tryz.prog 2000 os).heap.size).filter (· != 23)) (by kernel_rfl) (by kernel_rfl) (by kernel_rfl) (LaidIn.of_run ((List.range (World.doorLaid Tryz.prog 2000 os).heap.size).filter (· != 23)) 8 (by kernel_rfl) (by kernel_rfl) (by kernel_rfl) (by kernel_rfl)))
  (by kernel_rfl) (by kernel_rfl)
theorem Tryz.laidOut : laidOutB Tryz.prog = true := by kernel_rfl
theorem handed_shaped {H : Type} {enc : TypeId × Value → H} {a : Assume} {C : Checked} {os : Os} {f : FuncId} {fn : Func} {s : ChangeSpec} {conds : List PathCond} {apart fresh handsOn again : Bool} {X : World → Prop}
  (hX : ∀ w w' : World, w.heap = w'.heap → X w → X w')
  (own : ownKnob C.prog.godebug = none) (started : os.Started) (noInit : C.prog.inits.idxOf? f = none) (hfn : C.prog.funcs[f]? = some fn)
  (witness : ∃ (w : World) (tape : Tape) (i : Input), w.os = os ∧ (w.forCall tape i).Shaped C.prog ∧ i.vars = [] ∧ Input.okWide C.prog (w.forCall tape i) .any w.heap.size f i ∧
   ((s.pre enc C.prog fn conds apart (w.forCall tape i).memory i.args ∧ X (w.forCall tape i).memory) ∧ sizedMet enc C.prog fn (OpenSpec.ofChange s) apart (w.forCall tape i).memory i.args) ∧ a.holds C.prog (lone (Frame.enter C.prog f i.args .normal) [] (w.forCall tape i)))
  (contract : ∀ (W : World) (base : Nat) (args : Array Value) (ds gs : List (DataW H)) (before : List MemPlace),
   (∀ (j : Nat) t v, fn.params[j]? = some t → args[j]? = some v → Value.okWide C.prog W .any base t v) →
   DataW.Whole enc C.prog fn.params.toList s.vars apart W args.toList ds gs before → X W → W.ShapedOpen C.prog →
   Calls C.prog f args W fun e W' => ∃ v, e = .returned v ∧ s.post enc C.prog fn apart fresh handsOn again W args v W') :
  ReturnsInHanded a C os f .any (fun w args => (s.pre enc C.prog fn conds apart w args ∧ X w) ∧ sizedMet enc C.prog fn (OpenSpec.ofChange s) apart w args) (s.post enc C.prog fn apart fresh handsOn again) := by
 refine returnsInHanded_of_calls own started noInit witness ?_
 intro w tape i _ hsh _ hok hpre _
 obtain ⟨_, _, _, fn', hfn', _, _, _, _, hval⟩ := hok
 have e : fn' = fn := Option.some.inj (hfn'.symm.trans hfn)
 subst e
 obtain ⟨⟨⟨ds, gs, before, hw, _⟩, hx⟩, _⟩ := hpre
 refine (contract (w.forCall tape i) w.heap.size i.args ds gs before hval (DataW.Whole.of_heap (w' := w.forCall tape i) (by rfl) hw) (hX _ _ (by rfl) hx) hsh).mono fun e W' ⟨v, he, hp⟩ => ?_
 subst he
 exact ChangeSpec.post_blind hp
end Go.Proofs.YtabpnjchocgakaaGreatDoor

namespace Go.Proofs.YtabpnjchocgakaaGreatDoor
open Go Go.RowKit Go.Extern.Stop Go.Stop Go.Extern Go.Proofs
structure Aq where
 kind : ByteArray
 a : ByteArray
 b : ByteArray
 s : ByteArray
 n : Int
 is : Bool
def AqAt (w : World) (b p : Nat) (m : Aq) : Prop :=
 w.cell? ⟨b, p, none⟩ = some (.string m.kind) ∧ w.cell? ⟨b, p + 1, none⟩ = some (.string m.a) ∧ w.cell? ⟨b, p + 2, none⟩ = some (.string m.b) ∧ w.cell? ⟨b, p + 3, none⟩ = some (.string m.s) ∧ w.cell? ⟨b, p + 4, none⟩ = some (.int .i64 m.n) ∧ w.cell? ⟨b, p + 5, none⟩ = some (.bool m.is)
theorem AqAt.below {w w' : World} {b p : Nat} {m : Aq} (h : AqAt w b p m) (hb : Below w.heap.size w w') : AqAt w' b p m := by
 obtain ⟨h0, h1, h2, h3, h4, h5⟩ := h
 exact ⟨(hb.cell (cell_lt h0)).trans h0, (hb.cell (cell_lt h1)).trans h1, (hb.cell (cell_lt h2)).trans h2, (hb.cell (cell_lt h3)).trans h3, (hb.cell (cell_lt h4)).trans h4, (hb.cell (cell_lt h5)).trans h5⟩
def AqIn (w : World) (v : Value) (l : List Aq) : Prop := ∃ ad cap, v = .slice ad l.length cap ∧ l.length ≤ cap ∧ (0 < l.length → ∃ b o, ad = some ⟨b, o, none⟩ ∧ b < w.heap.size ∧ ∀ i m, l[i]? = some m → AqAt w b (o + i * 6) m)
theorem AqIn.below {w w' : World} {v : Value} {l : List Aq} (h : AqIn w v l) (hb : Below w.heap.size w w') : AqIn w' v l := by
 obtain ⟨ad, cap, h1, h2, h3⟩ := h
 refine ⟨ad, cap, h1, h2, fun h0 => ?_⟩
 obtain ⟨b, o, h4, h5, h6⟩ := h3 h0
 exact ⟨b, o, h4, Nat.lt_of_lt_of_le h5 hb.size, fun i m hi => (h6 i m hi).below hb⟩
def longA (m : Aq) : Bool := decide (20 < m.kind.size) || decide (20 < m.a.size) || decide (20 < m.b.size) || decide (200 < m.s.size)
def longAq (most : Nat) (l : List Aq) : Bool := decide (most < l.length) || l.any longA
theorem longAq_no {most : Nat} {l : List Aq} (h : longAq most l = false) : l.length ≤ most ∧ ∀ m ∈ l, m.kind.size ≤ 20 ∧ m.a.size ≤ 20 ∧ m.b.size ≤ 20 ∧ m.s.size ≤ 200 := by
 unfold longAq at h
 simp only [Bool.or_eq_false_iff, decide_eq_false_iff_not, List.any_eq_false] at h
 refine ⟨by omega, fun m hm => ?_⟩
 have := h.2 m hm
 unfold longA at this
 simp only [Bool.or_eq_true, decide_eq_true_eq, not_or] at this
 omega
set_option maxRecDepth 100000 in
set_option maxHeartbeats 8000000 in
theorem longAsks_any (most : Nat) (v : Value) (l : List Aq) (w : World) (hv : AqIn w v l) (hm : most ≤ 1000000) :
  Calls Tryz.prog 7 #[v, .int .i64 (most : Int)] w fun e w' => e = .returned (.bool (longAq most l)) ∧ w' = w := by
 obtain ⟨ad, cap, rfl, hc, hcell⟩ := hv
 by_cases h40 : most < l.length
 ·
  have hL : longAq most l = true := by unfold longAq; rw [decide_eq_true h40]; rfl
  rw [hL]
  generalize l.length = n at *
  have hz : (most : Int) < (n : Int) := by omega
  clear hcell hL
  go_enter Tryz.func7, Tryz.ntmps7
  go_wp2
  go_ret
  exact ⟨rfl, rfl⟩
 ·
  have HQ : Hid (longAq most l = l.any longA) := by show _ = _; unfold longAq; rw [decide_eq_false h40]; rfl
  generalize hr : longAq most l = r at *
  have HV := hide hcell
  generalize hn : l.length = n at *
  have HN := hide hn
  have hz : ¬ (most : Int) < (n : Int) := by omega
  have hn40 : n ≤ 1000000 := by omega
  clear hcell hr hn h40
  go_enter Tryz.func7, Tryz.ntmps7
  go_wp2
  go_loop [5] (fun i => ∃ k : Nat, k ≤ n ∧ i = .int .i64 k ∧ Hid (∀ j (hj : j < l.length), j < k → longA l[j] = false)) (fun i => n - (intOf i).toNat)
  case atStart => exact ⟨0, Nat.zero_le _, rfl, fun j _ hj => absurd hj (Nat.not_lt_zero _)⟩
  case round =>
   obtain ⟨k, hk, rfl, A⟩ := hrel
   by_cases hlt : k < n
   ·
    have hkl : k < l.length := by rw [HN.out]; exact hlt
    obtain ⟨b, o, rfl, hb, hcell⟩ := HV.out (by omega)
    obtain ⟨c0, c1, c2, c3, _, _⟩ := hcell k _ (List.getElem?_eq_getElem hkl)
    have hltz : (k : Int) < (n : Int) := by omega
    have HTrue : Hid (longA (l[k]'hkl) = true → r = true) := fun h => by
     rw [HQ.out, List.any_eq_true]
     exact ⟨_, List.getElem_mem hkl, h⟩
    have HNext : Hid (longA (l[k]'hkl) = false → ∀ j (hj : j < l.length), j < k + 1 → longA l[j] = false) := fun h1 j hj hjk => by
     by_cases e : j = k
     ·
      subst e; exact h1
     ·
      exact A.out j hj (by omega)
    clear hcell
    generalize (l[k]'hkl) = x at *
    obtain ⟨kd, xa, xb, xs, xn, xi⟩ := x
    unfold longA at HTrue HNext
    dsimp only at *
    by_cases g1 : 20 < kd.size
    ·
     have HR1 := hide (HTrue.out (by simp [g1]))
     have gz : (20 : Int) < (kd.size : Int) := by omega
     clear HNext HTrue
     go_wp2
     go_ret
     exact ⟨by rw [HR1.out]; rfl, rfl⟩
    ·
     have gz : ¬ (20 : Int) < (kd.size : Int) := by omega
     by_cases g2 : 20 < xa.size
     ·
      have HR1 := hide (HTrue.out (by simp [g2]))
      have gz2 : (20 : Int) < (xa.size : Int) := by omega
      clear HNext HTrue
      go_wp2
      go_ret
      exact ⟨by rw [HR1.out]; rfl, rfl⟩
     ·
      have gz2 : ¬ (20 : Int) < (xa.size : Int) := by omega
      by_cases g3 : 20 < xb.size
      ·
       have HR1 := hide (HTrue.out (by simp [g3]))
       have gz3 : (20 : Int) < (xb.size : Int) := by omega
       clear HNext HTrue
       go_wp2
       go_ret
       exact ⟨by rw [HR1.out]; rfl, rfl⟩
      ·
       have gz3 : ¬ (20 : Int) < (xb.size : Int) := by omega
       by_cases g4 : 200 < xs.size
       ·
        have HR1 := hide (HTrue.out (by simp [g4]))
        have gz4 : (200 : Int) < (xs.size : Int) := by omega
        clear HNext HTrue
        go_wp2
        go_ret
        exact ⟨by rw [HR1.out]; rfl, rfl⟩
       ·
        have gz4 : ¬ (200 : Int) < (xs.size : Int) := by omega
        have HNx := hide (HNext.out (by simp [g1, g2, g3, g4]))
        clear HNext HTrue
        go_wp2
        go_round
        case rel => exact ⟨k + 1, by omega, by go_num, HNx⟩
        case measure => simp [intOf]; omega
   ·
    obtain rfl : k = n := by omega
    have hltz : ¬ (k : Int) < (k : Int) := by omega
    have hr0 : r = false := by
     rw [HQ.out, List.any_eq_false]
     intro f hf
     obtain ⟨j, hj, rfl⟩ := List.getElem_of_mem hf
     rw [A.out j hj (by rw [← HN.out]; exact hj)]
     decide
    have HR0 := hide hr0
    clear hr0
    go_wp2
    go_ret
    exact ⟨by rw [HR0.out]; rfl, rfl⟩
end Go.Proofs.YtabpnjchocgakaaGreatDoor

namespace Go.Proofs.YtabpnjchocgakaaGreatDoor
open Go Go.ChangeShapes Go.WideShapes Go.ChangeAt Go.RowKit Go.Deep
section
variable {H : Type} {P : Program} {w : World} {base : Nat} {enc : TypeId × Value → H} {spare : Nat → Bool} {held : Bool}
theorem trod_six {t : TypeId} {f0 f1 f2 f3 f4 f5 : Field} {fuel : Nat} {cs : List Value} {x : DataW H × List MemPlace} (ht : P.underlying t = some (.struct #[f0, f1, f2, f3, f4, f5])) (h : DataW.trod enc P w base spare held fuel t cs = some x) :
  ∃ y0 y1 y2 y3 y4 y5 n, DataW.trod enc P w base spare held n f0.type ((cs.drop f0.offset).take (P.cellsOf f0.type)) = some y0 ∧
   DataW.trod enc P w base spare held n f1.type ((cs.drop f1.offset).take (P.cellsOf f1.type)) = some y1 ∧ DataW.trod enc P w base spare held n f2.type ((cs.drop f2.offset).take (P.cellsOf f2.type)) = some y2 ∧
   DataW.trod enc P w base spare held n f3.type ((cs.drop f3.offset).take (P.cellsOf f3.type)) = some y3 ∧ DataW.trod enc P w base spare held n f4.type ((cs.drop f4.offset).take (P.cellsOf f4.type)) = some y4 ∧
   DataW.trod enc P w base spare held n f5.type ((cs.drop f5.offset).take (P.cellsOf f5.type)) = some y5 := by
 obtain ⟨xs, n, _, rfl, _, hlen, hf⟩ := DataW.trod_struct ht h
 match xs, hlen with
 | [y0, y1, y2, y3, y4, y5], _ => exact ⟨y0, y1, y2, y3, y4, y5, n, by simpa using hf 0 f0 rfl, by simpa using hf 1 f1 rfl, by simpa using hf 2 f2 rfl, by simpa using hf 3 f3 rfl, by simpa using hf 4 f4 rfl, by simpa using hf 5 f5 rfl⟩
end
end Go.Proofs.YtabpnjchocgakaaGreatDoor

namespace Go.Proofs.YtabpnjchocgakaaGreatDoor
open Go Go.ChangeShapes Go.WideShapes Go.ChangeAt Go.RowKit
theorem Tryz.askCells : Tryz.prog.cellsOf 36 = 6 := by kernel_rfl
set_option maxRecDepth 100000 in
theorem asks_open {H : Type} {enc : TypeId × Value → H} {W : World} {base : Nat} {spare : Nat → Bool} {held : Bool} {a0 : Option Addr} {len cap : Nat} {d : DataW H} {p : List MemPlace}
  (h : DataW.Trod enc Tryz.prog W base spare held 22 (.slice a0 len cap) d p) : ∃ l : List Aq, AqIn W (.slice a0 len cap) l := by
 obtain ⟨fuel, hf⟩ := h
 rcases Go.Deep.open_slice Tryz.underlying22 hf with ⟨hcs, _⟩ | ⟨a, len', cap', m, n, D, Pl, hcs, _, hl, hm, hmm, _, hx⟩
 ·
  have e : a0 = none ∧ len = 0 ∧ cap = 0 := by simpa [Value.cells] using hcs
  obtain ⟨rfl, rfl, rfl⟩ := e
  exact ⟨[], none, 0, rfl, Nat.le_refl _, fun h => absurd h (by simp)⟩
 ·
  have e : a0 = some a ∧ len = len' ∧ cap = cap' := by simpa [Value.cells] using hcs
  obtain ⟨rfl, rfl, rfl⟩ := e
  have hlm : len ≤ m := by rw [hmm]; split <;> omega
  have each : ∀ i, i < len → ∃ x : Aq, (W.cell? (a.add (i * 6)) = some (.string x.kind) ∧ W.cell? (a.add (i * 6 + 1)) = some (.string x.a) ∧ W.cell? (a.add (i * 6 + 2)) = some (.string x.b) ∧ W.cell? (a.add (i * 6 + 3)) = some (.string x.s) ∧ W.cell? (a.add (i * 6 + 4)) = some (.int .i64 x.n) ∧ W.cell? (a.add (i * 6 + 5)) = some (.bool x.is)) := by
   intro i hi
   obtain ⟨cs', h1, h2⟩ := hx i (by omega)
   rw [Tryz.askCells] at h1
   obtain ⟨_, hlen, hcell⟩ := World.cells?_some h1
   obtain ⟨y0, y1, y2, y3, y4, y5, k, g0, g1, g2, g3, g4, g5⟩ := trod_six Tryz.underlying36 h2
   match cs', hlen with
   | [v0, v1, v2, v3, v4, v5], _ =>
    have q0 : DataW.trod enc Tryz.prog W base spare held k 9 [v0] = some y0 := g0
    have q1 : DataW.trod enc Tryz.prog W base spare held k 9 [v1] = some y1 := g1
    have q2 : DataW.trod enc Tryz.prog W base spare held k 9 [v2] = some y2 := g2
    have q3 : DataW.trod enc Tryz.prog W base spare held k 9 [v3] = some y3 := g3
    have q4 : DataW.trod enc Tryz.prog W base spare held k 3 [v4] = some y4 := g4
    have q5 : DataW.trod enc Tryz.prog W base spare held k 4 [v5] = some y5 := g5
    obtain ⟨s0, e0, _, _⟩ := DataW.trod_string Tryz.underlying9 q0
    obtain ⟨s1, e1, _, _⟩ := DataW.trod_string Tryz.underlying9 q1
    obtain ⟨s2, e2, _, _⟩ := DataW.trod_string Tryz.underlying9 q2
    obtain ⟨s3, e3, _, _⟩ := DataW.trod_string Tryz.underlying9 q3
    obtain ⟨n4, e4, _, _⟩ := DataW.trod_int Tryz.underlying3 q4
    obtain ⟨b5, e5, _⟩ := DataW.trod_bool Tryz.underlying4 q5
    cases e0; cases e1; cases e2; cases e3; cases e4; cases e5
    have c0 := hcell 0 (by omega)
    have c1 := hcell 1 (by omega)
    have c2 := hcell 2 (by omega)
    have c3 := hcell 3 (by omega)
    have c4 := hcell 4 (by omega)
    have c5 := hcell 5 (by omega)
    rw [Go.Deep.add_add] at c0 c1 c2 c3 c4 c5
    exact ⟨⟨s0, s1, s2, s3, n4, b5⟩, c0, c1, c2, c3, c4, c5⟩
  have inst : Inhabited Aq := ⟨⟨ByteArray.empty, ByteArray.empty, ByteArray.empty, ByteArray.empty, 0, false⟩⟩
  obtain ⟨f, hfx⟩ := Go.Deep.choose_lt (α := Aq) each
  have hget : ∀ i x, ((List.range len).map f)[i]? = some x → i < len ∧ x = f i := fun i x hi => by
   rw [List.getElem?_map] at hi
   by_cases hil : i < len
   ·
    rw [List.getElem?_range hil] at hi
    exact ⟨hil, (Option.some.inj hi).symm⟩
   ·
    rw [List.getElem?_eq_none (by simp; omega)] at hi
    cases hi
  refine ⟨(List.range len).map f, some a, cap, by simp, by simpa using hl, fun hn => ?_⟩
  have h0 : 0 < len := by simpa using hn
  obtain ⟨b, off, spot⟩ := a
  have hspot : spot = none := by
   have := (hfx 0 h0).1
   simpa [Addr.add] using World.cell?_spot this
  subst hspot
  refine ⟨b, off, rfl, ?_, fun i x hi => ?_⟩
  ·
   have := cell_lt (hfx 0 h0).1
   rw [Go.WideShapes.add_plain] at this
   exact this
  ·
   obtain ⟨hil, rfl⟩ := hget i x hi
   obtain ⟨c0, c1, c2, c3, c4, c5⟩ := hfx i hil
   rw [Go.WideShapes.add_plain] at c0 c1 c2 c3 c4 c5
   exact ⟨c0, by rw [Nat.add_assoc]; exact c1, by rw [Nat.add_assoc]; exact c2, by rw [Nat.add_assoc]; exact c3, by rw [Nat.add_assoc]; exact c4, by rw [Nat.add_assoc]; exact c5⟩
end Go.Proofs.YtabpnjchocgakaaGreatDoor

namespace Go.Proofs.YtabpnjchocgakaaGreatDoor
open Go
theorem ins_filter (p : Per) : ∀ M : List Per, (insL p M).filter (fun q => !decide (q.name = p.name)) = M.filter (fun q => !decide (q.name = p.name))
 | [] => by unfold insL; simp
 | q :: r => by
  unfold insL
  split
  ·
   rw [List.filter_cons_of_neg (by simp)]
  ·
   rw [List.filter_cons, List.filter_cons, ins_filter p r]
theorem put_put (L : List Per) {p p' : Per} (h : p.name = p'.name) : putP (putP L p) p' = putP L p' := by
 unfold putP
 rw [← h, ins_filter, List.filter_filter]
 congr 1
 apply List.filter_congr
 intro q _
 cases (!decide (q.name = p.name)) <;> rfl
def flE (l : List En) : Int := l.foldl (fun a e => if e.fl.nm = star then e.fl.ep else a) 0
theorem fl_snoc (l : List En) (e : En) : flE (l ++ [e]) = if e.fl.nm = star then e.fl.ep else flE l := by unfold flE; rw [List.foldl_append]; rfl
theorem fl_start (l : List En) : (flE l = 0 ∧ startE l = 1) ∨ flE l = startE l := by
 have key : ∀ (l : List En) (a b : Int), (a = 0 ∧ b = 1) ∨ a = b → (l.foldl (fun a e => if e.fl.nm = Go.Proofs.YtabpnjchocgakaaGreatDoor.star then e.fl.ep else a) a = 0 ∧ l.foldl (fun a e => if e.fl.nm = Go.Proofs.YtabpnjchocgakaaGreatDoor.star then e.fl.ep else a) b = 1) ∨ l.foldl (fun a e => if e.fl.nm = Go.Proofs.YtabpnjchocgakaaGreatDoor.star then e.fl.ep else a) a = l.foldl (fun a e => if e.fl.nm = Go.Proofs.YtabpnjchocgakaaGreatDoor.star then e.fl.ep else a) b := by
  intro l
  induction l with
  | nil => exact fun a b h => h
  | cons e l ih =>
   intro a b h
   refine ih _ _ ?_
   show ((if e.fl.nm = Go.Proofs.YtabpnjchocgakaaGreatDoor.star then e.fl.ep else a) = 0 ∧ (if e.fl.nm = Go.Proofs.YtabpnjchocgakaaGreatDoor.star then e.fl.ep else b) = 1) ∨ (if e.fl.nm = Go.Proofs.YtabpnjchocgakaaGreatDoor.star then e.fl.ep else a) = (if e.fl.nm = Go.Proofs.YtabpnjchocgakaaGreatDoor.star then e.fl.ep else b)
   split
   ·
    exact Or.inr rfl
   ·
    exact h
 exact key l 0 1 (Or.inl ⟨rfl, rfl⟩)
theorem GoodR.newTo {r : Rm} (h : GoodR r) (name : ByteArray) (key : Int) : toP (newP name key) (flE r.l) = { newP name key with epoch := startE r.l } := by
 have hs := h.start
 have e : max (newP name key).epoch (flE r.l) = startE r.l := by
  show max (1 : Int) (flE r.l) = startE r.l
  rcases fl_start r.l with ⟨g1, g2⟩ | g
  ·
   rw [g1, g2]; rfl
  ·
   rw [g]
   omega
 unfold toP
 rw [e]
theorem GoodR.added {r : Rm} (h : GoodR r) {name : ByteArray} {key : Int} (h0 : r.addC name key = 0) : r.addR name key = { r with b := putP (addP r.b name key).2 (toP (newP name key) (flE r.l)) } ∧ getP (addP r.b name key).2 name = some (newP name key) ∧ (toP (newP name key) (flE r.l)).err = 0 ∧ Good (addP r.b name key).2 := by
 obtain ⟨h1, h2, h3, h4⟩ := addP_zero h0
 have hg := put_new_good h.book h1 h2 h3
 refine ⟨?_, ?_, by rw [h.newTo]; exact h.newcomer h1, by rw [h4]; exact hg.1⟩
 ·
  unfold Rm.addR
  rw [if_pos h0, h4, put_put _ (by rfl), h.newTo]
 ·
  rw [h4]
  refine getP_of_mem (p := newP name key) hg.1.rise ?_
  rw [putP_new (getP_none h2)]
  exact (insL_perm _ _).mem_iff.2 (by simp)
theorem mix_rise {L : List Per} (h : Good L) {n : Int} (hn : 1 ≤ n ∧ n ≤ 1073741824) (k : Nat) (hk : k < L.length) (hg : Good (mixE L n k)) (ht : L[k].epoch < n) :
  getP (mixE L n k) L[k].name = some L[k] ∧ toP L[k] n = { L[k] with epoch := n } ∧ (toP L[k] n).err = 0 ∧ putP (mixE L n k) (toP L[k] n) = mixE L n (k + 1) := by
 have hat := mix_at L n k hk
 obtain ⟨hk2, he⟩ := List.getElem?_eq_some_iff.1 hat
 have ht' : toP L[k] n = { L[k] with epoch := n } := by unfold toP; rw [show max L[k].epoch n = n by omega]
 refine ⟨?_, ht', ?_, ?_⟩
 ·
  refine getP_of_mem hg.rise ?_
  rw [← he]
  exact List.getElem_mem hk2
 ·
  rw [ht']
  obtain ⟨f1, f2, _⟩ := err_zero.1 (h.fine _ (List.getElem_mem hk))
  exact err_zero.2 ⟨f1, f2, hn⟩
 ·
  rw [ht', ← mix_step L n k hk]
  exact putP_set hg.rise k hk2 { L[k] with epoch := n } (by rw [he])
end Go.Proofs.YtabpnjchocgakaaGreatDoor

namespace Go.Proofs.YtabpnjchocgakaaGreatDoor
open Go Go.RowKit Go.Maps Go.Sort Go.Proofs Go.Shelf
abbrev bwV (x : Int × En) : Array Value := #[.int .i64 x.1, x.2.val]
theorem fl_find : ∀ l : List En, flE l = match l.reverse.find? (fun e => decide (e.fl.nm = star)) with | some e => e.fl.ep | none => 0 := by
 intro l
 have key : ∀ m : List En, flE m.reverse = match m.find? (fun e => decide (e.fl.nm = Go.Proofs.YtabpnjchocgakaaGreatDoor.star)) with | some e => e.fl.ep | none => 0 := by
  intro m
  induction m with
  | nil => rfl
  | cons e m ih =>
   rw [List.reverse_cons, fl_snoc, List.find?_cons]
   by_cases h : e.fl.nm = Go.Proofs.YtabpnjchocgakaaGreatDoor.star
   ·
    rw [if_pos h, decide_eq_true h]
   ·
    rw [if_neg h, decide_eq_false h]
    exact ih
 have := key l.reverse
 rwa [List.reverse_reverse] at this
theorem find_append_some {p : En → Bool} {l m n : List En} {e : En} (h : l = m ++ [e] ++ n) (hm : ∀ x ∈ m, p x = false) (he : p e = true) : l.find? p = some e := by
 subst h
 rw [List.append_assoc, List.find?_append, List.find?_eq_none.2 (fun x hx => by rw [hm x hx]; decide)]
 simp [he]
set_option maxRecDepth 100000 in
set_option maxHeartbeats 2000000 in
theorem back_in (F : Fence) (n : Nat) (hF : F.fn 170) (hro : F.round = none) (hn : 1 ≤ n) (l Bn : Nat) (v : Value) (ls : List En) (w0 : World) (hl : ls.length ≤ 1000000) (J Jx : List (Int × En) → World → Prop)
  (hY : ∀ pre x W, J pre W → pre.length < ls.length → YieldAt F (n - 1) Tryz.prog l (bwV x) W fun e W' => (e = .returned (.bool true) ∧ J (pre ++ [x]) W' ∧ Below w0.heap.size W W') ∨ (e = .returned (.bool false) ∧ Jx (pre ++ [x]) W'))
  (W : World) (hB0 : Below w0.heap.size w0 W) (hBn : w0.cell? ⟨Bn, 0, none⟩ = some v) (hv : EnAt w0 v ls) (h0 : J [] W) :
  CallsIn F n Tryz.prog 170 #[.func (.yield l) #[] #[], .pointer (some ⟨Bn, 0, none⟩)] W fun e W' => (∃ v, e = .returned v) ∧ ((∃ xs, xs.map Prod.snd = ls.reverse ∧ J xs W') ∨ (∃ pre, pre.map Prod.snd <+: ls.reverse ∧ Jx pre W')) := by
 obtain ⟨ad, cap, rfl, hcap⟩ := hv.form
 have hc0 : W.cell? ⟨Bn, 0, none⟩ = some (.slice ad ls.length cap) := (hB0.cell (p := ⟨Bn, 0, none⟩) (cell_lt hBn)).trans hBn
 have hw1 : IntKind.i64.wrap ((ls.length : Int) - 1) = (ls.length : Int) - 1 := by rw [IntKind.wrap_i64]; omega
 refine callsIn_of_wp Tryz.func170 rfl hF ?_ hro
 simp only [Tryz.ntmps170, List.size_toArray, List.length_cons, List.length_nil, Nat.reduceAdd, Nat.reduceSub, Array.replicate_succ, Array.replicate_zero, List.push_toArray, List.append_toArray, List.nil_append, List.cons_append]
 gi_wp2
 gi_loopw [3] (fun s3 wr => ∃ (k : Nat) (pre : List (Int × En)), k ≤ ls.length ∧ s3 = .int .i64 ((ls.length : Int) - 1 - (k : Int)) ∧ pre.length = k ∧ pre.map Prod.snd = ls.reverse.take k ∧ Below w0.heap.size w0 wr ∧ J pre wr)
  (fun s3 _ => match s3 with | .int _ x => (x + 1).toNat | _ => 0)
 case atStart =>
  exact ⟨0, [], Nat.zero_le _, by simp, rfl, by simp, hB0, h0⟩
 case round =>
  obtain ⟨k, pre, hk, rfl, hpl, hpm, hBr, hJ⟩ := hrel
  have hc1 : wr.cell? ⟨Bn, 0, none⟩ = some (.slice ad ls.length cap) := (hBr.cell (p := ⟨Bn, 0, none⟩) (cell_lt hBn)).trans hBn
  by_cases hke : k = ls.length
  ·
   have hneg : ¬ (0 : Int) ≤ (ls.length : Int) - 1 - (k : Int) := by omega
   have hrev : pre.map Prod.snd = ls.reverse := by rw [hpm, hke, ← List.length_reverse, List.take_length]
   clear hpm hke
   generalize (ls.length : Int) - 1 - (k : Int) = i at *
   gi_wp2
   go_end0
   exact ⟨⟨_, rfl⟩, Or.inl ⟨pre, hrev, hJ⟩⟩
  ·
   have hlt : k < ls.length := by omega
   obtain ⟨j, hj⟩ : ∃ j : Nat, j = ls.length - 1 - k := ⟨_, rfl⟩
   have hjl : j < ls.length := by omega
   have hji : (ls.length : Int) - 1 - (k : Int) = (j : Int) := by omega
   obtain ⟨b, off, cap2, e, _, _, _, hcs⟩ := hv.at (by omega)
   injection e with e1 _ e3
   subst e1 e3
   obtain ⟨x0, x1, x2, x3⟩ := hcs j hjl
   have y0 := (hBr.cell (p := ⟨b, off + j * 4, none⟩) (cell_lt x0)).trans x0
   have y1 := (hBr.cell (p := ⟨b, off + j * 4 + 1, none⟩) (cell_lt x1)).trans x1
   have y2 := (hBr.cell (p := ⟨b, off + j * 4 + 2, none⟩) (cell_lt x2)).trans x2
   have y3 := (hBr.cell (p := ⟨b, off + j * 4 + 3, none⟩) (cell_lt x3)).trans x3
   have hrj : ls.reverse.take (k + 1) = ls.reverse.take k ++ [ls[j]] := by
    rw [List.take_succ_eq_append_getElem (by rw [List.length_reverse]; omega), List.getElem_reverse]
    congr 2
    simp only [hj]
   have hw2 : IntKind.i64.wrap ((j : Int) - 1) = (j : Int) - 1 := by rw [IntKind.wrap_i64]; omega
   have hge : (0 : Int) ≤ (j : Int) := by omega
   have hpm2 : (pre ++ [((j : Int), ls[j])]).map Prod.snd = ls.reverse.take (k + 1) := by rw [List.map_append, hpm, hrj]; rfl
   have hnext : (j : Int) - 1 = (ls.length : Int) - 1 - ((k + 1 : Nat) : Int) := by omega
   rw [hji]
   obtain ⟨fn, tmps, assign, body, hy, hR⟩ := hY pre ((j : Int), ls[j]) wr hJ (by omega)
   generalize hle : ls[j] = le at *
   have hy' : (Instr.yield l #[.int .i64 (j : Int), .agg #[.int .i64 le.seq, .int .i64 le.time, .string le.fl.who, .int .i64 le.fl.ep]]).run Tryz.prog wr = _ := hy
   have HH := hide (And.intro hpm2 (And.intro hnext (And.intro hpl hrj)))
   clear hy hpm hji hcs x0 x1 x2 x3 hrj hj hpm2 hnext hpl hle
   gi_wp2
   refine hR.mono ?_
   rintro e W3 (⟨rfl, hJ3, hk3⟩ | ⟨rfl, hJx3⟩)
   ·
    gi_wp2
    go_roundw
    case rel => exact ⟨k + 1, pre ++ [((j : Int), le)], by omega, by rw [HH.out.2.1], by rw [List.length_append, HH.out.2.2.1]; rfl, HH.out.1, hBr.trans hk3, hJ3⟩
    case measure => show ((j : Int) - 1 + 1).toNat < ((j : Int) + 1).toNat; omega
   ·
    gi_wp2
    refine bodyPost_ret (results_none rfl _ _ _) rfl ?_
    exact ⟨⟨_, rfl⟩, Or.inr ⟨pre ++ [((j : Int), le)], by rw [HH.out.1]; exact List.take_prefix _ _, hJx3⟩⟩
theorem back_stops (F : Fence) (n : Nat) (hF : F.fn 170) (hro : F.round = none) (hn : 1 ≤ n) (Bn : Nat) (v : Value) (ls : List En) (w0 : World) (hl : ls.length ≤ 1000000) (hBn : w0.cell? ⟨Bn, 0, none⟩ = some v) (hv : EnAt w0 v ls) :
  SeqStopsK F n Tryz.prog 170 #[.pointer (some ⟨Bn, 0, none⟩)] bwV (Below w0.heap.size) (fun xs => xs.map Prod.snd = ls.reverse) (fun pre => pre.map Prod.snd <+: ls.reverse) ls.length w0 := fun l J Jx W hW _ _ hY h0 =>
 back_in F n hF hro hn l Bn v ls w0 hl J Jx hY W hW hBn hv h0
set_option maxRecDepth 100000 in
set_option maxHeartbeats 1000000 in
theorem back_made (F : Fence) (n : Nat) (hF : F.fn 121) (hro : F.round = none) (ad : Option Addr) (len cap : Nat) (w : World) :
  CallsIn F n Tryz.prog 121 #[.slice ad len cap] w fun e w' => e = .returned (.func (.func 170) #[] #[.pointer (some ⟨w.heap.size, 0, none⟩)]) ∧ w' = w.alloc (.cells #[.slice ad len cap] 38) := by
 refine callsIn_of_wp Tryz.func121 rfl hF ?_ hro
 simp only [Tryz.ntmps121, List.size_toArray, List.length_cons, List.length_nil, Nat.reduceAdd, Nat.reduceSub, Array.replicate_succ, Array.replicate_zero, List.push_toArray, List.append_toArray, List.nil_append, List.cons_append]
 gi_wp2
 go_ret
 exact ⟨rfl, rfl⟩
def NoStar (pre : List (Int × En)) : Prop := ∀ x ∈ pre, x.2.fl.nm ≠ star
set_option maxRecDepth 100000 in
set_option maxHeartbeats 4000000 in
theorem flushed_in (F : Fence) (n : Nat) (h79 : F.fn 74) (h125 : F.fn 121) (h174 : F.fn 170) (hro : F.round = none) (hn : 3 ≤ n) (rp bp mb : Nat) (v : Value) (r : Rm) (w : World) (h : RmAt w rp bp mb v r) (hl : r.l.length ≤ 1000000) :
  CallsIn F n Tryz.prog 74 #[.pointer (some ⟨rp, 0, none⟩)] w fun e w' => e = .returned (.int .i64 (flE r.l)) ∧ Below w.heap.size w w' := by
 have h1 : 1 ≤ n := by omega
 have hv := h.enAt
 obtain ⟨ad, cap, rfl, _⟩ := hv.form
 have c5' : ∀ o, (w.alloc o).cell? ⟨rp, 5, none⟩ = some (.slice ad r.l.length cap) := fun o => (rp_cells (h.below ((Below.refl _ w).alloc (Nat.le_refl _) o)).row).2.2.2.2.2
 refine callsIn_of_wp_marks Tryz.func74 rfl h79 ?_ hro
 simp only [Tryz.ntmps74, List.size_toArray, List.length_cons, List.length_nil, Nat.reduceAdd, Nat.reduceSub, Array.replicate_succ, Array.replicate_zero, List.push_toArray, List.append_toArray, List.nil_append, List.cons_append]
 gi_wp2_with (gi_at_call 121; refine (back_made F (n - 1) h125 hro _ _ _ _).mono ?_; rintro e w' ⟨rfl, rfl⟩)
 have bR := (Boxed.new w 3 (.int .i64 0)).alloc (.cells #[.slice ad r.l.length cap] 38)
 have bS := Boxed.new (w.alloc (.cells #[.int .i64 0] 3)) 38 (.slice ad r.l.length cap)
 simp only [World.size_alloc] at bS
 have hB0 : Below w.heap.size w ((w.alloc (.cells #[.int .i64 0] 3)).alloc (.cells #[.slice ad r.l.length cap] 38)) := ((Below.refl _ w).alloc (Nat.le_refl _) _).alloc (by simp) _
 have hsz : ((w.alloc (.cells #[.int .i64 0] 3)).alloc (.cells #[.slice ad r.l.length cap] 38)).heap.size = w.heap.size + 2 := by simp
 obtain ⟨W0, hW0⟩ : ∃ W0, (w.alloc (.cells #[.int .i64 0] 3)).alloc (.cells #[.slice ad r.l.length cap] 38) = W0 := ⟨_, rfl⟩
 rw [hW0] at bR bS hB0 hsz ⊢
 clear hW0
 refine wpIn_rangeFunc_ownH hro h1 (gf := 170) (lb := #[.pointer (some ⟨w.heap.size + 1, 0, none⟩)]) rfl h174 (enters_of Tryz.func170 (by kernel_rfl) rfl)
  (back_stops F (n - 1) h174 hro (by omega) (w.heap.size + 1) (.slice ad r.l.length cap) r.l W0 hl bS.cell (hv.below hB0)) belowK_t (belowK_b (Nat.le_refl _)) (Below.refl _ _) (fun _ => rfl)
  (fun pre W => (Boxed W w.heap.size 3 (.int .i64 0) ∧ NoStar pre) ∧ Below w.heap.size W0 W)
  (fun c pre W => (c = .ret ∧ ∃ pre0 x, pre = pre0 ++ [x] ∧ NoStar pre0 ∧ x.2.fl.nm = star ∧ Boxed W w.heap.size 3 (.int .i64 x.2.fl.ep)) ∧ Below w.heap.size W0 W)
  (OwnFrom.and (OwnFrom.and (Own.from (boxed_own _ _ _) _) (ownFrom_pure _ _)) (ownFrom_below (by omega) (by omega)))
  (fun c s X Y row hs hg hr => by
   obtain ⟨⟨e1, pre0, x, e2, e3, e4, e5⟩, hb⟩ := hs
   exact ⟨⟨e1, pre0, x, e2, e3, e4, boxed_own w.heap.size 3 (fun (_ : Unit) => Value.int .i64 x.2.fl.ep) () X Y row e5 hg (fun r e => (hr r e).2)⟩, ownFrom_below (β := Unit) (by omega) (by omega) () X Y row hb hg hr⟩)
  ⟨⟨bR, fun _ hx => by cases hx⟩, Below.refl _ _⟩
  (fun x a' W => ∃ Bx, w.heap.size + 1 < Bx ∧ W.heap[Bx]? = some (.cells #[.int .i64 x.2.seq, .int .i64 x.2.time, .string x.2.fl.who, .int .i64 x.2.fl.ep] 114 (0, 0)) ∧ a' = { tmps := #[.pointer (some ⟨rp, 0, none⟩), undef, .pointer (some ⟨w.heap.size, 0, none⟩), undef, .pointer (some ⟨Bx, 0, none⟩), .pointer (some ⟨rp, 0, none⟩), .pointer (some ⟨rp, 0, none⟩), .pointer (some ⟨rp, 5, none⟩), .slice ad r.l.length cap, .func (.func 170) #[] #[.pointer (some ⟨w.heap.size + 1, 0, none⟩)], .int .i64 x.1, x.2.val, undef, undef, undef, undef, undef, undef, undef], defers := [] })
  (fun x a' _ X Y row hs hg hr => by
   obtain ⟨Bx, g1, g2, g3⟩ := hs
   refine ⟨Bx, g1, (hg.block Bx (row_lt g2) (fun e => ?_)).trans g2, g3⟩
   obtain ⟨_, o, ho, hc⟩ := hr Bx e.symm
   rw [g2] at ho
   cases ho
   cases hc)
  ?assign ?body ?done ?stop
 case assign =>
  rintro l pre ⟨i, le⟩ W K ⟨⟨bR1, hno⟩, hB1⟩ hK
  have hx := hB1.size
  have HK := hide (hK _ (W.alloc (.cells #[.int .i64 le.seq, .int .i64 le.time, .string le.fl.who, .int .i64 le.fl.ep] 114)) ((KeepsOthers.alloc _ _).from _) ((Below.refl _ W).alloc hx _) ⟨⟨bR1.alloc _, hno⟩, hB1.alloc (by omega) _⟩ ⟨W.heap.size, by omega, heap_alloc_new _ _, rfl⟩)
  clear hK
  dsimp only [bwV, En.val]
  gi_wp2_with gi_round_op_a
  exact HK.out
 case body =>
  rintro l pre ⟨i, le⟩ a' W hl2 _ ⟨⟨bR1, hno⟩, hB1⟩ ⟨Bx, hBx, hrow, rfl⟩ hlt
  have x2 : W.cell? ⟨Bx, 2, none⟩ = some (.string le.fl.who) := cell_of_row W Bx 2 _ _ _ hrow
  have x3 : W.cell? ⟨Bx, 3, none⟩ = some (.int .i64 le.fl.ep) := cell_of_row W Bx 3 _ _ _ hrow
  have cR := bR1.cell
  have fR := bR1.frozen
  by_cases hst : le.fl.nm = star
  ·
   have hq : (le.fl.who.toList == [42]) = true := by
    rw [Lib.toList_data]
    show (le.fl.nm == Go.Proofs.YtabpnjchocgakaaGreatDoor.star) = true
    simpa using hst
   gi_wp2_with gi_round_op_a
   exact ⟨(KeepsOthers.setCell _ _ _).from _, ⟨rfl, pre, i, le, (by first | rfl | simp), hno, hst, bR1.set _⟩, hB1.setCell (p := ⟨w.heap.size, 0, none⟩) (Nat.le_refl _) _⟩
  ·
   have hq : (le.fl.who.toList == [42]) = false := by
    rw [Lib.toList_data]
    show (le.fl.nm == Go.Proofs.YtabpnjchocgakaaGreatDoor.star) = false
    simpa using hst
   gi_wp2_with gi_round_op_a
   exact ⟨(KeepsOthers.refl _).from _, Below.refl _ _, ⟨bR1, fun y hy => (List.mem_append.1 hy).elim (hno y) (fun e => by rw [List.mem_singleton.1 e]; exact hst)⟩, hB1⟩
 case done =>
  rintro D xs W hD hS ⟨⟨bR1, hno⟩, hB1⟩ hK
  have cR := bR1.cell
  have fR := bR1.frozen
  have hz : flE r.l = 0 := by
   rw [fl_find, List.find?_eq_none.2 (fun e he => ?_)]
   rw [← hS] at he
   obtain ⟨x, hx, rfl⟩ := List.mem_map.1 he
   simpa using hno x hx
  gi_wp2
  have hK' := (KeepsOthers.setCell W ⟨w.heap.size, 0, none⟩ (.int .i64 0)).same D _ hK rfl
  refine ⟨by simp, .inl ⟨_, _, rfl, run_takeDeferred hK', ?_⟩⟩
  have hc5 := (bR1.set (.int .i64 0)).cell
  have hc6 := cell_kept hc5 (grownBy_putObj' _ D (.deferred none)) (fun r e => by cases e; exact ⟨_, hK', rfl⟩)
  refine ⟨.int .i64 0, ?_, by rw [hz], ((hB0.trans hB1).setCell (p := ⟨w.heap.size, 0, none⟩) (Nat.le_refl _) _).trans (belowK_b (w := w) (Nat.le_refl _) _ D _ _ (by omega) hK' rfl rfl)⟩
  simp [results, Tryz.f74, go_sem, hc6]
 case stop =>
  rintro D c pre W hD hS ⟨⟨rfl, pre0, x, rfl, hno, hst, bR1⟩, hB1⟩ hK
  have hz : flE r.l = x.2.fl.ep := by
   obtain ⟨rest, hr⟩ := hS
   rw [fl_find, find_append_some (m := pre0.map Prod.snd) (n := rest) (e := x.2) (by rw [← hr]; simp) (fun y hy => by
    obtain ⟨z, hz, rfl⟩ := List.mem_map.1 hy
    simpa using hno z hz) (by simpa using hst)]
  gi_wp2
  refine ⟨by simp, .inl ⟨_, _, rfl, run_takeDeferred hK, ?_⟩⟩
  have hc6 := cell_kept bR1.cell (grownBy_putObj' _ D (.deferred none)) (fun r e => by cases e; exact ⟨_, hK, rfl⟩)
  refine ⟨.int .i64 x.2.fl.ep, ?_, by rw [hz], (hB0.trans hB1).trans (belowK_b (w := w) (Nat.le_refl _) _ D _ _ (by omega) hK rfl rfl)⟩
  simp [results, Tryz.f74, go_sem, hc6]
theorem flushed_any (rp bp mb : Nat) (v : Value) (r : Rm) (w : World) (h : RmAt w rp bp mb v r) (hl : r.l.length ≤ 1000000) :
  Calls Tryz.prog 74 #[.pointer (some ⟨rp, 0, none⟩)] w fun e w' => e = .returned (.int .i64 (flE r.l)) ∧ Below w.heap.size w w' :=
 callsIn_wide.1 (flushed_in Fence.wide 3 trivial trivial trivial rfl (by omega) rp bp mb v r w h hl)
end Go.Proofs.YtabpnjchocgakaaGreatDoor

namespace Go.Proofs.YtabpnjchocgakaaGreatDoor
open Go.RowKit Go.Extern.Stop Go.Stop Go.Extern Go.Proofs Go.Maps Go.Shelf
set_option maxRecDepth 100000 in
set_option maxHeartbeats 4000000 in
theorem add_change (a : Nat → Addr) (nb kb : Nat) (name : ByteArray) (key : Int) (r : Rm) (w : World) (hg : GoodR r) (hE : Errs a w) (hnb : w.cell? ⟨nb, 0, none⟩ = some (.string name)) (hkb : w.cell? ⟨kb, 0, none⟩ = some (.int .i64 key)) (hs : name.size ≤ maxLen) :
  Change a 72 #[.pointer (some ⟨nb, 0, none⟩), .pointer (some ⟨kb, 0, none⟩)] r (r.addR name key) (startE r.l) (r.addC name key) w := fun w1 cp hc => by
 obtain ⟨bp, mb, v, hR, hM, hB⟩ := hc
 have hn1 : w1.cell? ⟨nb, 0, none⟩ = some (.string name) := (hB.cell (p := ⟨nb, 0, none⟩) (cell_lt hnb)).trans hnb
 have hk1 : w1.cell? ⟨kb, 0, none⟩ = some (.int .i64 key) := (hB.cell (p := ⟨kb, 0, none⟩) (cell_lt hkb)).trans hkb
 obtain ⟨_, _, _, _, c4, _⟩ := rp_cells hR.row
 have HE0 := hide hE
 have HE := hide (hE.below hB)
 have HP : Hid (∀ W, Below w1.heap.size w1 W → Calls Tryz.prog 73 #[.pointer (some ⟨bp, 0, none⟩), .string name, .int .i64 key] W fun e w' => e = .returned (errV a (addP r.b name key).1) ∧ BookAt w' bp mb (addP r.b name key).2 ∧ W.grownBy w' (some mb)) := fun W hb =>
  add_any a bp mb r.b name key W (hR.book.below hb) ((HE.out.below hb).ev _) hs
 have HCo : Hid (∀ W w2 L, Below w1.heap.size w1 W → BookAt w2 bp mb L → W.grownBy w2 (some mb) → RmAt w2 cp bp mb v { r with b := L } ∧ Below w.heap.size w w2 ∧ w2.cell? ⟨cp, 4, none⟩ = some (.pointer (some ⟨bp, 0, none⟩)) ∧ w2.cell? ⟨nb, 0, none⟩ = some (.string name) ∧ w2.cell? ⟨kb, 0, none⟩ = some (.int .i64 key)) := fun W w2 L hb hB2 hg2 => by
  have hbw := hB.trans (hb.mono hB.size)
  have hbb := hbw.grown hg2 hbw.size (fun k e => by cases e; exact hM mb (Or.inr (Or.inr (Or.inl rfl))))
  have hR2 := (hR.below hb).booked hB2 hg2
  exact ⟨hR2, hbb, (rp_cells hR2.row).2.2.2.2.1, (hbb.cell (p := ⟨nb, 0, none⟩) (cell_lt hnb)).trans hnb, (hbb.cell (p := ⟨kb, 0, none⟩) (cell_lt hkb)).trans hkb⟩
 have HM := hide hM
 have HD1 : Hid (Below w1.heap.size w1 w1.drew) := (Below.refl _ _).drew
 have HNb : Hid (∀ W, Below w.heap.size w W → W.cell? ⟨nb, 0, none⟩ = some (.string name)) := fun W hb => (hb.cell (p := ⟨nb, 0, none⟩) (cell_lt hnb)).trans hnb
 unfold Rm.addC
 by_cases h0 : (addP r.b name key).1 = 0
 ·
  obtain ⟨e1, e2, e3, e4⟩ := hg.added (name := name) (key := key) h0
  rw [h0, errV_zero] at HP
  rw [h0, e1]
  have HFl : Hid (∀ w2 L, RmAt w2 cp bp mb v { r with b := L } → Calls Tryz.prog 74 #[.pointer (some ⟨cp, 0, none⟩)] w2 fun e w' => e = .returned (.int .i64 (flE r.l)) ∧ Below w2.heap.size w2 w') := fun w2 L h2 =>
   flushed_any cp bp mb v { r with b := L } w2 h2 (Nat.le_trans hg.few (by decide))
  have HRt : Hid (∀ W, BookAt W bp mb (addP r.b name key).2 → Below w.heap.size w W → Calls Tryz.prog 71 #[.pointer (some ⟨bp, 0, none⟩), .string name, .int .i64 (flE r.l)] W fun e w' => e = .returned (.tuple #[.int .i64 (startE r.l), .nilIface]) ∧ BookAt w' bp mb (putP (addP r.b name key).2 (toP (newP name key) (flE r.l))) ∧ W.grownBy w' (some mb)) := fun W hB hb => by
   have := raiseTo_ok a bp mb _ name (newP name key) (flE r.l) W hB ((HE0.out.below hb).ev _) hs e2 e3
   rwa [show (toP (newP name key) (flE r.l)).epoch = startE r.l by rw [hg.newTo]] at this
  clear hB hM hE hg hs h0 e1 e2 e3 e4 hnb hkb HE HE0
  have HRr := hide hR
  clear hR
  generalize (addP r.b name key).2 = L at *
  generalize toP (newP name key) (flE r.l) = q at *
  generalize startE r.l = st at *
  generalize flE r.l = fe at *
  go_enter Tryz.func72, Tryz.ntmps72
  go_upto_region 1 with fail
  go_cut [6] (fun s6 wc => s6 = .nilIface ∧ Hid (RmAt wc cp bp mb v { r with b := L } ∧ Below w.heap.size w wc))
  case first =>
   go_region_held3 (fun w' => w'.cell? ⟨cp, 4, none⟩ = some (.pointer (some ⟨bp, 0, none⟩)) ∧ w'.cell? ⟨nb, 0, none⟩ = some (.string name) ∧ w'.cell? ⟨kb, 0, none⟩ = some (.int .i64 key)) (first | go_keep | assumption)
    (first | (go_at_call 73; refine (HP.out _ HD1.out).mono ?_; rintro e w5 ⟨rfl, hk5, hg5⟩; have HX := hide (HCo.out _ _ _ HD1.out hk5 hg5); have k4 := HX.out.2.2.1; have kn := HX.out.2.2.2.1; have kk := HX.out.2.2.2.2; clear hk5 hg5))
   all_goals
    go_wp2_with fail
    go_meet
    exact ⟨rfl, hide ⟨HX.out.1, HX.out.2.1⟩⟩
  case rest =>
   obtain ⟨rfl, HX⟩ := hcut
   have HX1 := hide HX.out.1
   have HX2 := hide HX.out.2
   have hn2 := HNb.out _ HX2.out
   obtain ⟨_, _, _, _, d4, _⟩ := rp_cells HX1.out.row
   have HD2 : Hid (Below wc.heap.size wc wc.drew) := (Below.refl _ _).drew
   clear c4 hn1 hk1 HP HCo HD1 HX
   go_upto_region 4 with fail
   go_cut [4, 5] (fun s4 s5 wc2 => s4 = .int .i64 st ∧ s5 = .nilIface ∧ Hid (CopyOf w { r with b := putP L q } cp wc2))
   case first =>
    go_region_held3 (fun w' => w'.cell? ⟨cp, 4, none⟩ = some (.pointer (some ⟨bp, 0, none⟩)) ∧ w'.cell? ⟨nb, 0, none⟩ = some (.string name)) (first | go_keep | assumption)
     (first
      | (go_at_call 74; refine (HFl.out _ L (HX1.out.below HD2.out)).mono ?_; rintro e w5 ⟨rfl, hb5⟩; have HD5 : Hid (Below wc.heap.size wc w5) := HD2.out.trans hb5; have HY1 := hide (HX1.out.below HD5.out); have HY2 : Hid (Below w.heap.size w w5) := HX2.out.trans (HD5.out.mono HX2.out.size); have f4 := (rp_cells HY1.out.row).2.2.2.2.1; have fn := HNb.out _ HY2.out; clear hb5)
      | (go_at_call 71; refine (HRt.out _ HY1.out.book HY2.out).mono ?_; rintro e w6 ⟨rfl, hk6, hg6⟩; have HZ := hide (copy_booked HY1.out HM.out HY2.out hk6 hg6); have g4 := (rp_cells (HY1.out.booked hk6 hg6).row).2.2.2.2.1; have gn := HNb.out _ HZ.out.past; clear hk6 hg6))
    all_goals
     go_wp2_with fail
     go_meet
     exact ⟨rfl, rfl, HZ⟩
   case rest =>
    obtain ⟨rfl, rfl, HZ⟩ := hcut
    go_wp2
    go_ret2
    exact ⟨st, _, rfl, Or.inl ⟨rfl, rfl⟩, (by first | exact ⟨rfl, HZ.out⟩ | exact fun _ => ⟨rfl, HZ.out⟩), HZ.out.past⟩
 ·
  rw [errV_pos a h0] at HP
  have HEv : Hid (∀ W, EvP a W (addP r.b name key).1 (eV (a ((addP r.b name key).1 - 1)))) := fun W => by rw [← errV_pos a h0]; exact evp_V a _ W
  have HN0 : Hid ((addP r.b name key).1 ≠ 0) := h0
  clear hB hM hR hE hg hs h0 hnb hkb HE HE0 HM HNb
  generalize (addP r.b name key).2 = L at *
  generalize (addP r.b name key).1 = c at *
  go_enter Tryz.func72, Tryz.ntmps72
  go_upto_region 1 with fail
  go_cut [6] (fun s6 wc => s6 = eV (a (c - 1)) ∧ Hid (Below w.heap.size w wc))
  case first =>
   go_region_held3 (fun w' => w'.cell? ⟨cp, 4, none⟩ = some (.pointer (some ⟨bp, 0, none⟩)) ∧ w'.cell? ⟨nb, 0, none⟩ = some (.string name) ∧ w'.cell? ⟨kb, 0, none⟩ = some (.int .i64 key)) (first | go_keep | assumption)
    (first | (go_at_call 73; refine (HP.out _ HD1.out).mono ?_; rintro e w5 ⟨rfl, hk5, hg5⟩; have HX := hide (HCo.out _ _ _ HD1.out hk5 hg5); have k4 := HX.out.2.2.1; have kn := HX.out.2.2.2.1; have kk := HX.out.2.2.2.2; clear hk5 hg5))
   all_goals
    go_wp2_with fail
    go_meet
    exact ⟨rfl, hide HX.out.2.1⟩
  case rest =>
   obtain ⟨rfl, HX⟩ := hcut
   go_wp2
   go_ret2
   exact ⟨0, _, rfl, HEv.out _, fun hz0 => absurd hz0 HN0.out, HX.out⟩
theorem add_no {r : Rm} {name : ByteArray} {key : Int} (h : r.addC name key ≠ 0) : r.addR name key = r := by unfold Rm.addR; rw [if_neg h]
set_option maxRecDepth 100000 in
set_option maxHeartbeats 4000000 in
theorem rpAdd_any (a : Nat → Addr) (rp bp mb : Nat) (v : Value) (r : Rm) (name : ByteArray) (key : Int) (w : World) (h : RmAt w rp bp mb v r) (hg : GoodR r) (hE : Errs a w) (hs : name.size ≤ maxLen) :
  Calls Tryz.prog 23 #[.pointer (some ⟨rp, 0, none⟩), .string name, .int .i64 key] w fun e w' => (∃ ev, e = .returned ev ∧ EvP a w' (r.addC name key) ev) ∧ PPost w rp bp mb v (r.addR name key) w' := by
 obtain ⟨W1, hW1⟩ : ∃ W, (w.alloc (.cells #[.string name] 9)).alloc (.cells #[.int .i64 key] 3) = W := ⟨_, rfl⟩
 have hB0 : Below w.heap.size w W1 := by rw [← hW1]; exact ((Below.refl _ _).alloc (Nat.le_refl _) _).alloc (by simp) _
 have hn1 : W1.cell? ⟨w.heap.size, 0, none⟩ = some (.string name) := by
  rw [← hW1]; exact cell_of_row _ _ 0 _ _ _ ((Below.heap_alloc _ _ _ (by simp)).trans (heap_alloc_new w _))
 have hk1 : W1.cell? ⟨w.heap.size + 1, 0, none⟩ = some (.int .i64 key) := by
  have := heap_alloc_new (w.alloc (.cells #[.string name] 9)) (.cells #[.int .i64 key] 3)
  rw [World.size_alloc, hW1] at this
  exact cell_of_row _ _ 0 _ _ _ this
 have HT := hide (try_any a 72 #[.pointer (some ⟨w.heap.size, 0, none⟩), .pointer (some ⟨w.heap.size + 1, 0, none⟩)] (enters_of Tryz.func72 (by kernel_rfl) rfl) rp bp mb v r (r.addR name key) (startE r.l) (r.addC name key) W1 (h.below hB0) (Nat.le_trans hg.few (by decide))
  (add_change a w.heap.size (w.heap.size + 1) name key r W1 hg (hE.below hB0) hn1 hk1 hs))
 have HX : Hid (∀ e w', TryPost a rp bp mb v W1 (startE r.l) (r.addC name key) (if r.addC name key = 0 then r.addR name key else r) e w' → TryPost a rp bp mb v w (startE r.l) (r.addC name key) (r.addR name key) e w') := fun e w' ⟨h1, h2⟩ => by
  refine ⟨h1, PPost.from hB0 ?_⟩
  by_cases h0 : r.addC name key = 0
  ·
   rw [if_pos h0] at h2; exact h2
  ·
   rw [if_neg h0] at h2; rw [add_no h0]; exact h2
 have hmf : ∀ (fn : Fn) (first cap : Array Value) (w : World), (Instr.makeFunc fn first cap).run Tryz.prog w = .ok (.func fn first cap) w := fun _ _ _ _ => rfl
 clear h hg hE hs hB0 hn1 hk1
 generalize r.addR name key = r1 at *
 generalize r.addC name key = c at *
 generalize startE r.l = n at *
 subst hW1
 go_enter Tryz.func23, Tryz.ntmps23
 go_wp2_with fail
 refine HT.out.mono ?_
 rintro e w1 hp
 obtain ⟨⟨ev, rfl, he⟩, hq⟩ := HX.out _ _ hp
 have HY : Hid (EvP a w1 c ev ∧ PPost w rp bp mb v r1 w1) := ⟨he, hq⟩
 clear hp he hq HX HT
 go_wp2
 go_ret
 exact ⟨⟨ev, rfl, HY.out.1⟩, HY.out.2⟩
end Go.Proofs.YtabpnjchocgakaaGreatDoor

namespace Go.Proofs.YtabpnjchocgakaaGreatDoor
open Go.RowKit Go.Extern.Stop Go.Stop Go.Extern Go.Proofs
structure Hd where
 n : Int
 t : Int
 s : Int
def Hd.val (h : Hd) : Value := .agg #[.int .i64 h.n, .int .i64 h.t, .int .i64 h.s]
def hd0 : Hd := ⟨0, 0, 0⟩
abbrev hdO (h : Hd) : Obj := .cells #[.int .i64 h.n, .int .i64 h.t, .int .i64 h.s] 200 (0, 0)
structure EnvF (a : Nat → Addr) (w : World) : Prop where
 errs : EV fdS a w
 len : ∃ m, w.cell? ⟨17, 0, none⟩ = some (.int .i64 m)
 tab : Tab10 w
theorem EnvF.e {a : Nat → Addr} {w : World} (h : EnvF a w) : EnvE a w := ⟨h.errs.sl, h.len, h.tab⟩
theorem EnvF.below {a : Nat → Addr} {w w' : World} (h : EnvF a w) (hb : Below w.heap.size w w') : EnvF a w' := ⟨h.errs.below hb, (h.e.below hb).len, (h.e.below hb).tab⟩
theorem texts4 (w : World) (x0 x1 x2 x3 : ByteArray) : Texts (w.alloc (.cells #[.string x0, .string x1, .string x2, .string x3] 9)) w.heap.size 0 [x0, x1, x2, x3] := fun j hj => by
 match j, hj with
 | 0, _ => simp
 | 1, _ => simp
 | 2, _ => simp
 | 3, _ => simp
set_option maxRecDepth 100000 in
set_option maxHeartbeats 4000000 in
theorem fdWords_any (n t s : Int) (w : World) (h : Tab10 w) (hn : 0 ≤ n ∧ n ≤ 1073741824) (ht : 0 ≤ t ∧ t ≤ 1073741824) (hs : 0 ≤ s ∧ s ≤ 1073741824) :
  Calls Tryz.prog 138 #[.agg #[.int .i64 n, .int .i64 t, .int .i64 s]] w fun e w' => ∃ b, Texts w' b 0 ((headW n t s).map Sl.ofL) ∧ e = .returned (.slice (some ⟨b, 0, none⟩) 4 4) ∧ Below w.heap.size w w' := by
 have H1 := hide (fun w h => itoa_fl n w h hn.1 hn.2)
 have H2 := hide (fun w h => itoa_fl t w h ht.1 ht.2)
 have H3 := hide (fun w h => itoa_fl s w h hs.1 hs.2)
 have HB0 : Hid (Below w.heap.size w (w.alloc (hdO ⟨n, t, s⟩))) := (Below.refl _ w).alloc (Nat.le_refl _) _
 have HR0 : Hid ((w.alloc (hdO ⟨n, t, s⟩)).heap[w.heap.size]? = some (hdO ⟨n, t, s⟩)) := heap_alloc_new _ _
 have HE := hide (tab_below h HB0.out)
 have HW : Hid ((headW n t s).map Sl.ofL = [Sl.ofL headL, txt (Lib.decDigits n.toNat), txt (Lib.decDigits t.toNat), txt (Lib.decDigits s.toNat)]) := rfl
 rw [HW.out]
 clear h hn ht hs HW
 generalize txt (Lib.decDigits n.toNat) = s1 at *
 generalize txt (Lib.decDigits t.toNat) = s2 at *
 generalize txt (Lib.decDigits s.toNat) = s3 at *
 have HC : Hid (∀ W, Below (w.alloc (hdO ⟨n, t, s⟩)).heap.size (w.alloc (hdO ⟨n, t, s⟩)) W → W.cell? ⟨w.heap.size, 0, none⟩ = some (.int .i64 n) ∧ W.cell? ⟨w.heap.size, 1, none⟩ = some (.int .i64 t) ∧ W.cell? ⟨w.heap.size, 2, none⟩ = some (.int .i64 s)) := fun W hb => by
  have h := row_cells ((hb.block w.heap.size (by simp)).trans HR0.out)
  exact ⟨h.1, h.2.1, h.2.2.1⟩
 go_enter Tryz.func138, Tryz.ntmps138
 go_wp2_with fail
 generalize hW0 : w.alloc (.cells #[.int .i64 n, .int .i64 t, .int .i64 s] 200) = W0 at *
 have Hd : Hid (Below W0.heap.size W0 W0.drew) := (Below.refl _ _).drew
 obtain ⟨z0, z1, z2⟩ := HC.out W0 (Below.refl _ _)
 clear hW0 HR0
 go_region_held3 (fun w' => w'.cell? ⟨w.heap.size, 0, none⟩ = some (.int .i64 n) ∧ w'.cell? ⟨w.heap.size, 1, none⟩ = some (.int .i64 t) ∧ w'.cell? ⟨w.heap.size, 2, none⟩ = some (.int .i64 s)) (first | go_keep | assumption)
  (first
   | (go_at_call 51; refine (H1.out _ (tab_below HE.out Hd.out)).mono ?_; rintro e w1 ⟨rfl, hb⟩; have HP1 : Hid (Below W0.heap.size W0 w1) := Hd.out.trans (hb.mono Hd.out.size); have hc1 := HC.out _ HP1.out; clear hb)
   | (go_at_call 51; refine (H2.out _ (tab_below HE.out HP1.out)).mono ?_; rintro e w2 ⟨rfl, hb⟩; have HP2 : Hid (Below W0.heap.size W0 w2) := HP1.out.trans (hb.mono HP1.out.size); have hc2 := HC.out _ HP2.out; clear hb)
   | (go_at_call 51; refine (H3.out _ (tab_below HE.out HP2.out)).mono ?_; rintro e w3 ⟨rfl, hb⟩; have HP3 : Hid (Below W0.heap.size W0 w3) := HP2.out.trans (hb.mono HP2.out.size); have hc3 := HC.out _ HP3.out; clear hb))
 have HP5 := hide ((HB0.out.trans (HP3.out.mono HB0.out.size)).alloc (HB0.out.trans (HP3.out.mono HB0.out.size)).size (.cells #[.string ⟨#[104, 101, 97, 100]⟩, .string s1, .string s2, .string s3] 9))
 clear hc1 hc2 hc3 HP1 HP2 HP3 HC HE HB0 Hd z0 z1 z2 H1 H2 H3
 go_wp2
 go_ret
 exact ⟨w3.heap.size, texts4 w3 _ _ _ _, rfl, HP5.out⟩
theorem text_sizeS {l : List Fl} (h : RightF l) (hl : l.length ≤ 21) : (textL l).length ≤ 4000 := by
 unfold textL
 split
 ·
  simp
 ·
  have := join_len 44 30 (l.map oneT) (fun w hw => by
   obtain ⟨f, hf, rfl⟩ := List.mem_map.1 hw
   exact one_len (h.one f hf))
  rw [List.length_map] at this
  omega
def sumL (l : List Fl) : Int := if (checkL l).1 = 0 then moreN 1 1 (textL l) else 0
set_option maxRecDepth 100000 in
set_option maxHeartbeats 2000000 in
theorem sum_ev (S : Nat → Bool) (hS : ∀ i, i < 16 → flS i = true → S i = true) (hS9 : S 9 = true) (a : Nat → Addr) (v : Value) (l : List Fl) (w : World) (h : EV S a w) (ht : Tab10 w) (hv : FlAt w v l) (hs : ∀ f ∈ l, f.who.size ≤ maxLen) (hl : l.length ≤ 1000000) :
  Calls Tryz.prog 139 #[v] w fun e w' => e = .returned (.int .i64 (sumL l)) ∧ Below w.heap.size w w' := by
 have HT := hide (text_any a v l w ⟨fun i hi h2 => h.var i hi (hS i hi h2)⟩ ht hv hs hl)
 have HE := hide h
 have HS1 : Hid (S 1 = true ∧ S 9 = true) := ⟨hS 1 (by decide) rfl, hS9⟩
 clear h ht hv hs hl hS hS9
 by_cases h0 : (checkL l).1 = 0
 ·
  have HS : Hid (sumL l = moreN 1 1 (textL l)) := if_pos h0
  obtain ⟨hr, h21⟩ := right_of_check h0
  have HO := hide (fun w h => of_ev S HS1.out.1 HS1.out.2 a 1 (txt (textL l)) w h (by rw [txt_size]; have := text_sizeS hr h21; unfold maxLen; omega))
  rw [txt_list, show moreE 1 1 = 0 from by rw [key_more]; rfl] at HO
  replace HO : Hid (∀ w, EV S a w → Calls Tryz.prog 32 #[.int .i64 1, .string (txt (textL l))] w fun e w' => e = .returned (.tuple #[.int .i64 (moreN 1 1 (textL l)), .nilIface]) ∧ Below w.heap.size w w') := HO.out
  rw [HS.out]
  clear HS hr h21
  generalize moreN 1 1 (textL l) = m at *
  generalize textL l = t at *
  generalize checkL l = c at *
  go_enter Tryz.func139, Tryz.ntmps139
  go_wp2_with fail
  refine HT.out.mono ?_
  rintro e w1 ⟨hp, hb⟩
  rcases hp with ⟨_, rfl⟩ | ⟨hn, _⟩
  ·
   have HB1 := hide hb
   clear hb HT h0
   go_wp2_with fail
   refine (HO.out _ (HE.out.below HB1.out)).mono ?_
   rintro e w2 ⟨rfl, hb⟩
   have HB2 : Hid (Below w.heap.size w w2) := HB1.out.trans (hb.mono HB1.out.size)
   clear hb HO HE HB1
   go_wp2
   go_ret
   exact ⟨rfl, HB2.out⟩
  ·
   exact absurd h0 hn
 ·
  have HS : Hid (sumL l = 0) := if_neg h0
  rw [HS.out]
  clear HS HE
  generalize textL l = t at *
  generalize checkL l = c at *
  go_enter Tryz.func139, Tryz.ntmps139
  go_wp2_with fail
  refine HT.out.mono ?_
  rintro e w1 ⟨hp, hb⟩
  rcases hp with ⟨hn, _⟩ | ⟨_, t1, p1, rfl, _⟩
  ·
   exact absurd hn h0
  ·
   clear h0 HT
   go_wp2
   go_ret
   exact ⟨rfl, hb⟩
def headC (key : Int) (l : List En) (time : Int) : Nat × Int :=
 if 1 ≤ key ∧ key ≤ 1000000006 then (if (floorsC l).1 = 0 then (if (0 ≤ time ∧ time ≤ 1000000) ∧ newL l ≤ time then (0, -1) else (2, -1)) else floorsC l) else (10, -1)
def headT (key : Int) (l : List En) (time : Int) : List UInt8 := Sl.sealL key (headW (l.length : Int) time (sumL (floorsR l)))
theorem sum_bd (l : List Fl) : 0 ≤ sumL l ∧ sumL l ≤ 1000000006 := by
 unfold sumL
 split
 ·
  unfold moreN
  split
  ·
   have := Mk.mk_bd 1 1 (by omega) (textL l)
   omega
  ·
   omega
 ·
  omega
set_option maxRecDepth 100000 in
set_option maxHeartbeats 8000000 in
theorem fdMake_any (a : Nat → Addr) (key : Int) (v : Value) (l : List En) (time : Int) (w : World) (h : EnvF a w) (hv : EnAt w v l) (hs : ∀ e ∈ l, e.fl.who.size ≤ maxLen) (hl : l.length ≤ 100000) :
  Calls Tryz.prog 95 #[.int .i64 key, v, .int .i64 time] w fun e w' => TextPost a (headC key l time) (headT key l time) e w' ∧ Below w.heap.size w w' := by
 have HOf := hide (of_ev slS rfl rfl a key ⟨#[]⟩ w h.errs.sl (by decide))
 rw [key_more] at HOf
 have HE := hide h
 have HV := hide hv
 have HFl := hide (fun w h hv => floors_any a v l w h hv hs (by omega))
 have HTm := hide (fun w => fdTime_any time w)
 have HNw := hide (fun w h => newest_any v l w h (by omega))
 by_cases hk : 1 ≤ key ∧ key ≤ 1000000006
 ·
  rw [if_pos hk, errV_zero] at HOf
  generalize moreN key key _ = m0 at *
  have hC : headC key l time = (if (floorsC l).1 = 0 then (if (0 ≤ time ∧ time ≤ 1000000) ∧ newL l ≤ time then (0, -1) else (2, -1)) else floorsC l) := if_pos hk
  by_cases h1 : (floorsC l).1 = 0
  ·
   rw [if_pos h1] at hC
   have h60 := (feed_zero (floors_zero h1).1).1
   by_cases h2 : 0 ≤ time ∧ time ≤ 1000000
   ·
    rw [decide_eq_true h2] at HTm
    by_cases h3 : newL l ≤ time
    ·
     rw [if_pos ⟨h2, h3⟩] at hC
     have HSm := hide (fun v w h ht hv => sum_ev fdS (by decide) rfl a v (floorsR l) w h ht hv (small_floors hs) (by have := (floors_right l).2; omega))
     obtain ⟨hs0, hs1⟩ := sum_bd (floorsR l)
     have HW := hide (fun w h => fdWords_any (l.length : Int) time (sumL (floorsR l)) w h ⟨by omega, by omega⟩ ⟨by omega, by omega⟩ ⟨by omega, by omega⟩)
     have hmm : ((headW (l.length : Int) time (sumL (floorsR l))).map Sl.ofL).map (·.data.toList) = headW (l.length : Int) time (sumL (floorsR l)) := rfl
     have HMk := hide (fun b w h hx => make_ok_ev a key b 0 4 4 ((headW (l.length : Int) time (sumL (floorsR l))).map Sl.ofL) w h hk (Nat.le_refl _) hx rfl (by rw [hmm]; exact headW_ok _ _ _ (by omega) (by omega) (by omega)))
     rw [hmm] at HMk
     have hT : Sl.sealL key (headW (l.length : Int) time (sumL (floorsR l))) = headT key l time := rfl
     rw [hT] at HMk
     rw [hC]
     have h3z : ¬ time < newL l := by omega
     obtain ⟨ad, cap, rfl, hcap⟩ := hv.form
     clear hC hT hmm h hv hs hk
     generalize headW (l.length : Int) time (sumL (floorsR l)) = ws at *
     generalize headT key l time = ht at *
     generalize floorsC l = fc at *
     generalize floorsR l = fr at *
     generalize sumL fr = sm at *
     generalize newL l = nw at *
     generalize hn : l.length = n at *
     clear hn
     go_enter Tryz.func95, Tryz.ntmps95
     go_wp2_with fail
     refine HOf.out.mono ?_
     rintro e w1 ⟨rfl, hb⟩
     have HB1 := hide hb
     clear hb HOf
     go_wp2_with fail
     refine (HFl.out _ (HE.out.below HB1.out).errs (HV.out.below HB1.out)).mono ?_
     rintro e w2 ⟨⟨v2, ev2, rfl, hown, herr, _⟩, hb⟩
     obtain rfl := herr.none h1
     have HB2 : Hid (Below w.heap.size w w2) := HB1.out.trans (hb.mono HB1.out.size)
     have HF2 := hide hown.flAt
     clear herr hown hb HFl HB1 h1
     go_wp2_with fail
     refine (HTm.out _).mono ?_
     rintro e w3 ⟨rfl, rfl⟩
     go_wp2_with fail
     refine (HNw.out _ (HV.out.below HB2.out)).mono ?_
     rintro e w4 ⟨rfl, rfl⟩
     go_wp2_with fail
     refine (HSm.out _ _ (HE.out.below HB2.out).errs (HE.out.below HB2.out).tab HF2.out).mono ?_
     rintro e w5 ⟨rfl, hb⟩
     have HB5 : Hid (Below w.heap.size w w5) := HB2.out.trans (hb.mono HB2.out.size)
     clear hb HSm HF2 HB2
     go_wp2_with fail
     refine (HW.out _ (HE.out.below HB5.out).tab).mono ?_
     rintro e w6 ⟨b6, hx, rfl, hb⟩
     have HB6 : Hid (Below w.heap.size w w6) := HB5.out.trans (hb.mono HB5.out.size)
     have HX6 := hide hx
     clear hb hx HW HB5
     go_wp2_with fail
     refine (HMk.out _ _ (HE.out.below HB6.out).e HX6.out).mono ?_
     rintro e w7 ⟨rfl, hb⟩
     have HB7 : Hid (Below w.heap.size w w7) := HB6.out.trans (hb.mono HB6.out.size)
     clear hb HMk HX6 HB6
     go_wp2
     go_ret2
     exact ⟨Or.inl ⟨rfl, rfl⟩, HB7.out⟩
    ·
     rw [if_neg (fun h => h3 h.2)] at hC
     rw [hC]
     have h3z : time < newL l := by omega
     generalize headT key l time = ht at *
     clear hC h hv hs hk
     generalize floorsC l = fc at *
     generalize floorsR l = fr at *
     generalize newL l = nw at *
     go_enter Tryz.func95, Tryz.ntmps95
     go_wp2_with fail
     refine HOf.out.mono ?_
     rintro e w1 ⟨rfl, hb⟩
     have HB1 := hide hb
     clear hb HOf
     go_wp2_with fail
     refine (HFl.out _ (HE.out.below HB1.out).errs (HV.out.below HB1.out)).mono ?_
     rintro e w2 ⟨⟨v2, ev2, rfl, hown, herr, _⟩, hb⟩
     obtain rfl := herr.none h1
     have HB2 : Hid (Below w.heap.size w w2) := HB1.out.trans (hb.mono HB1.out.size)
     have hvv : w2.cell? ⟨0, 0, none⟩ = some (eV (a 1)) := (HE.out.below HB2.out).errs.var 1 (by decide) rfl
     clear herr hown hb HFl HB1 h1
     go_wp2_with fail
     refine (HTm.out _).mono ?_
     rintro e w3 ⟨rfl, rfl⟩
     go_wp2_with fail
     refine (HNw.out _ (HV.out.below HB2.out)).mono ?_
     rintro e w4 ⟨rfl, rfl⟩
     go_wp2
     go_quiet (fail)
     go_wp2
     go_ret2
     exact ⟨Or.inr ⟨by decide, _, _, rfl, Or.inr (Or.inl ⟨by decide, rfl, rfl⟩)⟩, below_drewN HB2.out _⟩
   ·
    rw [if_neg (fun h => h2 h.1)] at hC
    rw [hC]
    rw [decide_eq_false h2] at HTm
    generalize headT key l time = ht at *
    clear hC h hv hs hk h2 HNw
    generalize floorsC l = fc at *
    generalize floorsR l = fr at *
    go_enter Tryz.func95, Tryz.ntmps95
    go_wp2_with fail
    refine HOf.out.mono ?_
    rintro e w1 ⟨rfl, hb⟩
    have HB1 := hide hb
    clear hb HOf
    go_wp2_with fail
    refine (HFl.out _ (HE.out.below HB1.out).errs (HV.out.below HB1.out)).mono ?_
    rintro e w2 ⟨⟨v2, ev2, rfl, hown, herr, _⟩, hb⟩
    obtain rfl := herr.none h1
    have HB2 : Hid (Below w.heap.size w w2) := HB1.out.trans (hb.mono HB1.out.size)
    have hvv : w2.cell? ⟨0, 0, none⟩ = some (eV (a 1)) := (HE.out.below HB2.out).errs.var 1 (by decide) rfl
    clear herr hown hb HFl HB1 h1
    go_wp2_with fail
    refine (HTm.out _).mono ?_
    rintro e w3 ⟨rfl, rfl⟩
    go_wp2
    go_quiet (fail)
    go_wp2
    go_ret2
    exact ⟨Or.inr ⟨by decide, _, _, rfl, Or.inr (Or.inl ⟨by decide, rfl, rfl⟩)⟩, below_drewN HB2.out _⟩
  ·
   rw [if_neg h1] at hC
   rw [hC]
   generalize headT key l time = ht at *
   clear hC h hv hs hk HNw HTm
   generalize floorsC l = fc at *
   generalize floorsR l = fr at *
   have HH := hide h1
   go_enter Tryz.func95, Tryz.ntmps95
   go_wp2_with fail
   refine HOf.out.mono ?_
   rintro e w1 ⟨rfl, hb⟩
   have HB1 := hide hb
   clear hb HOf
   go_wp2_with fail
   refine (HFl.out _ (HE.out.below HB1.out).errs (HV.out.below HB1.out)).mono ?_
   rintro e w2 ⟨⟨v2, ev2, rfl, hown, herr, hnil⟩, hb⟩
   have HEr := hide herr
   have HB2 : Hid (Below w.heap.size w w2) := HB1.out.trans (hb.mono HB1.out.size)
   rcases herr.cases with ⟨e0, _⟩ | ⟨_, tt, pp, rfl⟩
   ·
    exact absurd e0 HH.out
   ·
    clear herr hown hb hnil h1 HFl HB1
    go_wp2
    go_ret2
    exact ⟨Or.inr ⟨HH.out, _, _, rfl, HEr.out⟩, HB2.out⟩
 ·
  have hC : headC key l time = (10, -1) := if_neg hk
  rw [if_neg hk, show errV a 10 = eV (a 9) from rfl] at HOf
  rw [hC]
  generalize moreN key key _ = m0 at *
  generalize headT key l time = ht at *
  clear hC h hv hs hk HNw HTm HFl
  go_enter Tryz.func95, Tryz.ntmps95
  go_wp2_with fail
  refine HOf.out.mono ?_
  rintro e w1 ⟨rfl, hb⟩
  have HB1 := hide hb
  clear hb HOf
  go_wp2
  go_ret2
  exact ⟨Or.inr ⟨by decide, _, _, rfl, Or.inr (Or.inl ⟨by decide, rfl, rfl⟩)⟩, HB1.out⟩
end Go.Proofs.YtabpnjchocgakaaGreatDoor

namespace Go.Proofs.YtabpnjchocgakaaGreatDoor
open Go Go.RowKit Go.Extern.Stop Go.Stop Go.Extern
theorem takeD {P : Program} {ops : Array Oper} {Q : Exit → Act → World → Prop} {md : Region.Mode} {S : World → Prop} {i : Nat} {oi : Oper} {v : Value} {d : Tmp} {fuel : Nat} {listed : Array Bool} {a : Act} {w : World} (hi : ops[i]? = some oi) (hd : oi.dst = some d)
  (hs : Region.noSelect ops = true) (hf : Region.free md ops listed i = true) (hr : (Region.ready md ops listed).contains i = true)
  (hQ : ∀ c a w, Q (.panic c) (a.put oi.dst v) w → Q (.panic c) a w) (hy : YieldsIf P ops S oi v a) (hS : S w)
  (h : wpAnyH P md ops Q S fuel (listed.setIfInBounds i true) { a with tmps := a.tmps.setIfInBounds d v } w) : wpAnyH P md ops Q S (fuel + 1) listed a w :=
 wpAnyH_take hi hs hf hr hQ hy hS (by rw [hd]; exact h)
end Go.Proofs.YtabpnjchocgakaaGreatDoor

namespace Go.Proofs.YtabpnjchocgakaaGreatDoor
open Go.RowKit Go.Extern.Stop Go.Stop Go.Extern
theorem Tryz.infoInt : (Tryz.prog.info? 3).map (fun i => (i.zero, i.size, i.bytes)) = some (some (.int .i64 0), 1, 8) := by kernel_rfl
def cellsN (o : List Int) : List Value := o.map fun n => .int .i64 n
theorem cellsN_len (o : List Int) : (cellsN o).length = o.length := by simp [cellsN]
theorem cellsN_snoc (o : List Int) (n : Int) : cellsN o ++ [.int .i64 n] = cellsN (o ++ [n]) := by simp [cellsN]
theorem owns_ints {w : World} {base : Nat} {v : Value} {n : Nat} {o : List Int} (h : w.ownsRow base 3 1 v n (cellsN o)) (hn : o ≠ []) :
  ∃ b cap, v = .slice (some ⟨b, 0, none⟩) o.length cap ∧ base ≤ b ∧ b < w.heap.size ∧ ∀ j (hj : j < o.length), w.cell? ⟨b, j, none⟩ = some (.int .i64 o[j]) := by
 have hlen := h.1
 rw [cellsN_len, Nat.mul_one] at hlen
 subst hlen
 rcases h.2 with ⟨_, h0⟩ | ⟨g, cap, cur, rfl, hb, hg, hc, _, _, ht⟩
 ·
  exact absurd (List.length_eq_zero_iff.1 h0) hn
 ·
  refine ⟨g, cap, rfl, hb, row_lt hg, fun j hj => ?_⟩
  rw [cell_of_row w g j cur _ _ hg]
  have e1 : (cellsN o)[j]? = some (.int .i64 o[j]) := by
   unfold cellsN
   rw [List.getElem?_map, List.getElem?_eq_getElem hj]
   rfl
  rw [← ht, List.getElem?_take] at e1
  split at e1
  ·
   simpa using e1
  ·
   cases e1
theorem numB_Any (l : List UInt8) : numB l 9999999999 = Sl.numOk l := by
 unfold numB
 cases h : Sl.numOk l with
 | false => rfl
 | true =>
  obtain ⟨h1, h2, _⟩ := (Sl.numOk_iff l).1 h
  have := Sl.valL_lt l h2 h1.2
  rw [decide_eq_true (by omega)]
  rfl
theorem numI_Any (l : List UInt8) : (Sl.numOk l = false ∧ numI l 9999999999 = -1) ∨ (Sl.numOk l = true ∧ numI l 9999999999 = (Sl.valL l : Int) ∧ (Sl.valL l : Int) < 10000000000) := by
 unfold numI
 rw [numB_Any]
 cases h : Sl.numOk l with
 | false => exact Or.inl ⟨rfl, rfl⟩
 | true =>
  obtain ⟨h1, h2, _⟩ := (Sl.numOk_iff l).1 h
  have := Sl.valL_lt l h2 h1.2
  exact Or.inr ⟨rfl, rfl, by omega⟩
set_option maxRecDepth 100000 in
set_option maxHeartbeats 2000000 in
theorem refOf_len (ad : Option Addr) (n c : Nat) (w : World) (hn : n ≠ 7) :
  Calls Tryz.prog 132 #[.slice ad n c] w fun e w' => e = .returned (.tuple #[tk0.val, .int .i64 1]) ∧ Below w.heap.size w w' := by
 have hn2 : ((n : Int) != 7) = true := by rw [bne_iff_ne]; omega
 clear hn
 go_enter Tryz.func132, Tryz.ntmps132
 go_wp2
 refine tkEnd rfl w.heap.size tk0 rfl (heap_alloc_new _ _) rfl ?_
 exact ⟨rfl, (Below.refl _ w).alloc (Nat.le_refl _) _⟩
def first4 (ys : List ByteArray) (k : Nat) : List Int := (ys.take k).map fun y => (Sl.valL y.data.toList : Int)
theorem first4_snoc (y0 y1 y2 y3 : ByteArray) (k : Nat) (hk : k < 4) : first4 [y0, y1, y2, y3] (k + 1) = first4 [y0, y1, y2, y3] k ++ [(Sl.valL ([y0, y1, y2, y3].getD k ⟨#[]⟩).data.toList : Int)] := by
 match k, hk with
 | 0, _ => rfl
 | 1, _ => rfl
 | 2, _ => rfl
 | 3, _ => rfl
theorem first4_len (y0 y1 y2 y3 : ByteArray) (k : Nat) (hk : k ≤ 4) : (first4 [y0, y1, y2, y3] k).length = k := by
 unfold first4
 rw [List.length_map, List.length_take]
 show min k 4 = k
 omega
set_option maxRecDepth 1000000 in
set_option maxHeartbeats 8000000 in
theorem refOf_nums (b o c : Nat) (x0 x1 x2 x3 x4 x5 x6 : ByteArray) (w : World) (hx : Texts w b o [x0, x1, x2, x3, x4, x5, x6]) (hs : ∀ x ∈ [x0, x1, x2, x3, x4, x5, x6], x.size ≤ maxLen)
  (r : Tk) (rv : Int) (hbad : ∀ k, k < 4 → Sl.numOk ([x3, x4, x5, x6].getD k ⟨#[]⟩).data.toList = false → r = tk0 ∧ rv = 1)
  (hkind : (∀ k, k < 4 → Sl.numOk ([x3, x4, x5, x6].getD k ⟨#[]⟩).data.toList = true) → x0.data.toList ≠ tickL → r = tk0 ∧ rv = 1)
  (hgood : (∀ k, k < 4 → Sl.numOk ([x3, x4, x5, x6].getD k ⟨#[]⟩).data.toList = true) → x0.data.toList = tickL → (rv = 0 ∧ r = ⟨x1, x2, (Sl.valL x3.data.toList : Int), (Sl.valL x4.data.toList : Int), (Sl.valL x5.data.toList : Int), (Sl.valL x6.data.toList : Int)⟩ ∨ 0 < rv ∧ rv ≤ 16 ∧ r = tk0) ∧ ∀ w, Calls Tryz.prog 130 #[.agg #[.string x1, .string x2, .int .i64 (Sl.valL x3.data.toList), .int .i64 (Sl.valL x4.data.toList), .int .i64 (Sl.valL x5.data.toList), .int .i64 (Sl.valL x6.data.toList)]] w fun e w' => e = .returned (.int .i64 rv) ∧ Below w.heap.size w w') :
  Calls Tryz.prog 132 #[.slice (some ⟨b, o, none⟩) 7 c] w fun e w' => e = .returned (.tuple #[r.val, .int .i64 rv]) ∧ Below w.heap.size w w' := by
 obtain ⟨i0, hi, hz0, hz1, hz2⟩ := info_parts Tryz.infoInt
 have HX := hide hx
 have HS := hide hs
 have HBad := hide hbad
 have HKind := hide hkind
 have HGood := hide hgood
 have HBl : Hid (b < w.heap.size) := hx.lt (by simp)
 have HB0 : Hid (Below w.heap.size w (w.alloc (tkO tk0))) := (Below.refl _ w).alloc (Nat.le_refl _) _
 have HR0 : Hid ((w.alloc (tkO tk0)).heap[w.heap.size]? = some (tkO tk0)) := heap_alloc_new _ _
 clear hx hs hbad hgood hkind
 go_enter Tryz.func132, Tryz.ntmps132
 go_wp2
 have HXW : Hid (∀ W, Below (w.alloc (tkO tk0)).heap.size (w.alloc (tkO tk0)) W → Texts W b o [x0, x1, x2, x3, x4, x5, x6]) := fun W hb => HX.out.below (HB0.out.trans (hb.mono HB0.out.size))
 have HSz : Hid (w.heap.size < (w.alloc (tkO tk0)).heap.size) := row_lt HR0.out
 generalize hW0 : w.alloc (.cells #[.string ⟨#[]⟩, .string ⟨#[]⟩, .int .i64 0, .int .i64 0, .int .i64 0, .int .i64 0] 51) = W0
 rw [show w.alloc (tkO tk0) = W0 from hW0] at HB0 HR0 HXW HSz
 clear hW0 HX
 go_loopw [4, 5] (fun v i wr => ∃ k : Nat, k ≤ 4 ∧ i = .int .i64 ((3 + k : Nat) : Int) ∧ wr.ownsRow W0.heap.size 3 1 v k (cellsN (first4 [x3, x4, x5, x6] k)) ∧ Hid (Below W0.heap.size W0 wr) ∧ Hid (∀ j, j < k → Sl.numOk ([x3, x4, x5, x6].getD j ⟨#[]⟩).data.toList = true)) (fun _ i _ => 7 - (intOf i).toNat)
 case atStart => exact ⟨0, Nat.zero_le _, rfl, World.ownsRow_nil _ _ _ _, Below.refl _ _, fun j hj => absurd hj (Nat.not_lt_zero _)⟩
 case round =>
  obtain ⟨k, hk, rfl, hown, HB, A⟩ := hrel
  by_cases hlt : k < 4
  ·
   have hm1 : ((3 + k : Nat) : Int) < 7 := by omega
   have hm0 : (0 : Int) ≤ ((3 + k : Nat) : Int) := by omega
   have hcell : wr.cell? ⟨b, o + (3 + k), none⟩ = some (.string ([x3, x4, x5, x6].getD k ⟨#[]⟩)) := by
    rw [HXW.out wr HB.out (3 + k) (by simp; omega)]
    match k, hlt with
    | 0, _ => rfl
    | 1, _ => rfl
    | 2, _ => rfl
    | 3, _ => rfl
   have hsz : ([x3, x4, x5, x6].getD k ⟨#[]⟩).size ≤ maxLen := by
    refine HS.out _ ?_
    match k, hlt with
    | 0, _ => simp
    | 1, _ => simp
    | 2, _ => simp
    | 3, _ => simp
   have HN := hide (refNumber_any ([x3, x4, x5, x6].getD k ⟨#[]⟩) 9999999999 wr hsz)
   have HBk := hide (HBad.out k hlt)
   have HSn := hide (first4_snoc x3 x4 x5 x6 k hlt)
   have HA := hide A.out
   generalize hmm : 3 + k = m at *
   have HM := hide hmm
   clear hmm hsz A
   rcases numI_Any ([x3, x4, x5, x6].getD k ⟨#[]⟩).data.toList with ⟨hno, hnv⟩ | ⟨hyes, hnv, hlt10⟩
   ·
    obtain ⟨rfl, rfl⟩ := HBk.out hno
    rw [hnv] at HN
    generalize [x3, x4, x5, x6].getD k ⟨#[]⟩ = y at *
    have HT2 : Hid (wr.heap[w.heap.size]? = some (tkO tk0)) := (HB.out.block _ HSz.out).trans HR0.out
    have HB2 : Hid (Below w.heap.size w wr) := HB0.out.trans (HB.out.mono HB0.out.size)
    obtain ⟨hd0, hd1, hd2, hd3, hd4, hd5⟩ := tk_row HT2.out
    obtain ⟨hf0, hf1, hf2, hf3, hf4, hf5⟩ := row_frozen6 HT2.out
    dsimp only [tk0] at hd0 hd1 hd2 hd3 hd4 hd5
    clear hno hnv HBk HSn HA hown HBad HKind HGood
    go_wp2_with fail
    refine HN.out.mono ?_
    rintro e w1 ⟨rfl, rfl⟩
    go_wp2
    refine tkEnd rfl w.heap.size tk0 rfl (row_set6 HT2.out _ _ _ _ _ _) rfl ?_
    exact ⟨rfl, below_set6 HB2.out (Nat.le_refl _) _ _ _ _ _ _⟩
   ·
    rw [hnv] at HN
    have HY := hide hyes
    have hv0 : (0 : Int) ≤ (Sl.valL ([x3, x4, x5, x6].getD k ⟨#[]⟩).data.toList : Int) := by omega
    have Hlen := hide (first4_len x3 x4 x5 x6 k hk)
    have HBs : Hid (W0.heap.size ≤ wr.heap.size) := HB.out.size
    generalize (Sl.valL ([x3, x4, x5, x6].getD k ⟨#[]⟩).data.toList : Int) = nv at *
    have hvn : ¬ nv < 0 := by omega
    generalize hyy : [x3, x4, x5, x6].getD k ⟨#[]⟩ = y at *
    have HYy := hide hyy
    clear hyes hnv HBk hyy HBad HKind HGood
    go_wp2_with fail
    refine HN.out.mono ?_
    rintro e w1 ⟨rfl, rfl⟩
    go_wp2_with (first
     | (at_builtin; refine wpList_append_own _ rfl _ _ 244 rfl W0.heap.size 3 i0 (.int .i64 0) 1 8 Tryz.underlying244 hi hz0 hz1 hz2 rfl (by decide) _ _ _ rfl (hown.alloc _) ⟨w1.heap.size, 0, none⟩ 1 1 [.int .i64 nv] rfl rfl ?c1 ?c2 ?c3 ?c4 ?c5 ?_))
    case c1 =>
     intro j u hj
     match j, hj with
     | 0, hj => simp at hj; subst hj; simp [Addr.add]
    case c2 => intro u hu; simp at hu; subst hu; rfl
    case c3 => unfold maxLen; omega
    case c4 => omega
    case c5 => have := HBs.out; simp; omega
    ·
     intro v' w2 hown' hgrow _
     have HB1 : Hid (Below W0.heap.size W0 w2) := (HB.out.alloc HB.out.size _).grown hgrow (by have := HBs.out; simp; omega) (fun g hg => (hown.lt g hg).1)
     rw [cellsN_snoc, ← HSn.out] at hown'
     clear hown hgrow HB
     go_wp2
     go_roundw
     case rel =>
      refine ⟨k + 1, by omega, by have := HM.out; go_num, hown', HB1, (show Hid _ from fun j hj => ?_)⟩
      by_cases e : j = k
      ·
       subst e; rw [HYy.out]; exact HY.out
      ·
       exact HA.out j (by omega)
     case measure => have := HM.out; simp [intOf]; omega
  ·
   have : k = 4 := by omega
   subst this
   rw [show first4 [x3, x4, x5, x6] 4 = [(Sl.valL x3.data.toList : Int), (Sl.valL x4.data.toList : Int), (Sl.valL x5.data.toList : Int), (Sl.valL x6.data.toList : Int)] from rfl] at hown
   obtain ⟨g, cap, rfl, hgb, hgl, hcells⟩ := owns_ints hown (by simp)
   have hn0 := hcells 0 (by simp)
   have hn1 := hcells 1 (by simp)
   have hn2 := hcells 2 (by simp)
   have hn3 := hcells 3 (by simp)
   have hx0 : wr.cell? ⟨b, o, none⟩ = some (.string x0) := HXW.out wr HB.out 0 (by simp)
   have hx1 : wr.cell? ⟨b, o + 1, none⟩ = some (.string x1) := HXW.out wr HB.out 1 (by simp)
   have hx2 : wr.cell? ⟨b, o + 2, none⟩ = some (.string x2) := HXW.out wr HB.out 2 (by simp)
   simp only [List.getElem_cons_zero, List.getElem_cons_succ] at hn0 hn1 hn2 hn3
   have HKd := hide (HKind.out A.out)
   have HGd := hide (HGood.out A.out)
   have HT2 : Hid (wr.heap[w.heap.size]? = some (tkO tk0)) := (HB.out.block _ HSz.out).trans HR0.out
   have HB2 : Hid (Below w.heap.size w wr) := HB0.out.trans (HB.out.mono HB0.out.size)
   have HL0 : Hid (w.heap.size < wr.heap.size) := row_lt HT2.out
   have HL2 : Hid (b < wr.heap.size) := Nat.lt_of_lt_of_le HBl.out HB2.out.size
   have HL3 := hide hgl
   clear hown hcells HBad HKind HGood A HXW HS HB HB0 HR0 HSz hgb hgl hi hz0 hz1 hz2
   generalize (Sl.valL x3.data.toList : Int) = v3 at *
   generalize (Sl.valL x4.data.toList : Int) = v4 at *
   generalize (Sl.valL x5.data.toList : Int) = v5 at *
   generalize (Sl.valL x6.data.toList : Int) = v6 at *
   by_cases hk0 : x0.data.toList = tickL
   ·
    have hq : (x0.toList == [116, 105, 99, 107, 101, 116]) = true := by
     rw [beq_iff_eq, Go.ByteArray.toList_eq]
     exact hk0
    obtain ⟨hor, hcall⟩ := HGd.out hk0
    have HCall := hide hcall
    have hne1 : wr.heap.size ≠ b := by have := HL2.out; omega
    have hne2 : wr.heap.size ≠ g := by have := HL3.out; omega
    clear HKd HGd hcall hk0
    go_wp2_with fail
    go_region_held3 (fun w' => w'.cell? ⟨b, o + 1, none⟩ = some (.string x1) ∧ w'.cell? ⟨b, o + 2, none⟩ = some (.string x2) ∧ w'.cell? ⟨g, 0, none⟩ = some (.int .i64 v3) ∧ w'.cell? ⟨g, 1, none⟩ = some (.int .i64 v4) ∧ w'.cell? ⟨g, 2, none⟩ = some (.int .i64 v5) ∧ w'.cell? ⟨g, 3, none⟩ = some (.int .i64 v6)) (go_keep) (fail)
    have HB3 : Hid (Below w.heap.size w ((wr.alloc (tkO ⟨x1, x2, v3, v4, v5, v6⟩)).drew)) := (HB2.out.alloc HB2.out.size _).drew
    have HT3 : Hid (((wr.alloc (tkO ⟨x1, x2, v3, v4, v5, v6⟩)).drew).heap[w.heap.size]? = some (tkO tk0)) := row_pushed HT2.out _
    have HX3 : Hid (((wr.alloc (tkO ⟨x1, x2, v3, v4, v5, v6⟩)).drew).heap[wr.heap.size]? = some (tkO ⟨x1, x2, v3, v4, v5, v6⟩)) := heap_alloc_new _ _
    go_wp2_with fail
    refine (HCall.out _).mono ?_
    rintro e w2 ⟨rfl, hb⟩
    have HB4 : Hid (Below w.heap.size w w2) := HB3.out.trans (hb.mono HB3.out.size)
    have HT4 : Hid (w2.heap[w.heap.size]? = some (tkO tk0)) := row_kept HT3.out hb
    have HX4 : Hid (w2.heap[wr.heap.size]? = some (tkO ⟨x1, x2, v3, v4, v5, v6⟩)) := row_kept HX3.out hb
    clear hb HB3 HT3 HX3 HCall
    obtain ⟨hc0, hc1, hc2, hc3, hc4, hc5⟩ := tk_row HX4.out
    obtain ⟨hd0, hd1, hd2, hd3, hd4, hd5⟩ := tk_row HT4.out
    obtain ⟨hf0, hf1, hf2, hf3, hf4, hf5⟩ := row_frozen6 HT4.out
    dsimp only [tk0] at hc0 hc1 hc2 hc3 hc4 hc5 hd0 hd1 hd2 hd3 hd4 hd5
    rcases hor with ⟨rfl, rfl⟩ | ⟨hp, hp2, rfl⟩
    ·
     go_wp2
     refine tkEnd rfl w.heap.size ⟨x1, x2, v3, v4, v5, v6⟩ rfl (row_set6 HT4.out _ _ _ _ _ _) rfl ?_
     exact ⟨rfl, below_set6 HB4.out (Nat.le_refl _) _ _ _ _ _ _⟩
    ·
     go_wp2
     refine tkEnd rfl w.heap.size tk0 rfl (row_set6 HT4.out _ _ _ _ _ _) rfl ?_
     exact ⟨rfl, below_set6 HB4.out (Nat.le_refl _) _ _ _ _ _ _⟩
   ·
    obtain ⟨rfl, rfl⟩ := HKd.out hk0
    have hq : (x0.toList == [116, 105, 99, 107, 101, 116]) = false := by
     rw [beq_eq_false_iff_ne, Go.ByteArray.toList_eq]
     exact hk0
    obtain ⟨hd0, hd1, hd2, hd3, hd4, hd5⟩ := tk_row HT2.out
    obtain ⟨hf0, hf1, hf2, hf3, hf4, hf5⟩ := row_frozen6 HT2.out
    dsimp only [tk0] at hd0 hd1 hd2 hd3 hd4 hd5
    clear HKd HGd hk0
    go_wp2
    refine tkEnd rfl w.heap.size tk0 rfl (row_set6 HT2.out _ _ _ _ _ _) rfl ?_
    exact ⟨rfl, below_set6 HB2.out (Nat.le_refl _) _ _ _ _ _ _⟩
theorem tkOf7 (x0 x1 x2 x3 x4 x5 x6 : ByteArray) : tkOf (toLs [x0, x1, x2, x3, x4, x5, x6]) = ⟨x1, x2, (Sl.valL x3.data.toList : Int), (Sl.valL x4.data.toList : Int), (Sl.valL x5.data.toList : Int), (Sl.valL x6.data.toList : Int)⟩ := by
 show Tk.mk (Sl.ofL x1.data.toList) (Sl.ofL x2.data.toList) _ _ _ _ = _
 rw [Sl.ofL_toL, Sl.ofL_toL]
 rfl
theorem refTkOf_any (v : Value) (xs : List ByteArray) (w : World) (hv : TextsAt w v xs) (hs : ∀ x ∈ xs, x.size ≤ maxLen) :
  Calls Tryz.prog 132 #[v] w fun e w' => e = .returned (.tuple #[(okT (readE (toLs xs)) (tkOf (toLs xs))).val, .int .i64 (readE (toLs xs) : Int)]) ∧ Below w.heap.size w w' := by
 obtain ⟨ad, c, rfl, hc, hor⟩ := hv
 by_cases hn : xs.length = 7
 ·
  obtain ⟨x0, x1, x2, x3, x4, x5, x6, rfl⟩ : ∃ x0 x1 x2 x3 x4 x5 x6, xs = [x0, x1, x2, x3, x4, x5, x6] := by
   match xs, hn with
   | [x0, x1, x2, x3, x4, x5, x6], _ => exact ⟨_, _, _, _, _, _, _, rfl⟩
  obtain ⟨b, o, rfl, hx⟩ : ∃ b o, ad = some ⟨b, o, none⟩ ∧ Texts w b o [x0, x1, x2, x3, x4, x5, x6] := by
   rcases hor with g | g
   ·
    cases g
   ·
    exact g
  refine refOf_nums b o c x0 x1 x2 x3 x4 x5 x6 w hx hs _ _ (fun k hk4 hno => ?_) (fun hall hk => ?_) (fun hall hk => ?_)
  ·
   have e1 : readE (toLs [x0, x1, x2, x3, x4, x5, x6]) = 1 := by
    unfold readE
    rw [if_neg]
    intro hf
    unfold formW at hf
    obtain ⟨_, h36⟩ := Bool.and_eq_true_iff.1 hf
    obtain ⟨h35, g6⟩ := Bool.and_eq_true_iff.1 h36
    obtain ⟨h34, g5⟩ := Bool.and_eq_true_iff.1 h35
    obtain ⟨g3, g4⟩ := Bool.and_eq_true_iff.1 h34
    match k, hk4 with
    | 0, _ => exact absurd (hno.symm.trans g3) (by decide)
    | 1, _ => exact absurd (hno.symm.trans g4) (by decide)
    | 2, _ => exact absurd (hno.symm.trans g5) (by decide)
    | 3, _ => exact absurd (hno.symm.trans g6) (by decide)
   rw [e1]
   exact ⟨rfl, rfl⟩
  ·
   have e1 : readE (toLs [x0, x1, x2, x3, x4, x5, x6]) = 1 := by
    unfold readE
    rw [if_neg]
    intro hf
    unfold formW at hf
    exact hk (of_decide_eq_true (Bool.and_eq_true_iff.1 (Bool.and_eq_true_iff.1 hf).1).2)
   rw [e1]
   exact ⟨rfl, rfl⟩
  ·
   have e1 : readE (toLs [x0, x1, x2, x3, x4, x5, x6]) = (tkOf (toLs [x0, x1, x2, x3, x4, x5, x6])).err := by
    unfold readE
    rw [if_pos]
    unfold formW
    have f3 : Sl.numOk x3.data.toList = true := hall 0 (by decide)
    have f4 : Sl.numOk x4.data.toList = true := hall 1 (by decide)
    have f5 : Sl.numOk x5.data.toList = true := hall 2 (by decide)
    have f6 : Sl.numOk x6.data.toList = true := hall 3 (by decide)
    show (true && decide (x0.data.toList = tickL) && (Sl.numOk x3.data.toList && Sl.numOk x4.data.toList && Sl.numOk x5.data.toList && Sl.numOk x6.data.toList)) = true
    rw [f3, f4, f5, f6, decide_eq_true hk]
    rfl
   rw [e1]
   have hle := (tkOf (toLs [x0, x1, x2, x3, x4, x5, x6])).err_le
   refine ⟨?_, fun w => ?_⟩
   ·
    by_cases h0 : (tkOf (toLs [x0, x1, x2, x3, x4, x5, x6])).err = 0
    ·
     refine Or.inl ⟨by rw [h0]; rfl, ?_⟩
     rw [h0, okT_yes]
     exact tkOf7 x0 x1 x2 x3 x4 x5 x6
    ·
     exact Or.inr ⟨by omega, by omega, okT_no _ _ h0⟩
   ·
    have := refTk_any (tkOf (toLs [x0, x1, x2, x3, x4, x5, x6])) w (by rw [tkOf7]; exact hs x1 (by simp)) (by rw [tkOf7]; exact hs x2 (by simp))
    rw [tk_val, tkOf7] at this
    rw [tkOf7]
    exact this
 ·
  have e1 : readE (toLs xs) = 1 := by
   unfold readE
   rw [if_neg]
   intro hf
   unfold formW at hf
   have := of_decide_eq_true (Bool.and_eq_true_iff.1 (Bool.and_eq_true_iff.1 hf).1).1
   rw [List.length_map] at this
   exact hn this
  rw [e1]
  exact refOf_len ad xs.length c w hn
theorem okW_small (l : List UInt8) (h : Sl.lookE l = 0) : ∀ x ∈ okW 0 (Sl.lookW l), x.size ≤ maxLen := fun x hx => by
 have hw := (Sl.wordsOk_iff _).1 (Sl.lookOk_words l (Sl.lookE_ok l h))
 obtain ⟨y, hy, rfl⟩ := List.mem_map.1 hx
 have := (Sl.word_len y (hw.2 y hy)).2
 rw [Sl.ofL_size]
 unfold maxLen; omega
theorem toLs_okW (ws : List (List UInt8)) : toLs (okW 0 ws) = ws := toLs_map ws
theorem refTkOf_look (l : List UInt8) (h : Sl.lookE l = 0) (v : Value) (w : World) (hv : TextsAt w v (okW 0 (Sl.lookW l))) :
  Calls Tryz.prog 132 #[v] w fun e w' => e = .returned (.tuple #[(okT (readE (Sl.lookW l)) (tkOf (Sl.lookW l))).val, .int .i64 (readE (Sl.lookW l) : Int)]) ∧ Below w.heap.size w w' := by
 have := refTkOf_any v (okW 0 (Sl.lookW l)) w hv (okW_small l h)
 rw [toLs_okW] at this
 exact this
set_option maxRecDepth 100000 in
set_option maxHeartbeats 2000000 in
theorem refOpen_any (key : Int) (s : ByteArray) (w : World) (hs : s.size ≤ maxLen) :
  Calls Tryz.prog 87 #[.int .i64 key, .string s] w fun e w' => e = .returned (.tuple #[(okT (tkOpenE key s.data.toList) (tkOf (Sl.lookW s.data.toList))).val, .int .i64 (tkOpenE key s.data.toList : Int)]) ∧ Below w.heap.size w w' := by
 have HB0 : Hid (Below w.heap.size w (w.alloc (tkO tk0))) := (Below.refl _ w).alloc (Nat.le_refl _) _
 have HR0 : Hid ((w.alloc (tkO tk0)).heap[w.heap.size]? = some (tkO tk0)) := heap_alloc_new _ _
 have HO := hide (unseal_t key s (w.alloc (tkO tk0)) hs)
 have hle := openE_le key s.data.toList
 by_cases h0 : Sl.openE key s.data.toList = 0
 ·
  have e1 : tkOpenE key s.data.toList = readE (Sl.lookW s.data.toList) := by unfold tkOpenE; rw [if_pos h0]
  rw [e1]
  have HRd := hide (fun v w hv => refTkOf_look s.data.toList (((Sl.openE_iff key _).1 h0).2.1) v w hv)
  rw [h0] at HO
  generalize okT (readE (Sl.lookW s.data.toList)) (tkOf (Sl.lookW s.data.toList)) = r at *
  generalize (readE (Sl.lookW s.data.toList) : Int) = rv at *
  generalize okW 0 (Sl.lookW s.data.toList) = xs at *
  clear h0 e1 hle hs
  rw [tk_val] at HRd ⊢
  obtain ⟨who, dst, epoch, frm, til, ser⟩ := r
  dsimp only at *
  go_enter Tryz.func87, Tryz.ntmps87
  go_wp2_with fail
  refine HO.out.mono ?_
  rintro e w1 ⟨sl, rfl, hx, hb⟩
  have HB1 : Hid (Below w.heap.size w w1) := HB0.out.trans (hb.mono HB0.out.size)
  have HT1 : Hid (w1.heap[w.heap.size]? = some (tkO tk0)) := row_kept HR0.out hb
  have HRd1 := hide (HRd.out sl w1 hx)
  clear hb hx HB0 HO HR0 HRd
  go_wp2_with fail
  refine HRd1.out.mono ?_
  rintro e w2 ⟨rfl, hb⟩
  have HB2 : Hid (Below w.heap.size w w2) := HB1.out.trans (hb.mono HB1.out.size)
  have HT2 : Hid (w2.heap[w.heap.size]? = some (tkO tk0)) := row_kept HT1.out hb
  clear hb HB1 HT1 HRd1
  obtain ⟨hd0, hd1, hd2, hd3, hd4, hd5⟩ := tk_row HT2.out
  obtain ⟨hf0, hf1, hf2, hf3, hf4, hf5⟩ := row_frozen6 HT2.out
  dsimp only [tk0] at hd0 hd1 hd2 hd3 hd4 hd5
  go_wp2
  refine tkEnd rfl w.heap.size ⟨who, dst, epoch, frm, til, ser⟩ rfl (row_set6 HT2.out _ _ _ _ _ _) rfl ?_
  exact ⟨rfl, below_set6 HB2.out (Nat.le_refl _) _ _ _ _ _ _⟩
 ·
  have e1 : tkOpenE key s.data.toList = Sl.openE key s.data.toList := by unfold tkOpenE; rw [if_neg h0]
  rw [e1, okT_no _ _ h0]
  have hz : (0 : Int) < (Sl.openE key s.data.toList : Int) := by omega
  have hz2 : (Sl.openE key s.data.toList : Int) ≤ 16 := by omega
  generalize okW (Sl.openE key s.data.toList) (Sl.lookW s.data.toList) = xs at *
  generalize (Sl.openE key s.data.toList : Int) = z at *
  clear h0 e1 hle hs
  go_enter Tryz.func87, Tryz.ntmps87
  go_wp2_with fail
  refine HO.out.mono ?_
  rintro e w1 ⟨sl, rfl, hx, hb⟩
  have HB1 : Hid (Below w.heap.size w w1) := HB0.out.trans (hb.mono HB0.out.size)
  have HT1 : Hid (w1.heap[w.heap.size]? = some (tkO tk0)) := row_kept HR0.out hb
  clear hb hx HB0 HO HR0
  obtain ⟨hd0, hd1, hd2, hd3, hd4, hd5⟩ := tk_row HT1.out
  obtain ⟨hf0, hf1, hf2, hf3, hf4, hf5⟩ := row_frozen6 HT1.out
  dsimp only [tk0] at hd0 hd1 hd2 hd3 hd4 hd5
  go_wp2
  refine tkEnd rfl w.heap.size tk0 rfl (row_set6 HT1.out _ _ _ _ _ _) rfl ?_
  exact ⟨rfl, below_set6 HB1.out (Nat.le_refl _) _ _ _ _ _ _⟩
theorem tk_back (key : Int) (hk : 1 ≤ key ∧ key ≤ 1000000006) (t : Tk) (h : t.err = 0) : tkOpenE key (Sl.sealL key t.words) = 0 ∧ tkLookE (Sl.sealL key t.words) = 0 ∧ tkOf (Sl.lookW (Sl.sealL key t.words)) = t := by
 obtain ⟨h1, _, h3, h4, _⟩ := Sl.seal_look key hk t.words (t.words_ok h)
 obtain ⟨r1, r2⟩ := t.words_read h
 refine ⟨?_, ?_, by rw [h1, r2]⟩
 ·
  unfold tkOpenE; rw [if_pos h4, h1, r1]
 ·
  unfold tkLookE; rw [if_pos h3, h1, r1]
end Go.Proofs.YtabpnjchocgakaaGreatDoor

namespace Go.Proofs.YtabpnjchocgakaaGreatDoor
open Go.RowKit Go.Extern.Stop Go.Stop Go.Extern Go.Proofs Go.Maps
def RnwPost (key long : Int) (w : World) (e : Ending) (w' : World) : Prop :=
 Below w.heap.size w w' ∧ ((rmC key long = 0 ∧ ∃ rb bb, e = .returned (.tuple #[.pointer (some ⟨rb, 0, none⟩), .int .i64 0]) ∧ RefRm w.heap.size w' rb bb (.slice none 0 0) (.slice none 0 0) (rmN key long)) ∨
  (rmC key long ≠ 0 ∧ e = .returned (.tuple #[.pointer none, .int .i64 (rmC key long : Int)])))
set_option maxRecDepth 100000 in
set_option maxHeartbeats 2000000 in
theorem refNewR_any (key long : Int) (w : World) :
  Calls Tryz.prog 9 #[.int .i64 key, .int .i64 long] w (RnwPost key long w) := by
 have HK := hide (refKey_any key w)
 by_cases hk : 1 ≤ key ∧ key ≤ 1000000006
 ·
  by_cases hl : 1 ≤ long ∧ long ≤ 1000000
  ·
   have h0 : rmC key long = 0 := by unfold rmC; rw [if_pos hk, if_pos hl]
   have HW : Hid (∀ w', w' = (w.alloc (.cells #[.slice none 0 0] 49)).alloc (rmO (rmN key long) w.heap.size (.slice none 0 0)) → RnwPost key long w (.returned (.tuple #[.pointer (some ⟨w.heap.size + 1, 0, none⟩), .int .i64 0])) w') := fun w' e => by
    subst e
    have hb : Below w.heap.size w ((w.alloc (.cells #[.slice none 0 0] 49)).alloc (rmO (rmN key long) w.heap.size (.slice none 0 0))) := ((Below.refl _ _).alloc (Nat.le_refl _) _).alloc (by simp) _
    refine ⟨hb, Or.inl ⟨h0, w.heap.size + 1, w.heap.size, rfl, ⟨?_, ⟨?_, World.ownsRow_nil _ _ _ _⟩, fun _ => rfl, World.ownsRow_nil _ _ _ _, by omega, Nat.le_refl _⟩⟩⟩
    ·
     have := heap_alloc_new (w.alloc (.cells #[.slice none 0 0] 49)) (rmO (rmN key long) w.heap.size (.slice none 0 0))
     rwa [World.size_alloc] at this
    ·
     exact (Below.heap_alloc _ _ _ (by simp)).trans (heap_alloc_new w _)
   obtain ⟨hl1, hl2⟩ := hl
   obtain ⟨hk1, hk2⟩ := hk
   clear h0
   simp only [hk1, hk2, and_self, decide_true] at HK
   go_enter Tryz.func9, Tryz.ntmps9
   go_wp2_with fail
   refine HK.out.mono ?_
   rintro e w1 ⟨rfl, hww⟩
   subst hww
   go_wp2
   go_ret2
   exact HW.out _ rfl
  ·
   have h0 : rmC key long = 2 := by unfold rmC; rw [if_pos hk, if_neg hl]
   have HW : Hid (RnwPost key long w (.returned (.tuple #[.pointer none, .int .i64 2])) w) := ⟨Below.refl _ _, Or.inr ⟨by rw [h0]; decide, by rw [h0]; rfl⟩⟩
   obtain ⟨hk1, hk2⟩ := hk
   simp only [hk1, hk2, and_self, decide_true] at HK
   have hq : long < 1 ∨ (1 ≤ long ∧ 1000000 < long) := by omega
   clear h0 hl
   rcases hq with q | ⟨q, q2⟩
   all_goals
    go_enter Tryz.func9, Tryz.ntmps9
    go_wp2_with fail
    refine HK.out.mono ?_
    rintro e w1 ⟨rfl, hww⟩
    subst hww
    go_wp2
    go_ret2
    exact HW.out
 ·
  have h0 : rmC key long = 10 := by unfold rmC; rw [if_neg hk]
  have HW : Hid (RnwPost key long w (.returned (.tuple #[.pointer none, .int .i64 10])) w) := ⟨Below.refl _ _, Or.inr ⟨by rw [h0]; decide, by rw [h0]; rfl⟩⟩
  rw [decide_eq_false hk] at HK
  clear h0 hk
  go_enter Tryz.func9, Tryz.ntmps9
  go_wp2_with fail
  refine HK.out.mono ?_
  rintro e w1 ⟨rfl, hww⟩
  subst hww
  go_wp2
  go_ret2
  exact HW.out
end Go.Proofs.YtabpnjchocgakaaGreatDoor

namespace Go.Proofs.YtabpnjchocgakaaGreatDoor
open Go Go.Sort Go.Proofs
theorem compare_lt : ∀ (a b : List UInt8), decide (Lib.compareBytes a b < 0) = decide (a < b)
 | [], [] => by simp [Lib.compareBytes]
 | [], _ :: _ => by simp [Lib.compareBytes]
 | _ :: _, [] => by simp [Lib.compareBytes]
 | a :: x, b :: y => by
  rw [Lib.compareBytes]
  have ih := compare_lt x y
  simp only [List.cons_lt_cons_iff]
  by_cases h1 : a < b
  ·
   simp [h1]
  ·
   by_cases h2 : b < a
   ·
    have : a ≠ b := fun e => by subst e; exact h1 h2
    simp [h1, h2, this]
   ·
    have : a = b := UInt8.le_antisymm (UInt8.not_lt.1 h2) (UInt8.not_lt.1 h1)
    subst this
    simpa [h1] using ih
def cmpP (p q : Per) : Int := Lib.compareBytes p.nm q.nm
theorem ltP_eq (p q : Per) : ltOf cmpP p q = decide (p.nm < q.nm) := compare_lt _ _
theorem swoP : SWO (ltOf cmpP) where
 irrefl x := by rw [ltP_eq]; exact decide_eq_false (List.lt_irrefl _)
 trans x y z h1 h2 := by
  rw [ltP_eq, decide_eq_true_eq] at *
  exact List.lt_trans h1 h2
 ntrans x y z h1 h2 := by
  rw [ltP_eq, decide_eq_false_iff_not] at *
  exact List.not_lt.2 (List.le_trans (List.not_lt.1 h2) (List.not_lt.1 h1))
theorem sorted_is [Inhabited Per] {L : List Per} (hr : Rising L) {d d' : Array Per} (hp : d.toList.Perm L) (h1 : PermIn 0 d.size d d') (h2 : SortedIn (ltOf cmpP) 0 d.size d') : d'.toList = L := by
 obtain ⟨hs, _, hperm⟩ := h1
 rw [Array.extract_eq_self_of_le (by omega), Array.extract_eq_self_of_le (by omega)] at hperm
 have hall := hperm.trans hp
 refine rising_unique ?_ hr hall
 have hne : d'.toList.Pairwise (fun p q => p.nm ≠ q.nm) := (hall.pairwise_iff (fun {_ _} h e => h e.symm)).2 (hr.imp (fun h e => by rw [e] at h; exact List.lt_irrefl _ h))
 refine List.pairwise_iff_getElem.2 fun i j hi hj hij => ?_
 have hn := List.pairwise_iff_getElem.1 hne i j hi hj hij
 have hi' : i < d'.size := by simpa using hi
 have hj' : j < d'.size := by simpa using hj
 have hso := h2 i j (Nat.zero_le _) hij (by omega)
 rw [ltP_eq, decide_eq_false_iff_not, getElem!_pos d' i hi', getElem!_pos d' j hj'] at hso
 simp only [Array.getElem_toList] at hn ⊢
 exact Decidable.byContradiction fun g => hn (List.le_antisymm (List.not_lt.1 hso) (List.not_lt.1 g))
theorem flat_cells [Inhabited Per] (L : List Per) : (flatK Per.cells 4 L.toArray).toList = cellsP L := by
 apply List.ext_getElem?
 intro t
 by_cases ht : t < L.length * 4
 ·
  have hq : t / 4 < L.length := by omega
  have e := cellsP_at L (t / 4) (t % 4) hq (by omega)
  rw [show t / 4 * 4 + t % 4 = t by omega] at e
  have hl : t % 4 < L[t / 4].cells.length := by show t % 4 < 4; omega
  rw [e, List.getElem?_eq_getElem hl, Array.getElem?_toList, Array.getElem?_eq_getElem (by rw [size_flatK]; simpa using ht)]
  have := get_flatK Per.cells 4 L.toArray t (by simpa using ht)
  rw [getElem!_pos _ t (by rw [size_flatK]; simpa using ht)] at this
  rw [this, getElem!_pos L.toArray (t / 4) (by simpa using hq)]
  simp only [List.getElem_toArray]
  rw [getElem!_pos _ (t % 4) hl]
 ·
  rw [List.getElem?_eq_none (by simp; omega), List.getElem?_eq_none (by rw [cellsP_len]; omega)]
theorem holds_of_own [Inhabited Per] {w : World} {base g cap : Nat} {T : TypeId} {L : List Per} (h : w.ownsRow base T 4 (.slice (some ⟨g, 0, none⟩) L.length cap) L.length (cellsP L)) : HoldsK Per.cells 4 w g 0 L.toArray := by
 rcases h.2 with ⟨h0, _⟩ | ⟨g', cap', cur, hv, _, hb, _, _, _, ht⟩
 ·
  cases h0
 cases hv
 intro j hj
 have hj' : j < L.length * 4 := by simpa using hj
 refine ⟨?_, by simp [World.frozen?, hb]⟩
 have e : (flatK Per.cells 4 L.toArray)[j]? = (cellsP L)[j]? := by rw [← flat_cells, Array.getElem?_toList]
 rw [← ht, List.getElem?_take_of_lt hj', Array.getElem?_eq_getElem hj] at e
 simp only [World.cell?, hb, Nat.zero_add]
 simp only [Option.isSome_none, Bool.false_eq_true, if_false]
 rw [← Array.getElem?_toList, ← e, getElem!_pos _ j hj]
 rfl
theorem heap_sortedK [Inhabited Per] {w : World} {g n : Nat} {os : Array Obj} {cur : Array Value} {T : TypeId} (d : Array Per) (hb : w.heap[g]? = some (.cells cur T (0, 0))) :
  (sortWorldK Per.cells 4 w g 0 n d os).heap[g]? = some (.cells (putCells id 0 (flatK Per.cells 4 d) cur) T (0, 0)) := by
 have hg : g < w.heap.size := (Array.getElem?_eq_some_iff.1 hb).1
 unfold sortWorldK putRowK
 rw [heap_grow_old _ _ (by simpa using hg)]
 simp [putRow, mapBlock, Sort.ahead, Array.getElem?_modify, hb, onCells]
theorem grown_sortedK [Inhabited Per] {w : World} {g n : Nat} {os : Array Obj} (d : Array Per) : w.grownBy (sortWorldK Per.cells 4 w g 0 n d os) (some g) := by
 unfold sortWorldK putRowK
 refine ⟨rfl, rfl, rfl, by simp, fun k hk hne => ?_⟩
 rw [heap_grow_old _ _ (by simpa using hk)]
 have : g ≠ k := fun e => hne (by rw [e])
 simp [putRow, mapBlock, Sort.ahead, Array.getElem?_modify, this]
theorem take_putK [Inhabited Per] (cur : Array Value) (L : List Per) (h : L.length * 4 ≤ cur.size) : (putCells id 0 (flatK Per.cells 4 L.toArray) cur).toList.take (L.length * 4) = cellsP L := by
 rw [← flat_cells]
 apply List.ext_getElem?
 intro j
 by_cases hj : j < L.length * 4
 ·
  rw [List.getElem?_take_of_lt hj, Array.getElem?_toList, Array.getElem?_toList]
  simp [putCells, hj, show j < cur.size by omega]
 ·
  rw [List.getElem?_take_eq_none (by omega), List.getElem?_eq_none (by simp; omega)]
theorem own_sortedK [Inhabited Per] {w : World} {base g cap n : Nat} {T : TypeId} {os : Array Obj} {L M : List Per} (h : w.ownsRow base T 4 (.slice (some ⟨g, 0, none⟩) L.length cap) L.length (cellsP L)) (hl : M.length = L.length) :
  (sortWorldK Per.cells 4 w g 0 n M.toArray os).ownsRow base T 4 (.slice (some ⟨g, 0, none⟩) M.length cap) M.length (cellsP M) := by
 rcases h.2 with ⟨h0, _⟩ | ⟨g', cap', cur, hv, hg, hb, h1, h2, h3, _⟩
 ·
  cases h0
 cases hv
 exact ⟨by rw [cellsP_len], .inr ⟨g, cap, _, rfl, hg, heap_sortedK _ hb, by omega, h2, by simp [putCells, h3], take_putK cur M (by omega)⟩⟩
end Go.Proofs.YtabpnjchocgakaaGreatDoor

namespace Go.Proofs.YtabpnjchocgakaaGreatDoor
open Go Go.RowKit Go.Maps Go.Sort Go.Proofs
set_option maxRecDepth 100000 in
set_option maxHeartbeats 1000000 in
theorem byName_any (x y : Per) (W : World) :
  Calls Tryz.prog 126 #[.agg #[.string x.name, .int .i64 x.key, .int .i64 x.epoch, .bool x.off], .agg #[.string y.name, .int .i64 y.key, .int .i64 y.epoch, .bool y.off]] W fun e w' => e = .returned (.int .i64 (cmpP x y)) ∧ ∃ q os', w' = grow (W.drewN q) os' := by
 have hcon := fun W' => Any.strings_Compare Tryz.cmpS x.name y.name W'
 change ∀ W', Calls Tryz.prog 116 _ _ _ at hcon
 unfold cmpP Per.nm
 generalize Lib.compareBytes x.name.data.toList y.name.data.toList = r at hcon ⊢
 go_enter Tryz.func126, Tryz.ntmps126
 go_wp2_with (go_at_call 116; refine (hcon _).mono ?_; rintro e w' ⟨rfl, rfl⟩)
 go_ret
 exact ⟨rfl, 0, _, by rw [alloc_eq_grow, alloc_eq_grow, grow_grow]; rfl⟩
set_option maxRecDepth 100000 in
set_option maxHeartbeats 2000000 in
theorem sortedFunc_any (Bm b nn : Nat) (L : List Per) (hL : Rising L) (hn : L.length ≤ 1000) (w : World) (hBm : Bm < w.heap.size) (hm : w.cell? ⟨Bm, 0, none⟩ = some (.map (some b))) (hown : w.ownsMap Tryz.prog 9 perR b nn (dOf L)) :
  Calls Tryz.prog 124 #[.func (.func 174) #[] #[.pointer (some ⟨Bm, 0, none⟩)], .func (.func 126) #[] #[]] w fun e w' => ∃ v, e = .returned v ∧ w'.ownsRow w.heap.size 46 4 v L.length (cellsP L) ∧ Below w.heap.size w w' := by
 have inst : Inhabited Per := ⟨noP⟩
 have HC := hide (callsIn_wide.1 (collect_in Fence.wide 3 trivial trivial rfl (by omega) 174 #[.pointer (some ⟨Bm, 0, none⟩)] trivial (enters_of Tryz.func174 (by kernel_rfl) rfl) (fun ss => ss.Perm L) L.length hn w (values_gives Fence.wide 1 trivial rfl (by omega) Bm b nn L hL w hBm hm hown)))
 clear hm hown
 go_enter Tryz.func124, Tryz.ntmps124
 go_wp2_with fail
 refine HC.out.mono ?_
 rintro e W ⟨v, ss, rfl, hS, hrow, hnil, hb⟩
 have hlen : L.length = ss.length := hS.length_eq.symm
 rcases hrow.2 with ⟨rfl, hz⟩ | ⟨g, cap, cur, rfl, hbase, hgb, r1, r2, r3, r4⟩
 ·
  have hss : ss = [] := List.eq_nil_of_length_eq_zero hz
  subst hss
  obtain rfl : L = [] := List.eq_nil_of_length_eq_zero hlen
  have cS := fun W => AnyF.slices_SortFunc_none Tryz.sortP none 0 (.func (.func 126) #[] #[]) W
  change ∀ W, Calls Tryz.prog 173 _ _ _ at cS
  have HO := hide hrow
  have HB := hide hb
  clear hrow hb hnil hS HC
  go_wp2_with (go_at_call 173; refine (cS _).mono ?_; rintro e w' ⟨rfl, rfl⟩)
  go_ret
  exact ⟨_, rfl, HO.out, HB.out⟩
 ·
  have hH : HoldsK Per.cells 4 W g 0 ss.toArray := holds_of_own hrow
  have hgl : g < W.heap.size := (Array.getElem?_eq_some_iff.1 hgb).1
  have cS := AnyQ.slices_SortFunc Tryz.sortP 4 Tryz.isAgg46 Tryz.sizeOf46 Per.cells (fun _ => rfl) cells_one cmpP swoP 126 #[] g 0 cap ss.toArray W (enters_of Tryz.func126 (by kernel_rfl) rfl) (fun _ _ _ _ x y => byName_any x y _) hH hgl (by simp; omega)
  change Calls Tryz.prog 173 _ _ _ at cS
  simp only [List.size_toArray] at cS
  have HS := hide cS
  have HO := hide hrow
  have HB := hide hb
  have HP := hide hS
  have HG := hide hbase
  clear hrow hb hnil hS HC cS hgb r1 r2 r3 r4 hH hbase
  generalize hk : ss.length = k at *
  go_wp2_with fail
  refine HS.out.mono ?_
  rintro e w' ⟨rfl, d', n, os, hp, hs, hw⟩
  have hd : d'.toList = L := sorted_is hL (d := ss.toArray) (by simpa using HP.out) (by simpa [hk] using hp) (by simpa [hk] using hs)
  have HD : Hid (∃ v, w'.ownsRow w.heap.size 46 4 v L.length (cellsP L) ∧ v = .slice (some ⟨g, 0, none⟩) k cap ∧ Below w.heap.size w w') := by
   have hd2 : d' = L.toArray := by rw [← hd]
   rw [hw, hd2]
   have h1 := HO.out
   rw [← hk] at h1
   have h2 := own_sortedK (n := n) (os := os) (M := L) h1 (hlen.trans hk.symm)
   exact ⟨_, h2, by rw [hlen], HB.out.grown (grown_sortedK _) HB.out.size (fun j hj => by cases hj; exact HG.out)⟩
  clear hw hp hs hd HS HO HB HP
  go_wp2
  go_ret
  obtain ⟨v, h1, rfl, h2⟩ := HD.out
  exact ⟨_, rfl, h1, h2⟩
set_option maxRecDepth 100000 in
set_option maxHeartbeats 1000000 in
theorem all_any (bp mb : Nat) (L : List Per) (w : World) (h : BookAt w bp mb L) :
  Calls Tryz.prog 81 #[.pointer (some ⟨bp, 0, none⟩)] w fun e w' => ∃ v, e = .returned v ∧ w'.ownsRow w.heap.size 46 4 v L.length (cellsP L) ∧ Below w.heap.size w w' := by
 have hc := h.cell
 have HV := hide (values_any (some mb) w)
 have HS := hide (sortedFunc_any w.heap.size mb L.length L h.good.rise (Nat.le_trans h.good.few (by decide)) (w.alloc (.cells #[.map (some mb)] 132)) (by simp) (by simp) (h.own.alloc _))
 have HB : Hid (Below w.heap.size w (w.alloc (.cells #[.map (some mb)] 132))) := (Below.refl _ _).alloc (Nat.le_refl _) _
 clear h
 go_enter Tryz.func81, Tryz.ntmps81
 go_wp2_with fail
 refine HV.out.mono ?_
 rintro e w1 ⟨rfl, rfl⟩
 go_wp2_with fail
 refine HS.out.mono ?_
 rintro e w2 ⟨v, rfl, ho, hb⟩
 have HO := hide ho
 have HB2 := hide hb
 clear ho hb
 go_wp2
 go_ret
 exact ⟨v, rfl, ownsRow_base_a HO.out (by simp), HB.out.trans (HB2.out.mono HB.out.size)⟩
end Go.Proofs.YtabpnjchocgakaaGreatDoor

namespace Go.Proofs.YtabpnjchocgakaaGreatDoor
open Go Go.RowKit Go.Extern.Stop Go.Stop Go.Extern Go.Maps
theorem row_form {w : World} {base : Nat} {v : Value} {L : List Per} (h : w.ownsRow base 46 4 v L.length (cellsP L)) : ∃ ad cap, v = .slice ad L.length cap ∧ L.length ≤ cap := by
 rcases h.2 with ⟨rfl, h0⟩ | ⟨g, cap, cur, rfl, _, _, hc, _⟩
 ·
  exact ⟨none, 0, by rw [h0], by omega⟩
 ·
  exact ⟨_, _, rfl, hc⟩
theorem prow_cells {w : World} {base : Nat} {ad : Option Addr} {cap : Nat} {L : List Per} (h : w.ownsRow base 46 4 (.slice ad L.length cap) L.length (cellsP L)) (hn : 0 < L.length) :
  ∃ g, ad = some ⟨g, 0, none⟩ ∧ base ≤ g ∧ ∀ i p, L[i]? = some p → w.cell? ⟨g, i * 4, none⟩ = some (.string p.name) ∧ w.cell? ⟨g, i * 4 + 1, none⟩ = some (.int .i64 p.key) ∧ w.cell? ⟨g, i * 4 + 2, none⟩ = some (.int .i64 p.epoch) ∧ w.cell? ⟨g, i * 4 + 3, none⟩ = some (.bool p.off) := by
 rcases h.2 with ⟨_, h0⟩ | ⟨g, cap', cur, e, hb, hg, hc, _, _, ht⟩
 ·
  omega
 ·
  cases e
  refine ⟨g, rfl, hb, fun i p hp => ?_⟩
  obtain ⟨hi, rfl⟩ := List.getElem?_eq_some_iff.1 hp
  have key : ∀ j (_ : j < 4) u, (L[i].cells)[j]? = some u → w.cell? ⟨g, i * 4 + j, none⟩ = some u := fun j hj u hu => by
   have e := cellsP_at L i j hi hj
   rw [hu, ← ht, List.getElem?_take] at e
   rw [cell_of_row w g _ cur _ _ hg]
   split at e
   ·
    simpa using e
   ·
    cases e
  exact ⟨key 0 (by decide) _ rfl, key 1 (by decide) _ rfl, key 2 (by decide) _ rfl, key 3 (by decide) _ rfl⟩
structure ActD where
 kind : ByteArray
 name : ByteArray
 key : Int
 is : Bool
def ActsAt (w : World) (v : Value) (l : List ActD) : Prop := ∃ ad cap, v = .slice ad l.length cap ∧ l.length ≤ cap ∧ (0 < l.length → ∃ b o, ad = some ⟨b, o, none⟩ ∧ b < w.heap.size ∧ ∀ i x, l[i]? = some x → w.cell? ⟨b, o + i * 4, none⟩ = some (.string x.kind) ∧ w.cell? ⟨b, o + i * 4 + 1, none⟩ = some (.string x.name) ∧ w.cell? ⟨b, o + i * 4 + 2, none⟩ = some (.int .i64 x.key) ∧ w.cell? ⟨b, o + i * 4 + 3, none⟩ = some (.bool x.is))
theorem ActsAt.below {w w' : World} {v : Value} {l : List ActD} (h : ActsAt w v l) (hb : Below w.heap.size w w') : ActsAt w' v l := by
 obtain ⟨ad, cap, h1, h2, h3⟩ := h
 refine ⟨ad, cap, h1, h2, fun hn => ?_⟩
 obtain ⟨b, o, h4, h5, h6⟩ := h3 hn
 refine ⟨b, o, h4, Nat.lt_of_lt_of_le h5 hb.size, fun i x hx => ?_⟩
 obtain ⟨c0, c1, c2, c3⟩ := h6 i x hx
 exact ⟨by rw [hb.cell (p := ⟨b, _, none⟩) h5]; exact c0, by rw [hb.cell (p := ⟨b, _, none⟩) h5]; exact c1, by rw [hb.cell (p := ⟨b, _, none⟩) h5]; exact c2, by rw [hb.cell (p := ⟨b, _, none⟩) h5]; exact c3⟩
def Short (l : List ActD) : Prop := l.length ≤ 80 ∧ ∀ x ∈ l, x.kind.size ≤ 20 ∧ x.name.size ≤ 20
end Go.Proofs.YtabpnjchocgakaaGreatDoor

namespace Go.Proofs.YtabpnjchocgakaaGreatDoor
open Go.RowKit Go.Extern.Stop Go.Stop Go.Extern Go.Proofs Go.Maps Go.Shelf
set_option maxRecDepth 100000 in
set_option maxHeartbeats 2000000 in
theorem rpPeople_any (rp bp mb : Nat) (v : Value) (r : Rm) (w : World) (h : RmAt w rp bp mb v r) :
  Calls Tryz.prog 30 #[.pointer (some ⟨rp, 0, none⟩)] w fun e w' => ∃ v', e = .returned v' ∧ w'.ownsRow w.heap.size 46 4 v' r.b.length (cellsP r.b) ∧ Below w.heap.size w w' := by
 obtain ⟨_, _, _, _, c4, _⟩ := rp_cells h.row
 have HA := hide (all_any bp mb r.b w h.book)
 clear h
 go_enter Tryz.func30, Tryz.ntmps30
 go_wp2_with fail
 refine HA.out.mono ?_
 rintro e w1 ⟨v', rfl, ho, hb⟩
 have HO := hide ho
 have HB := hide hb
 clear ho hb
 go_wp2
 go_ret
 exact ⟨v', rfl, HO.out, HB.out⟩
theorem topE_max (L : List Per) (k : Nat) (hk : k < L.length) : topE (L.take (k + 1)) = max (topE (L.take k)) L[k].epoch := by
 rw [topE_take L k hk]
 split <;> omega
set_option maxRecDepth 100000 in
set_option maxHeartbeats 2000000 in
theorem greatest_any (b0 : Nat) (v : Value) (L : List Per) (w : World) (h : w.ownsRow b0 46 4 v L.length (cellsP L)) (hn : L.length ≤ 1000) :
  Calls Tryz.prog 70 #[v] w fun e w' => e = .returned (.int .i64 (topE L)) ∧ Below w.heap.size w w' := by
 obtain ⟨ad, cap, rfl, hc⟩ := row_form h
 have H1 := hide (fun hn => prow_cells h hn)
 clear h
 generalize hl : L.length = n at hn hc ⊢
 have HL := hide hl
 clear hl
 go_enter Tryz.func70, Tryz.ntmps70
 go_wp2
 go_loopw [3, 8] (fun s3 s8 wr => ∃ k : Nat, k ≤ n ∧ s3 = .int .i64 (topE (L.take k)) ∧ s8 = .int .i64 k ∧ Hid (Below w.heap.size w wr)) (fun _ s8 _ => n - (intOf s8).toNat)
 case atStart => exact ⟨0, Nat.zero_le _, by simp [topE], rfl, Below.refl _ _⟩
 case round =>
  obtain ⟨k, hk, rfl, rfl, HB⟩ := hrel
  by_cases hlt : k < n
  ·
   have hkL : k < L.length := by rw [HL.out]; exact hlt
   obtain ⟨g1, rfl, _, hcs1⟩ := H1.out (by rw [HL.out]; omega)
   obtain ⟨x0, x1, x2, x3⟩ := hcs1 k L[k] (List.getElem?_eq_getElem _)
   have y0 := (HB.out.cell (p := ⟨g1, k * 4, none⟩) (cell_lt x0)).trans x0
   have y1 := (HB.out.cell (p := ⟨g1, k * 4 + 1, none⟩) (cell_lt x1)).trans x1
   have y2 := (HB.out.cell (p := ⟨g1, k * 4 + 2, none⟩) (cell_lt x2)).trans x2
   have y3 := (HB.out.cell (p := ⟨g1, k * 4 + 3, none⟩) (cell_lt x3)).trans x3
   have HT := hide (topE_max L k hkL)
   generalize L[k] = p at *
   clear hcs1 x0 x1 x2 x3
   go_wp2
   go_roundw
   case rel => exact ⟨k + 1, by omega, by rw [HT.out], by go_num, HB.out.alloc HB.out.size _⟩
   case measure => first | omega | (simp [intOf]; omega)
  ·
   have hke : k = n := by omega
   subst hke
   have hT : L.take k = L := by rw [← HL.out]; exact List.take_length
   rw [hT] at *
   go_wp2
   go_ret
   exact ⟨rfl, HB.out⟩
theorem top_room {r : Rm} (h : GoodR r) : 0 ≤ topE r.b ∧ topE r.b ≤ 1073741824 := by
 refine ⟨(top_ge _).1, ?_⟩
 have key : ∀ (L : List Per) (a : Int), a ≤ 1073741824 → (∀ p ∈ L, p.epoch ≤ 1073741824) → L.foldl (fun a p => if a < p.epoch then p.epoch else a) a ≤ 1073741824 := by
  intro L
  induction L with
  | nil => exact fun a ha _ => ha
  | cons q L ih =>
   intro a ha hq
   refine ih _ ?_ (fun p hp => hq p (by simp [hp]))
   have := hq q (by simp)
   show (if a < q.epoch then q.epoch else a) ≤ _
   split <;> omega
 exact key _ 0 (by decide) fun p hp => (err_zero.1 (h.book.fine p hp)).2.2.2
theorem flu_no {r : Rm} (h : r.fluC ≠ 0) : r.fluR = r := by
 unfold Rm.fluC at h
 unfold Rm.fluR
 split
 ·
  rfl
 ·
  rename_i h0
  rw [if_neg h0] at h
  exact entR_no h
structure FluAt (w w2 wr : World) (cp bp mb : Nat) (v : Value) (r : Rm) (n : Int) (k : Nat) : Prop where
 mine : RmAt wr cp bp mb v { r with b := mixE r.b n k }
 past : Below w.heap.size w wr
 kept : Kept (fun j => j = mb) w2 wr
theorem FluAt.below {w w2 wr w' : World} {cp bp mb : Nat} {v : Value} {r : Rm} {n : Int} {k : Nat} (h : FluAt w w2 wr cp bp mb v r n k) (hb : Below wr.heap.size wr w') : FluAt w w2 w' cp bp mb v r n k :=
 ⟨h.mine.below hb, h.past.trans (hb.mono h.past.size), h.kept.trans (Kept.of_below _ hb)⟩
theorem FluAt.row {w w2 wr : World} {cp bp mb : Nat} {v : Value} {r : Rm} {n : Int} {k g : Nat} {c : Array Value} (h : FluAt w w2 wr cp bp mb v r n k) (hm : ∃ es c, w2.heap[mb]? = some (.map es c)) (hg : w2.heap[g]? = some (.cells c 46 (0, 0))) : wr.heap[g]? = some (.cells c 46 (0, 0)) :=
 (h.kept.block g (row_lt hg) (fun e => by
  obtain ⟨es, c2, he⟩ := hm
  rw [← e, hg] at he
  cases he)).trans hg
theorem FluAt.own {w w2 wr : World} {cp bp mb b0 : Nat} {v v2 : Value} {r : Rm} {n : Int} {k : Nat} {L : List Per} (h : FluAt w w2 wr cp bp mb v r n k) (hm : ∃ es c, w2.heap[mb]? = some (.map es c)) (ho : w2.ownsRow b0 46 4 v2 L.length (cellsP L)) : wr.ownsRow b0 46 4 v2 L.length (cellsP L) :=
 own_block ho fun g hg => by
  obtain ⟨c, hc⟩ := own_tag ho hg
  rw [h.row hm hc, hc]
set_option maxRecDepth 100000 in
set_option maxHeartbeats 8000000 in
theorem flush_change (a : Nat → Addr) (r : Rm) (w : World) (hg : GoodR r) (hE : Errs a w) :
  Change a 69 #[] r r.fluR (topE r.b + 1) r.fluC w := fun w1 cp hc => by
 obtain ⟨bp, mb, v, hR, hM, hB⟩ := hc
 have HE0 := hide hE
 have HR := hide hR
 have HM := hide hM
 have HB := hide hB
 have HPe := hide (fun W (hb : Below w1.heap.size w1 W) => rpPeople_any cp bp mb v r W (hR.below hb))
 have HGr := hide (fun b0 v W (h : World.ownsRow W b0 46 4 v r.b.length (cellsP r.b)) => greatest_any b0 v r.b W h (Nat.le_trans hg.book.few (by decide)))
 have HTp := hide (top_ge r.b)
 obtain ⟨ht0, ht1⟩ := top_room hg
 have HRm := hide (And.intro ht0 ht1)
 have hw1 : IntKind.i64.wrap (topE r.b + 1) = topE r.b + 1 := by rw [IntKind.wrap_i64]; omega
 have hfew : r.b.length ≤ 20 := hg.book.few
 have HGood := hide hg
 by_cases h0 : 1073741824 ≤ topE r.b
 ·
  have e1 : r.fluC = 2 := by unfold Rm.fluC; rw [if_pos h0]
  rw [e1]
  have hpos : 0 < r.b.length := by
   cases hb : r.b with
   | nil => rw [hb] at h0; exact absurd h0 (by decide)
   | cons p L => simp
  have HRt : Hid (∀ p, r.b[0]? = some p → ∀ W, RmAt W cp bp mb v r → Below w.heap.size w W → Calls Tryz.prog 71 #[.pointer (some ⟨bp, 0, none⟩), .string p.name, .int .i64 (topE r.b + 1)] W fun e w' => e = .returned (.tuple #[.int .i64 0, eV (a 1)]) ∧ BookAt w' bp mb r.b ∧ W.grownBy w' (some mb)) := fun p hp W hW hb => by
   obtain ⟨hk, rfl⟩ := List.getElem?_eq_some_iff.1 hp
   have hm := List.getElem_mem hk
   obtain ⟨f1, f2, _⟩ := err_zero.1 (hg.book.fine _ hm)
   have he : (toP r.b[0] (topE r.b + 1)).err = 2 := by
    have key : ∀ q : Per, Sl.nameL q.nm = true → (1 ≤ q.key ∧ q.key ≤ 1000000006) → 1073741824 < q.epoch → q.err = 2 := fun q g1 g2 g3 => by
     unfold Per.err
     rw [if_pos g1, if_pos g2, if_neg (by omega)]
    exact key _ f1 f2 (by show 1073741824 < max r.b[0].epoch (topE r.b + 1); omega)
   have := raiseTo_err a bp mb r.b r.b[0].name r.b[0] (topE r.b + 1) W hW.book ((HE0.out.below hb).ev _) (small_name (hg.book.fine _ hm)) (getP_of_mem hg.book.rise hm) (by rw [he]; decide)
   rw [he, errV_pos a (by decide)] at this
   exact this
  clear hR hM hB hE hg h0 e1 ht0 ht1
  obtain ⟨n, HLn⟩ : ∃ n, Hid (r.b.length = n) := ⟨_, rfl⟩
  rw [HLn.out] at hfew hpos
  go_enter Tryz.func69, Tryz.ntmps69
  go_wp2_with fail
  refine (HPe.out _ (Below.refl _ _)).mono ?_
  rintro e w2 ⟨v2, rfl, ho2, hb2⟩
  have HB2 := hide hb2
  have HO2 := hide ho2
  clear hb2 ho2
  go_wp2_with fail
  refine (HGr.out _ _ _ HO2.out).mono ?_
  rintro e w3 ⟨rfl, hb3⟩
  have HB3 : Hid (Below w1.heap.size w1 w3) := HB2.out.trans (hb3.mono HB2.out.size)
  clear hb3 HO2 HGr
  go_wp2_with fail
  refine (HPe.out _ HB3.out).mono ?_
  rintro e w4 ⟨v4, rfl, ho4, hb4⟩
  have HB4 : Hid (Below w1.heap.size w1 w4) := HB3.out.trans (hb4.mono HB3.out.size)
  have HO4 := hide ho4
  obtain ⟨ad4, cap4, rfl, hcap4⟩ := row_form ho4
  clear ho4 hb4 HPe
  rw [HLn.out] at hcap4 ⊢
  go_wp2
  go_loopg [16] n (fun g s16 wr => s16 = .int .i64 0 ∧ wr = w4)
  case atStart => exact ⟨rfl, rfl⟩
  case round =>
   obtain ⟨rfl, rfl⟩ := hrel
   obtain ⟨g1, rfl, _, hcs1⟩ := prow_cells HO4.out (by rw [HLn.out]; omega)
   obtain ⟨p, hp⟩ : ∃ p, r.b[0]? = some p := ⟨r.b[0]'(by rw [HLn.out]; exact hpos), List.getElem?_eq_getElem _⟩
   obtain ⟨y0, y1, y2, y3⟩ := hcs1 0 p hp
   simp only [Nat.zero_mul, Nat.zero_add] at y0 y1 y2 y3
   have HRk := hide (HRt.out p hp)
   have HBx : Hid (Below wr.heap.size wr (wr.alloc (.cells #[.string p.name, .int .i64 p.key, .int .i64 p.epoch, .bool p.off] 46)).drew) := ((Below.refl _ wr).alloc (Nat.le_refl _) _).drew
   have HBw : Hid (Below w.heap.size w wr) := HB.out.trans (HB4.out.mono HB.out.size)
   have HFx := hide ((HR.out.below HB4.out).below HBx.out)
   have HRx : Hid ((wr.alloc (.cells #[.string p.name, .int .i64 p.key, .int .i64 p.epoch, .bool p.off] 46)).drew.heap[wr.heap.size]? = some (.cells #[.string p.name, .int .i64 p.key, .int .i64 p.epoch, .bool p.off] 46 (0, 0))) := heap_alloc_new _ _
   have HPx : Hid (Below w.heap.size w (wr.alloc (.cells #[.string p.name, .int .i64 p.key, .int .i64 p.epoch, .bool p.off] 46)).drew) := HBw.out.trans (HBx.out.mono HBw.out.size)
   have c4 := (rp_cells (HR.out.below HB4.out).row).2.2.2.2.1
   have n4 := World.new_ne wr ⟨cp, 4, none⟩ c4
   have c4x : (wr.alloc (.cells #[.string p.name, .int .i64 p.key, .int .i64 p.epoch, .bool p.off] 46)).cell? ⟨cp, 4, none⟩ = some (.pointer (some ⟨bp, 0, none⟩)) := (rp_cells HFx.out.row).2.2.2.2.1
   clear hcs1 hp
   go_upto_region 5 with fail
   go_region_held3 (fun w' => w'.cell? ⟨cp, 4, none⟩ = some (.pointer (some ⟨bp, 0, none⟩)) ∧ w'.cell? ⟨wr.heap.size, 0, none⟩ = some (.string p.name)) (first | go_keep | assumption)
    (first | (go_at_call 71; refine (HRk.out _ HFx.out HPx.out).mono ?_; rintro e w5 ⟨rfl, hk5, hg5⟩; have HF5 : Hid (Below w.heap.size w w5) := HPx.out.grown hg5 HPx.out.size (fun j e => (by cases e; exact HM.out mb (Or.inr (Or.inr (Or.inl rfl))))); have k4 : w5.cell? ⟨cp, 4, none⟩ = some (.pointer (some ⟨bp, 0, none⟩)) := (rp_cells (HFx.out.booked hk5 hg5).row).2.2.2.2.1; have k0 : w5.cell? ⟨wr.heap.size, 0, none⟩ = some (.string p.name) := cell_of_row _ _ 0 _ _ _ ((hg5.block _ (row_lt HRx.out) (fun e => by obtain ⟨es, c2, he⟩ := HFx.out.book.map; cases e; rw [HRx.out] at he; cases he)).trans HRx.out); clear hk5 hg5))
   all_goals
    go_wp2_with fail
    go_ret2
    exact ⟨0, _, rfl, Or.inr (Or.inl ⟨by decide, rfl, rfl⟩), fun hz0 => absurd hz0 (by decide), HF5.out⟩
 ·
  have e1 : r.fluC = r.entC starB (topE r.b + 1) := by unfold Rm.fluC; rw [if_neg h0]
  have e2 : r.entC starB (topE r.b + 1) = 0 → r.fluR = { r with b := allE r.b (topE r.b + 1), l := addL r.l r.time ⟨starB, topE r.b + 1⟩ } := fun hz => by
   unfold Rm.fluR; rw [if_neg h0]; exact entR_yes hz
  rw [e1]
  have HE2 := hide e2
  have HRt : Hid (∀ k p, r.b[k]? = some p → ∀ W, FluAt w W W cp bp mb v r (topE r.b + 1) k → Calls Tryz.prog 71 #[.pointer (some ⟨bp, 0, none⟩), .string p.name, .int .i64 (topE r.b + 1)] W fun e w' => (∃ n', e = .returned (.tuple #[.int .i64 n', .nilIface])) ∧ FluAt w W w' cp bp mb v r (topE r.b + 1) (k + 1))   := fun k p hp W hW => by
   obtain ⟨hk, rfl⟩ := List.getElem?_eq_some_iff.1 hp
   have hn : 1 ≤ topE r.b + 1 ∧ topE r.b + 1 ≤ 1073741824 := by omega
   obtain ⟨g1, g2, g3, g4⟩ := mix_rise hg.book hn k hk hW.mine.book.good (by have := HTp.out.2 _ (List.getElem_mem hk); omega)
   refine (raiseTo_ok a bp mb _ _ r.b[k] (topE r.b + 1) W hW.mine.book ((HE0.out.below hW.past).ev _) (small_name (hg.book.fine _ (List.getElem_mem hk))) g1 g3).mono ?_
   rintro e w' ⟨rfl, hb, hgr⟩
   rw [g4] at hb
   exact ⟨⟨_, rfl⟩, hW.mine.booked hb hgr, hW.past.grown hgr hW.past.size (fun j e => by cases e; exact HM.out mb (Or.inr (Or.inr (Or.inl rfl)))), Kept.of_grown hgr rfl⟩
  have HT : Hid (∀ W, CopyOf w { r with b := allE r.b (topE r.b + 1) } cp W → Calls Tryz.prog 63 #[.pointer (some ⟨cp, 0, none⟩), .string starB, .int .i64 (topE r.b + 1)] W (TellPost a w W { r with b := allE r.b (topE r.b + 1) } cp starB (topE r.b + 1))) := fun W hco =>
   tell_any a w W { r with b := allE r.b (topE r.b + 1) } cp starB (topE r.b + 1) hco HE0.out hg.feed hg.small (by decide)
  have HAll : Hid (mixE r.b (topE r.b + 1) r.b.length = allE r.b (topE r.b + 1)) := mix_all _ _
  clear hR hM hB hE hg h0 e1 e2 ht0 ht1
  obtain ⟨n, HLn⟩ : ∃ n, Hid (r.b.length = n) := ⟨_, rfl⟩
  rw [HLn.out] at HAll hfew
  go_enter Tryz.func69, Tryz.ntmps69
  go_wp2_with fail
  refine (HPe.out _ (Below.refl _ _)).mono ?_
  rintro e w2 ⟨v2, rfl, ho2, hb2⟩
  have HB2 := hide hb2
  have HO2 := hide ho2
  clear hb2 ho2
  go_wp2_with fail
  refine (HGr.out _ _ _ HO2.out).mono ?_
  rintro e w3 ⟨rfl, hb3⟩
  have HB3 : Hid (Below w1.heap.size w1 w3) := HB2.out.trans (hb3.mono HB2.out.size)
  clear hb3 HO2 HGr
  go_wp2_with fail
  refine (HPe.out _ HB3.out).mono ?_
  rintro e w4 ⟨v4, rfl, ho4, hb4⟩
  have HF4 : Hid (FluAt w w4 w4 cp bp mb v r (topE r.b + 1) 0) := by
   have hbb := HB3.out.trans (hb4.mono HB3.out.size)
   exact ⟨by rw [mix_zero]; exact HR.out.below hbb, HB.out.trans (hbb.mono HB.out.size), Kept.refl _ _⟩
  have HO4 := hide ho4
  obtain ⟨ad4, cap4, rfl, hcap4⟩ := row_form ho4
  have HMp := hide HF4.out.mine.book.map
  clear ho4 hb4 HPe
  rw [HLn.out] at hcap4 ⊢
  go_wp2
  go_loopg [16] n (fun g s16 wr => ∃ k : Nat, k ≤ n ∧ n - k ≤ g ∧ s16 = .int .i64 k ∧ Hid (FluAt w w4 wr cp bp mb v r (topE r.b + 1) k))
  case atStart => exact ⟨0, Nat.zero_le _, by omega, rfl, HF4⟩
  case round =>
   obtain ⟨k, hk, hgk, rfl, HF⟩ := hrel
   by_cases hlt : k < n
   ·
    have hkL : k < r.b.length := by rw [HLn.out]; exact hlt
    have hOw := HF.out.own HMp.out HO4.out
    obtain ⟨g1, rfl, _, hcs1⟩ := prow_cells hOw (by omega)
    obtain ⟨p, hp⟩ : ∃ p, r.b[k]? = some p := ⟨r.b[k], List.getElem?_eq_getElem _⟩
    obtain ⟨y0, y1, y2, y3⟩ := hcs1 k p hp
    have HRk := hide (HRt.out k p hp)
    have HBx : Hid (Below wr.heap.size wr (wr.alloc (.cells #[.string p.name, .int .i64 p.key, .int .i64 p.epoch, .bool p.off] 46)).drew) := ((Below.refl _ wr).alloc (Nat.le_refl _) _).drew
    have HFx := hide (HF.out.below HBx.out)
    have HRx : Hid ((wr.alloc (.cells #[.string p.name, .int .i64 p.key, .int .i64 p.epoch, .bool p.off] 46)).drew.heap[wr.heap.size]? = some (.cells #[.string p.name, .int .i64 p.key, .int .i64 p.epoch, .bool p.off] 46 (0, 0))) := heap_alloc_new _ _
    have c4 := (rp_cells HF.out.mine.row).2.2.2.2.1
    have n4 := World.new_ne wr ⟨cp, 4, none⟩ c4
    have c4x : (wr.alloc (.cells #[.string p.name, .int .i64 p.key, .int .i64 p.epoch, .bool p.off] 46)).cell? ⟨cp, 4, none⟩ = some (.pointer (some ⟨bp, 0, none⟩)) := (rp_cells HFx.out.mine.row).2.2.2.2.1
    clear hOw hcs1 hp hkL
    go_upto_region 5 with fail
    go_region_held3 (fun w' => w'.cell? ⟨cp, 4, none⟩ = some (.pointer (some ⟨bp, 0, none⟩)) ∧ w'.cell? ⟨wr.heap.size, 0, none⟩ = some (.string p.name)) (first | go_keep | assumption)
     (first | (go_at_call 71; refine (HRk.out _ ⟨HFx.out.mine, HFx.out.past, Kept.refl _ _⟩).mono ?_; rintro e w5 ⟨⟨n5, rfl⟩, hf5⟩; have HF5 : Hid (FluAt w w4 w5 cp bp mb v r (topE r.b + 1) (k + 1)) := ⟨hf5.mine, hf5.past, HFx.out.kept.trans hf5.kept⟩; have k4 : w5.cell? ⟨cp, 4, none⟩ = some (.pointer (some ⟨bp, 0, none⟩)) := (rp_cells hf5.mine.row).2.2.2.2.1; have k0 : w5.cell? ⟨wr.heap.size, 0, none⟩ = some (.string p.name) := cell_of_row _ _ 0 _ _ _ (hf5.row HFx.out.mine.book.map HRx.out); clear hf5))
    all_goals
     go_wp2_with fail
     go_roundg (n - (k + 1))
     case measure => omega
     case rel => exact ⟨k + 1, by omega, Nat.le_refl _, by go_num, HF5⟩
   ·
    have hke : k = n := by omega
    subst hke
    have HCp : Hid (CopyOf w { r with b := allE r.b (topE r.b + 1) } cp wr) := by
     have := HF.out.mine
     rw [HAll.out] at this
     exact ⟨bp, mb, v, this, HM.out, HF.out.past⟩
    go_wp2_with fail
    refine (HT.out _ HCp.out).mono ?_
    rintro e w6 ⟨⟨ev, rfl, he⟩, hz, hb, _⟩
    have HY : Hid (EvP a w6 (r.entC starB (topE r.b + 1)) ev ∧ (r.entC starB (topE r.b + 1) = 0 → CopyOf w r.fluR cp w6) ∧ Below w.heap.size w w6) := ⟨he, fun hz0 => by rw [HE2.out hz0]; exact hz hz0, hb⟩
    clear he hz hb
    go_wp2
    go_ret2
    exact ⟨topE r.b + 1, ev, rfl, HY.out.1, fun hz0 => ⟨rfl, HY.out.2.1 hz0⟩, HY.out.2.2⟩
set_option maxRecDepth 100000 in
set_option maxHeartbeats 4000000 in
theorem rpFlush_any (a : Nat → Addr) (rp bp mb : Nat) (v : Value) (r : Rm) (w : World) (h : RmAt w rp bp mb v r) (hg : GoodR r) (hE : Errs a w) :
  Calls Tryz.prog 22 #[.pointer (some ⟨rp, 0, none⟩)] w (TryPost a rp bp mb v w (topE r.b + 1) r.fluC r.fluR) := by
 have HT := hide (try_any a 69 #[] (enters_of Tryz.func69 (by kernel_rfl) rfl) rp bp mb v r r.fluR (topE r.b + 1) r.fluC w h (Nat.le_trans hg.few (by decide)) (flush_change a r w hg hE))
 have HX : Hid (∀ e w', TryPost a rp bp mb v w (topE r.b + 1) r.fluC (if r.fluC = 0 then r.fluR else r) e w' → TryPost a rp bp mb v w (topE r.b + 1) r.fluC r.fluR e w') := fun e w' ⟨h1, h2⟩ => by
  refine ⟨h1, ?_⟩
  by_cases h0 : r.fluC = 0
  ·
   rw [if_pos h0] at h2; exact h2
  ·
   rw [if_neg h0] at h2; rw [flu_no h0]; exact h2
 clear h hg hE
 generalize r.fluR = r1 at *
 generalize r.fluC = c at *
 generalize topE r.b + 1 = n at *
 go_enter Tryz.func22, Tryz.ntmps22
 go_wp2_with fail
 refine HT.out.mono ?_
 rintro e w1 hp
 obtain ⟨⟨ev, rfl, he⟩, hq⟩ := HX.out _ _ hp
 have HY : Hid (EvP a w1 c ev ∧ PPost w rp bp mb v r1 w1) := ⟨he, hq⟩
 clear hp he hq HX HT
 go_wp2
 go_ret2
 exact ⟨⟨ev, rfl, HY.out.1⟩, HY.out.2⟩
end Go.Proofs.YtabpnjchocgakaaGreatDoor

namespace Go.Proofs.YtabpnjchocgakaaGreatDoor
open Go.RowKit Go.Extern.Stop Go.Stop Go.Extern
theorem Tryz.infoStringG : (Tryz.prog.info? 9).map (fun i => (i.zero, i.size, i.bytes)) = some (some (.string ByteArray.empty), 1, 16) := by kernel_rfl
abbrev bytesL (xs : List ByteArray) : List (List UInt8) := xs.map (·.data.toList)
theorem bytes_txt (ws : List (List UInt8)) : bytesL (ws.map txt) = ws := by
 unfold bytesL
 rw [List.map_map]
 exact (List.map_congr_left (fun x _ => rfl)).trans (List.map_id _)
def cellsW (o : List (List UInt8)) : List Value := o.map fun l => .string (txt l)
theorem cellsW_len (o : List (List UInt8)) : (cellsW o).length = o.length := by simp [cellsW]
theorem cellsW_snoc (o : List (List UInt8)) (s : ByteArray) : cellsW o ++ [.string s] = cellsW (o ++ [s.data.toList]) := by
 simp only [cellsW, List.map_append, List.map_cons, List.map_nil, txt_back]
theorem owns_words {w : World} {base : Nat} {v : Value} {n : Nat} {o : List (List UInt8)} (h : w.ownsRow base 9 1 v n (cellsW o)) (hn : o ≠ []) :
  ∃ b cap, v = .slice (some ⟨b, 0, none⟩) o.length cap ∧ o.length ≤ cap ∧ Texts w b 0 (o.map txt) := by
 have hlen := h.1
 rw [cellsW_len, Nat.mul_one] at hlen
 subst hlen
 rcases h.2 with ⟨_, h0⟩ | ⟨g, cap, cur, rfl, _, hg, hc, _, _, ht⟩
 ·
  exact absurd (List.length_eq_zero_iff.1 h0) hn
 ·
  refine ⟨g, cap, rfl, hc, fun j hj => ?_⟩
  rw [Nat.zero_add, cell_of_row w g j cur _ _ hg]
  have hj2 : j < o.length := by simpa using hj
  have e1 : (cellsW o)[j]? = some (.string (o.map txt)[j]) := by
   unfold cellsW
   rw [List.getElem?_map, List.getElem?_eq_getElem hj2, List.getElem_map]
   rfl
  rw [← ht, List.getElem?_take] at e1
  split at e1
  ·
   simpa using e1
  ·
   cases e1
/-! ### Glue -/
theorem joinc_append_le (c : UInt8) : ∀ (b a : List (List UInt8)), (Lib.join a [c]).length ≤ (Lib.join (a ++ b) [c]).length
 | [], a => by rw [List.append_nil]; exact Nat.le_refl _
 | x :: b, a => by
  have ih := joinc_append_le c b (a ++ [x])
  rw [List.append_assoc] at ih
  refine Nat.le_trans ?_ ih
  by_cases ha : a = []
  ·
   subst ha
   rw [Lib.join_nil]
   exact Nat.zero_le _
  ·
   rw [join_snocc c x a ha, List.length_append]
   omega
theorem joinc_take_le (c : UInt8) (ws : List (List UInt8)) (k : Nat) : (Lib.join (ws.take k) [c]).length ≤ (Lib.join ws [c]).length := by
 have := joinc_append_le c (ws.drop k) (ws.take k)
 rwa [List.take_append_drop] at this
theorem joinc_next (c : UInt8) (xs : List ByteArray) (k : Nat) (hk : k < xs.length) :
  (k = 0 → txt (Lib.join ((bytesL xs).take k) [c]) ++ xs[k] = txt (Lib.join ((bytesL xs).take (k + 1)) [c])) ∧
  (k ≠ 0 → txt (Lib.join ((bytesL xs).take k) [c]) ++ ⟨#[c]⟩ ++ xs[k] = txt (Lib.join ((bytesL xs).take (k + 1)) [c])) := by
 have hkl : k < (bytesL xs).length := by simpa using hk
 have ht : (bytesL xs).take (k + 1) = (bytesL xs).take k ++ [xs[k].data.toList] := by
  rw [List.take_succ_eq_append_getElem hkl, List.getElem_map]
 refine ⟨fun h => ?_, fun h => ?_⟩
 ·
  refine Sl.ba_ext ?_
  rw [ba_toList, txt_list, txt_list, ht]
  subst h
  show Lib.join [] [c] ++ _ = Lib.join ([] ++ [xs[0].data.toList]) [c]
  rw [List.nil_append, Lib.join_one, Lib.join_nil]
  rfl
 ·
  refine Sl.ba_ext ?_
  rw [ba_toList, ba_toList, txt_list, txt_list, ht]
  have hne : (bytesL xs).take k ≠ [] := by
   intro e
   have := congrArg List.length e
   rw [List.length_take, List.length_nil] at this
   omega
  rw [join_snocc c _ _ hne]
  simp
theorem textc_le (c : UInt8) (xs : List ByteArray) (k : Nat) (hk : k < xs.length) : xs[k].size ≤ (Lib.join (bytesL xs) [c]).length := by
 have h1 := joinc_take_le c (bytesL xs) (k + 1)
 obtain ⟨a, b⟩ := joinc_next c xs k hk
 have e1 := txt_size (Lib.join ((bytesL xs).take (k + 1)) [c])
 by_cases h0 : k = 0
 ·
  have := congrArg ByteArray.size (a h0)
  rw [ByteArray.size_append, e1] at this
  omega
 ·
  have := congrArg ByteArray.size (b h0)
  rw [ByteArray.size_append, ByteArray.size_append, e1] at this
  omega
set_option maxRecDepth 100000 in
set_option maxHeartbeats 1000000 in
theorem refGlueC_any (xs : List ByteArray) (b o n c : Nat) (w : World) (hl : xs.length = n) (hn : n ≤ 100000) (hx : Texts w b o xs) (hg : (Lib.join (bytesL xs) [44]).length ≤ 6000) :
  Calls Tryz.prog 143 #[.slice (some ⟨b, o, none⟩) n c, .string ⟨#[44]⟩] w fun e w' => e = .returned (.string (txt (Lib.join (bytesL xs) [44]))) ∧ w' = w := by
 have HX := hide hx
 have HL := hide hl
 have HG := hide hg
 clear hx hl hg
 go_enter Tryz.func143, Tryz.ntmps143
 go_wp2
 go_loop [5, 6] (fun sv i => ∃ k : Nat, k ≤ n ∧ i = .int .i64 k ∧ sv = .string (txt (Lib.join ((bytesL xs).take k) [44]))) (fun _ i => n - (intOf i).toNat)
 case atStart => exact ⟨0, Nat.zero_le _, rfl, rfl⟩
 case round =>
  obtain ⟨k, hk, rfl, rfl⟩ := hrel
  by_cases hlt : k < n
  ·
   have hkl : k < xs.length := by rw [HL.out]; exact hlt
   have hcell := HX.out k hkl
   have hsz : (txt (Lib.join ((bytesL xs).take k) [44])).size ≤ 6000 := by rw [txt_size]; exact Nat.le_trans (joinc_take_le _ _ _) HG.out
   have hyz : xs[k].size ≤ 6000 := Nat.le_trans (textc_le 44 xs k hkl) HG.out
   have HN := hide (joinc_next 44 xs k hkl)
   generalize txt (Lib.join ((bytesL xs).take k) [44]) = g at *
   generalize xs[k] = y at *
   by_cases h0 : k = 0
   ·
    subst h0
    have HN0 := hide (HN.out.1 rfl)
    rw [Nat.add_zero] at hcell
    clear HN
    go_wp2
    go_round
    case rel => exact ⟨1, by omega, rfl, by rw [← HN0.out]⟩
    case measure => simp [intOf]; omega
   ·
    have HN0 := hide (HN.out.2 h0)
    have h0' : (0 : Int) < (k : Int) := by omega
    clear HN
    go_wp2
    go_round
    case rel => exact ⟨k + 1, by omega, by go_num, by rw [← HN0.out]⟩
    case measure => simp [intOf]; omega
  ·
   have hkn : (bytesL xs).take k = bytesL xs := List.take_of_length_le (by rw [List.length_map, HL.out]; omega)
   rw [hkn]
   clear hkn
   go_wp2
   go_ret
   exact ⟨rfl, rfl⟩
/-! ### Cut -/
end Go.Proofs.YtabpnjchocgakaaGreatDoor
namespace Go.Proofs.YtabpnjchocgakaaGreatDoor
open Go
end Go.Proofs.YtabpnjchocgakaaGreatDoor

namespace Go.Proofs.YtabpnjchocgakaaGreatDoor
open Go.RowKit Go.Extern.Stop Go.Stop Go.Extern Go.Proofs
theorem ownsRow_keep {w w' : World} {B t k n : Nat} {v : Value} {cs : List Value} (h : w.ownsRow B t k v n cs) (hb : Below w.heap.size w w') : w'.ownsRow B t k v n cs := by
 refine ⟨h.1, ?_⟩
 rcases h.2 with g | ⟨g, cap, cur, rfl, hB, hg, hc, hm, hs, ht⟩
 ·
  exact Or.inl g
 ·
  exact Or.inr ⟨g, cap, cur, rfl, hB, (hb.block g (row_lt hg)).trans hg, hc, hm, hs, ht⟩
theorem one_txt (f : Fl) : f.who ++ ⟨#[58]⟩ ++ txt (Lib.decDigits f.ep.toNat) = txt (oneT f) := by
 refine Sl.ba_ext ?_
 rw [ba_toList, ba_toList, txt_list, txt_list]
 unfold oneT Fl.nm
 simp
theorem fltCode (a b : Int) (w : World) : (Instr.field 98 (.agg #[.int .i64 a, .int .i64 b]) 0).run Tryz.prog w = .ok (.int .i64 a) w := by kernel_rfl
attribute [local go_sem] Oper.semAt_some
set_option maxRecDepth 100000 in
set_option maxHeartbeats 4000000 in
theorem refText_any (v : Value) (l : List Fl) (w : World) (hv : FlAt w v l) (hr : RightF l) (hl : l.length ≤ 21) :
  Calls Tryz.prog 146 #[v] w fun e w' => e = .returned (.string (txt (textL l))) ∧ Below w.heap.size w w' := by
 obtain ⟨ad, cap, rfl, hcap⟩ := hv.form
 by_cases h0 : l = []
 ·
  subst h0
  show Calls Tryz.prog 146 #[.slice ad 0 cap] w _
  have HT : Hid (txt (textL []) = ⟨#[45]⟩) := rfl
  rw [HT.out]
  clear HT hr hl hv hcap
  go_enter Tryz.func146, Tryz.ntmps146
  go_wp2
  go_ret
  exact ⟨rfl, Below.refl _ _⟩
 ·
  have HT : Hid (textL l = Lib.join (l.map oneT) [44]) := if_neg h0
  have hlen : 0 < l.length := List.length_pos_iff.2 h0
  have HNe : Hid (l.map oneT ≠ []) := by show _ ≠ _; simpa using h0
  have HG : Hid (∀ b c W, Texts W b 0 ((l.map oneT).map txt) → Calls Tryz.prog 143 #[.slice (some ⟨b, 0, none⟩) l.length c, .string ⟨#[44]⟩] W fun e w' => e = .returned (.string (txt (textL l))) ∧ w' = W) := fun b c W hx => by
   have := refGlueC_any ((l.map oneT).map txt) b 0 l.length c W (by simp) (by omega) hx (by
    rw [bytes_txt]
    have h1 := text_sizeS hr hl
    rw [HT.out] at h1
    omega)
   rw [bytes_txt] at this
   rw [HT.out]
   exact this
  obtain ⟨i0, hi, hz0, hz1, hz2⟩ := info_parts Tryz.infoStringG
  have HV := hide hv
  have HR := hide hr
  rw [HT.out] at HG
  rw [HT.out]
  generalize Lib.join (l.map oneT) [44] = tx at *
  generalize hn : l.length = n at *
  have HN := hide hn
  have hnz : ((n : Int) == 0) = false := by rw [beq_eq_false_iff_ne]; omega
  have hnz2 : ¬ (n : Int) = 0 := by omega
  clear h0 hn hv hr HT
  go_enter Tryz.func146, Tryz.ntmps146
  go_wp2
  go_loopg [3, 4] n (fun gg sv iv wr => ∃ k : Nat, k ≤ n ∧ n - k ≤ gg ∧ iv = .int .i64 k ∧ Hid (wr.ownsRow w.heap.size 9 1 sv k (cellsW ((l.map oneT).take k))) ∧ Hid (Below w.heap.size w wr))
  case atStart => exact ⟨0, Nat.zero_le _, Nat.le_refl _, rfl, (show Hid _ from World.ownsRow_nil _ _ _ _), (show Hid _ from Below.refl _ _)⟩
  case round =>
   obtain ⟨k, hk, hgg, rfl, HOwn, HBr⟩ := hrel
   by_cases hlt : k < n
   ·
    have hkl : k < l.length := by rw [HN.out]; exact hlt
    have hvr := HV.out.below HBr.out
    rw [← HN.out] at hvr
    obtain ⟨b, off, cap', e, hc', hb, hcell⟩ := hvr.at (by omega)
    injection e with e1 e2 e3
    subst e1; subst e3
    obtain ⟨c0, c1⟩ := hcell k hkl
    have hltz : (k : Int) < (n : Int) := by omega
    have HCk : Hid (∀ W, Below wr.heap.size wr W → W.cell? ⟨b, off + k * 2, none⟩ = some (.string (l[k]'hkl).who) ∧ W.cell? ⟨b, off + k * 2 + 1, none⟩ = some (.int .i64 (l[k]'hkl).ep)) := fun W hbW => ⟨by rw [hbW.cell (p := ⟨b, off + k * 2, none⟩) hb]; exact (hcell k hkl).1, by rw [hbW.cell (p := ⟨b, off + k * 2 + 1, none⟩) hb]; exact (hcell k hkl).2⟩
    have hone := HR.out.one _ (List.getElem_mem hkl)
    have hep := one_pos hone
    have hws : (l[k]'hkl).who.size ≤ 8 := by
     have := nm_len hone
     have e : (l[k]'hkl).nm.length = (l[k]'hkl).who.size := by unfold Fl.nm; simp
     omega
    have HDc := hide (fun w => refDecimal_any (l[k]'hkl).ep.toNat (by omega) w)
    rw [show (((l[k]'hkl).ep.toNat : Nat) : Int) = (l[k]'hkl).ep by omega] at HDc
    have HTx := hide (one_txt (l[k]'hkl))
    have hds : (Sl.ofL (Lib.decDigits (l[k]'hkl).ep.toNat)).size ≤ 10 := dec_size _ (by omega)
    change Hid ((l[k]'hkl).who ++ ⟨#[58]⟩ ++ Sl.ofL (Lib.decDigits (l[k]'hkl).ep.toNat) = txt (oneT (l[k]'hkl))) at HTx
    have HTk : Hid ((l.map oneT).take (k + 1) = (l.map oneT).take k ++ [oneT (l[k]'hkl)]) := by show _ = _; rw [List.take_succ_eq_append_getElem (by rw [List.length_map]; exact hkl), List.getElem_map]
    clear hcell hvr hc' hone hep
    generalize Sl.ofL (Lib.decDigits (l[k]'hkl).ep.toNat) = dg at *
    generalize oneT (l[k]'hkl) = ot at *
    generalize (l[k]'hkl).who = who at *
    generalize (l[k]'hkl).ep = ep at *
    have HBd : Hid (Below wr.heap.size wr wr.drew) := (Below.refl _ _).drew
    have d0 : wr.drew.cell? ⟨b, off + k * 2, none⟩ = some (.string who) := c0
    have d1 : wr.drew.cell? ⟨b, off + k * 2 + 1, none⟩ = some (.int .i64 ep) := c1
    go_wp2_with fail
    go_region_held (fun w' => w'.cell? ⟨b, off + k * 2, none⟩ = some (.string who) ∧ w'.cell? ⟨b, off + k * 2 + 1, none⟩ = some (.int .i64 ep)) (go_keep)
     (first | (go_at_call 25; refine (HDc.out wr.drew).mono ?_; rintro e w2 ⟨rfl, hb2⟩; have HB2 : Hid (Below wr.heap.size wr w2) := HBd.out.trans hb2; have e0 := (HCk.out w2 HB2.out).1; have e1 := (HCk.out w2 HB2.out).2; clear hb2 HDc))
    all_goals
     have HO2 := hide (ownsRow_keep HOwn.out HB2.out)
     have HBw : Hid (Below w.heap.size w w2) := HBr.out.trans (HB2.out.mono HBr.out.size)
     clear c0 c1 d0 d1 e0 e1 HCk HBd HB2 HBr HOwn
     go_wp2_with (first
      | (at_builtin; refine wpList_append_own _ rfl _ _ 106 rfl w.heap.size 9 i0 (.string ByteArray.empty) 1 16 Tryz.underlying106 hi hz0 hz1 hz2 rfl (by decide) _ _ _ rfl (HO2.out.alloc _) ⟨w2.heap.size, 0, none⟩ 1 1 [.string (who ++ ⟨#[58]⟩ ++ dg)] rfl rfl ?c1 ?c2 ?c3 ?c4 ?c5 ?_))
     case c1 =>
      intro j u hj
      match j, hj with
      | 0, hj => simp at hj; subst hj; simp [Addr.add]
     case c2 => intro u hu; simp at hu; subst hu; rfl
     case c3 => unfold maxLen; omega
     case c4 => omega
     case c5 => have := HBw.out.size; simp; omega
     ·
      intro v' w3 hown' hgrow _
      have HB3 : Hid (Below w.heap.size w w3) := (HBw.out.alloc HBw.out.size _).grown hgrow (by have := HBw.out.size; simp; omega) (fun g hg => (HO2.out.lt g hg).1)
      have HO3 : Hid (w3.ownsRow w.heap.size 9 1 v' (k + 1) (cellsW ((l.map oneT).take (k + 1)))) := by
       rw [HTx.out, cellsW_snoc, txt_list, ← HTk.out] at hown'
       exact hown'
      clear hown' hgrow HO2 HBw
      go_wp2
      go_roundg (n - (k + 1))
      case measure => omega
      case rel => exact ⟨k + 1, by omega, Nat.le_refl _, by go_num, HO3, HB3⟩
   ·
    have hkn : k = n := by omega
    subst hkn
    have hltz : ¬ (k : Int) < (k : Int) := by omega
    have hown := HOwn.out
    rw [List.take_of_length_le (by rw [List.length_map, HN.out]; exact Nat.le_refl _)] at hown
    obtain ⟨bb, cc, hve, hcap2, htx⟩ := owns_words hown HNe.out
    rw [List.length_map, HN.out] at hve
    subst hve
    have HX := hide htx
    clear hown hcap2 htx HOwn
    go_wp2_with fail
    refine (HG.out _ _ _ HX.out).mono ?_
    rintro e w2 ⟨rfl, rfl⟩
    go_wp2
    go_ret
    exact ⟨rfl, HBr.out⟩
set_option maxRecDepth 100000 in
set_option maxHeartbeats 2000000 in
theorem refSum_any (v : Value) (l : List Fl) (w : World) (hv : FlAt w v l) (hs : ∀ f ∈ l, f.who.size ≤ maxLen) (hl : l.length ≤ 1000000) :
  Calls Tryz.prog 99 #[v] w fun e w' => e = .returned (.int .i64 (sumL l)) ∧ Below w.heap.size w w' := by
 have HF := hide (refFault_any v l w hv hs hl)
 have HV := hide hv
 by_cases h0 : (checkL l).1 = 0
 ·
  have HS : Hid (sumL l = moreN 1 1 (textL l)) := if_pos h0
  obtain ⟨hr, h21⟩ := right_of_check h0
  have HT := hide (fun w h => refText_any v l w h hr h21)
  have HO := hide (fun w => refOf_any 1 (txt (textL l)) w (by rw [txt_size]; have := text_sizeS hr h21; unfold maxLen; omega))
  rw [txt_list] at HO
  have hz : ¬ (0 : Int) < ((checkL l).1 : Int) := by omega
  rw [HS.out]
  clear HS hr h21 hv hs hl h0
  generalize moreN 1 1 (textL l) = m at *
  generalize moreE 1 1 = me at *
  generalize textL l = t at *
  generalize checkL l = c at *
  unfold fltV at HF
  have hfd := fun w => fltCode (c.1 : Int) c.2 w
  go_enter Tryz.func99, Tryz.ntmps99
  go_wp2_with fail
  refine HF.out.mono ?_
  rintro e w1 ⟨rfl, hb⟩
  have HB1 := hide hb
  clear hb HF
  go_wp2_with fail
  refine (HT.out _ (HV.out.below HB1.out)).mono ?_
  rintro e w2 ⟨rfl, hb⟩
  have HB2 : Hid (Below w.heap.size w w2) := HB1.out.trans (hb.mono HB1.out.size)
  clear hb HB1 HT HV
  go_wp2_with fail
  refine (HO.out _).mono ?_
  rintro e w3 ⟨rfl, rfl⟩
  go_wp2
  go_ret
  exact ⟨rfl, HB2.out⟩
 ·
  have HS : Hid (sumL l = 0) := if_neg h0
  have hz : (0 : Int) < ((checkL l).1 : Int) := by omega
  rw [HS.out]
  clear HS hv hs hl h0
  generalize checkL l = c at *
  unfold fltV at HF
  have hfd := fun w => fltCode (c.1 : Int) c.2 w
  go_enter Tryz.func99, Tryz.ntmps99
  go_wp2_with fail
  refine HF.out.mono ?_
  rintro e w1 ⟨rfl, hb⟩
  go_wp2
  go_ret
  exact ⟨rfl, hb⟩
def headX (key : Int) (l : List En) (time : Int) : ByteArray := if (headC key l time).1 = 0 then txt (headT key l time) else ⟨#[]⟩
set_option maxRecDepth 100000 in
set_option maxHeartbeats 8000000 in
theorem refHead_any (key : Int) (v : Value) (l : List En) (time : Int) (w : World) (hv : EnAt w v l) (hs : ∀ e ∈ l, e.fl.who.size ≤ maxLen) (hl : l.length ≤ 100000) :
  Calls Tryz.prog 47 #[.int .i64 key, v, .int .i64 time] w fun e w' => e = .returned (.tuple #[.string (headX key l time), fltV (headC key l time)]) ∧ Below w.heap.size w w' := by
 have HB0 : Hid (Below w.heap.size w (w.alloc flt0)) := (Below.refl _ _).alloc (Nat.le_refl _) _
 have HR0 : Hid ((w.alloc flt0).heap[w.heap.size]? = some flt0) := heap_alloc_new _ _
 have HKy := hide (fun w => refKey_any key w)
 have HFl := hide (fun w h => refFloors_any v l w h hs (by omega))
 have HBare := hide (fun c w => bare_any c w)
 have HV := hide hv
 have HHX : Hid (headX key l time = if (headC key l time).1 = 0 then txt (headT key l time) else ⟨#[]⟩) := rfl
 by_cases hk : 1 ≤ key ∧ key ≤ 1000000006
 ·
  rw [decide_eq_true hk] at HKy
  have hC : headC key l time = (if (floorsC l).1 = 0 then (if (0 ≤ time ∧ time ≤ 1000000) ∧ newL l ≤ time then (0, -1) else (2, -1)) else floorsC l) := if_pos hk
  have hcz : ((floorsC l).1 = 0 ∧ ((floorsC l).1 : Int) = 0 ∧ (floorsC l).2 = -1) ∨ ((floorsC l).1 ≠ 0 ∧ (0 : Int) < ((floorsC l).1 : Int)) := by
   by_cases h : (floorsC l).1 = 0
   ·
    refine Or.inl ⟨h, by omega, ?_⟩
    obtain ⟨h1, h2⟩ := floors_zero h
    rw [(floors_some h1 h2).1]
   ·
    exact Or.inr ⟨h, by omega⟩
  have HLast : Hid (∀ W, Below w.heap.size w W → (l.length = 0 ∧ newL l = 0) ∨ ∃ m b off cap, l.length = m + 1 ∧ v = .slice (some ⟨b, off, none⟩) l.length cap ∧ W.cell? ⟨b, off + m * 4 + 1, none⟩ = some (.int .i64 (newL l))) := fun W hb => by
   by_cases hn : 0 < l.length
   ·
    obtain ⟨m, hm⟩ : ∃ m, l.length = m + 1 := ⟨l.length - 1, by omega⟩
    obtain ⟨b, off, cap, e, _, _, _, hcell⟩ := (hv.below hb).at hn
    exact Or.inr ⟨m, b, off, cap, hm, e, by rw [newL_last hm]; exact (hcell m (by omega)).2.1⟩
   ·
    exact Or.inl ⟨by omega, by rw [List.length_eq_zero_iff.1 (show l.length = 0 by omega)]; rfl⟩
  have HSm := hide (fun v w hv => refSum_any v (floorsR l) w hv (small_floors hs) (by have := (floors_right l).2; omega))
  obtain ⟨hs0, hs1⟩ := sum_bd (floorsR l)
  have HDn := hide (fun w => refDecimal_any l.length (by omega) w)
  have HDs := hide (fun w => refDecimal_any (sumL (floorsR l)).toNat (by omega) w)
  rw [Int.toNat_of_nonneg hs0] at HDs
  have HDt : Hid (0 ≤ time → time ≤ 1000000 → ∀ w, Calls Tryz.prog 25 #[.int .i64 time] w fun e w' => e = .returned (.string (Sl.ofL (Lib.decDigits time.toNat))) ∧ Below w.heap.size w w') := fun h1 h2 w => by
   have := refDecimal_any time.toNat (by omega) w
   rw [Int.toNat_of_nonneg h1] at this
   exact this
  have HSl : Hid ((0 ≤ time ∧ time ≤ 1000000) → (floorsC l).1 = 0 → ∀ b w, Texts w b 0 [Sl.ofL headL, Sl.ofL (Lib.decDigits l.length), Sl.ofL (Lib.decDigits time.toNat), Sl.ofL (Lib.decDigits (sumL (floorsR l)).toNat)] → Calls Tryz.prog 98 #[.int .i64 key, .slice (some ⟨b, 0, none⟩) 4 4] w fun e w' => e = .returned (.tuple #[.string (txt (headT key l time)), .agg #[.int .i64 0, .int .i64 (-1)]]) ∧ Below w.heap.size w w') := fun h1 h2 b w hx =>
   sealOf_ok key b 0 4 4 [Sl.ofL headL, Sl.ofL (Lib.decDigits l.length), Sl.ofL (Lib.decDigits time.toNat), Sl.ofL (Lib.decDigits (sumL (floorsR l)).toNat)] w hk hx rfl (headW_ok (l.length : Int) time (sumL (floorsR l)) (by have := (feed_zero (floors_zero h2).1).1; omega) (by omega) (by omega))
  obtain ⟨ad, cap, rfl, hcap⟩ := hv.form
  clear hv hs hk hs0 hs1
  generalize Sl.ofL (Lib.decDigits l.length) = dn at *
  generalize Sl.ofL (Lib.decDigits time.toNat) = dt at *
  generalize Sl.ofL (Lib.decDigits (sumL (floorsR l)).toNat) = ds at *
  generalize headX key l time = hx at *
  generalize headC key l time = hc at *
  generalize txt (headT key l time) = tx at *
  generalize floorsR l = fr at *
  generalize sumL fr = sm at *
  generalize hn : l.length = n at *
  clear hn
  go_enter Tryz.func47, Tryz.ntmps47
  go_wp2_with fail
  refine (HKy.out _).mono ?_
  rintro e w1 ⟨rfl, rfl⟩
  go_wp2_with fail
  refine (HFl.out _ (HV.out.below HB0.out)).mono ?_
  rintro e w2 ⟨⟨v2, rfl, hfl⟩, hb⟩
  have HB2 : Hid (Below w.heap.size w w2) := HB0.out.trans (hb.mono HB0.out.size)
  have HR2 : Hid (w2.heap[w.heap.size]? = some flt0) := (hb.block _ (row_lt HR0.out)).trans HR0.out
  have HF2 := hide hfl
  unfold fltV
  clear hb hfl HB0 HR0 HFl HKy
  have HCz := hide hcz
  generalize hfz : ((floorsC l).1 : Int) = fz at *
  generalize hfa : (floorsC l).2 = fa at *
  have HFz := hide hfz
  have HFa := hide hfa
  clear hfz hfa
  have HB3 : Hid (Below w.heap.size w (w2.alloc (fltO fz fa))) := HB2.out.alloc HB2.out.size _
  have HR3 : Hid ((w2.alloc (fltO fz fa)).heap[w.heap.size]? = some flt0) := (heap_alloc_old w2 _ (row_lt HR2.out)).trans HR2.out
  have HG3 : Hid ((w2.alloc (fltO fz fa)).heap[w2.heap.size]? = some (fltO fz fa)) := heap_alloc_new _ _
  have HF3 : Hid (FlAt (w2.alloc (fltO fz fa)) v2 fr) := HF2.out.below ((Below.refl _ _).alloc (Nat.le_refl _) _)
  go_upto_region 5 with fail
  obtain ⟨W3, hW3⟩ : ∃ W, w2.alloc (.cells #[.int .i64 fz, .int .i64 fa] 98) = W := ⟨_, rfl⟩
  rw [hW3] at HB3 HR3 HG3 HF3 ⊢
  generalize hgb : w2.heap.size = gb at *
  clear hW3 hgb HB2 HR2 HF2
  obtain ⟨g0, g1, _, _⟩ := flt_row HG3.out
  obtain ⟨c0, c1, z0, z1⟩ := flt_row HR3.out
  rcases HCz.out with ⟨h0, hz, ha⟩ | ⟨h0, hz⟩
  ·
   subst hz
   subst ha
   rw [if_pos h0] at hC
   have HSl2 := hide (fun h => HSl.out h h0)
   clear h0 HCz HFz HFa HSl
   by_cases ht : 0 ≤ time ∧ time ≤ 1000000
   ·
    by_cases hnw : newL l ≤ time
    ·
     rw [if_pos ⟨ht, hnw⟩] at hC
     have HC := hide hC
     have HDt2 := hide (HDt.out ht.1 ht.2)
     have HSl3 := hide (HSl2.out ht)
     have ht1 : ¬ time < 0 := by omega
     have ht2 : ¬ 1000000 < time := by omega
     have hnz : ¬ time < newL l := by omega
     clear hC HDt HSl2 HBare
     generalize newL l = nw at *
     go_upto_if 34 with fail
     go_cut [43] (fun _ wc => W3 = wc)
     case first =>
      rcases HLast.out W3 HB3.out with ⟨hn0, _⟩ | ⟨m, b, off, cap', hm, hvv, hcl⟩
      ·
       have hnn : ¬ (0 : Int) < (n : Int) := by omega
       clear hn0
       go_wp2
       go_meet
       exact rfl
      ·
       injection hvv with v1 v2 v3
       subst v1; subst v3
       subst hm
       go_wp2
       go_meet
       exact rfl
     case rest =>
      obtain rfl := hcut
      clear HLast g0 g1 c0 c1 z0 z1
      go_wp2_with fail
      refine (HDn.out _).mono ?_
      rintro e w4 ⟨rfl, hb⟩
      have HB4 : Hid (Below w.heap.size w w4) := HB3.out.trans (hb.mono HB3.out.size)
      have HR4 : Hid (w4.heap[w.heap.size]? = some flt0) := (hb.block _ (row_lt HR3.out)).trans HR3.out
      have HF4 := hide (HF3.out.below hb)
      clear hb HB3 HR3 HF3 HDn HG3
      go_wp2_with fail
      refine (HDt2.out _).mono ?_
      rintro e w5 ⟨rfl, hb⟩
      have HB5 : Hid (Below w.heap.size w w5) := HB4.out.trans (hb.mono HB4.out.size)
      have HR5 : Hid (w5.heap[w.heap.size]? = some flt0) := (hb.block _ (row_lt HR4.out)).trans HR4.out
      have HF5 := hide (HF4.out.below hb)
      clear hb HB4 HR4 HF4 HDt2
      go_wp2_with fail
      refine (HSm.out _ _ HF5.out).mono ?_
      rintro e w6 ⟨rfl, hb⟩
      have HB6 : Hid (Below w.heap.size w w6) := HB5.out.trans (hb.mono HB5.out.size)
      have HR6 : Hid (w6.heap[w.heap.size]? = some flt0) := (hb.block _ (row_lt HR5.out)).trans HR5.out
      clear hb HB5 HR5 HF5 HSm
      go_wp2_with fail
      refine (HDs.out _).mono ?_
      rintro e w7 ⟨rfl, hb⟩
      have HB7 : Hid (Below w.heap.size w w7) := HB6.out.trans (hb.mono HB6.out.size)
      have HR7 : Hid (w7.heap[w.heap.size]? = some flt0) := (hb.block _ (row_lt HR6.out)).trans HR6.out
      clear hb HB6 HR6 HDs
      have HB8 : Hid (Below w.heap.size w (w7.alloc (.cells #[.string ⟨#[104, 101, 97, 100]⟩, .string dn, .string dt, .string ds] 9))) := HB7.out.alloc HB7.out.size _
      have HR8 : Hid ((w7.alloc (.cells #[.string ⟨#[104, 101, 97, 100]⟩, .string dn, .string dt, .string ds] 9)).heap[w.heap.size]? = some flt0) := (heap_alloc_old w7 _ (row_lt HR7.out)).trans HR7.out
      have HSl4 := hide (HSl3.out w7.heap.size _ (texts4 w7 (Sl.ofL headL) dn dt ds))
      go_wp2_with fail
      refine HSl4.out.mono ?_
      rintro e w9 ⟨rfl, hb⟩
      have HB9 : Hid (Below w.heap.size w w9) := HB8.out.trans (hb.mono HB8.out.size)
      have HR9 : Hid (w9.heap[w.heap.size]? = some flt0) := (hb.block _ (row_lt HR8.out)).trans HR8.out
      clear hb HB8 HR8 HB7 HR7 HSl3 HSl4
      obtain ⟨c0, c1, z0, z1⟩ := flt_row HR9.out
      go_wp2
      obtain ⟨e1, e2⟩ := flt_set HB9.out (Nat.le_refl _) HR9.out (.int .i64 0) (.int .i64 (-1))
      refine fltEnd2 rfl w.heap.size _ rfl e1 rfl rfl ?_
      exact ⟨by rw [HHX.out, HC.out, if_pos rfl]; rfl, e2⟩
    ·
     rw [if_neg (fun h => hnw h.2)] at hC
     have HC := hide hC
     have ht1 : ¬ time < 0 := by omega
     have ht2 : ¬ 1000000 < time := by omega
     have hnz : time < newL l := by omega
     rcases HLast.out W3 HB3.out with ⟨hn0, hnl⟩ | ⟨m, b, off, cap', hm, hvv, hcl⟩
     ·
      exact absurd (by omega) ht1
     ·
      injection hvv with v1 v2 v3
      subst v1; subst v3
      subst hm
      clear hC HDt HSl2 HDn HDs HSm HLast
      generalize newL l = nw at *
      go_wp2_with fail
      refine (HBare.out 2 _).mono ?_
      rintro e w4 ⟨rfl, hb⟩
      have HB4 : Hid (Below w.heap.size w w4) := HB3.out.trans (hb.mono HB3.out.size)
      have HR4 : Hid (w4.heap[w.heap.size]? = some flt0) := (hb.block _ (row_lt HR3.out)).trans HR3.out
      clear hb c0 c1 z0 z1 g0 g1
      obtain ⟨c0, c1, z0, z1⟩ := flt_row HR4.out
      go_wp2
      obtain ⟨e1, e2⟩ := flt_set HB4.out (Nat.le_refl _) HR4.out (.int .i64 2) (.int .i64 (-1))
      refine fltEnd2 rfl w.heap.size _ rfl e1 rfl rfl ?_
      exact ⟨by rw [HHX.out, HC.out, if_neg (by decide)]; rfl, e2⟩
   ·
    rw [if_neg (fun h => ht h.1)] at hC
    have HC := hide hC
    clear hC HDt HSl2 HDn HDs HSm HLast
    have hway : time < 0 ∨ (¬ time < 0 ∧ 1000000 < time) := by omega
    clear ht
    rcases hway with ht1 | ⟨ht1, ht2⟩
    all_goals
     go_wp2_with fail
     refine (HBare.out 2 _).mono ?_
     rintro e w4 ⟨rfl, hb⟩
     have HB4 : Hid (Below w.heap.size w w4) := HB3.out.trans (hb.mono HB3.out.size)
     have HR4 : Hid (w4.heap[w.heap.size]? = some flt0) := (hb.block _ (row_lt HR3.out)).trans HR3.out
     clear hb c0 c1 z0 z1 g0 g1
     obtain ⟨c0, c1, z0, z1⟩ := flt_row HR4.out
     go_wp2
     obtain ⟨e1, e2⟩ := flt_set HB4.out (Nat.le_refl _) HR4.out (.int .i64 2) (.int .i64 (-1))
     refine fltEnd2 rfl w.heap.size _ rfl e1 rfl rfl ?_
     exact ⟨by rw [HHX.out, HC.out, if_neg (by decide)]; rfl, e2⟩
  ·
   rw [if_neg h0] at hC
   have HFv : Hid (fltV hc = .agg #[.int .i64 fz, .int .i64 fa]) := by show _ = _; rw [hC]; unfold fltV; rw [HFz.out, HFa.out]
   have HXe : Hid (hx = ⟨#[]⟩) := by show _ = _; rw [HHX.out, hC, if_neg h0]
   clear h0 hC HCz HFz HFa HDt HSl HDn HDs HSm HLast
   go_wp2
   go_region
   all_goals
    go_wp2
    obtain ⟨e1, e2⟩ := flt_set HB3.out (Nat.le_refl _) HR3.out (.int .i64 fz) (.int .i64 fa)
    refine fltEnd2 rfl w.heap.size _ rfl e1 rfl rfl ?_
    exact ⟨by first | (rw [HFv.out, HXe.out]; rfl) | rw [HFv.out, HXe.out], e2.drew⟩
 ·
  rw [decide_eq_false hk] at HKy
  have hC : headC key l time = (10, -1) := if_neg hk
  have HC := hide hC
  clear hC hv hs hk HFl
  generalize headX key l time = hx at *
  generalize headC key l time = hc at *
  go_enter Tryz.func47, Tryz.ntmps47
  go_wp2_with fail
  refine (HKy.out _).mono ?_
  rintro e w1 ⟨rfl, rfl⟩
  go_wp2_with fail
  refine (HBare.out 10 _).mono ?_
  rintro e w4 ⟨rfl, hb⟩
  have HB4 : Hid (Below w.heap.size w w4) := HB0.out.trans (hb.mono HB0.out.size)
  have HR4 : Hid (w4.heap[w.heap.size]? = some flt0) := (hb.block _ (row_lt HR0.out)).trans HR0.out
  clear hb
  obtain ⟨c0, c1, z0, z1⟩ := flt_row HR4.out
  go_wp2
  obtain ⟨e1, e2⟩ := flt_set HB4.out (Nat.le_refl _) HR4.out (.int .i64 10) (.int .i64 (-1))
  refine fltEnd2 rfl w.heap.size _ rfl e1 rfl rfl ?_
  exact ⟨by rw [HHX.out, HC.out, if_neg (by decide)]; rfl, e2⟩
end Go.Proofs.YtabpnjchocgakaaGreatDoor

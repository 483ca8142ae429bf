/-
  What the rows' list of package-level variables gives: in a world where they read as listed, the sixteen errors of package api lie in memory as 'Errs' says; a list may hold other variables behind them.
-/
import Derived.Test.YteofodegeigmaaaDoorRows
import Derived.Test.YteofodegeigmaaaDoorErrs
import Derived.ProofKit
import Derived.LaidMore
import Derived.LaidHandle
import Derived.LaidLaws
import Derived.Stop.LaidErr
namespace Go.Proofs.YteofodegeigmaaaDoor
open Go.ChangeShapes Go.WideShapes Go.ChangeAt Go.RowKit

/-- An error of errors.New's make al a list names it: its variable, its text. -/
def sentD (nm : String) (x : String × List UInt8) : String × DataW Unit := (x.1, .iface nm (.ptr (.agg [.lit (.string x.2)])))

theorem sents_of_laid {P : Program} {W : World} {nm : String} {ti tp te ts : TypeId} {ms : Array (String × TypeId)} {f : Field}
    (hi : P.underlying ti = some (.interface ms)) (hrow : ∀ u, P.typeName? 3 u = some nm → u = tp)
    (hp : P.underlying tp = some (.pointer te)) (he : P.underlying te = some (.struct #[f])) (hft : f.type = ts) (hfo : f.offset = 0) (hs : P.underlying ts = some .string) (hc : P.cellsOf te = 1) (hcs : P.cellsOf ts = 1) (r : List (String × DataW Unit)) :
    ∀ (l : List (String × List UInt8)) (ps : List MemPlace), DataW.LaidVars P W (l.map (sentD nm) ++ r) ps → ps.Nodup →
      (∀ b off, MemPlace.cell b off ∈ ps → (∃ c t, W.heap[b]? = some (.cells c t (0, 0))) ∧ ∀ u v, W.cell? ⟨b, off, none⟩ = some (.iface u v) → Value.okWide P W .any 0 u v) →
      (∀ x ∈ l, ∃ g, P.globalNamed x.1 = some g ∧ (P.globals[g]?).map (·.type) = some ti) →
      ∃ al : List Addr, al.length = l.length ∧ al.Nodup ∧ (∀ b ∈ al, MemPlace.cell b.block b.off ∈ ps) ∧
        ∀ (i : Nat) (x : String × List UInt8) (b : Addr), l[i]? = some x → al[i]? = some b → W.var? P x.1 = some #[.iface tp (.pointer (some b))] := by
  intro l
  induction l with
  | nil =>
    intro ps _ _ _ _
    exact ⟨[], rfl, List.nodup_nil, fun b h => by simp at h, fun i x b h => by simp at h⟩
  | cons y l ih =>
    intro ps h hnd hrows hty
    obtain ⟨g, hg, ht⟩ := hty y (by simp)
    obtain ⟨g', t', cs, fuel, p, q, hg', ht', hv, hd, hr, e⟩ := h
    obtain rfl := Option.some.inj (hg.symm.trans hg')
    obtain rfl := Option.some.inj (ht.symm.trans ht')
    subst e
    obtain ⟨cl⟩ := cs
    have ok : ∀ u v, cl = [.iface u v] → Value.okWide P W .any 0 u v := fun u v e => by
      subst e
      exact (hrows g 0 (by simp [MemPlace.row])).2 u v (by simpa using World.var?_cell hg hv 0)
    obtain ⟨a, s, rfl, _, _, _, rfl⟩ := errorString_of_trod hi hrow hp he hft hfo hs hc hcs hd ok
    obtain ⟨al, hlen, hn, hm, hvs⟩ := ih q hr (List.nodup_append.1 hnd).2.1 (fun b off hb => hrows b off (by simp [hb])) (fun x hx => hty x (by simp [hx]))
    refine ⟨a :: al, by simp [hlen], ?_, ?_, ?_⟩
    · refine List.nodup_cons.2 ⟨fun hmem => ?_, hn⟩
      have h1 := hm a hmem
      have h2 := (List.nodup_append.1 hnd).2.2 (MemPlace.cell a.block a.off) (by simp [MemPlace.row]) _ h1
      exact h2 rfl
    · intro b hb
      rcases List.mem_cons.1 hb with rfl | hb
      · simp [MemPlace.row]
      · simp [hm b hb]
    · intro i x b hx hb
      cases i with
      | zero =>
        simp only [List.getElem?_cons_zero, Option.some.injEq] at hx hb
        subst hx; subst hb
        exact hv
      | succ i =>
        simp only [List.getElem?_cons_succ] at hx hb
        exact hvs i x b hx hb

theorem Tryd.star : "*errors.errorString" = "*" ++ "errors.errorString" := by decide
theorem Tryd.errRow (u : TypeId) (h : Tryd.prog.typeName? 3 u = some "*errors.errorString") : u = 138 :=
  typeName_ptr_named (nm := "errors.errorString") (by rw [← Tryd.star]; kernel_rfl) (by kernel_rfl) (by decide) u (by rw [← Tryd.star]; exact h)
theorem Tryd.errCells : Tryd.prog.cellsOf 140 = 1 := by kernel_rfl
theorem Tryd.strCells : Tryd.prog.cellsOf 9 = 1 := by kernel_rfl
theorem Tryd.own : ownKnob Tryd.prog.godebug = none := by kernel_rfl
theorem Tryd.et : Tryd.prog.globalNamed "errors.errorType" = some 16 := by kernel_rfl
theorem Tryd.rt : (Tryd.prog.cutTypes.find? (·.1 == "internal/reflectlite.rtype")).map (·.2) = some 95 := by kernel_rfl
theorem Tryd.oneRow : ((List.range 170).filter fun t => Tryd.prog.rowNamed t [101, 114, 114, 111, 114]) = [26] := by kernel_rfl
theorem Tryd.size : Tryd.prog.types.size = 170 := by kernel_rfl

/-- The handle of 'error'. -/
theorem handle_of {W : World} {hs : List (String × DataW Unit)} (h : handlesMet Tryd.prog (("errors.errorType", Rows.laid_errors_errorType) :: hs) W) : W.cell? ⟨16, 0, none⟩ = some (.iface 95 (.agg #[.pointer (some ⟨23, 26, none⟩)])) := by
  obtain ⟨name, u, ty, e1, e2, e3, e4, e5⟩ := h ("errors.errorType", Rows.laid_errors_errorType) List.mem_cons_self
  have en : name = [101, 114, 114, 111, 114] := (Option.some.inj e1).symm
  subst en
  obtain rfl := Option.some.inj (Tryd.rt.symm.trans e2)
  have hm : ty ∈ (List.range 170).filter fun t => Tryd.prog.rowNamed t [101, 114, 114, 111, 114] := List.mem_filter.2 ⟨List.mem_range.2 (by rw [← Tryd.size]; exact e3), e4⟩
  rw [Tryd.oneRow] at hm
  obtain rfl := List.mem_singleton.1 hm
  have hh : typeHandle Tryd.prog 26 = .pointer (some ⟨23, 26, none⟩) := by kernel_rfl
  rw [hh] at e5
  simpa using World.var?_cell Tryd.et e5 0

/-- The list al it is laid: names and texts. -/
def errL : List (String × List UInt8) := [("keyholder/api.ErrText", [107, 101, 121, 104, 111, 108, 100, 101, 114, 58, 32, 116, 101, 120, 116]), ("keyholder/api.ErrBound", [107, 101, 121, 104, 111, 108, 100, 101, 114, 58, 32, 98, 111, 117, 110, 100]), ("keyholder/api.ErrShape", [107, 101, 121, 104, 111, 108, 100, 101, 114, 58, 32, 115, 104, 97, 112, 101]), ("keyholder/api.ErrName", [107, 101, 121, 104, 111, 108, 100, 101, 114, 58, 32, 110, 97, 109, 101]), ("keyholder/api.ErrNone", [107, 101, 121, 104, 111, 108, 100, 101, 114, 58, 32, 110, 111, 110, 101]), ("keyholder/api.ErrExist", [107, 101, 121, 104, 111, 108, 100, 101, 114, 58, 32, 101, 120, 105, 115, 116]), ("keyholder/api.ErrFull", [107, 101, 121, 104, 111, 108, 100, 101, 114, 58, 32, 102, 117, 108, 108]), ("keyholder/api.ErrOrder", [107, 101, 121, 104, 111, 108, 100, 101, 114, 58, 32, 111, 114, 100, 101, 114]), ("keyholder/api.ErrMark", [107, 101, 121, 104, 111, 108, 100, 101, 114, 58, 32, 109, 97, 114, 107]), ("keyholder/api.ErrKey", [107, 101, 121, 104, 111, 108, 100, 101, 114, 58, 32, 107, 101, 121]), ("keyholder/api.ErrEarly", [107, 101, 121, 104, 111, 108, 100, 101, 114, 58, 32, 101, 97, 114, 108, 121]), ("keyholder/api.ErrLate", [107, 101, 121, 104, 111, 108, 100, 101, 114, 58, 32, 108, 97, 116, 101]), ("keyholder/api.ErrFloor", [107, 101, 121, 104, 111, 108, 100, 101, 114, 58, 32, 102, 108, 111, 111, 114]), ("keyholder/api.ErrStale", [107, 101, 121, 104, 111, 108, 100, 101, 114, 58, 32, 115, 116, 97, 108, 101]), ("keyholder/api.ErrGap", [107, 101, 121, 104, 111, 108, 100, 101, 114, 58, 32, 103, 97, 112]), ("keyholder/api.ErrOff", [107, 101, 121, 104, 111, 108, 100, 101, 114, 58, 32, 111, 102, 102])]
/-- Where the list has the error of each number. -/
def errPos : List Nat := [0, 1, 2, 3, 4, 5, 6, 7, 8, 9, 10, 11, 12, 13, 14, 15]
theorem errL_ok : (errL.all fun x => match Tryd.prog.globalNamed x.1 with | some g => (Tryd.prog.globals[g]?).map (·.type) == some 26 | none => false) = true := by kernel_rfl
theorem errPos_ok : ((List.range 16).all fun i => match errL[errPos.getD i 0]? with | some x => Tryd.prog.globalNamed x.1 == some (errG.getD i 0) && errPos.getD i 0 < 16 | none => false) = true := by kernel_rfl
theorem errPos_inj : ((List.range 16).all fun i => (List.range 16).all fun j => i == j || errPos.getD i 0 != errPos.getD j 0) = true := by decide
theorem errL_len : errL.length = 16 := rfl

theorem errs_of_vars {W : World} {r : List (String × DataW Unit)} (h : laidMet Tryd.prog (errL.map (sentD "*errors.errorString") ++ r) W)
    (ht : W.cell? ⟨16, 0, none⟩ = some (.iface 95 (.agg #[.pointer (some ⟨23, 26, none⟩)]))) : ∃ a, Errs a W := by
  obtain ⟨ps, hl, hnd, hrows⟩ := h
  obtain ⟨al, hlen, hn, hm, hvs⟩ := sents_of_laid (nm := "*errors.errorString") Tryd.underlying26 Tryd.errRow Tryd.underlying138 Tryd.underlying140 rfl rfl Tryd.underlying9 Tryd.errCells Tryd.strCells r errL ps hl hnd hrows (fun x hx => by
    have := List.all_eq_true.1 errL_ok x hx
    cases hg : Tryd.prog.globalNamed x.1 with
    | none => simp [hg] at this
    | some g => exact ⟨g, rfl, by simpa [hg] using this⟩)
  rw [errL_len] at hlen
  have hpos : ∀ i, i < 16 → ∃ x, errL[errPos.getD i 0]? = some x ∧ Tryd.prog.globalNamed x.1 = some (errG.getD i 0) ∧ errPos.getD i 0 < 16 := by
    intro i hi
    have := List.all_eq_true.1 errPos_ok i (List.mem_range.2 hi)
    cases hx : errL[errPos.getD i 0]? with
    | none => simp only [hx] at this; cases this
    | some x =>
      simp only [hx, Bool.and_eq_true, beq_iff_eq, decide_eq_true_eq] at this
      exact ⟨x, rfl, this.1, this.2⟩
  have hget : ∀ i, i < 16 → al[errPos.getD i 0]? = some (al.getD (errPos.getD i 0) ⟨0, 0, none⟩) := by
    intro i hi
    obtain ⟨_, _, _, h3⟩ := hpos i hi
    generalize errPos.getD i 0 = n at h3 ⊢
    rw [List.getD_eq_getElem?_getD, List.getElem?_eq_getElem (by omega)]
    rfl
  refine ⟨fun i => al.getD (errPos.getD i 0) ⟨0, 0, none⟩, ⟨fun i hi => ?_, fun i hi => ?_, fun i j hi hj hij => ?_, ht⟩⟩
  · obtain ⟨x, hx, hg, h3⟩ := hpos i hi
    have := hvs _ x _ hx (hget i hi)
    simpa using World.var?_cell hg this 0
  · have hmem : al.getD (errPos.getD i 0) ⟨0, 0, none⟩ ∈ al := List.mem_of_getElem? (hget i hi)
    exact (hrows _ _ (hm _ hmem)).1
  · have hd := List.all_eq_true.1 (List.all_eq_true.1 errPos_inj i (List.mem_range.2 hi)) j (List.mem_range.2 hj)
    simp only [Bool.or_eq_true, beq_iff_eq, hij, false_or, bne_iff_ne, ne_eq] at hd
    intro e
    have e' : al.getD (errPos.getD i 0) ⟨0, 0, none⟩ = al.getD (errPos.getD j 0) ⟨0, 0, none⟩ := e
    obtain ⟨_, _, _, hi3⟩ := hpos i hi
    obtain ⟨_, _, _, hj3⟩ := hpos j hj
    have h1 := hget i hi
    have h2 := hget j hj
    rw [e', ← h2] at h1
    exact hd ((List.getElem?_inj (i := errPos.getD i 0) (j := errPos.getD j 0) (by omega) hn).1 h1)
end Go.Proofs.YteofodegeigmaaaDoor

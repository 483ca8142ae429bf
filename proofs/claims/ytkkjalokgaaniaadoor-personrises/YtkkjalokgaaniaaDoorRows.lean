/-
  NARROWER THAN 'FOR EVERY INPUT', by the rows' own cells (each row's printed sentence says how): Names: laid · MarkParts: laid · MarkTells: laid · PersonRises: laid.
  DERIVED. THE GIVEN ROWS OF THIS SEAT. 4 by the template 'for every input the law returns true; each argument reads behind the call as it read before'; 0 by the template 'total and deterministic' (their statements: YtkkjalokgaaniaaDoorTotals.lean).
  GIVEN WITH THE SEED: the statements are not yours to turn. If you find one false, say at which input.
  Laid BY PROGRAM, IN A SANDBOX (cutbox-rows.mjs): the forced cells as the released guide's own fill.sh prints them over the translation a804f16e31d815cb… (all of the seat's roots in one cut). By AI agents, Wed Nov 11 2026. No macro, syntax, notation, axiom, sorry.
-/
import Derived.Test.YtkkjalokgaaniaaDoorChecked
import GoSem.Claim
import GoSem.ClaimJoined
import GoSem.ClaimMapViews
import Derived.JoinedTies
import Derived.KernelRfl
namespace Go.Proofs.YtkkjalokgaaniaaDoor
/- THE CELL 'sum', in the pinned program and in every row, IS THE sha256 OF THE DUMP (.gsa) THAT YtkkjalokgaaniaaDoorProg.lean LOADS. Nothing in Lean hashes anything: it is a label: what it is worth is what the hold of that sum in a sandbox is worth. -/
noncomputable def Tryd.pinned : Pinned := { name := "ytkkjalokgaaniaadoor", sum := "a804f16e31d815cb1c20f76bdacc44c90d18f209e197bac57888c9bfd5e53930", checked := Tryd.checked }
namespace Rows
def none {H : Type} : Left H := { results := [], args := [] }

/- WHAT THE LISTED PACKAGE-LEVEL VARIABLES READ AS WHEN THE CALL BEGINS. Each datum BY PROGRAM (the guide's laid-datum.mjs) off the statement by which the dump's own 'gosem.cut.vars' lays the variable. In a bare row this is a premise. The card (YtkkjalokgaaniaaDoorCards.lean) ties it to the program's text. -/
def laid_errors_errorType {H : Type} : DataW H := .iface "internal/reflectlite.rtype" (.agg [.ptr (.lit (.string [101, 114, 114, 111, 114]))])
def laid_keyholder_api_ErrText {H : Type} : DataW H := .iface "*errors.errorString" (.ptr (.agg [.lit (.string [107, 101, 121, 104, 111, 108, 100, 101, 114, 58, 32, 116, 101, 120, 116])]))
def laid_keyholder_api_ErrBound {H : Type} : DataW H := .iface "*errors.errorString" (.ptr (.agg [.lit (.string [107, 101, 121, 104, 111, 108, 100, 101, 114, 58, 32, 98, 111, 117, 110, 100])]))
def laid_keyholder_api_ErrShape {H : Type} : DataW H := .iface "*errors.errorString" (.ptr (.agg [.lit (.string [107, 101, 121, 104, 111, 108, 100, 101, 114, 58, 32, 115, 104, 97, 112, 101])]))
def laid_keyholder_api_ErrName {H : Type} : DataW H := .iface "*errors.errorString" (.ptr (.agg [.lit (.string [107, 101, 121, 104, 111, 108, 100, 101, 114, 58, 32, 110, 97, 109, 101])]))
def laid_keyholder_api_ErrNone {H : Type} : DataW H := .iface "*errors.errorString" (.ptr (.agg [.lit (.string [107, 101, 121, 104, 111, 108, 100, 101, 114, 58, 32, 110, 111, 110, 101])]))
def laid_keyholder_api_ErrExist {H : Type} : DataW H := .iface "*errors.errorString" (.ptr (.agg [.lit (.string [107, 101, 121, 104, 111, 108, 100, 101, 114, 58, 32, 101, 120, 105, 115, 116])]))
def laid_keyholder_api_ErrFull {H : Type} : DataW H := .iface "*errors.errorString" (.ptr (.agg [.lit (.string [107, 101, 121, 104, 111, 108, 100, 101, 114, 58, 32, 102, 117, 108, 108])]))
def laid_keyholder_api_ErrOrder {H : Type} : DataW H := .iface "*errors.errorString" (.ptr (.agg [.lit (.string [107, 101, 121, 104, 111, 108, 100, 101, 114, 58, 32, 111, 114, 100, 101, 114])]))
def laid_keyholder_api_ErrMark {H : Type} : DataW H := .iface "*errors.errorString" (.ptr (.agg [.lit (.string [107, 101, 121, 104, 111, 108, 100, 101, 114, 58, 32, 109, 97, 114, 107])]))
def laid_keyholder_api_ErrKey {H : Type} : DataW H := .iface "*errors.errorString" (.ptr (.agg [.lit (.string [107, 101, 121, 104, 111, 108, 100, 101, 114, 58, 32, 107, 101, 121])]))
def laid_keyholder_api_ErrEarly {H : Type} : DataW H := .iface "*errors.errorString" (.ptr (.agg [.lit (.string [107, 101, 121, 104, 111, 108, 100, 101, 114, 58, 32, 101, 97, 114, 108, 121])]))
def laid_keyholder_api_ErrLate {H : Type} : DataW H := .iface "*errors.errorString" (.ptr (.agg [.lit (.string [107, 101, 121, 104, 111, 108, 100, 101, 114, 58, 32, 108, 97, 116, 101])]))
def laid_keyholder_api_ErrFloor {H : Type} : DataW H := .iface "*errors.errorString" (.ptr (.agg [.lit (.string [107, 101, 121, 104, 111, 108, 100, 101, 114, 58, 32, 102, 108, 111, 111, 114])]))
def laid_keyholder_api_ErrStale {H : Type} : DataW H := .iface "*errors.errorString" (.ptr (.agg [.lit (.string [107, 101, 121, 104, 111, 108, 100, 101, 114, 58, 32, 115, 116, 97, 108, 101])]))
def laid_keyholder_api_ErrGap {H : Type} : DataW H := .iface "*errors.errorString" (.ptr (.agg [.lit (.string [107, 101, 121, 104, 111, 108, 100, 101, 114, 58, 32, 103, 97, 112])]))
def laid_keyholder_api_ErrOff {H : Type} : DataW H := .iface "*errors.errorString" (.ptr (.agg [.lit (.string [107, 101, 121, 104, 111, 108, 100, 101, 114, 58, 32, 111, 102, 102])]))

/-- 'keyholderlaw1.Names': WHATEVER THE INPUT: true; the input reads as it did. -/
def namesSpec : ChangeSpec := { name := "names", fn := fun _ => fun
  | [] => { results := [.lit (.bool true)], args := [] }
  | _ => none }
def namesRow : OpenClaim := { program := "ytkkjalokgaaniaadoor", sum := "a804f16e31d815cb1c20f76bdacc44c90d18f209e197bac57888c9bfd5e53930", func := "keyholder/keyholderlaw1.Names", spec := "names", inPlace := ["internal/reflectlite.ValueOf", "(internal/reflectlite.Value).Type", "(internal/reflectlite.Value).IsNil", "internal/reflectlite.TypeOf", "(internal/reflectlite.Value).Elem", "(internal/reflectlite.Value).Set"], unfollowed := true, recurses := true, named := ["keyholder/api.ErrText", "keyholder/api.ErrBound", "keyholder/api.ErrShape", "keyholder/api.ErrName", "keyholder/api.ErrNone", "keyholder/api.ErrExist", "keyholder/api.ErrFull", "keyholder/api.ErrOrder", "keyholder/api.ErrMark", "keyholder/api.ErrKey", "keyholder/api.ErrEarly", "keyholder/api.ErrLate", "keyholder/api.ErrFloor", "keyholder/api.ErrStale", "keyholder/api.ErrGap", "keyholder/api.ErrOff", "errors.errorType"], apart := false, laid := [("errors.errorType", laid_errors_errorType), ("keyholder/api.ErrText", laid_keyholder_api_ErrText), ("keyholder/api.ErrBound", laid_keyholder_api_ErrBound), ("keyholder/api.ErrShape", laid_keyholder_api_ErrShape), ("keyholder/api.ErrName", laid_keyholder_api_ErrName), ("keyholder/api.ErrNone", laid_keyholder_api_ErrNone), ("keyholder/api.ErrExist", laid_keyholder_api_ErrExist), ("keyholder/api.ErrFull", laid_keyholder_api_ErrFull), ("keyholder/api.ErrOrder", laid_keyholder_api_ErrOrder), ("keyholder/api.ErrMark", laid_keyholder_api_ErrMark), ("keyholder/api.ErrKey", laid_keyholder_api_ErrKey), ("keyholder/api.ErrEarly", laid_keyholder_api_ErrEarly), ("keyholder/api.ErrLate", laid_keyholder_api_ErrLate), ("keyholder/api.ErrFloor", laid_keyholder_api_ErrFloor), ("keyholder/api.ErrStale", laid_keyholder_api_ErrStale), ("keyholder/api.ErrGap", laid_keyholder_api_ErrGap), ("keyholder/api.ErrOff", laid_keyholder_api_ErrOff)] }
def NamesSaid : Prop := namesRow.holds Tryd.pinned (OpenSpec.ofChange namesSpec)

/-- ITS FALSE NEIGHBOUR: 'it returns false'. Refute it at one input. -/
def namesWrong : ChangeSpec := { name := "names", fn := fun _ => fun
  | [] => { results := [.lit (.bool false)], args := [] }
  | _ => none }
def NamesWrongFalsely : Prop := namesRow.holds Tryd.pinned (OpenSpec.ofChange namesWrong)

/-- 'keyholderlaw1.MarkParts': WHATEVER THE INPUT: true; the input reads as it did. -/
def markPartsSpec : ChangeSpec := { name := "markParts", fn := fun _ => fun
  | [d1, d2, d3, d4, d5] => { results := [.lit (.bool true)], args := [d1, d2, d3, d4, d5] }
  | _ => none }
def markPartsRow : OpenClaim := { program := "ytkkjalokgaaniaadoor", sum := "a804f16e31d815cb1c20f76bdacc44c90d18f209e197bac57888c9bfd5e53930", func := "keyholder/keyholderlaw1.MarkParts", spec := "markParts", inPlace := ["internal/reflectlite.ValueOf", "(internal/reflectlite.Value).Type", "(internal/reflectlite.Value).IsNil", "internal/reflectlite.TypeOf", "(internal/reflectlite.Value).Elem", "(internal/reflectlite.Value).Set"], unfollowed := true, recurses := true, named := ["keyholder/api.ErrKey", "keyholder/api.ErrBound", "keyholder/api.ErrMark", "keyholder/api.ErrText", "keyholder/api.ErrShape", "keyholder/api.ErrName", "keyholder/api.ErrNone", "keyholder/api.ErrExist", "keyholder/api.ErrFull", "keyholder/api.ErrOrder", "keyholder/api.ErrEarly", "keyholder/api.ErrLate", "keyholder/api.ErrFloor", "keyholder/api.ErrStale", "keyholder/api.ErrGap", "keyholder/api.ErrOff", "errors.errorType"], apart := false, laid := [("errors.errorType", laid_errors_errorType), ("keyholder/api.ErrText", laid_keyholder_api_ErrText), ("keyholder/api.ErrBound", laid_keyholder_api_ErrBound), ("keyholder/api.ErrShape", laid_keyholder_api_ErrShape), ("keyholder/api.ErrName", laid_keyholder_api_ErrName), ("keyholder/api.ErrNone", laid_keyholder_api_ErrNone), ("keyholder/api.ErrExist", laid_keyholder_api_ErrExist), ("keyholder/api.ErrFull", laid_keyholder_api_ErrFull), ("keyholder/api.ErrOrder", laid_keyholder_api_ErrOrder), ("keyholder/api.ErrMark", laid_keyholder_api_ErrMark), ("keyholder/api.ErrKey", laid_keyholder_api_ErrKey), ("keyholder/api.ErrEarly", laid_keyholder_api_ErrEarly), ("keyholder/api.ErrLate", laid_keyholder_api_ErrLate), ("keyholder/api.ErrFloor", laid_keyholder_api_ErrFloor), ("keyholder/api.ErrStale", laid_keyholder_api_ErrStale), ("keyholder/api.ErrGap", laid_keyholder_api_ErrGap), ("keyholder/api.ErrOff", laid_keyholder_api_ErrOff)] }
def MarkPartsSaid : Prop := markPartsRow.holds Tryd.pinned (OpenSpec.ofChange markPartsSpec)

/-- ITS FALSE NEIGHBOUR: 'it returns false'. Refute it at one input. -/
def markPartsWrong : ChangeSpec := { name := "markParts", fn := fun _ => fun
  | [d1, d2, d3, d4, d5] => { results := [.lit (.bool false)], args := [d1, d2, d3, d4, d5] }
  | _ => none }
def MarkPartsWrongFalsely : Prop := markPartsRow.holds Tryd.pinned (OpenSpec.ofChange markPartsWrong)

/-- 'keyholderlaw1.MarkTells': WHATEVER THE INPUT: true; the input reads as it did. -/
def markTellsSpec : ChangeSpec := { name := "markTells", fn := fun _ => fun
  | [d1, d2, d3] => { results := [.lit (.bool true)], args := [d1, d2, d3] }
  | _ => none }
def markTellsRow : OpenClaim := { program := "ytkkjalokgaaniaadoor", sum := "a804f16e31d815cb1c20f76bdacc44c90d18f209e197bac57888c9bfd5e53930", func := "keyholder/keyholderlaw1.MarkTells", spec := "markTells", inPlace := ["internal/reflectlite.ValueOf", "(internal/reflectlite.Value).Type", "(internal/reflectlite.Value).IsNil", "internal/reflectlite.TypeOf", "(internal/reflectlite.Value).Elem", "(internal/reflectlite.Value).Set"], unfollowed := true, recurses := true, named := ["keyholder/api.ErrKey", "keyholder/api.ErrBound", "keyholder/api.ErrMark", "keyholder/api.ErrText", "keyholder/api.ErrShape", "keyholder/api.ErrName", "keyholder/api.ErrNone", "keyholder/api.ErrExist", "keyholder/api.ErrFull", "keyholder/api.ErrOrder", "keyholder/api.ErrEarly", "keyholder/api.ErrLate", "keyholder/api.ErrFloor", "keyholder/api.ErrStale", "keyholder/api.ErrGap", "keyholder/api.ErrOff", "errors.errorType"], apart := false, laid := [("errors.errorType", laid_errors_errorType), ("keyholder/api.ErrText", laid_keyholder_api_ErrText), ("keyholder/api.ErrBound", laid_keyholder_api_ErrBound), ("keyholder/api.ErrShape", laid_keyholder_api_ErrShape), ("keyholder/api.ErrName", laid_keyholder_api_ErrName), ("keyholder/api.ErrNone", laid_keyholder_api_ErrNone), ("keyholder/api.ErrExist", laid_keyholder_api_ErrExist), ("keyholder/api.ErrFull", laid_keyholder_api_ErrFull), ("keyholder/api.ErrOrder", laid_keyholder_api_ErrOrder), ("keyholder/api.ErrMark", laid_keyholder_api_ErrMark), ("keyholder/api.ErrKey", laid_keyholder_api_ErrKey), ("keyholder/api.ErrEarly", laid_keyholder_api_ErrEarly), ("keyholder/api.ErrLate", laid_keyholder_api_ErrLate), ("keyholder/api.ErrFloor", laid_keyholder_api_ErrFloor), ("keyholder/api.ErrStale", laid_keyholder_api_ErrStale), ("keyholder/api.ErrGap", laid_keyholder_api_ErrGap), ("keyholder/api.ErrOff", laid_keyholder_api_ErrOff)] }
def MarkTellsSaid : Prop := markTellsRow.holds Tryd.pinned (OpenSpec.ofChange markTellsSpec)

/-- ITS FALSE NEIGHBOUR: 'it returns false'. Refute it at one input. -/
def markTellsWrong : ChangeSpec := { name := "markTells", fn := fun _ => fun
  | [d1, d2, d3] => { results := [.lit (.bool false)], args := [d1, d2, d3] }
  | _ => none }
def MarkTellsWrongFalsely : Prop := markTellsRow.holds Tryd.pinned (OpenSpec.ofChange markTellsWrong)

/-- 'keyholderlaw1.PersonRises': WHATEVER THE INPUT: true; the input reads as it did. -/
def personRisesSpec : ChangeSpec := { name := "personRises", fn := fun _ => fun
  | [d] => { results := [.lit (.bool true)], args := [d] }
  | _ => none }
def personRisesRow : OpenClaim := { program := "ytkkjalokgaaniaadoor", sum := "a804f16e31d815cb1c20f76bdacc44c90d18f209e197bac57888c9bfd5e53930", func := "keyholder/keyholderlaw1.PersonRises", spec := "personRises", inPlace := ["internal/bytealg.abigen_runtime_cmpstring"], unfollowed := true, recurses := true, named := ["keyholder/api.ErrExist", "keyholder/api.ErrFull", "keyholder/api.ErrName", "keyholder/api.ErrKey", "keyholder/api.ErrBound", "keyholder/api.ErrNone"], apart := false, laid := [("keyholder/api.ErrBound", laid_keyholder_api_ErrBound), ("keyholder/api.ErrName", laid_keyholder_api_ErrName), ("keyholder/api.ErrNone", laid_keyholder_api_ErrNone), ("keyholder/api.ErrExist", laid_keyholder_api_ErrExist), ("keyholder/api.ErrFull", laid_keyholder_api_ErrFull), ("keyholder/api.ErrKey", laid_keyholder_api_ErrKey)] }
def PersonRisesSaid : Prop := personRisesRow.holds Tryd.pinned (OpenSpec.ofChange personRisesSpec)

/-- ITS FALSE NEIGHBOUR: 'it returns false'. Refute it at one input. -/
def personRisesWrong : ChangeSpec := { name := "personRises", fn := fun _ => fun
  | [d] => { results := [.lit (.bool false)], args := [d] }
  | _ => none }
def PersonRisesWrongFalsely : Prop := personRisesRow.holds Tryd.pinned (OpenSpec.ofChange personRisesWrong)

/- THE SECOND FORM. 'bulk': how many values and letters a reading holds, each counted each time it is reached (what is shared counts as often as it is met; a slice's spare places count too). A statement '..UptoSaid' is the law's where the arguments, and the package variables that the reading takes, are together of bulk at most 1048576: NARROWER than '..Said'. Prove '..Said' where nothing that the law and all that it calls make is longer than what came in: it says more and counts as full. Else prove '..UptoSaid'. A law counts once. -/
mutual
def uptoBulk {H : Type} : DataW H → Nat
  | .lit (.string bytes) => bytes.length + 1
  | .lit _ => 1
  | .nil => 1
  | .ptr d => uptoBulk d + 1
  | .slice elems spare => uptoBulkAll elems + uptoBulkAll spare + 1
  | .agg parts => uptoBulkAll parts + 1
  | .iface _ d => uptoBulk d + 1
  | .map entries => uptoBulkEntries entries + 1
  | .held _ => 1
def uptoBulkAll {H : Type} : List (DataW H) → Nat
  | [] => 0
  | d :: r => uptoBulk d + uptoBulkAll r
def uptoBulkEntries {H : Type} : List (Lit × DataW H) → Nat
  | [] => 0
  | x :: r => uptoBulkEntry x + uptoBulkEntries r
def uptoBulkEntry {H : Type} : Lit × DataW H → Nat
  | (.string bytes, d) => bytes.length + uptoBulk d + 1
  | (_, d) => uptoBulk d + 1
 end
def uptoSmall : (H : Type) → List (DataW H) → Bool := fun _ ds => decide (uptoBulkAll ds ≤ 1048576)
def OpenSpec.upto (s : _root_.Go.ChangeSpec) : _root_.Go.OpenSpec := { _root_.Go.OpenSpec.ofChange s with cond := some uptoSmall }

/-- 'keyholderlaw1.Names', WHERE WHAT IT READS IS OF BULK AT MOST 1048576: true; the input reads as it did. -/
def namesUptoRow : OpenClaim := { program := "ytkkjalokgaaniaadoor", sum := "a804f16e31d815cb1c20f76bdacc44c90d18f209e197bac57888c9bfd5e53930", func := "keyholder/keyholderlaw1.Names", spec := "names", inPlace := ["internal/reflectlite.ValueOf", "(internal/reflectlite.Value).Type", "(internal/reflectlite.Value).IsNil", "internal/reflectlite.TypeOf", "(internal/reflectlite.Value).Elem", "(internal/reflectlite.Value).Set"], unfollowed := true, recurses := true, named := ["keyholder/api.ErrText", "keyholder/api.ErrBound", "keyholder/api.ErrShape", "keyholder/api.ErrName", "keyholder/api.ErrNone", "keyholder/api.ErrExist", "keyholder/api.ErrFull", "keyholder/api.ErrOrder", "keyholder/api.ErrMark", "keyholder/api.ErrKey", "keyholder/api.ErrEarly", "keyholder/api.ErrLate", "keyholder/api.ErrFloor", "keyholder/api.ErrStale", "keyholder/api.ErrGap", "keyholder/api.ErrOff", "errors.errorType"], apart := false, laid := [("errors.errorType", laid_errors_errorType), ("keyholder/api.ErrText", laid_keyholder_api_ErrText), ("keyholder/api.ErrBound", laid_keyholder_api_ErrBound), ("keyholder/api.ErrShape", laid_keyholder_api_ErrShape), ("keyholder/api.ErrName", laid_keyholder_api_ErrName), ("keyholder/api.ErrNone", laid_keyholder_api_ErrNone), ("keyholder/api.ErrExist", laid_keyholder_api_ErrExist), ("keyholder/api.ErrFull", laid_keyholder_api_ErrFull), ("keyholder/api.ErrOrder", laid_keyholder_api_ErrOrder), ("keyholder/api.ErrMark", laid_keyholder_api_ErrMark), ("keyholder/api.ErrKey", laid_keyholder_api_ErrKey), ("keyholder/api.ErrEarly", laid_keyholder_api_ErrEarly), ("keyholder/api.ErrLate", laid_keyholder_api_ErrLate), ("keyholder/api.ErrFloor", laid_keyholder_api_ErrFloor), ("keyholder/api.ErrStale", laid_keyholder_api_ErrStale), ("keyholder/api.ErrGap", laid_keyholder_api_ErrGap), ("keyholder/api.ErrOff", laid_keyholder_api_ErrOff)], narrowed := true }
def NamesUptoSaid : Prop := namesUptoRow.holds Tryd.pinned (OpenSpec.upto namesSpec)

/-- 'keyholderlaw1.MarkParts', WHERE WHAT IT READS IS OF BULK AT MOST 1048576: true; the input reads as it did. -/
def markPartsUptoRow : OpenClaim := { program := "ytkkjalokgaaniaadoor", sum := "a804f16e31d815cb1c20f76bdacc44c90d18f209e197bac57888c9bfd5e53930", func := "keyholder/keyholderlaw1.MarkParts", spec := "markParts", inPlace := ["internal/reflectlite.ValueOf", "(internal/reflectlite.Value).Type", "(internal/reflectlite.Value).IsNil", "internal/reflectlite.TypeOf", "(internal/reflectlite.Value).Elem", "(internal/reflectlite.Value).Set"], unfollowed := true, recurses := true, named := ["keyholder/api.ErrKey", "keyholder/api.ErrBound", "keyholder/api.ErrMark", "keyholder/api.ErrText", "keyholder/api.ErrShape", "keyholder/api.ErrName", "keyholder/api.ErrNone", "keyholder/api.ErrExist", "keyholder/api.ErrFull", "keyholder/api.ErrOrder", "keyholder/api.ErrEarly", "keyholder/api.ErrLate", "keyholder/api.ErrFloor", "keyholder/api.ErrStale", "keyholder/api.ErrGap", "keyholder/api.ErrOff", "errors.errorType"], apart := false, laid := [("errors.errorType", laid_errors_errorType), ("keyholder/api.ErrText", laid_keyholder_api_ErrText), ("keyholder/api.ErrBound", laid_keyholder_api_ErrBound), ("keyholder/api.ErrShape", laid_keyholder_api_ErrShape), ("keyholder/api.ErrName", laid_keyholder_api_ErrName), ("keyholder/api.ErrNone", laid_keyholder_api_ErrNone), ("keyholder/api.ErrExist", laid_keyholder_api_ErrExist), ("keyholder/api.ErrFull", laid_keyholder_api_ErrFull), ("keyholder/api.ErrOrder", laid_keyholder_api_ErrOrder), ("keyholder/api.ErrMark", laid_keyholder_api_ErrMark), ("keyholder/api.ErrKey", laid_keyholder_api_ErrKey), ("keyholder/api.ErrEarly", laid_keyholder_api_ErrEarly), ("keyholder/api.ErrLate", laid_keyholder_api_ErrLate), ("keyholder/api.ErrFloor", laid_keyholder_api_ErrFloor), ("keyholder/api.ErrStale", laid_keyholder_api_ErrStale), ("keyholder/api.ErrGap", laid_keyholder_api_ErrGap), ("keyholder/api.ErrOff", laid_keyholder_api_ErrOff)], narrowed := true }
def MarkPartsUptoSaid : Prop := markPartsUptoRow.holds Tryd.pinned (OpenSpec.upto markPartsSpec)

/-- 'keyholderlaw1.MarkTells', WHERE WHAT IT READS IS OF BULK AT MOST 1048576: true; the input reads as it did. -/
def markTellsUptoRow : OpenClaim := { program := "ytkkjalokgaaniaadoor", sum := "a804f16e31d815cb1c20f76bdacc44c90d18f209e197bac57888c9bfd5e53930", func := "keyholder/keyholderlaw1.MarkTells", spec := "markTells", inPlace := ["internal/reflectlite.ValueOf", "(internal/reflectlite.Value).Type", "(internal/reflectlite.Value).IsNil", "internal/reflectlite.TypeOf", "(internal/reflectlite.Value).Elem", "(internal/reflectlite.Value).Set"], unfollowed := true, recurses := true, named := ["keyholder/api.ErrKey", "keyholder/api.ErrBound", "keyholder/api.ErrMark", "keyholder/api.ErrText", "keyholder/api.ErrShape", "keyholder/api.ErrName", "keyholder/api.ErrNone", "keyholder/api.ErrExist", "keyholder/api.ErrFull", "keyholder/api.ErrOrder", "keyholder/api.ErrEarly", "keyholder/api.ErrLate", "keyholder/api.ErrFloor", "keyholder/api.ErrStale", "keyholder/api.ErrGap", "keyholder/api.ErrOff", "errors.errorType"], apart := false, laid := [("errors.errorType", laid_errors_errorType), ("keyholder/api.ErrText", laid_keyholder_api_ErrText), ("keyholder/api.ErrBound", laid_keyholder_api_ErrBound), ("keyholder/api.ErrShape", laid_keyholder_api_ErrShape), ("keyholder/api.ErrName", laid_keyholder_api_ErrName), ("keyholder/api.ErrNone", laid_keyholder_api_ErrNone), ("keyholder/api.ErrExist", laid_keyholder_api_ErrExist), ("keyholder/api.ErrFull", laid_keyholder_api_ErrFull), ("keyholder/api.ErrOrder", laid_keyholder_api_ErrOrder), ("keyholder/api.ErrMark", laid_keyholder_api_ErrMark), ("keyholder/api.ErrKey", laid_keyholder_api_ErrKey), ("keyholder/api.ErrEarly", laid_keyholder_api_ErrEarly), ("keyholder/api.ErrLate", laid_keyholder_api_ErrLate), ("keyholder/api.ErrFloor", laid_keyholder_api_ErrFloor), ("keyholder/api.ErrStale", laid_keyholder_api_ErrStale), ("keyholder/api.ErrGap", laid_keyholder_api_ErrGap), ("keyholder/api.ErrOff", laid_keyholder_api_ErrOff)], narrowed := true }
def MarkTellsUptoSaid : Prop := markTellsUptoRow.holds Tryd.pinned (OpenSpec.upto markTellsSpec)

/-- 'keyholderlaw1.PersonRises', WHERE WHAT IT READS IS OF BULK AT MOST 1048576: true; the input reads as it did. -/
def personRisesUptoRow : OpenClaim := { program := "ytkkjalokgaaniaadoor", sum := "a804f16e31d815cb1c20f76bdacc44c90d18f209e197bac57888c9bfd5e53930", func := "keyholder/keyholderlaw1.PersonRises", spec := "personRises", inPlace := ["internal/bytealg.abigen_runtime_cmpstring"], unfollowed := true, recurses := true, named := ["keyholder/api.ErrExist", "keyholder/api.ErrFull", "keyholder/api.ErrName", "keyholder/api.ErrKey", "keyholder/api.ErrBound", "keyholder/api.ErrNone"], apart := false, laid := [("keyholder/api.ErrBound", laid_keyholder_api_ErrBound), ("keyholder/api.ErrName", laid_keyholder_api_ErrName), ("keyholder/api.ErrNone", laid_keyholder_api_ErrNone), ("keyholder/api.ErrExist", laid_keyholder_api_ErrExist), ("keyholder/api.ErrFull", laid_keyholder_api_ErrFull), ("keyholder/api.ErrKey", laid_keyholder_api_ErrKey)], narrowed := true }
def PersonRisesUptoSaid : Prop := personRisesUptoRow.holds Tryd.pinned (OpenSpec.upto personRisesSpec)

end Rows
end Go.Proofs.YtkkjalokgaaniaaDoor

/-
  What package floor's readOne answers of a piece of a text: its floor and true, or false; for every text.
-/
import Derived.Test.YteofodegeigmaaaDoorFloorText
import Derived.Laws.ResultCell
import Derived.Laws.NewBlocks
namespace Go.Proofs.YteofodegeigmaaaDoor
open Go.RowKit Go.Extern.Stop Go.Stop Go.Extern Go.Proofs

theorem indexB_none (c : UInt8) : ∀ l : List UInt8, c ∉ l → Lib.indexByte l c = -1
  | [], _ => rfl
  | b :: l, h => by
    have hb : (b == c) = false := beq_eq_false_iff_ne.2 (fun e => h (by simp [e]))
    unfold Lib.indexByte
    rw [hb, indexB_none c l (fun e => h (by simp [e]))]
    rfl
theorem indexB_some (c : UInt8) (t : List UInt8) : ∀ a : List UInt8, c ∉ a → Lib.indexByte (a ++ c :: t) c = (a.length : Int)
  | [], _ => by unfold Lib.indexByte; simp
  | b :: a, h => by
    have hb : (b == c) = false := beq_eq_false_iff_ne.2 (fun e => h (by simp [e]))
    rw [List.cons_append]
    unfold Lib.indexByte
    rw [hb, indexB_some c t a (fun e => h (by simp [e]))]
    have : (((a.length : Int)) == -1) = false := by rw [beq_eq_false_iff_ne]; omega
    simp [this]
theorem extract_ahead (s : ByteArray) (a t : List UInt8) (c : UInt8) (h : s.data.toList = a ++ c :: t) : s.extract 0 a.length = txt a ∧ s.extract (a.length + 1) s.size = txt t := by
  have hl := congrArg List.length h
  rw [size_list] at hl
  constructor
  · refine Go.WideShapes.bytes_inj ?_
    rw [Lib.extract_data, h]
    simp
  · refine Go.WideShapes.bytes_inj ?_
    rw [Lib.extract_data, h, hl]
    simp
    exact List.take_of_length_le (by omega)
theorem first_cut (c : UInt8) (l : List UInt8) : (c ∉ l) ∨ ∃ a t, l = a ++ c :: t ∧ c ∉ a := by
  by_cases h : c ∈ l
  · exact Or.inr (Sl.first_blank c l h)
  · exact Or.inl h

/-- What Cut gives at one byte. -/
def cutV (c : UInt8) (s : ByteArray) : Array Value := if c ∈ s.data.toList then #[.string (txt (aheadB c s.data.toList)), .string (txt (behindB c s.data.toList)), .bool true] else #[.string s, .string ⟨#[]⟩, .bool false]
theorem cutV_no {c : UInt8} {s : ByteArray} (h : c ∉ s.data.toList) : cutV c s = #[.string s, .string ⟨#[]⟩, .bool false] := if_neg h
theorem cutV_yes {c : UInt8} {s : ByteArray} (h : c ∈ s.data.toList) : cutV c s = #[.string (txt (aheadB c s.data.toList)), .string (txt (behindB c s.data.toList)), .bool true] := if_pos h

set_option maxRecDepth 100000 in
set_option maxHeartbeats 1000000 in
theorem cutLite_any (s : ByteArray) (w : World) (hs : s.size ≤ maxLen) :
    Calls Tryd.prog 34 #[.string s, .string ⟨#[58]⟩] w fun e w' => e = .returned (.tuple (cutV 58 s)) ∧ ∃ q, w' = w.drewN q := by
  have HI := hide (fun w => Tryd.stringslite_Index_one s 58 w)
  unfold maxLen at hs
  rcases first_cut 58 s.data.toList with h | ⟨a, t, h, ha⟩
  · rw [indexB_none 58 _ h] at HI
    rw [cutV_no h]
    clear h
    go_enter Tryd.func34, Tryd.ntmps34
    go_wp2_with fail
    refine (HI.out _).mono ?_
    rintro e w1 ⟨rfl, rfl⟩
    go_wp2
    go_ret3
    exact ⟨rfl, 0, rfl⟩
  · obtain ⟨x1, x2⟩ := extract_ahead s a t 58 h
    obtain ⟨y1, y2⟩ := ahead_cut 58 t a ha
    have hl := congrArg List.length h
    rw [size_list, List.length_append, List.length_cons] at hl
    rw [cutV_yes (by rw [h]; simp), h, y1, y2, ← x1, ← x2]
    rw [h, indexB_some 58 t a ha] at HI
    clear h ha x1 x2 y1 y2
    generalize a.length = k at *
    have hk1 : (0 : Int) ≤ (k : Int) := by omega
    have hk2 : (k : Int) ≤ (s.size : Int) := by omega
    have hk3 : (k : Int) + 1 ≤ (s.size : Int) := by omega
    have hk4 : IntKind.i64.wrap ((k : Int) + 1) = (k : Int) + 1 := by rw [IntKind.wrap_i64]; omega
    have hk5 : (0 : Int) ≤ (k : Int) + 1 := by omega
    clear hl
    go_enter Tryd.func34, Tryd.ntmps34
    go_wp2_with fail
    refine (HI.out _).mono ?_
    rintro e w1 ⟨rfl, rfl⟩
    go_wp2
    go_quiet (fail)
    go_wp2
    go_ret3
    exact ⟨rfl, _, rfl⟩

theorem cut_any (s : ByteArray) (w : World) (hs : s.size ≤ maxLen) :
    Calls Tryd.prog 27 #[.string s, .string ⟨#[58]⟩] w fun e w' => e = .returned (.tuple (cutV 58 s)) ∧ ∃ q, w' = w.drewN q := by
  have H := hide (cutLite_any s w hs)
  rcases Decidable.em ((58 : UInt8) ∈ s.data.toList) with h | h
  · rw [cutV_yes h] at H ⊢
    generalize txt (aheadB 58 s.data.toList) = a at *
    generalize txt (behindB 58 s.data.toList) = b at *
    clear h
    go_enter Tryd.func27, Tryd.ntmps27
    go_wp2_with fail
    refine H.out.mono ?_
    rintro e w1 ⟨rfl, q, rfl⟩
    go_wp2
    go_ret3
    exact ⟨rfl, q, rfl⟩
  · rw [cutV_no h] at H ⊢
    clear h
    go_enter Tryd.func27, Tryd.ntmps27
    go_wp2_with fail
    refine H.out.mono ?_
    rintro e w1 ⟨rfl, q, rfl⟩
    go_wp2
    go_ret3
    exact ⟨rfl, q, rfl⟩

theorem num_big (l : List UInt8) : numB l 9223372036854775807 = numAny l := by
  unfold numB numAny
  cases h : Sl.numOk l with
  | false => rfl
  | true =>
    obtain ⟨h1, h2, _⟩ := (Sl.numOk_iff l).1 h
    have := Sl.valL_lt l h2 h1.2
    rw [decide_eq_true (by omega)]
    rfl
theorem numV_big {l : List UInt8} (h : numAny l = true) : numV l 9223372036854775807 = (Sl.valL l : Int) := by
  unfold numV
  rw [num_big, if_pos h]
theorem ahead_le (c : UInt8) (l : List UInt8) : (aheadB c l).length ≤ l.length := (List.takeWhile_sublist _).length_le
theorem behind_le (c : UInt8) (l : List UInt8) : (behindB c l).length ≤ l.length := by
  unfold behindB
  rw [List.length_drop]
  have := (List.dropWhile_sublist (fun b => b != c) (l := l)).length_le
  omega

theorem res_cell_tmp {P : Program} {fn : Func} {p u : Tmp} {ty : TypeId} (h : fn.results = #[.cell p ty, .tmp u]) (tmps : Array Value) (w : World) (g : Nat) (t : TypeId) (cs : Array Value) (fr : Nat × Nat) (d : TypeDesc)
    (hp : tmps.getD p undef = .pointer (some ⟨g, 0, none⟩)) (hg : w.heap[g]? = some (.cells cs t fr))
    (hu : P.underlying ty = some d) (hd : (match d with | .struct _ | .array _ _ => true | _ => false) = true) (hi : (P.info? ty).map (·.size) = some cs.size) :
    (results fn tmps).run P w = .ok (.tuple #[.agg cs, tmps.getD u undef]) w := by
  rw [results_cell_tmp h, hp]
  simp [asAddr, run_loadVar_row w g t ty cs fr d hg hu hd hi, Result.andThen]
/-- What readOne gives. -/
def rdV : Option Fl → Array Value
  | some f => #[.agg #[.string f.who, .int .i64 f.ep], .bool true]
  | none => #[.agg #[.string ByteArray.empty, .int .i64 0], .bool false]
theorem set2_row {w : World} {b : Nat} {x y : Value} {t : TypeId} (h : w.heap[b]? = some (.cells #[x, y] t (0, 0))) (u v : Value) : ((w.setCell ⟨b, 0, none⟩ u).setCell ⟨b, 0 + 1, none⟩ v).heap[b]? = some (.cells #[u, v] t (0, 0)) :=
  heap_setCell_same _ b 1 _ _ _ (heap_setCell_same w b 0 _ _ _ h)

end Go.Proofs.YteofodegeigmaaaDoor

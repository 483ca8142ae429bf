/-
  What the functions of these parts do, and what holds of their plain forms: Is, Base, MarkPlain, SealPlain, Shelf, SealSpec, PersonPlain, BookPlain, BookActs, TicketPlain, FloorPlain, FloorRun, QuietBelow, FloorLays, BookColl, BookIter, BookSeq, FloorWords, FeedLays.
-/
import Derived.Test.YtabpnjchocgakaaGreatDoorProg
import Derived.WalkKit
import Derived.LaidEql
import Derived.Stop.Asserts
import Derived.RowKitTokens
import Derived.Below
import Derived.Lib.SplitLaws
import Derived.Lib.Join
import Derived.Lib.ItoaNum
import Derived.Lib.ItoaMem
import Derived.Lib.ParseIntBCases
import Derived.Lib.LastIndexByte
import Derived.Lib.LastIndexLaws
import Derived.Shelf.Strings.OnBuilder
import Derived.Shelf.LaysM
import Derived.Shelf.Strconv.Itoa3
import Derived.Shelf.LaysC
import Derived.Shelf.Strconv.ParseIntPublic10
import Derived.Shelf.Strings.LastIndex
import Derived.Shelf.Strings.Split
import Derived.Maps.OwnSet
import Derived.Laws.CopyRow
import Derived.Laws.IdiomCopy
import Derived.Lib.SliceRun
import Derived.Deep.QuietTactic
import Derived.BigQuiet
import Derived.Shelf.SlicesE.Clone
import Derived.Shelf.Small.Strs
import Derived.Shelf.SlGeneric
import Derived.Sort.KeysCollected
import Derived.RangeFuncGives
import Derived.Maps.AppendAt
import Derived.Sort.MapsRangeIn
import Derived.OwnWalkIn
import Derived.TacticsInMore
import Derived.RegionIn
import Derived.LoopNIn
import Derived.LoopIn
import Derived.Shelf.SlIter.Collect
namespace Go.Proofs.YtabpnjchocgakaaGreatDoor
open Go.RowKit Go.Extern.Stop Go.Stop Go.Extern
theorem Tryz.isTypeOf (v : Value) (w : World) : (callFunc 168 #[.iface 328 v]).run Tryz.prog w = .ok (.value (.iface 263 (.agg #[.pointer (some ⟨25, 328, none⟩)]))) w := by kernel_rfl
theorem Tryz.isComparable (w : World) : (callFunc 292 #[.agg #[.pointer (some ⟨25, 328, none⟩)]]).run Tryz.prog w = .ok (.value (.bool true)) w := by kernel_rfl
theorem Tryz.isMethodComparable (v : Value) (w : World) : (Go.method 463 263 v "Comparable").run Tryz.prog w = .ok (292, v) w := by kernel_rfl
theorem Tryz.isComp : (Tryz.prog.info? 328).map (·.comparable) = some true := by kernel_rfl
theorem Tryz.isSize : (Tryz.prog.info? 330).map (·.size) = some 1 := by kernel_rfl
theorem Tryz.noIsE (v : Value) (xT : TypeId) (w : World) : (Instr.typeAssert (.iface 328 v) xT 274 true).run Tryz.prog w = .ok (.tuple #[.nilIface, .bool false]) w := run_typeAssert_lacksB Tryz.underlying274 (by kernel_rfl) (by kernel_rfl) v xT w
theorem Tryz.noUnwrapE (v : Value) (xT : TypeId) (w : World) : (Instr.typeAssert (.iface 328 v) xT 270 true).run Tryz.prog w = .ok (.tuple #[.nilIface, .bool false]) w := run_typeAssert_lacksB Tryz.underlying270 (by kernel_rfl) (by kernel_rfl) v xT w
theorem Tryz.noUnwrapsE (v : Value) (xT : TypeId) (w : World) : (Instr.typeAssert (.iface 328 v) xT 272 true).run Tryz.prog w = .ok (.tuple #[.nilIface, .bool false]) w := run_typeAssert_lacksB Tryz.underlying272 (by kernel_rfl) (by kernel_rfl) v xT w
theorem Tryz.noIsF (v : Value) (xT : TypeId) (w : World) : (Instr.typeAssert (.iface 157 v) xT 274 true).run Tryz.prog w = .ok (.tuple #[.nilIface, .bool false]) w := run_typeAssert_lacksB Tryz.underlying274 (by kernel_rfl) (by kernel_rfl) v xT w
theorem Tryz.hasUnwrapF (v : Value) (xT : TypeId) (w : World) : (Instr.typeAssert (.iface 157 v) xT 270 true).run Tryz.prog w = .ok (.tuple #[.iface 157 v, .bool true]) w := run_typeAssert_hasB Tryz.underlying270 (by kernel_rfl) v xT w
theorem Tryz.methodUnwrapF (v : Value) (w : World) : (Go.method 463 157 v "Unwrap").run Tryz.prog w = .ok (286, v) w := by kernel_rfl
theorem is_same (a : Addr) (w : World) :
  Calls Tryz.prog 119 #[.iface 328 (.pointer (some a)), .iface 328 (.pointer (some a))] w fun e w' => e = .returned (.bool true) ∧ w' = w := by
 obtain ⟨i, hi, hcmp⟩ := Option.map_eq_some_iff.1 Tryz.isComp
 obtain ⟨j, hj, hjs⟩ := Option.map_eq_some_iff.1 Tryz.isSize
 have tT := Tryz.isTypeOf
 have cT := Tryz.isComparable
 have mR := Tryz.isMethodComparable
 have heq := run_eql_iface_ptr_same (P := Tryz.prog) w a Tryz.underlying27 Tryz.underlying328 hi hcmp hj
 go_enter Tryz.func119, Tryz.ntmps119
 go_wp2
 refine wp_loop_rounds 1 ?_
 rw [rounds_succ]
 go_wp2
 go_ret
 exact ⟨rfl, rfl⟩
theorem is_other (a b : Addr) (ca cb : Array Value) (ta tb : TypeId) (w : World) (hne : a ≠ b) (ha : w.heap[a.block]? = some (.cells ca ta (0, 0))) (hb : w.heap[b.block]? = some (.cells cb tb (0, 0))) :
  Calls Tryz.prog 119 #[.iface 328 (.pointer (some a)), .iface 328 (.pointer (some b))] w fun e w' => e = .returned (.bool false) ∧ w' = w := by
 obtain ⟨i, hi, hcmp⟩ := Option.map_eq_some_iff.1 Tryz.isComp
 obtain ⟨j, hj, hjs⟩ := Option.map_eq_some_iff.1 Tryz.isSize
 have tT := Tryz.isTypeOf
 have cT := Tryz.isComparable
 have mR := Tryz.isMethodComparable
 have nE := Tryz.noIsE
 have uE := Tryz.noUnwrapE
 have vE := Tryz.noUnwrapsE
 have heq := run_eql_iface_ptr_other (P := Tryz.prog) w Tryz.underlying27 Tryz.underlying328 hi hcmp hj (by rw [hjs]; decide) hne ha hb
 go_enter Tryz.func119, Tryz.ntmps119
 go_wp2
 refine wp_loop_rounds 1 ?_
 rw [rounds_succ]
 go_wp2
 go_ret
 exact ⟨rfl, rfl⟩
theorem is_fault_same (pb po : Nat) (b : Addr) (w : World) (h1 : w.cell? ⟨pb, po + 1, none⟩ = some (.iface 328 (.pointer (some b)))) :
  Calls Tryz.prog 119 #[.iface 157 (.pointer (some ⟨pb, po, none⟩)), .iface 328 (.pointer (some b))] w fun e w' => e = .returned (.bool true) ∧ w' = w := by
 obtain ⟨i, hi, hcmp⟩ := Option.map_eq_some_iff.1 Tryz.isComp
 obtain ⟨j, hj, hjs⟩ := Option.map_eq_some_iff.1 Tryz.isSize
 have tT := Tryz.isTypeOf
 have cT := Tryz.isComparable
 have mR := Tryz.isMethodComparable
 have nF := Tryz.noIsF
 have uF := Tryz.hasUnwrapF
 have mU := Tryz.methodUnwrapF
 have heq := run_eql_iface_ptr_same (P := Tryz.prog) w b Tryz.underlying27 Tryz.underlying328 hi hcmp hj
 have hty := run_eql_iface_types (P := Tryz.prog) 157 328 (.pointer (some ⟨pb, po, none⟩)) (.pointer (some b)) Tryz.underlying27 (by decide) w
 go_enter Tryz.func119, Tryz.ntmps119
 go_wp2
 refine wp_loop_rounds 2 ?_
 rw [rounds_succ]
 go_wp2
 rw [rounds_succ]
 go_wp2
 go_ret
 exact ⟨rfl, rfl⟩
theorem is_fault_other (pb po : Nat) (b a : Addr) (ca cb : Array Value) (ta tb : TypeId) (w : World) (h1 : w.cell? ⟨pb, po + 1, none⟩ = some (.iface 328 (.pointer (some a)))) (hne : a ≠ b) (ha : w.heap[a.block]? = some (.cells ca ta (0, 0))) (hb : w.heap[b.block]? = some (.cells cb tb (0, 0))) :
  Calls Tryz.prog 119 #[.iface 157 (.pointer (some ⟨pb, po, none⟩)), .iface 328 (.pointer (some b))] w fun e w' => e = .returned (.bool false) ∧ w' = w := by
 obtain ⟨i, hi, hcmp⟩ := Option.map_eq_some_iff.1 Tryz.isComp
 obtain ⟨j, hj, hjs⟩ := Option.map_eq_some_iff.1 Tryz.isSize
 have tT := Tryz.isTypeOf
 have cT := Tryz.isComparable
 have mR := Tryz.isMethodComparable
 have nE := Tryz.noIsE
 have uE := Tryz.noUnwrapE
 have vE := Tryz.noUnwrapsE
 have nF := Tryz.noIsF
 have uF := Tryz.hasUnwrapF
 have mU := Tryz.methodUnwrapF
 have heq := run_eql_iface_ptr_other (P := Tryz.prog) w Tryz.underlying27 Tryz.underlying328 hi hcmp hj (by rw [hjs]; decide) hne ha hb
 have hty := run_eql_iface_types (P := Tryz.prog) 157 328 (.pointer (some ⟨pb, po, none⟩)) (.pointer (some b)) Tryz.underlying27 (by decide) w
 go_enter Tryz.func119, Tryz.ntmps119
 go_wp2
 refine wp_loop_rounds 2 ?_
 rw [rounds_succ]
 go_wp2
 rw [rounds_succ]
 go_wp2
 go_ret
 exact ⟨rfl, rfl⟩
end Go.Proofs.YtabpnjchocgakaaGreatDoor

namespace Go.Proofs.YtabpnjchocgakaaGreatDoor
open Go.RowKit
theorem hide {p : Prop} (h : p) : Hid p := h
theorem cell_lt {w : World} {p : Addr} {v : Value} (h : w.cell? p = some v) : p.block < w.heap.size := by
 rcases Nat.lt_or_ge p.block w.heap.size with g | g
 ·
  exact g
 ·
  simp [World.cell?, Array.getElem?_eq_none g] at h
theorem row_lt {w : World} {b : Nat} {o : Obj} (h : w.heap[b]? = some o) : b < w.heap.size := by
 rcases Nat.lt_or_ge b w.heap.size with g | g
 ·
  exact g
 ·
  simp [Array.getElem?_eq_none g] at h
end Go.Proofs.YtabpnjchocgakaaGreatDoor

namespace Go.Proofs.YtabpnjchocgakaaGreatDoor.Mk
def step (key m : Int) (b : UInt8) : Int := (m * 257 + (b.toNat : Int) + 1 + key) % 1000000007
def mk (key n : Int) (l : List UInt8) : Int := l.foldl (step key) n
theorem step_bd (key m : Int) (b : UInt8) : 0 ≤ step key m b ∧ step key m b ≤ 1000000006 := by unfold step; omega
theorem mk_nil (key n : Int) : mk key n [] = n := rfl
theorem mk_snoc (key n : Int) (l : List UInt8) (b : UInt8) : mk key n (l ++ [b]) = step key (mk key n l) b := by simp [mk]
theorem mk_cons (key n : Int) (b : UInt8) (l : List UInt8) : mk key n (b :: l) = mk key (step key n b) l := rfl
theorem mk_bd (key n : Int) (hn : 0 ≤ n ∧ n ≤ 1000000006) : ∀ l : List UInt8, 0 ≤ mk key n l ∧ mk key n l ≤ 1000000006 := by
 intro l
 induction l generalizing n with
 | nil => exact hn
 | cons b l ih => exact ih _ (step_bd key n b)
/-! From behind. -/
def pw (k : Nat) : Int := 257 ^ k % 1000000007
def sm (key : Int) : List UInt8 → Int
 | [] => 0
 | b :: l => (sm key l + pw l.length * (((b.toNat : Int) + 1 + key) % 1000000007)) % 1000000007
theorem pw_zero : pw 0 = 1 := by decide
theorem pw_succ (k : Nat) : pw (k + 1) = pw k * 257 % 1000000007 := by
 unfold pw
 rw [Int.pow_succ, Int.mul_emod, Int.mul_emod (257 ^ k % 1000000007) 257]
 simp
theorem pw_bd (k : Nat) : 0 ≤ pw k ∧ pw k ≤ 1000000006 := by unfold pw; omega
theorem sm_bd (key : Int) (l : List UInt8) : 0 ≤ sm key l ∧ sm key l ≤ 1000000006 := by
 cases l with
 | nil => simp [sm]
 | cons b l => unfold sm; omega
theorem mk_sm (key : Int) : ∀ (l : List UInt8) (n : Int), mk key n l % 1000000007 = (sm key l + pw l.length * n) % 1000000007 := by
 intro l
 induction l with
 | nil => intro n; simp [mk_nil, sm, pw_zero]
 | cons b l ih =>
  intro n
  rw [mk_cons, ih]
  have e1 : step key n b % 1000000007 = (n * 257 + (b.toNat : Int) + 1 + key) % 1000000007 := by unfold step; omega
  generalize hq : step key n b = q at *
  generalize hs : sm key l = s at *
  generalize hp : pw l.length = p at *
  have e2 : sm key (b :: l) = (s + p * (((b.toNat : Int) + 1 + key) % 1000000007)) % 1000000007 := by simp only [sm, hs, hp]
  have e3 : pw (b :: l).length = p * 257 % 1000000007 := by rw [List.length_cons, pw_succ, hp]
  rw [e2, e3]
  have hdiv : ∀ a b : Int, a % 1000000007 = b % 1000000007 → ∃ c, a = b + 1000000007 * c := fun a b h => ⟨(a - b) / 1000000007, by omega⟩
  have hmul : ∀ a b : Int, (∃ c, a = b + 1000000007 * c) → a % 1000000007 = b % 1000000007 := by
   rintro a b ⟨c, rfl⟩; omega
  obtain ⟨c1, h1⟩ := hdiv _ _ e1
  obtain ⟨c2, h2⟩ := hdiv (((b.toNat : Int) + 1 + key) % 1000000007) ((b.toNat : Int) + 1 + key) (by omega)
  obtain ⟨c3, h3⟩ := hdiv ((s + p * (((b.toNat : Int) + 1 + key) % 1000000007)) % 1000000007) (s + p * (((b.toNat : Int) + 1 + key) % 1000000007)) (by omega)
  obtain ⟨c4, h4⟩ := hdiv (p * 257 % 1000000007) (p * 257) (by omega)
  apply hmul
  rw [h3, h4, h2, h1]
  refine ⟨p * c1 - p * c2 - c3 - c4 * n, ?_⟩
  grind
theorem mk_behind (key n : Int) (l : List UInt8) (hn : 0 ≤ n ∧ n ≤ 1000000006) : (sm key l + pw l.length * n) % 1000000007 = mk key n l := by
 rw [← mk_sm]
 have := mk_bd key n hn l
 omega
end Go.Proofs.YtabpnjchocgakaaGreatDoor.Mk

namespace Go.Proofs.YtabpnjchocgakaaGreatDoor.Sl
open Go
def digB (b : UInt8) : Bool := decide (48 ≤ b.toNat ∧ b.toNat ≤ 57)
def smallB (b : UInt8) : Bool := digB b || decide (97 ≤ b.toNat ∧ b.toNat ≤ 122)
def wordB (b : UInt8) : Bool := smallB b || decide (b.toNat = 45) || decide (b.toNat = 42)
def madeL (p : UInt8 → Bool) (most : Nat) (l : List UInt8) : Bool := decide (1 ≤ l.length ∧ l.length ≤ most) && l.all p
def nameL (l : List UInt8) : Bool := madeL smallB 8 l
def wordL (l : List UInt8) : Bool := madeL wordB 20 l
def numOk (l : List UInt8) : Bool := madeL digB 10 l && !(decide (1 < l.length) && decide (l.head? = some 48))
def stepV (m : Nat) (b : UInt8) : Nat := 10 * m + (b.toNat - 48)
def valF (n : Nat) (l : List UInt8) : Nat := l.foldl stepV n
def valL (l : List UInt8) : Nat := valF 0 l
theorem valF_cons0 (n : Nat) (b : UInt8) (l : List UInt8) : valF n (b :: l) = valF (stepV n b) l := by unfold valF; rw [List.foldl_cons]
theorem valF_cons (n : Nat) (b : UInt8) (l : List UInt8) : valF n (b :: l) = valF (10 * n + (b.toNat - 48)) l := by rw [valF_cons0]; unfold stepV; exact Eq.refl _
theorem valF_append (a : List UInt8) (n : Nat) (b : List UInt8) : valF n (a ++ b) = valF (valF n a) b := List.foldl_append
theorem valF_snoc (n : Nat) (b : UInt8) (l : List UInt8) : valF n (l ++ [b]) = 10 * valF n l + (b.toNat - 48) := by
 rw [valF_append, valF_cons0]; show stepV _ _ = _; unfold stepV; rfl
theorem valL_snoc (b : UInt8) (l : List UInt8) : valL (l ++ [b]) = 10 * valL l + (b.toNat - 48) := valF_snoc 0 b l
theorem valF_lt : ∀ (l : List UInt8) (n : Nat), l.all digB = true → valF n l < (n + 1) * 10 ^ l.length
 | [], n, _ => by show n < _; simp
 | b :: l, n, h => by
  simp only [List.all_cons, Bool.and_eq_true] at h
  have hb : b.toNat ≤ 57 := by have := h.1; simp [digB] at this; exact this.2
  rw [valF_cons]
  have := valF_lt l (10 * n + (b.toNat - 48)) h.2
  refine Nat.lt_of_lt_of_le this ?_
  rw [List.length_cons, Nat.pow_succ, Nat.mul_comm (10 ^ l.length) 10, ← Nat.mul_assoc]
  exact Nat.mul_le_mul_right _ (by omega)
theorem valL_lt (l : List UInt8) (h : l.all digB = true) (hl : l.length ≤ 10) : valL l < 10000000000 := by
 have := valF_lt l 0 h
 have h2 : 10 ^ l.length ≤ 10 ^ 10 := Nat.pow_le_pow_right (by decide) hl
 have h3 : (10 : Nat) ^ 10 = 10000000000 := by decide
 unfold valL
 omega
/-! ### The numeral of a number -/
theorem dig_ofNat (u : Nat) (h : u < 10) : digB (UInt8.ofNat (48 + u)) = true ∧ (UInt8.ofNat (48 + u)).toNat = 48 + u := by
 have : (UInt8.ofNat (48 + u)).toNat = 48 + u := by rw [UInt8.toNat_ofNat']; omega
 refine ⟨?_, this⟩
 unfold digB
 rw [this]
 simp; omega
theorem dec_all (u : Nat) : (Lib.decDigits u).all digB = true := by
 induction u using Nat.strongRecOn with
 | _ u ih =>
  by_cases h : u < 10
  ·
   rw [Lib.decDigits_one h, List.all_cons, (dig_ofNat u h).1]; rfl
  ·
   rw [Lib.decDigits, dif_neg h, List.all_append, ih (u / 10) (by omega), List.all_cons, (dig_ofNat (u % 10) (by omega)).1]; rfl
theorem dec_val (u : Nat) : valL (Lib.decDigits u) = u := by
 induction u using Nat.strongRecOn with
 | _ u ih =>
  by_cases h : u < 10
  ·
   rw [Lib.decDigits_one h]
   show 10 * 0 + ((UInt8.ofNat (48 + u)).toNat - 48) = u
   rw [(dig_ofNat u h).2]; omega
  ·
   rw [Lib.decDigits, dif_neg h, valL_snoc, ih (u / 10) (by omega), (dig_ofNat (u % 10) (by omega)).2]; omega
theorem dec_ne_nil (u : Nat) : Lib.decDigits u ≠ [] := by
 intro h
 have := Lib.decDigits_length u
 rw [h] at this
 have := Lib.nDigits_pos u
 simp at *
 omega
theorem head_append {α} (a b : List α) (h : a ≠ []) : (a ++ b).head? = a.head? := by
 cases a with
 | nil => exact absurd rfl h
 | cons x a => rfl
theorem dec_head (u : Nat) (hu : 1 ≤ u) : (Lib.decDigits u).head? ≠ some 48 := by
 induction u using Nat.strongRecOn with
 | _ u ih =>
  by_cases h : u < 10
  ·
   rw [Lib.decDigits_one h]
   intro e
   have e : UInt8.ofNat (48 + u) = 48 := by simpa using e
   have := congrArg UInt8.toNat e
   rw [(dig_ofNat u h).2] at this
   have e2 : (48 : UInt8).toNat = 48 := by decide
   omega
  ·
   rw [Lib.decDigits, dif_neg h]
   have := ih (u / 10) (by omega) (by omega)
   rw [head_append _ _ (dec_ne_nil _)]
   exact this
theorem dec_ok (u : Nat) (h : u < 10000000000) : numOk (Lib.decDigits u) = true := by
 unfold numOk madeL
 rw [dec_all, Lib.decDigits_length]
 have h1 := Lib.nDigits_pos u
 have h2 : Lib.nDigits u ≤ 10 := by
  rcases Nat.lt_or_ge (Lib.nDigits u) 11 with g | g
  ·
   omega
  ·
   exfalso
   have hlt : ∀ u : Nat, 1 ≤ u → 10 ^ (Lib.nDigits u - 1) ≤ u := by
    intro u
    induction u using Nat.strongRecOn with
    | _ u ih =>
     intro hu
     by_cases h : u < 10
     ·
      rw [Lib.nDigits_small h]; simpa using hu
     ·
      rw [Lib.nDigits_big h]
      have h0 := ih (u / 10) (by omega) (by omega)
      have hp := Lib.nDigits_pos (u / 10)
      rw [show Lib.nDigits (u / 10) + 1 - 1 = (Lib.nDigits (u / 10) - 1) + 1 by omega, Nat.pow_succ]
      omega
   have hu : 1 ≤ u := by
    rcases Nat.eq_zero_or_pos u with e | e
    ·
     subst e; rw [Lib.nDigits_small (by decide)] at g; omega
    ·
     exact e
   have := hlt u hu
   have h3 : 10 ^ 10 ≤ 10 ^ (Lib.nDigits u - 1) := Nat.pow_le_pow_right (by decide) (by omega)
   have h4 : (10 : Nat) ^ 10 = 10000000000 := by decide
   omega
 have h3 : (decide (1 < Lib.nDigits u) && decide ((Lib.decDigits u).head? = some 48)) = false := by
  by_cases hu : u < 10
  ·
   rw [Lib.nDigits_small hu]; rfl
  ·
   have := dec_head u (by omega)
   simp [this]
 rw [h3]
 simp [h1, h2]
theorem numOk_iff (l : List UInt8) : numOk l = true ↔ (1 ≤ l.length ∧ l.length ≤ 10) ∧ l.all digB = true ∧ (1 < l.length → l.head? ≠ some 48) := by
 unfold numOk madeL
 simp only [Bool.and_eq_true, decide_eq_true_eq, Bool.not_eq_true', Bool.and_eq_false_imp, decide_eq_false_iff_not, and_assoc]
theorem parseM (M : Nat) : ∀ (l : List UInt8) (acc : Nat), l.all digB = true → valF acc l ≤ M → (acc + 1) * 10 ^ l.length ≤ 18446744073709551616 → Lib.parseUintM M acc l = .ok (valF acc l)
 | [], acc, _, _, _ => rfl
 | b :: l, acc, h, hM, hb => by
  simp only [List.all_cons, Bool.and_eq_true] at h
  have hd : 48 ≤ b.toNat ∧ b.toNat ≤ 57 := by have := h.1; simpa [digB] using this
  have hmono : ∀ (l : List UInt8) (n : Nat), n ≤ valF n l := by
   intro l
   induction l with
   | nil => intro n; exact Nat.le_refl _
   | cons c l ih => intro n; rw [valF_cons]; exact Nat.le_trans (by omega) (ih _)
  rw [valF_cons] at hM ⊢
  rw [List.length_cons, Nat.pow_succ] at hb
  have hp : 1 ≤ 10 ^ l.length := Nat.one_le_pow _ _ (by decide)
  have h10 : (acc + 1) * 10 ≤ 18446744073709551616 := by
   refine Nat.le_trans ?_ hb
   rw [Nat.mul_comm (10 ^ l.length) 10, ← Nat.mul_assoc]
   exact Nat.le_mul_of_pos_right _ hp
  have hle := hmono l (10 * acc + (b.toNat - 48))
  unfold Lib.parseUintM
  rw [if_pos hd, if_neg (by omega), if_neg (by rw [Nat.mul_comm]; omega), Nat.mul_comm acc 10]
  refine parseM M l _ h.2 hM (Nat.le_trans ?_ hb)
  rw [Nat.mul_comm (10 ^ l.length) 10, ← Nat.mul_assoc]
  exact Nat.mul_le_mul_right _ (by omega)
theorem parse_ok (l : List UInt8) (h1 : 1 ≤ l.length) (h10 : l.length ≤ 10) (h : l.all digB = true) : Lib.parseIntB 64 l = .ok (valL l : Int) := by
 match l, h1 with
 | c :: r, _ =>
  have hd : 48 ≤ c.toNat ∧ c.toNat ≤ 57 := by simp only [List.all_cons, Bool.and_eq_true] at h; have := h.1; simpa [digB] using this
  have hlt := valL_lt (c :: r) h h10
  rw [Lib.parseIntB_plain 64 c r (by omega) (by omega)]
  unfold Lib.parseUintB
  rw [if_neg (by simp), parseM _ (c :: r) 0 h (by show valL (c :: r) ≤ _; omega) (by
   have h2 : 10 ^ (c :: r).length ≤ 10 ^ 10 := Nat.pow_le_pow_right (by decide) h10
   have h3 : (10 : Nat) ^ 10 = 10000000000 := by decide
   omega)]
  show (if 2 ^ (64 - 1) ≤ valL (c :: r) then _ else _) = _
  rw [if_neg (by omega)]
  rfl
/-! ### Pieces between blanks -/
def pieces : List UInt8 → List (List UInt8)
 | [] => [[]]
 | b :: l => if b = 32 then [] :: pieces l else (b :: (pieces l).headD []) :: (pieces l).tail
theorem pieces_ne : ∀ l, pieces l ≠ []
 | [] => by simp [pieces]
 | b :: l => by unfold pieces; split <;> simp
theorem headD_append {α} (a b : List α) (d : α) (h : a ≠ []) : (a ++ b).headD d = a.headD d := by
 cases a with
 | nil => exact absurd rfl h
 | cons x a => rfl
theorem tail_append {α} (a b : List α) (h : a ≠ []) : (a ++ b).tail = a.tail ++ b := by
 cases a with
 | nil => exact absurd rfl h
 | cons x a => rfl
theorem pieces_cut (t : List UInt8) : ∀ a, pieces (a ++ 32 :: t) = pieces a ++ pieces t
 | [] => by simp [pieces]
 | b :: a => by
  rw [List.cons_append]
  by_cases h : b = 32
  ·
   simp only [pieces, if_pos h, pieces_cut t a, List.cons_append]
  ·
   simp only [pieces, if_neg h, pieces_cut t a, List.cons_append]
   rw [headD_append _ _ _ (pieces_ne a), tail_append _ _ (pieces_ne a)]
theorem pieces_plain : ∀ l : List UInt8, (32 : UInt8) ∉ l → pieces l = [l]
 | [], _ => rfl
 | b :: l, h => by
  have hb : b ≠ 32 := fun e => h (by simp [e])
  simp only [pieces, if_neg hb, pieces_plain l (fun e => h (by simp [e]))]
  rfl
theorem pieces_snoc (b : UInt8) (hb : b ≠ 32) : ∀ (a : List UInt8) (o : List (List UInt8)) (l : List UInt8), pieces a = o ++ [l] → pieces (a ++ [b]) = o ++ [l ++ [b]]
 | [], o, l, h => by
  have : o = [] ∧ l = [] := by
   cases o with
   | nil => simp [pieces] at h; exact ⟨rfl, h⟩
   | cons x o => simp [pieces] at h
  obtain ⟨rfl, rfl⟩ := this
  simp [pieces, hb]
 | c :: a, o, l, h => by
  rw [List.cons_append]
  have hp : ∃ o' l', pieces a = o' ++ [l'] := ⟨(pieces a).dropLast, (pieces a).getLast (pieces_ne a), (List.dropLast_concat_getLast (pieces_ne a)).symm⟩
  obtain ⟨o', l', hp⟩ := hp
  have ih := pieces_snoc b hb a o' l' hp
  by_cases hc : c = 32
  ·
   simp only [pieces, if_pos hc, hp, ih] at h ⊢
   have h2 : ([] :: o') ++ [l'] = o ++ [l] := by simpa using h
   obtain ⟨rfl, e⟩ := List.append_inj' h2 rfl
   injection e with e
   subst e
   rfl
  ·
   simp only [pieces, if_neg hc, hp, ih] at h ⊢
   cases o' with
   | nil =>
    simp only [List.nil_append, List.headD_cons, List.tail_cons] at h ⊢
    cases o with
    | nil => simp at h; subst h; simp
    | cons x o => simp at h
   | cons x o' =>
    simp only [List.cons_append, List.headD_cons, List.tail_cons] at h ⊢
    have h2 : ((c :: x) :: o') ++ [l'] = o ++ [l] := by simpa using h
    obtain ⟨rfl, e⟩ := List.append_inj' h2 rfl
    injection e with e
    subst e
    rfl
theorem join_cons2 (x : List UInt8) (r : List (List UInt8)) (hr : r ≠ []) : Lib.join (x :: r) [32] = x ++ 32 :: Lib.join r [32] := by
 cases r with
 | nil => exact absurd rfl hr
 | cons y r => rw [Lib.join_cons, Lib.join_cons]; simp [Lib.joinTail]
theorem join_snoc (w : List UInt8) : ∀ (r : List (List UInt8)), r ≠ [] → Lib.join (r ++ [w]) [32] = Lib.join r [32] ++ 32 :: w
 | [], h => absurd rfl h
 | x :: r, _ => by
  rw [List.cons_append]
  by_cases hr : r = []
  ·
   subst hr; rw [List.nil_append, join_cons2 _ _ (by simp), Lib.join_one, Lib.join_one]
  ·
   rw [join_cons2 _ _ (by simp), join_snoc w r hr, join_cons2 _ _ hr]; simp
theorem join_pieces : ∀ l : List UInt8, Lib.join (pieces l) [32] = l
 | [] => rfl
 | b :: l => by
  have ih := join_pieces l
  by_cases hb : b = 32
  ·
   simp only [pieces, if_pos hb]
   rw [join_cons2 _ _ (pieces_ne l), ih, hb]
   rfl
  ·
   have hp : ∃ x o, pieces l = x :: o := by
    cases hq : pieces l with
    | nil => exact absurd hq (pieces_ne l)
    | cons x o => exact ⟨x, o, rfl⟩
   obtain ⟨x, o, hp⟩ := hp
   simp only [pieces, if_neg hb, hp, List.headD_cons, List.tail_cons]
   rw [hp] at ih
   by_cases ho : o = []
   ·
    subst ho; rw [Lib.join_one] at ih ⊢; rw [ih]
   ·
    rw [join_cons2 _ _ ho] at ih ⊢; rw [← ih]; rfl
theorem pieces_join : ∀ (ws : List (List UInt8)), ws ≠ [] → (∀ w ∈ ws, (32 : UInt8) ∉ w) → pieces (Lib.join ws [32]) = ws
 | [], h, _ => absurd rfl h
 | [x], _, hc => by rw [Lib.join_one]; exact pieces_plain x (hc x (by simp))
 | x :: y :: r, _, hc => by
  rw [join_cons2 _ _ (by simp), pieces_cut, pieces_plain x (hc x (by simp)), pieces_join (y :: r) (by simp) (fun w hw => hc w (by simp [hw]))]
  rfl
/-! ### What the library's cutting gives -/
theorem index_one_some (c : UInt8) (t : List UInt8) : ∀ a : List UInt8, c ∉ a → Lib.index (a ++ c :: t) [c] = (a.length : Int)
 | [], _ => by unfold Lib.index; simp [List.isPrefixOf]
 | b :: a, h => by
  have hb : c ≠ b := fun e => h (by simp [e])
  have h0 : [c].isPrefixOf (b :: (a ++ c :: t)) = false := by simp [List.isPrefixOf, hb]
  rw [List.cons_append]
  unfold Lib.index
  rw [h0, index_one_some c t a (fun e => h (by simp [e]))]
  have : (((a.length : Int)) == -1) = false := by rw [beq_eq_false_iff_ne]; omega
  simp [this]
theorem first_blank (c : UInt8) : ∀ l : List UInt8, c ∈ l → ∃ a t, l = a ++ c :: t ∧ c ∉ a
 | [], h => by simp at h
 | b :: l, h => by
  by_cases hb : b = c
  ·
   subst hb; exact ⟨[], l, rfl, by simp⟩
  ·
   have : c ∈ l := by simpa [Ne.symm hb] using h
   obtain ⟨a, t, rfl, ha⟩ := first_blank c l this
   exact ⟨b :: a, t, rfl, by simp [ha, Ne.symm hb]⟩
theorem last_blank (c : UInt8) (l : List UInt8) (h : c ∈ l) : ∃ a t, l = a ++ c :: t ∧ c ∉ t := by
 obtain ⟨a, t, e, ha⟩ := first_blank c l.reverse (by simpa using h)
 refine ⟨t.reverse, a.reverse, ?_, by simpa using ha⟩
 have := congrArg List.reverse e
 simpa using this
theorem splitK_pieces : ∀ (k : Nat) (l : List UInt8), l.count 32 = k → Lib.splitK [32] 0 k l = pieces l
 | 0, l, h => by
  have : (32 : UInt8) ∉ l := List.count_eq_zero.1 h
  rw [pieces_plain l this]; rfl
 | k + 1, l, h => by
  have hm : (32 : UInt8) ∈ l := List.count_pos_iff.1 (by omega)
  obtain ⟨a, t, rfl, ha⟩ := first_blank 32 l hm
  have hi := index_one_some 32 t a ha
  have hk : t.count 32 = k := by
   rw [List.count_append, List.count_cons, List.count_eq_zero.2 ha] at h
   simp at h; exact h
  unfold Lib.splitK
  rw [hi, if_neg (by simp)]
  simp only [Int.toNat_natCast, Nat.add_zero, List.length_singleton]
  rw [List.take_left, show (a ++ 32 :: t).drop (a.length + 1) = t by simp [List.drop_append], splitK_pieces k t hk, pieces_cut, pieces_plain a ha]
  rfl
end Go.Proofs.YtabpnjchocgakaaGreatDoor.Sl

namespace Go.Proofs
open Go.Shelf
def Tryz.lays156_ren : Go.Shelf.Ren := ⟨fun | 156 => 179 | 165 => 211 | 166 => 212 | 169 => 213 | 240 => 240 | 241 => 241 | 276 => 258 | 277 => 259 | n => n, fun | 31 => 106 | 9 => 9 | 3 => 3 | 4 => 4 | 0 => 0 | 20 => 20 | 72 => 283 | 76 => 58 | 70 => 281 | 37 => 237 | 75 => 27 | 127 => 309 | 164 => 222 | 5 => 5 | 80 => 285 | n => n, fun | n => n⟩
theorem Tryz.lays156 : Go.Proofs.Lays.n156 Tryz.prog Tryz.lays156_ren := {
 mixed := by kernel_rfl
 f156 := Tryz.func179.trans (congrArg some (by kernel_rfl))
 f165 := Tryz.func211.trans (congrArg some (by kernel_rfl))
 f166 := Tryz.func212.trans (congrArg some (by kernel_rfl))
 f169 := Tryz.func213.trans (congrArg some (by kernel_rfl))
 f240 := Tryz.func240.trans (congrArg some (by kernel_rfl))
 f241 := Tryz.func241.trans (congrArg some (by kernel_rfl))
 f276 := Tryz.func258.trans (congrArg some (by kernel_rfl))
 f277 := Tryz.func259.trans (congrArg some (by kernel_rfl))
 t0 := Tryz.underlying0
 a0 := Tryz.isAgg0
 z0 := Tryz.sizeOf0
 v0 := Tryz.zeroValue0
 t3 := Tryz.underlying3
 a3 := Tryz.isAgg3
 z3 := Tryz.sizeOf3
 v3 := Tryz.zeroValue3
 t4 := Tryz.underlying4
 a4 := Tryz.isAgg4
 z4 := Tryz.sizeOf4
 v4 := Tryz.zeroValue4
 t9 := Tryz.underlying9
 a9 := Tryz.isAgg9
 z9 := Tryz.sizeOf9
 v9 := Tryz.zeroValue9
 t20 := Tryz.underlying20
 a20 := Tryz.isAgg20
 z20 := Tryz.sizeOf20
 v20 := Tryz.zeroValue20
 t31 := Tryz.underlying106
 a31 := Tryz.isAgg106
 z31 := Tryz.sizeOf106
 v31 := Tryz.zeroValue106
 t37 := Tryz.underlying237
 a37 := Tryz.isAgg237
 z37 := Tryz.sizeOf237
 v37 := Tryz.zeroValue237
 t70 := Tryz.underlying281
 a70 := Tryz.isAgg281
 z70 := Tryz.sizeOf281
 v70 := Tryz.zeroValue281
 t72 := Tryz.underlying283
 a72 := Tryz.isAgg283
 z72 := Tryz.sizeOf283
 v72 := Tryz.zeroValue283
 t75 := Tryz.underlying27
 a75 := Tryz.isAgg27
 z75 := Tryz.sizeOf27
 v75 := Tryz.zeroValue27
 t76 := Tryz.underlying58
 a76 := Tryz.isAgg58
 z76 := Tryz.sizeOf58
 v76 := Tryz.zeroValue58
 t127 := Tryz.underlying309
 a127 := Tryz.isAgg309
 z127 := Tryz.sizeOf309
 v127 := Tryz.zeroValue309
 t164 := Tryz.underlying222
 a164 := Tryz.isAgg222
 z164 := Tryz.sizeOf222
 v164 := Tryz.zeroValue222 }
theorem Tryz.Builder_Extra_156 : Builder.Extra Tryz.prog Tryz.lays156_ren := {
 sizeBuilder := by kernel_rfl
 liesBuilder := by kernel_rfl
 t5 := Tryz.underlying5
 a5 := Tryz.isAgg5
 z5 := Tryz.sizeOf5
 v5 := Tryz.zeroValue5
 infoByte := by kernel_rfl
 cellsByte := by kernel_rfl
 sizeByte := by kernel_rfl
 neB5 := by decide }
open Go.RowKit in
theorem Tryz.strings_Join (bk o c : Nat) (xs : List ByteArray) (sep : ByteArray) (w : World) (hcells : ∀ (j : Nat) x, xs[j]? = some x → w.cell? ⟨bk, o + j, none⟩ = some (.string x)) (hbk : bk < w.heap.size) (hN : xs.length ≤ 140737488355328) (hcap : xs.length ≤ c) (hlen : (Lib.join (xs.map (·.data.toList)) sep.data.toList).length ≤ 140737488355328) :
  Calls Tryz.prog 179 #[.slice (some ⟨bk, o, none⟩) xs.length c, .string sep] w fun e w' => e = .returned (.string ⟨(Lib.join (xs.map (·.data.toList)) sep.data.toList).toArray⟩) ∧ Below w.heap.size w w' := Any.strings_Join Tryz.lays156 Tryz.Builder_Extra_156 bk o c xs sep w hcells hbk hN hcap hlen
def Tryz.laysM171_ren : Go.Shelf.Ren := ⟨fun | 171 => 51 | 243 => 100 | 246 => 147 | 283 => 185 | 284 => 186 | 285 => 187 | 286 => 188 | 129 => 215 | 317 => 214 | 318 => 216 | 319 => 217 | 320 => 218 | 337 => 242 | 338 => 243 | n => n, fun | 3 => 3 | 9 => 9 | 2 => 2 | 4 => 4 | 171 => 248 | 0 => 0 | 53 => 249 | 37 => 237 | 5 => 5 | 173 => 252 | 212 => 288 | 51 => 289 | 20 => 20 | 213 => 290 | 46 => 221 | 232 => 326 | 233 => 327 | n => n, fun | 17 => 18 | 18 => 21 | 19 => 22 | n => n⟩
theorem Tryz.laysM171 : Go.Proofs.LaysM.n171 Tryz.prog Tryz.laysM171_ren := {
 mixed := by kernel_rfl
 f129 := Tryz.func215.trans (congrArg some (by kernel_rfl))
 f171 := Tryz.func51.trans (congrArg some (by kernel_rfl))
 f243 := Tryz.func100.trans (congrArg some (by kernel_rfl))
 f246 := Tryz.func147.trans (congrArg some (by kernel_rfl))
 f283 := Tryz.func185.trans (congrArg some (by kernel_rfl))
 f284 := Tryz.func186.trans (congrArg some (by kernel_rfl))
 f285 := Tryz.func187.trans (congrArg some (by kernel_rfl))
 f286 := Tryz.func188.trans (congrArg some (by kernel_rfl))
 f317 := Tryz.func214.trans (congrArg some (by kernel_rfl))
 f318 := Tryz.func216.trans (congrArg some (by kernel_rfl))
 f319 := Tryz.func217.trans (congrArg some (by kernel_rfl))
 f320 := Tryz.func218.trans (congrArg some (by kernel_rfl))
 f337 := Tryz.func242.trans (congrArg some (by kernel_rfl))
 f338 := Tryz.func243.trans (congrArg some (by kernel_rfl))
 t0 := Tryz.underlying0
 a0 := Tryz.isAgg0
 z0 := Tryz.sizeOf0
 v0 := Tryz.zeroValue0
 t2 := Tryz.underlying2
 a2 := Tryz.isAgg2
 z2 := Tryz.sizeOf2
 v2 := Tryz.zeroValue2
 t3 := Tryz.underlying3
 a3 := Tryz.isAgg3
 z3 := Tryz.sizeOf3
 v3 := Tryz.zeroValue3
 t4 := Tryz.underlying4
 a4 := Tryz.isAgg4
 z4 := Tryz.sizeOf4
 v4 := Tryz.zeroValue4
 t5 := Tryz.underlying5
 a5 := Tryz.isAgg5
 z5 := Tryz.sizeOf5
 v5 := Tryz.zeroValue5
 t9 := Tryz.underlying9
 a9 := Tryz.isAgg9
 z9 := Tryz.sizeOf9
 v9 := Tryz.zeroValue9
 t20 := Tryz.underlying20
 a20 := Tryz.isAgg20
 z20 := Tryz.sizeOf20
 v20 := Tryz.zeroValue20
 t37 := Tryz.underlying237
 a37 := Tryz.isAgg237
 z37 := Tryz.sizeOf237
 v37 := Tryz.zeroValue237
 t46 := Tryz.underlying221
 a46 := Tryz.isAgg221
 z46 := Tryz.sizeOf221
 v46 := Tryz.zeroValue221
 t51 := Tryz.underlying289
 a51 := Tryz.isAgg289
 z51 := Tryz.sizeOf289
 v51 := Tryz.zeroValue289
 t53 := Tryz.underlying249
 a53 := Tryz.isAgg249
 z53 := Tryz.sizeOf249
 v53 := Tryz.zeroValue249
 t171 := Tryz.underlying248
 a171 := Tryz.isAgg248
 z171 := Tryz.sizeOf248
 v171 := Tryz.zeroValue248
 t173 := Tryz.underlying252
 a173 := Tryz.isAgg252
 z173 := Tryz.sizeOf252
 v173 := Tryz.zeroValue252
 t212 := Tryz.underlying288
 a212 := Tryz.isAgg288
 z212 := Tryz.sizeOf288
 v212 := Tryz.zeroValue288
 t213 := Tryz.underlying290
 a213 := Tryz.isAgg290
 z213 := Tryz.sizeOf290
 t232 := Tryz.underlying326
 a232 := Tryz.isAgg326
 z232 := Tryz.sizeOf326
 v232 := Tryz.zeroValue326
 t233 := Tryz.underlying327
 a233 := Tryz.isAgg327
 z233 := Tryz.sizeOf327
 v233 := Tryz.zeroValue327
 g17 := by kernel_rfl
 g18 := by kernel_rfl
 g19 := by kernel_rfl
 i0 := by kernel_rfl
 i2 := by kernel_rfl
 i3 := by kernel_rfl
 i4 := by kernel_rfl
 i5 := by kernel_rfl
 i9 := by kernel_rfl
 i20 := by kernel_rfl
 i37 := by kernel_rfl
 i46 := by kernel_rfl
 i51 := by kernel_rfl
 i53 := by kernel_rfl
 i171 := by kernel_rfl
 i173 := by kernel_rfl
 i212 := by kernel_rfl
 i232 := by kernel_rfl
 i233 := by kernel_rfl
 m17 := by kernel_rfl
 m18 := by kernel_rfl
 m19 := by kernel_rfl }
open Go.RowKit Go.Sort Go.Lib in
theorem Tryz.strconv_Itoa (n : Int) (h0 : -9223372036854775808 ≤ n) (h1 : n ≤ 9223372036854775807) (w : World) (htab : Lib.TabIs Tryz.prog w "internal/strconv.uint64pow10" .u64 Lib.pow10Tab) :
  Calls Tryz.prog 51 #[.int .i64 n] w fun e w' => e = .returned (.string ⟨(Lib.itoa n).toArray⟩) ∧ ∃ k os, w' = grow (w.drewN k) os := Any.strconv_Itoa Tryz.laysM171 n h0 h1 w htab
def Tryz.laysC174_ren : Go.Shelf.Ren := ⟨fun | 174 => 156 | 247 => 198 | 245 => 199 | 287 => 225 | 279 => 226 | 280 => 227 | 281 => 228 | 282 => 229 | 321 => 248 | 322 => 249 | 316 => 250 | 171 => 51 | 205 => 251 | 243 => 100 | 246 => 147 | 283 => 185 | 284 => 186 | 285 => 187 | 286 => 188 | 129 => 215 | 317 => 214 | 318 => 216 | 319 => 217 | 320 => 218 | 337 => 242 | 338 => 243 | n => n, fun | 9 => 9 | 3 => 3 | 2 => 2 | 75 => 27 | 85 => 215 | 4 => 4 | 167 => 295 | 5 => 5 | 53 => 249 | 175 => 296 | 46 => 221 | 168 => 298 | 37 => 237 | 0 => 0 | 210 => 315 | 21 => 21 | 127 => 309 | 145 => 330 | 143 => 328 | 171 => 248 | 173 => 252 | 212 => 288 | 51 => 289 | 20 => 20 | 213 => 290 | 232 => 326 | 233 => 327 | 80 => 285 | n => n, fun | 15 => 19 | 16 => 20 | 17 => 18 | 18 => 21 | 19 => 22 | n => n⟩
theorem Tryz.laysC174 : Go.Proofs.LaysC.n174 Tryz.prog Tryz.laysC174_ren := {
 mixed := by kernel_rfl
 f129 := Tryz.func215.trans (congrArg some (by kernel_rfl))
 f171 := Tryz.func51.trans (congrArg some (by kernel_rfl))
 f174 := Tryz.func156.trans (congrArg some (by kernel_rfl))
 f205 := Tryz.func251.trans (congrArg some (by kernel_rfl))
 f243 := Tryz.func100.trans (congrArg some (by kernel_rfl))
 f245 := Tryz.func199.trans (congrArg some (by kernel_rfl))
 f246 := Tryz.func147.trans (congrArg some (by kernel_rfl))
 f247 := Tryz.func198.trans (congrArg some (by kernel_rfl))
 f279 := Tryz.func226.trans (congrArg some (by kernel_rfl))
 f280 := Tryz.func227.trans (congrArg some (by kernel_rfl))
 f281 := Tryz.func228.trans (congrArg some (by kernel_rfl))
 f282 := Tryz.func229.trans (congrArg some (by kernel_rfl))
 f283 := Tryz.func185.trans (congrArg some (by kernel_rfl))
 f284 := Tryz.func186.trans (congrArg some (by kernel_rfl))
 f285 := Tryz.func187.trans (congrArg some (by kernel_rfl))
 f286 := Tryz.func188.trans (congrArg some (by kernel_rfl))
 f287 := Tryz.func225.trans (congrArg some (by kernel_rfl))
 f316 := Tryz.func250.trans (congrArg some (by kernel_rfl))
 f317 := Tryz.func214.trans (congrArg some (by kernel_rfl))
 f318 := Tryz.func216.trans (congrArg some (by kernel_rfl))
 f319 := Tryz.func217.trans (congrArg some (by kernel_rfl))
 f320 := Tryz.func218.trans (congrArg some (by kernel_rfl))
 f321 := Tryz.func248.trans (congrArg some (by kernel_rfl))
 f322 := Tryz.func249.trans (congrArg some (by kernel_rfl))
 f337 := Tryz.func242.trans (congrArg some (by kernel_rfl))
 f338 := Tryz.func243.trans (congrArg some (by kernel_rfl))
 t0 := Tryz.underlying0
 a0 := Tryz.isAgg0
 z0 := Tryz.sizeOf0
 v0 := Tryz.zeroValue0
 t2 := Tryz.underlying2
 a2 := Tryz.isAgg2
 z2 := Tryz.sizeOf2
 v2 := Tryz.zeroValue2
 t3 := Tryz.underlying3
 a3 := Tryz.isAgg3
 z3 := Tryz.sizeOf3
 v3 := Tryz.zeroValue3
 t4 := Tryz.underlying4
 a4 := Tryz.isAgg4
 z4 := Tryz.sizeOf4
 v4 := Tryz.zeroValue4
 t5 := Tryz.underlying5
 a5 := Tryz.isAgg5
 z5 := Tryz.sizeOf5
 v5 := Tryz.zeroValue5
 t9 := Tryz.underlying9
 a9 := Tryz.isAgg9
 z9 := Tryz.sizeOf9
 v9 := Tryz.zeroValue9
 t20 := Tryz.underlying20
 a20 := Tryz.isAgg20
 z20 := Tryz.sizeOf20
 v20 := Tryz.zeroValue20
 t21 := Tryz.underlying21
 a21 := Tryz.isAgg21
 z21 := Tryz.sizeOf21
 v21 := Tryz.zeroValue21
 t37 := Tryz.underlying237
 a37 := Tryz.isAgg237
 z37 := Tryz.sizeOf237
 v37 := Tryz.zeroValue237
 t46 := Tryz.underlying221
 a46 := Tryz.isAgg221
 z46 := Tryz.sizeOf221
 v46 := Tryz.zeroValue221
 t51 := Tryz.underlying289
 a51 := Tryz.isAgg289
 z51 := Tryz.sizeOf289
 v51 := Tryz.zeroValue289
 t53 := Tryz.underlying249
 a53 := Tryz.isAgg249
 z53 := Tryz.sizeOf249
 v53 := Tryz.zeroValue249
 t75 := Tryz.underlying27
 a75 := Tryz.isAgg27
 z75 := Tryz.sizeOf27
 v75 := Tryz.zeroValue27
 t85 := Tryz.underlying215
 a85 := Tryz.isAgg215
 z85 := Tryz.sizeOf215
 v85 := Tryz.zeroValue215
 t127 := Tryz.underlying309
 a127 := Tryz.isAgg309
 z127 := Tryz.sizeOf309
 v127 := Tryz.zeroValue309
 t143 := Tryz.underlying328
 a143 := Tryz.isAgg328
 z143 := Tryz.sizeOf328
 v143 := Tryz.zeroValue328
 t145 := Tryz.underlying330
 a145 := Tryz.isAgg330
 z145 := Tryz.sizeOf330
 v145 := Tryz.zeroValue330
 t167 := Tryz.underlying295
 a167 := Tryz.isAgg295
 z167 := Tryz.sizeOf295
 v167 := Tryz.zeroValue295
 t168 := Tryz.underlying298
 a168 := Tryz.isAgg298
 z168 := Tryz.sizeOf298
 v168 := Tryz.zeroValue298
 t171 := Tryz.underlying248
 a171 := Tryz.isAgg248
 z171 := Tryz.sizeOf248
 v171 := Tryz.zeroValue248
 t173 := Tryz.underlying252
 a173 := Tryz.isAgg252
 z173 := Tryz.sizeOf252
 v173 := Tryz.zeroValue252
 t175 := Tryz.underlying296
 a175 := Tryz.isAgg296
 z175 := Tryz.sizeOf296
 v175 := Tryz.zeroValue296
 t210 := Tryz.underlying315
 a210 := Tryz.isAgg315
 z210 := Tryz.sizeOf315
 v210 := Tryz.zeroValue315
 t212 := Tryz.underlying288
 a212 := Tryz.isAgg288
 z212 := Tryz.sizeOf288
 v212 := Tryz.zeroValue288
 t213 := Tryz.underlying290
 a213 := Tryz.isAgg290
 z213 := Tryz.sizeOf290
 t232 := Tryz.underlying326
 a232 := Tryz.isAgg326
 z232 := Tryz.sizeOf326
 v232 := Tryz.zeroValue326
 t233 := Tryz.underlying327
 a233 := Tryz.isAgg327
 z233 := Tryz.sizeOf327
 v233 := Tryz.zeroValue327
 g15 := by kernel_rfl
 g16 := by kernel_rfl
 g17 := by kernel_rfl
 g18 := by kernel_rfl
 g19 := by kernel_rfl
 t80 := Tryz.underlying285
 a80 := Tryz.isAgg285
 z80 := Tryz.sizeOf285
 v80 := Tryz.zeroValue285
 i0 := by kernel_rfl
 i2 := by kernel_rfl
 i3 := by kernel_rfl
 i4 := by kernel_rfl
 i5 := by kernel_rfl
 i9 := by kernel_rfl
 i20 := by kernel_rfl
 i21 := by kernel_rfl
 i37 := by kernel_rfl
 i46 := by kernel_rfl
 i51 := by kernel_rfl
 i53 := by kernel_rfl
 i75 := by kernel_rfl
 i80 := by kernel_rfl
 i85 := by kernel_rfl
 i127 := by kernel_rfl
 i143 := by kernel_rfl
 i145 := by kernel_rfl
 i167 := by kernel_rfl
 i168 := by kernel_rfl
 i171 := by kernel_rfl
 i173 := by kernel_rfl
 i175 := by kernel_rfl
 i210 := by kernel_rfl
 i212 := by kernel_rfl
 i232 := by kernel_rfl
 i233 := by kernel_rfl
 m15 := by kernel_rfl
 m16 := by kernel_rfl
 m17 := by kernel_rfl
 m18 := by kernel_rfl
 m19 := by kernel_rfl
 c0 := by kernel_rfl
 c2 := by kernel_rfl
 c3 := by kernel_rfl
 c4 := by kernel_rfl
 c5 := by kernel_rfl
 c9 := by kernel_rfl
 c20 := by kernel_rfl
 c21 := by kernel_rfl
 c37 := by kernel_rfl
 c46 := by kernel_rfl
 c51 := by kernel_rfl
 c53 := by kernel_rfl
 c75 := by kernel_rfl
 c80 := by kernel_rfl
 c85 := by kernel_rfl
 c127 := by kernel_rfl
 c143 := by kernel_rfl
 c145 := by kernel_rfl
 c167 := by kernel_rfl
 c168 := by kernel_rfl
 c171 := by kernel_rfl
 c173 := by kernel_rfl
 c175 := by kernel_rfl
 c210 := by kernel_rfl
 c212 := by kernel_rfl
 c213 := by kernel_rfl
 c232 := by kernel_rfl
 c233 := by kernel_rfl }
open Go.RowKit in
theorem Tryz.strconv_ParseInt_10_at64_ok (s : ByteArray) (hmax : s.size ≤ 9223372036854775806) (v : Int) (h : Lib.parseIntB 64 s.data.toList = .ok v) (w : World) :
  Calls Tryz.prog 156 #[.string s, .int .i64 10, .int .i64 64] w fun e w' => e = .returned (.tuple #[.int .i64 v, .nilIface]) ∧ (w' = w ∨ ∃ t, w' = Lib.bytesWorld w 5 t) := Any.strconv_ParseInt_10_at64_ok Tryz.laysC174 s hmax v h w
def Tryz.lays148_ren : Go.Shelf.Ren := ⟨fun | 148 => 150 | 222 => 190 | 223 => 191 | 269 => 219 | n => n, fun | 9 => 9 | 3 => 3 | 4 => 4 | 5 => 5 | 146 => 291 | 51 => 289 | 46 => 221 | n => n, fun | n => n⟩
theorem Tryz.lays148 : Go.Proofs.Lays.n148 Tryz.prog Tryz.lays148_ren := {
 mixed := by kernel_rfl
 f148 := Tryz.func150.trans (congrArg some (by kernel_rfl))
 f222 := Tryz.func190.trans (congrArg some (by kernel_rfl))
 f223 := Tryz.func191.trans (congrArg some (by kernel_rfl))
 f269 := Tryz.func219.trans (congrArg some (by kernel_rfl))
 t3 := Tryz.underlying3
 a3 := Tryz.isAgg3
 z3 := Tryz.sizeOf3
 v3 := Tryz.zeroValue3
 t4 := Tryz.underlying4
 a4 := Tryz.isAgg4
 z4 := Tryz.sizeOf4
 v4 := Tryz.zeroValue4
 t5 := Tryz.underlying5
 a5 := Tryz.isAgg5
 z5 := Tryz.sizeOf5
 v5 := Tryz.zeroValue5
 t9 := Tryz.underlying9
 a9 := Tryz.isAgg9
 z9 := Tryz.sizeOf9
 v9 := Tryz.zeroValue9
 t46 := Tryz.underlying221
 a46 := Tryz.isAgg221
 z46 := Tryz.sizeOf221
 v46 := Tryz.zeroValue221
 t51 := Tryz.underlying289
 a51 := Tryz.isAgg289
 z51 := Tryz.sizeOf289
 v51 := Tryz.zeroValue289
 t146 := Tryz.underlying291
 a146 := Tryz.isAgg291
 z146 := Tryz.sizeOf291
 v146 := Tryz.zeroValue291 }
open Go.RowKit Go.Lib in
theorem Tryz.strings_LastIndex_one (s sub : ByteArray) (h1 : sub.size = 1) (hs : s.size < 4611686018427387904) (w : World) :
  Calls Tryz.prog 150 #[.string s, .string sub] w fun e w' => e = .returned (.int .i64 (Lib.lastIndexByte s ((sub[0]'(by omega)).toNat : Int))) ∧ w' = w := Any.strings_LastIndex_one Tryz.lays148 s sub h1 hs w
def Tryz.lays146_ren : Go.Shelf.Ren := ⟨fun | 146 => 151 | 221 => 192 | 268 => 220 | 138 => 221 | 143 => 222 | 195 => 244 | 197 => 245 | 218 => 246 | 219 => 247 | 260 => 260 | 217 => 261 | 225 => 262 | 224 => 263 | 267 => 264 | 266 => 266 | 314 => 267 | n => n, fun | 9 => 9 | 31 => 106 | 3 => 3 | 4 => 4 | 0 => 0 | 105 => 310 | 21 => 21 | 5 => 5 | 46 => 221 | 119 => 333 | 139 => 336 | 138 => 335 | 146 => 291 | 51 => 289 | n => n, fun | 1 => 17 | 3 => 23 | 4 => 24 | n => n⟩
theorem Tryz.lays146 : Go.Proofs.Lays.n146 Tryz.prog Tryz.lays146_ren := {
 mixed := by kernel_rfl
 f138 := Tryz.func221.trans (congrArg some (by kernel_rfl))
 f143 := Tryz.func222.trans (congrArg some (by kernel_rfl))
 f146 := Tryz.func151.trans (congrArg some (by kernel_rfl))
 f195 := Tryz.func244.trans (congrArg some (by kernel_rfl))
 f197 := Tryz.func245.trans (congrArg some (by kernel_rfl))
 f217 := Tryz.func261.trans (congrArg some (by kernel_rfl))
 f218 := Tryz.func246.trans (congrArg some (by kernel_rfl))
 f219 := Tryz.func247.trans (congrArg some (by kernel_rfl))
 f221 := Tryz.func192.trans (congrArg some (by kernel_rfl))
 f224 := Tryz.func263.trans (congrArg some (by kernel_rfl))
 f225 := Tryz.func262.trans (congrArg some (by kernel_rfl))
 f260 := Tryz.func260.trans (congrArg some (by kernel_rfl))
 f266 := Tryz.func266.trans (congrArg some (by kernel_rfl))
 f267 := Tryz.func264.trans (congrArg some (by kernel_rfl))
 f268 := Tryz.func220.trans (congrArg some (by kernel_rfl))
 f314 := Tryz.func267.trans (congrArg some (by kernel_rfl))
 t0 := Tryz.underlying0
 a0 := Tryz.isAgg0
 z0 := Tryz.sizeOf0
 v0 := Tryz.zeroValue0
 t3 := Tryz.underlying3
 a3 := Tryz.isAgg3
 z3 := Tryz.sizeOf3
 v3 := Tryz.zeroValue3
 t4 := Tryz.underlying4
 a4 := Tryz.isAgg4
 z4 := Tryz.sizeOf4
 v4 := Tryz.zeroValue4
 t5 := Tryz.underlying5
 a5 := Tryz.isAgg5
 z5 := Tryz.sizeOf5
 v5 := Tryz.zeroValue5
 t9 := Tryz.underlying9
 a9 := Tryz.isAgg9
 z9 := Tryz.sizeOf9
 v9 := Tryz.zeroValue9
 t21 := Tryz.underlying21
 a21 := Tryz.isAgg21
 z21 := Tryz.sizeOf21
 v21 := Tryz.zeroValue21
 t31 := Tryz.underlying106
 a31 := Tryz.isAgg106
 z31 := Tryz.sizeOf106
 v31 := Tryz.zeroValue106
 t46 := Tryz.underlying221
 a46 := Tryz.isAgg221
 z46 := Tryz.sizeOf221
 v46 := Tryz.zeroValue221
 t51 := Tryz.underlying289
 a51 := Tryz.isAgg289
 z51 := Tryz.sizeOf289
 v51 := Tryz.zeroValue289
 t105 := Tryz.underlying310
 a105 := Tryz.isAgg310
 z105 := Tryz.sizeOf310
 v105 := Tryz.zeroValue310
 t119 := Tryz.underlying333
 a119 := Tryz.isAgg333
 z119 := Tryz.sizeOf333
 t138 := Tryz.underlying335
 a138 := Tryz.isAgg335
 z138 := Tryz.sizeOf335
 v138 := Tryz.zeroValue335
 t139 := Tryz.underlying336
 a139 := Tryz.isAgg336
 z139 := Tryz.sizeOf336
 v139 := Tryz.zeroValue336
 t146 := Tryz.underlying291
 a146 := Tryz.isAgg291
 z146 := Tryz.sizeOf291
 v146 := Tryz.zeroValue291
 g1 := by kernel_rfl
 g3 := by kernel_rfl
 g4 := by kernel_rfl }
open Go.RowKit Go.Lib in
theorem Tryz.strings_Split (s sep : ByteArray) (m : Int) (w : World) (hs : s.size < 4294967281) (hm : w.cell? ⟨17, 0, none⟩ = some (.int .i64 m)) (h1 : 1 ≤ sep.size) :
  Calls Tryz.prog 151 #[.string s, .string sep] w fun e w' =>
   e = .returned (.slice (some ⟨w.heap.size, 0, none⟩) (Lib.countB s sep + 1) (Lib.countB s sep + 1)) ∧ w' = w.alloc (.cells ((Lib.splitB sep 0 (Lib.countB s sep) s).map Value.string).toArray 9) := Any.strings_Split Tryz.lays146 (by kernel_rfl) s sep m w hs hm h1
end Go.Proofs

namespace Go.Proofs.YtabpnjchocgakaaGreatDoor.Sl
open Go
def ofL (l : List UInt8) : ByteArray := ⟨l.toArray⟩
theorem toL_ofL (l : List UInt8) : (ofL l).data.toList = l := rfl
theorem ofL_toL (s : ByteArray) : ofL s.data.toList = s := by cases s; rfl
theorem ba_ext {a b : ByteArray} (h : a.data.toList = b.data.toList) : a = b := by rw [← ofL_toL a, ← ofL_toL b, h]
theorem ofL_size (l : List UInt8) : (ofL l).size = l.length := by show l.toArray.size = _; simp
theorem map_ofL (xs : List ByteArray) : (xs.map (·.data.toList)).map ofL = xs := by
 rw [List.map_map]
 conv => rhs; rw [← List.map_id xs]
 refine List.map_congr_left fun x _ => ofL_toL x
abbrev glue (ws : List (List UInt8)) : List UInt8 := Lib.join ws [32]
def lookW (l : List UInt8) : List (List UInt8) := (pieces l).dropLast
def lastP (l : List UInt8) : List UInt8 := (pieces l).getLastD []
def lookN (l : List UInt8) : Nat := valL (lastP l)
def wordsOk (ws : List (List UInt8)) : Bool := decide (1 ≤ ws.length ∧ ws.length ≤ 10) && ws.all wordL
def lookOk (l : List UInt8) : Bool := (numOk (lastP l) && decide (valL (lastP l) ≤ 1000000006)) && wordsOk (lookW l)
def lookE (l : List UInt8) : Nat := if 4000 < l.length then 2 else if lookOk l = true then 0 else 1
theorem look_cut (a t : List UInt8) (ht : (32 : UInt8) ∉ t) : lookW (a ++ 32 :: t) = pieces a ∧ lastP (a ++ 32 :: t) = t := by
 unfold lookW lastP
 rw [pieces_cut, pieces_plain t ht]
 refine ⟨by simp, ?_⟩
 rw [List.getLastD_eq_getLast?]
 simp
theorem look_plain (l : List UInt8) (h : (32 : UInt8) ∉ l) : lookW l = [] := by
 unfold lookW
 rw [pieces_plain l h]
 rfl
theorem wordsOk_nil : wordsOk [] = false := rfl
theorem lookOk_plain (l : List UInt8) (h : (32 : UInt8) ∉ l) : lookOk l = false := by
 unfold lookOk
 rw [look_plain l h, wordsOk_nil, Bool.and_false]
theorem look_glue (l : List UInt8) (h : lookOk l = true) : ∃ a, l = a ++ 32 :: lastP l ∧ lookW l = pieces a ∧ glue (lookW l) = a ∧ (32 : UInt8) ∉ lastP l := by
 by_cases hm : (32 : UInt8) ∈ l
 ·
  obtain ⟨a, t, rfl, ht⟩ := last_blank 32 l hm
  obtain ⟨h1, h2⟩ := look_cut a t ht
  refine ⟨a, by rw [h2], h1, ?_, by rw [h2]; exact ht⟩
  rw [h1]
  exact join_pieces a
 ·
  rw [lookOk_plain l hm] at h
  cases h
theorem wordB_blank : wordB 32 = false := by decide
theorem digB_blank : digB 32 = false := by decide
theorem word_clean (w : List UInt8) (h : wordL w = true) : (32 : UInt8) ∉ w := by
 intro hm
 unfold wordL madeL at h
 rw [Bool.and_eq_true] at h
 have := List.all_eq_true.1 h.2 32 hm
 rw [wordB_blank] at this
 cases this
theorem num_clean (l : List UInt8) (h : numOk l = true) : (32 : UInt8) ∉ l := by
 intro hm
 have := List.all_eq_true.1 ((numOk_iff l).1 h).2.1 32 hm
 rw [digB_blank] at this
 cases this
theorem wordsOk_iff (ws : List (List UInt8)) : wordsOk ws = true ↔ (1 ≤ ws.length ∧ ws.length ≤ 10) ∧ ∀ w ∈ ws, wordL w = true := by
 unfold wordsOk
 rw [Bool.and_eq_true, decide_eq_true_eq, List.all_eq_true]
theorem word_len (w : List UInt8) (h : wordL w = true) : 1 ≤ w.length ∧ w.length ≤ 20 := by
 unfold wordL madeL at h
 rw [Bool.and_eq_true, decide_eq_true_eq] at h
 exact h.1
theorem glue_len (m : Nat) : ∀ (ws : List (List UInt8)), (∀ w ∈ ws, w.length ≤ m) → (glue ws).length ≤ (m + 1) * ws.length
 | [], _ => by simp [glue, Lib.join_nil]
 | [x], h => by
  have := h x (by simp)
  show (Lib.join [x] [32]).length ≤ _
  rw [Lib.join_one]
  simp; omega
 | x :: y :: r, h => by
  have h1 := h x (by simp)
  have ih : (Lib.join (y :: r) [32]).length ≤ (m + 1) * (y :: r).length := glue_len m (y :: r) (fun w hw => h w (by simp [hw]))
  show (Lib.join (x :: y :: r) [32]).length ≤ _
  rw [join_cons2 _ _ (by simp)]
  simp only [List.length_append, List.length_cons] at ih ⊢
  have e : (m + 1) * (r.length + 1 + 1) = (m + 1) * (r.length + 1) + (m + 1) := by rw [Nat.mul_add]; omega
  omega
def sealM (key : Int) (ws : List (List UInt8)) : Nat := (Mk.mk key key (glue ws)).toNat
def sealL (key : Int) (ws : List (List UInt8)) : List UInt8 := glue ws ++ 32 :: Lib.decDigits (sealM key ws)
def openE (key : Int) (l : List UInt8) : Nat := if 1 ≤ key ∧ key ≤ 1000000006 then (if lookE l = 0 then (if Mk.mk key key (glue (lookW l)) = (lookN l : Int) then 0 else 9) else lookE l) else 10
theorem sealM_le (key : Int) (hk : 1 ≤ key ∧ key ≤ 1000000006) (ws : List (List UInt8)) : sealM key ws ≤ 1000000006 := by
 have := Mk.mk_bd key key (by omega) (glue ws)
 unfold sealM
 omega
theorem sealM_mk (key : Int) (hk : 1 ≤ key ∧ key ≤ 1000000006) (ws : List (List UInt8)) : (sealM key ws : Int) = Mk.mk key key (glue ws) := by
 have := Mk.mk_bd key key (by omega) (glue ws)
 unfold sealM
 omega
theorem seal_look (key : Int) (hk : 1 ≤ key ∧ key ≤ 1000000006) (ws : List (List UInt8)) (h : wordsOk ws = true) :
  lookW (sealL key ws) = ws ∧ lastP (sealL key ws) = Lib.decDigits (sealM key ws) ∧ lookE (sealL key ws) = 0 ∧ openE key (sealL key ws) = 0 ∧ (sealL key ws).length ≤ 400 := by
 obtain ⟨⟨h1, h10⟩, hw⟩ := (wordsOk_iff ws).1 h
 have hle := sealM_le key hk ws
 have hok := dec_ok (sealM key ws) (by omega)
 have hcl := num_clean _ hok
 obtain ⟨e1, e2⟩ := look_cut (glue ws) (Lib.decDigits (sealM key ws)) hcl
 have hne : ws ≠ [] := by intro e; subst e; simp at h1
 have e3 : lookW (sealL key ws) = ws := e1.trans (pieces_join ws hne (fun w hm => word_clean w (hw w hm)))
 have e4 : lastP (sealL key ws) = Lib.decDigits (sealM key ws) := e2
 have e5 : lookOk (sealL key ws) = true := by
  unfold lookOk
  rw [e3, e4, h, hok, dec_val, decide_eq_true hle]
  rfl
 have hl : (sealL key ws).length ≤ 400 := by
  have g := glue_len 20 ws (fun w hm => (word_len w (hw w hm)).2)
  have g2 : (20 + 1) * ws.length ≤ 210 := by omega
  have g3 := ((numOk_iff _).1 hok).1.2
  unfold sealL
  simp only [List.length_append, List.length_cons]
  omega
 have e6 : lookE (sealL key ws) = 0 := by
  unfold lookE
  rw [if_neg (by omega), if_pos e5]
 refine ⟨e3, e4, e6, ?_, hl⟩
 unfold openE
 rw [if_pos hk, if_pos e6, e3, if_pos]
 unfold lookN
 rw [e4, dec_val, sealM_mk key hk]
theorem lookE_ok (l : List UInt8) (h : lookE l = 0) : lookOk l = true := by
 unfold lookE at h
 split at h
 ·
  cases h
 ·
  split at h
  ·
   assumption
  ·
   cases h
theorem lookOk_words (l : List UInt8) (h : lookOk l = true) : wordsOk (lookW l) = true := by
 unfold lookOk at h
 rw [Bool.and_eq_true] at h
 exact h.2
theorem openE_iff (key : Int) (l : List UInt8) : openE key l = 0 ↔ (1 ≤ key ∧ key ≤ 1000000006) ∧ lookE l = 0 ∧ Mk.mk key key (glue (lookW l)) = (lookN l : Int) := by
 unfold openE
 constructor
 ·
  intro h
  split at h
  ·
   split at h
   ·
    split at h
    ·
     exact ⟨by assumption, by assumption, by assumption⟩
    ·
     cases h
   ·
    exact absurd h (by assumption)
  ·
   cases h
 ·
  rintro ⟨h1, h2, h3⟩
  rw [if_pos h1, if_pos h2, if_pos h3]
end Go.Proofs.YtabpnjchocgakaaGreatDoor.Sl

namespace Go.Proofs.YtabpnjchocgakaaGreatDoor
open Go
structure Per where
 name : ByteArray
 key : Int
 epoch : Int
 off : Bool
def Per.cells (p : Per) : List Value := [.string p.name, .int .i64 p.key, .int .i64 p.epoch, .bool p.off]
def Per.val (p : Per) : Value := .agg #[.string p.name, .int .i64 p.key, .int .i64 p.epoch, .bool p.off]
def Per.err (p : Per) : Nat := if Sl.nameL p.name.data.toList = true then (if 1 ≤ p.key ∧ p.key ≤ 1000000006 then (if 1 ≤ p.epoch ∧ p.epoch ≤ 1073741824 then 0 else 2) else 10) else 4
def cellsP (L : List Per) : List Value := L.flatMap Per.cells
theorem cellsP_len : ∀ L : List Per, (cellsP L).length = L.length * 4
 | [] => rfl
 | p :: L => by
  have := cellsP_len L
  simp only [cellsP, List.flatMap_cons, List.length_append, List.length_cons] at this ⊢
  rw [this]
  show 4 + _ = _
  omega
theorem cellsP_append (L M : List Per) : cellsP (L ++ M) = cellsP L ++ cellsP M := by simp [cellsP]
theorem cellsP_at : ∀ (L : List Per) (i j : Nat) (hi : i < L.length), j < 4 → (cellsP L)[i * 4 + j]? = (L[i].cells)[j]?
 | p :: L, 0, j, _, hj => by
  simp only [cellsP, List.flatMap_cons, Nat.zero_mul, Nat.zero_add, List.getElem_cons_zero]
  rw [List.getElem?_append_left (by show j < 4; exact hj)]
 | p :: L, i + 1, j, hi, hj => by
  have ih := cellsP_at L i j (by simpa using hi) hj
  simp only [cellsP, List.flatMap_cons, List.getElem_cons_succ] at ih ⊢
  rw [List.getElem?_append_right (by show 4 ≤ _; omega), show (i + 1) * 4 + j - p.cells.length = i * 4 + j by show (i + 1) * 4 + j - 4 = _; omega]
  exact ih
theorem cellsP_set : ∀ (L : List Per) (i j : Nat) (hi : i < L.length) (u : Value) (q : Per), j < 4 → q.cells = (L[i].cells).set j u → (cellsP L).set (i * 4 + j) u = cellsP (L.set i q)
 | p :: L, 0, j, _, u, q, hj, hq => by
  simp only [cellsP, List.flatMap_cons, Nat.zero_mul, Nat.zero_add, List.getElem_cons_zero, List.set_cons_zero] at hq ⊢
  rw [List.set_append_left _ _ (by show j < 4; exact hj), hq]
 | p :: L, i + 1, j, hi, u, q, hj, hq => by
  have ih := cellsP_set L i j (by simpa using hi) u q hj (by simpa using hq)
  simp only [cellsP, List.flatMap_cons, List.set_cons_succ] at ih ⊢
  rw [List.set_append_right _ _ (by show 4 ≤ _; omega), show (i + 1) * 4 + j - p.cells.length = i * 4 + j by show (i + 1) * 4 + j - 4 = _; omega, ih]
def raiseP (L : List Per) (name : ByteArray) : Int × Nat × List Per := match L.findIdx? (fun p => decide (p.name = name)) with
 | none => (0, 5, L)
 | some k => match L[k]? with
  | none => (0, 5, L)
  | some p => if 1073741824 ≤ p.epoch then (0, 2, L) else (p.epoch + 1, 0, L.set k { p with epoch := p.epoch + 1 })
def offP (L : List Per) (name : ByteArray) (off : Bool) : Nat × List Per := match L.findIdx? (fun p => decide (p.name = name)) with
 | none => (5, L)
 | some k => match L[k]? with
  | none => (5, L)
  | some p => if p.off = off then (6, L) else (0, L.set k { p with off := off })
def rekeyP (L : List Per) (name : ByteArray) (key : Int) : Nat × List Per := match L.findIdx? (fun p => decide (p.name = name)) with
 | none => (5, L)
 | some k => match L[k]? with
  | none => (5, L)
  | some p => if 1 ≤ key ∧ key ≤ 1000000006 then (if p.key = key then (6, L) else if 1073741824 ≤ p.epoch then (2, L) else (0, L.set k { p with key := key, epoch := p.epoch + 1 })) else (10, L)
def findP (L : List Per) (name : ByteArray) : Int := match L.findIdx? (fun p => decide (p.name = name)) with | some i => (i : Int) | none => -1
theorem findP_some (L : List Per) (name : ByteArray) (k : Nat) (hk : k < L.length) (h : L[k].name = name) (hb : ∀ j (hj : j < L.length), j < k → L[j].name ≠ name) : findP L name = k := by
 have : L.findIdx? (fun p => decide (p.name = name)) = some k := by
  rw [List.findIdx?_eq_some_iff_getElem]
  exact ⟨hk, by simp [h], fun j hj => by simp [hb j (by omega) hj]⟩
 unfold findP
 rw [this]
theorem findP_none (L : List Per) (name : ByteArray) (h : ∀ j (hj : j < L.length), L[j].name ≠ name) : findP L name = -1 := by
 have : L.findIdx? (fun p => decide (p.name = name)) = none := by
  rw [List.findIdx?_eq_none_iff]
  intro x hx
  obtain ⟨j, hj, rfl⟩ := List.getElem_of_mem hx
  simp [h j hj]
 unfold findP
 rw [this]
theorem findP_cases (L : List Per) (name : ByteArray) : (findP L name = -1 ∧ ∀ j (hj : j < L.length), L[j].name ≠ name) ∨ (∃ k : Nat, ∃ hk : k < L.length, findP L name = k ∧ L[k].name = name ∧ ∀ j (hj : j < L.length), j < k → L[j].name ≠ name) := by
 unfold findP
 cases h : L.findIdx? (fun p => decide (p.name = name)) with
 | none =>
  refine Or.inl ⟨rfl, fun j hj => ?_⟩
  have := List.findIdx?_eq_none_iff.1 h L[j] (List.getElem_mem _)
  simpa using this
 | some k =>
  obtain ⟨hk, h2, h3⟩ := List.findIdx?_eq_some_iff_getElem.1 h
  exact Or.inr ⟨k, hk, rfl, by simpa using h2, fun j hj hjk => by simpa using h3 j hjk⟩
abbrev Per.nm (p : Per) : List UInt8 := p.name.data.toList
def perD (p : Per) : DataW Unit := .agg [.lit (.string p.nm), .lit (.int .i64 p.key), .lit (.int .i64 p.epoch), .lit (.bool p.off)]
def perR : Value → Option (DataW Unit × List MemPlace)
 | .agg cs => match cs.toList with
  | [.string n, .int .i64 k, .int .i64 e, .bool o] => some (perD ⟨n, k, e, o⟩, [])
  | _ => none
 | _ => none
theorem perR_val (p : Per) : perR p.val = some (perD p, []) := rfl
theorem perR_inv {v : Value} {z : DataW Unit × List MemPlace} (h : perR v = some z) : ∃ p : Per, v = p.val ∧ z = (perD p, []) := by
 unfold perR at h
 split at h
 ·
  rename_i cs
  split at h
  ·
   rename_i n k e o hl
   refine ⟨⟨n, k, e, o⟩, ?_, by cases h; rfl⟩
   unfold Per.val
   congr 1
   exact Array.ext' (by rw [hl])
  ·
   cases h
 ·
  cases h
theorem perD_inj {p q : Per} (h : perD p = perD q) : p = q := by
 obtain ⟨n, k, e, o⟩ := p
 obtain ⟨n', k', e', o'⟩ := q
 simp only [perD, DataW.agg.injEq, List.cons.injEq, DataW.lit.injEq, Lit.string.injEq, Lit.int.injEq, Lit.bool.injEq, true_and, and_true] at h
 obtain ⟨h1, rfl, rfl, rfl⟩ := h
 obtain rfl : n = n' := Go.WideShapes.bytes_inj h1
 rfl
def entP (p : Per) : Lit × DataW Unit := (.string p.nm, perD p)
def dOf (L : List Per) : DataW Unit := .map (L.map entP)
def getP (L : List Per) (name : ByteArray) : Option Per := L.find? (fun p => decide (p.name = name))
theorem same_name (p : Per) (name : ByteArray) : (entP p).1.sameKey (.string name.data.toList) = decide (p.name = name) := by
 show (p.name.data.toList == name.data.toList) = _
 by_cases h : p.name = name
 ·
  subst h; simp
 ·
  rw [decide_eq_false h]
  exact beq_eq_false_iff_ne.2 fun e => h (Go.WideShapes.bytes_inj e)
theorem find_ent : ∀ (L : List Per) (name : ByteArray), (L.map entP).find? (fun p => p.1.sameKey (.string name.data.toList)) = (getP L name).map entP
 | [], _ => rfl
 | p :: L, name => by
  have ih := find_ent L name
  unfold getP at ih ⊢
  rw [List.map_cons, List.find?_cons, List.find?_cons, same_name]
  cases decide (p.name = name)
  ·
   exact ih
  ·
   rfl
theorem dOf_at (L : List Per) (name : ByteArray) (z : DataW Unit) : (dOf L).atKey (.string name.data.toList) z = match getP L name with | some p => perD p | none => z := by
 unfold dOf DataW.atKey
 simp only []
 rw [find_ent]
 cases getP L name <;> rfl
theorem dOf_has (L : List Per) (name : ByteArray) : Maps.has (dOf L) (.string name.data.toList) = (getP L name).isSome := by
 show (L.map entP).any (fun p => p.1.sameKey (.string name.data.toList)) = _
 have h : (L.map entP).any (fun p => p.1.sameKey (.string name.data.toList)) = ((L.map entP).find? (fun p => p.1.sameKey (.string name.data.toList))).isSome := by
  induction L.map entP with
  | nil => rfl
  | cons x l ih =>
   rw [List.any_cons, List.find?_cons]
   cases x.1.sameKey (.string name.data.toList)
   ·
    simpa using ih
   ·
    rfl
 rw [h, find_ent]
 cases getP L name <;> rfl
theorem dOf_size (L : List Per) : Maps.size (dOf L) = L.length := by
 show (L.map entP).length = _
 simp
def Rising (L : List Per) : Prop := L.Pairwise (fun p q => p.nm < q.nm)
theorem before_eq : ∀ (x y : List UInt8), bytesBefore x y = decide (x < y)
 | [], [] => by simp [bytesBefore]
 | _ :: _, [] => by simp [bytesBefore]
 | [], _ :: _ => by simp [bytesBefore]
 | a :: x, b :: y => by
  rw [bytesBefore, before_eq x y]
  simp only [List.cons_lt_cons_iff]
  by_cases h1 : a < b <;> by_cases h2 : a = b <;> by_cases h3 : x < y <;> simp [h1, h2, h3]
def insL (p : Per) : List Per → List Per
 | [] => [p]
 | q :: r => if p.nm < q.nm then p :: q :: r else q :: insL p r
def putP (L : List Per) (p : Per) : List Per := insL p (L.filter (fun q => !decide (q.name = p.name)))
theorem ins_ent (p : Per) : ∀ L : List Per, DataW.insert (entP p) (L.map entP) = (insL p L).map entP
 | [] => rfl
 | q :: r => by
  rw [List.map_cons]
  unfold DataW.insert insL
  have hb : (entP p).1.before (entP q).1 = decide (p.nm < q.nm) := before_eq _ _
  rw [hb, ins_ent p r]
  by_cases h : p.nm < q.nm
  ·
   simp [h]
  ·
   simp [h]
theorem dOf_put (L : List Per) (p : Per) : (dOf L).put (.string p.name.data.toList) (perD p) = dOf (putP L p) := by
 show DataW.map (DataW.insert (entP p) ((L.map entP).filter fun q => !q.1.sameKey (.string p.name.data.toList))) = _
 have : (L.map entP).filter (fun q => !q.1.sameKey (.string p.name.data.toList)) = (L.filter (fun q => !decide (q.name = p.name))).map entP := by
  rw [List.filter_map]
  congr 1
  apply List.filter_congr
  intro q _
  show (!(entP q).1.sameKey (.string p.name.data.toList)) = _
  rw [same_name]
 rw [this, ins_ent]
 rfl
theorem name_eq {p q : Per} (h : p.nm = q.nm) : p.name = q.name := Go.WideShapes.bytes_inj h
theorem Rising.ne {L : List Per} (h : Rising L) {i j : Nat} (hi : i < L.length) (hj : j < L.length) (hij : i ≠ j) : L[i].name ≠ L[j].name := fun e => by
 rcases Nat.lt_or_gt_of_ne hij with g | g
 ·
  have := List.pairwise_iff_getElem.1 h i j hi hj g
  unfold Per.nm at this
  rw [e] at this
  exact List.lt_irrefl _ this
 ·
  have := List.pairwise_iff_getElem.1 h j i hj hi g
  unfold Per.nm at this
  rw [e] at this
  exact List.lt_irrefl _ this
theorem insL_mid (p : Per) : ∀ (A B : List Per), (∀ q ∈ A, q.nm < p.nm) → (∀ q ∈ B, p.nm < q.nm) → insL p (A ++ B) = A ++ p :: B
 | [], [], _, _ => rfl
 | [], b :: B, _, h => by
  have hb := h b (by simp)
  show insL p (b :: B) = _
  unfold insL
  rw [if_pos hb]
  rfl
 | a :: A, B, h1, h2 => by
  have ha := h1 a (by simp)
  rw [List.cons_append]
  unfold insL
  rw [if_neg (fun e => List.lt_irrefl _ (List.lt_trans e ha)), insL_mid p A B (fun x hx => h1 x (by simp [hx])) h2]
  rfl
theorem Rising.split {A B : List Per} {q : Per} (h : Rising (A ++ q :: B)) : (∀ x ∈ A, x.nm < q.nm) ∧ (∀ x ∈ B, q.nm < x.nm) ∧ Rising A ∧ Rising B := by
 obtain ⟨h1, h2, h3⟩ := List.pairwise_append.1 h
 obtain ⟨h4, h5⟩ := List.pairwise_cons.1 h2
 exact ⟨fun x hx => h3 x hx q (by simp), h4, h1, h5⟩
theorem filter_ne {A : List Per} {p : Per} (h : ∀ x ∈ A, x.name ≠ p.name) : A.filter (fun q => !decide (q.name = p.name)) = A :=
 List.filter_eq_self.2 fun x hx => by simp [h x hx]
theorem putP_set {L : List Per} (h : Rising L) (k : Nat) (hk : k < L.length) (p : Per) (hp : L[k].name = p.name) : putP L p = L.set k p := by
 have e : L = L.take k ++ L[k] :: L.drop (k + 1) := by rw [List.getElem_cons_drop, List.take_append_drop]
 have hr : Rising (L.take k ++ L[k] :: L.drop (k + 1)) := by rw [← e]; exact h
 obtain ⟨h1, h2, h3, h4⟩ := hr.split
 have hn : L[k].nm = p.nm := by unfold Per.nm; rw [hp]
 have e2 : L.filter (fun q => !decide (q.name = p.name)) = L.take k ++ L.drop (k + 1) := by
  rw [congrArg (List.filter fun q : Per => !decide (q.name = p.name)) e, List.filter_append, List.filter_cons_of_neg (by simp [hp]), filter_ne, filter_ne]
  ·
   intro x hx hxe
   have := h2 x hx
   unfold Per.nm at this
   rw [hxe, hp] at this
   exact List.lt_irrefl _ this
  ·
   intro x hx hxe
   have := h1 x hx
   unfold Per.nm at this
   rw [hxe, hp] at this
   exact List.lt_irrefl _ this
 unfold putP
 rw [e2, insL_mid p _ _ (fun q hq => by rw [← hn]; exact h1 q hq) (fun q hq => by rw [← hn]; exact h2 q hq), List.set_eq_take_append_cons_drop, if_pos hk]
theorem insL_perm (p : Per) : ∀ L : List Per, (insL p L).Perm (p :: L)
 | [] => List.Perm.refl _
 | q :: r => by
  unfold insL
  split
  ·
   exact List.Perm.refl _
  ·
   exact ((insL_perm p r).cons q).trans (List.Perm.swap p q r)
theorem insL_rising (p : Per) : ∀ L : List Per, Rising L → (∀ q ∈ L, q.name ≠ p.name) → Rising (insL p L)
 | [], _, _ => List.pairwise_singleton _ _
 | q :: r, h, hne => by
  obtain ⟨h1, h2⟩ := List.pairwise_cons.1 h
  unfold insL
  split
  ·
   rename_i hlt
   exact List.pairwise_cons.2 ⟨fun x hx => by
    rcases List.mem_cons.1 hx with rfl | hx
    ·
     exact hlt
    ·
     exact List.lt_trans hlt (h1 x hx), h⟩
  ·
   rename_i hlt
   have hqp : q.nm < p.nm := by
    refine Decidable.byContradiction fun g => hne q (by simp) (name_eq ?_)
    exact List.le_antisymm (List.not_lt.1 hlt) (List.not_lt.1 g)
   refine List.pairwise_cons.2 ⟨fun x hx => ?_, insL_rising p r h2 (fun x hx => hne x (by simp [hx]))⟩
   rcases List.mem_cons.1 ((insL_perm p r).mem_iff.1 hx) with rfl | hx
   ·
    exact hqp
   ·
    exact h1 x hx
theorem putP_new {L : List Per} {p : Per} (h : ∀ q ∈ L, q.name ≠ p.name) : putP L p = insL p L := by
 unfold putP
 rw [filter_ne h]
theorem set_rising {L : List Per} (h : Rising L) (k : Nat) (hk : k < L.length) (p : Per) (hp : L[k].name = p.name) : Rising (L.set k p) := by
 have hnm : ∀ i (hi : i < (L.set k p).length), (L.set k p)[i].nm = (L[i]'(by simpa using hi)).nm := fun i hi => by
  rw [List.getElem_set]
  split
  ·
   rename_i e; subst e; unfold Per.nm; rw [hp]
  ·
   rfl
 refine List.pairwise_iff_getElem.2 fun i j hi hj hij => ?_
 rw [hnm i hi, hnm j hj]
 exact List.pairwise_iff_getElem.1 h i j _ _ hij
theorem rising_unique {L M : List Per} (h1 : Rising L) (h2 : Rising M) (hp : L.Perm M) : L = M :=
 List.Perm.eq_of_pairwise (le := fun p q : Per => p.nm < q.nm) (fun _ _ _ _ g1 g2 => absurd (List.lt_trans g1 g2) (List.lt_irrefl _)) h1 h2 hp
def newP (name : ByteArray) (key : Int) : Per := ⟨name, key, 1, false⟩
def addP (L : List Per) (name : ByteArray) (key : Int) : Nat × List Per :=
 if (newP name key).err ≠ 0 then ((newP name key).err, L) else if (getP L name).isSome = true then (6, L) else if 20 ≤ L.length then (7, L) else (0, putP L (newP name key))
structure Good (L : List Per) : Prop where
 rise : Rising L
 fine : ∀ p ∈ L, p.err = 0
 few : L.length ≤ 20
theorem Good.nil : Good [] := ⟨List.Pairwise.nil, (fun _ h => by cases h), by decide⟩
theorem getP_none {L : List Per} {name : ByteArray} (h : getP L name = none) : ∀ q ∈ L, q.name ≠ name := fun q hq => by
 have := List.find?_eq_none.1 h q hq
 simpa using this
theorem getP_some {L : List Per} {name : ByteArray} {p : Per} (h : getP L name = some p) : p.name = name ∧ p ∈ L :=
 ⟨by simpa using List.find?_some h, List.mem_of_find?_eq_some h⟩
theorem getP_idx {L : List Per} {name : ByteArray} {p : Per} (h : getP L name = some p) : ∃ k, ∃ hk : k < L.length, L[k] = p ∧ L.findIdx? (fun p => decide (p.name = name)) = some k := by
 unfold getP at h
 rw [List.find?_eq_some_iff_getElem] at h
 obtain ⟨h1, k, hk, rfl, h2⟩ := h
 refine ⟨k, hk, rfl, ?_⟩
 rw [List.findIdx?_eq_some_iff_getElem]
 exact ⟨hk, h1, fun j hj => by simpa using h2 j hj⟩
theorem getP_no_idx {L : List Per} {name : ByteArray} (h : getP L name = none) : L.findIdx? (fun p => decide (p.name = name)) = none := by
 rw [List.findIdx?_eq_none_iff]
 intro x hx
 simp [getP_none h x hx]
theorem getP_of_mem {L : List Per} (h : Rising L) {p : Per} (hp : p ∈ L) : getP L p.name = some p := by
 cases hg : getP L p.name with
 | none => exact absurd rfl (getP_none hg p hp)
 | some q =>
  obtain ⟨h1, h2⟩ := getP_some hg
  obtain ⟨i, hi, rfl⟩ := List.getElem_of_mem hp
  obtain ⟨j, hj, rfl⟩ := List.getElem_of_mem h2
  by_cases e : i = j
  ·
   subst e; rfl
  ·
   exact absurd h1.symm (h.ne hi hj e)
theorem raise_none {L : List Per} {name : ByteArray} (h : getP L name = none) : raiseP L name = (0, 5, L) := by unfold raiseP; rw [getP_no_idx h]
theorem off_none {L : List Per} {name : ByteArray} (off : Bool) (h : getP L name = none) : offP L name off = (5, L) := by unfold offP; rw [getP_no_idx h]
theorem rekey_none {L : List Per} {name : ByteArray} (key : Int) (h : getP L name = none) : rekeyP L name key = (5, L) := by unfold rekeyP; rw [getP_no_idx h]
theorem raise_some {L : List Per} {name : ByteArray} {p : Per} (hr : Rising L) (h : getP L name = some p) : raiseP L name = if 1073741824 ≤ p.epoch then (0, 2, L) else (p.epoch + 1, 0, putP L { p with epoch := p.epoch + 1 }) := by
 obtain ⟨k, hk, rfl, hi⟩ := getP_idx h
 unfold raiseP
 rw [hi]
 simp only [List.getElem?_eq_getElem hk]
 rw [putP_set hr k hk { L[k] with epoch := L[k].epoch + 1 } rfl]
theorem off_some {L : List Per} {name : ByteArray} {p : Per} (off : Bool) (hr : Rising L) (h : getP L name = some p) : offP L name off = if p.off = off then (6, L) else (0, putP L { p with off := off }) := by
 obtain ⟨k, hk, rfl, hi⟩ := getP_idx h
 unfold offP
 rw [hi]
 simp only [List.getElem?_eq_getElem hk]
 rw [putP_set hr k hk { L[k] with off := off } rfl]
theorem rekey_some {L : List Per} {name : ByteArray} {p : Per} (key : Int) (hr : Rising L) (h : getP L name = some p) : rekeyP L name key = if 1 ≤ key ∧ key ≤ 1000000006 then (if p.key = key then (6, L) else if 1073741824 ≤ p.epoch then (2, L) else (0, putP L { p with key := key, epoch := p.epoch + 1 })) else (10, L) := by
 obtain ⟨k, hk, rfl, hi⟩ := getP_idx h
 unfold rekeyP
 rw [hi]
 simp only [List.getElem?_eq_getElem hk]
 rw [putP_set hr k hk { L[k] with key := key, epoch := L[k].epoch + 1 } rfl]
theorem err_zero {p : Per} : p.err = 0 ↔ Sl.nameL p.nm = true ∧ (1 ≤ p.key ∧ p.key ≤ 1000000006) ∧ (1 ≤ p.epoch ∧ p.epoch ≤ 1073741824) := by
 unfold Per.err Per.nm
 by_cases h1 : Sl.nameL p.name.data.toList = true
 ·
  by_cases h2 : 1 ≤ p.key ∧ p.key ≤ 1000000006
  ·
   by_cases h3 : 1 ≤ p.epoch ∧ p.epoch ≤ 1073741824
   ·
    rw [if_pos h1, if_pos h2, if_pos h3]; exact ⟨fun _ => ⟨h1, h2, h3⟩, fun _ => rfl⟩
   ·
    rw [if_pos h1, if_pos h2, if_neg h3]; exact ⟨fun h => absurd h (by decide), fun h => absurd h.2.2 h3⟩
  ·
   rw [if_pos h1, if_neg h2]; exact ⟨fun h => absurd h (by decide), fun h => absurd h.2.1 h2⟩
 ·
  rw [if_neg h1]; exact ⟨fun h => absurd h (by decide), fun h => absurd h.1 h1⟩
def Risen (L L' : List Per) : Prop := ∀ q ∈ L, ∃ p, getP L' q.name = some p ∧ q.epoch ≤ p.epoch ∧ (p.key = q.key ∨ p.epoch ≠ q.epoch)
theorem Risen.refl {L : List Per} (h : Rising L) : Risen L L := fun q hq => ⟨q, getP_of_mem h hq, Int.le_refl _, Or.inl rfl⟩
theorem put_new_good {L : List Per} (h : Good L) {p : Per} (hp : p.err = 0) (hn : getP L p.name = none) (hl : L.length < 20) : Good (putP L p) ∧ Risen L (putP L p) := by
 have hne := getP_none hn
 rw [putP_new hne]
 have hr := insL_rising p L h.rise hne
 have hperm := insL_perm p L
 refine ⟨⟨hr, fun q hq => ?_, by rw [hperm.length_eq]; simp; omega⟩, fun q hq => ⟨q, getP_of_mem hr (hperm.mem_iff.2 (by simp [hq])), Int.le_refl _, Or.inl rfl⟩⟩
 rcases List.mem_cons.1 (hperm.mem_iff.1 hq) with rfl | hq
 ·
  exact hp
 ·
  exact h.fine q hq
theorem put_set_good {L : List Per} (h : Good L) {p p' : Per} (hg : getP L p'.name = some p) (hp : p'.err = 0) (he : p.epoch ≤ p'.epoch) (hk : p'.key = p.key ∨ p'.epoch ≠ p.epoch) : Good (putP L p') ∧ Risen L (putP L p') := by
 obtain ⟨k, hkl, rfl, _⟩ := getP_idx hg
 have hn := (getP_some hg).1
 rw [putP_set h.rise k hkl p' hn]
 have hr := set_rising h.rise k hkl p' hn
 refine ⟨⟨hr, fun q hq => ?_, by simpa using h.few⟩, fun q hq => ?_⟩
 ·
  rcases List.mem_or_eq_of_mem_set hq with g | rfl
  ·
   exact h.fine q g
  ·
   exact hp
 ·
  obtain ⟨i, hi, rfl⟩ := List.getElem_of_mem hq
  by_cases e : i = k
  ·
   subst e
   refine ⟨p', ?_, he, hk⟩
   rw [hn]
   exact getP_of_mem hr (List.mem_set hi p')
  ·
   refine ⟨L[i], getP_of_mem hr ?_, Int.le_refl _, Or.inl rfl⟩
   rw [show L[i] = (L.set k p')[i]'(by simpa using hi) by rw [List.getElem_set_ne (Ne.symm e)]]
   exact List.getElem_mem _
structure Acted (L : List Per) (r : Nat × List Per) : Prop where
 good : Good r.2
 risen : Risen L r.2
 same : r.1 ≠ 0 → r.2 = L
theorem Acted.no {L : List Per} (h : Good L) (c : Nat) : Acted L (c, L) := ⟨h, Risen.refl h.rise, fun _ => rfl⟩
theorem Acted.yes {L M : List Per} (h : Good M ∧ Risen L M) : Acted L (0, M) := ⟨h.1, h.2, fun g => absurd rfl g⟩
theorem add_acted {L : List Per} (h : Good L) (name : ByteArray) (key : Int) : Acted L (addP L name key) := by
 unfold addP
 by_cases h1 : (newP name key).err = 0
 ·
  rw [if_neg (by simpa using h1)]
  cases hg : getP L name with
  | some p => exact Acted.no h 6
  | none =>
   by_cases h3 : 20 ≤ L.length
   ·
    simp only [Option.isSome_none, Bool.false_eq_true, if_false, if_pos h3]
    exact Acted.no h 7
   ·
    simp only [Option.isSome_none, Bool.false_eq_true, if_false, if_neg h3]
    exact Acted.yes (put_new_good h h1 hg (by omega))
 ·
  rw [if_pos h1]
  exact Acted.no h _
theorem raise_acted {L : List Per} (h : Good L) (name : ByteArray) : Acted L (raiseP L name).2 := by
 cases hg : getP L name with
 | none => rw [raise_none hg]; exact Acted.no h 5
 | some p =>
  rw [raise_some h.rise hg]
  by_cases he : 1073741824 ≤ p.epoch
  ·
   rw [if_pos he]; exact Acted.no h 2
  ·
   rw [if_neg he]
   obtain ⟨hn, hm⟩ := getP_some hg
   subst hn
   obtain ⟨f1, f2, f3⟩ := err_zero.1 (h.fine p hm)
   exact Acted.yes (put_set_good h (p' := { p with epoch := p.epoch + 1 }) hg (err_zero.2 ⟨f1, f2, by show 1 ≤ p.epoch + 1 ∧ p.epoch + 1 ≤ _; omega⟩) (by show p.epoch ≤ p.epoch + 1; omega) (Or.inl rfl))
theorem off_acted {L : List Per} (h : Good L) (name : ByteArray) (off : Bool) : Acted L (offP L name off) := by
 cases hg : getP L name with
 | none => rw [off_none off hg]; exact Acted.no h 5
 | some p =>
  rw [off_some off h.rise hg]
  by_cases he : p.off = off
  ·
   rw [if_pos he]; exact Acted.no h 6
  ·
   rw [if_neg he]
   obtain ⟨hn, hm⟩ := getP_some hg
   subst hn
   obtain ⟨f1, f2, f3⟩ := err_zero.1 (h.fine p hm)
   exact Acted.yes (put_set_good h (p' := { p with off := off }) hg (err_zero.2 ⟨f1, f2, f3⟩) (Int.le_refl _) (Or.inl rfl))
theorem rekey_acted {L : List Per} (h : Good L) (name : ByteArray) (key : Int) : Acted L (rekeyP L name key) := by
 cases hg : getP L name with
 | none => rw [rekey_none key hg]; exact Acted.no h 5
 | some p =>
  rw [rekey_some key h.rise hg]
  by_cases hk : 1 ≤ key ∧ key ≤ 1000000006
  ·
   rw [if_pos hk]
   by_cases hq : p.key = key
   ·
    rw [if_pos hq]; exact Acted.no h 6
   ·
    rw [if_neg hq]
    by_cases he : 1073741824 ≤ p.epoch
    ·
     rw [if_pos he]; exact Acted.no h 2
    ·
     rw [if_neg he]
     obtain ⟨hn, hm⟩ := getP_some hg
     subst hn
     obtain ⟨f1, f2, f3⟩ := err_zero.1 (h.fine p hm)
     exact Acted.yes (put_set_good h (p' := { p with key := key, epoch := p.epoch + 1 }) hg (err_zero.2 ⟨f1, hk, by show 1 ≤ p.epoch + 1 ∧ p.epoch + 1 ≤ _; omega⟩) (by show p.epoch ≤ p.epoch + 1; omega) (Or.inr (by show p.epoch + 1 ≠ p.epoch; omega)))
  ·
   rw [if_neg hk]; exact Acted.no h 10
theorem add_err {L : List Per} {name : ByteArray} {key : Int} (h : (newP name key).err ≠ 0) : addP L name key = ((newP name key).err, L) := by unfold addP; rw [if_pos h]
theorem add_is {L : List Per} {name : ByteArray} {key : Int} {p : Per} (h : (newP name key).err = 0) (hg : getP L name = some p) : addP L name key = (6, L) := by
 unfold addP; rw [if_neg (by simpa using h), hg]; rfl
theorem add_full {L : List Per} {name : ByteArray} {key : Int} (h : (newP name key).err = 0) (hg : getP L name = none) (hn : 20 ≤ L.length) : addP L name key = (7, L) := by
 unfold addP; rw [if_neg (by simpa using h), hg, if_neg (by simp), if_pos hn]
theorem add_ok {L : List Per} {name : ByteArray} {key : Int} (h : (newP name key).err = 0) (hg : getP L name = none) (hn : ¬ 20 ≤ L.length) : addP L name key = (0, putP L (newP name key)) := by
 unfold addP; rw [if_neg (by simpa using h), hg, if_neg (by simp), if_neg hn]
structure Tk where
 who : ByteArray
 dst : ByteArray
 epoch : Int
 frm : Int
 til : Int
 ser : Int
def Tk.cells (t : Tk) : Array Value := #[.string t.who, .string t.dst, .int .i64 t.epoch, .int .i64 t.frm, .int .i64 t.til, .int .i64 t.ser]
def Tk.val (t : Tk) : Value := .agg t.cells
def tk0 : Tk := ⟨⟨#[]⟩, ⟨#[]⟩, 0, 0, 0, 0⟩
def Tk.names (t : Tk) : Bool := Sl.nameL t.who.data.toList && Sl.nameL t.dst.data.toList
abbrev Tk.nums (t : Tk) : Prop := (1 ≤ t.epoch ∧ t.epoch ≤ 1073741824) ∧ (1 ≤ t.ser ∧ t.ser ≤ 1073741824) ∧ (0 ≤ t.frm ∧ t.frm ≤ 1000000) ∧ (t.frm ≤ t.til ∧ t.til ≤ 1000000)
def Tk.err (t : Tk) : Nat := if t.names = true then (if t.nums then 0 else 2) else 4
def Tk.good (t : Tk) (now : Int) : Nat := if t.err = 0 then (if 0 ≤ now ∧ now ≤ 1000000 then (if now < t.frm then 11 else if t.til ≤ now then 12 else 0) else 2) else t.err
def okT (c : Nat) (t : Tk) : Tk := if c = 0 then t else tk0
def Tk.anew (t : Tk) (now til ser : Int) : Tk := ⟨t.who, t.dst, t.epoch, now, min til t.til, ser⟩
def Tk.renewE (t : Tk) (now til ser : Int) : Nat := if t.good now = 0 then (t.anew now til ser).err else t.good now
def tickL : List UInt8 := [116, 105, 99, 107, 101, 116]
def Tk.words (t : Tk) : List (List UInt8) := [tickL, t.who.data.toList, t.dst.data.toList, Lib.decDigits t.epoch.toNat, Lib.decDigits t.frm.toNat, Lib.decDigits t.til.toNat, Lib.decDigits t.ser.toNat]
def formW (ws : List (List UInt8)) : Bool := decide (ws.length = 7) && decide (ws.getD 0 [] = tickL) && (Sl.numOk (ws.getD 3 []) && Sl.numOk (ws.getD 4 []) && Sl.numOk (ws.getD 5 []) && Sl.numOk (ws.getD 6 []))
def tkOf (ws : List (List UInt8)) : Tk := ⟨Sl.ofL (ws.getD 1 []), Sl.ofL (ws.getD 2 []), (Sl.valL (ws.getD 3 []) : Int), (Sl.valL (ws.getD 4 []) : Int), (Sl.valL (ws.getD 5 []) : Int), (Sl.valL (ws.getD 6 []) : Int)⟩
def readE (ws : List (List UInt8)) : Nat := if formW ws = true then (tkOf ws).err else 1
theorem Tk.err_le (t : Tk) : t.err ≤ 16 := by unfold Tk.err; split <;> (try split) <;> omega
theorem Tk.good_le (t : Tk) (now : Int) : t.good now ≤ 16 := by have := t.err_le; unfold Tk.good; repeat (first | split | omega)
theorem Tk.renewE_le (t : Tk) (now til ser : Int) : t.renewE now til ser ≤ 16 := by have := (t.anew now til ser).err_le; have := t.good_le now; unfold Tk.renewE; split <;> omega
theorem readE_le (ws : List (List UInt8)) : readE ws ≤ 16 := by have := (tkOf ws).err_le; unfold readE; split <;> omega
theorem Tk.err_iff (t : Tk) : t.err = 0 ↔ t.names = true ∧ t.nums := by
 unfold Tk.err
 constructor
 ·
  intro h
  split at h
  ·
   split at h
   ·
    exact ⟨by assumption, by assumption⟩
   ·
    cases h
  ·
   cases h
 ·
  rintro ⟨h1, h2⟩
  rw [if_pos h1, if_pos h2]
theorem smallB_word (b : UInt8) (h : Sl.smallB b = true) : Sl.wordB b = true := by unfold Sl.wordB; rw [h]; rfl
theorem name_small {s : ByteArray} (h : Sl.nameL s.data.toList = true) : s.size ≤ maxLen := by
 unfold Sl.nameL Sl.madeL at h
 rw [Bool.and_eq_true, decide_eq_true_eq] at h
 have h1 := h.1
 have : s.data.toList.length = s.size := rfl
 unfold maxLen
 omega
theorem name_word (l : List UInt8) (h : Sl.nameL l = true) : Sl.wordL l = true := by
 unfold Sl.nameL Sl.madeL at h
 unfold Sl.wordL Sl.madeL
 rw [Bool.and_eq_true, decide_eq_true_eq] at h
 rw [Bool.and_eq_true, decide_eq_true_eq]
 refine ⟨by omega, List.all_eq_true.2 fun b hb => smallB_word b (List.all_eq_true.1 h.2 b hb)⟩
theorem num_word (l : List UInt8) (h : Sl.numOk l = true) : Sl.wordL l = true := by
 obtain ⟨h1, h2, _⟩ := (Sl.numOk_iff l).1 h
 unfold Sl.wordL Sl.madeL
 rw [Bool.and_eq_true, decide_eq_true_eq]
 refine ⟨by omega, List.all_eq_true.2 fun b hb => smallB_word b ?_⟩
 unfold Sl.smallB
 rw [List.all_eq_true.1 h2 b hb]
 rfl
theorem dec_nat (n : Int) (h : 0 ≤ n ∧ n ≤ 1073741824) : Sl.numOk (Lib.decDigits n.toNat) = true ∧ (Sl.valL (Lib.decDigits n.toNat) : Int) = n := by
 refine ⟨Sl.dec_ok _ (by omega), ?_⟩
 rw [Sl.dec_val]
 omega
theorem Tk.words_ok (t : Tk) (h : t.err = 0) : Sl.wordsOk t.words = true := by
 obtain ⟨hn, h1, h2, h3, h4⟩ := t.err_iff.1 h
 unfold Tk.names at hn
 rw [Bool.and_eq_true] at hn
 rw [Sl.wordsOk_iff]
 refine ⟨⟨by simp [Tk.words], by simp [Tk.words]⟩, fun w hw => ?_⟩
 simp only [Tk.words, List.mem_cons, List.not_mem_nil, or_false] at hw
 rcases hw with rfl | rfl | rfl | rfl | rfl | rfl | rfl
 ·
  decide
 ·
  exact name_word _ hn.1
 ·
  exact name_word _ hn.2
 ·
  exact num_word _ (dec_nat _ (by omega)).1
 ·
  exact num_word _ (dec_nat _ (by omega)).1
 ·
  exact num_word _ (dec_nat _ (by omega)).1
 ·
  exact num_word _ (dec_nat _ (by omega)).1
theorem Tk.words_read (t : Tk) (h : t.err = 0) : readE t.words = 0 ∧ tkOf t.words = t := by
 obtain ⟨hn, h1, h2, h3, h4⟩ := t.err_iff.1 h
 have e1 := dec_nat t.epoch (by omega)
 have e2 := dec_nat t.frm (by omega)
 have e3 := dec_nat t.til (by omega)
 have e4 := dec_nat t.ser (by omega)
 have e : tkOf t.words = t := by
  show Tk.mk (Sl.ofL t.who.data.toList) (Sl.ofL t.dst.data.toList) (Sl.valL (Lib.decDigits t.epoch.toNat)) (Sl.valL (Lib.decDigits t.frm.toNat)) (Sl.valL (Lib.decDigits t.til.toNat)) (Sl.valL (Lib.decDigits t.ser.toNat)) = t
  rw [e1.2, e2.2, e3.2, e4.2, Sl.ofL_toL, Sl.ofL_toL]
 refine ⟨?_, e⟩
 have hf : formW t.words = true := by
  show (true && decide (tickL = tickL) && (Sl.numOk (Lib.decDigits t.epoch.toNat) && Sl.numOk (Lib.decDigits t.frm.toNat) && Sl.numOk (Lib.decDigits t.til.toNat) && Sl.numOk (Lib.decDigits t.ser.toNat))) = true
  rw [e1.1, e2.1, e3.1, e4.1]
  rfl
 unfold readE
 rw [if_pos hf, e, h]
structure Fl where
 who : ByteArray
 ep : Int
def Fl.nm (f : Fl) : List UInt8 := f.who.data.toList
def Fl.cells (f : Fl) : List Value := [.string f.who, .int .i64 f.ep]
def Fl.val (f : Fl) : Value := .agg #[.string f.who, .int .i64 f.ep]
theorem Fl.same {f g : Fl} (h1 : f.nm = g.nm) (h2 : f.ep = g.ep) : f = g := by
 obtain ⟨a, b⟩ := f
 obtain ⟨c, d⟩ := g
 obtain rfl : a = c := Go.WideShapes.bytes_inj h1
 obtain rfl : b = d := h2
 rfl
def star : List UInt8 := [42]
def oneE (f : Fl) : Nat := if f.nm = star ∨ Sl.nameL f.nm = true then (if 1 ≤ f.ep ∧ f.ep ≤ 1073741824 then 0 else 2) else 4
def topL : List Fl → Int
 | [] => 0
 | f :: _ => if f.nm = star then f.ep else 0
theorem topL_cons (f : Fl) (l : List Fl) : topL (f :: l) = if f.nm = star then f.ep else 0 := rfl
abbrev RisingF (l : List Fl) : Prop := l.Pairwise (fun f g => f.nm < g.nm)
structure RightF (l : List Fl) : Prop where
 one : ∀ f ∈ l, oneE f = 0
 rising : RisingF l
 above : ∀ f ∈ l, f.nm = star ∨ topL l < f.ep
def ofL (l : List Fl) (name : List UInt8) : Int := match l.find? (fun f => decide (f.nm = name)) with
 | some f => f.ep
 | none => topL l
theorem one_pos {f : Fl} (h : oneE f = 0) : 1 ≤ f.ep ∧ f.ep ≤ 1073741824 := by
 unfold oneE at h
 split at h
 ·
  split at h
  ·
   assumption
  ·
   cases h
 ·
  cases h
theorem one_name {f : Fl} (h : oneE f = 0) : f.nm = star ∨ Sl.nameL f.nm = true := by
 unfold oneE at h
 split at h
 ·
  assumption
 ·
  cases h
theorem star_lt {n : List UInt8} (h : Sl.nameL n = true) : star < n := by
 unfold Sl.nameL Sl.madeL at h
 simp only [Bool.and_eq_true, decide_eq_true_eq] at h
 match n, h with
 | b :: n, h =>
  have hb := (List.all_eq_true.1 h.2) b (by simp)
  have : (42 : UInt8) < b := by
   rw [UInt8.lt_iff_toNat_lt]
   unfold Sl.smallB Sl.digB at hb
   simp at hb
   have e : (42 : UInt8).toNat = 42 := by decide
   omega
  exact List.cons_lt_cons_iff.2 (Or.inl this)
theorem not_below_star {f : Fl} (h : oneE f = 0) : ¬ f.nm < star := by
 rcases one_name h with e | e
 ·
  rw [e]; exact List.lt_irrefl _
 ·
  exact fun g => List.lt_irrefl _ (List.lt_trans g (star_lt e))
theorem RisingF.inj {l : List Fl} (h : RisingF l) {f g : Fl} (hf : f ∈ l) (hg : g ∈ l) (he : f.nm = g.nm) : f = g := by
 induction l with
 | nil => cases hf
 | cons a l ih =>
  obtain ⟨h1, h2⟩ := List.pairwise_cons.1 h
  rcases List.mem_cons.1 hf with e | e
  ·
   rcases List.mem_cons.1 hg with e2 | e2
   ·
    rw [e, e2]
   ·
    have := h1 g e2; rw [← e, he] at this; exact absurd this (List.lt_irrefl _)
  ·
   rcases List.mem_cons.1 hg with e2 | e2
   ·
    have := h1 f e; rw [← e2, he] at this; exact absurd this (List.lt_irrefl _)
   ·
    exact ih h2 e e2
theorem top_mem {l : List Fl} (h1 : ∀ f ∈ l, oneE f = 0) (h2 : RisingF l) {f : Fl} (hf : f ∈ l) (hs : f.nm = star) : topL l = f.ep := by
 cases l with
 | nil => cases hf
 | cons a l =>
  rcases List.mem_cons.1 hf with e | e
  ·
   subst e; rw [topL_cons, if_pos hs]
  ·
   have := (List.pairwise_cons.1 h2).1 f e
   rw [hs] at this
   exact absurd this (not_below_star (h1 a (by simp)))
theorem top_none {l : List Fl} (h : ∀ f ∈ l, f.nm ≠ star) : topL l = 0 := by
 cases l with
 | nil => rfl
 | cons a l => rw [topL_cons, if_neg (h a (by simp))]
theorem top_cases (l : List Fl) : (∃ f ∈ l, f.nm = star ∧ topL l = f.ep) ∨ topL l = 0 := by
 cases l with
 | nil => exact Or.inr rfl
 | cons a l =>
  by_cases h : a.nm = star
  ·
   exact Or.inl ⟨a, by simp, h, by rw [topL_cons, if_pos h]⟩
  ·
   exact Or.inr (by rw [topL_cons, if_neg h])
theorem RightF.top_le {l : List Fl} (h : RightF l) {f : Fl} (hf : f ∈ l) : topL l ≤ f.ep := by
 rcases h.above f hf with e | e
 ·
  rw [top_mem h.one h.rising hf e]; exact Int.le_refl _
 ·
  omega
theorem of_mem {l : List Fl} (h : RisingF l) {f : Fl} (hf : f ∈ l) : ofL l f.nm = f.ep := by
 unfold ofL
 cases hg : l.find? (fun g => decide (g.nm = f.nm)) with
 | none =>
  have := List.find?_eq_none.1 hg f hf
  simp at this
 | some g =>
  have h1 := List.mem_of_find?_eq_some hg
  have h2 := List.find?_some hg
  simp only [decide_eq_true_eq] at h2
  rw [h.inj h1 hf h2]
theorem of_none {l : List Fl} {n : List UInt8} (h : ∀ f ∈ l, f.nm ≠ n) : ofL l n = topL l := by
 unfold ofL
 rw [List.find?_eq_none.2 (fun f hf => by simpa using h f hf)]
theorem of_cases (l : List Fl) (n : List UInt8) : (∃ f ∈ l, f.nm = n ∧ ofL l n = f.ep) ∨ ((∀ f ∈ l, f.nm ≠ n) ∧ ofL l n = topL l) := by
 unfold ofL
 cases hg : l.find? (fun g => decide (g.nm = n)) with
 | none => exact Or.inr ⟨fun f hf => by simpa using List.find?_eq_none.1 hg f hf, rfl⟩
 | some g => exact Or.inl ⟨g, List.mem_of_find?_eq_some hg, by simpa using List.find?_some hg, rfl⟩
theorem of_star {l : List Fl} (h : RightF l) : ofL l star = topL l := by
 rcases of_cases l star with ⟨f, hf, hs, e⟩ | ⟨_, e⟩
 ·
  rw [e, top_mem h.one h.rising hf hs]
 ·
  exact e
theorem top_le_of {l : List Fl} (h : RightF l) (n : List UInt8) : topL l ≤ ofL l n := by
 rcases of_cases l n with ⟨f, hf, hs, e⟩ | ⟨_, e⟩
 ·
  rw [e]; exact h.top_le hf
 ·
  omega
theorem of_le {l : List Fl} (h : RightF l) (n : List UInt8) : ofL l n ≤ 1073741824 := by
 rcases of_cases l n with ⟨f, hf, hs, e⟩ | ⟨_, e⟩
 ·
  rw [e]; exact (one_pos (h.one f hf)).2
 ·
  rw [e]
  rcases top_cases l with ⟨f, hf, _, e⟩ | e
  ·
   rw [e]; exact (one_pos (h.one f hf)).2
  ·
   omega
theorem mem_iff {l : List Fl} (h : RightF l) (f : Fl) : f ∈ l ↔ ofL l f.nm = f.ep ∧ (f.nm = star → 1 ≤ f.ep) ∧ (f.nm ≠ star → ofL l star < f.ep) := by
 constructor
 ·
  intro hf
  refine ⟨of_mem h.rising hf, fun _ => (one_pos (h.one f hf)).1, fun hn => ?_⟩
  rw [of_star h]
  rcases h.above f hf with e | e
  ·
   exact absurd e hn
  ·
   exact e
 ·
  rintro ⟨h1, h2, h3⟩
  rcases of_cases l f.nm with ⟨g, hg, hs, e⟩ | ⟨hno, e⟩
  ·
   rw [← Fl.same hs (by omega)]; exact hg
  ·
   by_cases hn : f.nm = star
   ·
    have := h2 hn
    rw [top_none (fun g hg => by rw [← hn]; exact hno g hg)] at e
    omega
   ·
    have := h3 hn
    rw [of_star h] at this
    omega
/-! ### A floor that is raised -/
def placeF (l : List Fl) (n : List UInt8) : Nat := (l.takeWhile (fun f => decide (f.nm < n))).length
theorem place_le (l : List Fl) (n : List UInt8) : placeF l n ≤ l.length := (List.takeWhile_sublist _).length_le
theorem placeF_eq : ∀ (l : List Fl) (n : List UInt8) (k : Nat), k ≤ l.length → (∀ j (hj : j < l.length), j < k → l[j].nm < n) → (∀ hk : k < l.length, ¬ l[k].nm < n) → placeF l n = k
 | [], n, k, hk, _, _ => by simp at hk; subst hk; rfl
 | a :: l, n, 0, _, _, h => by
  have := h (by simp)
  simp only [List.getElem_cons_zero] at this
  unfold placeF
  rw [List.takeWhile_cons, if_neg (by simpa using this)]
  rfl
 | a :: l, n, k + 1, hk, h1, h2 => by
  have ha := h1 0 (by simp) (Nat.succ_pos _)
  simp only [List.getElem_cons_zero] at ha
  have ih := placeF_eq l n k (by simpa using hk) (fun j hj hjk => h1 (j + 1) (by simpa using hj) (by omega)) (fun hk2 => h2 (by simpa using hk2))
  unfold placeF at ih ⊢
  rw [List.takeWhile_cons, if_pos (by simpa using ha), List.length_cons, ih]
theorem mem_while (p : Fl → Bool) : ∀ (l : List Fl) (f : Fl), f ∈ l.takeWhile p → p f = true
 | [], _, h => by simp at h
 | a :: l, f, h => by
  rw [List.takeWhile_cons] at h
  split at h
  ·
   rcases List.mem_cons.1 h with e | e
   ·
    rw [e]; assumption
   ·
    exact mem_while p l f e
  ·
   cases h
theorem place_take (l : List Fl) (n : List UInt8) : ∀ f ∈ l.take (placeF l n), f.nm < n := fun f hf => by
 unfold placeF at hf
 rw [(List.prefix_iff_eq_take.1 (List.takeWhile_prefix _)).symm] at hf
 simpa using mem_while _ _ _ hf
theorem place_drop {l : List Fl} (hr : RisingF l) (n : List UInt8) : ∀ f ∈ l.drop (placeF l n), ¬ f.nm < n := by
 induction l with
 | nil => intro f hf; simp at hf
 | cons a l ih =>
  obtain ⟨h1, h2⟩ := List.pairwise_cons.1 hr
  intro f hf
  by_cases ha : a.nm < n
  ·
   have : placeF (a :: l) n = placeF l n + 1 := by
    unfold placeF
    rw [List.takeWhile_cons, if_pos (by simpa using ha), List.length_cons]
   rw [this, List.drop_succ_cons] at hf
   exact ih h2 f hf
  ·
   have : placeF (a :: l) n = 0 := by
    unfold placeF
    rw [List.takeWhile_cons, if_neg (by simpa using ha)]
    rfl
   rw [this, List.drop_zero] at hf
   rcases List.mem_cons.1 hf with e | e
   ·
    rw [e]; exact ha
   ·
    exact fun g => ha (List.lt_trans (h1 f e) g)
def goesF (f o : Fl) : Bool := decide (o.nm = f.nm) || (decide (f.nm = star) && decide (o.ep ≤ f.ep))
def keptF (l : List Fl) (f : Fl) : List Fl := l.filter (fun o => !goesF f o)
def putF (k : List Fl) (f : Fl) : List Fl := k.take (placeF k f.nm) ++ f :: k.drop (placeF k f.nm)
def raisedL (l : List Fl) (f : Fl) : List Fl := if f.ep ≤ ofL l f.nm then l else putF (keptF l f) f
theorem mem_putF {k : List Fl} {f g : Fl} : g ∈ putF k f ↔ g = f ∨ g ∈ k := by
 unfold putF
 have := List.take_append_drop (placeF k f.nm) k
 constructor
 ·
  intro h
  rcases List.mem_append.1 h with e | e
  ·
   exact Or.inr (List.mem_of_mem_take e)
  ·
   rcases List.mem_cons.1 e with e | e
   ·
    exact Or.inl e
   ·
    exact Or.inr (List.mem_of_mem_drop e)
 ·
  rintro (e | e)
  ·
   simp [e]
  ·
   rw [← this] at e
   rcases List.mem_append.1 e with e | e
   ·
    simp [e]
   ·
    simp [e]
theorem mem_keptF {l : List Fl} {f g : Fl} : g ∈ keptF l f ↔ g ∈ l ∧ g.nm ≠ f.nm ∧ (f.nm = star → f.ep < g.ep) := by
 unfold keptF goesF
 rw [List.mem_filter]
 simp only [Bool.not_eq_true', Bool.or_eq_false_iff, decide_eq_false_iff_not, Bool.and_eq_false_imp, decide_eq_true_eq, Int.not_le]
theorem rising_put {k : List Fl} {f : Fl} (hk : RisingF k) (hn : ∀ g ∈ k, g.nm ≠ f.nm) : RisingF (putF k f) := by
 unfold putF
 have hall : RisingF (k.take (placeF k f.nm) ++ k.drop (placeF k f.nm)) := by rw [List.take_append_drop]; exact hk
 obtain ⟨h1, h2, h3⟩ := List.pairwise_append.1 hall
 refine List.pairwise_append.2 ⟨h1, List.pairwise_cons.2 ⟨fun g hg => ?_, h2⟩, fun g hg o ho => ?_⟩
 ·
  have ne := hn g (List.mem_of_mem_drop hg)
  have nl := place_drop hk f.nm g hg
  exact Decidable.byContradiction fun e => ne (List.le_antisymm (List.not_lt.1 e) (List.not_lt.1 nl))
 ·
  rcases List.mem_cons.1 ho with e | e
  ·
   rw [e]; exact place_take k f.nm g hg
  ·
   exact h3 g hg o e
theorem rising_kept {l : List Fl} (h : RisingF l) (f : Fl) : RisingF (keptF l f) := List.Pairwise.sublist List.filter_sublist h
theorem top_put {l : List Fl} {f : Fl} (h : RightF l) (hf : oneE f = 0) : topL (putF (keptF l f) f) = if f.nm = star then f.ep else topL l := by
 have h1 : ∀ g ∈ putF (keptF l f) f, oneE g = 0 := fun g hg => by
  rcases mem_putF.1 hg with e | e
  ·
   rw [e]; exact hf
  ·
   exact h.one g (mem_keptF.1 e).1
 have h2 := rising_put (rising_kept h.rising f) (fun g hg => (mem_keptF.1 hg).2.1)
 split
 ·
  rename_i hs
  exact top_mem h1 h2 (mem_putF.2 (Or.inl rfl)) hs
 ·
  rename_i hs
  rcases top_cases l with ⟨g, hg, gs, e⟩ | e
  ·
   rw [e]
   exact top_mem h1 h2 (mem_putF.2 (Or.inr (mem_keptF.2 ⟨hg, fun e2 => hs (by rw [← e2, gs]), fun e2 => absurd e2 hs⟩))) gs
  ·
   rw [e]
   refine top_none (fun g hg gs => ?_)
   rcases mem_putF.1 hg with e2 | e2
   ·
    rw [e2] at gs; exact hs gs
   ·
    have hm := (mem_keptF.1 e2).1
    rw [top_mem h.one h.rising hm gs] at e
    have := one_pos (h.one g hm)
    omega
theorem right_put {l : List Fl} {f : Fl} (h : RightF l) (hf : oneE f = 0) (hup : ofL l f.nm < f.ep) : RightF (putF (keptF l f) f) where
 one g hg := by
  rcases mem_putF.1 hg with e | e
  ·
   rw [e]; exact hf
  ·
   exact h.one g (mem_keptF.1 e).1
 rising := rising_put (rising_kept h.rising f) (fun g hg => (mem_keptF.1 hg).2.1)
 above g hg := by
  rw [top_put h hf]
  rcases mem_putF.1 hg with e | e
  ·
   subst e
   by_cases hs : g.nm = star
   ·
    exact Or.inl hs
   ·
    rw [if_neg hs]
    exact Or.inr (Int.lt_of_le_of_lt (top_le_of h g.nm) hup)
  ·
   obtain ⟨hm, hne, hgt⟩ := mem_keptF.1 e
   by_cases hs : f.nm = star
   ·
    rw [if_pos hs]; exact Or.inr (hgt hs)
   ·
    rw [if_neg hs]; exact h.above g hm
theorem right_raised {l : List Fl} {f : Fl} (h : RightF l) (hf : oneE f = 0) : RightF (raisedL l f) := by
 unfold raisedL
 split
 ·
  exact h
 ·
  exact right_put h hf (by omega)
def upF (f : Fl) (n : List UInt8) (m : Int) : Int := if f.nm = star ∨ n = f.nm then max m f.ep else m
theorem of_raised {l : List Fl} {f : Fl} (h : RightF l) (hf : oneE f = 0) (n : List UInt8) : ofL (raisedL l f) n = upF f n (ofL l n) := by
 unfold raisedL upF
 split
 ·
  rename_i hle
  split
  ·
   rename_i hc
   have : f.ep ≤ ofL l n := by
    rcases hc with e | e
    ·
     rw [e, of_star h] at hle; exact Int.le_trans hle (top_le_of h n)
    ·
     rw [e]; exact hle
   omega
  ·
   rfl
 ·
  rename_i hle
  have hr := right_put h hf (by omega)
  by_cases hn : n = f.nm
  ·
   subst hn
   rw [if_pos (Or.inr rfl), of_mem hr.rising (mem_putF.2 (Or.inl rfl))]
   omega
  ·
   by_cases hs : f.nm = star
   ·
    rw [if_pos (Or.inl hs)]
    rcases of_cases l n with ⟨g, hg, gn, e⟩ | ⟨hno, e⟩
    ·
     by_cases hge : f.ep < g.ep
     ·
      have := of_mem hr.rising (mem_putF.2 (Or.inr (mem_keptF.2 ⟨hg, by rw [gn]; exact hn, fun _ => hge⟩)))
      rw [gn] at this
      rw [this, e]
      omega
     ·
      rw [of_none (fun o ho => ?_), top_put h hf, if_pos hs, e]
      ·
       omega
      ·
       intro on
       rcases mem_putF.1 ho with e2 | e2
       ·
        rw [e2] at on; exact hn on.symm
       ·
        obtain ⟨om, _, og⟩ := mem_keptF.1 e2
        have := h.rising.inj om hg (by rw [on, gn])
        rw [this] at og
        exact hge (og hs)
    ·
     rw [of_none (fun o ho on => ?_), top_put h hf, if_pos hs, e]
     ·
      rw [hs, of_star h] at hle
      omega
     ·
      rcases mem_putF.1 ho with e2 | e2
      ·
       rw [e2] at on; exact hn on.symm
      ·
       exact hno o (mem_keptF.1 e2).1 on
   ·
    rw [if_neg (fun e => e.elim hs hn)]
    rcases of_cases l n with ⟨g, hg, gn, e⟩ | ⟨hno, e⟩
    ·
     have := of_mem hr.rising (mem_putF.2 (Or.inr (mem_keptF.2 ⟨hg, by rw [gn]; exact hn, fun e2 => absurd e2 hs⟩)))
     rw [gn] at this
     rw [this, e]
    ·
     rw [of_none (fun o ho on => ?_), top_put h hf, if_neg hs, e]
     rcases mem_putF.1 ho with e2 | e2
     ·
      rw [e2] at on; exact hn on.symm
     ·
      exact hno o (mem_keptF.1 e2).1 on
theorem up_le (f : Fl) (n : List UInt8) (m : Int) : m ≤ upF f n m := by
 unfold upF
 split <;> omega
/-! ### Floors that are joined -/
theorem of_fold : ∀ (b : List Fl) {a : List Fl} (_ : RightF a) (_ : ∀ f ∈ b, oneE f = 0) (n : List UInt8), ofL (b.foldl raisedL a) n = b.foldl (fun m f => upF f n m) (ofL a n)
 | [], _, _, _, _ => rfl
 | f :: b, a, h, hb, n => by
  rw [List.foldl_cons, List.foldl_cons, of_fold b (right_raised h (hb f (by simp))) (fun g hg => hb g (by simp [hg])) n, of_raised h (hb f (by simp))]
/-! ### Floors that are asked -/
def behindE (ahead : List Fl) (f : Fl) : Nat :=
 if oneE f = 0 then (if ∃ g, ahead.getLast? = some g ∧ ¬ g.nm < f.nm then 8 else if f.ep ≤ topL ahead then 3 else 0) else oneE f
def badAt (l : List Fl) (i : Nat) : Nat := match l[i]? with
 | some f => behindE (l.take i) f
 | none => 0
def checkL (l : List Fl) : Nat × Int := if 21 < l.length then (7, -1) else match (List.range l.length).find? (fun i => badAt l i != 0) with
 | some i => (badAt l i, i)
 | none => (0, -1)
theorem behind_one {a : List Fl} {f : Fl} (h : behindE a f = 0) : oneE f = 0 := by
 unfold behindE at h
 split at h <;> assumption
theorem behind_last {a : List Fl} {f g : Fl} (h : behindE a f = 0) (hg : a.getLast? = some g) : g.nm < f.nm := by
 have h1 := behind_one h
 unfold behindE at h
 rw [if_pos h1] at h
 split at h
 ·
  cases h
 ·
  rename_i hn
  exact Decidable.byContradiction fun e => hn ⟨g, hg, e⟩
theorem behind_top {a : List Fl} {f : Fl} (h : behindE a f = 0) : topL a < f.ep := by
 have h1 := behind_one h
 unfold behindE at h
 rw [if_pos h1] at h
 split at h
 ·
  cases h
 ·
  split at h
  ·
   cases h
  ·
   omega
theorem bad_right {l : List Fl} (h : RightF l) (i : Nat) : badAt l i = 0 := by
 unfold badAt
 cases hf : l[i]? with
 | none => rfl
 | some f =>
  obtain ⟨hi, hfi⟩ := List.getElem?_eq_some_iff.1 hf
  have hm : f ∈ l := by rw [← hfi]; exact List.getElem_mem _
  have hd : f ∈ l.drop i := by rw [List.drop_eq_getElem_cons hi, hfi]; simp
  have hall := h.rising
  rw [← List.take_append_drop i l] at hall
  have hlt := (List.pairwise_append.1 hall).2.2
  show behindE (l.take i) f = 0
  unfold behindE
  rw [if_pos (h.one f hm), if_neg, if_neg]
  ·
   intro hle
   rcases top_cases (l.take i) with ⟨g, hg, gs, e⟩ | e
   ·
    have hgl := List.mem_of_mem_take hg
    have : f.nm ≠ star := fun fs => by have := hlt g hg f hd; rw [gs, fs] at this; exact List.lt_irrefl _ this
    rcases h.above f hm with e2 | e2
    ·
     exact this e2
    ·
     rw [top_mem h.one h.rising hgl gs] at e2; omega
   ·
    have := one_pos (h.one f hm); omega
  ·
   rintro ⟨g, hg, hn⟩
   exact hn (hlt g (List.mem_of_getLast? hg) f hd)
theorem last_or {l : List Fl} (h : RisingF l) {f g : Fl} (hf : f ∈ l) (hg : l.getLast? = some g) : f = g ∨ f.nm < g.nm := by
 obtain ⟨a, rfl⟩ := List.getLast?_eq_some_iff.1 hg
 rcases List.mem_append.1 hf with e | e
 ·
  exact Or.inr ((List.pairwise_append.1 h).2.2 f e g (by simp))
 ·
  exact Or.inl (by simpa using e)
theorem bad_zero {l : List Fl} {i : Nat} (hi : i < l.length) (h : badAt l i = 0) : behindE (l.take i) l[i] = 0 := by
 unfold badAt at h
 rw [List.getElem?_eq_getElem hi] at h
 exact h
theorem rising_upto {l : List Fl} (h : ∀ i, i < l.length → badAt l i = 0) : ∀ i, i ≤ l.length → RisingF (l.take i)
 | 0, _ => by simp
 | i + 1, hi => by
  have ih := rising_upto h i (by omega)
  have hb := bad_zero (by omega) (h i (by omega))
  rw [List.take_succ_eq_append_getElem (by omega)]
  refine List.pairwise_append.2 ⟨ih, by simp, fun f hf g hg => ?_⟩
  obtain rfl : g = l[i] := by simpa using hg
  cases hl : (l.take i).getLast? with
  | none => rw [List.getLast?_eq_none_iff] at hl; rw [hl] at hf; cases hf
  | some o =>
   have := behind_last hb hl
   rcases last_or ih hf hl with e | e
   ·
    rw [e]; exact this
   ·
    exact List.lt_trans e this
theorem right_of_bad {l : List Fl} (h : ∀ i, i < l.length → badAt l i = 0) : RightF l where
 one f hf := by
  obtain ⟨i, hi, rfl⟩ := List.getElem_of_mem hf
  exact behind_one (bad_zero hi (h i hi))
 rising := by
  have := rising_upto h l.length (Nat.le_refl _)
  rwa [List.take_length] at this
 above f hf := by
  obtain ⟨i, hi, rfl⟩ := List.getElem_of_mem hf
  have hb := bad_zero hi (h i hi)
  match l, i, hi, hb with
  | a :: l, 0, _, hb =>
   by_cases hs : a.nm = star
   ·
    exact Or.inl hs
   ·
    refine Or.inr ?_
    rw [topL_cons, if_neg hs]
    exact (one_pos (behind_one hb)).1
  | a :: l, i + 1, hi, hb =>
   have ht := behind_top hb
   rw [List.take_succ_cons, topL_cons] at ht
   exact Or.inr ht
theorem check_full {l : List Fl} (h : 21 < l.length) : checkL l = (7, -1) := by unfold checkL; rw [if_pos h]
theorem check_bad {l : List Fl} {k : Nat} (hl : ¬ 21 < l.length) (hk : k < l.length) (h1 : ∀ j, j < k → badAt l j = 0) (h2 : badAt l k ≠ 0) : checkL l = (badAt l k, (k : Int)) := by
 unfold checkL
 rw [if_neg hl]
 have : (List.range l.length).find? (fun i => badAt l i != 0) = some k := by
  rw [List.find?_range_eq_some]
  exact ⟨by simpa using h2, by simpa using hk, fun j hj => by simp [h1 j hj]⟩
 rw [this]
theorem check_good {l : List Fl} (hl : ¬ 21 < l.length) (h : ∀ j, j < l.length → badAt l j = 0) : checkL l = (0, -1) := by
 unfold checkL
 rw [if_neg hl]
 have : (List.range l.length).find? (fun i => badAt l i != 0) = none := by
  rw [List.find?_eq_none]
  intro j hj
  simp [h j (by simpa using hj)]
 rw [this]
theorem check_right {l : List Fl} (h : RightF l) : checkL l = if 21 < l.length then (7, -1) else (0, -1) := by
 split
 ·
  exact check_full (by assumption)
 ·
  exact check_good (by assumption) (fun j _ => bad_right h j)
theorem right_of_check {l : List Fl} (h : (checkL l).1 = 0) : RightF l ∧ l.length ≤ 21 := by
 by_cases hl : 21 < l.length
 ·
  rw [check_full hl] at h; cases h
 ·
  refine ⟨right_of_bad (fun i hi => ?_), by omega⟩
  induction i using Nat.strongRecOn with
  | _ i ih =>
   refine Decidable.byContradiction fun hb => ?_
   rw [check_bad hl hi (fun j hj => ih j hj (by omega)) hb] at h
   exact hb h
def cellsF (l : List Fl) : List Value := l.flatMap Fl.cells
theorem cellsF_cons (f : Fl) (l : List Fl) : cellsF (f :: l) = .string f.who :: .int .i64 f.ep :: cellsF l := rfl
theorem cellsF_append (l m : List Fl) : cellsF (l ++ m) = cellsF l ++ cellsF m := by simp [cellsF]
theorem cellsF_len : ∀ l : List Fl, (cellsF l).length = l.length * 2
 | [] => rfl
 | f :: l => by rw [cellsF_cons, List.length_cons, List.length_cons, cellsF_len l, List.length_cons]; omega
theorem cellsF_who : ∀ (l : List Fl) (i : Nat) (hi : i < l.length), (cellsF l)[i * 2]? = some (.string l[i].who)
 | f :: l, 0, _ => rfl
 | f :: l, i + 1, hi => by
  rw [cellsF_cons, show (i + 1) * 2 = i * 2 + 1 + 1 by omega, List.getElem?_cons_succ, List.getElem?_cons_succ]
  exact cellsF_who l i (by simpa using hi)
theorem cellsF_ep : ∀ (l : List Fl) (i : Nat) (hi : i < l.length), (cellsF l)[i * 2 + 1]? = some (.int .i64 l[i].ep)
 | f :: l, 0, _ => rfl
 | f :: l, i + 1, hi => by
  rw [cellsF_cons, show (i + 1) * 2 + 1 = i * 2 + 1 + 1 + 1 by omega, List.getElem?_cons_succ, List.getElem?_cons_succ]
  exact cellsF_ep l i (by simpa using hi)
theorem cellsF_one (l : List Fl) : ∀ u ∈ cellsF l, u.oneCell' = true := by
 intro u hu
 unfold cellsF at hu
 obtain ⟨f, _, hf⟩ := List.mem_flatMap.1 hu
 simp only [Fl.cells, List.mem_cons, List.not_mem_nil, or_false] at hf
 rcases hf with rfl | rfl <;> rfl
theorem cellsF_take (l : List Fl) (k : Nat) : cellsF (l.take k) = (cellsF l).take (k * 2) := by
 by_cases hk : k ≤ l.length
 ·
  have e := congrArg cellsF (List.take_append_drop k l)
  rw [cellsF_append] at e
  have h2 : (cellsF (l.take k)).length = k * 2 := by rw [cellsF_len, List.length_take]; omega
  rw [← e, ← h2, List.take_left]
 ·
  rw [List.take_of_length_le (by omega), List.take_of_length_le (by rw [cellsF_len]; omega)]
theorem cellsF_drop (l : List Fl) (k : Nat) : cellsF (l.drop k) = (cellsF l).drop (k * 2) := by
 by_cases hk : k ≤ l.length
 ·
  have e := congrArg cellsF (List.take_append_drop k l)
  rw [cellsF_append] at e
  have h2 : (cellsF (l.take k)).length = k * 2 := by rw [cellsF_len, List.length_take]; omega
  rw [← e, ← h2, List.drop_left]
 ·
  rw [List.drop_of_length_le (by omega), List.drop_of_length_le (by rw [cellsF_len]; omega)]; rfl
theorem run_copy_rowK {P : Program} (w : World) (dT sT ty elem : TypeId) (k g o dLen dCap : Nat) (a : Addr) (sLen sCap : Nat) (cur : Array Value) (t : TypeId) (cs : List Value)
  (hu : P.underlying dT = some (.slice elem)) (hs : (P.info? elem).map (·.size) = some k) (hg : w.heap[g]? = some (.cells cur t (0, 0))) (hn : cs.length = Nat.min sLen dLen * k)
  (hsrc : ∀ j v, cs[j]? = some v → w.cell? (a.add j) = some v) (hfit : o + cs.length ≤ cur.size) (h1 : ∀ v ∈ cs, v.oneCell' = true) :
  (Builtin.copy_ #[dT, sT] ty #[.slice (some ⟨g, o, none⟩) dLen dCap, .slice (some a) sLen sCap]).run P w =
   .ok (goInt (Nat.min sLen dLen)) (w.setRow g (cur.toList.take o ++ cs ++ cur.toList.drop (o + cs.length)).toArray) := by
 have hl := run_loadCells_list (P := P) w a cs hsrc
 have hst := run_storeCells_at P g o t cs 0 cur w hg (by simpa using hfit) h1
 cases hq : P.info? elem with
 | none => simp [hq] at hs
 | some i =>
  have hi : i.size = k := by simpa [hq] using hs
  simp [Builtin.copy_, run_underlying hu, Builtin.lenOf, Builtin.firstCells, sizeOf, typeInfo, hq, hi, ← hn, hl, hst]
theorem run_clear_rowK {P : Program} (w : World) (t e ty : TypeId) (z : Value) (ht : P.underlying t = some (.slice e)) (hv : ∀ w, (zeroValue e).run P w = .ok z w) (g o n c : Nat) (hn : 0 < n) (cur : Array Value) (tt : TypeId) (cs : List Value) (hcs : (Builtin.zeroCells z.cells n).toList = cs)
  (hg : w.heap[g]? = some (.cells cur tt (0, 0))) (hfit : o + cs.length ≤ cur.size) (h1 : ∀ v ∈ cs, v.oneCell' = true) :
  (Builtin.clear_ #[t] ty #[.slice (some ⟨g, o, none⟩) n c]).run P w = .ok (.tuple #[]) (w.setRow g (cur.toList.take o ++ cs ++ cur.toList.drop (o + cs.length)).toArray) := by
 have hst := run_storeCells_at P g o tt cs 0 cur w hg (by simpa using hfit) h1
 obtain ⟨m, rfl⟩ : ∃ m, n = m + 1 := ⟨n - 1, by omega⟩
 simp only [Nat.add_zero] at hst
 simp [Builtin.clear_, run_underlying ht, hv, hcs, hst]
end Go.Proofs.YtabpnjchocgakaaGreatDoor

namespace Go.Proofs.YtabpnjchocgakaaGreatDoor
open Go Go.RowKit
structure BelowAt (w : World) where
 to : World
 below : Below w.heap.size w to
theorem BelowAt.any (w : World) : Nonempty (BelowAt w) := ⟨⟨w, Below.refl _ _⟩⟩
theorem wp_region_below {P : Program} {id : Nat} {Q : Exit → Act → World → Prop} {a : Act} {w : World} {l : List Oper} (hm : P.follows .mixedOrders = true) (hB : Region.lexB .any l.toArray = true)
  (h : wpQuiet P l.toArray (fun w' => ∃ p : BelowAt w, w' = p.to) (fun a' => ∀ w', (∃ p : BelowAt w, w' = p.to) → Q .normal a' w') l a) : (Code.region id l.toArray true).wp P Q a w :=
 wp_region_quiet (C := fun w' => ∃ p : BelowAt w, w' = p.to) hm hB ⟨⟨w.drew, (Below.refl _ _).drew⟩, rfl⟩ (by simpa using h)
theorem BelowAt.cell {w : World} {a : Addr} {v : Value} (h : w.cell? a = some v) (hb : a.block < w.heap.size) (p : BelowAt w) : p.to.cell? a = some v := by
 rw [p.below.cell hb]; exact h
theorem BelowAt.calls {P : Program} {f : FuncId} {args : Array Value} {w : World} {p : BelowAt w} {v : Value} (h : Calls P f args p.to fun e w' => e = .returned v ∧ Below p.to.heap.size p.to w') :
  Calls P f args p.to fun e w'' => e = .returned v ∧ ∃ q : BelowAt w, w'' = q.to :=
 h.mono fun _ w'' ⟨he, hb⟩ => ⟨he, ⟨w'', p.below.trans (hb.mono p.below.size)⟩, rfl⟩
end Go.Proofs.YtabpnjchocgakaaGreatDoor

namespace Go.Proofs
open Go.Shelf
def Tryz.cloneF_ren : Go.Shelf.Ren := ⟨fun | 41 => 111 | n => n, fun | 22 => 54 | 23 => 112 | 4 => 4 | n => n, fun | n => n⟩
theorem Tryz.cloneF : Go.Proofs.SlLaysE0.n41 Tryz.prog Tryz.cloneF_ren := {
 mixed := by kernel_rfl
 f41 := ⟨Tryz.f111.name, by decide, Tryz.func111.trans (congrArg some (by kernel_rfl))⟩
 t4 := Tryz.underlying4
 a4 := Tryz.isAgg4
 z4 := Tryz.sizeOf4
 v4 := Tryz.zeroValue4
 t22 := Tryz.underlying54
 a22 := Tryz.isAgg54
 z22 := Tryz.sizeOf54
 v22 := Tryz.zeroValue54 }
def Tryz.cmpS_ren : Go.Shelf.Ren := ⟨fun | 106 => 116 | 213 => 162 | 265 => 204 | n => n, fun | 9 => 9 | 3 => 3 | n => n, fun | n => n⟩
theorem Tryz.cmpS : Go.Proofs.Lays.n106 Tryz.prog Tryz.cmpS_ren := {
 mixed := by kernel_rfl
 f106 := Tryz.func116.trans (congrArg some (by kernel_rfl))
 f213 := Tryz.func162.trans (congrArg some (by kernel_rfl))
 f265 := Tryz.func204.trans (congrArg some (by kernel_rfl))
 t3 := Tryz.underlying3
 a3 := Tryz.isAgg3
 z3 := Tryz.sizeOf3
 v3 := Tryz.zeroValue3
 t9 := Tryz.underlying9
 a9 := Tryz.isAgg9
 z9 := Tryz.sizeOf9
 v9 := Tryz.zeroValue9 }
end Go.Proofs

namespace Go.Proofs.YtabpnjchocgakaaGreatDoor
open Go
theorem at_person {L : List Per} {x : List UInt8} {yd : DataW Unit} (hat : ∀ zd, (dOf L).atKey (.string x) zd = yd) : ∃ p ∈ L, p.nm = x ∧ yd = perD p := by
 have hx : (⟨x.toArray⟩ : ByteArray).data.toList = x := by simp
 cases hg : getP L ⟨x.toArray⟩ with
 | none =>
  have h1 := hat (.lit (.bool true))
  have h2 := hat (.lit (.bool false))
  rw [← hx, dOf_at, hg] at h1 h2
  simp only [] at h1 h2
  rw [← h2] at h1
  cases h1
 | some p =>
  obtain ⟨h1, h2⟩ := getP_some hg
  have h3 := hat (.lit (.bool true))
  rw [← hx, dOf_at, hg] at h3
  exact ⟨p, h2, by unfold Per.nm; rw [h1], h3.symm⟩
theorem keys_dOf (L : List Per) : strKeys (dOf L) = L.map Per.nm := by
 show (L.map entP).map (fun p => strOf p.1) = _
 rw [List.map_map]
 rfl
theorem Rising.nodup {L : List Per} (h : Rising L) : L.Nodup := h.imp (fun g e => by subst e; exact List.lt_irrefl _ g)
theorem coll_perm {L ss : List Per} (hr : Rising L) (hn : (ss.map Per.nm).Perm (strKeys (dOf L))) (hm : ∀ p ∈ ss, p ∈ L) : ss.Perm L := by
 rw [keys_dOf] at hn
 have hnd : (L.map Per.nm).Nodup := by
  refine List.pairwise_map.2 (hr.imp (fun g e => ?_))
  rw [e] at g
  exact List.lt_irrefl _ g
 have hsd : (ss.map Per.nm).Nodup := hn.nodup_iff.2 hnd
 have hs2 : ss.Nodup := (List.pairwise_map.1 hsd).imp (fun g e => g (by rw [e]))
 refine (List.perm_ext_iff_of_nodup hs2 hr.nodup).2 fun p => ⟨hm p, fun hp => ?_⟩
 obtain ⟨q, hq, e⟩ := List.mem_map.1 (hn.mem_iff.2 (List.mem_map.2 ⟨p, hp, rfl⟩))
 have h1 := getP_of_mem hr (hm q hq)
 have h2 := getP_of_mem hr hp
 rw [name_eq e, h2] at h1
 rw [Option.some.inj h1]
 exact hq
end Go.Proofs.YtabpnjchocgakaaGreatDoor

namespace Go.Proofs.YtabpnjchocgakaaGreatDoor
open Go Go.RowKit Go.Maps Go.Sort Go.Proofs
set_option maxRecDepth 100000 in
set_option maxHeartbeats 1000000 in
theorem values_in (F : Fence) (n : Nat) (hF : F.fn 174) (hro : F.round = none) (hn : 1 ≤ n) (l Bm b nn : Nat) (L : List Per) (hL : Rising L) (J : List Per → World → Prop)
  (hY : ∀ pre x W, J pre W → pre.length < L.length → YieldAt F (n - 1) Tryz.prog l #[x.val] W fun e W' => e = .returned (.bool true) ∧ J (pre ++ [x]) W' ∧ KeepsWalks W W')
  (W : World) (hJ : AbidesFrom W.heap.size J) (hm : W.cell? ⟨Bm, 0, none⟩ = some (.map (some b))) (hown : W.ownsMap Tryz.prog 9 perR b nn (dOf L)) (h0 : J [] W) :
  CallsIn F n Tryz.prog 174 #[.func (.yield l) #[] #[], .pointer (some ⟨Bm, 0, none⟩)] W fun e W' => (∃ v, e = .returned v) ∧ ∃ ss : List Per, ss.Perm L ∧ J ss W' := by
 refine callsIn_of_wp Tryz.func174 rfl hF ?_ hro
 simp only [Tryz.ntmps174, List.size_toArray, List.length_cons, List.length_nil, Nat.reduceAdd, Nat.reduceSub, Array.replicate_succ, Array.replicate_zero, List.push_toArray, List.append_toArray, List.nil_append, List.cons_append]
 gi_wp2_with (first
  | (gi_at_range; refine wpListIn_range_own _ rfl _ 132 rfl 9 46 (string_keyed Tryz.underlying9) Tryz.underlying132 _ b nn _ rfl hown ?_; intro w0 hrg0 hg0 hs0)
  | gi_in)
 go_frame
 gi_loopw [4] (fun _ wr => ∃ (left : Lit → Bool) (cnt : Nat) (ss : List Per), wr.ranges Tryz.prog 9 perR b W.heap.size nn (dOf L) left cnt ∧ ss.length + cnt ≤ L.length ∧ Collected (dOf L) left (ss.map Per.nm) ∧ (∀ p ∈ ss, p ∈ L) ∧ J ss wr)
  (fun _ wr => wr.rangeLeft b W.heap.size)
 case atStart =>
  exact ⟨_, _, [], hrg0, by simp [dOf_size], Collected.start _, (fun _ h => by cases h), hJ [] W w0 none h0 hg0 (fun r e => by cases e)⟩
 case round =>
  obtain ⟨left, cnt, ss, hrg, hcs, hC, hmem, hJs⟩ := hrel
  gi_wp2_with (first
   | (gi_at_next; refine wpListIn_next_ranges _ rfl _ rfl 9 (string_keyed Tryz.underlying9) perR encStr (fun p : Per => .agg #[.string p.name, .int .i64 p.key, .int .i64 p.epoch, .bool p.off]) (fun key kl hk => by obtain ⟨x, hx, _⟩ := Maps.keyOf_str Tryz.underlying9 hk; exact ⟨x, hx⟩) (fun v _ h => by obtain ⟨p, hp, _⟩ := perR_inv h; exact ⟨p, hp⟩) b W.heap.size nn _ _ _ rfl hrg ?_ ?_)
   | gi_in)
  ·
   intro hc0 hl0
   gi_wp2
   go_end0
   exact ⟨⟨_, rfl⟩, ss, coll_perm hL (hC.perm hown (string_keyed Tryz.underlying9) Tryz.underlying9 hl0) hmem, hJs⟩
  ·
   intro x p kl yd yp w2 cnt2 hkey hlk hv hat hrg2 hlt hg2 hs2 hen
   obtain ⟨x', ex, rfl, _⟩ := Maps.keyOf_str Tryz.underlying9 hkey
   obtain rfl : x = x' := encStr_inj ex
   obtain ⟨q, hq, rfl, hyd⟩ := at_person hat
   obtain rfl : p = q := by
    have hv' : perR p.val = some (yd, yp) := hv
    rw [perR_val, hyd] at hv'
    simp only [Option.some.injEq, Prod.mk.injEq] at hv'
    exact perD_inj hv'.1
   have hJ2 : J ss w2 := hJ ss wr w2 (some W.heap.size) hJs hg2 (fun r e => by cases e; exact ⟨Nat.le_refl _, hrg.iter_walk⟩)
   have hJ3 : J ss (w2.alloc (.cells #[.string p.name, .int .i64 p.key, .int .i64 p.epoch, .bool p.off] 46)) := hJ ss w2 _ none hJ2 (World.grownBy_alloc _ _ _) (fun r e => by cases e)
   obtain ⟨fn, tmps, assign, body, hy, hR⟩ := hY ss p _ hJ3 (by omega)
   have hy' : (Instr.yield l #[.agg #[.string p.name, .int .i64 p.key, .int .i64 p.epoch, .bool p.off]]).run Tryz.prog (w2.alloc (.cells #[.string p.name, .int .i64 p.key, .int .i64 p.epoch, .bool p.off] 46)) = _ := hy
   have HC := hide (hC.step hlk hat)
   have HM : Hid (∀ r ∈ ss ++ [p], r ∈ L) := fun r hr => by
    rcases List.mem_append.1 hr with g | g
    ·
     exact hmem r g
    ·
     rw [List.mem_singleton.1 g]; exact hq
   have HW := hide (hrg2.of_walks (KeepsWalks.alloc w2 (.cells #[.string p.name, .int .i64 p.key, .int .i64 p.epoch, .bool p.off] 46)))
   have HL := hide hrg.left_eq
   clear hs2 hy hJ2 hmem hC hq hat hv hyd hlk hkey ex
   gi_wp2
   refine hR.mono ?_
   rintro e W3 ⟨rfl, hJ4, hk3⟩
   gi_wp2
   have hrg3 := HW.out.of_walks hk3
   go_roundw
   case rel => exact ⟨_, cnt2, ss ++ [p], hrg3, by simp; omega, by rw [List.map_append]; exact HC.out, HM.out, hJ4⟩
   case measure => rw [hrg3.left_eq, HL.out]; exact hlt
theorem Tryz.infoPerson : (Tryz.prog.info? 46).map (fun i => (i.zero, i.size, i.bytes)) = some (some (.agg #[.string ByteArray.empty, .int .i64 0, .int .i64 0, .bool false]), 4, 40) := by kernel_rfl
theorem values_gives (F : Fence) (n : Nat) (hF : F.fn 174) (hro : F.round = none) (hn : 1 ≤ n) (Bm b nn : Nat) (L : List Per) (hL : Rising L) (w : World) (hBm : Bm < w.heap.size)
  (hm : w.cell? ⟨Bm, 0, none⟩ = some (.map (some b))) (hown : w.ownsMap Tryz.prog 9 perR b nn (dOf L)) :
  SeqGives F n Tryz.prog 174 #[.pointer (some ⟨Bm, 0, none⟩)] Per.val (fun ss => ss.Perm L) L.length w := fun l J W hW hJ hY h0 => by
 have hown' : W.ownsMap Tryz.prog 9 perR b nn (dOf L) := by
  have hbl := hown.lt
  obtain ⟨es, clock, hb, Ft, hs, hD⟩ := hown
  exact ⟨es, clock, (hW.block b hbl).trans hb, Ft, hs, hD⟩
 exact values_in F n hF hro hn l Bm b nn L hL J hY W hJ ((hW.cell (p := ⟨Bm, 0, none⟩) hBm).trans hm) hown' h0
def IsAp (cd : Code × Code) : Prop := cd = match Tryz.f207.body with
 | some (.seq _ (.seq (.seq _ (.block _ (.rangeFunc _ _ a b))) _)) => (a, b)
 | _ => (.skip, .skip)
def apRec (cd : Code × Code) (fn : FuncId) (sv : Value) (Bs D : Nat) (st : LoopState) (pend : Option Code) : Loop :=
 { state := st, pending := pend, fn, tmps := #[.slice none 0 0, sv, .pointer (some ⟨Bs, 0, none⟩), undef, .slice none 0 0, undef, sv, undef, undef, undef, undef, undef, undef], params := #[7], assign := cd.1, body := cd.2, defers := D }
structure ApAt (cd : Code × Code) (w0 : World) (fn : FuncId) (sv : Value) (Bs l D : Nat) (ss : List Per) (W : World) : Prop where
 box : ∃ v, W.heap[Bs]? = some (.cells #[v] 47 (0, 0)) ∧ W.ownsRow w0.heap.size 46 4 v ss.length (cellsP ss) ∧ (v = .slice none 0 0 ↔ ss = [])
 L : W.heap[l]? = some (.loop (apRec cd fn sv Bs D .ready none))
 K : W.heap[D]? = some (.deferred (some []))
 below : Below w0.heap.size w0 W
theorem ap_abides (cd : Code × Code) (w0 : World) (fn : FuncId) (sv : Value) (Bs l D B : Nat) (hB : w0.heap.size ≤ B) : AbidesFrom B (ApAt cd w0 fn sv Bs l D) := fun s W W' row h hg hrow => by
 have hrow' : ∀ r, row = some r → ∃ o : Obj, W.heap[r]? = some o ∧ o.isWalk = true := fun r e => (hrow r e).2
 obtain ⟨v, hv, hr, hn⟩ := h.box
 exact ⟨⟨v, (grownBy_keeps hg hrow' hv rfl).trans hv, ownsRow_abides_a hr hg hrow', hn⟩, (grownBy_keeps hg hrow' h.L rfl).trans h.L, (grownBy_keeps hg hrow' h.K rfl).trans h.K,
  h.below.grown hg h.below.size (fun k e => Nat.le_trans hB (hrow k e).1)⟩
theorem not_row {c : Array Value} {cur : Array Value} (h : Obj.cells c 47 (0, 0) = .cells cur 46 (0, 0)) : False := absurd (Obj.cells.inj h).2.1 (by decide)
theorem cells_one (p : Per) : ∀ u ∈ p.cells, u.oneCell' = true := fun u hu => by
 simp only [Per.cells, List.mem_cons, List.not_mem_nil, or_false] at hu
 rcases hu with rfl | rfl | rfl | rfl <;> rfl
theorem new_cells (W : World) (p : Per) : ∀ j u, p.cells[j]? = some u → (W.alloc (.cells #[.string p.name, .int .i64 p.key, .int .i64 p.epoch, .bool p.off] 46)).cell? ((⟨W.heap.size, 0, none⟩ : Addr).add j) = some u := fun j u hj => by
 rw [Go.WideShapes.add_plain, World.cell?_alloc_at _ _ _ _ rfl, Nat.zero_add]
 match j, hj with
 | 0, hj => exact hj
 | 1, hj => exact hj
 | 2, hj => exact hj
 | 3, hj => exact hj
 | j + 4, hj => simp [Per.cells] at hj
set_option maxRecDepth 100000 in
set_option maxHeartbeats 2000000 in
theorem apYield (cd : Code × Code) (hcd : IsAp cd) (F : Fence) (m : Nat) (w0 : World) (fn : FuncId) (hfn : F.fn fn) (sv : Value) (Bs l D : Nat) (hBl : Bs ≠ l) (hDl : D ≠ l) (hDB : D ≠ Bs) (h0B : w0.heap.size ≤ Bs) (h0l : w0.heap.size ≤ l)
  (N : Nat) (hN : N ≤ 1000) (ss : List Per) (p : Per) (W : World) (h : ApAt cd w0 fn sv Bs l D ss W) (hlen : ss.length < N) :
  YieldAt F m Tryz.prog l #[p.val] W fun e W' => e = .returned (.bool true) ∧ ApAt cd w0 fn sv Bs l D (ss ++ [p]) W' ∧ KeepsWalks W W' := by
 obtain ⟨i0, hi, hz0, hz1, hz2⟩ := info_parts Tryz.infoPerson
 obtain ⟨v, hv, hrow, _⟩ := h.box
 refine ⟨fn, #[.slice none 0 0, sv, .pointer (some ⟨Bs, 0, none⟩), undef, .slice none 0 0, undef, sv, .agg #[.string p.name, .int .i64 p.key, .int .i64 p.epoch, .bool p.off], undef, undef, undef, undef, undef], cd.1, cd.2, by simpa [apRec, Per.val] using run_yield (P := Tryz.prog) (args := #[p.val]) h.L rfl, roundIn_of_wpIn hfn ?_⟩
 have hl0 : l < W.heap.size := (Array.getElem?_eq_some_iff.1 h.L).1
 obtain ⟨Wa, hWa⟩ : ∃ Wa, W.alloc (.cells #[.string p.name, .int .i64 p.key, .int .i64 p.epoch, .bool p.off] 46) = Wa := ⟨_, rfl⟩
 have hBs0 : Bs < W.heap.size := (Array.getElem?_eq_some_iff.1 hv).1
 have hD0 : D < W.heap.size := (Array.getElem?_eq_some_iff.1 h.K).1
 have hLa : Wa.heap[l]? = some (.loop (apRec cd fn sv Bs D .ready none)) := by rw [← hWa]; exact (Below.heap_alloc _ _ l hl0).trans h.L
 have hva : Wa.heap[Bs]? = some (.cells #[v] 47 (0, 0)) := by rw [← hWa]; exact (Below.heap_alloc _ _ Bs hBs0).trans hv
 have hKa : Wa.heap[D]? = some (.deferred (some [])) := by rw [← hWa]; exact (Below.heap_alloc _ _ D hD0).trans h.K
 have hrowa : Wa.ownsRow w0.heap.size 46 4 v ss.length (cellsP ss) := by rw [← hWa]; exact hrow.alloc _
 have hba : Below w0.heap.size w0 Wa := by rw [← hWa]; exact h.below.alloc h.below.size _
 have hka : KeepsWalks W Wa := by rw [← hWa]; exact KeepsWalks.alloc _ _
 have hca : Wa.heap[W.heap.size]? = some (.cells #[.string p.name, .int .i64 p.key, .int .i64 p.epoch, .bool p.off] 46 (0, 0)) := by rw [← hWa]; exact World.alloc_heap_new W _
 have hl : l < Wa.heap.size := (Array.getElem?_eq_some_iff.1 hLa).1
 have hbr := run_beginRound (P := Tryz.prog) hLa rfl
 obtain ⟨W2, hW2⟩ : ∃ W2, Wa.putObj l (.loop { apRec cd fn sv Bs D .ready none with state := .busy }) = W2 := ⟨_, rfl⟩
 rw [hW2] at hbr
 have hg2 : Wa.grownBy W2 (some l) := by rw [← hW2]; exact grownBy_putObj_a _ _ _
 have hk2 : KeepsWalks W W2 := hka.trans (by rw [← hW2]; exact KeepsWalks.putObj _ hLa rfl)
 have hv2 : W2.heap[Bs]? = some (.cells #[v] 47 (0, 0)) := by rw [← hW2]; exact (World.putObj_heap_other hBl).trans hva
 have hK2 : W2.heap[D]? = some (.deferred (some [])) := by rw [← hW2]; exact (World.putObj_heap_other hDl).trans hKa
 have hL2 : W2.heap[l]? = some (.loop { apRec cd fn sv Bs D .ready none with state := .busy }) := by rw [← hW2]; exact World.putObj_heap_same hl
 have hc2 : W2.heap[W.heap.size]? = some (.cells #[.string p.name, .int .i64 p.key, .int .i64 p.epoch, .bool p.off] 46 (0, 0)) := by rw [← hW2]; exact (World.putObj_heap_other (by omega)).trans hca
 have hrow2 : W2.ownsRow w0.heap.size 46 4 v ss.length (cellsP ss) := hrowa.kept hg2 (ownsRow_ne_a hrowa hLa (fun cur e => by cases e))
 have hb2 : Below w0.heap.size w0 W2 := hba.grown hg2 hba.size (fun k e => by cases e; exact h0l)
 have hBlt : Bs < W2.heap.size := (Array.getElem?_eq_some_iff.1 hv2).1
 have hl2 : l < W2.heap.size := (Array.getElem?_eq_some_iff.1 hL2).1
 have hDlt : D < W2.heap.size := (Array.getElem?_eq_some_iff.1 hK2).1
 have ne_of : ∀ {j : Nat} {o : Obj}, W2.heap[j]? = some o → (∀ cur, o ≠ .cells cur 46 (0, 0)) → some j ≠ v.ownBlock := fun hj hno => by
  rcases ownsRow_ne_a hrow2 hj hno with e | e
  ·
   rw [e]; simp
  ·
   exact fun e' => e e'.symm
 have hc20 : W2.cell? ⟨W.heap.size, 0, none⟩ = some (.string p.name) := by simp [World.cell?, hc2]
 have hc21 : W2.cell? ⟨W.heap.size, 1, none⟩ = some (.int .i64 p.key) := by simp [World.cell?, hc2]
 have hc22 : W2.cell? ⟨W.heap.size, 2, none⟩ = some (.int .i64 p.epoch) := by simp [World.cell?, hc2]
 have hc23 : W2.cell? ⟨W.heap.size, 3, none⟩ = some (.bool p.off) := by simp [World.cell?, hc2]
 obtain ⟨hcb2, hf2⟩ := cell_of_box_a hv2
 clear hW2
 rw [show cd.1 = _ from congrArg Prod.fst hcd, show cd.2 = _ from congrArg Prod.snd hcd]
 dsimp only [Tryz.f207]
 gi_wp2_with (first
  | (gi_at_builtin; refine wpListIn_append_own _ rfl _ _ 47 rfl w0.heap.size 46 i0 _ 4 40 Tryz.underlying47 hi hz0 hz1 hz2 rfl (by decide) _ _ _ rfl (hrow2.alloc _) ⟨W2.heap.size, 0, none⟩ 1 1 p.cells rfl rfl (new_cells W2 p) (cells_one p) (by unfold maxLen; omega) (by omega) (by have := hb2.size; simp; omega) ?_; intro v' w3 hown' hg3 hnil3
     have hv3 : w3.heap[Bs]? = some (.cells #[v] 47 (0, 0)) := (hg3.block Bs (by simp; omega) (ne_of hv2 (fun cur e => not_row e))).trans ((Below.heap_alloc _ _ Bs hBlt).trans hv2)
     obtain ⟨hc3, hf3⟩ := cell_of_box_a hv3
     obtain ⟨g', cap', cur', rfl, hbase', hgb', hr1, hr2, hr3, hr4⟩ : ∃ g' cap' cur', v' = .slice (some ⟨g', 0, none⟩) (ss.length + 1) cap' ∧ w0.heap.size ≤ g' ∧ w3.heap[g']? = some (.cells cur' 46 (0, 0)) ∧ ss.length + 1 ≤ cap' ∧ cap' ≤ maxLen ∧ cur'.size = cap' * 4 ∧ cur'.toList.take ((ss.length + 1) * 4) = cellsP ss ++ p.cells := by
      rcases hown'.2 with ⟨_, h0⟩ | h'
      ·
       exact absurd h0 (by omega)
      ·
       exact h'
     go_frame)
  | gi_round_op_a)
 have hg3' : (W2.alloc (.cells #[.string p.name, .int .i64 p.key, .int .i64 p.epoch, .bool p.off] 46)).grownBy w3 v.ownBlock := hg3
 have hL3 : w3.heap[l]? = some (.loop { apRec cd fn sv Bs D .ready none with state := .busy }) := (hg3'.block l (by simp; omega) (ne_of hL2 (fun cur e => by cases e))).trans ((Below.heap_alloc _ _ l hl2).trans hL2)
 have hK3 : w3.heap[D]? = some (.deferred (some [])) := (hg3'.block D (by simp; omega) (ne_of hK2 (fun cur e => by cases e))).trans ((Below.heap_alloc _ _ D hDlt).trans hK2)
 obtain ⟨w4, hw4⟩ : ∃ w4, w3.setCell ⟨Bs, 0, none⟩ (.slice (some ⟨g', 0, none⟩) (ss.length + 1) cap') = w4 := ⟨_, rfl⟩
 rw [hw4]
 have hg4 : w3.grownBy w4 (some Bs) := by rw [← hw4]; exact grownBy_setCell0_a _ _ _
 have hv4 : w4.heap[Bs]? = some (.cells #[.slice (some ⟨g', 0, none⟩) (ss.length + 1) cap'] 47 (0, 0)) := by rw [← hw4]; exact heap_setCell_box_a _ hv3
 have hL4 : w4.heap[l]? = some (.loop { apRec cd fn sv Bs D .ready none with state := .busy }) := (hg4.block l (Array.getElem?_eq_some_iff.1 hL3).1 (fun e => hBl (by cases e; rfl))).trans hL3
 have hK4 : w4.heap[D]? = some (.deferred (some [])) := (hg4.block D (Array.getElem?_eq_some_iff.1 hK3).1 (fun e => hDB (by cases e; rfl))).trans hK3
 have hrow4 := hown'.kept hg4 (ownsRow_ne_a hown' hv3 (fun cur e => not_row e))
 have hl4 : l < w4.heap.size := (Array.getElem?_eq_some_iff.1 hL4).1
 have hb3 : Below w0.heap.size w0 w3 := (hb2.alloc hb2.size _).grown hg3' (by have := hb2.size; simp; omega) (fun k e => (hrow2.lt k e).1)
 have hb4 : Below w0.heap.size w0 w4 := hb3.grown hg4 hb3.size (fun k e => by cases e; exact h0B)
 have hk4 : KeepsWalks W w4 := ((hk2.trans (KeepsWalks.alloc _ _)).trans (KeepsWalks.of_grownBy hg3' (ownsRow_not_walk_a (hrow2.alloc _)))).trans (by rw [← hw4]; exact KeepsWalks.setCell _ _ _)
 have hend := run_endRound (P := Tryz.prog) none hL4
 clear hw4
 refine ⟨_, _, hend, rfl, ⟨⟨_, (World.putObj_heap_other hBl).trans hv4, ?_, by simp⟩, World.putObj_heap_same hl4, (World.putObj_heap_other hDl).trans hK4, hb4.grown (grownBy_putObj_a _ _ _) hb4.size (fun k e => by cases e; exact h0l)⟩, hk4.trans (KeepsWalks.putObj _ hL4 rfl)⟩
 have := hrow4.kept (grownBy_putObj_a w4 l (.loop { { apRec cd fn sv Bs D .ready none with state := .busy } with state := if (none : Option Code).isNone then .ready else .done, pending := none })) (ownsRow_ne_a hrow4 hL4 (fun cur e => by cases e))
 rw [cellsP_append, show cellsP [p] = p.cells by simp [cellsP]]
 simpa using this
set_option maxRecDepth 100000 in
set_option maxHeartbeats 2000000 in
theorem appendSeq_in (F : Fence) (n : Nat) (hF : F.fn 207) (hro : F.round = none) (hn : 2 ≤ n) (g : Nat) (lb : Array Value) (hFg : F.fn g) (eg : ∀ args w, (callFunc g args).run Tryz.prog w = .ok (.enter g args) w)
  (S : List Per → Prop) (N : Nat) (hN : N ≤ 1000) (w : World) (hseq : SeqGives F (n - 1) Tryz.prog g lb Per.val S N w) :
  CallsIn F n Tryz.prog 207 #[.slice none 0 0, .func (.func g) #[] lb] w fun e w' => ∃ (v : Value) (ss : List Per), e = .returned v ∧ S ss ∧ w'.ownsRow w.heap.size 46 4 v ss.length (cellsP ss) ∧ (v = .slice none 0 0 ↔ ss = []) ∧ Below w.heap.size w w' := by
 have h1 : 1 ≤ n := by omega
 obtain ⟨cd, hcd⟩ : ∃ cd, IsAp cd := ⟨_, rfl⟩
 refine callsIn_of_wp_marks Tryz.func207 rfl hF ?_ hro
 simp only [Tryz.ntmps207, List.size_toArray, List.length_cons, List.length_nil, Nat.reduceAdd, Nat.reduceSub, Array.replicate_succ, Array.replicate_zero, List.push_toArray, List.append_toArray, List.nil_append, List.cons_append]
 gi_wp2
 refine wpIn_rangeFunc ?_
 intro fn hfn
 rw [hro]
 obtain ⟨W0, hW0⟩ : ∃ W0, w.alloc (.cells #[.slice none 0 0] 47) = W0 := ⟨_, rfl⟩
 have hs0 : W0.heap.size = w.heap.size + 1 := by rw [← hW0]; simp
 have hv0 : W0.heap[w.heap.size]? = some (.cells #[.slice none 0 0] 47 (0, 0)) := by rw [← hW0]; exact World.alloc_heap_new w _
 have hb0 : Below w.heap.size w W0 := by rw [← hW0]; exact (Below.refl _ w).alloc (Nat.le_refl _) _
 rw [hW0]
 obtain ⟨W1, hW1⟩ : ∃ W1, (W0.alloc (.deferred (some []))).alloc (.loop (apRec cd fn (.func (.func g) #[] lb) w.heap.size W0.heap.size .ready none)) = W1 := ⟨_, rfl⟩
 have hold : ∀ k, k < W0.heap.size → W1.heap[k]? = W0.heap[k]? := fun k hk => by
  rw [← hW1]; exact (Below.heap_alloc _ _ k (by simp; omega)).trans (Below.heap_alloc _ _ k hk)
 have hb1 : Below w.heap.size w W1 := by rw [← hW1]; exact (hb0.alloc hb0.size _).alloc (by have := hb0.size; simp; omega) _
 have hs1 : W1.heap.size = W0.heap.size + 2 := by rw [← hW1]; simp
 have hM : ApAt cd w fn (.func (.func g) #[] lb) w.heap.size (W0.heap.size + 1) W0.heap.size [] W1 :=
  ⟨⟨_, (hold w.heap.size (by omega)).trans hv0, ⟨rfl, .inl ⟨rfl, rfl⟩⟩, by simp⟩,
    by rw [← hW1]; have := World.alloc_heap_new (W0.alloc (.deferred (some []))) (.loop (apRec cd fn (.func (.func g) #[] lb) w.heap.size W0.heap.size .ready none)); rwa [World.size_alloc] at this,
    by rw [← hW1]; exact (Below.heap_alloc _ _ _ (by simp)).trans (World.alloc_heap_new W0 _), hb1⟩
 refine ⟨W0.heap.size + 1, [{ target := .collected W0.heap.size, args := #[] }], W1, { target := .fn (.func g) lb, args := #[.func (.yield (W0.heap.size + 1)) #[] #[]] }, W1, g,
  #[.func (.yield (W0.heap.size + 1)) #[] #[]] ++ lb, W1, ?_, ?_, ?_, ?_, fun _ => h1, ?_⟩
 ·
  rw [← hW1, show cd = _ from hcd]; exact run_enterLoop_outer _ _ _ _ _
 ·
  simp [resolve, go_sem]
 ·
  intro f' hf'; simp [Target.leads] at hf'; subst hf'; exact hFg
 ·
  simp [invoke, go_sem, eg]
 ·
  refine (hseq (W0.heap.size + 1) (ApAt cd w fn (.func (.func g) #[] lb) w.heap.size (W0.heap.size + 1) W0.heap.size) W1 hb1 (ap_abides _ _ _ _ _ _ _ _ hb1.size)
   (fun pre x W hJ hl => apYield cd hcd F (n - 1 - 1) w fn hfn _ w.heap.size (W0.heap.size + 1) W0.heap.size (by omega) (by omega) (by omega) (Nat.le_refl _) (by omega) N hN pre x W hJ hl) hM).mono ?_
  rintro e W2 ⟨⟨v0, rfl⟩, ss, hS, h2⟩
  obtain ⟨v, hv, hrow, hnil⟩ := h2.box
  have hend := run_endLoop (P := Tryz.prog) h2.L (by simp [apRec])
  obtain ⟨W3, hW3⟩ : ∃ W3, W2.putObj (W0.heap.size + 1) (.loop { apRec cd fn (.func (.func g) #[] lb) w.heap.size W0.heap.size .ready none with state := .exhausted }) = W3 := ⟨_, rfl⟩
  rw [hW3] at hend
  have hg3 : W2.grownBy W3 (some (W0.heap.size + 1)) := by rw [← hW3]; exact grownBy_putObj_a _ _ _
  have hv3 : W3.heap[w.heap.size]? = some (.cells #[v] 47 (0, 0)) := by rw [← hW3]; exact (World.putObj_heap_other (by omega)).trans hv
  have hK3 : W3.heap[W0.heap.size]? = some (.deferred (some [])) := by rw [← hW3]; exact (World.putObj_heap_other (by omega)).trans h2.K
  have hrow3 := hrow.kept hg3 (ownsRow_ne_a hrow h2.L (fun cur e => by cases e))
  have hb3 : Below w.heap.size w W3 := h2.below.grown hg3 h2.below.size (fun k e => by cases e; omega)
  obtain ⟨hc3, hf3⟩ := cell_of_box_a hv3
  clear hW3
  refine ⟨none, W3, hend, ?_⟩
  gi_wp2
  rw [← hs0]
  refine ⟨by simp, .inl ⟨_, _, rfl, run_takeDeferred hK3, ?_⟩⟩
  exact ⟨_, results_tmp rfl _ _ _, v, ss, rfl, hS, hrow3.kept (grownBy_putObj_a _ _ _) (ownsRow_ne_a hrow3 hK3 (fun cur e => by cases e)), hnil, hb3.grown (grownBy_putObj_a _ _ _) hb3.size (fun k e => by cases e; omega)⟩
set_option maxHeartbeats 1000000 in
theorem collect_in (F : Fence) (n : Nat) (h8 : F.fn 172) (h11 : F.fn 207) (hro : F.round = none) (hn : 3 ≤ n) (g : Nat) (lb : Array Value) (hFg : F.fn g) (eg : ∀ args w, (callFunc g args).run Tryz.prog w = .ok (.enter g args) w)
  (S : List Per → Prop) (N : Nat) (hN : N ≤ 1000) (w : World) (hseq : SeqGives F (n - 1 - 1) Tryz.prog g lb Per.val S N w) :
  CallsIn F n Tryz.prog 172 #[.func (.func g) #[] lb] w fun e w' => ∃ (v : Value) (ss : List Per), e = .returned v ∧ S ss ∧ w'.ownsRow w.heap.size 46 4 v ss.length (cellsP ss) ∧ (v = .slice none 0 0 ↔ ss = []) ∧ Below w.heap.size w w' := by
 have h1 : 1 ≤ n := by omega
 refine callsIn_of_wp Tryz.func172 rfl h8 ?_ hro
 simp only [Tryz.ntmps172, List.size_toArray, List.length_cons, List.length_nil, Nat.reduceAdd, Nat.reduceSub, Array.replicate_succ, Array.replicate_zero, List.push_toArray, List.append_toArray, List.nil_append, List.cons_append]
 gi_wp2_with (gi_at_call 207; refine (appendSeq_in F (n - 1) h11 hro (by omega) g lb hFg eg S N hN _ hseq).mono ?_; rintro e w' ⟨v, ss, rfl, hS, hrow, hnil, hb⟩)
 go_ret
 exact ⟨v, ss, rfl, hS, hrow, hnil, hb⟩
theorem values_any (mb : Option Nat) (w : World) :
  Calls Tryz.prog 125 #[.map mb] w fun e w' => e = .returned (.func (.func 174) #[] #[.pointer (some ⟨w.heap.size, 0, none⟩)]) ∧ w' = w.alloc (.cells #[.map mb] 132) := by
 go_enter Tryz.func125, Tryz.ntmps125
 go_wp2
 go_ret
 exact ⟨rfl, rfl⟩
end Go.Proofs.YtabpnjchocgakaaGreatDoor

namespace Go.Proofs.YtabpnjchocgakaaGreatDoor
open Go
abbrev txt (l : List UInt8) : ByteArray := ⟨l.toArray⟩
theorem txt_list (l : List UInt8) : (txt l).data.toList = l := rfl
theorem txt_back (s : ByteArray) : txt s.data.toList = s := rfl
theorem txt_size (l : List UInt8) : (txt l).size = l.length := by
 show l.toArray.size = _
 simp
theorem join_cons2c (c : UInt8) (x : List UInt8) (r : List (List UInt8)) (hr : r ≠ []) : Lib.join (x :: r) [c] = x ++ c :: Lib.join r [c] := by
 cases r with
 | nil => exact absurd rfl hr
 | cons y r => rw [Lib.join_cons, Lib.join_cons]; simp [Lib.joinTail]
theorem join_snocc (c : UInt8) (w : List UInt8) : ∀ (r : List (List UInt8)), r ≠ [] → Lib.join (r ++ [w]) [c] = Lib.join r [c] ++ c :: w
 | [], h => absurd rfl h
 | x :: r, _ => by
  rw [List.cons_append]
  by_cases hr : r = []
  ·
   subst hr; rw [List.nil_append, join_cons2c c _ _ (by simp), Lib.join_one, Lib.join_one]
  ·
   rw [join_cons2c c _ _ (by simp), join_snocc c w r hr, join_cons2c c _ _ hr]; simp
theorem join_len (c : UInt8) (M : Nat) : ∀ (ws : List (List UInt8)), (∀ w ∈ ws, w.length ≤ M) → (Lib.join ws [c]).length ≤ ws.length * (M + 1)
 | [], _ => by rw [Lib.join_nil]; simp
 | [x], h => by rw [Lib.join_one]; have := h x (by simp); simp; omega
 | x :: y :: r, h => by
  have ih := join_len c M (y :: r) (fun w hw => h w (by simp [hw]))
  have hx := h x (by simp)
  rw [join_cons2c c _ _ (by simp), List.length_append, List.length_cons, List.length_cons, Nat.add_mul]
  omega
/-! ### One floor's text -/
def oneT (f : Fl) : List UInt8 := f.nm ++ 58 :: Lib.decDigits f.ep.toNat
def textL (l : List Fl) : List UInt8 := if l = [] then [45] else Lib.join (l.map oneT) [44]
theorem nm_len {f : Fl} (h : oneE f = 0) : f.nm.length ≤ 8 := by
 rcases one_name h with e | e
 ·
  rw [e]; decide
 ·
  unfold Sl.nameL Sl.madeL at e
  simp only [Bool.and_eq_true, decide_eq_true_eq] at e
  exact e.1.2
theorem one_len {f : Fl} (h : oneE f = 0) : (oneT f).length ≤ 30 := by
 have h1 := nm_len h
 have h2 := one_pos h
 have h3 : (Lib.decDigits f.ep.toNat).length ≤ 10 := by
  have := (Sl.numOk_iff _).1 (Sl.dec_ok f.ep.toNat (by omega))
  exact this.1.2
 unfold oneT
 rw [List.length_append, List.length_cons]
 omega
end Go.Proofs.YtabpnjchocgakaaGreatDoor

namespace Go.Proofs
open Go.Shelf
def Tryz.cloneE_ren : Go.Shelf.Ren := ⟨fun | 41 => 59 | n => n, fun | 22 => 38 | 23 => 114 | 4 => 4 | n => n, fun | n => n⟩
theorem Tryz.cloneE : Go.Proofs.SlLaysE0.n41 Tryz.prog Tryz.cloneE_ren := {
 mixed := by kernel_rfl
 f41 := ⟨Tryz.f59.name, by decide, Tryz.func59.trans (congrArg some (by kernel_rfl))⟩
 t4 := Tryz.underlying4
 a4 := Tryz.isAgg4
 z4 := Tryz.sizeOf4
 v4 := Tryz.zeroValue4
 t22 := Tryz.underlying38
 a22 := Tryz.isAgg38
 z22 := Tryz.sizeOf38
 v22 := Tryz.zeroValue38 }
end Go.Proofs

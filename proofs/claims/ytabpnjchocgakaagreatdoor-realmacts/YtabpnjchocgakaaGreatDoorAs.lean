/-
  What errors.As(err, &f) answers, f an *api.Fault: false for an error of errors.New's make, true for an *api.Fault, which f then points to; the condition is that the library's variable errors.errorType holds the handle of 'error'.
  (Walked out of the Go library's own text.)
-/
import Derived.Test.YtabpnjchocgakaaGreatDoorProg
import Derived.WalkKit
import Derived.LaidEql
import Derived.Stop.Asserts
import Derived.RowKitTokens
import Derived.Lib.ReflectliteSlice
namespace Go.Proofs.YtabpnjchocgakaaGreatDoor
open Go.RowKit Go.Extern.Stop Go.Stop Go.Extern
theorem Tryz.noAsE (v : Value) (xT : TypeId) (w : World) : (Instr.typeAssert (.iface 328 v) xT 267 true).run Tryz.prog w = .ok (.tuple #[.nilIface, .bool false]) w := run_typeAssert_lacksB Tryz.underlying267 (by kernel_rfl) (by kernel_rfl) v xT w
theorem Tryz.noUnwrapE2 (v : Value) (xT : TypeId) (w : World) : (Instr.typeAssert (.iface 328 v) xT 270 true).run Tryz.prog w = .ok (.tuple #[.nilIface, .bool false]) w := run_typeAssert_lacksB Tryz.underlying270 (by kernel_rfl) (by kernel_rfl) v xT w
theorem Tryz.noUnwrapsE2 (v : Value) (xT : TypeId) (w : World) : (Instr.typeAssert (.iface 328 v) xT 272 true).run Tryz.prog w = .ok (.tuple #[.nilIface, .bool false]) w := run_typeAssert_lacksB Tryz.underlying272 (by kernel_rfl) (by kernel_rfl) v xT w
theorem Tryz.asValueOfFF (t : Addr) (w : World) : (callFunc 164 #[.iface 174 (.pointer (some t))]).run Tryz.prog w
  = .ok (.value (.agg #[.pointer (some ⟨25, 174, none⟩), .pointer (some ⟨w.heap.size, 0, none⟩), .int .u64 150])) (w.alloc (.cells #[.pointer (some t)] 174)) := by kernel_rfl
theorem Tryz.asTypeFF (a : Addr) (w : World) : (callFunc 165 #[.agg #[.pointer (some ⟨25, 174, none⟩), .pointer (some a), .int .u64 150]]).run Tryz.prog w
  = .ok (.value (.iface 263 (.agg #[.pointer (some ⟨25, 174, none⟩)]))) w := by kernel_rfl
theorem Tryz.asMethodKind (h : Value) (w : World) : (Go.method 463 263 (.agg #[h]) "Kind").run Tryz.prog w = .ok (282, h) w := by kernel_rfl
theorem Tryz.asKindFF (w : World) : (callFunc 282 #[.pointer (some ⟨25, 174, none⟩)]).run Tryz.prog w = .ok (.value (.int .u8 22)) w := by kernel_rfl
theorem Tryz.asKindF (w : World) : (callFunc 282 #[.pointer (some ⟨25, 157, none⟩)]).run Tryz.prog w = .ok (.value (.int .u8 22)) w := by kernel_rfl
theorem Tryz.asMethodElem (h : Value) (w : World) : (Go.method 463 263 (.agg #[h]) "Elem").run Tryz.prog w = .ok (293, .agg #[h]) w := by kernel_rfl
theorem Tryz.asMethodImplements (h : Value) (w : World) : (Go.method 463 263 (.agg #[h]) "Implements").run Tryz.prog w = .ok (294, .agg #[h]) w := by kernel_rfl
theorem Tryz.asMethodAssignableTo (h : Value) (w : World) : (Go.method 463 263 (.agg #[h]) "AssignableTo").run Tryz.prog w = .ok (291, .agg #[h]) w := by kernel_rfl
theorem Tryz.asElemFF (w : World) : (callFunc 293 #[.agg #[.pointer (some ⟨25, 174, none⟩)]]).run Tryz.prog w = .ok (.value (.iface 263 (.agg #[.pointer (some ⟨25, 157, none⟩)]))) w := by kernel_rfl
theorem Tryz.asImplementsF (w : World) : (callFunc 294 #[.agg #[.pointer (some ⟨25, 157, none⟩)], .iface 263 (.agg #[.pointer (some ⟨25, 27, none⟩)])]).run Tryz.prog w = .ok (.value (.bool true)) w := by kernel_rfl
theorem Tryz.asTypeOfF (v : Value) (w : World) : (callFunc 168 #[.iface 157 v]).run Tryz.prog w = .ok (.value (.iface 263 (.agg #[.pointer (some ⟨25, 157, none⟩)]))) w := by kernel_rfl
theorem Tryz.asTypeOfE (v : Value) (w : World) : (callFunc 168 #[.iface 328 v]).run Tryz.prog w = .ok (.value (.iface 263 (.agg #[.pointer (some ⟨25, 328, none⟩)]))) w := by kernel_rfl
theorem Tryz.asAssignableF (w : World) : (callFunc 291 #[.agg #[.pointer (some ⟨25, 157, none⟩)], .iface 263 (.agg #[.pointer (some ⟨25, 157, none⟩)])]).run Tryz.prog w = .ok (.value (.bool true)) w := by kernel_rfl
theorem Tryz.asAssignableE (w : World) : (callFunc 291 #[.agg #[.pointer (some ⟨25, 328, none⟩)], .iface 263 (.agg #[.pointer (some ⟨25, 157, none⟩)])]).run Tryz.prog w = .ok (.value (.bool false)) w := by kernel_rfl
theorem Tryz.asValueOfF (e : Addr) (w : World) : (callFunc 164 #[.iface 157 (.pointer (some e))]).run Tryz.prog w
  = .ok (.value (.agg #[.pointer (some ⟨25, 157, none⟩), .pointer (some ⟨w.heap.size, 0, none⟩), .int .u64 150])) (w.alloc (.cells #[.pointer (some e)] 157)) := by kernel_rfl
theorem Tryz.asPartsFF (a : Addr) (w : World) : (ReflectliteValue.parts (.agg #[.pointer (some ⟨25, 174, none⟩), .pointer (some a), .int .u64 150])).run Tryz.prog w = .ok (some (174, a, 150)) w := by kernel_rfl
theorem Tryz.asIsNilFF (a p : Addr) (W : World) (ha : W.cell? a = some (.pointer (some p))) :
  (ReflectliteValue.method (ReflectliteValue.valueError "reflectlite.Value.IsNil" 0) ReflectliteValue.isNil #[.agg #[.pointer (some ⟨25, 174, none⟩), .pointer (some a), .int .u64 150]]).run Tryz.prog W = .ok (.bool false) W := by
 rw [Lib.rl_method]
 simp only [Sem.run_bind, Tryz.asPartsFF, Result.andThen]
 simp [ReflectliteValue.isNil, loadVar, isAgg, underlying, Tryz.underlying174, ha, Result.andThen]
theorem Tryz.asElemOfFF (w : World) : (Rtype.elem? 174).run Tryz.prog w = .ok (some 157) w := by kernel_rfl
theorem Tryz.asMkF (p : Addr) (w : World) : (ReflectliteValue.mk 157 p ReflectliteValue.flagAddr).run Tryz.prog w = .ok (.agg #[.pointer (some ⟨25, 157, none⟩), .pointer (some p), .int .u64 406]) w := by kernel_rfl
theorem Tryz.asElemV (a p : Addr) (W : World) (ha : W.cell? a = some (.pointer (some p))) :
  (ReflectliteValue.method (ReflectliteValue.valueError "reflectlite.Value.Elem" 0) ReflectliteValue.elem #[.agg #[.pointer (some ⟨25, 174, none⟩), .pointer (some a), .int .u64 150]]).run Tryz.prog W
   = .ok (.agg #[.pointer (some ⟨25, 157, none⟩), .pointer (some p), .int .u64 406]) W := by
 rw [Lib.rl_method]
 simp only [Sem.run_bind, Tryz.asPartsFF, Result.andThen]
 simp [ReflectliteValue.elem, loadVar, isAgg, underlying, Tryz.underlying174, ha, Result.andThen, Tryz.asElemOfFF, Tryz.asMkF]
theorem Tryz.asPartsFa (a : Addr) (w : World) : (ReflectliteValue.parts (.agg #[.pointer (some ⟨25, 157, none⟩), .pointer (some a), .int .u64 406])).run Tryz.prog w = .ok (some (157, a, 406)) w := by kernel_rfl
theorem Tryz.asPartsF (a : Addr) (w : World) : (ReflectliteValue.parts (.agg #[.pointer (some ⟨25, 157, none⟩), .pointer (some a), .int .u64 150])).run Tryz.prog w = .ok (some (157, a, 150)) w := by kernel_rfl
theorem Tryz.asDirect (w : World) : (Rtype.directlyAssignable 157 157).run Tryz.prog w = .ok true w := by kernel_rfl
theorem rl_two (v x : Value) (h1 : Value → Value → Sem Value) (h2 : Array Value → Sem Value) : ReflectliteValue.set.match_3 (fun _ => Sem Value) #[v, x] h1 h2 = h1 v x := rfl
theorem Tryz.asSet (ta b e : Addr) (old : Value) (W : World) (hb : W.cell? b = some (.pointer (some e))) (ht : W.cell? ta = some old) (hf : W.frozen? ta = false) :
  (ReflectliteValue.set #[.agg #[.pointer (some ⟨25, 157, none⟩), .pointer (some ta), .int .u64 406], .agg #[.pointer (some ⟨25, 157, none⟩), .pointer (some b), .int .u64 150]]).run Tryz.prog W
   = .ok (.tuple #[]) (W.setCell ta (.pointer (some e))) := by
 delta ReflectliteValue.set
 dsimp only
 rw [rl_two]
 simp only [Sem.run_bind, Tryz.asPartsFa, Tryz.asPartsF, Result.andThen]
 simp [ReflectliteValue.flagAddr, loadVar, isAgg, underlying, Tryz.underlying157, hb, Result.andThen, Tryz.asDirect, storeVar, Value.cells, storeCells, Addr.add]
 rw [run_store Tryz.prog W ta _ _ (by rfl)]
 simp [ht, hf]
abbrev asMissW (t : Addr) (w : World) : World := ((w.alloc (.cells #[.pointer (some t)] 174)).alloc (.cells #[.pointer (some ⟨25, 174, none⟩), .pointer (some ⟨w.heap.size, 0, none⟩), .int .u64 150] 225)).alloc (.cells #[.pointer (some ⟨25, 174, none⟩), .pointer (some ⟨w.heap.size, 0, none⟩), .int .u64 150] 225)
set_option maxHeartbeats 4000000 in
theorem as_miss (e t : Addr) (w : World) (hg : w.cell? ⟨16, 0, none⟩ = some (.iface 263 (.agg #[.pointer (some ⟨25, 27, none⟩)]))) :
  Calls Tryz.prog 118 #[.iface 328 (.pointer (some e)), .iface 174 (.pointer (some t))] w fun ev w' => ev = .returned (.bool false) ∧ w' = asMissW t w := by
 have h8 := @run_callFunc_extern Tryz.prog 166 _ (ReflectliteValue.method (ReflectliteValue.valueError "reflectlite.Value.IsNil" 0) ReflectliteValue.isNil) Tryz.func166 (by kernel_rfl) (by kernel_rfl) (by kernel_rfl) (by kernel_rfl)
 have tO := Tryz.asTypeOfE
 have mA := Tryz.asMethodAssignableTo
 have aE := Tryz.asAssignableE
 have f6 := Tryz.asValueOfFF
 have f7 := Tryz.asTypeFF
 have mK := Tryz.asMethodKind
 have mE := Tryz.asMethodElem
 have mI := Tryz.asMethodImplements
 have kFF := Tryz.asKindFF
 have kF := Tryz.asKindF
 have eFF := Tryz.asElemFF
 have iF := Tryz.asImplementsF
 have xA := Tryz.noAsE
 have xU := Tryz.noUnwrapE2
 have xV := Tryz.noUnwrapsE2
 have n8 := Tryz.asIsNilFF ⟨w.heap.size, 0, none⟩ t ((w.alloc (.cells #[.pointer (some t)] 174)).alloc (.cells #[.pointer (some ⟨25, 174, none⟩), .pointer (some ⟨w.heap.size, 0, none⟩), .int .u64 150] 225)) (by simp)
 have hlt : 16 < w.heap.size := by
  rcases Nat.lt_or_ge 16 w.heap.size with h | h
  ·
   exact h
  ·
   simp [World.cell?, Array.getElem?_eq_none h] at hg
 have hg2 : ((w.alloc (.cells #[.pointer (some t)] 174)).alloc (.cells #[.pointer (some ⟨25, 174, none⟩), .pointer (some ⟨w.heap.size, 0, none⟩), .int .u64 150] 225)).cell? ⟨16, 0, none⟩ = some (.iface 263 (.agg #[.pointer (some ⟨25, 27, none⟩)])) := by
  rw [World.cell?_alloc_lt _ _ ⟨16, 0, none⟩ (by simp; omega), World.cell?_alloc_lt _ _ ⟨16, 0, none⟩ hlt]; exact hg
 go_enter Tryz.func118, Tryz.ntmps118
 go_wp2
 refine wp_loop_rounds 1 ?_
 rw [rounds_succ]
 go_wp2
 go_ret
 exact ⟨rfl, rfl⟩
set_option maxHeartbeats 4000000 in
theorem as_hit (e t : Addr) (old : Value) (w : World) (hg : w.cell? ⟨16, 0, none⟩ = some (.iface 263 (.agg #[.pointer (some ⟨25, 27, none⟩)]))) (ht0 : w.cell? t = some old) (hf0 : w.frozen? t = false) :
  Calls Tryz.prog 118 #[.iface 157 (.pointer (some e)), .iface 174 (.pointer (some t))] w fun ev w' => ev = .returned (.bool true) ∧ w' = ((asMissW t w).alloc (.cells #[.pointer (some e)] 157)).setCell t (.pointer (some e)) := by
 have h8 := @run_callFunc_extern Tryz.prog 166 _ (ReflectliteValue.method (ReflectliteValue.valueError "reflectlite.Value.IsNil" 0) ReflectliteValue.isNil) Tryz.func166 (by kernel_rfl) (by kernel_rfl) (by kernel_rfl) (by kernel_rfl)
 have h11 := @run_callFunc_extern Tryz.prog 205 _ (ReflectliteValue.method (ReflectliteValue.valueError "reflectlite.Value.Elem" 0) ReflectliteValue.elem) Tryz.func205 (by kernel_rfl) (by kernel_rfl) (by kernel_rfl) (by kernel_rfl)
 have h12 := @run_callFunc_extern Tryz.prog 206 _ ReflectliteValue.set Tryz.func206 (by kernel_rfl) (by kernel_rfl) (by kernel_rfl) (by kernel_rfl)
 have tO := Tryz.asTypeOfF
 have mA := Tryz.asMethodAssignableTo
 have aF := Tryz.asAssignableF
 have vF := Tryz.asValueOfF
 have f6 := Tryz.asValueOfFF
 have f7 := Tryz.asTypeFF
 have mK := Tryz.asMethodKind
 have mE := Tryz.asMethodElem
 have mI := Tryz.asMethodImplements
 have kFF := Tryz.asKindFF
 have kF := Tryz.asKindF
 have eFF := Tryz.asElemFF
 have iF := Tryz.asImplementsF
 have n8 := Tryz.asIsNilFF ⟨w.heap.size, 0, none⟩ t ((w.alloc (.cells #[.pointer (some t)] 174)).alloc (.cells #[.pointer (some ⟨25, 174, none⟩), .pointer (some ⟨w.heap.size, 0, none⟩), .int .u64 150] 225)) (by simp)
 have hlt : 16 < w.heap.size := by
  rcases Nat.lt_or_ge 16 w.heap.size with h | h
  ·
   exact h
  ·
   simp [World.cell?, Array.getElem?_eq_none h] at hg
 have hg2 : ((w.alloc (.cells #[.pointer (some t)] 174)).alloc (.cells #[.pointer (some ⟨25, 174, none⟩), .pointer (some ⟨w.heap.size, 0, none⟩), .int .u64 150] 225)).cell? ⟨16, 0, none⟩ = some (.iface 263 (.agg #[.pointer (some ⟨25, 27, none⟩)])) := by
  rw [World.cell?_alloc_lt _ _ ⟨16, 0, none⟩ (by simp; omega), World.cell?_alloc_lt _ _ ⟨16, 0, none⟩ hlt]; exact hg
 have htl : t.block < w.heap.size := by
  rcases Nat.lt_or_ge t.block w.heap.size with h | h
  ·
   exact h
  ·
   simp [World.cell?, Array.getElem?_eq_none h] at ht0
 have el := Tryz.asElemV ⟨w.heap.size, 0, none⟩ t (asMissW t w) (by rw [World.cell?_alloc_lt _ _ ⟨w.heap.size, 0, none⟩ (by simp; omega)]; simp)
 have st := Tryz.asSet t ⟨w.heap.size + 1 + 1 + 1, 0, none⟩ e old ((asMissW t w).alloc (.cells #[.pointer (some e)] 157))
  (by rw [World.cell?_alloc_at _ _ _ _ (by simp)]; rfl)
  (by rw [World.cell?_alloc_lt _ _ t (by simp; omega), World.cell?_alloc_lt _ _ t (by simp; omega), World.cell?_alloc_lt _ _ t (by simp; omega), World.cell?_alloc_lt _ _ t htl]; exact ht0)
  (by rw [World.frozen?_alloc_old _ _ t (by simp; omega), World.frozen?_alloc_old _ _ t (by simp; omega), World.frozen?_alloc_old _ _ t (by simp; omega), World.frozen?_alloc_old _ _ t (Nat.ne_of_lt htl)]; exact hf0)
 go_enter Tryz.func118, Tryz.ntmps118
 go_wp2
 refine wp_loop_rounds 1 ?_
 rw [rounds_succ]
 go_wp2
 go_ret
 exact ⟨rfl, rfl⟩
end Go.Proofs.YtabpnjchocgakaaGreatDoor

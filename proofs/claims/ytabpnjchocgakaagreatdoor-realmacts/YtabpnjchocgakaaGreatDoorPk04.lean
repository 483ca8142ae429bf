/-
  What the functions of these parts do, and what holds of their plain forms: BookDo, BookDo2, BookDo3, BookDo4, FloorRef, FloorText, FloorReadOne, FloorFault.
-/
import Derived.Test.YtabpnjchocgakaaGreatDoorPk00
import Derived.Test.YtabpnjchocgakaaGreatDoorSealWords
import Derived.Maps.OwnSet
import Derived.Laws.Rows
import Derived.StringKeys
import Derived.Laws.NewBlocks
import Derived.Laws.ResultCell
import Derived.RegionTactic
import Derived.Test.YtabpnjchocgakaaGreatDoorSealRef
import Derived.Test.YtabpnjchocgakaaGreatDoorFloorDo
import Derived.Test.YtabpnjchocgakaaGreatDoorPk03
import Derived.Test.YtabpnjchocgakaaGreatDoorPk01
import Derived.Deep.RegionHeld3
import Derived.Laws.MakeOwn
import Derived.Test.YtabpnjchocgakaaGreatDoorCoded
namespace Go.Proofs.YtabpnjchocgakaaGreatDoor
open Go.RowKit Go.Extern.Stop Go.Stop Go.Extern Go.Maps
def perS (i : Nat) : Bool := i == 1 || i == 3 || i == 4 || i == 5 || i == 6 || i == 9
theorem grown_of_below {w w' : World} (h : Below w.heap.size w w') (row : Option Nat) : w.grownBy w' row := ⟨h.os, h.tape, h.output, h.size, fun k hk _ => h.block k hk⟩
structure BookAt (w : World) (bp mb : Nat) (L : List Per) : Prop where
 row : w.heap[bp]? = some (.cells #[.map (some mb)] 134 (0, 0))
 own : w.ownsMap Tryz.prog 9 perR mb L.length (dOf L)
 good : Good L
theorem BookAt.ne {w : World} {bp mb : Nat} {L : List Per} (h : BookAt w bp mb L) : bp ≠ mb := fun e => by
 obtain ⟨es, clock, hb, _⟩ := h.own
 rw [← e, h.row] at hb
 cases hb
theorem BookAt.same {w w' : World} {bp mb : Nat} {L : List Per} (h : BookAt w bp mb L) (h1 : w'.heap[bp]? = w.heap[bp]?) (h2 : w'.heap[mb]? = w.heap[mb]?) : BookAt w' bp mb L := by
 obtain ⟨es, clock, hb, F, hs, hD⟩ := h.own
 exact ⟨h1.trans h.row, ⟨es, clock, h2.trans hb, F, hs, hD⟩, h.good⟩
theorem BookAt.kept {w w' : World} {bp mb : Nat} {L : List Per} (h : BookAt w bp mb L) {row : Option Nat} (hg : w.grownBy w' row) (h1 : some bp ≠ row) (h2 : some mb ≠ row) : BookAt w' bp mb L :=
 h.same (hg.block bp (row_lt h.row) h1) (hg.block mb h.own.lt h2)
theorem BookAt.below {w w' : World} {bp mb : Nat} {L : List Per} (h : BookAt w bp mb L) (hb : Below w.heap.size w w') : BookAt w' bp mb L :=
 h.kept (grown_of_below hb none) (by simp) (by simp)
theorem BookAt.cell {w : World} {bp mb : Nat} {L : List Per} (h : BookAt w bp mb L) : w.cell? ⟨bp, 0, none⟩ = some (.map (some mb)) := cell_of_row w bp 0 _ _ _ h.row
theorem BookAt.put {w w' : World} {bp mb : Nat} {L : List Per} {p : Per} {n : Nat} (h : BookAt w bp mb L) (ho : w'.ownsMap Tryz.prog 9 perR mb n ((dOf L).put (.string p.name.data.toList) (perD p))) (ht : w.mapTurned w' mb) (hg : Good (putP L p)) : BookAt w' bp mb (putP L p) := by
 rw [dOf_put] at ho
 obtain ⟨es, clock, hb, F, hs, hD⟩ := ho
 refine ⟨?_, ⟨es, clock, hb, F, ?_, hD⟩, hg⟩
 ·
  rw [ht.grown.block bp (row_lt h.row) (by have := h.ne; simpa using this)]
  exact h.row
 ·
  have e := congrArg Maps.size hD
  rw [dOf_size] at e
  rw [e]
  simp [Maps.size, length_sorted]
theorem Tryz.zeroPerson (w : World) : (zeroValue 46).run Tryz.prog w = .ok (.agg #[.string ByteArray.empty, .int .i64 0, .int .i64 0, .bool false]) w := by kernel_rfl
def noP : Per := ⟨ByteArray.empty, 0, 0, false⟩
set_option maxRecDepth 100000 in
set_option maxHeartbeats 1000000 in
theorem pcheck_any (a : Nat → Addr) (p : Per) (w : World) (h : EV perS a w) (hs : p.name.size ≤ maxLen) :
  Calls Tryz.prog 120 #[p.val] w fun e w' => e = .returned (errV a p.err) ∧ Below w.heap.size w w' := by
 obtain ⟨name, key, epoch, off⟩ := p
 have HB : Hid (Below w.heap.size w (w.alloc (.cells #[.string name, .int .i64 key, .int .i64 epoch, .bool off] 46))) := (Below.refl _ _).alloc (Nat.le_refl _) _
 have HC : Hid ((w.alloc (.cells #[.string name, .int .i64 key, .int .i64 epoch, .bool off] 46)).heap[w.heap.size]? = some (.cells #[.string name, .int .i64 key, .int .i64 epoch, .bool off] 46 (0, 0))) := heap_alloc_new _ _
 have HN := hide (fun w => name_any name w hs)
 have HE := hide h
 show Calls Tryz.prog 120 #[.agg #[.string name, .int .i64 key, .int .i64 epoch, .bool off]] w _
 have HR : Hid (∀ c, (Per.mk name key epoch off).err = c → Calls Tryz.prog 120 #[.agg #[.string name, .int .i64 key, .int .i64 epoch, .bool off]] w (fun e w' => e = .returned (errV a c) ∧ Below w.heap.size w w') → Calls Tryz.prog 120 #[.agg #[.string name, .int .i64 key, .int .i64 epoch, .bool off]] w (fun e w' => e = .returned (errV a (Per.mk name key epoch off).err) ∧ Below w.heap.size w w')) := fun c hc h => by rw [hc]; exact h
 clear h
 cases hn : Sl.nameL name.data.toList with
 | false =>
  refine HR.out 4 (by unfold Per.err; simp [hn]) ?_
  rw [hn] at HN
  clear hn HR
  go_enter Tryz.func120, Tryz.ntmps120
  go_wp2_with fail
  refine (HN.out _).mono ?_
  rintro e w1 ⟨rfl, hb⟩
  have HB1 : Hid (Below w.heap.size w w1) := HB.out.trans (hb.mono HB.out.size)
  have hv : w1.cell? ⟨2, 0, none⟩ = some (eV (a 3)) := (HE.out.below HB1.out).var 3 (by decide) rfl
  clear hb
  go_wp2
  go_ret
  exact ⟨rfl, HB1.out⟩
 | true =>
  rw [hn] at HN
  by_cases hk : 1 ≤ key ∧ key ≤ 1000000006
  ·
   by_cases he : 1 ≤ epoch ∧ epoch ≤ 1073741824
   ·
    refine HR.out 0 (by unfold Per.err; simp [hn, hk, he]) ?_
    obtain ⟨he1, he2⟩ := he
    obtain ⟨hk1, hk2⟩ := hk
    clear hn HR HE
    go_enter Tryz.func120, Tryz.ntmps120
    go_wp2_with fail
    refine (HN.out _).mono ?_
    rintro e w1 ⟨rfl, hb⟩
    have HB1 : Hid (Below w.heap.size w w1) := HB.out.trans (hb.mono HB.out.size)
    have hrow : w1.heap[w.heap.size]? = some (.cells #[.string name, .int .i64 key, .int .i64 epoch, .bool off] 46 (0, 0)) := by rw [hb.block _ (by simp)]; exact HC.out
    have hc1 : w1.cell? ⟨w.heap.size, 1, none⟩ = some (.int .i64 key) := cell_of_row w1 _ 1 _ _ _ hrow
    have hc2 : w1.cell? ⟨w.heap.size, 2, none⟩ = some (.int .i64 epoch) := cell_of_row w1 _ 2 _ _ _ hrow
    clear hb hrow
    go_wp2
    go_ret
    exact ⟨rfl, HB1.out⟩
   ·
    refine HR.out 2 (by unfold Per.err; rw [if_pos hn, if_pos hk, if_neg he]) ?_
    obtain ⟨hk1, hk2⟩ := hk
    have he2 : epoch < 1 ∨ (1 ≤ epoch ∧ 1073741824 < epoch) := by omega
    clear hn HR he
    rcases he2 with g | ⟨g, g2⟩
    all_goals
     go_enter Tryz.func120, Tryz.ntmps120
     go_wp2_with fail
     refine (HN.out _).mono ?_
     rintro e w1 ⟨rfl, hb⟩
     have HB1 : Hid (Below w.heap.size w w1) := HB.out.trans (hb.mono HB.out.size)
     have hrow : w1.heap[w.heap.size]? = some (.cells #[.string name, .int .i64 key, .int .i64 epoch, .bool off] 46 (0, 0)) := by rw [hb.block _ (by simp)]; exact HC.out
     have hc1 : w1.cell? ⟨w.heap.size, 1, none⟩ = some (.int .i64 key) := cell_of_row w1 _ 1 _ _ _ hrow
     have hc2 : w1.cell? ⟨w.heap.size, 2, none⟩ = some (.int .i64 epoch) := cell_of_row w1 _ 2 _ _ _ hrow
     have hv : w1.cell? ⟨0, 0, none⟩ = some (eV (a 1)) := (HE.out.below HB1.out).var 1 (by decide) rfl
     clear hb hrow
     go_wp2
     go_ret
     exact ⟨rfl, HB1.out⟩
  ·
   refine HR.out 10 (by unfold Per.err; rw [if_pos hn, if_neg hk]) ?_
   have hk2 : key < 1 ∨ (1 ≤ key ∧ 1000000006 < key) := by omega
   clear hn HR hk
   rcases hk2 with g | ⟨g, g2⟩
   all_goals
    go_enter Tryz.func120, Tryz.ntmps120
    go_wp2_with fail
    refine (HN.out _).mono ?_
    rintro e w1 ⟨rfl, hb⟩
    have HB1 : Hid (Below w.heap.size w w1) := HB.out.trans (hb.mono HB.out.size)
    have hrow : w1.heap[w.heap.size]? = some (.cells #[.string name, .int .i64 key, .int .i64 epoch, .bool off] 46 (0, 0)) := by rw [hb.block _ (by simp)]; exact HC.out
    have hc1 : w1.cell? ⟨w.heap.size, 1, none⟩ = some (.int .i64 key) := cell_of_row w1 _ 1 _ _ _ hrow
    have hv : w1.cell? ⟨11, 0, none⟩ = some (eV (a 9)) := (HE.out.below HB1.out).var 9 (by decide) rfl
    clear hb hrow
    go_wp2
    go_ret
    exact ⟨rfl, HB1.out⟩
set_option maxRecDepth 100000 in
set_option maxHeartbeats 1000000 in
theorem new_any (w : World) :
  Calls Tryz.prog 33 #[] w fun e w' => e = .returned (.pointer (some ⟨w.heap.size + 1, 0, none⟩)) ∧ BookAt w' (w.heap.size + 1) w.heap.size [] ∧ Below w.heap.size w w' := by
 have hmm := @run_makeMap Tryz.prog
 have HW : Hid (∀ w' : World, w' = (w.alloc (.map #[] 0)).alloc (.cells #[.map (some w.heap.size)] 134) → BookAt w' (w.heap.size + 1) w.heap.size [] ∧ Below w.heap.size w w') := fun w' e => by
  subst e
  refine ⟨⟨?_, ?_, Good.nil⟩, ((Below.refl _ _).alloc (Nat.le_refl _) _).alloc (by simp) _⟩
  ·
   have := heap_alloc_new (w.alloc (.map #[] 0)) (.cells #[.map (some w.heap.size)] 134)
   rwa [World.size_alloc] at this
  ·
   exact (World.ownsMap_made w Tryz.prog 9 perR).alloc _
 go_enter Tryz.func33, Tryz.ntmps33
 go_wp2
 go_ret
 exact ⟨by simp, HW.out _ rfl⟩
section
variable {ops : Array Oper} {rest : List Oper} {o : Oper} {act : Act} {Q : Exit → Act → World → Prop}
theorem look_no (w : World) (hg : o.guard = none) (m x : Operand) (hop : o.op = Op.lookup 132 m x true) (b n : Nat) (L : List Per) (name : ByteArray) (hm : act.eval m = .map (some b)) (hown : w.ownsMap Tryz.prog 9 perR b n (dOf L)) (hx : act.eval x = .string name) (hs : name.size ≤ maxLen) (hL : getP L name = none)
  (hK : wpList Tryz.prog ops Q rest (act.put o.dst (.tuple #[.agg #[.string ByteArray.empty, .int .i64 0, .int .i64 0, .bool false], .bool false])) w) : wpList Tryz.prog ops Q (o :: rest) act w :=
 wpList_lookup_own_ok w hg m x _ hop 9 46 (string_keyed Tryz.underlying9) Tryz.underlying132 perR (Tryz.zeroPerson w) (perD noP) [] (perR_val noP) b n _ hm hown _ _ hx (Go.WideMaps.keyOf_string_mk Tryz.underlying9 hs) (fun v ps hv => by
  rw [dOf_at, hL] at hv
  obtain ⟨p, rfl, hz⟩ := perR_inv hv
  obtain rfl : noP = p := perD_inj (congrArg Prod.fst hz)
  rw [dOf_has, hL]
  exact hK)
theorem look_yes (w : World) (hg : o.guard = none) (m x : Operand) (hop : o.op = Op.lookup 132 m x true) (b n : Nat) (L : List Per) (name : ByteArray) (hm : act.eval m = .map (some b)) (hown : w.ownsMap Tryz.prog 9 perR b n (dOf L)) (hx : act.eval x = .string name) (hs : name.size ≤ maxLen) (p : Per) (hL : getP L name = some p)
  (hK : wpList Tryz.prog ops Q rest (act.put o.dst (.tuple #[.agg #[.string p.name, .int .i64 p.key, .int .i64 p.epoch, .bool p.off], .bool true])) w) : wpList Tryz.prog ops Q (o :: rest) act w :=
 wpList_lookup_own_ok w hg m x _ hop 9 46 (string_keyed Tryz.underlying9) Tryz.underlying132 perR (Tryz.zeroPerson w) (perD noP) [] (perR_val noP) b n _ hm hown _ _ hx (Go.WideMaps.keyOf_string_mk Tryz.underlying9 hs) (fun v ps hv => by
  rw [dOf_at, hL] at hv
  obtain ⟨q, rfl, hz⟩ := perR_inv hv
  obtain rfl : p = q := perD_inj (congrArg Prod.fst hz)
  rw [dOf_has, hL]
  exact hK)
end
theorem BookAt.store {w : World} {bp mb : Nat} {L : List Per} (h : BookAt w bp mb L) (p : Per) (hs : p.name.size ≤ maxLen) (hg : Good (putP L p)) :
  ∃ w', (Instr.mapUpdate 132 (.map (some mb)) (.string p.name) (.agg #[.string p.name, .int .i64 p.key, .int .i64 p.epoch, .bool p.off])).run Tryz.prog w = .ok () w' ∧ BookAt w' bp mb (putP L p) ∧ w.grownBy w' (some mb) := by
 obtain ⟨w', hrun, ho, ht⟩ := h.own.store (e := 46) (string_keyed Tryz.underlying9) Tryz.underlying132 (Nat.lt_of_le_of_lt h.good.few (by unfold maxLen; omega)) (Go.WideMaps.keyOf_string_mk Tryz.underlying9 hs) (perR_val p)
 exact ⟨w', hrun, h.put ho ht hg, ht.grown⟩
theorem res_row_tmp {P : Program} {fn : Func} {p u : Tmp} {ty : TypeId} (h : fn.results = #[.cell p ty, .tmp u]) (tmps : Array Value) (w : World) (g : Nat) (t : TypeId) (cs : Array Value) (fr : Nat × Nat) (d : TypeDesc)
  (hp : tmps.getD p undef = .pointer (some ⟨g, 0, none⟩)) (hg : w.heap[g]? = some (.cells cs t fr))
  (hu : P.underlying ty = some d) (hd : (match d with | .struct _ | .array _ _ => true | _ => false) = true) (hi : (P.info? ty).map (·.size) = some cs.size) :
  (results fn tmps).run P w = .ok (.tuple #[.agg cs, tmps.getD u undef]) w := by
 rw [results_cell_tmp h, hp]
 simp [asAddr, run_loadVar_row w g t ty cs fr d hg hu hd hi, Result.andThen]
theorem getEnd {a : Act} {w : World} {R : Ending → World → Prop} (g : Nat) (cs : Array Value) (hp : a.tmps.getD 4 undef = .pointer (some ⟨g, 0, none⟩)) (hg : w.heap[g]? = some (.cells cs 46 (0, 0))) (hn : cs.size = 4) (hd : a.defers = [])
  (hR : R (.returned (.tuple #[.agg cs, a.tmps.getD 5 undef])) w) : bodyPost Tryz.prog Tryz.f49 R .ret a w :=
 bodyPost_ret (res_row_tmp rfl a.tmps w g _ cs (0, 0) _ hp hg Tryz.underlying46 rfl (by rw [hn]; kernel_rfl)) hd hR
theorem row_two (w : World) (o o' : Obj) : ((w.alloc o).alloc o').heap[w.heap.size]? = some o := (Below.heap_alloc _ _ _ (by simp)).trans (heap_alloc_new w o)
theorem EV.two {S : Nat → Bool} {a : Nat → Addr} {w : World} (h : EV S a w) (i : Nat) (hi : i < 16) (hs : S i = true) (o o' : Obj) : ((w.alloc o).alloc o').cell? ⟨errG.getD i 0, 0, none⟩ = some (eV (a i)) :=
 (h.below (((Below.refl _ _).alloc (Nat.le_refl _) o).alloc (by simp) o')).var i hi hs
set_option maxRecDepth 100000 in
set_option maxHeartbeats 1000000 in
theorem get_no (a : Nat → Addr) (bp mb : Nat) (L : List Per) (name : ByteArray) (w : World) (h : BookAt w bp mb L) (hE : EV perS a w) (hs : name.size ≤ maxLen) (hg : getP L name = none) :
  Calls Tryz.prog 49 #[.pointer (some ⟨bp, 0, none⟩), .string name] w fun e w' => e = .returned (.tuple #[.agg #[.string ByteArray.empty, .int .i64 0, .int .i64 0, .bool false], eV (a 4)]) ∧ Below w.heap.size w w' := by
 have hc : ∀ o, (w.alloc o).cell? ⟨bp, 0, none⟩ = some (.map (some mb)) := fun o => (h.below ((Below.refl _ _).alloc (Nat.le_refl _) o)).cell
 have hv : ∀ o o', ((w.alloc o).alloc o').cell? ⟨4, 0, none⟩ = some (eV (a 4)) := fun o o' => hE.two 4 (by decide) rfl o o'
 have HO := hide (fun o => h.own.alloc o)
 clear h hE
 go_enter Tryz.func49, Tryz.ntmps49
 go_wp2_with (first | (at_lookup; refine look_no _ rfl _ _ rfl mb L.length L name rfl (HO.out _) rfl hs hg ?_) | go_in)
 go_region
 go_wp2
 refine getEnd w.heap.size _ rfl (row_two _ _ _) rfl rfl ?_
 exact ⟨rfl, (((Below.refl _ w).alloc (Nat.le_refl _) _).alloc (by simp) _).drew⟩
set_option maxRecDepth 100000 in
set_option maxHeartbeats 1000000 in
theorem get_yes (bp mb : Nat) (L : List Per) (name : ByteArray) (w : World) (h : BookAt w bp mb L) (hs : name.size ≤ maxLen) (p : Per) (hg : getP L name = some p) :
  Calls Tryz.prog 49 #[.pointer (some ⟨bp, 0, none⟩), .string name] w fun e w' => e = .returned (.tuple #[.agg #[.string p.name, .int .i64 p.key, .int .i64 p.epoch, .bool p.off], .nilIface]) ∧ Below w.heap.size w w' := by
 have hc : ∀ o, (w.alloc o).cell? ⟨bp, 0, none⟩ = some (.map (some mb)) := fun o => (h.below ((Below.refl _ _).alloc (Nat.le_refl _) o)).cell
 have HO := hide (fun o => h.own.alloc o)
 clear h
 go_enter Tryz.func49, Tryz.ntmps49
 go_wp2_with (first | (at_lookup; refine look_yes _ rfl _ _ rfl mb L.length L name rfl (HO.out _) rfl hs p hg ?_) | go_in)
 refine getEnd w.heap.size _ rfl (row_two _ _ _) rfl rfl ?_
 exact ⟨rfl, ((Below.refl _ w).alloc (Nat.le_refl _) _).alloc (by simp) _⟩
set_option maxRecDepth 100000 in
set_option maxHeartbeats 2000000 in
theorem add_any (a : Nat → Addr) (bp mb : Nat) (L : List Per) (name : ByteArray) (key : Int) (w : World) (h : BookAt w bp mb L) (hE : EV perS a w) (hs : name.size ≤ maxLen) :
  Calls Tryz.prog 73 #[.pointer (some ⟨bp, 0, none⟩), .string name, .int .i64 key] w fun e w' => e = .returned (errV a (addP L name key).1) ∧ BookAt w' bp mb (addP L name key).2 ∧ w.grownBy w' (some mb) := by
 have HP : Hid (∀ w, EV perS a w → Calls Tryz.prog 120 #[.agg #[.string name, .int .i64 key, .int .i64 1, .bool false]] w fun e w' => e = .returned (errV a (newP name key).err) ∧ Below w.heap.size w w') := fun w hE => pcheck_any a (newP name key) w hE hs
 have HB0 : Hid (Below w.heap.size w (w.alloc (.cells #[.string name, .int .i64 key, .int .i64 1, .bool false] 46))) := (Below.refl _ _).alloc (Nat.le_refl _) _
 have HC0 : Hid ((w.alloc (.cells #[.string name, .int .i64 key, .int .i64 1, .bool false] 46)).heap[w.heap.size]? = some (.cells #[.string name, .int .i64 key, .int .i64 1, .bool false] 46 (0, 0))) := heap_alloc_new _ _
 have HB := hide h
 have HE := hide hE
 clear h hE
 by_cases he : (newP name key).err = 0
 ·
  rw [he] at HP
  cases hg : getP L name with
  | some p =>
   rw [add_is he hg]
   clear he
   go_enter Tryz.func73, Tryz.ntmps73
   go_wp2_with fail
   refine (HP.out _ (HE.out.below HB0.out)).mono ?_
   rintro e w1 ⟨rfl, hb⟩
   have HB1 : Hid (Below w.heap.size w w1) := HB0.out.trans (hb.mono HB0.out.size)
   have HK1 := hide (HB.out.below HB1.out)
   have hc : w1.cell? ⟨bp, 0, none⟩ = some (.map (some mb)) := HK1.out.cell
   have hv : ∀ o, (w1.alloc o).cell? ⟨9, 0, none⟩ = some (eV (a 5)) := fun o => ((HE.out.below HB1.out).below ((Below.refl _ _).alloc (Nat.le_refl _) o)).var 5 (by decide) rfl
   clear hb
   rw [errV_zero]
   go_wp2_with (first | (at_lookup; refine look_yes _ rfl _ _ rfl mb L.length L name rfl HK1.out.own rfl hs p hg ?_) | go_in)
   go_ret
   have HB2 := HB1.out.trans (((Below.refl w1.heap.size w1).alloc (Nat.le_refl _) (.cells #[.string p.name, .int .i64 p.key, .int .i64 p.epoch, .bool p.off] 46)).mono HB1.out.size)
   exact ⟨rfl, HB.out.below HB2, grown_of_below HB2 _⟩
  | none =>
   by_cases hn : 20 ≤ L.length
   ·
    rw [add_full he hg hn]
    clear he
    go_enter Tryz.func73, Tryz.ntmps73
    go_wp2_with fail
    refine (HP.out _ (HE.out.below HB0.out)).mono ?_
    rintro e w1 ⟨rfl, hb⟩
    have HB1 : Hid (Below w.heap.size w w1) := HB0.out.trans (hb.mono HB0.out.size)
    have HK1 := hide (HB.out.below HB1.out)
    have hc : w1.cell? ⟨bp, 0, none⟩ = some (.map (some mb)) := HK1.out.cell
    have hc2 : ∀ o, (w1.alloc o).cell? ⟨bp, 0, none⟩ = some (.map (some mb)) := fun o => (HK1.out.below ((Below.refl _ _).alloc (Nat.le_refl _) o)).cell
    have hv : ∀ o, (w1.alloc o).cell? ⟨7, 0, none⟩ = some (eV (a 6)) := fun o => ((HE.out.below HB1.out).below ((Below.refl _ _).alloc (Nat.le_refl _) o)).var 6 (by decide) rfl
    have HN : Hid (∀ o, (w1.alloc o).ownsMap Tryz.prog 9 perR mb L.length (dOf L)) := fun o => HK1.out.own.alloc o
    have hsz := dOf_size L
    clear hb
    rw [errV_zero]
    go_wp2_with (first | (at_lookup; refine look_no _ rfl _ _ rfl mb L.length L name rfl HK1.out.own rfl hs hg ?_) | (at_len; refine wpList_len_own _ rfl _ 132 rfl 9 46 Tryz.underlying132 perR mb L.length (dOf L) rfl (HN.out _) ?_; rw [hsz]) | go_in)
    go_ret
    have HB2 := HB1.out.trans (((Below.refl w1.heap.size w1).alloc (Nat.le_refl _) (.cells #[.string ByteArray.empty, .int .i64 0, .int .i64 0, .bool false] 46)).mono HB1.out.size)
    exact ⟨rfl, HB.out.below HB2, grown_of_below HB2 _⟩
   ·
    rw [add_ok he hg hn]
    have HG := hide (put_new_good HB.out.good he hg (by omega)).1
    clear he
    go_enter Tryz.func73, Tryz.ntmps73
    go_wp2_with fail
    refine (HP.out _ (HE.out.below HB0.out)).mono ?_
    rintro e w1 ⟨rfl, hb⟩
    have HB1 : Hid (Below w.heap.size w w1) := HB0.out.trans (hb.mono HB0.out.size)
    have HK1 := hide (HB.out.below HB1.out)
    have hrow : w1.heap[w.heap.size]? = some (.cells #[.string name, .int .i64 key, .int .i64 1, .bool false] 46 (0, 0)) := by rw [hb.block _ (by simp)]; exact HC0.out
    have hc : w1.cell? ⟨bp, 0, none⟩ = some (.map (some mb)) := HK1.out.cell
    have HB2 : Hid (∀ o, Below w.heap.size w (w1.alloc o)) := fun o => HB1.out.trans (((Below.refl w1.heap.size w1).alloc (Nat.le_refl _) o).mono HB1.out.size)
    have HK2 : Hid (∀ o, BookAt (w1.alloc o) bp mb L) := fun o => HB.out.below (HB2.out o)
    have hc2 : ∀ o, (w1.alloc o).cell? ⟨bp, 0, none⟩ = some (.map (some mb)) := fun o => (HK2.out o).cell
    have hro : ∀ o, (w1.alloc o).heap[w.heap.size]? = some (.cells #[.string name, .int .i64 key, .int .i64 1, .bool false] 46 (0, 0)) := fun o => (Below.heap_alloc _ _ _ (row_lt hrow)).trans hrow
    have hp0 : ∀ o, (w1.alloc o).cell? ⟨w.heap.size, 0, none⟩ = some (.string name) := fun o => cell_of_row _ _ 0 _ _ _ (hro o)
    have hp1 : ∀ o, (w1.alloc o).cell? ⟨w.heap.size, 1, none⟩ = some (.int .i64 key) := fun o => cell_of_row _ _ 1 _ _ _ (hro o)
    have hp2 : ∀ o, (w1.alloc o).cell? ⟨w.heap.size, 2, none⟩ = some (.int .i64 1) := fun o => cell_of_row _ _ 2 _ _ _ (hro o)
    have hp3 : ∀ o, (w1.alloc o).cell? ⟨w.heap.size, 3, none⟩ = some (.bool false) := fun o => cell_of_row _ _ 3 _ _ _ (hro o)
    have HN : Hid (∀ o, (w1.alloc o).ownsMap Tryz.prog 9 perR mb L.length (dOf L)) := fun o => HK1.out.own.alloc o
    have hsz := dOf_size L
    obtain ⟨w2, hrun, hk2, hg2⟩ := BookAt.store (w := (w1.alloc (.cells #[.string ByteArray.empty, .int .i64 0, .int .i64 0, .bool false] 46)).drew) ((HK2.out _).same rfl rfl) (newP name key) hs HG.out
    have hrun' : (Instr.mapUpdate 132 (.map (some mb)) (.string name) (.agg #[.string name, .int .i64 key, .int .i64 1, .bool false])).run Tryz.prog (w1.alloc (.cells #[.string ByteArray.empty, .int .i64 0, .int .i64 0, .bool false] 46)).drew = .ok () w2 := hrun
    have HR : Hid (BookAt w2 bp mb (putP L (newP name key)) ∧ w.grownBy w2 (some mb)) := ⟨hk2, (grown_of_below (HB2.out _).drew (some mb)).trans hg2⟩
    clear hb hrow hro hrun hk2 hg2
    rw [errV_zero]
    go_wp2_with (first | (at_lookup; refine look_no _ rfl _ _ rfl mb L.length L name rfl HK1.out.own rfl hs hg ?_) | (at_len; refine wpList_len_own _ rfl _ 132 rfl 9 46 Tryz.underlying132 perR mb L.length (dOf L) rfl (HN.out _) ?_; rw [hsz]) | go_in)
    go_region
    go_wp2
    go_ret
    exact ⟨rfl, HR.out⟩
 ·
  rw [add_err he]
  generalize hc : (newP name key).err = c at *
  rw [errV_pos a he] at HP ⊢
  clear hc he
  go_enter Tryz.func73, Tryz.ntmps73
  go_wp2_with fail
  refine (HP.out _ (HE.out.below HB0.out)).mono ?_
  rintro e w1 ⟨rfl, hb⟩
  have HB1 : Hid (Below w.heap.size w w1) := HB0.out.trans (hb.mono HB0.out.size)
  clear hb
  go_wp2
  go_ret
  exact ⟨rfl, HB.out.below HB1.out, grown_of_below HB1.out _⟩
def toP (p : Per) (ep : Int) : Per := { p with epoch := max p.epoch ep }
def upP (p : Per) : Per := { p with epoch := p.epoch + 1 }
theorem cells_row {w : World} {g : Nat} {p : Per} (h : w.heap[g]? = some (.cells #[.string p.name, .int .i64 p.key, .int .i64 p.epoch, .bool p.off] 46 (0, 0))) :
  w.cell? ⟨g, 0, none⟩ = some (.string p.name) ∧ w.cell? ⟨g, 1, none⟩ = some (.int .i64 p.key) ∧ w.cell? ⟨g, 2, none⟩ = some (.int .i64 p.epoch) ∧ w.cell? ⟨g, 3, none⟩ = some (.bool p.off) :=
 ⟨cell_of_row w g 0 _ _ _ h, cell_of_row w g 1 _ _ _ h, cell_of_row w g 2 _ _ _ h, cell_of_row w g 3 _ _ _ h⟩
theorem to_up (p : Per) : toP p (p.epoch + 1) = upP p := by
 unfold toP upP
 rw [show max p.epoch (p.epoch + 1) = p.epoch + 1 by omega]
set_option maxRecDepth 100000 in
set_option maxHeartbeats 4000000 in
theorem rise_err (a : Nat → Addr) (bp mb : Nat) (L : List Per) (p : Per) (ep : Int) (w : World) (h : BookAt w bp mb L) (hE : EV perS a w) (hs : p.name.size ≤ maxLen) (he : (toP p ep).err ≠ 0) :
  Calls Tryz.prog 112 #[.pointer (some ⟨bp, 0, none⟩), .agg #[.string p.name, .int .i64 p.key, .int .i64 p.epoch, .bool p.off], .int .i64 ep] w fun e w' => e = .returned (.tuple #[.int .i64 0, errV a (toP p ep).err]) ∧ BookAt w' bp mb L ∧ w.grownBy w' (some mb) := by
 have HP : Hid (∀ w, EV perS a w → Calls Tryz.prog 120 #[.agg #[.string p.name, .int .i64 p.key, .int .i64 (max p.epoch ep), .bool p.off]] w fun e w' => e = .returned (errV a (toP p ep).err) ∧ Below w.heap.size w w') := fun w hE => pcheck_any a (toP p ep) w hE hs
 have HB0 : Hid (Below w.heap.size w (w.alloc (.cells #[.string p.name, .int .i64 p.key, .int .i64 (max p.epoch ep), .bool p.off] 46))) := (Below.refl _ _).alloc (Nat.le_refl _) _
 have HB := hide h
 have HE := hide hE
 rw [errV_pos a he] at HP ⊢
 generalize (toP p ep).err = c at *
 clear h hE he
 go_enter Tryz.func112, Tryz.ntmps112
 go_wp2_with fail
 refine (HP.out _ (HE.out.below HB0.out)).mono ?_
 rintro e w1 ⟨rfl, hb⟩
 have HB1 : Hid (Below w.heap.size w w1) := HB0.out.trans (hb.mono HB0.out.size)
 clear hb
 go_wp2
 go_ret2
 exact ⟨rfl, HB.out.below HB1.out, grown_of_below HB1.out _⟩
set_option maxRecDepth 100000 in
set_option maxHeartbeats 4000000 in
theorem rise_ok (a : Nat → Addr) (bp mb : Nat) (L : List Per) (p : Per) (ep : Int) (w : World) (h : BookAt w bp mb L) (hE : EV perS a w) (hs : p.name.size ≤ maxLen) (he : (toP p ep).err = 0) (hg : Good (putP L (toP p ep))) :
  Calls Tryz.prog 112 #[.pointer (some ⟨bp, 0, none⟩), .agg #[.string p.name, .int .i64 p.key, .int .i64 p.epoch, .bool p.off], .int .i64 ep] w fun e w' => e = .returned (.tuple #[.int .i64 (toP p ep).epoch, .nilIface]) ∧ BookAt w' bp mb (putP L (toP p ep)) ∧ w.grownBy w' (some mb) := by
 have HP : Hid (∀ w, EV perS a w → Calls Tryz.prog 120 #[.agg #[.string p.name, .int .i64 p.key, .int .i64 (max p.epoch ep), .bool p.off]] w fun e w' => e = .returned (errV a (toP p ep).err) ∧ Below w.heap.size w w') := fun w hE => pcheck_any a (toP p ep) w hE hs
 have HB0 : Hid (Below w.heap.size w (w.alloc (.cells #[.string p.name, .int .i64 p.key, .int .i64 (max p.epoch ep), .bool p.off] 46))) := (Below.refl _ _).alloc (Nat.le_refl _) _
 have HC0 : Hid ((w.alloc (.cells #[.string p.name, .int .i64 p.key, .int .i64 (max p.epoch ep), .bool p.off] 46)).heap[w.heap.size]? = some (.cells #[.string p.name, .int .i64 p.key, .int .i64 (max p.epoch ep), .bool p.off] 46 (0, 0))) := heap_alloc_new _ _
 have HB := hide h
 have HE := hide hE
 have HG := hide hg
 rw [he, errV_zero] at HP
 clear h hE he hg
 go_enter Tryz.func112, Tryz.ntmps112
 go_wp2_with fail
 refine (HP.out _ (HE.out.below HB0.out)).mono ?_
 rintro e w1 ⟨rfl, hb⟩
 have HB1 : Hid (Below w.heap.size w w1) := HB0.out.trans (hb.mono HB0.out.size)
 have HK1 := hide (HB.out.below HB1.out)
 have hrow : w1.heap[w.heap.size]? = some (.cells #[.string p.name, .int .i64 p.key, .int .i64 (max p.epoch ep), .bool p.off] 46 (0, 0)) := by rw [hb.block _ (by simp)]; exact HC0.out
 have hc : w1.cell? ⟨bp, 0, none⟩ = some (.map (some mb)) := HK1.out.cell
 obtain ⟨hp0, hp1, hp2, hp3⟩ := cells_row (p := toP p ep) hrow
 simp only [toP] at hp0 hp1 hp2 hp3
 obtain ⟨w2, hrun, hk2, hg2⟩ := BookAt.store (w := w1.drew) (HK1.out.same rfl rfl) (toP p ep) hs HG.out
 have hrun' : (Instr.mapUpdate 132 (.map (some mb)) (.string p.name) (.agg #[.string p.name, .int .i64 p.key, .int .i64 (max p.epoch ep), .bool p.off])).run Tryz.prog w1.drew = .ok () w2 := hrun
 have HR : Hid (BookAt w2 bp mb (putP L (toP p ep)) ∧ w.grownBy w2 (some mb)) := ⟨hk2, (grown_of_below HB1.out.drew (some mb)).trans hg2⟩
 have hne : some w.heap.size ≠ some mb := by
  have := HB.out.own.lt
  simp; omega
 have hp4 : w2.cell? ⟨w.heap.size, 2, none⟩ = some (.int .i64 (max p.epoch ep)) := by
  have hr2 : w2.heap[w.heap.size]? = _ := (hg2.block w.heap.size (row_lt hrow) hne).trans hrow
  exact cell_of_row _ _ 2 _ _ _ hr2
 clear hb hrow hrun hk2 hg2 hne
 go_wp2
 go_region
 go_wp2
 go_ret2
 exact ⟨rfl, HR.out⟩
theorem small_name {p : Per} (h : p.err = 0) : p.name.size ≤ maxLen := by
 have h1 := (err_zero.1 h).1
 have h2 : p.nm.length ≤ 8 := by
  unfold Sl.nameL Sl.madeL at h1
  simp only [Bool.and_eq_true, decide_eq_true_eq] at h1
  omega
 have h3 : p.name.size = p.nm.length := by unfold Per.nm; simp
 unfold maxLen
 omega
theorem BookAt.fine {w : World} {bp mb : Nat} {L : List Per} (h : BookAt w bp mb L) {name : ByteArray} {p : Per} (hg : getP L name = some p) : p.name = name ∧ p.err = 0 ∧ p.name.size ≤ maxLen ∧ 1 ≤ p.epoch ∧ p.epoch ≤ 1073741824 := by
 obtain ⟨h1, h2⟩ := getP_some hg
 have h3 := h.good.fine p h2
 obtain ⟨_, _, h4⟩ := err_zero.1 h3
 exact ⟨h1, h3, small_name h3, h4.1, h4.2⟩
set_option maxRecDepth 100000 in
set_option maxHeartbeats 2000000 in
theorem praise_any (a : Nat → Addr) (bp mb : Nat) (L : List Per) (name : ByteArray) (w : World) (h : BookAt w bp mb L) (hE : EV perS a w) (hs : name.size ≤ maxLen) :
  Calls Tryz.prog 62 #[.pointer (some ⟨bp, 0, none⟩), .string name] w fun e w' => e = .returned (.tuple #[.int .i64 (raiseP L name).1, errV a (raiseP L name).2.1]) ∧ BookAt w' bp mb (raiseP L name).2.2 ∧ w.grownBy w' (some mb) := by
 have HB := hide h
 have HE := hide hE
 cases hg : getP L name with
 | none =>
  have HG := hide (get_no a bp mb L name w h hE hs hg)
  rw [raise_none hg]
  show Calls _ _ _ _ fun e w' => e = .returned (.tuple #[.int .i64 0, errV a 5]) ∧ _
  rw [errV_pos a (by decide)]
  clear h hE hg
  go_enter Tryz.func62, Tryz.ntmps62
  go_wp2_with fail
  refine HG.out.mono ?_
  rintro e w1 ⟨rfl, hb⟩
  have HB1 := hide hb
  clear hb
  go_wp2
  go_ret2
  have HB2 := HB1.out.trans (((Below.refl w1.heap.size w1).alloc (Nat.le_refl _) (.cells #[.string ByteArray.empty, .int .i64 0, .int .i64 0, .bool false] 46)).mono HB1.out.size)
  exact ⟨rfl, HB.out.below HB2, grown_of_below HB2 _⟩
 | some p =>
  obtain ⟨hn, hf, hps, h1, h2⟩ := h.fine hg
  have HG := hide (get_yes bp mb L name w h hs p hg)
  rw [raise_some h.good.rise hg]
  by_cases he : 1073741824 ≤ p.epoch
  ·
   rw [if_pos he]
   have hup : (upP p).err = 2 := by
    obtain ⟨f1, f2, f3⟩ := err_zero.1 hf
    unfold Per.err upP
    rw [if_pos f1, if_pos f2, if_neg (by show ¬ (1 ≤ p.epoch + 1 ∧ p.epoch + 1 ≤ _); omega)]
   have HRise : Hid (∀ w, BookAt w bp mb L → EV perS a w → Calls Tryz.prog 112 #[.pointer (some ⟨bp, 0, none⟩), .agg #[.string p.name, .int .i64 p.key, .int .i64 p.epoch, .bool p.off], .int .i64 (p.epoch + 1)] w fun e w' => e = .returned (.tuple #[.int .i64 0, errV a 2]) ∧ BookAt w' bp mb L ∧ w.grownBy w' (some mb)) := fun w hb hE => by
    have := rise_err a bp mb L p (p.epoch + 1) w hb hE hps (by rw [to_up, hup]; decide)
    rwa [to_up, hup] at this
   have hw1 : IntKind.i64.wrap (p.epoch + 1) = p.epoch + 1 := by rw [IntKind.wrap_i64]; omega
   show Calls _ _ _ _ fun e w' => e = .returned (.tuple #[.int .i64 0, errV a 2]) ∧ _
   generalize errV a 2 = ev at *
   clear h hE hg hn hf hps he hup
   go_enter Tryz.func62, Tryz.ntmps62
   go_wp2_with fail
   refine HG.out.mono ?_
   rintro e w1 ⟨rfl, hb⟩
   have HB1 : Hid (Below w.heap.size w (w1.alloc (.cells #[.string p.name, .int .i64 p.key, .int .i64 p.epoch, .bool p.off] 46))) := hb.trans (((Below.refl w1.heap.size w1).alloc (Nat.le_refl _) _).mono hb.size)
   clear hb
   go_wp2_with fail
   refine (HRise.out _ (HB.out.below HB1.out) (HE.out.below HB1.out)).mono ?_
   rintro e w2 ⟨rfl, hk, hgr⟩
   have HK := hide hk
   have HR := hide ((grown_of_below HB1.out (some mb)).trans hgr)
   clear hk hgr
   go_wp2
   go_ret2
   exact ⟨rfl, HK.out, HR.out⟩
  ·
   rw [if_neg he]
   have hup : (upP p).err = 0 := by
    obtain ⟨f1, f2, f3⟩ := err_zero.1 hf
    exact err_zero.2 ⟨f1, f2, by show 1 ≤ p.epoch + 1 ∧ p.epoch + 1 ≤ _; omega⟩
   have hgood : Good (putP L (upP p)) := (put_set_good h.good (p' := upP p) (p := p) (by show getP L p.name = _; rw [hn]; exact hg) hup (by show p.epoch ≤ p.epoch + 1; omega) (Or.inl rfl)).1
   have HRise : Hid (∀ w, BookAt w bp mb L → EV perS a w → Calls Tryz.prog 112 #[.pointer (some ⟨bp, 0, none⟩), .agg #[.string p.name, .int .i64 p.key, .int .i64 p.epoch, .bool p.off], .int .i64 (p.epoch + 1)] w fun e w' => e = .returned (.tuple #[.int .i64 (p.epoch + 1), .nilIface]) ∧ BookAt w' bp mb (putP L (upP p)) ∧ w.grownBy w' (some mb)) := fun w hb hE => by
    have := rise_ok a bp mb L p (p.epoch + 1) w hb hE hps (by rw [to_up]; exact hup) (by rw [to_up]; exact hgood)
    rw [to_up] at this
    exact this
   have hw1 : IntKind.i64.wrap (p.epoch + 1) = p.epoch + 1 := by rw [IntKind.wrap_i64]; omega
   show Calls _ _ _ _ fun e w' => e = .returned (.tuple #[.int .i64 (p.epoch + 1), .nilIface]) ∧ BookAt w' bp mb (putP L (upP p)) ∧ _
   clear h hE hg hn hf hps he hup hgood
   go_enter Tryz.func62, Tryz.ntmps62
   go_wp2_with fail
   refine HG.out.mono ?_
   rintro e w1 ⟨rfl, hb⟩
   have HB1 : Hid (Below w.heap.size w (w1.alloc (.cells #[.string p.name, .int .i64 p.key, .int .i64 p.epoch, .bool p.off] 46))) := hb.trans (((Below.refl w1.heap.size w1).alloc (Nat.le_refl _) _).mono hb.size)
   clear hb
   go_wp2_with fail
   refine (HRise.out _ (HB.out.below HB1.out) (HE.out.below HB1.out)).mono ?_
   rintro e w2 ⟨rfl, hk, hgr⟩
   have HK := hide hk
   have HR := hide ((grown_of_below HB1.out (some mb)).trans hgr)
   clear hk hgr
   go_wp2
   go_ret2
   exact ⟨rfl, HK.out, HR.out⟩
set_option maxRecDepth 100000 in
set_option maxHeartbeats 2000000 in
theorem off_any (a : Nat → Addr) (bp mb : Nat) (L : List Per) (name : ByteArray) (off : Bool) (w : World) (h : BookAt w bp mb L) (hE : EV perS a w) (hs : name.size ≤ maxLen) :
  Calls Tryz.prog 84 #[.pointer (some ⟨bp, 0, none⟩), .string name, .bool off] w fun e w' => e = .returned (errV a (offP L name off).1) ∧ BookAt w' bp mb (offP L name off).2 ∧ w.grownBy w' (some mb) := by
 have HB := hide h
 have HE := hide hE
 cases hg : getP L name with
 | none =>
  have HG := hide (get_no a bp mb L name w h hE hs hg)
  rw [off_none off hg]
  show Calls _ _ _ _ fun e w' => e = .returned (errV a 5) ∧ _
  rw [errV_pos a (by decide)]
  clear h hE hg
  go_enter Tryz.func84, Tryz.ntmps84
  go_wp2_with fail
  refine HG.out.mono ?_
  rintro e w1 ⟨rfl, hb⟩
  have HB1 := hide hb
  clear hb
  go_wp2
  go_ret
  have HB2 := HB1.out.trans (((Below.refl w1.heap.size w1).alloc (Nat.le_refl _) (.cells #[.string ByteArray.empty, .int .i64 0, .int .i64 0, .bool false] 46)).mono HB1.out.size)
  exact ⟨rfl, HB.out.below HB2, grown_of_below HB2 _⟩
 | some p =>
  obtain ⟨hn, hf, hps, h1, h2⟩ := h.fine hg
  have HG := hide (get_yes bp mb L name w h hs p hg)
  rw [off_some off h.good.rise hg]
  by_cases he : p.off = off
  ·
   rw [if_pos he]
   have hq : (p.off == off) = true := by simpa using he
   show Calls _ _ _ _ fun e w' => e = .returned (errV a 6) ∧ _
   rw [errV_pos a (by decide)]
   clear h hE hg hn hf hps he
   go_enter Tryz.func84, Tryz.ntmps84
   go_wp2_with fail
   refine HG.out.mono ?_
   rintro e w1 ⟨rfl, hb⟩
   have HB1 : Hid (∀ o, Below w.heap.size w (w1.alloc o)) := fun o => hb.trans (((Below.refl w1.heap.size w1).alloc (Nat.le_refl _) _).mono hb.size)
   have hv : ∀ o, (w1.alloc o).cell? ⟨9, 0, none⟩ = some (eV (a 5)) := fun o => (HE.out.below (HB1.out o)).var 5 (by decide) rfl
   clear hb
   go_wp2
   go_ret
   exact ⟨rfl, HB.out.below (HB1.out _), grown_of_below (HB1.out _) _⟩
  ·
   rw [if_neg he]
   have hq : (p.off == off) = false := by simpa using he
   have hok : ({ p with off := off } : Per).err = 0 := by
    obtain ⟨f1, f2, f3⟩ := err_zero.1 hf
    exact err_zero.2 ⟨f1, f2, f3⟩
   have HGood := hide (put_set_good h.good (p' := { p with off := off }) (p := p) (by show getP L p.name = _; rw [hn]; exact hg) hok (Int.le_refl _) (Or.inl rfl)).1
   show Calls _ _ _ _ fun e w' => e = .returned .nilIface ∧ BookAt w' bp mb (putP L { p with off := off }) ∧ _
   subst hn
   clear h hE hg hf he hok
   go_enter Tryz.func84, Tryz.ntmps84
   go_wp2_with fail
   refine HG.out.mono ?_
   rintro e w1 ⟨rfl, hb⟩
   have HB1 : Hid (∀ o, Below w.heap.size w (w1.alloc o)) := fun o => hb.trans (((Below.refl w1.heap.size w1).alloc (Nat.le_refl _) _).mono hb.size)
   have hc : ∀ o, (w1.alloc o).cell? ⟨bp, 0, none⟩ = some (.map (some mb)) := fun o => (HB.out.below (HB1.out o)).cell
   obtain ⟨w2, hrun, hk2, hg2⟩ := BookAt.store (w := (w1.alloc (.cells #[.string p.name, .int .i64 p.key, .int .i64 p.epoch, .bool off] 46)).drew) ((HB.out.below (HB1.out _)).same rfl rfl) { p with off := off } hps HGood.out
   have hrun' : (Instr.mapUpdate 132 (.map (some mb)) (.string p.name) (.agg #[.string p.name, .int .i64 p.key, .int .i64 p.epoch, .bool off])).run Tryz.prog (w1.alloc (.cells #[.string p.name, .int .i64 p.key, .int .i64 p.epoch, .bool off] 46)).drew = .ok () w2 := hrun
   have HR : Hid (BookAt w2 bp mb (putP L { p with off := off }) ∧ w.grownBy w2 (some mb)) := ⟨hk2, (grown_of_below (HB1.out _).drew (some mb)).trans hg2⟩
   clear hb hrun hk2 hg2
   go_wp2
   go_region
   go_wp2
   go_ret
   exact ⟨rfl, HR.out⟩
set_option maxRecDepth 100000 in
set_option maxHeartbeats 2000000 in
theorem rekey_any (a : Nat → Addr) (bp mb : Nat) (L : List Per) (name : ByteArray) (key : Int) (w : World) (h : BookAt w bp mb L) (hE : EV perS a w) (hs : name.size ≤ maxLen) :
  Calls Tryz.prog 93 #[.pointer (some ⟨bp, 0, none⟩), .string name, .int .i64 key] w fun e w' => e = .returned (errV a (rekeyP L name key).1) ∧ BookAt w' bp mb (rekeyP L name key).2 ∧ w.grownBy w' (some mb) := by
 have HB := hide h
 have HE := hide hE
 cases hg : getP L name with
 | none =>
  have HG := hide (get_no a bp mb L name w h hE hs hg)
  rw [rekey_none key hg]
  show Calls _ _ _ _ fun e w' => e = .returned (errV a 5) ∧ _
  rw [errV_pos a (by decide)]
  clear h hE hg
  go_enter Tryz.func93, Tryz.ntmps93
  go_wp2_with fail
  refine HG.out.mono ?_
  rintro e w1 ⟨rfl, hb⟩
  have HB1 := hide hb
  clear hb
  go_wp2
  go_ret
  have HB2 := HB1.out.trans (((Below.refl w1.heap.size w1).alloc (Nat.le_refl _) (.cells #[.string ByteArray.empty, .int .i64 0, .int .i64 0, .bool false] 46)).mono HB1.out.size)
  exact ⟨rfl, HB.out.below HB2, grown_of_below HB2 _⟩
 | some p =>
  obtain ⟨hn, hf, hps, h1, h2⟩ := h.fine hg
  obtain ⟨f1, f2, f3⟩ := err_zero.1 hf
  have HG := hide (get_yes bp mb L name w h hs p hg)
  by_cases he : p.key = key
  ·
   have hre : rekeyP L name key = (6, L) := by rw [rekey_some key h.good.rise hg, if_pos (by rw [← he]; exact f2), if_pos he]
   rw [hre]
   have hq : (key == p.key) = true := by simpa using he.symm
   show Calls _ _ _ _ fun e w' => e = .returned (errV a 6) ∧ _
   rw [errV_pos a (by decide)]
   clear h hE hg hn hf hps he hre f1 f2 f3
   go_enter Tryz.func93, Tryz.ntmps93
   go_wp2_with fail
   refine HG.out.mono ?_
   rintro e w1 ⟨rfl, hb⟩
   have HB1 : Hid (∀ o, Below w.heap.size w (w1.alloc o)) := fun o => hb.trans (((Below.refl w1.heap.size w1).alloc (Nat.le_refl _) _).mono hb.size)
   have hv : ∀ o, (w1.alloc o).cell? ⟨9, 0, none⟩ = some (eV (a 5)) := fun o => (HE.out.below (HB1.out o)).var 5 (by decide) rfl
   clear hb
   go_wp2
   go_ret
   exact ⟨rfl, HB.out.below (HB1.out _), grown_of_below (HB1.out _) _⟩
  ·
   have hq : (key == p.key) = false := by simpa using fun e => he (Eq.symm e)
   have HRise : Hid (∀ w, BookAt w bp mb L → EV perS a w → Calls Tryz.prog 112 #[.pointer (some ⟨bp, 0, none⟩), .agg #[.string p.name, .int .i64 key, .int .i64 p.epoch, .bool p.off], .int .i64 (p.epoch + 1)] w fun e w' => (∃ n, e = .returned (.tuple #[.int .i64 n, errV a (rekeyP L name key).1])) ∧ BookAt w' bp mb (rekeyP L name key).2 ∧ w.grownBy w' (some mb)) := fun w hb hE => by
    rw [rekey_some key hb.good.rise hg]
    by_cases hk : 1 ≤ key ∧ key ≤ 1000000006
    ·
     rw [if_pos hk, if_neg he]
     by_cases hx : 1073741824 ≤ p.epoch
     ·
      rw [if_pos hx]
      have hup : (upP { p with key := key }).err = 2 := by
       unfold Per.err upP
       rw [if_pos f1, if_pos hk, if_neg (by show ¬ (1 ≤ p.epoch + 1 ∧ p.epoch + 1 ≤ _); omega)]
      have := rise_err a bp mb L { p with key := key } (p.epoch + 1) w hb hE hps (by rw [show toP { p with key := key } (p.epoch + 1) = _ from to_up { p with key := key }, hup]; decide)
      rw [show toP { p with key := key } (p.epoch + 1) = _ from to_up { p with key := key }, hup] at this
      exact this.mono fun e w' ⟨he, hk⟩ => ⟨⟨_, he⟩, hk⟩
     ·
      rw [if_neg hx]
      have hup : (upP { p with key := key }).err = 0 := err_zero.2 ⟨f1, hk, by show 1 ≤ p.epoch + 1 ∧ p.epoch + 1 ≤ _; omega⟩
      have hgood : Good (putP L (upP { p with key := key })) := (put_set_good hb.good (p' := upP { p with key := key }) (p := p) (by show getP L p.name = _; rw [hn]; exact hg) hup (by show p.epoch ≤ p.epoch + 1; omega) (Or.inr (by show p.epoch + 1 ≠ p.epoch; omega))).1
      have := rise_ok a bp mb L { p with key := key } (p.epoch + 1) w hb hE hps (by rw [show toP { p with key := key } (p.epoch + 1) = _ from to_up { p with key := key }]; exact hup) (by rw [show toP { p with key := key } (p.epoch + 1) = _ from to_up { p with key := key }]; exact hgood)
      rw [show toP { p with key := key } (p.epoch + 1) = _ from to_up { p with key := key }] at this
      exact this.mono fun e w' ⟨he, hk⟩ => ⟨⟨_, he⟩, hk⟩
    ·
     rw [if_neg hk]
     have hup : (upP { p with key := key }).err = 10 := by
      unfold Per.err upP
      rw [if_pos f1, if_neg hk]
     have := rise_err a bp mb L { p with key := key } (p.epoch + 1) w hb hE hps (by rw [show toP { p with key := key } (p.epoch + 1) = _ from to_up { p with key := key }, hup]; decide)
     rw [show toP { p with key := key } (p.epoch + 1) = _ from to_up { p with key := key }, hup] at this
     exact this.mono fun e w' ⟨he, hk⟩ => ⟨⟨_, he⟩, hk⟩
   have hw1 : IntKind.i64.wrap (p.epoch + 1) = p.epoch + 1 := by rw [IntKind.wrap_i64]; omega
   generalize errV a (rekeyP L name key).1 = ev at *
   generalize (rekeyP L name key).2 = L' at *
   clear h hE hg hn hf hps he f1 f2 f3
   go_enter Tryz.func93, Tryz.ntmps93
   go_wp2_with fail
   refine HG.out.mono ?_
   rintro e w1 ⟨rfl, hb⟩
   have HB1 : Hid (∀ o, Below w.heap.size w (w1.alloc o)) := fun o => hb.trans (((Below.refl w1.heap.size w1).alloc (Nat.le_refl _) _).mono hb.size)
   clear hb
   go_wp2_with fail
   refine (HRise.out _ (HB.out.below (HB1.out _)) (HE.out.below (HB1.out _))).mono ?_
   rintro e w2 ⟨⟨n, rfl⟩, hk, hgr⟩
   have HK := hide hk
   have HR := hide ((grown_of_below (HB1.out _) (some mb)).trans hgr)
   clear hk hgr
   go_wp2
   go_ret
   exact ⟨rfl, HK.out, HR.out⟩
theorem to_good {L : List Per} (h : Good L) {p : Per} {ep : Int} (hg : getP L p.name = some p) (h0 : (toP p ep).err = 0) : Good (putP L (toP p ep)) :=
 (put_set_good h (p' := toP p ep) (p := p) hg h0 (by show p.epoch ≤ max p.epoch ep; omega) (Or.inl rfl)).1
set_option maxRecDepth 100000 in
set_option maxHeartbeats 2000000 in
theorem raiseTo_err (a : Nat → Addr) (bp mb : Nat) (L : List Per) (name : ByteArray) (p : Per) (ep : Int) (w : World) (h : BookAt w bp mb L) (hE : EV perS a w) (hs : name.size ≤ maxLen) (hg : getP L name = some p) (h0 : (toP p ep).err ≠ 0) :
  Calls Tryz.prog 71 #[.pointer (some ⟨bp, 0, none⟩), .string name, .int .i64 ep] w fun e w' => e = .returned (.tuple #[.int .i64 0, errV a (toP p ep).err]) ∧ BookAt w' bp mb L ∧ w.grownBy w' (some mb) := by
 have HB := hide h
 have HE := hide hE
 obtain ⟨hn, hf, hps, h1, h2⟩ := h.fine hg
 have HG := hide (get_yes bp mb L name w h hs p hg)
 have HRise : Hid (∀ w, BookAt w bp mb L → EV perS a w → Calls Tryz.prog 112 #[.pointer (some ⟨bp, 0, none⟩), .agg #[.string p.name, .int .i64 p.key, .int .i64 p.epoch, .bool p.off], .int .i64 ep] w fun e w' => e = .returned (.tuple #[.int .i64 0, errV a (toP p ep).err]) ∧ BookAt w' bp mb L ∧ w.grownBy w' (some mb)) := fun w hb hE => rise_err a bp mb L p ep w hb hE hps h0
 generalize errV a (toP p ep).err = ev at *
 clear h hE hg hn hf hps h0 h1 h2
 go_enter Tryz.func71, Tryz.ntmps71
 go_wp2_with fail
 refine HG.out.mono ?_
 rintro e w1 ⟨rfl, hb⟩
 have HB1 : Hid (Below w.heap.size w (w1.alloc (.cells #[.string p.name, .int .i64 p.key, .int .i64 p.epoch, .bool p.off] 46))) := hb.trans (((Below.refl w1.heap.size w1).alloc (Nat.le_refl _) _).mono hb.size)
 clear hb
 go_wp2_with fail
 refine (HRise.out _ (HB.out.below HB1.out) (HE.out.below HB1.out)).mono ?_
 rintro e w2 ⟨rfl, hk, hgr⟩
 have HK := hide hk
 have HR := hide ((grown_of_below HB1.out (some mb)).trans hgr)
 clear hk hgr
 go_wp2
 go_ret2
 exact ⟨rfl, HK.out, HR.out⟩
set_option maxRecDepth 100000 in
set_option maxHeartbeats 2000000 in
theorem raiseTo_ok (a : Nat → Addr) (bp mb : Nat) (L : List Per) (name : ByteArray) (p : Per) (ep : Int) (w : World) (h : BookAt w bp mb L) (hE : EV perS a w) (hs : name.size ≤ maxLen) (hg : getP L name = some p) (h0 : (toP p ep).err = 0) :
  Calls Tryz.prog 71 #[.pointer (some ⟨bp, 0, none⟩), .string name, .int .i64 ep] w fun e w' => e = .returned (.tuple #[.int .i64 (toP p ep).epoch, .nilIface]) ∧ BookAt w' bp mb (putP L (toP p ep)) ∧ w.grownBy w' (some mb) := by
 have HB := hide h
 have HE := hide hE
 obtain ⟨hn, hf, hps, h1, h2⟩ := h.fine hg
 have HG := hide (get_yes bp mb L name w h hs p hg)
 have hgood : Good (putP L (toP p ep)) := to_good h.good (by rw [hn]; exact hg) h0
 have HRise : Hid (∀ w, BookAt w bp mb L → EV perS a w → Calls Tryz.prog 112 #[.pointer (some ⟨bp, 0, none⟩), .agg #[.string p.name, .int .i64 p.key, .int .i64 p.epoch, .bool p.off], .int .i64 ep] w fun e w' => e = .returned (.tuple #[.int .i64 (toP p ep).epoch, .nilIface]) ∧ BookAt w' bp mb (putP L (toP p ep)) ∧ w.grownBy w' (some mb)) := fun w hb hE => rise_ok a bp mb L p ep w hb hE hps h0 hgood
 generalize toP p ep = q at *
 clear h hE hg hn hf hps h0 h1 h2 hgood
 go_enter Tryz.func71, Tryz.ntmps71
 go_wp2_with fail
 refine HG.out.mono ?_
 rintro e w1 ⟨rfl, hb⟩
 have HB1 : Hid (Below w.heap.size w (w1.alloc (.cells #[.string p.name, .int .i64 p.key, .int .i64 p.epoch, .bool p.off] 46))) := hb.trans (((Below.refl w1.heap.size w1).alloc (Nat.le_refl _) _).mono hb.size)
 clear hb
 go_wp2_with fail
 refine (HRise.out _ (HB.out.below HB1.out) (HE.out.below HB1.out)).mono ?_
 rintro e w2 ⟨rfl, hk, hgr⟩
 have HK := hide hk
 have HR := hide ((grown_of_below HB1.out (some mb)).trans hgr)
 clear hk hgr
 go_wp2
 go_ret2
 exact ⟨rfl, HK.out, HR.out⟩
end Go.Proofs.YtabpnjchocgakaaGreatDoor

namespace Go.Proofs.YtabpnjchocgakaaGreatDoor
open Go.RowKit Go.Extern.Stop Go.Stop Go.Extern Go.Proofs
abbrev fltV (c : Nat × Int) : Value := .agg #[.int .i64 (c.1 : Int), .int .i64 c.2]
theorem bare_any (c : Nat) (w : World) :
  Calls Tryz.prog 96 #[.int .i64 (c : Int)] w fun e w' => e = .returned (fltV (c, -1)) ∧ Below w.heap.size w w' := by
 unfold fltV
 generalize (c : Int) = z at *
 go_enter Tryz.func96, Tryz.ntmps96
 go_wp2
 refine bodyPost_ret (results_cell_row rfl _ _ w.heap.size _ _ _ _ rfl (heap_alloc_new _ _) Tryz.underlying98 rfl (by kernel_rfl)) rfl ?_
 exact ⟨rfl, (Below.refl _ _).alloc (Nat.le_refl _) _⟩
theorem fine_any (w : World) :
  Calls Tryz.prog 144 #[] w fun e w' => e = .returned (fltV (0, -1)) ∧ Below w.heap.size w w' := by
 go_enter Tryz.func144, Tryz.ntmps144
 go_wp2
 refine bodyPost_ret (results_cell_row rfl _ _ w.heap.size _ _ _ _ rfl (heap_alloc_new _ _) Tryz.underlying98 rfl (by kernel_rfl)) rfl ?_
 exact ⟨rfl, (Below.refl _ _).alloc (Nat.le_refl _) _⟩
set_option maxRecDepth 100000 in
set_option maxHeartbeats 1000000 in
theorem refOne_any (f : Fl) (w : World) (hs : f.who.size ≤ maxLen) :
  Calls Tryz.prog 181 #[f.val] w fun e w' => e = .returned (.int .i64 (oneE f : Int)) ∧ Below w.heap.size w w' := by
 obtain ⟨who, ep⟩ := f
 have HB : Hid (Below w.heap.size w (w.alloc (.cells #[.string who, .int .i64 ep] 112))) := (Below.refl _ _).alloc (Nat.le_refl _) _
 have HN := hide (fun w => refName_any who w hs)
 have hq := star_who ⟨who, ep⟩
 have H1 : Hid (oneE ⟨who, ep⟩ = if (Fl.mk who ep).nm = star ∨ Sl.nameL (Fl.mk who ep).nm = true then (if 1 ≤ ep ∧ ep ≤ 1073741824 then 0 else 2) else 4) := rfl
 have HR : Hid (∀ c, oneE ⟨who, ep⟩ = c → Calls Tryz.prog 181 #[.agg #[.string who, .int .i64 ep]] w (fun e w' => e = .returned (.int .i64 (c : Int)) ∧ Below w.heap.size w w') → Calls Tryz.prog 181 #[.agg #[.string who, .int .i64 ep]] w (fun e w' => e = .returned (.int .i64 (oneE ⟨who, ep⟩ : Int)) ∧ Below w.heap.size w w')) := fun c hc h => by rw [hc]; exact h
 show Calls Tryz.prog 181 #[.agg #[.string who, .int .i64 ep]] w _
 have hep : (1 ≤ ep ∧ ep ≤ 1073741824) ∨ ep < 1 ∨ (1 ≤ ep ∧ 1073741824 < ep) := by omega
 change (who.toList == [42]) = _ at hq
 by_cases hst : (Fl.mk who ep).nm = star
 ·
  rw [decide_eq_true hst] at hq
  have HH := hide (fun c (h : (if 1 ≤ ep ∧ ep ≤ 1073741824 then 0 else 2) = c) => HR.out c (by rw [H1.out, if_pos (Or.inl hst)]; exact h))
  generalize Sl.nameL who.data.toList = nb at *
  rcases hep with ⟨g, g2⟩ | g | ⟨g, g2⟩
  ·
   refine HH.out 0 (if_pos ⟨g, g2⟩) ?_
   clear HH HR H1 hst
   go_enter Tryz.func181, Tryz.ntmps181
   go_wp2_with fail
   refine (HN.out _).mono ?_
   rintro e w1 ⟨rfl, rfl⟩
   go_wp2
   go_ret
   exact ⟨rfl, HB.out⟩
  all_goals
   refine HH.out 2 (if_neg (by omega)) ?_
   clear HH HR H1 hst
   go_enter Tryz.func181, Tryz.ntmps181
   go_wp2_with fail
   refine (HN.out _).mono ?_
   rintro e w1 ⟨rfl, rfl⟩
   go_wp2
   go_ret
   exact ⟨rfl, HB.out⟩
 ·
  rw [decide_eq_false hst] at hq
  have hnm : (Fl.mk who ep).nm = who.data.toList := rfl
  cases hn : Sl.nameL who.data.toList with
  | false =>
   refine HR.out 4 (by rw [H1.out, if_neg]; rw [hnm, hn]; rintro (e | e); exact hst e; cases e) ?_
   rw [hn] at HN
   clear HR H1 hst hn hnm
   go_enter Tryz.func181, Tryz.ntmps181
   go_wp2_with fail
   refine (HN.out _).mono ?_
   rintro e w1 ⟨rfl, rfl⟩
   go_wp2
   go_ret
   exact ⟨rfl, HB.out⟩
  | true =>
   rw [hn] at HN
   have HH := hide (fun c (h : (if 1 ≤ ep ∧ ep ≤ 1073741824 then 0 else 2) = c) => HR.out c (by rw [H1.out, if_pos (Or.inr (by rw [hnm]; exact hn))]; exact h))
   rcases hep with ⟨g, g2⟩ | g | ⟨g, g2⟩
   ·
    refine HH.out 0 (if_pos ⟨g, g2⟩) ?_
    clear HH HR H1 hst hn hnm
    go_enter Tryz.func181, Tryz.ntmps181
    go_wp2_with fail
    refine (HN.out _).mono ?_
    rintro e w1 ⟨rfl, rfl⟩
    go_wp2
    go_ret
    exact ⟨rfl, HB.out⟩
   all_goals
    refine HH.out 2 (if_neg (by omega)) ?_
    clear HH HR H1 hst hn hnm
    go_enter Tryz.func181, Tryz.ntmps181
    go_wp2_with fail
    refine (HN.out _).mono ?_
    rintro e w1 ⟨rfl, rfl⟩
    go_wp2
    go_ret
    exact ⟨rfl, HB.out⟩
set_option maxRecDepth 100000 in
set_option maxHeartbeats 1000000 in
theorem refTop_any (v : Value) (l : List Fl) (w : World) (h : FlAt w v l) (hl : l.length ≤ 1000000) :
  Calls Tryz.prog 184 #[v] w fun e w' => e = .returned (.int .i64 (topL l)) ∧ w' = w := by
 match l with
 | [] =>
  obtain ⟨ad, cap, rfl, hc⟩ := h.form
  show Calls Tryz.prog 184 #[.slice ad 0 cap] w _
  go_enter Tryz.func184, Tryz.ntmps184
  go_wp2
  go_ret
  exact ⟨rfl, rfl⟩
 | f :: l =>
  obtain ⟨b, off, cap, rfl, hc, hb, hcell⟩ := h.at (by simp)
  obtain ⟨c0, c1⟩ := hcell 0 (by simp)
  simp only [List.getElem_cons_zero, Nat.zero_mul, Nat.add_zero] at c0 c1
  have hq := star_who f
  rw [topL_cons]
  have hn : ∃ n, (f :: l).length = n + 1 := ⟨l.length, rfl⟩
  clear hcell h
  obtain ⟨n, hn⟩ := hn
  rw [hn] at hc hl ⊢
  by_cases hs : f.nm = star
  ·
   rw [if_pos hs]
   rw [decide_eq_true hs] at hq
   clear hs hn
   generalize f.who = who at *
   generalize f.ep = ep at *
   go_enter Tryz.func184, Tryz.ntmps184
   go_wp2
   go_ret
   exact ⟨rfl, rfl⟩
  ·
   rw [if_neg hs]
   rw [decide_eq_false hs] at hq
   clear hs hn
   generalize f.who = who at *
   generalize f.ep = ep at *
   go_enter Tryz.func184, Tryz.ntmps184
   go_wp2
   go_ret
   exact ⟨rfl, rfl⟩
def ofStep (name : List UInt8) (n : Int) (f : Fl) : Int := if f.nm = name ∧ n < f.ep then f.ep else n
theorem ofFold_skip (name : List UInt8) : ∀ (l : List Fl) (n : Int), (∀ f ∈ l, f.nm ≠ name) → l.foldl (ofStep name) n = n
 | [], _, _ => rfl
 | f :: l, n, h => by
  rw [List.foldl_cons, show ofStep name n f = n from if_neg (fun e => h f (by simp) e.1)]
  exact ofFold_skip name l n (fun g hg => h g (by simp [hg]))
theorem ofFold_right {l : List Fl} (h : RightF l) (name : List UInt8) : l.foldl (ofStep name) (topL l) = ofL l name := by
 rcases of_cases l name with ⟨f, hf, hn, he⟩ | ⟨hn, he⟩
 ·
  obtain ⟨a, b, rfl⟩ := List.append_of_mem hf
  have hr := h.rising
  have hd : ∀ g ∈ a ++ f :: b, g.nm = name → g = f := fun g hg e => hr.inj hg hf (by rw [e, hn])
  have ha : ∀ g ∈ a, g.nm ≠ name := fun g hg e => by
   have e2 := hd g (by simp [hg]) e
   subst e2
   have := (List.pairwise_append.1 hr).2.2 g hg g (by simp)
   exact List.lt_irrefl _ this
  have hb : ∀ g ∈ b, g.nm ≠ name := fun g hg e => by
   have e2 := hd g (by simp [hg]) e
   subst e2
   have := (List.pairwise_cons.1 (List.pairwise_append.1 hr).2.1).1 g hg
   exact List.lt_irrefl _ this
  rw [he, List.foldl_append, ofFold_skip name a _ ha, List.foldl_cons, ofFold_skip name b _ hb]
  have := h.top_le hf
  unfold ofStep
  split
  ·
   rfl
  ·
   rename_i g
   have g2 : ¬ topL (a ++ f :: b) < f.ep := fun e => g ⟨hn, e⟩
   omega
 ·
  rw [he, ofFold_skip name l _ hn]
set_option maxRecDepth 100000 in
set_option maxHeartbeats 2000000 in
theorem refFloorOf_any (v : Value) (l : List Fl) (name : ByteArray) (w : World) (hv : FlAt w v l) (hr : RightF l) (hl : l.length ≤ 1000000) :
  Calls Tryz.prog 182 #[v, .string name] w fun e w' => e = .returned (.int .i64 (ofL l name.data.toList)) ∧ w' = w := by
 have HT := hide (refTop_any v l w hv hl)
 have HR := hide (ofFold_right hr name.data.toList)
 have HV := hide hv
 obtain ⟨ad, cap, rfl, hc⟩ := hv.form
 generalize hn : l.length = n at *
 have HN := hide hn
 generalize ofL l name.data.toList = res at *
 clear hv hn hr
 go_enter Tryz.func182, Tryz.ntmps182
 go_wp2_with fail
 refine HT.out.mono ?_
 rintro e w1 ⟨rfl, rfl⟩
 go_wp2
 go_loop [5, 6] (fun nv i => ∃ (k : Nat) (m : Int), k ≤ n ∧ i = .int .i64 k ∧ nv = .int .i64 m ∧ Hid ((l.take k).foldl (ofStep name.data.toList) (topL l) = m)) (fun _ i => n - (intOf i).toNat)
 case atStart => exact ⟨0, topL l, Nat.zero_le _, rfl, rfl, (show Hid _ from rfl)⟩
 case round =>
  obtain ⟨k, m, hk, rfl, rfl, HM⟩ := hrel
  by_cases hlt : k < n
  ·
   have hkl : k < l.length := by rw [HN.out]; exact hlt
   have hvr := HV.out
   rw [← HN.out] at hvr
   obtain ⟨b, off, cap', e, hc', hb, hcell⟩ := hvr.at (by omega)
   injection e with e1 e2 e3
   subst e1; subst e3
   obtain ⟨c0, c1⟩ := hcell k hkl
   have hltz : (k : Int) < (n : Int) := by omega
   have HM2 : Hid ((l.take (k + 1)).foldl (ofStep name.data.toList) (topL l) = ofStep name.data.toList m (l[k]'hkl)) := by
    show _ = _
    rw [List.take_succ_eq_append_getElem hkl, List.foldl_append, HM.out]
    rfl
   have hq := same_names (l[k]'hkl).who name
   have HQ : Hid (ofStep name.data.toList m (l[k]'hkl) = if (l[k]'hkl).who.data.toList = name.data.toList ∧ m < (l[k]'hkl).ep then (l[k]'hkl).ep else m) := rfl
   clear hcell hvr
   generalize ofStep name.data.toList m (l[k]'hkl) = m2 at *
   generalize (l[k]'hkl).who = who at *
   generalize (l[k]'hkl).ep = ep at *
   by_cases h1 : who.data.toList = name.data.toList
   ·
    rw [decide_eq_true h1] at hq
    by_cases h2 : m < ep
    ·
     have HQ2 : Hid (m2 = ep) := by show _ = _; rw [HQ.out, if_pos ⟨h1, h2⟩]
     clear h1 HQ
     go_wp2
     go_round
     case rel => exact ⟨k + 1, ep, by omega, by go_num, rfl, (show Hid _ from by show _ = _; rw [HM2.out, HQ2.out])⟩
     case measure => simp [intOf]; omega
    ·
     have HQ2 : Hid (m2 = m) := by show _ = _; rw [HQ.out, if_neg (fun e => h2 e.2)]
     clear h1 HQ
     go_wp2
     go_round
     case rel => exact ⟨k + 1, m, by omega, by go_num, rfl, (show Hid _ from by show _ = _; rw [HM2.out, HQ2.out])⟩
     case measure => simp [intOf]; omega
   ·
    rw [decide_eq_false h1] at hq
    have HQ2 : Hid (m2 = m) := by show _ = _; rw [HQ.out, if_neg (fun e => h1 e.1)]
    clear h1 HQ
    go_wp2
    go_round
    case rel => exact ⟨k + 1, m, by omega, by go_num, rfl, (show Hid _ from by show _ = _; rw [HM2.out, HQ2.out])⟩
    case measure => simp [intOf]; omega
  ·
   obtain rfl : k = n := by omega
   have hltz : ¬ (k : Int) < (k : Int) := by omega
   have hm : m = res := by
    rw [← HM.out, List.take_of_length_le (by rw [HN.out]; exact Nat.le_refl _)]
    exact HR.out
   subst hm
   go_wp2
   go_ret
   exact ⟨rfl, rfl⟩
theorem below_growF (w : World) (k : Nat) (os : Array Obj) : Below w.heap.size w (Sort.grow (w.drewN k) os) := by
 refine ⟨rfl, rfl, rfl, ?_, fun j hj => ?_⟩
 ·
  show w.heap.size ≤ (w.heap ++ os).size
  rw [Array.size_append]; omega
 ·
  exact Sort.heap_grow_old (w.drewN k) os hj
abbrev Tab10 (w : World) : Prop := Lib.TabIs Tryz.prog w "internal/strconv.uint64pow10" .u64 Lib.pow10Tab
theorem itoa_fl (n : Int) (w : World) (h : Tab10 w) (h0 : 0 ≤ n) (h1 : n ≤ 1073741824) :
  Calls Tryz.prog 51 #[.int .i64 n] w fun e w' => e = .returned (.string (txt (Lib.decDigits n.toNat))) ∧ Below w.heap.size w w' := by
 have hit : (⟨(Lib.itoa n).toArray⟩ : ByteArray) = txt (Lib.decDigits n.toNat) := by
  have e : n = (n.toNat : Int) := by omega
  rw [e, Lib.itoa_nonneg]
  rfl
 refine (Tryz.strconv_Itoa n (by omega) (by omega) w h).mono ?_
 rintro e w' ⟨rfl, k, os, rfl⟩
 exact ⟨by rw [hit], below_growF w k os⟩
theorem Tryz.pow10F : Tryz.prog.globalNamed "internal/strconv.uint64pow10" = some 18 := by kernel_rfl
theorem tab_below {w w' : World} (h : Tab10 w) (hb : Below w.heap.size w w') : Tab10 w' :=
 var?_below hb Tryz.pow10F (cell_lt (h.cell Tryz.pow10F 0 (by decide))) h
theorem Tryz.infoStringF : (Tryz.prog.info? 9).map (fun i => (i.zero, i.size, i.bytes)) = some (some (.string ByteArray.empty), 1, 16) := by kernel_rfl
def PartsAt (w : World) (pb n : Nat) (l : List Fl) (k : Nat) : Prop := ∃ cur : Array Value, w.heap[pb]? = some (.cells cur 9 (0, 0)) ∧ cur.size = n ∧ ∀ j (hj : j < l.length), j < k → cur[j]? = some (.string (txt (oneT l[j])))
theorem PartsAt.keep {w w' : World} {pb n : Nat} {l : List Fl} {k : Nat} (h : PartsAt w pb n l k) (hb : w'.heap[pb]? = w.heap[pb]?) : PartsAt w' pb n l k := by
 obtain ⟨cur, h1, h2⟩ := h
 exact ⟨cur, by rw [hb]; exact h1, h2⟩
theorem PartsAt.lt {w : World} {pb n : Nat} {l : List Fl} {k : Nat} (h : PartsAt w pb n l k) : pb < w.heap.size := by
 obtain ⟨cur, h1, _⟩ := h
 exact row_lt h1
theorem PartsAt.spot {w : World} {pb n : Nat} {l : List Fl} {k : Nat} (h : PartsAt w pb n l k) (i : Nat) (hi : i < n) : (∃ v, w.cell? ⟨pb, i, none⟩ = some v) ∧ w.frozen? ⟨pb, i, none⟩ = false := by
 obtain ⟨cur, h1, h2, _⟩ := h
 rw [cell_of_row w pb i cur _ _ h1]
 exact ⟨⟨cur[i]'(by omega), Array.getElem?_eq_getElem _⟩, frozen_of_row w pb i cur _ h1⟩
theorem PartsAt.set {w : World} {pb n : Nat} {l : List Fl} {k : Nat} (h : PartsAt w pb n l k) (hk : k < l.length) (hn : l.length = n) : PartsAt (w.setCell ⟨pb, k, none⟩ (.string (txt (oneT l[k])))) pb n l (k + 1) := by
 obtain ⟨cur, h1, h2, h3⟩ := h
 refine ⟨cur.setIfInBounds k (.string (txt (oneT l[k]))), heap_setCell_same w pb k cur _ _ h1, by simpa using h2, fun j hj hjk => ?_⟩
 by_cases e : j = k
 ·
  subst e
  rw [Array.getElem?_setIfInBounds_self_of_lt (by omega)]
 ·
  rw [Array.getElem?_setIfInBounds_ne (Ne.symm e)]
  exact h3 j hj (by omega)
theorem PartsAt.texts {w : World} {pb n : Nat} {l : List Fl} (h : PartsAt w pb n l n) (hn : l.length = n) : ∀ (j : Nat) x, (l.map fun f => txt (oneT f))[j]? = some x → w.cell? ⟨pb, 0 + j, none⟩ = some (.string x) := fun j x hj => by
 obtain ⟨cur, h1, h2, h3⟩ := h
 rw [Nat.zero_add, cell_of_row w pb j cur _ _ h1]
 rw [List.getElem?_map] at hj
 cases hl : l[j]? with
 | none => rw [hl] at hj; cases hj
 | some f =>
  obtain ⟨hjl, hf⟩ := List.getElem?_eq_some_iff.1 hl
  rw [hl] at hj
  rw [h3 j hjl (by omega), hf]
  exact congrArg (fun x => some (Value.string x)) (Option.some.inj hj)
theorem PartsAt.made {w w' : World} {n : Nat} {l : List Fl} (h : w'.ownsRow w.heap.size 9 1 (.slice (some ⟨w.heap.size, 0, none⟩) n n) n (madeCells (Value.string ByteArray.empty).cells (n * 1)).toList) : PartsAt w' w.heap.size n l 0 := by
 rcases h.2 with ⟨e, _⟩ | ⟨g, cap, cur, e, _, hg, _, _, hs, _⟩
 ·
  cases e
 ·
  injection e with e1 e2 e3
  injection e1 with e1
  injection e1 with e1
  subst e1; subst e3
  exact ⟨cur, hg, by omega, fun j _ hj => absurd hj (Nat.not_lt_zero _)⟩
def TextPost (a : Nat → Addr) (c : Nat × Int) (t : List UInt8) (e : Ending) (w' : World) : Prop := (c.1 = 0 ∧ e = .returned (.tuple #[.string (txt t), .nilIface])) ∨ (c.1 ≠ 0 ∧ ∃ t p, e = .returned (.tuple #[.string ByteArray.empty, .iface t p]) ∧ FlErr a w' c (.iface t p))
set_option maxRecDepth 100000 in
set_option maxHeartbeats 4000000 in
theorem text_any (a : Nat → Addr) (v : Value) (l : List Fl) (w : World) (h : EV flS a w) (ht : Tab10 w) (hv : FlAt w v l) (hs : ∀ f ∈ l, f.who.size ≤ maxLen) (hl : l.length ≤ 1000000) :
  Calls Tryz.prog 180 #[v] w fun e w' => TextPost a (checkL l) (textL l) e w' ∧ Below w.heap.size w w' := by
 have HC := hide (check_any a v l w h hv hs hl)
 have HV := hide hv
 have HT := hide ht
 by_cases h0 : (checkL l).1 = 0
 ·
  obtain ⟨hright, h21⟩ := right_of_check h0
  have H0 := hide h0
  match l with
  | [] =>
   obtain ⟨ad, cap, rfl, hcap⟩ := hv.form
   show Calls Tryz.prog 180 #[.slice ad 0 cap] w _
   replace HC : Hid (Calls Tryz.prog 107 #[.slice ad 0 cap] w fun e w' => ∃ ev, e = .returned ev ∧ FlErr a w' (checkL []) ev ∧ Below w.heap.size w w') := HC.out
   clear h ht hv hs hright h21 h0 HV HT
   generalize checkL [] = c at *
   go_enter Tryz.func180, Tryz.ntmps180
   go_wp2_with fail
   refine HC.out.mono ?_
   rintro e w1 ⟨ev, rfl, he, hb⟩
   obtain rfl := he.none H0.out
   clear he
   go_wp2
   go_ret2
   exact ⟨Or.inl ⟨H0.out, rfl⟩, hb⟩
  | f0 :: l0 =>
   generalize hll : f0 :: l0 = l at *
   have HNe : Hid (l ≠ []) := by rw [← hll]; exact List.cons_ne_nil _ _
   have hpos : 0 < l.length := by rw [← hll]; simp
   clear hll
   obtain ⟨i0, hi, hz0, hz1, hz2⟩ := info_parts Tryz.infoStringF
   obtain ⟨ad, cap, rfl, hcap⟩ := hv.form
   have HR := hide hright
   have HJ : Hid (∀ pb W, PartsAt W pb l.length l l.length → Calls Tryz.prog 179 #[.slice (some ⟨pb, 0, none⟩) l.length l.length, .string ⟨#[44]⟩] W fun e w' => e = .returned (.string (txt (textL l))) ∧ Below W.heap.size W w') := fun pb W hp => by
    have hlen : (l.map fun f => txt (oneT f)).length = l.length := by simp
    have hmap : ((l.map fun f => txt (oneT f)).map (·.data.toList)) = l.map oneT := by
     rw [List.map_map]
     exact List.map_congr_left (fun f _ => rfl)
    have hjl : (Lib.join (l.map oneT) [44]).length ≤ 140737488355328 := by
     have := join_len 44 30 (l.map oneT) (fun x hx => by
      obtain ⟨f, hf, rfl⟩ := List.mem_map.1 hx
      exact one_len (hright.one f hf))
     rw [List.length_map] at this
     omega
    have := Tryz.strings_Join pb 0 l.length (l.map fun f => txt (oneT f)) ⟨#[44]⟩ W (hp.texts rfl) hp.lt (by rw [hlen]; omega) (by rw [hlen]; exact Nat.le_refl _) (by rw [hmap]; exact hjl)
    rw [hlen, hmap] at this
    have htx : txt (textL l) = txt (Lib.join (l.map oneT) [44]) := by unfold textL; rw [if_neg HNe.out]
    rw [htx]
    exact this
   clear h hv hright ht h0
   generalize hc : checkL l = c at *
   generalize htx : textL l = tx at *
   generalize hn : l.length = n at *
   have HN := hide hn
   have hn0 : ¬ (n : Int) = 0 := by omega
   clear hn hc htx
   go_enter Tryz.func180, Tryz.ntmps180
   go_wp2_with fail
   refine HC.out.mono ?_
   rintro e w1 ⟨ev, rfl, he, hb⟩
   obtain rfl := he.none H0.out
   have HB1 := hide hb
   clear he hb HC
   go_wp2_with (at_make; refine wpList_make_full _ rfl _ _ 106 rfl w1.heap.size 9 i0 _ 1 Tryz.underlying106 hi hz0 hz1 .i64 .i64 _ _ n rfl rfl rfl rfl (by rw [hz2]; omega) (by unfold maxLen; omega) (Nat.le_refl _) ?_; intro w2 hown hgrow; have HP2 : Hid (PartsAt w2 w1.heap.size n l 0) := PartsAt.made hown; have HB2 : Hid (Below w.heap.size w w2) := HB1.out.grown hgrow HB1.out.size (fun k hk => by cases hk); clear hown hgrow)
   go_loopg [6, 7, 21] n (fun gg _ _ s21 wr => ∃ k : Nat, k ≤ n ∧ n - k ≤ gg ∧ s21 = .int .i64 k ∧ Hid (Below w.heap.size w wr) ∧ Hid (PartsAt wr w1.heap.size n l k))
   case atStart => exact ⟨0, Nat.zero_le _, by omega, rfl, HB2, HP2⟩
   case round =>
    clear HB2 HP2
    obtain ⟨k, hk, hgg, rfl, HB, HP⟩ := hrel
    by_cases hlt : k < n
    ·
     have hltz : (k : Int) < (n : Int) := by omega
     have hkl : k < l.length := by rw [HN.out]; exact hlt
     have hvr := HV.out.below HB.out
     rw [← HN.out] at hvr
     obtain ⟨b, off, cap', e, hc', hb, hcell⟩ := hvr.at (by omega)
     injection e with e1 e2 e3
     subst e1; subst e3
     obtain ⟨c0, c1⟩ := hcell k hkl
     have hone := HR.out.one l[k] (List.getElem_mem _)
     have hpos2 := one_pos hone
     have hws : l[k].who.size ≤ 8 := by have := nm_len hone; unfold Fl.nm at this; rw [size_list] at this; exact this
     have hds : (txt (Lib.decDigits l[k].ep.toNat)).size ≤ 30 := by
      rw [txt_size]
      have := one_len hone
      unfold oneT at this
      rw [List.length_append, List.length_cons] at this
      omega
     have HIt := hide (fun W h => itoa_fl l[k].ep W h (by omega) hpos2.2)
     have HTx : Hid (l[k].who ++ ⟨#[58]⟩ ++ txt (Lib.decDigits l[k].ep.toNat) = txt (oneT l[k])) := by
      refine Go.WideShapes.bytes_inj ?_
      rw [ba_toList, ba_toList]
      show _ = oneT l[k]
      unfold oneT Fl.nm
      rw [List.append_assoc]
      rfl
     have HSt := hide (fun (W : World) (hp : PartsAt W w1.heap.size n l k) => hp.set hkl HN.out)
     rw [← HTx.out] at HSt
     have HBa : Hid (Below w.heap.size w (wr.alloc (.cells #[.string l[k].who, .int .i64 l[k].ep] 112))) := HB.out.alloc HB.out.size _
     have HRa : Hid ((wr.alloc (.cells #[.string l[k].who, .int .i64 l[k].ep] 112)).heap[wr.heap.size]? = some (.cells #[.string l[k].who, .int .i64 l[k].ep] 112 (0, 0))) := heap_alloc_new _ _
     have HPa : Hid (PartsAt (wr.alloc (.cells #[.string l[k].who, .int .i64 l[k].ep] 112)) w1.heap.size n l k) := HP.out.keep (Below.heap_alloc _ _ _ HP.out.lt)
     have HBe : Hid (w.heap.size ≤ w1.heap.size) := HB1.out.size
     clear hcell hvr hone hpos2 HTx HP
     generalize txt (Lib.decDigits l[k].ep.toNat) = ds at *
     generalize l[k].who = who at *
     generalize l[k].ep = ep at *
     go_wp2_with fail
     generalize hW0 : wr.alloc (.cells #[.string who, .int .i64 ep] 112) = W0 at *
     have hd0 : W0.cell? ⟨wr.heap.size, 0, none⟩ = some (.string who) := cell_of_row W0 _ 0 _ _ _ HRa.out
     have hd1 : W0.cell? ⟨wr.heap.size, 1, none⟩ = some (.int .i64 ep) := cell_of_row W0 _ 1 _ _ _ HRa.out
     have HIt2 := hide (HIt.out W0.drew (tab_below (tab_below HT.out HBa.out) ((Below.refl _ _).drew)))
     have hne : w1.heap.size ≠ wr.heap.size := by have := HPa.out; have h2 := HRa.out; intro e; obtain ⟨cur, q1, _⟩ := this; rw [e, h2] at q1; injection q1 with q1; injection q1 with _ q1; exact absurd q1 (by decide)
     have ha1 : ∀ w : World, (Op.stringOp .add who { data := #[58] }).run Tryz.prog w = .ok (.string (who ++ { data := #[58] })) w := fun w => run_string_add_sum w _ _ (by show who.size + 1 ≤ _; omega)
     have ha2 : ∀ w : World, (Op.stringOp .add (who ++ { data := #[58] }) ds).run Tryz.prog w = .ok (.string (who ++ { data := #[58] } ++ ds)) w := fun w => run_string_add_sum w _ _ (by rw [ByteArray.size_append]; show who.size + 1 + ds.size ≤ _; omega)
     clear hW0 HIt c0 c1
     go_region_held3 (fun w' => w'.cell? ⟨wr.heap.size, 0, none⟩ = some (.string who) ∧ w'.cell? ⟨wr.heap.size, 1, none⟩ = some (.int .i64 ep)) (go_keep)
      (first
       | (go_at_call 51; refine HIt2.out.mono ?_; rintro e w3 ⟨rfl, hb3⟩; have HB3 : Hid (Below W0.heap.size W0 w3) := ((Below.refl _ W0).drew).trans hb3; have HP3 : Hid (PartsAt w3 w1.heap.size n l k) := HPa.out.keep (HB3.out.block _ HPa.out.lt); have hr3 : w3.heap[wr.heap.size]? = some (.cells #[.string who, .int .i64 ep] 112 (0, 0)) := (HB3.out.block _ (row_lt HRa.out)).trans HRa.out; have e0 : w3.cell? ⟨wr.heap.size, 0, none⟩ = some (.string who) := cell_of_row w3 _ 0 _ _ _ hr3; have e1 : w3.cell? ⟨wr.heap.size, 1, none⟩ = some (.int .i64 ep) := cell_of_row w3 _ 1 _ _ _ hr3; obtain ⟨⟨ov, hov⟩, hfz⟩ := HP3.out.spot k hlt; clear hb3 hr3 HIt2))
     have HB4 : Hid (Below w.heap.size w (w3.setCell ⟨w1.heap.size, k, none⟩ (.string (who ++ ⟨#[58]⟩ ++ ds)))) := (HBa.out.trans (HB3.out.mono HBa.out.size)).setCell (p := ⟨w1.heap.size, k, none⟩) HBe.out _
     have HP4 := hide (HSt.out w3 HP3.out)
     clear hov hfz e0 e1 HP3 HSt ha1 ha2
     generalize w3.setCell ⟨w1.heap.size, k, none⟩ (.string (who ++ ⟨#[58]⟩ ++ ds)) = w4 at *
     go_wp2
     go_roundg (n - (k + 1))
     case measure => omega
     case rel => exact ⟨k + 1, by omega, by omega, by go_num, HB4, HP4⟩
    ·
     obtain rfl : k = n := by omega
     have hltz : ¬ (k : Int) < (k : Int) := by omega
     go_wp2_with fail
     refine (HJ.out _ _ HP.out).mono ?_
     rintro e w5 ⟨rfl, hb5⟩
     have HB5 : Hid (Below w.heap.size w w5) := HB.out.trans (hb5.mono HB.out.size)
     clear hb5
     go_wp2
     go_ret2
     exact ⟨Or.inl ⟨H0.out, rfl⟩, HB5.out⟩
 ·
  have H0 := hide h0
  clear h ht hv hs h0 HV HT
  generalize checkL l = c at *
  generalize textL l = tx at *
  go_enter Tryz.func180, Tryz.ntmps180
  go_wp2_with fail
  refine HC.out.mono ?_
  rintro e w1 ⟨ev, rfl, he, hb⟩
  have HEr := hide he
  rcases he.cases with ⟨e0, _⟩ | ⟨_, tt, pp, rfl⟩
  ·
   exact absurd e0 H0.out
  ·
   clear he
   go_wp2
   go_ret2
   exact ⟨Or.inr ⟨H0.out, _, _, rfl, HEr.out⟩, hb⟩
theorem set2_row {w : World} {b : Nat} {x y : Value} {t : TypeId} (h : w.heap[b]? = some (.cells #[x, y] t (0, 0))) (u v : Value) : ((w.setCell ⟨b, 0, none⟩ u).setCell ⟨b, 0 + 1, none⟩ v).heap[b]? = some (.cells #[u, v] t (0, 0)) :=
 heap_setCell_same _ b 1 _ _ _ (heap_setCell_same w b 0 _ _ _ h)
theorem faulted2_same (ev : Value) (c at0 : Int) (w : World)
  (hc : ∀ w', Below w.heap.size w w' → Calls Tryz.prog 68 #[ev] w' fun e w'' => e = .returned (.tuple #[.int .i64 c, .int .i64 at0]) ∧ Below w'.heap.size w' w'') :
  Calls Tryz.prog 48 #[ev, .agg #[.int .i64 c, .int .i64 at0]] w fun e w' => e = .returned (.bool true) ∧ Below w.heap.size w w' := by
 have HB0 : Hid (Below w.heap.size w (w.alloc (.cells #[.int .i64 c, .int .i64 at0] 98))) := (Below.refl _ _).alloc (Nat.le_refl _) _
 have HC := hide (hc _ HB0.out)
 have hq1 : (c == c) = true := by simp
 have hq2 : (at0 == at0) = true := by simp
 clear hc
 by_cases h0 : c = 0
 ·
  have hq : (c == 0) = true := by simpa using h0
  clear h0
  go_enter Tryz.func48, Tryz.ntmps48
  go_wp2_with fail
  refine HC.out.mono ?_
  rintro e w1 ⟨rfl, hb⟩
  have h1 : w1.cell? ⟨w.heap.size, 0, none⟩ = some (.int .i64 c) := by rw [hb.cell (p := ⟨w.heap.size, 0, none⟩) (by simp)]; simp
  have HB1 : Hid (Below w.heap.size w w1) := HB0.out.trans (hb.mono HB0.out.size)
  clear hb HC
  go_wp2
  go_ret
  exact ⟨rfl, HB1.out⟩
 ·
  have hq : (c == 0) = false := by simpa using h0
  clear h0
  go_enter Tryz.func48, Tryz.ntmps48
  go_wp2_with fail
  refine HC.out.mono ?_
  rintro e w1 ⟨rfl, hb⟩
  have h1 : w1.cell? ⟨w.heap.size, 0, none⟩ = some (.int .i64 c) := by rw [hb.cell (p := ⟨w.heap.size, 0, none⟩) (by simp)]; simp
  have h2 : w1.cell? ⟨w.heap.size, 1, none⟩ = some (.int .i64 at0) := by rw [hb.cell (p := ⟨w.heap.size, 1, none⟩) (by simp)]; simp
  have HB1 : Hid (Below w.heap.size w w1) := HB0.out.trans (hb.mono HB0.out.size)
  clear hb HC
  go_wp2
  go_ret
  exact ⟨rfl, HB1.out⟩
theorem faulted_fl {a : Nat → Addr} {c : Nat × Int} {ev : Value} {w : World} (h : Errs a w) (he : FlErr a w c ev) (h16 : c.1 < 16) (h0 : c.1 = 0 → c.2 = -1) :
  Calls Tryz.prog 48 #[ev, fltV c] w fun e w' => e = .returned (.bool true) ∧ Below w.heap.size w w' := by
 refine faulted2_same ev (c.1 : Int) c.2 w (fun w' hb => ?_)
 rcases he with ⟨hz, rfl⟩ | ⟨hz, hn, rfl⟩ | ⟨hz, b, rfl, hrow⟩
 ·
  rw [h0 hz, hz]
  exact (code_nil w').mono (by rintro e w'' ⟨rfl, rfl⟩; exact ⟨rfl, Below.refl _ _⟩)
 ·
  have := code_err a (c.1 - 1) (by omega) w' (h.below hb)
  rw [hn]
  rwa [show ((c.1 - 1 : Nat) : Int) + 1 = (c.1 : Int) by omega] at this
 ·
  have hr : w'.heap[b]? = some (.cells #[.int .i64 c.2, eV (a (c.1 - 1))] 159 (0, 0)) := (hb.block _ (row_lt hrow)).trans hrow
  have := code_at a (c.1 - 1) (by omega) b 0 c.2 w' (h.below hb) (cell_of_row w' b 0 _ _ _ hr) (cell_of_row w' b 1 _ _ _ hr)
  rwa [show ((c.1 - 1 : Nat) : Int) + 1 = (c.1 : Int) by omega] at this
/-! ### The fault of a list -/
theorem shape_first {l : List Fl} {k : Nat} (hk : k < l.length) (h0 : k = 0) (h1 : oneE l[k] = 0) : badAt l k = 0 ∧ (l[k].nm ≠ star → topL l < l[k].ep) := by
 subst h0
 match l, hk with
 | f :: l, _ =>
  change oneE f = 0 at h1
  have h2 := one_pos h1
  show behindE [] f = 0 ∧ (f.nm ≠ star → topL (f :: l) < f.ep)
  refine ⟨?_, fun hn => ?_⟩
  ·
   unfold behindE
   rw [if_pos h1, if_neg (by rintro ⟨g, hg, _⟩; cases hg), if_neg (by have : topL [] = 0 := rfl; omega)]
  ·
   rw [topL_cons, if_neg hn]
   omega
theorem top_take {l : List Fl} {k : Nat} (hk : 0 < k) : topL (l.take k) = topL l := by
 match l, k, hk with
 | [], k + 1, _ => rfl
 | f :: l, k + 1, _ => rfl
theorem last_take {l : List Fl} {m : Nat} (hm : m + 1 < l.length) : (l.take (m + 1)).getLast? = some (l[m]'(by omega)) := by
 rw [List.take_succ_eq_append_getElem (by omega), List.getLast?_concat]
theorem bad_next {l : List Fl} {m : Nat} (hm : m + 1 < l.length) (h1 : oneE l[m + 1] = 0) : badAt l (m + 1) = if (l[m]'(by omega)).nm < l[m + 1].nm then (if l[m + 1].ep ≤ topL l then 3 else 0) else 8 := by
 unfold badAt
 rw [List.getElem?_eq_getElem hm]
 show behindE (l.take (m + 1)) l[m + 1] = _
 unfold behindE
 rw [if_pos h1, last_take hm, top_take (by omega)]
 by_cases h : (l[m]'(by omega)).nm < l[m + 1].nm
 ·
  rw [if_pos h, if_neg (by rintro ⟨g, hg, hn⟩; injection hg with hg; subst hg; exact hn h)]
 ·
  rw [if_neg h, if_pos ⟨_, rfl, h⟩]
theorem bad_one {l : List Fl} {k : Nat} (hk : k < l.length) (h1 : oneE l[k] ≠ 0) : badAt l k = oneE l[k] := by
 unfold badAt
 rw [List.getElem?_eq_getElem hk]
 show behindE (l.take k) l[k] = _
 unfold behindE
 rw [if_neg h1]
theorem faultEnd {a : Act} {w : World} {R : Ending → World → Prop} (g : Nat) (cs : Array Value) (hp : a.tmps.getD 2 undef = .pointer (some ⟨g, 0, none⟩)) (hg : w.heap[g]? = some (.cells cs 98 (0, 0))) (hn : cs.size = 2) (hd : a.defers = [])
  (hR : R (.returned (.agg cs)) w) : bodyPost Tryz.prog Tryz.f145 R .ret a w :=
 bodyPost_ret (results_cell_row rfl a.tmps w g _ cs (0, 0) _ hp hg Tryz.underlying98 rfl (by rw [hn]; kernel_rfl)) hd hR
set_option maxRecDepth 100000 in
set_option maxHeartbeats 8000000 in
theorem refFault_any (v : Value) (l : List Fl) (w : World) (hv : FlAt w v l) (hs : ∀ f ∈ l, f.who.size ≤ maxLen) (hl : l.length ≤ 1000000) :
  Calls Tryz.prog 145 #[v] w fun e w' => e = .returned (fltV (checkL l)) ∧ Below w.heap.size w w' := by
 have HB0 : Hid (Below w.heap.size w (w.alloc (.cells #[.int .i64 0, .int .i64 0] 98))) := (Below.refl _ _).alloc (Nat.le_refl _) _
 have HR0 : Hid ((w.alloc (.cells #[.int .i64 0, .int .i64 0] 98)).heap[w.heap.size]? = some (.cells #[.int .i64 0, .int .i64 0] 98 (0, 0))) := heap_alloc_new _ _
 -- a fault laid down, and given
 have HEnd : Hid (∀ (W : World) (x y : Value), Below w.heap.size w W → W.heap[w.heap.size]? = some (.cells #[.int .i64 0, .int .i64 0] 98 (0, 0)) → ((W.setCell ⟨w.heap.size, 0, none⟩ x).setCell ⟨w.heap.size, 0 + 1, none⟩ y).heap[w.heap.size]? = some (.cells #[x, y] 98 (0, 0)) ∧ Below w.heap.size w ((W.setCell ⟨w.heap.size, 0, none⟩ x).setCell ⟨w.heap.size, 0 + 1, none⟩ y)) := fun W x y hb hr =>
  ⟨set2_row hr _ _, (hb.setCell (p := ⟨w.heap.size, 0, none⟩) (Nat.le_refl _) _).setCell (p := ⟨w.heap.size, 0 + 1, none⟩) (Nat.le_refl _) _⟩
 have HCl : Hid (∀ (W : World), W.heap[w.heap.size]? = some (.cells #[.int .i64 0, .int .i64 0] 98 (0, 0)) → W.cell? ⟨w.heap.size, 0, none⟩ = some (.int .i64 0) ∧ W.cell? ⟨w.heap.size, 1, none⟩ = some (.int .i64 0) ∧ W.frozen? ⟨w.heap.size, 0, none⟩ = false ∧ W.frozen? ⟨w.heap.size, 1, none⟩ = false) := fun W h =>
  ⟨cell_of_row W _ 0 _ _ _ h, cell_of_row W _ 1 _ _ _ h, frozen_of_row W _ 0 _ _ h, frozen_of_row W _ 1 _ _ h⟩
 obtain ⟨ad, cap, rfl, hc⟩ := hv.form
 have HV := hide hv
 have HS := hide hs
 by_cases h21 : 21 < l.length
 ·
  rw [check_full h21]
  have HBa := hide (fun w => bare_any 7 w)
  generalize l.length = n at *
  have hz : (21 : Int) < (n : Int) := by omega
  clear hv hs
  go_enter Tryz.func145, Tryz.ntmps145
  go_wp2_with fail
  refine (HBa.out _).mono ?_
  rintro e w1 ⟨rfl, hb⟩
  have HR1 : Hid (w1.heap[w.heap.size]? = some (.cells #[.int .i64 0, .int .i64 0] 98 (0, 0))) := (hb.block _ (row_lt HR0.out)).trans HR0.out
  have HB1 : Hid (Below w.heap.size w w1) := HB0.out.trans (hb.mono HB0.out.size)
  obtain ⟨c0, c1, z0, z1⟩ := HCl.out w1 HR1.out
  clear hb
  go_wp2
  obtain ⟨e1, e2⟩ := HEnd.out w1 _ _ HB1.out HR1.out
  refine faultEnd w.heap.size _ rfl e1 rfl rfl ?_
  exact ⟨rfl, e2⟩
 ·
  have HG : Hid ((∀ j, j < l.length → badAt l j = 0) → checkL l = (0, -1)) := fun h => check_good h21 h
  have HBd : Hid (∀ k, k < l.length → (∀ j, j < k → badAt l j = 0) → badAt l k ≠ 0 → checkL l = (badAt l k, (k : Int))) := fun k hk h1 h2 => check_bad h21 hk h1 h2
  have HT := hide (fun w h => refTop_any (.slice ad l.length cap) l w h hl)
  have HF := hide (fun w => fine_any w)
  generalize checkL l = res at *
  generalize hn : l.length = n at *
  have HN := hide hn
  have hz : ¬ (21 : Int) < (n : Int) := by omega
  clear hv hs hn
  go_enter Tryz.func145, Tryz.ntmps145
  go_wp2
  go_loopw [3] (fun i wr => ∃ k : Nat, k ≤ n ∧ i = .int .i64 k ∧ Hid (∀ j, j < k → badAt l j = 0) ∧ Hid (Below w.heap.size w wr ∧ wr.heap[w.heap.size]? = some (.cells #[.int .i64 0, .int .i64 0] 98 (0, 0)))) (fun i _ => n - (intOf i).toNat)
  case atStart => exact ⟨0, Nat.zero_le _, rfl, (show Hid _ from fun j hj => absurd hj (Nat.not_lt_zero _)), (show Hid _ from ⟨HB0.out, HR0.out⟩)⟩
  case round =>
   obtain ⟨k, hk, rfl, HP, HW⟩ := hrel
   clear HB0 HR0
   by_cases hlt : k < n
   ·
    have hkl : k < l.length := by rw [HN.out]; exact hlt
    have hvr := HV.out.below HW.out.1
    rw [← HN.out] at hvr
    obtain ⟨b, off, cap', e, hc', hb, hcell⟩ := hvr.at (by omega)
    injection e with e1 e2 e3
    subst e1; subst e3
    obtain ⟨c0, c1⟩ := hcell k hkl
    have hltz : (k : Int) < (n : Int) := by omega
    have HCells : Hid (∀ W, Below wr.heap.size wr W → W.cell? ⟨b, off + k * 2, none⟩ = some (.string (l[k]'hkl).who) ∧ W.cell? ⟨b, off + k * 2 + 1, none⟩ = some (.int .i64 (l[k]'hkl).ep)) := fun W hbW => ⟨by rw [hbW.cell (p := ⟨b, off + k * 2, none⟩) hb]; exact (hcell k hkl).1, by rw [hbW.cell (p := ⟨b, off + k * 2 + 1, none⟩) hb]; exact (hcell k hkl).2⟩
    have HO := hide (refOne_any (l[k]'hkl) wr (HS.out _ (List.getElem_mem hkl)))
    unfold Fl.val at HO
    have HNx : Hid (∀ W, Below wr.heap.size wr W → Below w.heap.size w W ∧ W.heap[w.heap.size]? = some (.cells #[.int .i64 0, .int .i64 0] 98 (0, 0))) := fun W hbW => ⟨HW.out.1.trans (hbW.mono HW.out.1.size), (hbW.block _ (row_lt HW.out.2)).trans HW.out.2⟩
    by_cases h1 : oneE (l[k]'hkl) = 0
    ·
     by_cases hk0 : k = 0
     ·
      obtain ⟨hbad, hsh⟩ := shape_first hkl hk0 h1
      have HBad := hide hbad
      have hq := star_who (l[k]'hkl)
      rw [h1] at HO
      have hk0n : ¬ (0 : Int) < (k : Int) := by omega
      clear hcell hvr h1 hbad hk0
      by_cases hst : (l[k]'hkl).nm = star
      ·
       rw [decide_eq_true hst] at hq
       clear hst hsh
       generalize (l[k]'hkl).who = who at *
       generalize (l[k]'hkl).ep = ep at *
       go_wp2_with fail
       refine HO.out.mono ?_
       rintro e w1 ⟨rfl, hb1⟩
       have HBw := hide hb1
       clear c0 c1
       obtain ⟨c0, c1⟩ := HCells.out w1 hb1
       clear hb1
       go_wp2
       go_quiet (fail)
       go_wp2
       go_roundw
       case rel =>
        refine ⟨k + 1, by omega, by go_num, (show Hid _ from fun j hj => ?_), (show Hid _ from HNx.out _ (below_drewN HBw.out nq))⟩
        by_cases e : j = k
        ·
         rw [e]; exact HBad.out
        ·
         exact HP.out j (by omega)
       case measure => simp [intOf]; omega
      ·
       have hd : decide ((l[k]'hkl).ep ≤ topL l) = false := decide_eq_false (by have := hsh hst; omega)
       rw [decide_eq_false hst] at hq
       clear hst hsh
       generalize (l[k]'hkl).who = who at *
       generalize (l[k]'hkl).ep = ep at *
       go_wp2_with fail
       refine HO.out.mono ?_
       rintro e w1 ⟨rfl, hb1⟩
       have HBw := hide hb1
       clear c0 c1
       obtain ⟨c0, c1⟩ := HCells.out w1 hb1
       clear hb1
       go_wp2
       go_quiet (first | (go_at_call 184; exact Calls.quiet_of_same (HT.out _ ((HV.out.below HW.out.1).below (below_drewN HBw.out _)))))
       go_wp2
       go_roundw
       case rel =>
        refine ⟨k + 1, by omega, by go_num, (show Hid _ from fun j hj => ?_), (show Hid _ from HNx.out _ (below_drewN HBw.out nq))⟩
        by_cases e : j = k
        ·
         rw [e]; exact HBad.out
        ·
         exact HP.out j (by omega)
       case measure => simp [intOf]; omega
     ·
      obtain ⟨m, rfl⟩ : ∃ m, k = m + 1 := ⟨k - 1, by omega⟩
      have hml : m < l.length := by omega
      have HPrev : Hid (∀ W, Below wr.heap.size wr W → W.cell? ⟨b, off + m * 2, none⟩ = some (.string (l[m]'hml).who)) := fun W hbW => by rw [hbW.cell (p := ⟨b, off + m * 2, none⟩) hb]; exact (hcell m hml).1
      have hbn := bad_next hkl h1
      have hrk : (m + 1 : Int) - 1 = (m : Int) := by omega
      have hmz : (m : Int) < (n : Int) := by omega
      have h1p : oneE (l[m]'hml) = 0 := by
       have := bad_zero hml (HP.out m (by omega))
       exact behind_one this
      have hq := star_who (l[m + 1]'hkl)
      rw [h1] at HO
      have hk0z : (0 : Int) < (m : Int) + 1 := by omega
      rcases names_cases (l[m + 1]'hkl).who (l[m]'hml).who with ⟨hlt1, hq1, hq2⟩ | ⟨hlt1, hq1, hq2⟩ | ⟨hlt1, hq1, hq2⟩
      ·
       have hno : ¬ (l[m]'hml).nm < (l[m + 1]'hkl).nm := fun e => List.lt_irrefl _ (List.lt_trans hlt1 e)
       have HRes := hide (HBd.out (m + 1) (by omega) HP.out (by rw [hbn, if_neg hno]; decide))
       rw [hbn, if_neg hno] at HRes
       clear hcell hvr h1 hk0 hbn hlt1 h1p hno
       generalize (l[m]'hml).who = pw at *
       generalize (l[m + 1]'hkl).who = who at *
       generalize (l[m + 1]'hkl).ep = ep at *
       go_wp2_with fail
       refine HO.out.mono ?_
       rintro e w1 ⟨rfl, hb1⟩
       have d0 : w1.cell? ⟨b, off + m * 2, none⟩ = some (.string pw) := HPrev.out w1 hb1
       have HBw := hide hb1
       clear c0 c1
       obtain ⟨c0, c1⟩ := HCells.out w1 hb1
       clear hb1
       go_wp2
       go_quiet (fail)
       obtain ⟨w2, hw2⟩ : ∃ w2, w1.drewN nq = w2 := ⟨_, rfl⟩
       rw [hw2]
       have HBw2 : Hid (Below wr.heap.size wr w2) := by rw [← hw2]; exact below_drewN HBw.out nq
       clear c0 c1 d0 HBw
       obtain ⟨c0, c1⟩ := HCells.out w2 HBw2.out
       clear hw2 nq
       go_wp2
       go_quiet (fail)
       obtain ⟨HB3, HR3⟩ := HNx.out _ (below_drewN HBw2.out nq)
       obtain ⟨x0, x1, z0, z1⟩ := HCl.out _ HR3
       clear HB3 HR3
       go_wp2
       obtain ⟨HB3, HR3⟩ := HNx.out _ (below_drewN HBw2.out nq)
       obtain ⟨e1, e2⟩ := HEnd.out _ _ _ HB3 HR3
       refine faultEnd w.heap.size _ rfl e1 rfl rfl ?_
       exact ⟨by rw [HRes.out]; rfl, e2⟩
      ·
       have hno : ¬ (l[m]'hml).nm < (l[m + 1]'hkl).nm := fun e => by unfold Fl.nm at e; rw [hlt1] at e; exact List.lt_irrefl _ e
       have HRes := hide (HBd.out (m + 1) (by omega) HP.out (by rw [hbn, if_neg hno]; decide))
       rw [hbn, if_neg hno] at HRes
       clear hcell hvr h1 hk0 hbn hlt1 h1p hno
       generalize (l[m]'hml).who = pw at *
       generalize (l[m + 1]'hkl).who = who at *
       generalize (l[m + 1]'hkl).ep = ep at *
       go_wp2_with fail
       refine HO.out.mono ?_
       rintro e w1 ⟨rfl, hb1⟩
       have d0 : w1.cell? ⟨b, off + m * 2, none⟩ = some (.string pw) := HPrev.out w1 hb1
       have HBw := hide hb1
       clear c0 c1
       obtain ⟨c0, c1⟩ := HCells.out w1 hb1
       clear hb1
       go_wp2
       go_quiet (fail)
       obtain ⟨w2, hw2⟩ : ∃ w2, w1.drewN nq = w2 := ⟨_, rfl⟩
       rw [hw2]
       have HBw2 : Hid (Below wr.heap.size wr w2) := by rw [← hw2]; exact below_drewN HBw.out nq
       clear c0 c1 d0 HBw
       obtain ⟨c0, c1⟩ := HCells.out w2 HBw2.out
       clear hw2 nq
       go_wp2
       go_quiet (fail)
       obtain ⟨HB3, HR3⟩ := HNx.out _ (below_drewN HBw2.out nq)
       obtain ⟨x0, x1, z0, z1⟩ := HCl.out _ HR3
       clear HB3 HR3
       go_wp2
       obtain ⟨HB3, HR3⟩ := HNx.out _ (below_drewN HBw2.out nq)
       obtain ⟨e1, e2⟩ := HEnd.out _ _ _ HB3 HR3
       refine faultEnd w.heap.size _ rfl e1 rfl rfl ?_
       exact ⟨by rw [HRes.out]; rfl, e2⟩
      ·
       rw [if_pos (show (l[m]'hml).nm < (l[m + 1]'hkl).nm from hlt1)] at hbn
       have hst : (l[m + 1]'hkl).nm ≠ star := fun e => not_below_star h1p (by rw [← e]; exact hlt1)
       rw [decide_eq_false hst] at hq
       by_cases hsh : (l[m + 1]'hkl).ep ≤ topL l
       ·
        rw [if_pos hsh] at hbn
        have HRes := hide (HBd.out (m + 1) (by omega) HP.out (by rw [hbn]; decide))
        rw [hbn] at HRes
        have hd := decide_eq_true hsh
        clear hcell hvr h1 hk0 hbn hlt1 h1p hst hsh
        generalize (l[m]'hml).who = pw at *
        generalize (l[m + 1]'hkl).who = who at *
        generalize (l[m + 1]'hkl).ep = ep at *
        go_wp2_with fail
        refine HO.out.mono ?_
        rintro e w1 ⟨rfl, hb1⟩
        have d0 : w1.cell? ⟨b, off + m * 2, none⟩ = some (.string pw) := HPrev.out w1 hb1
        have HBw := hide hb1
        clear c0 c1
        obtain ⟨c0, c1⟩ := HCells.out w1 hb1
        clear hb1
        go_wp2
        go_quiet (fail)
        obtain ⟨w2, hw2⟩ : ∃ w2, w1.drewN nq = w2 := ⟨_, rfl⟩
        rw [hw2]
        have HBw2 : Hid (Below wr.heap.size wr w2) := by rw [← hw2]; exact below_drewN HBw.out nq
        clear c0 c1 d0 HBw
        obtain ⟨c0, c1⟩ := HCells.out w2 HBw2.out
        clear hw2 nq
        go_wp2
        go_quiet (first | (go_at_call 184; exact Calls.quiet_of_same (HT.out _ ((HV.out.below HW.out.1).below (below_drewN HBw2.out _)))))
        obtain ⟨HB3, HR3⟩ := HNx.out _ (below_drewN HBw2.out nq)
        obtain ⟨x0, x1, z0, z1⟩ := HCl.out _ HR3
        clear HB3 HR3
        go_wp2
        obtain ⟨HB3, HR3⟩ := HNx.out _ (below_drewN HBw2.out nq)
        obtain ⟨e1, e2⟩ := HEnd.out _ _ _ HB3 HR3
        refine faultEnd w.heap.size _ rfl e1 rfl rfl ?_
        exact ⟨by rw [HRes.out]; rfl, e2⟩
       ·
        rw [if_neg hsh] at hbn
        have HBad := hide hbn
        have hd := decide_eq_false hsh
        clear hcell hvr h1 hk0 hbn hlt1 h1p hst hsh
        generalize (l[m]'hml).who = pw at *
        generalize (l[m + 1]'hkl).who = who at *
        generalize (l[m + 1]'hkl).ep = ep at *
        go_wp2_with fail
        refine HO.out.mono ?_
        rintro e w1 ⟨rfl, hb1⟩
        have d0 : w1.cell? ⟨b, off + m * 2, none⟩ = some (.string pw) := HPrev.out w1 hb1
        have HBw := hide hb1
        clear c0 c1
        obtain ⟨c0, c1⟩ := HCells.out w1 hb1
        clear hb1
        go_wp2
        go_quiet (fail)
        obtain ⟨w2, hw2⟩ : ∃ w2, w1.drewN nq = w2 := ⟨_, rfl⟩
        rw [hw2]
        have HBw2 : Hid (Below wr.heap.size wr w2) := by rw [← hw2]; exact below_drewN HBw.out nq
        clear c0 c1 d0 HBw
        obtain ⟨c0, c1⟩ := HCells.out w2 HBw2.out
        clear hw2 nq
        go_wp2
        go_quiet (first | (go_at_call 184; exact Calls.quiet_of_same (HT.out _ ((HV.out.below HW.out.1).below (below_drewN HBw2.out _)))))
        go_wp2
        go_roundw
        case rel =>
         refine ⟨m + 1 + 1, by omega, by go_num, (show Hid _ from fun j hj => ?_), (show Hid _ from HNx.out _ (below_drewN HBw2.out nq))⟩
         by_cases e : j = m + 1
         ·
          rw [e]; exact HBad.out
         ·
          exact HP.out j (by omega)
        case measure => simp [intOf]; omega
    ·
     -- it is no floor
     have HRes := hide (HBd.out k (by omega) HP.out (by rw [bad_one hkl h1]; exact h1))
     rw [bad_one hkl h1] at HRes
     have hq : ((oneE (l[k]'hkl) : Int) == 0) = false := by rw [beq_eq_false_iff_ne]; omega
     have hq2 : (0 : Int) < (oneE (l[k]'hkl) : Int) := by omega
     clear h1 hcell hvr
     generalize oneE (l[k]'hkl) = c at *
     generalize (l[k]'hkl).who = who at *
     generalize (l[k]'hkl).ep = ep at *
     go_wp2_with fail
     refine HO.out.mono ?_
     rintro e w1 ⟨rfl, hb1⟩
     obtain ⟨HB1, HR1⟩ := HNx.out w1 hb1
     replace HB1 := hide HB1
     replace HR1 := hide HR1
     clear hb1 c0 c1 HCells
     go_wp2
     go_quiet (fail)
     obtain ⟨d0, d1, z0, z1⟩ := HCl.out (w1.drewN nq) HR1.out
     go_wp2
     obtain ⟨e1, e2⟩ := HEnd.out (w1.drewN nq) _ _ (below_drewN HB1.out nq) HR1.out
     refine faultEnd w.heap.size _ rfl e1 rfl rfl ?_
     exact ⟨by rw [HRes.out], e2⟩
   ·
    have hkn : k = n := by omega
    subst hkn
    have hltz : ¬ (k : Int) < (k : Int) := by omega
    have HRes := hide (HG.out HP.out)
    go_wp2_with fail
    refine (HF.out _).mono ?_
    rintro e w1 ⟨rfl, hb⟩
    have HB1 : Hid (Below w.heap.size w w1) := HW.out.1.trans (hb.mono HW.out.1.size)
    have HR1 : Hid (w1.heap[w.heap.size]? = some (.cells #[.int .i64 0, .int .i64 0] 98 (0, 0))) := (hb.block _ (row_lt HW.out.2)).trans HW.out.2
    obtain ⟨c0, c1, z0, z1⟩ := HCl.out w1 HR1.out
    clear hb
    go_wp2
    obtain ⟨e1, e2⟩ := HEnd.out w1 _ _ HB1.out HR1.out
    refine faultEnd w.heap.size _ rfl e1 rfl rfl ?_
    exact ⟨by rw [HRes.out]; rfl, e2⟩
end Go.Proofs.YtabpnjchocgakaaGreatDoor

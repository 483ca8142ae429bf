/-
  What package person's Check, New, Get, Add, Raise, Off and Rekey give, and what they do to the book: its map is written, and nothing else; for every book, name, key and bool.
-/
import Derived.Test.YtkkjalokgaaniaaDoorBookActs
import Derived.Test.YtkkjalokgaaniaaDoorSealWords
import Derived.Maps.OwnSet
import Derived.Laws.Rows
import Derived.StringKeys
import Derived.Laws.NewBlocks
import Derived.Laws.ResultCell
import Derived.RegionTactic
namespace Go.Proofs.YtkkjalokgaaniaaDoor
open Go.RowKit Go.Extern.Stop Go.Stop Go.Extern Go.Maps

/-- The six errors of the chapter. -/
def perS (i : Nat) : Bool := i == 1 || i == 3 || i == 4 || i == 5 || i == 6 || i == 9
theorem grown_of_below {w w' : World} (h : Below w.heap.size w w') (row : Option Nat) : w.grownBy w' row := ⟨h.os, h.tape, h.output, h.size, fun k hk _ => h.block k hk⟩

/-- A book in memory: its block, and the map that it holds. -/
structure BookAt (w : World) (bp mb : Nat) (L : List Per) : Prop where
  row : w.heap[bp]? = some (.cells #[.map (some mb)] 72 (0, 0))
  own : w.ownsMap Tryd.prog 9 perR mb L.length (dOf L)
  good : Good L
theorem BookAt.ne {w : World} {bp mb : Nat} {L : List Per} (h : BookAt w bp mb L) : bp ≠ mb := fun e => by
  obtain ⟨es, clock, hb, _⟩ := h.own
  rw [← e, h.row] at hb
  cases hb
theorem BookAt.same {w w' : World} {bp mb : Nat} {L : List Per} (h : BookAt w bp mb L) (h1 : w'.heap[bp]? = w.heap[bp]?) (h2 : w'.heap[mb]? = w.heap[mb]?) : BookAt w' bp mb L := by
  obtain ⟨es, clock, hb, F, hs, hD⟩ := h.own
  exact ⟨h1.trans h.row, ⟨es, clock, h2.trans hb, F, hs, hD⟩, h.good⟩
theorem BookAt.kept {w w' : World} {bp mb : Nat} {L : List Per} (h : BookAt w bp mb L) {row : Option Nat} (hg : w.grownBy w' row) (h1 : some bp ≠ row) (h2 : some mb ≠ row) : BookAt w' bp mb L :=
  h.same (hg.block bp (row_lt h.row) h1) (hg.block mb h.own.lt h2)
theorem BookAt.below {w w' : World} {bp mb : Nat} {L : List Per} (h : BookAt w bp mb L) (hb : Below w.heap.size w w') : BookAt w' bp mb L :=
  h.kept (grown_of_below hb none) (by simp) (by simp)
theorem BookAt.cell {w : World} {bp mb : Nat} {L : List Per} (h : BookAt w bp mb L) : w.cell? ⟨bp, 0, none⟩ = some (.map (some mb)) := cell_of_row w bp 0 _ _ _ h.row
/-- A book whose map was written. -/
theorem BookAt.put {w w' : World} {bp mb : Nat} {L : List Per} {p : Per} {n : Nat} (h : BookAt w bp mb L) (ho : w'.ownsMap Tryd.prog 9 perR mb n ((dOf L).put (.string p.name.data.toList) (perD p))) (ht : w.mapTurned w' mb) (hg : Good (putP L p)) : BookAt w' bp mb (putP L p) := by
  rw [dOf_put] at ho
  obtain ⟨es, clock, hb, F, hs, hD⟩ := ho
  refine ⟨?_, ⟨es, clock, hb, F, ?_, hD⟩, hg⟩
  · rw [ht.grown.block bp (row_lt h.row) (by have := h.ne; simpa using this)]
    exact h.row
  · have e := congrArg Maps.size hD
    rw [dOf_size] at e
    rw [e]
    simp [Maps.size, length_sorted]

theorem Tryd.zeroPerson (w : World) : (zeroValue 58).run Tryd.prog w = .ok (.agg #[.string ByteArray.empty, .int .i64 0, .int .i64 0, .bool false]) w := by kernel_rfl
/-- Nobody. -/
def noP : Per := ⟨ByteArray.empty, 0, 0, false⟩

set_option maxRecDepth 100000 in
set_option maxHeartbeats 1000000 in
theorem pcheck_any (a : Nat → Addr) (p : Per) (w : World) (h : EV perS a w) (hs : p.name.size ≤ maxLen) :
    Calls Tryd.prog 28 #[p.val] w fun e w' => e = .returned (errV a p.err) ∧ Below w.heap.size w w' := by
  obtain ⟨name, key, epoch, off⟩ := p
  have HB : Hid (Below w.heap.size w (w.alloc (.cells #[.string name, .int .i64 key, .int .i64 epoch, .bool off] 58))) := (Below.refl _ _).alloc (Nat.le_refl _) _
  have HC : Hid ((w.alloc (.cells #[.string name, .int .i64 key, .int .i64 epoch, .bool off] 58)).heap[w.heap.size]? = some (.cells #[.string name, .int .i64 key, .int .i64 epoch, .bool off] 58 (0, 0))) := heap_alloc_new _ _
  have HN := hide (fun w => name_any name w hs)
  have HE := hide h
  show Calls Tryd.prog 28 #[.agg #[.string name, .int .i64 key, .int .i64 epoch, .bool off]] w _
  have HR : Hid (∀ c, (Per.mk name key epoch off).err = c → Calls Tryd.prog 28 #[.agg #[.string name, .int .i64 key, .int .i64 epoch, .bool off]] w (fun e w' => e = .returned (errV a c) ∧ Below w.heap.size w w') → Calls Tryd.prog 28 #[.agg #[.string name, .int .i64 key, .int .i64 epoch, .bool off]] w (fun e w' => e = .returned (errV a (Per.mk name key epoch off).err) ∧ Below w.heap.size w w')) := fun c hc h => by rw [hc]; exact h
  clear h
  cases hn : Sl.nameL name.data.toList with
  | false =>
    refine HR.out 4 (by unfold Per.err; simp [hn]) ?_
    rw [hn] at HN
    clear hn HR
    go_enter Tryd.func28, Tryd.ntmps28
    go_wp2_with fail
    refine (HN.out _).mono ?_
    rintro e w1 ⟨rfl, hb⟩
    have HB1 : Hid (Below w.heap.size w w1) := HB.out.trans (hb.mono HB.out.size)
    have hv : w1.cell? ⟨3, 0, none⟩ = some (eV (a 3)) := (HE.out.below HB1.out).var 3 (by decide) rfl
    clear hb
    go_wp2
    go_ret
    exact ⟨rfl, HB1.out⟩
  | true =>
    rw [hn] at HN
    by_cases hk : 1 ≤ key ∧ key ≤ 1000000006
    · by_cases he : 1 ≤ epoch ∧ epoch ≤ 1073741824
      · refine HR.out 0 (by unfold Per.err; simp [hn, hk, he]) ?_
        obtain ⟨he1, he2⟩ := he
        obtain ⟨hk1, hk2⟩ := hk
        clear hn HR HE
        go_enter Tryd.func28, Tryd.ntmps28
        go_wp2_with fail
        refine (HN.out _).mono ?_
        rintro e w1 ⟨rfl, hb⟩
        have HB1 : Hid (Below w.heap.size w w1) := HB.out.trans (hb.mono HB.out.size)
        have hrow : w1.heap[w.heap.size]? = some (.cells #[.string name, .int .i64 key, .int .i64 epoch, .bool off] 58 (0, 0)) := by rw [hb.block _ (by simp)]; exact HC.out
        have hc1 : w1.cell? ⟨w.heap.size, 1, none⟩ = some (.int .i64 key) := cell_of_row w1 _ 1 _ _ _ hrow
        have hc2 : w1.cell? ⟨w.heap.size, 2, none⟩ = some (.int .i64 epoch) := cell_of_row w1 _ 2 _ _ _ hrow
        clear hb hrow
        go_wp2
        go_ret
        exact ⟨rfl, HB1.out⟩
      · refine HR.out 2 (by unfold Per.err; rw [if_pos hn, if_pos hk, if_neg he]) ?_
        obtain ⟨hk1, hk2⟩ := hk
        have he2 : epoch < 1 ∨ (1 ≤ epoch ∧ 1073741824 < epoch) := by omega
        clear hn HR he
        rcases he2 with g | ⟨g, g2⟩
        all_goals
          go_enter Tryd.func28, Tryd.ntmps28
          go_wp2_with fail
          refine (HN.out _).mono ?_
          rintro e w1 ⟨rfl, hb⟩
          have HB1 : Hid (Below w.heap.size w w1) := HB.out.trans (hb.mono HB.out.size)
          have hrow : w1.heap[w.heap.size]? = some (.cells #[.string name, .int .i64 key, .int .i64 epoch, .bool off] 58 (0, 0)) := by rw [hb.block _ (by simp)]; exact HC.out
          have hc1 : w1.cell? ⟨w.heap.size, 1, none⟩ = some (.int .i64 key) := cell_of_row w1 _ 1 _ _ _ hrow
          have hc2 : w1.cell? ⟨w.heap.size, 2, none⟩ = some (.int .i64 epoch) := cell_of_row w1 _ 2 _ _ _ hrow
          have hv : w1.cell? ⟨1, 0, none⟩ = some (eV (a 1)) := (HE.out.below HB1.out).var 1 (by decide) rfl
          clear hb hrow
          go_wp2
          go_ret
          exact ⟨rfl, HB1.out⟩
    · refine HR.out 10 (by unfold Per.err; rw [if_pos hn, if_neg hk]) ?_
      have hk2 : key < 1 ∨ (1 ≤ key ∧ 1000000006 < key) := by omega
      clear hn HR hk
      rcases hk2 with g | ⟨g, g2⟩
      all_goals
        go_enter Tryd.func28, Tryd.ntmps28
        go_wp2_with fail
        refine (HN.out _).mono ?_
        rintro e w1 ⟨rfl, hb⟩
        have HB1 : Hid (Below w.heap.size w w1) := HB.out.trans (hb.mono HB.out.size)
        have hrow : w1.heap[w.heap.size]? = some (.cells #[.string name, .int .i64 key, .int .i64 epoch, .bool off] 58 (0, 0)) := by rw [hb.block _ (by simp)]; exact HC.out
        have hc1 : w1.cell? ⟨w.heap.size, 1, none⟩ = some (.int .i64 key) := cell_of_row w1 _ 1 _ _ _ hrow
        have hv : w1.cell? ⟨9, 0, none⟩ = some (eV (a 9)) := (HE.out.below HB1.out).var 9 (by decide) rfl
        clear hb hrow
        go_wp2
        go_ret
        exact ⟨rfl, HB1.out⟩

set_option maxRecDepth 100000 in
set_option maxHeartbeats 1000000 in
theorem new_any (w : World) :
    Calls Tryd.prog 20 #[] w fun e w' => e = .returned (.pointer (some ⟨w.heap.size + 1, 0, none⟩)) ∧ BookAt w' (w.heap.size + 1) w.heap.size [] ∧ Below w.heap.size w w' := by
  have hmm := @run_makeMap Tryd.prog
  have HW : Hid (∀ w' : World, w' = (w.alloc (.map #[] 0)).alloc (.cells #[.map (some w.heap.size)] 72) → BookAt w' (w.heap.size + 1) w.heap.size [] ∧ Below w.heap.size w w') := fun w' e => by
    subst e
    refine ⟨⟨?_, ?_, Good.nil⟩, ((Below.refl _ _).alloc (Nat.le_refl _) _).alloc (by simp) _⟩
    · have := heap_alloc_new (w.alloc (.map #[] 0)) (.cells #[.map (some w.heap.size)] 72)
      rwa [World.size_alloc] at this
    · exact (World.ownsMap_made w Tryd.prog 9 perR).alloc _
  go_enter Tryd.func20, Tryd.ntmps20
  go_wp2
  go_ret
  exact ⟨by simp, HW.out _ rfl⟩

section
variable {ops : Array Oper} {rest : List Oper} {o : Oper} {act : Act} {Q : Exit → Act → World → Prop}
/-- A look-up of a name that nobody has. -/
theorem look_no (w : World) (hg : o.guard = none) (m x : Operand) (hop : o.op = Op.lookup 70 m x true) (b n : Nat) (L : List Per) (name : ByteArray) (hm : act.eval m = .map (some b)) (hown : w.ownsMap Tryd.prog 9 perR b n (dOf L)) (hx : act.eval x = .string name) (hs : name.size ≤ maxLen) (hL : getP L name = none)
    (hK : wpList Tryd.prog ops Q rest (act.put o.dst (.tuple #[.agg #[.string ByteArray.empty, .int .i64 0, .int .i64 0, .bool false], .bool false])) w) : wpList Tryd.prog ops Q (o :: rest) act w :=
  wpList_lookup_own_ok w hg m x _ hop 9 58 (string_keyed Tryd.underlying9) Tryd.underlying70 perR (Tryd.zeroPerson w) (perD noP) [] (perR_val noP) b n _ hm hown _ _ hx (Go.WideMaps.keyOf_string_mk Tryd.underlying9 hs) (fun v ps hv => by
    rw [dOf_at, hL] at hv
    obtain ⟨p, rfl, hz⟩ := perR_inv hv
    obtain rfl : noP = p := perD_inj (congrArg Prod.fst hz)
    rw [dOf_has, hL]
    exact hK)
/-- A look-up of a name that somebody has. -/
theorem look_yes (w : World) (hg : o.guard = none) (m x : Operand) (hop : o.op = Op.lookup 70 m x true) (b n : Nat) (L : List Per) (name : ByteArray) (hm : act.eval m = .map (some b)) (hown : w.ownsMap Tryd.prog 9 perR b n (dOf L)) (hx : act.eval x = .string name) (hs : name.size ≤ maxLen) (p : Per) (hL : getP L name = some p)
    (hK : wpList Tryd.prog ops Q rest (act.put o.dst (.tuple #[.agg #[.string p.name, .int .i64 p.key, .int .i64 p.epoch, .bool p.off], .bool true])) w) : wpList Tryd.prog ops Q (o :: rest) act w :=
  wpList_lookup_own_ok w hg m x _ hop 9 58 (string_keyed Tryd.underlying9) Tryd.underlying70 perR (Tryd.zeroPerson w) (perD noP) [] (perR_val noP) b n _ hm hown _ _ hx (Go.WideMaps.keyOf_string_mk Tryd.underlying9 hs) (fun v ps hv => by
    rw [dOf_at, hL] at hv
    obtain ⟨q, rfl, hz⟩ := perR_inv hv
    obtain rfl : p = q := perD_inj (congrArg Prod.fst hz)
    rw [dOf_has, hL]
    exact hK)
end
/-- What a store of a person into a book's map does. -/
theorem BookAt.store {w : World} {bp mb : Nat} {L : List Per} (h : BookAt w bp mb L) (p : Per) (hs : p.name.size ≤ maxLen) (hg : Good (putP L p)) :
    ∃ w', (Instr.mapUpdate 70 (.map (some mb)) (.string p.name) (.agg #[.string p.name, .int .i64 p.key, .int .i64 p.epoch, .bool p.off])).run Tryd.prog w = .ok () w' ∧ BookAt w' bp mb (putP L p) ∧ w.grownBy w' (some mb) := by
  obtain ⟨w', hrun, ho, ht⟩ := h.own.store (e := 58) (string_keyed Tryd.underlying9) Tryd.underlying70 (Nat.lt_of_le_of_lt h.good.few (by unfold maxLen; omega)) (Go.WideMaps.keyOf_string_mk Tryd.underlying9 hs) (perR_val p)
  exact ⟨w', hrun, h.put ho ht hg, ht.grown⟩
theorem res_row_tmp {P : Program} {fn : Func} {p u : Tmp} {ty : TypeId} (h : fn.results = #[.cell p ty, .tmp u]) (tmps : Array Value) (w : World) (g : Nat) (t : TypeId) (cs : Array Value) (fr : Nat × Nat) (d : TypeDesc)
    (hp : tmps.getD p undef = .pointer (some ⟨g, 0, none⟩)) (hg : w.heap[g]? = some (.cells cs t fr))
    (hu : P.underlying ty = some d) (hd : (match d with | .struct _ | .array _ _ => true | _ => false) = true) (hi : (P.info? ty).map (·.size) = some cs.size) :
    (results fn tmps).run P w = .ok (.tuple #[.agg cs, tmps.getD u undef]) w := by
  rw [results_cell_tmp h, hp]
  simp [asAddr, run_loadVar_row w g t ty cs fr d hg hu hd hi, Result.andThen]
theorem getEnd {a : Act} {w : World} {R : Ending → World → Prop} (g : Nat) (cs : Array Value) (hp : a.tmps.getD 4 undef = .pointer (some ⟨g, 0, none⟩)) (hg : w.heap[g]? = some (.cells cs 58 (0, 0))) (hn : cs.size = 4) (hd : a.defers = [])
    (hR : R (.returned (.tuple #[.agg cs, a.tmps.getD 5 undef])) w) : bodyPost Tryd.prog Tryd.f27 R .ret a w :=
  bodyPost_ret (res_row_tmp rfl a.tmps w g _ cs (0, 0) _ hp hg Tryd.underlying58 rfl (by rw [hn]; kernel_rfl)) hd hR
theorem row_two (w : World) (o o' : Obj) : ((w.alloc o).alloc o').heap[w.heap.size]? = some o := (Below.heap_alloc _ _ _ (by simp)).trans (heap_alloc_new w o)
theorem EV.two {S : Nat → Bool} {a : Nat → Addr} {w : World} (h : EV S a w) (i : Nat) (hi : i < 16) (hs : S i = true) (o o' : Obj) : ((w.alloc o).alloc o').cell? ⟨errG.getD i 0, 0, none⟩ = some (eV (a i)) :=
  (h.below (((Below.refl _ _).alloc (Nat.le_refl _) o).alloc (by simp) o')).var i hi hs

set_option maxRecDepth 100000 in
set_option maxHeartbeats 1000000 in
theorem get_no (a : Nat → Addr) (bp mb : Nat) (L : List Per) (name : ByteArray) (w : World) (h : BookAt w bp mb L) (hE : EV perS a w) (hs : name.size ≤ maxLen) (hg : getP L name = none) :
    Calls Tryd.prog 27 #[.pointer (some ⟨bp, 0, none⟩), .string name] w fun e w' => e = .returned (.tuple #[.agg #[.string ByteArray.empty, .int .i64 0, .int .i64 0, .bool false], eV (a 4)]) ∧ Below w.heap.size w w' := by
  have hc : ∀ o, (w.alloc o).cell? ⟨bp, 0, none⟩ = some (.map (some mb)) := fun o => (h.below ((Below.refl _ _).alloc (Nat.le_refl _) o)).cell
  have hv : ∀ o o', ((w.alloc o).alloc o').cell? ⟨4, 0, none⟩ = some (eV (a 4)) := fun o o' => hE.two 4 (by decide) rfl o o'
  have HO := hide (fun o => h.own.alloc o)
  clear h hE
  go_enter Tryd.func27, Tryd.ntmps27
  go_wp2_with (first | (at_lookup; refine look_no _ rfl _ _ rfl mb L.length L name rfl (HO.out _) rfl hs hg ?_) | go_in)
  go_region
  go_wp2
  refine getEnd w.heap.size _ rfl (row_two _ _ _) rfl rfl ?_
  exact ⟨rfl, (((Below.refl _ w).alloc (Nat.le_refl _) _).alloc (by simp) _).drew⟩

set_option maxRecDepth 100000 in
set_option maxHeartbeats 1000000 in
theorem get_yes (bp mb : Nat) (L : List Per) (name : ByteArray) (w : World) (h : BookAt w bp mb L) (hs : name.size ≤ maxLen) (p : Per) (hg : getP L name = some p) :
    Calls Tryd.prog 27 #[.pointer (some ⟨bp, 0, none⟩), .string name] w fun e w' => e = .returned (.tuple #[.agg #[.string p.name, .int .i64 p.key, .int .i64 p.epoch, .bool p.off], .nilIface]) ∧ Below w.heap.size w w' := by
  have hc : ∀ o, (w.alloc o).cell? ⟨bp, 0, none⟩ = some (.map (some mb)) := fun o => (h.below ((Below.refl _ _).alloc (Nat.le_refl _) o)).cell
  have HO := hide (fun o => h.own.alloc o)
  clear h
  go_enter Tryd.func27, Tryd.ntmps27
  go_wp2_with (first | (at_lookup; refine look_yes _ rfl _ _ rfl mb L.length L name rfl (HO.out _) rfl hs p hg ?_) | go_in)
  refine getEnd w.heap.size _ rfl (row_two _ _ _) rfl rfl ?_
  exact ⟨rfl, ((Below.refl _ w).alloc (Nat.le_refl _) _).alloc (by simp) _⟩
end Go.Proofs.YtkkjalokgaaniaaDoor

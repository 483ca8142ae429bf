/-
  What seal.take answers: ErrBound for more than 4000 bytes, ErrText for what is no sealed text, else what stands ahead of the last blank, its words and the mark's number; for every text.
-/
import Derived.Test.YteabincmopeljadDoorSealNumber
import Derived.Test.YteabincmopeljadDoorSealSpec
import Derived.Laws.NewBlocks
import Derived.Laws.ResultCell
import Derived.Laws.Rows
namespace Go.Proofs.YteabincmopeljadDoor
open Go.RowKit Go.Extern.Stop Go.Stop Go.Extern

/-- What package seal reads of the world: its errors, some int in the library's MaxLen, the powers of ten. -/
structure EnvE (a : Nat → Addr) (w : World) : Prop where
  errs : EV slS a w
  len : ∃ m, w.cell? ⟨17, 0, none⟩ = some (.int .i64 m)
  tab : Lib.TabIs Tryd.prog w "internal/strconv.uint64pow10" .u64 Lib.pow10Tab
/-- The same where all sixteen errors are at hand. -/
structure Env (a : Nat → Addr) (w : World) : Prop where
  errs : Errs a w
  len : ∃ m, w.cell? ⟨17, 0, none⟩ = some (.int .i64 m)
  tab : Lib.TabIs Tryd.prog w "internal/strconv.uint64pow10" .u64 Lib.pow10Tab
theorem Env.s {a : Nat → Addr} {w : World} (h : Env a w) : EnvE a w := ⟨h.errs.ev _, h.len, h.tab⟩
theorem data_at (l : List UInt8) (j : Nat) : (Sl.ofL l).data[j]! = l[j]! := by
  show l.toArray[j]! = l[j]!
  simp
theorem list_bang (l : List UInt8) (j : Nat) (hj : j < l.length) : l[j]! = l[j] := getElem!_pos l j hj
theorem lastIdx_none (s : ByteArray) (h : (32 : UInt8) ∉ s.data.toList) : Lib.lastIndexByte s 32 = -1 := by
  rcases Lib.lastIndexByte_spec s 32 with ⟨e, _⟩ | ⟨i, hi, _, hc, _⟩
  · exact e
  · exfalso
    rw [← Sl.ofL_toL s, data_at] at hc
    have hi' : i < s.data.toList.length := by rw [size_list]; exact hi
    rw [list_bang _ _ hi'] at hc
    have h32 : (32 : UInt8).toNat = 32 := by decide
    have : s.data.toList[i] = 32 := UInt8.toNat_inj.1 (by omega)
    exact h (this ▸ List.getElem_mem hi')
theorem lastIdx_cut (s : ByteArray) (a t : List UInt8) (hs : s.data.toList = a ++ 32 :: t) (ht : (32 : UInt8) ∉ t) : Lib.lastIndexByte s 32 = (a.length : Int) := by
  have h32 : (32 : UInt8).toNat = 32 := by decide
  have hsz : s.size = a.length + 1 + t.length := by rw [← size_list, hs]; simp; omega
  have hat : ∀ j (hj : j < (a ++ 32 :: t).length), s.data[j]! = (a ++ 32 :: t)[j] := fun j hj => by
    rw [← Sl.ofL_toL s, data_at, hs, list_bang _ _ hj]
  have hlen : (a ++ 32 :: t).length = a.length + 1 + t.length := by simp; omega
  have ha : s.data[a.length]! = 32 := by
    rw [hat a.length (by omega)]
    simp
  rcases Lib.lastIndexByte_spec s 32 with ⟨_, hn⟩ | ⟨i, hi, e, hc, hn⟩
  · exfalso
    refine hn a.length (by omega) ?_
    rw [ha]; rfl
  · rw [e]
    rcases Nat.lt_trichotomy i a.length with g | g | g
    · exfalso
      refine hn a.length g (by omega) ?_
      rw [ha]; rfl
    · rw [g]
    · exfalso
      obtain ⟨k, rfl⟩ : ∃ k, i = a.length + 1 + k := ⟨i - a.length - 1, by omega⟩
      rw [hat _ (by omega), List.getElem_append_right (by omega)] at hc
      have hk : k < t.length := by omega
      have : (32 :: t)[a.length + 1 + k - a.length]? = some t[k] := by
        rw [show a.length + 1 + k - a.length = k + 1 by omega, List.getElem?_cons_succ, List.getElem?_eq_getElem hk]
      rw [List.getElem?_eq_getElem (by simp; omega)] at this
      rw [Option.some.inj this] at hc
      have : t[k] = 32 := UInt8.toNat_inj.1 (by omega)
      exact ht (this ▸ List.getElem_mem hk)

theorem results_row_tmp {P : Program} {fn : Func} {p u : Tmp} {ty : TypeId} (h : fn.results = #[.cell p ty, .tmp u]) (tmps : Array Value) (w : World) (g : Nat) (t : TypeId) (cs : Array Value) (fr : Nat × Nat) (d : TypeDesc)
    (hp : tmps.getD p undef = .pointer (some ⟨g, 0, none⟩)) (hg : w.heap[g]? = some (.cells cs t fr))
    (hu : P.underlying ty = some d) (hd : (match d with | .struct _ | .array _ _ => true | _ => false) = true) (hi : (P.info? ty).map (·.size) = some cs.size) :
    (results fn tmps).run P w = .ok (.tuple #[.agg cs, tmps.getD u undef]) w := by
  rw [results_cell_tmp h, hp]
  simp [asAddr, run_loadVar_row w g t ty cs fr d hg hu hd hi, Result.andThen]
/-- An error's variable reads on behind a new block. -/
theorem EV.later {S : Nat → Bool} {a : Nat → Addr} {w : World} (h : EV S a w) (i : Nat) (hi : i < 16) (hs : S i = true) (o : Obj) : (w.alloc o).cell? ⟨errG.getD i 0, 0, none⟩ = some (eV (a i)) := by
  have := h.var i hi hs
  rw [((Below.refl w.heap.size w).alloc (Nat.le_refl _) o).cell (p := ⟨errG.getD i 0, 0, none⟩) (cell_lt this)]; exact this
theorem Errs.later {a : Nat → Addr} {w : World} (h : Errs a w) (i : Nat) (hi : i < 16) (o : Obj) : (w.alloc o).cell? ⟨errG.getD i 0, 0, none⟩ = some (eV (a i)) := by
  have := h.var i hi
  rw [((Below.refl w.heap.size w).alloc (Nat.le_refl _) o).cell (p := ⟨errG.getD i 0, 0, none⟩) (cell_lt this)]; exact this

theorem pieces_len : ∀ l : List UInt8, (Sl.pieces l).length ≤ l.length + 1
  | [] => by simp [Sl.pieces]
  | b :: l => by
    have ih := pieces_len l
    unfold Sl.pieces
    split
    · simp; omega
    · simp; omega
theorem pieces_part (l w : List UInt8) (h : w ∈ Sl.pieces l) : w.length ≤ l.length := by
  have e := Sl.join_pieces l
  have hlen : ∀ (ws : List (List UInt8)), w ∈ ws → w.length ≤ (Lib.join ws [32]).length := by
    intro ws
    induction ws with
    | nil => intro h; simp at h
    | cons x r ih =>
      intro h
      by_cases hr : r = []
      · subst hr
        rw [Lib.join_one]
        have : w = x := by simpa using h
        rw [this]; exact Nat.le_refl _
      · rw [Sl.join_cons2 _ _ hr]
        simp only [List.length_append, List.length_cons]
        rcases List.mem_cons.1 h with rfl | h
        · omega
        · have := ih h
          omega
  have := hlen _ h
  rwa [e] at this
theorem row_set3 {w : World} {g : Nat} {t : TypeId} {x y z : Value} (h : w.heap[g]? = some (.cells #[x, y, z] t (0, 0))) (a b c : Value) :
    (((w.setCell ⟨g, 0, none⟩ a).setCell ⟨g, 1, none⟩ b).setCell ⟨g, 2, none⟩ c).heap[g]? = some (.cells #[a, b, c] t (0, 0)) := by
  have h1 := heap_setCell_same w g 0 _ t a h
  have h2 := heap_setCell_same _ g 1 _ t b h1
  have h3 := heap_setCell_same _ g 2 _ t c h2
  exact h3
/-- The row of the result's block, cell by cell. -/
theorem row_cells {w : World} {g : Nat} {t : TypeId} {x y z : Value} (h : w.heap[g]? = some (.cells #[x, y, z] t (0, 0))) :
    w.cell? ⟨g, 0, none⟩ = some x ∧ w.cell? ⟨g, 1, none⟩ = some y ∧ w.cell? ⟨g, 2, none⟩ = some z ∧ w.frozen? ⟨g, 0, none⟩ = false ∧ w.frozen? ⟨g, 1, none⟩ = false ∧ w.frozen? ⟨g, 2, none⟩ = false :=
  ⟨cell_of_row w g 0 _ t _ h, cell_of_row w g 1 _ t _ h, cell_of_row w g 2 _ t _ h, frozen_of_row w g 0 _ t h, frozen_of_row w g 1 _ t h, frozen_of_row w g 2 _ t h⟩

theorem wrongI_cases (xs : List ByteArray) : (wrongI xs = -1 ∧ ∀ x ∈ xs, Sl.wordL x.data.toList = true) ∨ (∃ k : Nat, ∃ hk : k < xs.length, wrongI xs = k ∧ Sl.wordL xs[k].data.toList = false) := by
  unfold wrongI
  cases h : xs.findIdx? (fun x => !Sl.wordL x.data.toList) with
  | none =>
    refine Or.inl ⟨rfl, fun x hx => ?_⟩
    have := List.findIdx?_eq_none_iff.1 h x hx
    simpa using this
  | some k =>
    obtain ⟨hk, h2, _⟩ := List.findIdx?_eq_some_iff_getElem.1 h
    exact Or.inr ⟨k, hk, rfl, by simpa using h2⟩

/-- What take answers of a text with a blank: ok says whether it is a sealed one. -/
def TakePost (a : Nat → Addr) (ok : Bool) (hd tl : List UInt8) (e : Ending) (w' : World) : Prop :=
  if ok = true then ∃ b, Texts w' b 0 ((Sl.pieces hd).map Sl.ofL) ∧ e = .returned (.tuple #[.agg #[.string (Sl.ofL hd), .slice (some ⟨b, 0, none⟩) (Sl.pieces hd).length (Sl.pieces hd).length, .int .i64 (Sl.valL tl)], .nilIface])
  else e = .returned (.tuple #[.agg #[.string ⟨#[]⟩, .slice none 0 0, .int .i64 0], eV (a 0)])
theorem take_no (a : Nat → Addr) (ok : Bool) (hd tl : List UInt8) (e : Ending) (w' : World) (h : ok = false) (he : e = .returned (.tuple #[.agg #[.string ⟨#[]⟩, .slice none 0 0, .int .i64 0], eV (a 0)])) : TakePost a ok hd tl e w' := by
  unfold TakePost
  rw [h, if_neg (by decide)]
  exact he
theorem take_yes (a : Nat → Addr) (ok : Bool) (hd tl : List UInt8) (e : Ending) (w' : World) (h : ok = true) (b : Nat) (hx : Texts w' b 0 ((Sl.pieces hd).map Sl.ofL))
    (he : e = .returned (.tuple #[.agg #[.string (Sl.ofL hd), .slice (some ⟨b, 0, none⟩) (Sl.pieces hd).length (Sl.pieces hd).length, .int .i64 (Sl.valL tl)], .nilIface])) : TakePost a ok hd tl e w' := by
  unfold TakePost
  rw [h, if_pos rfl]
  exact ⟨b, hx, he⟩
theorem Texts.set {w : World} {b o : Nat} {xs : List ByteArray} (h : Texts w b o xs) {p : Addr} (hp : p.block ≠ b) (v : Value) : Texts (w.setCell p v) b o xs := fun j hj => by
  rw [World.cell?_setCell_other _ _ _ _ (fun e => hp (by rw [e]))]; exact h j hj

end Go.Proofs.YteabincmopeljadDoor

/-
  Floors as a text, plainly: pieces between a byte, one floor's text and what is read of it, and that what is written is read as it was.
  What package floor's Text gives: the text of right floors, or an error; for every list.
  What package floor's readOne answers of a piece of a text: its floor and true, or false; for every text.
  What the document's answer's FloorsFault gives: the fault of any list; and that an error of the program with that number and place is faulted.
-/
import Derived.Test.YteabincmopeljaeGreatDoorFloorPlain
import Derived.Test.YteabincmopeljaeGreatDoorSealPlain
import Derived.Test.YteabincmopeljaeGreatDoorFloorCheck
import Derived.Test.YteabincmopeljaeGreatDoorSealNumber
import Derived.Deep.RegionHeld3
import Derived.Laws.MakeOwn
import Derived.Laws.ResultCell
import Derived.Laws.NewBlocks
import Derived.Test.YteabincmopeljaeGreatDoorFloorRef
import Derived.Test.YteabincmopeljaeGreatDoorCoded
namespace Go.Proofs.YteabincmopeljaeGreatDoor
open Go

/-- Bytes as a text. -/
abbrev txt (l : List UInt8) : ByteArray := ⟨l.toArray⟩
theorem txt_list (l : List UInt8) : (txt l).data.toList = l := rfl
theorem txt_back (s : ByteArray) : txt s.data.toList = s := rfl
theorem txt_size (l : List UInt8) : (txt l).size = l.length := by
  show l.toArray.size = _
  simp

/-- Pieces between a byte. -/
def cutB (c : UInt8) : List UInt8 → List (List UInt8)
  | [] => [[]]
  | b :: l => if b = c then [] :: cutB c l else (b :: (cutB c l).headD []) :: (cutB c l).tail
theorem cutB_ne (c : UInt8) : ∀ l, cutB c l ≠ []
  | [] => by simp [cutB]
  | b :: l => by unfold cutB; split <;> simp
theorem cutB_cut (c : UInt8) (t : List UInt8) : ∀ a, cutB c (a ++ c :: t) = cutB c a ++ cutB c t
  | [] => by simp [cutB]
  | b :: a => by
    rw [List.cons_append]
    by_cases h : b = c
    · simp only [cutB, if_pos h, cutB_cut c t a, List.cons_append]
    · simp only [cutB, if_neg h, cutB_cut c t a, List.cons_append]
      rw [Sl.headD_append _ _ _ (cutB_ne c a), Sl.tail_append _ _ (cutB_ne c a)]
theorem cutB_plain (c : UInt8) : ∀ l : List UInt8, c ∉ l → cutB c l = [l]
  | [], _ => rfl
  | b :: l, h => by
    have hb : b ≠ c := fun e => h (by simp [e])
    simp only [cutB, if_neg hb, cutB_plain c l (fun e => h (by simp [e]))]
    rfl
theorem cutB_snoc (c b : UInt8) (hb : b ≠ c) : ∀ (a : List UInt8) (o : List (List UInt8)) (l : List UInt8), cutB c a = o ++ [l] → cutB c (a ++ [b]) = o ++ [l ++ [b]]
  | [], o, l, h => by
    have : o = [] ∧ l = [] := by
      cases o with
      | nil => simp [cutB] at h; exact ⟨rfl, h⟩
      | cons x o => simp [cutB] at h
    obtain ⟨rfl, rfl⟩ := this
    simp [cutB, hb]
  | e :: a, o, l, h => by
    rw [List.cons_append]
    obtain ⟨o', l', hp⟩ : ∃ o' l', cutB c a = o' ++ [l'] := ⟨(cutB c a).dropLast, (cutB c a).getLast (cutB_ne c a), (List.dropLast_concat_getLast (cutB_ne c a)).symm⟩
    have ih := cutB_snoc c b hb a o' l' hp
    by_cases he : e = c
    · simp only [cutB, if_pos he, hp, ih] at h ⊢
      have h2 : ([] :: o') ++ [l'] = o ++ [l] := by simpa using h
      obtain ⟨rfl, e⟩ := List.append_inj' h2 rfl
      injection e with e
      subst e
      rfl
    · simp only [cutB, if_neg he, hp, ih] at h ⊢
      cases o' with
      | nil =>
        simp only [List.nil_append, List.headD_cons, List.tail_cons] at h ⊢
        cases o with
        | nil => simp at h; subst h; simp
        | cons x o => simp at h
      | cons x o' =>
        simp only [List.cons_append, List.headD_cons, List.tail_cons] at h ⊢
        have h2 : ((e :: x) :: o') ++ [l'] = o ++ [l] := by simpa using h
        obtain ⟨rfl, e2⟩ := List.append_inj' h2 rfl
        injection e2 with e2
        subst e2
        rfl
theorem cutB_len (c : UInt8) : ∀ l, (cutB c l).length ≤ l.length + 1
  | [] => by simp [cutB]
  | b :: l => by
    have := cutB_len c l
    by_cases h : b = c
    · simp only [cutB, if_pos h, List.length_cons]; omega
    · simp only [cutB, if_neg h, List.length_cons, List.length_tail]; omega
theorem join_cons2c (c : UInt8) (x : List UInt8) (r : List (List UInt8)) (hr : r ≠ []) : Lib.join (x :: r) [c] = x ++ c :: Lib.join r [c] := by
  cases r with
  | nil => exact absurd rfl hr
  | cons y r => rw [Lib.join_cons, Lib.join_cons]; simp [Lib.joinTail]
theorem join_snocc (c : UInt8) (w : List UInt8) : ∀ (r : List (List UInt8)), r ≠ [] → Lib.join (r ++ [w]) [c] = Lib.join r [c] ++ c :: w
  | [], h => absurd rfl h
  | x :: r, _ => by
    rw [List.cons_append]
    by_cases hr : r = []
    · subst hr; rw [List.nil_append, join_cons2c c _ _ (by simp), Lib.join_one, Lib.join_one]
    · rw [join_cons2c c _ _ (by simp), join_snocc c w r hr, join_cons2c c _ _ hr]; simp
theorem cutB_join (c : UInt8) : ∀ (ws : List (List UInt8)), ws ≠ [] → (∀ w ∈ ws, c ∉ w) → cutB c (Lib.join ws [c]) = ws
  | [], h, _ => absurd rfl h
  | [x], _, hc => by rw [Lib.join_one]; exact cutB_plain c x (hc x (by simp))
  | x :: y :: r, _, hc => by
    rw [join_cons2c c _ _ (by simp), cutB_cut, cutB_plain c x (hc x (by simp)), cutB_join c (y :: r) (by simp) (fun w hw => hc w (by simp [hw]))]
    rfl
theorem join_len (c : UInt8) (M : Nat) : ∀ (ws : List (List UInt8)), (∀ w ∈ ws, w.length ≤ M) → (Lib.join ws [c]).length ≤ ws.length * (M + 1)
  | [], _ => by rw [Lib.join_nil]; simp
  | [x], h => by rw [Lib.join_one]; have := h x (by simp); simp; omega
  | x :: y :: r, h => by
    have ih := join_len c M (y :: r) (fun w hw => h w (by simp [hw]))
    have hx := h x (by simp)
    rw [join_cons2c c _ _ (by simp), List.length_append, List.length_cons, List.length_cons, Nat.add_mul]
    omega

/-! ### One floor's text -/

def oneT (f : Fl) : List UInt8 := f.nm ++ 58 :: Lib.decDigits f.ep.toNat
def textL (l : List Fl) : List UInt8 := if l = [] then [45] else Lib.join (l.map oneT) [44]
/-- What is ahead of a byte, and behind it. -/
def aheadB (c : UInt8) (l : List UInt8) : List UInt8 := l.takeWhile (fun b => b != c)
def behindB (c : UInt8) (l : List UInt8) : List UInt8 := (l.dropWhile (fun b => b != c)).drop 1
/-- A number, whatever its size. -/
def numAny (l : List UInt8) : Bool := Sl.numOk l
def readOneL (p : List UInt8) : Option Fl := if 58 ∈ p then (if numAny (behindB 58 p) = true then some ⟨txt (aheadB 58 p), (Sl.valL (behindB 58 p) : Nat)⟩ else none) else none
def readAllL : List (List UInt8) → Option (List Fl)
  | [] => some []
  | p :: ps => match readOneL p with
    | none => none
    | some f => match readAllL ps with
      | none => none
      | some l => some (f :: l)
theorem readAllL_cons (p : List UInt8) (ps : List (List UInt8)) : readAllL (p :: ps) = match readOneL p with | none => none | some f => match readAllL ps with | none => none | some l => some (f :: l) := rfl
def readL (s : List UInt8) : Option (List Fl) := if s = [45] then some [] else readAllL (cutB 44 s)
def readC (s : List UInt8) : Nat × Int := match readL s with | none => (1, -1) | some l => checkL l
def readR (s : List UInt8) : List Fl := match readL s with | none => [] | some l => if (checkL l).1 = 0 then l else []

theorem ahead_cut (c : UInt8) (t : List UInt8) : ∀ a : List UInt8, c ∉ a → aheadB c (a ++ c :: t) = a ∧ behindB c (a ++ c :: t) = t
  | [], _ => ⟨by simp [aheadB], by simp [behindB]⟩
  | b :: a, h => by
    have hb : (b != c) = true := bne_iff_ne.2 (fun e => h (by simp [e]))
    obtain ⟨h1, h2⟩ := ahead_cut c t a (fun e => h (by simp [e]))
    constructor
    · show (b :: (a ++ c :: t)).takeWhile _ = _
      rw [List.takeWhile_cons_of_pos (p := fun b => b != c) hb]
      exact congrArg (b :: ·) h1
    · show ((b :: (a ++ c :: t)).dropWhile _).drop 1 = _
      rw [List.dropWhile_cons_of_pos (p := fun b => b != c) hb]
      exact h2
theorem small_not {b : UInt8} (h : Sl.smallB b = true) : b ≠ 44 ∧ b ≠ 58 ∧ b ≠ 45 := by
  unfold Sl.smallB Sl.digB at h
  simp at h
  have e1 : (44 : UInt8).toNat = 44 := by decide
  have e2 : (58 : UInt8).toNat = 58 := by decide
  have e3 : (45 : UInt8).toNat = 45 := by decide
  exact ⟨fun e => by rw [e] at h; omega, fun e => by rw [e] at h; omega, fun e => by rw [e] at h; omega⟩
theorem nm_not {f : Fl} (h : oneE f = 0) : ∀ b ∈ f.nm, b ≠ 44 ∧ b ≠ 58 ∧ b ≠ 45 := by
  intro b hb
  rcases one_name h with e | e
  · rw [e] at hb
    have : b = 42 := by simpa [star] using hb
    subst this
    decide
  · unfold Sl.nameL Sl.madeL at e
    simp only [Bool.and_eq_true, decide_eq_true_eq] at e
    exact small_not (List.all_eq_true.1 e.2 b hb)
theorem nm_len {f : Fl} (h : oneE f = 0) : f.nm.length ≤ 8 := by
  rcases one_name h with e | e
  · rw [e]; decide
  · unfold Sl.nameL Sl.madeL at e
    simp only [Bool.and_eq_true, decide_eq_true_eq] at e
    exact e.1.2
theorem dec_not (u : Nat) : ∀ b ∈ Lib.decDigits u, b ≠ 44 ∧ b ≠ 58 ∧ b ≠ 45 := fun b hb => by
  have := List.all_eq_true.1 (Sl.dec_all u) b hb
  exact small_not (by unfold Sl.smallB; rw [this]; rfl)
theorem one_cut {f : Fl} (h : oneE f = 0) : (44 : UInt8) ∉ oneT f := by
  intro hm
  unfold oneT at hm
  rcases List.mem_append.1 hm with e | e
  · exact (nm_not h _ e).1 rfl
  · rcases List.mem_cons.1 e with e | e
    · exact absurd e (by decide)
    · exact (dec_not _ _ e).1 rfl
theorem one_len {f : Fl} (h : oneE f = 0) : (oneT f).length ≤ 30 := by
  have h1 := nm_len h
  have h2 := one_pos h
  have h3 : (Lib.decDigits f.ep.toNat).length ≤ 10 := by
    have := (Sl.numOk_iff _).1 (Sl.dec_ok f.ep.toNat (by omega))
    exact this.1.2
  unfold oneT
  rw [List.length_append, List.length_cons]
  omega
theorem read_one {f : Fl} (h : oneE f = 0) : readOneL (oneT f) = some f := by
  have h2 := one_pos h
  have hn : (58 : UInt8) ∉ f.nm := fun e => (nm_not h _ e).2.1 rfl
  obtain ⟨e1, e2⟩ := ahead_cut 58 (Lib.decDigits f.ep.toNat) f.nm hn
  unfold readOneL oneT
  rw [if_pos (by simp), e1, e2, if_pos (show numAny _ = true from Sl.dec_ok _ (by omega)), Sl.dec_val]
  congr 1
  refine Fl.same rfl ?_
  show ((f.ep.toNat : Nat) : Int) = f.ep
  omega
theorem read_all : ∀ (l : List Fl), (∀ f ∈ l, oneE f = 0) → readAllL (l.map oneT) = some l
  | [], _ => rfl
  | f :: l, h => by
    rw [List.map_cons, readAllL_cons, read_one (h f (by simp)), read_all l (fun g hg => h g (by simp [hg]))]
/-- What is written is read as it was. -/
theorem read_text {l : List Fl} (h : RightF l) : readL (textL l) = some l := by
  unfold readL textL
  by_cases hl : l = []
  · subst hl; rw [if_pos rfl, if_pos rfl]
  · rw [if_neg hl]
    have hne : l.map oneT ≠ [] := by simpa using hl
    have hc := cutB_join 44 (l.map oneT) hne (fun w hw => by
      obtain ⟨f, hf, rfl⟩ := List.mem_map.1 hw
      exact one_cut (h.one f hf))
    rw [if_neg, hc, read_all l h.one]
    intro e
    rw [e, cutB_plain 44 [45] (by decide)] at hc
    match l, hl, hc with
    | f :: l, _, hc =>
      rw [List.map_cons] at hc
      injection hc with hc _
      have : (58 : UInt8) ∈ oneT f := by unfold oneT; simp
      rw [← hc] at this
      exact absurd this (by decide)
theorem readC_text {l : List Fl} (h : RightF l) (hl : l.length ≤ 21) : (readC (textL l)).1 = 0 ∧ readR (textL l) = l := by
  unfold readC readR
  rw [read_text h]
  have : checkL l = (0, -1) := by rw [check_right h, if_neg (by omega)]
  exact ⟨by show (checkL l).1 = 0; rw [this], by show (if (checkL l).1 = 0 then l else []) = l; rw [this]; rfl⟩
theorem readAll_append : ∀ (a b : List (List UInt8)), readAllL (a ++ b) = match readAllL a with | none => none | some l => (readAllL b).map (l ++ ·)
  | [], b => by show readAllL b = (readAllL b).map _; cases readAllL b <;> rfl
  | p :: a, b => by
    rw [List.cons_append, readAllL_cons, readAllL_cons, readAll_append a b]
    cases readOneL p with
    | none => rfl
    | some f =>
      cases readAllL a with
      | none => rfl
      | some l => cases readAllL b <;> rfl
end Go.Proofs.YteabincmopeljaeGreatDoor

namespace Go.Proofs.YteabincmopeljaeGreatDoor
open Go.RowKit Go.Extern.Stop Go.Stop Go.Extern Go.Proofs

theorem below_growF (w : World) (k : Nat) (os : Array Obj) : Below w.heap.size w (Sort.grow (w.drewN k) os) := by
  refine ⟨rfl, rfl, rfl, ?_, fun j hj => ?_⟩
  · show w.heap.size ≤ (w.heap ++ os).size
    rw [Array.size_append]; omega
  · exact Sort.heap_grow_old (w.drewN k) os hj
/-- The table of powers of ten, as strconv reads it. -/
abbrev Tab10 (w : World) : Prop := Lib.TabIs Tryz.prog w "internal/strconv.uint64pow10" .u64 Lib.pow10Tab
theorem Tryz.infoStringF : (Tryz.prog.info? 9).map (fun i => (i.zero, i.size, i.bytes)) = some (some (.string ByteArray.empty), 1, 16) := by kernel_rfl

/-- A row of texts being filled: the first k are those of the floors. -/
def PartsAt (w : World) (pb n : Nat) (l : List Fl) (k : Nat) : Prop := ∃ cur : Array Value, w.heap[pb]? = some (.cells cur 9 (0, 0)) ∧ cur.size = n ∧ ∀ j (hj : j < l.length), j < k → cur[j]? = some (.string (txt (oneT l[j])))
theorem PartsAt.keep {w w' : World} {pb n : Nat} {l : List Fl} {k : Nat} (h : PartsAt w pb n l k) (hb : w'.heap[pb]? = w.heap[pb]?) : PartsAt w' pb n l k := by
  obtain ⟨cur, h1, h2⟩ := h
  exact ⟨cur, by rw [hb]; exact h1, h2⟩
theorem PartsAt.lt {w : World} {pb n : Nat} {l : List Fl} {k : Nat} (h : PartsAt w pb n l k) : pb < w.heap.size := by
  obtain ⟨cur, h1, _⟩ := h
  exact row_lt h1
theorem PartsAt.spot {w : World} {pb n : Nat} {l : List Fl} {k : Nat} (h : PartsAt w pb n l k) (i : Nat) (hi : i < n) : (∃ v, w.cell? ⟨pb, i, none⟩ = some v) ∧ w.frozen? ⟨pb, i, none⟩ = false := by
  obtain ⟨cur, h1, h2, _⟩ := h
  rw [cell_of_row w pb i cur _ _ h1]
  exact ⟨⟨cur[i]'(by omega), Array.getElem?_eq_getElem _⟩, frozen_of_row w pb i cur _ h1⟩
theorem PartsAt.set {w : World} {pb n : Nat} {l : List Fl} {k : Nat} (h : PartsAt w pb n l k) (hk : k < l.length) (hn : l.length = n) : PartsAt (w.setCell ⟨pb, k, none⟩ (.string (txt (oneT l[k])))) pb n l (k + 1) := by
  obtain ⟨cur, h1, h2, h3⟩ := h
  refine ⟨cur.setIfInBounds k (.string (txt (oneT l[k]))), heap_setCell_same w pb k cur _ _ h1, by simpa using h2, fun j hj hjk => ?_⟩
  by_cases e : j = k
  · subst e
    rw [Array.getElem?_setIfInBounds_self_of_lt (by omega)]
  · rw [Array.getElem?_setIfInBounds_ne (Ne.symm e)]
    exact h3 j hj (by omega)
theorem PartsAt.texts {w : World} {pb n : Nat} {l : List Fl} (h : PartsAt w pb n l n) (hn : l.length = n) : ∀ (j : Nat) x, (l.map fun f => txt (oneT f))[j]? = some x → w.cell? ⟨pb, 0 + j, none⟩ = some (.string x) := fun j x hj => by
  obtain ⟨cur, h1, h2, h3⟩ := h
  rw [Nat.zero_add, cell_of_row w pb j cur _ _ h1]
  rw [List.getElem?_map] at hj
  cases hl : l[j]? with
  | none => rw [hl] at hj; cases hj
  | some f =>
    obtain ⟨hjl, hf⟩ := List.getElem?_eq_some_iff.1 hl
    rw [hl] at hj
    rw [h3 j hjl (by omega), hf]
    exact congrArg (fun x => some (Value.string x)) (Option.some.inj hj)
theorem PartsAt.made {w w' : World} {n : Nat} {l : List Fl} (h : w'.ownsRow w.heap.size 9 1 (.slice (some ⟨w.heap.size, 0, none⟩) n n) n (madeCells (Value.string ByteArray.empty).cells (n * 1)).toList) : PartsAt w' w.heap.size n l 0 := by
  rcases h.2 with ⟨e, _⟩ | ⟨g, cap, cur, e, _, hg, _, _, hs, _⟩
  · cases e
  · injection e with e1 e2 e3
    injection e1 with e1
    injection e1 with e1
    subst e1; subst e3
    exact ⟨cur, hg, by omega, fun j _ hj => absurd hj (Nat.not_lt_zero _)⟩

/-- A text, or an error. -/
def TextPost (a : Nat → Addr) (c : Nat × Int) (t : List UInt8) (e : Ending) (w' : World) : Prop := (c.1 = 0 ∧ e = .returned (.tuple #[.string (txt t), .nilIface])) ∨ (c.1 ≠ 0 ∧ ∃ t p, e = .returned (.tuple #[.string ByteArray.empty, .iface t p]) ∧ FlErr a w' c (.iface t p))

end Go.Proofs.YteabincmopeljaeGreatDoor

namespace Go.Proofs.YteabincmopeljaeGreatDoor
open Go.RowKit Go.Extern.Stop Go.Stop Go.Extern Go.Proofs

theorem indexB_none (c : UInt8) : ∀ l : List UInt8, c ∉ l → Lib.indexByte l c = -1
  | [], _ => rfl
  | b :: l, h => by
    have hb : (b == c) = false := beq_eq_false_iff_ne.2 (fun e => h (by simp [e]))
    unfold Lib.indexByte
    rw [hb, indexB_none c l (fun e => h (by simp [e]))]
    rfl
theorem indexB_some (c : UInt8) (t : List UInt8) : ∀ a : List UInt8, c ∉ a → Lib.indexByte (a ++ c :: t) c = (a.length : Int)
  | [], _ => by unfold Lib.indexByte; simp
  | b :: a, h => by
    have hb : (b == c) = false := beq_eq_false_iff_ne.2 (fun e => h (by simp [e]))
    rw [List.cons_append]
    unfold Lib.indexByte
    rw [hb, indexB_some c t a (fun e => h (by simp [e]))]
    have : (((a.length : Int)) == -1) = false := by rw [beq_eq_false_iff_ne]; omega
    simp [this]
theorem extract_ahead (s : ByteArray) (a t : List UInt8) (c : UInt8) (h : s.data.toList = a ++ c :: t) : s.extract 0 a.length = txt a ∧ s.extract (a.length + 1) s.size = txt t := by
  have hl := congrArg List.length h
  rw [size_list] at hl
  constructor
  · refine Go.WideShapes.bytes_inj ?_
    rw [Lib.extract_data, h]
    simp
  · refine Go.WideShapes.bytes_inj ?_
    rw [Lib.extract_data, h, hl]
    simp
    exact List.take_of_length_le (by omega)
theorem first_cut (c : UInt8) (l : List UInt8) : (c ∉ l) ∨ ∃ a t, l = a ++ c :: t ∧ c ∉ a := by
  by_cases h : c ∈ l
  · exact Or.inr (Sl.first_blank c l h)
  · exact Or.inl h

/-- What Cut gives at one byte. -/
def cutV (c : UInt8) (s : ByteArray) : Array Value := if c ∈ s.data.toList then #[.string (txt (aheadB c s.data.toList)), .string (txt (behindB c s.data.toList)), .bool true] else #[.string s, .string ⟨#[]⟩, .bool false]
theorem cutV_no {c : UInt8} {s : ByteArray} (h : c ∉ s.data.toList) : cutV c s = #[.string s, .string ⟨#[]⟩, .bool false] := if_neg h
theorem cutV_yes {c : UInt8} {s : ByteArray} (h : c ∈ s.data.toList) : cutV c s = #[.string (txt (aheadB c s.data.toList)), .string (txt (behindB c s.data.toList)), .bool true] := if_pos h

theorem num_big (l : List UInt8) : numB l 9223372036854775807 = numAny l := by
  unfold numB numAny
  cases h : Sl.numOk l with
  | false => rfl
  | true =>
    obtain ⟨h1, h2, _⟩ := (Sl.numOk_iff l).1 h
    have := Sl.valL_lt l h2 h1.2
    rw [decide_eq_true (by omega)]
    rfl
theorem numV_big {l : List UInt8} (h : numAny l = true) : numV l 9223372036854775807 = (Sl.valL l : Int) := by
  unfold numV
  rw [num_big, if_pos h]
theorem ahead_le (c : UInt8) (l : List UInt8) : (aheadB c l).length ≤ l.length := (List.takeWhile_sublist _).length_le
theorem behind_le (c : UInt8) (l : List UInt8) : (behindB c l).length ≤ l.length := by
  unfold behindB
  rw [List.length_drop]
  have := (List.dropWhile_sublist (fun b => b != c) (l := l)).length_le
  omega

theorem res_cell_tmp {P : Program} {fn : Func} {p u : Tmp} {ty : TypeId} (h : fn.results = #[.cell p ty, .tmp u]) (tmps : Array Value) (w : World) (g : Nat) (t : TypeId) (cs : Array Value) (fr : Nat × Nat) (d : TypeDesc)
    (hp : tmps.getD p undef = .pointer (some ⟨g, 0, none⟩)) (hg : w.heap[g]? = some (.cells cs t fr))
    (hu : P.underlying ty = some d) (hd : (match d with | .struct _ | .array _ _ => true | _ => false) = true) (hi : (P.info? ty).map (·.size) = some cs.size) :
    (results fn tmps).run P w = .ok (.tuple #[.agg cs, tmps.getD u undef]) w := by
  rw [results_cell_tmp h, hp]
  simp [asAddr, run_loadVar_row w g t ty cs fr d hg hu hd hi, Result.andThen]
/-- What readOne gives. -/
def rdV : Option Fl → Array Value
  | some f => #[.agg #[.string f.who, .int .i64 f.ep], .bool true]
  | none => #[.agg #[.string ByteArray.empty, .int .i64 0], .bool false]
theorem set2_row {w : World} {b : Nat} {x y : Value} {t : TypeId} (h : w.heap[b]? = some (.cells #[x, y] t (0, 0))) (u v : Value) : ((w.setCell ⟨b, 0, none⟩ u).setCell ⟨b, 0 + 1, none⟩ v).heap[b]? = some (.cells #[u, v] t (0, 0)) :=
  heap_setCell_same _ b 1 _ _ _ (heap_setCell_same w b 0 _ _ _ h)

end Go.Proofs.YteabincmopeljaeGreatDoor

namespace Go.Proofs.YteabincmopeljaeGreatDoor
open Go.RowKit Go.Extern.Stop Go.Stop Go.Extern Go.Proofs

theorem faulted2_same (ev : Value) (c at0 : Int) (w : World)
    (hc : ∀ w', Below w.heap.size w w' → Calls Tryz.prog 26 #[ev] w' fun e w'' => e = .returned (.tuple #[.int .i64 c, .int .i64 at0]) ∧ Below w'.heap.size w' w'') :
    Calls Tryz.prog 17 #[ev, .agg #[.int .i64 c, .int .i64 at0]] w fun e w' => e = .returned (.bool true) ∧ Below w.heap.size w w' := by
  have HB0 : Hid (Below w.heap.size w (w.alloc (.cells #[.int .i64 c, .int .i64 at0] 54))) := (Below.refl _ _).alloc (Nat.le_refl _) _
  have HC := hide (hc _ HB0.out)
  have hq1 : (c == c) = true := by simp
  have hq2 : (at0 == at0) = true := by simp
  clear hc
  by_cases h0 : c = 0
  · have hq : (c == 0) = true := by simpa using h0
    clear h0
    go_enter Tryz.func17, Tryz.ntmps17
    go_wp2_with fail
    refine HC.out.mono ?_
    rintro e w1 ⟨rfl, hb⟩
    have h1 : w1.cell? ⟨w.heap.size, 0, none⟩ = some (.int .i64 c) := by rw [hb.cell (p := ⟨w.heap.size, 0, none⟩) (by simp)]; simp
    have HB1 : Hid (Below w.heap.size w w1) := HB0.out.trans (hb.mono HB0.out.size)
    clear hb HC
    go_wp2
    go_ret
    exact ⟨rfl, HB1.out⟩
  · have hq : (c == 0) = false := by simpa using h0
    clear h0
    go_enter Tryz.func17, Tryz.ntmps17
    go_wp2_with fail
    refine HC.out.mono ?_
    rintro e w1 ⟨rfl, hb⟩
    have h1 : w1.cell? ⟨w.heap.size, 0, none⟩ = some (.int .i64 c) := by rw [hb.cell (p := ⟨w.heap.size, 0, none⟩) (by simp)]; simp
    have h2 : w1.cell? ⟨w.heap.size, 1, none⟩ = some (.int .i64 at0) := by rw [hb.cell (p := ⟨w.heap.size, 1, none⟩) (by simp)]; simp
    have HB1 : Hid (Below w.heap.size w w1) := HB0.out.trans (hb.mono HB0.out.size)
    clear hb HC
    go_wp2
    go_ret
    exact ⟨rfl, HB1.out⟩
/-- An error of package floor's, and the document's own. -/
theorem faulted_fl {a : Nat → Addr} {c : Nat × Int} {ev : Value} {w : World} (h : Errs a w) (he : FlErr a w c ev) (h16 : c.1 < 16) (h0 : c.1 = 0 → c.2 = -1) :
    Calls Tryz.prog 17 #[ev, fltV c] w fun e w' => e = .returned (.bool true) ∧ Below w.heap.size w w' := by
  refine faulted2_same ev (c.1 : Int) c.2 w (fun w' hb => ?_)
  rcases he with ⟨hz, rfl⟩ | ⟨hz, hn, rfl⟩ | ⟨hz, b, rfl, hrow⟩
  · rw [h0 hz, hz]
    exact (code_nil w').mono (by rintro e w'' ⟨rfl, rfl⟩; exact ⟨rfl, Below.refl _ _⟩)
  · have := code_err a (c.1 - 1) (by omega) w' (h.below hb)
    rw [hn]
    rwa [show ((c.1 - 1 : Nat) : Int) + 1 = (c.1 : Int) by omega] at this
  · have hr : w'.heap[b]? = some (.cells #[.int .i64 c.2, eV (a (c.1 - 1))] 90 (0, 0)) := (hb.block _ (row_lt hrow)).trans hrow
    have := code_at a (c.1 - 1) (by omega) b 0 c.2 w' (h.below hb) (cell_of_row w' b 0 _ _ _ hr) (cell_of_row w' b 1 _ _ _ hr)
    rwa [show ((c.1 - 1 : Nat) : Int) + 1 = (c.1 : Int) by omega] at this

/-! ### The fault of a list -/
theorem shape_first {l : List Fl} {k : Nat} (hk : k < l.length) (h0 : k = 0) (h1 : oneE l[k] = 0) : badAt l k = 0 ∧ (l[k].nm ≠ star → topL l < l[k].ep) := by
  subst h0
  match l, hk with
  | f :: l, _ =>
    change oneE f = 0 at h1
    have h2 := one_pos h1
    show behindE [] f = 0 ∧ (f.nm ≠ star → topL (f :: l) < f.ep)
    refine ⟨?_, fun hn => ?_⟩
    · unfold behindE
      rw [if_pos h1, if_neg (by rintro ⟨g, hg, _⟩; cases hg), if_neg (by have : topL [] = 0 := rfl; omega)]
    · rw [topL_cons, if_neg hn]
      omega
theorem top_take {l : List Fl} {k : Nat} (hk : 0 < k) : topL (l.take k) = topL l := by
  match l, k, hk with
  | [], k + 1, _ => rfl
  | f :: l, k + 1, _ => rfl
theorem last_take {l : List Fl} {m : Nat} (hm : m + 1 < l.length) : (l.take (m + 1)).getLast? = some (l[m]'(by omega)) := by
  rw [List.take_succ_eq_append_getElem (by omega), List.getLast?_concat]
theorem bad_next {l : List Fl} {m : Nat} (hm : m + 1 < l.length) (h1 : oneE l[m + 1] = 0) : badAt l (m + 1) = if (l[m]'(by omega)).nm < l[m + 1].nm then (if l[m + 1].ep ≤ topL l then 3 else 0) else 8 := by
  unfold badAt
  rw [List.getElem?_eq_getElem hm]
  show behindE (l.take (m + 1)) l[m + 1] = _
  unfold behindE
  rw [if_pos h1, last_take hm, top_take (by omega)]
  by_cases h : (l[m]'(by omega)).nm < l[m + 1].nm
  · rw [if_pos h, if_neg (by rintro ⟨g, hg, hn⟩; injection hg with hg; subst hg; exact hn h)]
  · rw [if_neg h, if_pos ⟨_, rfl, h⟩]
theorem bad_one {l : List Fl} {k : Nat} (hk : k < l.length) (h1 : oneE l[k] ≠ 0) : badAt l k = oneE l[k] := by
  unfold badAt
  rw [List.getElem?_eq_getElem hk]
  show behindE (l.take k) l[k] = _
  unfold behindE
  rw [if_neg h1]
theorem faultEnd {a : Act} {w : World} {R : Ending → World → Prop} (g : Nat) (cs : Array Value) (hp : a.tmps.getD 2 undef = .pointer (some ⟨g, 0, none⟩)) (hg : w.heap[g]? = some (.cells cs 54 (0, 0))) (hn : cs.size = 2) (hd : a.defers = [])
    (hR : R (.returned (.agg cs)) w) : bodyPost Tryz.prog Tryz.f31 R .ret a w :=
  bodyPost_ret (results_cell_row rfl a.tmps w g _ cs (0, 0) _ hp hg Tryz.underlying54 rfl (by rw [hn]; kernel_rfl)) hd hR

set_option maxRecDepth 100000 in
set_option maxHeartbeats 8000000 in
theorem refFault_any (v : Value) (l : List Fl) (w : World) (hv : FlAt w v l) (hs : ∀ f ∈ l, f.who.size ≤ maxLen) (hl : l.length ≤ 1000000) :
    Calls Tryz.prog 31 #[v] w fun e w' => e = .returned (fltV (checkL l)) ∧ Below w.heap.size w w' := by
  have HB0 : Hid (Below w.heap.size w (w.alloc (.cells #[.int .i64 0, .int .i64 0] 54))) := (Below.refl _ _).alloc (Nat.le_refl _) _
  have HR0 : Hid ((w.alloc (.cells #[.int .i64 0, .int .i64 0] 54)).heap[w.heap.size]? = some (.cells #[.int .i64 0, .int .i64 0] 54 (0, 0))) := heap_alloc_new _ _
  -- a fault laid down, and given
  have HEnd : Hid (∀ (W : World) (x y : Value), Below w.heap.size w W → W.heap[w.heap.size]? = some (.cells #[.int .i64 0, .int .i64 0] 54 (0, 0)) → ((W.setCell ⟨w.heap.size, 0, none⟩ x).setCell ⟨w.heap.size, 0 + 1, none⟩ y).heap[w.heap.size]? = some (.cells #[x, y] 54 (0, 0)) ∧ Below w.heap.size w ((W.setCell ⟨w.heap.size, 0, none⟩ x).setCell ⟨w.heap.size, 0 + 1, none⟩ y)) := fun W x y hb hr =>
    ⟨set2_row hr _ _, (hb.setCell (p := ⟨w.heap.size, 0, none⟩) (Nat.le_refl _) _).setCell (p := ⟨w.heap.size, 0 + 1, none⟩) (Nat.le_refl _) _⟩
  have HCl : Hid (∀ (W : World), W.heap[w.heap.size]? = some (.cells #[.int .i64 0, .int .i64 0] 54 (0, 0)) → W.cell? ⟨w.heap.size, 0, none⟩ = some (.int .i64 0) ∧ W.cell? ⟨w.heap.size, 1, none⟩ = some (.int .i64 0) ∧ W.frozen? ⟨w.heap.size, 0, none⟩ = false ∧ W.frozen? ⟨w.heap.size, 1, none⟩ = false) := fun W h =>
    ⟨cell_of_row W _ 0 _ _ _ h, cell_of_row W _ 1 _ _ _ h, frozen_of_row W _ 0 _ _ h, frozen_of_row W _ 1 _ _ h⟩
  obtain ⟨ad, cap, rfl, hc⟩ := hv.form
  have HV := hide hv
  have HS := hide hs
  by_cases h21 : 21 < l.length
  · rw [check_full h21]
    have HBa := hide (fun w => bare_any 7 w)
    generalize l.length = n at *
    have hz : (21 : Int) < (n : Int) := by omega
    clear hv hs
    go_enter Tryz.func31, Tryz.ntmps31
    go_wp2_with fail
    refine (HBa.out _).mono ?_
    rintro e w1 ⟨rfl, hb⟩
    have HR1 : Hid (w1.heap[w.heap.size]? = some (.cells #[.int .i64 0, .int .i64 0] 54 (0, 0))) := (hb.block _ (row_lt HR0.out)).trans HR0.out
    have HB1 : Hid (Below w.heap.size w w1) := HB0.out.trans (hb.mono HB0.out.size)
    obtain ⟨c0, c1, z0, z1⟩ := HCl.out w1 HR1.out
    clear hb
    go_wp2
    obtain ⟨e1, e2⟩ := HEnd.out w1 _ _ HB1.out HR1.out
    refine faultEnd w.heap.size _ rfl e1 rfl rfl ?_
    exact ⟨rfl, e2⟩
  · have HG : Hid ((∀ j, j < l.length → badAt l j = 0) → checkL l = (0, -1)) := fun h => check_good h21 h
    have HBd : Hid (∀ k, k < l.length → (∀ j, j < k → badAt l j = 0) → badAt l k ≠ 0 → checkL l = (badAt l k, (k : Int))) := fun k hk h1 h2 => check_bad h21 hk h1 h2
    have HT := hide (fun w h => refTop_any (.slice ad l.length cap) l w h hl)
    have HF := hide (fun w => fine_any w)
    generalize checkL l = res at *
    generalize hn : l.length = n at *
    have HN := hide hn
    have hz : ¬ (21 : Int) < (n : Int) := by omega
    clear hv hs hn
    go_enter Tryz.func31, Tryz.ntmps31
    go_wp2
    go_loopw [3] (fun i wr => ∃ k : Nat, k ≤ n ∧ i = .int .i64 k ∧ Hid (∀ j, j < k → badAt l j = 0) ∧ Hid (Below w.heap.size w wr ∧ wr.heap[w.heap.size]? = some (.cells #[.int .i64 0, .int .i64 0] 54 (0, 0)))) (fun i _ => n - (intOf i).toNat)
    case atStart => exact ⟨0, Nat.zero_le _, rfl, (show Hid _ from fun j hj => absurd hj (Nat.not_lt_zero _)), (show Hid _ from ⟨HB0.out, HR0.out⟩)⟩
    case round =>
      obtain ⟨k, hk, rfl, HP, HW⟩ := hrel
      clear HB0 HR0
      by_cases hlt : k < n
      · have hkl : k < l.length := by rw [HN.out]; exact hlt
        have hvr := HV.out.below HW.out.1
        rw [← HN.out] at hvr
        obtain ⟨b, off, cap', e, hc', hb, hcell⟩ := hvr.at (by omega)
        injection e with e1 e2 e3
        subst e1; subst e3
        obtain ⟨c0, c1⟩ := hcell k hkl
        have hltz : (k : Int) < (n : Int) := by omega
        have HCells : Hid (∀ W, Below wr.heap.size wr W → W.cell? ⟨b, off + k * 2, none⟩ = some (.string (l[k]'hkl).who) ∧ W.cell? ⟨b, off + k * 2 + 1, none⟩ = some (.int .i64 (l[k]'hkl).ep)) := fun W hbW => ⟨by rw [hbW.cell (p := ⟨b, off + k * 2, none⟩) hb]; exact (hcell k hkl).1, by rw [hbW.cell (p := ⟨b, off + k * 2 + 1, none⟩) hb]; exact (hcell k hkl).2⟩
        have HO := hide (refOne_any (l[k]'hkl) wr (HS.out _ (List.getElem_mem hkl)))
        unfold Fl.val at HO
        have HNx : Hid (∀ W, Below wr.heap.size wr W → Below w.heap.size w W ∧ W.heap[w.heap.size]? = some (.cells #[.int .i64 0, .int .i64 0] 54 (0, 0))) := fun W hbW => ⟨HW.out.1.trans (hbW.mono HW.out.1.size), (hbW.block _ (row_lt HW.out.2)).trans HW.out.2⟩
        by_cases h1 : oneE (l[k]'hkl) = 0
        · by_cases hk0 : k = 0
          · obtain ⟨hbad, hsh⟩ := shape_first hkl hk0 h1
            have HBad := hide hbad
            have hq := star_who (l[k]'hkl)
            rw [h1] at HO
            have hk0n : ¬ (0 : Int) < (k : Int) := by omega
            clear hcell hvr h1 hbad hk0
            by_cases hst : (l[k]'hkl).nm = star
            · rw [decide_eq_true hst] at hq
              clear hst hsh
              generalize (l[k]'hkl).who = who at *
              generalize (l[k]'hkl).ep = ep at *
              go_wp2_with fail
              refine HO.out.mono ?_
              rintro e w1 ⟨rfl, hb1⟩
              have HBw := hide hb1
              clear c0 c1
              obtain ⟨c0, c1⟩ := HCells.out w1 hb1
              clear hb1
              go_wp2
              go_quiet (fail)
              go_wp2
              go_roundw
              case rel =>
                refine ⟨k + 1, by omega, by go_num, (show Hid _ from fun j hj => ?_), (show Hid _ from HNx.out _ (below_drewN HBw.out nq))⟩
                by_cases e : j = k
                · rw [e]; exact HBad.out
                · exact HP.out j (by omega)
              case measure => simp [intOf]; omega
            · have hd : decide ((l[k]'hkl).ep ≤ topL l) = false := decide_eq_false (by have := hsh hst; omega)
              rw [decide_eq_false hst] at hq
              clear hst hsh
              generalize (l[k]'hkl).who = who at *
              generalize (l[k]'hkl).ep = ep at *
              go_wp2_with fail
              refine HO.out.mono ?_
              rintro e w1 ⟨rfl, hb1⟩
              have HBw := hide hb1
              clear c0 c1
              obtain ⟨c0, c1⟩ := HCells.out w1 hb1
              clear hb1
              go_wp2
              go_quiet (first | (go_at_call 47; exact Calls.quiet_of_same (HT.out _ ((HV.out.below HW.out.1).below (below_drewN HBw.out _)))))
              go_wp2
              go_roundw
              case rel =>
                refine ⟨k + 1, by omega, by go_num, (show Hid _ from fun j hj => ?_), (show Hid _ from HNx.out _ (below_drewN HBw.out nq))⟩
                by_cases e : j = k
                · rw [e]; exact HBad.out
                · exact HP.out j (by omega)
              case measure => simp [intOf]; omega
          · obtain ⟨m, rfl⟩ : ∃ m, k = m + 1 := ⟨k - 1, by omega⟩
            have hml : m < l.length := by omega
            have HPrev : Hid (∀ W, Below wr.heap.size wr W → W.cell? ⟨b, off + m * 2, none⟩ = some (.string (l[m]'hml).who)) := fun W hbW => by rw [hbW.cell (p := ⟨b, off + m * 2, none⟩) hb]; exact (hcell m hml).1
            have hbn := bad_next hkl h1
            have hrk : (m + 1 : Int) - 1 = (m : Int) := by omega
            have hmz : (m : Int) < (n : Int) := by omega
            have h1p : oneE (l[m]'hml) = 0 := by
              have := bad_zero hml (HP.out m (by omega))
              exact behind_one this
            have hq := star_who (l[m + 1]'hkl)
            rw [h1] at HO
            have hk0z : (0 : Int) < (m : Int) + 1 := by omega
            rcases names_cases (l[m + 1]'hkl).who (l[m]'hml).who with ⟨hlt1, hq1, hq2⟩ | ⟨hlt1, hq1, hq2⟩ | ⟨hlt1, hq1, hq2⟩
            · have hno : ¬ (l[m]'hml).nm < (l[m + 1]'hkl).nm := fun e => List.lt_irrefl _ (List.lt_trans hlt1 e)
              have HRes := hide (HBd.out (m + 1) (by omega) HP.out (by rw [hbn, if_neg hno]; decide))
              rw [hbn, if_neg hno] at HRes
              clear hcell hvr h1 hk0 hbn hlt1 h1p hno
              generalize (l[m]'hml).who = pw at *
              generalize (l[m + 1]'hkl).who = who at *
              generalize (l[m + 1]'hkl).ep = ep at *
              go_wp2_with fail
              refine HO.out.mono ?_
              rintro e w1 ⟨rfl, hb1⟩
              have d0 : w1.cell? ⟨b, off + m * 2, none⟩ = some (.string pw) := HPrev.out w1 hb1
              have HBw := hide hb1
              clear c0 c1
              obtain ⟨c0, c1⟩ := HCells.out w1 hb1
              clear hb1
              go_wp2
              go_quiet (fail)
              obtain ⟨w2, hw2⟩ : ∃ w2, w1.drewN nq = w2 := ⟨_, rfl⟩
              rw [hw2]
              have HBw2 : Hid (Below wr.heap.size wr w2) := by rw [← hw2]; exact below_drewN HBw.out nq
              clear c0 c1 d0 HBw
              obtain ⟨c0, c1⟩ := HCells.out w2 HBw2.out
              clear hw2 nq
              go_wp2
              go_quiet (fail)
              obtain ⟨HB3, HR3⟩ := HNx.out _ (below_drewN HBw2.out nq)
              obtain ⟨x0, x1, z0, z1⟩ := HCl.out _ HR3
              clear HB3 HR3
              go_wp2
              obtain ⟨HB3, HR3⟩ := HNx.out _ (below_drewN HBw2.out nq)
              obtain ⟨e1, e2⟩ := HEnd.out _ _ _ HB3 HR3
              refine faultEnd w.heap.size _ rfl e1 rfl rfl ?_
              exact ⟨by rw [HRes.out]; rfl, e2⟩
            · have hno : ¬ (l[m]'hml).nm < (l[m + 1]'hkl).nm := fun e => by unfold Fl.nm at e; rw [hlt1] at e; exact List.lt_irrefl _ e
              have HRes := hide (HBd.out (m + 1) (by omega) HP.out (by rw [hbn, if_neg hno]; decide))
              rw [hbn, if_neg hno] at HRes
              clear hcell hvr h1 hk0 hbn hlt1 h1p hno
              generalize (l[m]'hml).who = pw at *
              generalize (l[m + 1]'hkl).who = who at *
              generalize (l[m + 1]'hkl).ep = ep at *
              go_wp2_with fail
              refine HO.out.mono ?_
              rintro e w1 ⟨rfl, hb1⟩
              have d0 : w1.cell? ⟨b, off + m * 2, none⟩ = some (.string pw) := HPrev.out w1 hb1
              have HBw := hide hb1
              clear c0 c1
              obtain ⟨c0, c1⟩ := HCells.out w1 hb1
              clear hb1
              go_wp2
              go_quiet (fail)
              obtain ⟨w2, hw2⟩ : ∃ w2, w1.drewN nq = w2 := ⟨_, rfl⟩
              rw [hw2]
              have HBw2 : Hid (Below wr.heap.size wr w2) := by rw [← hw2]; exact below_drewN HBw.out nq
              clear c0 c1 d0 HBw
              obtain ⟨c0, c1⟩ := HCells.out w2 HBw2.out
              clear hw2 nq
              go_wp2
              go_quiet (fail)
              obtain ⟨HB3, HR3⟩ := HNx.out _ (below_drewN HBw2.out nq)
              obtain ⟨x0, x1, z0, z1⟩ := HCl.out _ HR3
              clear HB3 HR3
              go_wp2
              obtain ⟨HB3, HR3⟩ := HNx.out _ (below_drewN HBw2.out nq)
              obtain ⟨e1, e2⟩ := HEnd.out _ _ _ HB3 HR3
              refine faultEnd w.heap.size _ rfl e1 rfl rfl ?_
              exact ⟨by rw [HRes.out]; rfl, e2⟩
            · rw [if_pos (show (l[m]'hml).nm < (l[m + 1]'hkl).nm from hlt1)] at hbn
              have hst : (l[m + 1]'hkl).nm ≠ star := fun e => not_below_star h1p (by rw [← e]; exact hlt1)
              rw [decide_eq_false hst] at hq
              by_cases hsh : (l[m + 1]'hkl).ep ≤ topL l
              · rw [if_pos hsh] at hbn
                have HRes := hide (HBd.out (m + 1) (by omega) HP.out (by rw [hbn]; decide))
                rw [hbn] at HRes
                have hd := decide_eq_true hsh
                clear hcell hvr h1 hk0 hbn hlt1 h1p hst hsh
                generalize (l[m]'hml).who = pw at *
                generalize (l[m + 1]'hkl).who = who at *
                generalize (l[m + 1]'hkl).ep = ep at *
                go_wp2_with fail
                refine HO.out.mono ?_
                rintro e w1 ⟨rfl, hb1⟩
                have d0 : w1.cell? ⟨b, off + m * 2, none⟩ = some (.string pw) := HPrev.out w1 hb1
                have HBw := hide hb1
                clear c0 c1
                obtain ⟨c0, c1⟩ := HCells.out w1 hb1
                clear hb1
                go_wp2
                go_quiet (fail)
                obtain ⟨w2, hw2⟩ : ∃ w2, w1.drewN nq = w2 := ⟨_, rfl⟩
                rw [hw2]
                have HBw2 : Hid (Below wr.heap.size wr w2) := by rw [← hw2]; exact below_drewN HBw.out nq
                clear c0 c1 d0 HBw
                obtain ⟨c0, c1⟩ := HCells.out w2 HBw2.out
                clear hw2 nq
                go_wp2
                go_quiet (first | (go_at_call 47; exact Calls.quiet_of_same (HT.out _ ((HV.out.below HW.out.1).below (below_drewN HBw2.out _)))))
                obtain ⟨HB3, HR3⟩ := HNx.out _ (below_drewN HBw2.out nq)
                obtain ⟨x0, x1, z0, z1⟩ := HCl.out _ HR3
                clear HB3 HR3
                go_wp2
                obtain ⟨HB3, HR3⟩ := HNx.out _ (below_drewN HBw2.out nq)
                obtain ⟨e1, e2⟩ := HEnd.out _ _ _ HB3 HR3
                refine faultEnd w.heap.size _ rfl e1 rfl rfl ?_
                exact ⟨by rw [HRes.out]; rfl, e2⟩
              · rw [if_neg hsh] at hbn
                have HBad := hide hbn
                have hd := decide_eq_false hsh
                clear hcell hvr h1 hk0 hbn hlt1 h1p hst hsh
                generalize (l[m]'hml).who = pw at *
                generalize (l[m + 1]'hkl).who = who at *
                generalize (l[m + 1]'hkl).ep = ep at *
                go_wp2_with fail
                refine HO.out.mono ?_
                rintro e w1 ⟨rfl, hb1⟩
                have d0 : w1.cell? ⟨b, off + m * 2, none⟩ = some (.string pw) := HPrev.out w1 hb1
                have HBw := hide hb1
                clear c0 c1
                obtain ⟨c0, c1⟩ := HCells.out w1 hb1
                clear hb1
                go_wp2
                go_quiet (fail)
                obtain ⟨w2, hw2⟩ : ∃ w2, w1.drewN nq = w2 := ⟨_, rfl⟩
                rw [hw2]
                have HBw2 : Hid (Below wr.heap.size wr w2) := by rw [← hw2]; exact below_drewN HBw.out nq
                clear c0 c1 d0 HBw
                obtain ⟨c0, c1⟩ := HCells.out w2 HBw2.out
                clear hw2 nq
                go_wp2
                go_quiet (first | (go_at_call 47; exact Calls.quiet_of_same (HT.out _ ((HV.out.below HW.out.1).below (below_drewN HBw2.out _)))))
                go_wp2
                go_roundw
                case rel =>
                  refine ⟨m + 1 + 1, by omega, by go_num, (show Hid _ from fun j hj => ?_), (show Hid _ from HNx.out _ (below_drewN HBw2.out nq))⟩
                  by_cases e : j = m + 1
                  · rw [e]; exact HBad.out
                  · exact HP.out j (by omega)
                case measure => simp [intOf]; omega
        · -- it is no floor
          have HRes := hide (HBd.out k (by omega) HP.out (by rw [bad_one hkl h1]; exact h1))
          rw [bad_one hkl h1] at HRes
          have hq : ((oneE (l[k]'hkl) : Int) == 0) = false := by rw [beq_eq_false_iff_ne]; omega
          have hq2 : (0 : Int) < (oneE (l[k]'hkl) : Int) := by omega
          clear h1 hcell hvr
          generalize oneE (l[k]'hkl) = c at *
          generalize (l[k]'hkl).who = who at *
          generalize (l[k]'hkl).ep = ep at *
          go_wp2_with fail
          refine HO.out.mono ?_
          rintro e w1 ⟨rfl, hb1⟩
          obtain ⟨HB1, HR1⟩ := HNx.out w1 hb1
          replace HB1 := hide HB1
          replace HR1 := hide HR1
          clear hb1 c0 c1 HCells
          go_wp2
          go_quiet (fail)
          obtain ⟨d0, d1, z0, z1⟩ := HCl.out (w1.drewN nq) HR1.out
          go_wp2
          obtain ⟨e1, e2⟩ := HEnd.out (w1.drewN nq) _ _ (below_drewN HB1.out nq) HR1.out
          refine faultEnd w.heap.size _ rfl e1 rfl rfl ?_
          exact ⟨by rw [HRes.out], e2⟩
      · have hkn : k = n := by omega
        subst hkn
        have hltz : ¬ (k : Int) < (k : Int) := by omega
        have HRes := hide (HG.out HP.out)
        go_wp2_with fail
        refine (HF.out _).mono ?_
        rintro e w1 ⟨rfl, hb⟩
        have HB1 : Hid (Below w.heap.size w w1) := HW.out.1.trans (hb.mono HW.out.1.size)
        have HR1 : Hid (w1.heap[w.heap.size]? = some (.cells #[.int .i64 0, .int .i64 0] 54 (0, 0))) := (hb.block _ (row_lt HW.out.2)).trans HW.out.2
        obtain ⟨c0, c1, z0, z1⟩ := HCl.out w1 HR1.out
        clear hb
        go_wp2
        obtain ⟨e1, e2⟩ := HEnd.out w1 _ _ HB1.out HR1.out
        refine faultEnd w.heap.size _ rfl e1 rfl rfl ?_
        exact ⟨by rw [HRes.out]; rfl, e2⟩
end Go.Proofs.YteabincmopeljaeGreatDoor

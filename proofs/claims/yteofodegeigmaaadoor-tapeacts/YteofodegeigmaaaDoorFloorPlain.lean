/-
  Floors as the document has them, plainly: right floors, what counts for a name, a floor that is raised, floors that are joined; two right lists of which the same counts for each name are one.
-/
import Derived.Test.YteofodegeigmaaaDoorSealPlain
import Derived.Below
namespace Go.Proofs.YteofodegeigmaaaDoor
open Go

structure Fl where
  who : ByteArray
  ep : Int
/-- A name's bytes, a floor's two cells, and the value. -/
def Fl.nm (f : Fl) : List UInt8 := f.who.data.toList
def Fl.cells (f : Fl) : List Value := [.string f.who, .int .i64 f.ep]
def Fl.val (f : Fl) : Value := .agg #[.string f.who, .int .i64 f.ep]
theorem Fl.same {f g : Fl} (h1 : f.nm = g.nm) (h2 : f.ep = g.ep) : f = g := by
  obtain ⟨a, b⟩ := f
  obtain ⟨c, d⟩ := g
  obtain rfl : a = c := Go.WideShapes.bytes_inj h1
  obtain rfl : b = d := h2
  rfl
/-- That of all. -/
def star : List UInt8 := [42]
/-- The number of one floor's error. -/
def oneE (f : Fl) : Nat := if f.nm = star ∨ Sl.nameL f.nm = true then (if 1 ≤ f.ep ∧ f.ep ≤ 1073741824 then 0 else 2) else 4
def topL : List Fl → Int
  | [] => 0
  | f :: _ => if f.nm = star then f.ep else 0
theorem topL_cons (f : Fl) (l : List Fl) : topL (f :: l) = if f.nm = star then f.ep else 0 := rfl
abbrev RisingF (l : List Fl) : Prop := l.Pairwise (fun f g => f.nm < g.nm)
/-- Right floors, however many. -/
structure RightF (l : List Fl) : Prop where
  one : ∀ f ∈ l, oneE f = 0
  rising : RisingF l
  above : ∀ f ∈ l, f.nm = star ∨ topL l < f.ep
/-- What counts for a name. -/
def ofL (l : List Fl) (name : List UInt8) : Int := match l.find? (fun f => decide (f.nm = name)) with
  | some f => f.ep
  | none => topL l

theorem one_pos {f : Fl} (h : oneE f = 0) : 1 ≤ f.ep ∧ f.ep ≤ 1073741824 := by
  unfold oneE at h
  split at h
  · split at h
    · assumption
    · cases h
  · cases h
theorem one_name {f : Fl} (h : oneE f = 0) : f.nm = star ∨ Sl.nameL f.nm = true := by
  unfold oneE at h
  split at h
  · assumption
  · cases h
theorem star_lt {n : List UInt8} (h : Sl.nameL n = true) : star < n := by
  unfold Sl.nameL Sl.madeL at h
  simp only [Bool.and_eq_true, decide_eq_true_eq] at h
  match n, h with
  | b :: n, h =>
    have hb := (List.all_eq_true.1 h.2) b (by simp)
    have : (42 : UInt8) < b := by
      rw [UInt8.lt_iff_toNat_lt]
      unfold Sl.smallB Sl.digB at hb
      simp at hb
      have e : (42 : UInt8).toNat = 42 := by decide
      omega
    exact List.cons_lt_cons_iff.2 (Or.inl this)
theorem not_below_star {f : Fl} (h : oneE f = 0) : ¬ f.nm < star := by
  rcases one_name h with e | e
  · rw [e]; exact List.lt_irrefl _
  · exact fun g => List.lt_irrefl _ (List.lt_trans g (star_lt e))
theorem RisingF.inj {l : List Fl} (h : RisingF l) {f g : Fl} (hf : f ∈ l) (hg : g ∈ l) (he : f.nm = g.nm) : f = g := by
  induction l with
  | nil => cases hf
  | cons a l ih =>
    obtain ⟨h1, h2⟩ := List.pairwise_cons.1 h
    rcases List.mem_cons.1 hf with e | e
    · rcases List.mem_cons.1 hg with e2 | e2
      · rw [e, e2]
      · have := h1 g e2; rw [← e, he] at this; exact absurd this (List.lt_irrefl _)
    · rcases List.mem_cons.1 hg with e2 | e2
      · have := h1 f e; rw [← e2, he] at this; exact absurd this (List.lt_irrefl _)
      · exact ih h2 e e2
theorem top_mem {l : List Fl} (h1 : ∀ f ∈ l, oneE f = 0) (h2 : RisingF l) {f : Fl} (hf : f ∈ l) (hs : f.nm = star) : topL l = f.ep := by
  cases l with
  | nil => cases hf
  | cons a l =>
    rcases List.mem_cons.1 hf with e | e
    · subst e; rw [topL_cons, if_pos hs]
    · have := (List.pairwise_cons.1 h2).1 f e
      rw [hs] at this
      exact absurd this (not_below_star (h1 a (by simp)))
theorem top_none {l : List Fl} (h : ∀ f ∈ l, f.nm ≠ star) : topL l = 0 := by
  cases l with
  | nil => rfl
  | cons a l => rw [topL_cons, if_neg (h a (by simp))]
theorem top_cases (l : List Fl) : (∃ f ∈ l, f.nm = star ∧ topL l = f.ep) ∨ topL l = 0 := by
  cases l with
  | nil => exact Or.inr rfl
  | cons a l =>
    by_cases h : a.nm = star
    · exact Or.inl ⟨a, by simp, h, by rw [topL_cons, if_pos h]⟩
    · exact Or.inr (by rw [topL_cons, if_neg h])
theorem top_nonneg {l : List Fl} (h : ∀ f ∈ l, oneE f = 0) : 0 ≤ topL l := by
  rcases top_cases l with ⟨f, hf, _, e⟩ | e
  · have := one_pos (h f hf); omega
  · omega
theorem RightF.top_le {l : List Fl} (h : RightF l) {f : Fl} (hf : f ∈ l) : topL l ≤ f.ep := by
  rcases h.above f hf with e | e
  · rw [top_mem h.one h.rising hf e]; exact Int.le_refl _
  · omega
theorem of_mem {l : List Fl} (h : RisingF l) {f : Fl} (hf : f ∈ l) : ofL l f.nm = f.ep := by
  unfold ofL
  cases hg : l.find? (fun g => decide (g.nm = f.nm)) with
  | none =>
    have := List.find?_eq_none.1 hg f hf
    simp at this
  | some g =>
    have h1 := List.mem_of_find?_eq_some hg
    have h2 := List.find?_some hg
    simp only [decide_eq_true_eq] at h2
    rw [h.inj h1 hf h2]
theorem of_none {l : List Fl} {n : List UInt8} (h : ∀ f ∈ l, f.nm ≠ n) : ofL l n = topL l := by
  unfold ofL
  rw [List.find?_eq_none.2 (fun f hf => by simpa using h f hf)]
theorem of_cases (l : List Fl) (n : List UInt8) : (∃ f ∈ l, f.nm = n ∧ ofL l n = f.ep) ∨ ((∀ f ∈ l, f.nm ≠ n) ∧ ofL l n = topL l) := by
  unfold ofL
  cases hg : l.find? (fun g => decide (g.nm = n)) with
  | none => exact Or.inr ⟨fun f hf => by simpa using List.find?_eq_none.1 hg f hf, rfl⟩
  | some g => exact Or.inl ⟨g, List.mem_of_find?_eq_some hg, by simpa using List.find?_some hg, rfl⟩
theorem of_star {l : List Fl} (h : RightF l) : ofL l star = topL l := by
  rcases of_cases l star with ⟨f, hf, hs, e⟩ | ⟨_, e⟩
  · rw [e, top_mem h.one h.rising hf hs]
  · exact e
theorem top_le_of {l : List Fl} (h : RightF l) (n : List UInt8) : topL l ≤ ofL l n := by
  rcases of_cases l n with ⟨f, hf, hs, e⟩ | ⟨_, e⟩
  · rw [e]; exact h.top_le hf
  · omega
theorem of_nonneg {l : List Fl} (h : RightF l) (n : List UInt8) : 0 ≤ ofL l n := Int.le_trans (top_nonneg h.one) (top_le_of h n)
theorem of_le {l : List Fl} (h : RightF l) (n : List UInt8) : ofL l n ≤ 1073741824 := by
  rcases of_cases l n with ⟨f, hf, hs, e⟩ | ⟨_, e⟩
  · rw [e]; exact (one_pos (h.one f hf)).2
  · rw [e]
    rcases top_cases l with ⟨f, hf, _, e⟩ | e
    · rw [e]; exact (one_pos (h.one f hf)).2
    · omega

theorem mem_iff {l : List Fl} (h : RightF l) (f : Fl) : f ∈ l ↔ ofL l f.nm = f.ep ∧ (f.nm = star → 1 ≤ f.ep) ∧ (f.nm ≠ star → ofL l star < f.ep) := by
  constructor
  · intro hf
    refine ⟨of_mem h.rising hf, fun _ => (one_pos (h.one f hf)).1, fun hn => ?_⟩
    rw [of_star h]
    rcases h.above f hf with e | e
    · exact absurd e hn
    · exact e
  · rintro ⟨h1, h2, h3⟩
    rcases of_cases l f.nm with ⟨g, hg, hs, e⟩ | ⟨hno, e⟩
    · rw [← Fl.same hs (by omega)]; exact hg
    · by_cases hn : f.nm = star
      · have := h2 hn
        rw [top_none (fun g hg => by rw [← hn]; exact hno g hg)] at e
        omega
      · have := h3 hn
        rw [of_star h] at this
        omega
theorem rising_ext : ∀ {l m : List Fl}, RisingF l → RisingF m → (∀ f, f ∈ l ↔ f ∈ m) → l = m
  | [], [], _, _, _ => rfl
  | [], b :: m, _, _, h => by have := (h b).2 (by simp); cases this
  | a :: l, [], _, _, h => by have := (h a).1 (by simp); cases this
  | a :: l, b :: m, hl, hm, h => by
    obtain ⟨l1, l2⟩ := List.pairwise_cons.1 hl
    obtain ⟨m1, m2⟩ := List.pairwise_cons.1 hm
    have hab : a = b := by
      rcases List.mem_cons.1 ((h a).1 (by simp)) with e | e
      · exact e
      · rcases List.mem_cons.1 ((h b).2 (by simp)) with e2 | e2
        · exact e2.symm
        · exact absurd (List.lt_trans (m1 a e) (l1 b e2)) (List.lt_irrefl _)
    subst hab
    rw [rising_ext l2 m2 (fun f => ⟨fun hf => ?_, fun hf => ?_⟩)]
    · rcases List.mem_cons.1 ((h f).1 (by simp [hf])) with e | e
      · subst e; exact absurd (l1 f hf) (List.lt_irrefl _)
      · exact e
    · rcases List.mem_cons.1 ((h f).2 (by simp [hf])) with e | e
      · subst e; exact absurd (m1 f hf) (List.lt_irrefl _)
      · exact e
/-- Two right lists of which the same counts for each name are one. -/
theorem right_ext {l m : List Fl} (hl : RightF l) (hm : RightF m) (h : ∀ n, ofL l n = ofL m n) : l = m :=
  rising_ext hl.rising hm.rising (fun f => by rw [mem_iff hl, mem_iff hm, h, h])

/-! ### A floor that is raised -/

/-- Where a name's own floor is, or would be. -/
def placeF (l : List Fl) (n : List UInt8) : Nat := (l.takeWhile (fun f => decide (f.nm < n))).length
theorem place_le (l : List Fl) (n : List UInt8) : placeF l n ≤ l.length := (List.takeWhile_sublist _).length_le
theorem placeF_eq : ∀ (l : List Fl) (n : List UInt8) (k : Nat), k ≤ l.length → (∀ j (hj : j < l.length), j < k → l[j].nm < n) → (∀ hk : k < l.length, ¬ l[k].nm < n) → placeF l n = k
  | [], n, k, hk, _, _ => by simp at hk; subst hk; rfl
  | a :: l, n, 0, _, _, h => by
    have := h (by simp)
    simp only [List.getElem_cons_zero] at this
    unfold placeF
    rw [List.takeWhile_cons, if_neg (by simpa using this)]
    rfl
  | a :: l, n, k + 1, hk, h1, h2 => by
    have ha := h1 0 (by simp) (Nat.succ_pos _)
    simp only [List.getElem_cons_zero] at ha
    have ih := placeF_eq l n k (by simpa using hk) (fun j hj hjk => h1 (j + 1) (by simpa using hj) (by omega)) (fun hk2 => h2 (by simpa using hk2))
    unfold placeF at ih ⊢
    rw [List.takeWhile_cons, if_pos (by simpa using ha), List.length_cons, ih]
theorem mem_while (p : Fl → Bool) : ∀ (l : List Fl) (f : Fl), f ∈ l.takeWhile p → p f = true
  | [], _, h => by simp at h
  | a :: l, f, h => by
    rw [List.takeWhile_cons] at h
    split at h
    · rcases List.mem_cons.1 h with e | e
      · rw [e]; assumption
      · exact mem_while p l f e
    · cases h
theorem place_take (l : List Fl) (n : List UInt8) : ∀ f ∈ l.take (placeF l n), f.nm < n := fun f hf => by
  unfold placeF at hf
  rw [(List.prefix_iff_eq_take.1 (List.takeWhile_prefix _)).symm] at hf
  simpa using mem_while _ _ _ hf
theorem place_drop {l : List Fl} (hr : RisingF l) (n : List UInt8) : ∀ f ∈ l.drop (placeF l n), ¬ f.nm < n := by
  induction l with
  | nil => intro f hf; simp at hf
  | cons a l ih =>
    obtain ⟨h1, h2⟩ := List.pairwise_cons.1 hr
    intro f hf
    by_cases ha : a.nm < n
    · have : placeF (a :: l) n = placeF l n + 1 := by
        unfold placeF
        rw [List.takeWhile_cons, if_pos (by simpa using ha), List.length_cons]
      rw [this, List.drop_succ_cons] at hf
      exact ih h2 f hf
    · have : placeF (a :: l) n = 0 := by
        unfold placeF
        rw [List.takeWhile_cons, if_neg (by simpa using ha)]
        rfl
      rw [this, List.drop_zero] at hf
      rcases List.mem_cons.1 hf with e | e
      · rw [e]; exact ha
      · exact fun g => ha (List.lt_trans (h1 f e) g)
/-- What goes where a floor is raised. -/
def goesF (f o : Fl) : Bool := decide (o.nm = f.nm) || (decide (f.nm = star) && decide (o.ep ≤ f.ep))
def keptF (l : List Fl) (f : Fl) : List Fl := l.filter (fun o => !goesF f o)
def putF (k : List Fl) (f : Fl) : List Fl := k.take (placeF k f.nm) ++ f :: k.drop (placeF k f.nm)
def raisedL (l : List Fl) (f : Fl) : List Fl := if f.ep ≤ ofL l f.nm then l else putF (keptF l f) f
theorem mem_putF {k : List Fl} {f g : Fl} : g ∈ putF k f ↔ g = f ∨ g ∈ k := by
  unfold putF
  have := List.take_append_drop (placeF k f.nm) k
  constructor
  · intro h
    rcases List.mem_append.1 h with e | e
    · exact Or.inr (List.mem_of_mem_take e)
    · rcases List.mem_cons.1 e with e | e
      · exact Or.inl e
      · exact Or.inr (List.mem_of_mem_drop e)
  · rintro (e | e)
    · simp [e]
    · rw [← this] at e
      rcases List.mem_append.1 e with e | e
      · simp [e]
      · simp [e]
theorem mem_keptF {l : List Fl} {f g : Fl} : g ∈ keptF l f ↔ g ∈ l ∧ g.nm ≠ f.nm ∧ (f.nm = star → f.ep < g.ep) := by
  unfold keptF goesF
  rw [List.mem_filter]
  simp only [Bool.not_eq_true', Bool.or_eq_false_iff, decide_eq_false_iff_not, Bool.and_eq_false_imp, decide_eq_true_eq, Int.not_le]
theorem rising_put {k : List Fl} {f : Fl} (hk : RisingF k) (hn : ∀ g ∈ k, g.nm ≠ f.nm) : RisingF (putF k f) := by
  unfold putF
  have hall : RisingF (k.take (placeF k f.nm) ++ k.drop (placeF k f.nm)) := by rw [List.take_append_drop]; exact hk
  obtain ⟨h1, h2, h3⟩ := List.pairwise_append.1 hall
  refine List.pairwise_append.2 ⟨h1, List.pairwise_cons.2 ⟨fun g hg => ?_, h2⟩, fun g hg o ho => ?_⟩
  · have ne := hn g (List.mem_of_mem_drop hg)
    have nl := place_drop hk f.nm g hg
    exact Decidable.byContradiction fun e => ne (List.le_antisymm (List.not_lt.1 e) (List.not_lt.1 nl))
  · rcases List.mem_cons.1 ho with e | e
    · rw [e]; exact place_take k f.nm g hg
    · exact h3 g hg o e
theorem rising_kept {l : List Fl} (h : RisingF l) (f : Fl) : RisingF (keptF l f) := List.Pairwise.sublist List.filter_sublist h

/-- Of what is raised: the parts that are new. -/
theorem top_put {l : List Fl} {f : Fl} (h : RightF l) (hf : oneE f = 0) : topL (putF (keptF l f) f) = if f.nm = star then f.ep else topL l := by
  have h1 : ∀ g ∈ putF (keptF l f) f, oneE g = 0 := fun g hg => by
    rcases mem_putF.1 hg with e | e
    · rw [e]; exact hf
    · exact h.one g (mem_keptF.1 e).1
  have h2 := rising_put (rising_kept h.rising f) (fun g hg => (mem_keptF.1 hg).2.1)
  split
  · rename_i hs
    exact top_mem h1 h2 (mem_putF.2 (Or.inl rfl)) hs
  · rename_i hs
    rcases top_cases l with ⟨g, hg, gs, e⟩ | e
    · rw [e]
      exact top_mem h1 h2 (mem_putF.2 (Or.inr (mem_keptF.2 ⟨hg, fun e2 => hs (by rw [← e2, gs]), fun e2 => absurd e2 hs⟩))) gs
    · rw [e]
      refine top_none (fun g hg gs => ?_)
      rcases mem_putF.1 hg with e2 | e2
      · rw [e2] at gs; exact hs gs
      · have hm := (mem_keptF.1 e2).1
        rw [top_mem h.one h.rising hm gs] at e
        have := one_pos (h.one g hm)
        omega
theorem right_put {l : List Fl} {f : Fl} (h : RightF l) (hf : oneE f = 0) (hup : ofL l f.nm < f.ep) : RightF (putF (keptF l f) f) where
  one g hg := by
    rcases mem_putF.1 hg with e | e
    · rw [e]; exact hf
    · exact h.one g (mem_keptF.1 e).1
  rising := rising_put (rising_kept h.rising f) (fun g hg => (mem_keptF.1 hg).2.1)
  above g hg := by
    rw [top_put h hf]
    rcases mem_putF.1 hg with e | e
    · subst e
      by_cases hs : g.nm = star
      · exact Or.inl hs
      · rw [if_neg hs]
        exact Or.inr (Int.lt_of_le_of_lt (top_le_of h g.nm) hup)
    · obtain ⟨hm, hne, hgt⟩ := mem_keptF.1 e
      by_cases hs : f.nm = star
      · rw [if_pos hs]; exact Or.inr (hgt hs)
      · rw [if_neg hs]; exact h.above g hm
theorem right_raised {l : List Fl} {f : Fl} (h : RightF l) (hf : oneE f = 0) : RightF (raisedL l f) := by
  unfold raisedL
  split
  · exact h
  · exact right_put h hf (by omega)
/-- What counts behind it. -/
def upF (f : Fl) (n : List UInt8) (m : Int) : Int := if f.nm = star ∨ n = f.nm then max m f.ep else m
theorem of_raised {l : List Fl} {f : Fl} (h : RightF l) (hf : oneE f = 0) (n : List UInt8) : ofL (raisedL l f) n = upF f n (ofL l n) := by
  unfold raisedL upF
  split
  · rename_i hle
    split
    · rename_i hc
      have : f.ep ≤ ofL l n := by
        rcases hc with e | e
        · rw [e, of_star h] at hle; exact Int.le_trans hle (top_le_of h n)
        · rw [e]; exact hle
      omega
    · rfl
  · rename_i hle
    have hr := right_put h hf (by omega)
    by_cases hn : n = f.nm
    · subst hn
      rw [if_pos (Or.inr rfl), of_mem hr.rising (mem_putF.2 (Or.inl rfl))]
      omega
    · by_cases hs : f.nm = star
      · rw [if_pos (Or.inl hs)]
        rcases of_cases l n with ⟨g, hg, gn, e⟩ | ⟨hno, e⟩
        · by_cases hge : f.ep < g.ep
          · have := of_mem hr.rising (mem_putF.2 (Or.inr (mem_keptF.2 ⟨hg, by rw [gn]; exact hn, fun _ => hge⟩)))
            rw [gn] at this
            rw [this, e]
            omega
          · rw [of_none (fun o ho => ?_), top_put h hf, if_pos hs, e]
            · omega
            · intro on
              rcases mem_putF.1 ho with e2 | e2
              · rw [e2] at on; exact hn on.symm
              · obtain ⟨om, _, og⟩ := mem_keptF.1 e2
                have := h.rising.inj om hg (by rw [on, gn])
                rw [this] at og
                exact hge (og hs)
        · rw [of_none (fun o ho on => ?_), top_put h hf, if_pos hs, e]
          · rw [hs, of_star h] at hle
            omega
          · rcases mem_putF.1 ho with e2 | e2
            · rw [e2] at on; exact hn on.symm
            · exact hno o (mem_keptF.1 e2).1 on
      · rw [if_neg (fun e => e.elim hs hn)]
        rcases of_cases l n with ⟨g, hg, gn, e⟩ | ⟨hno, e⟩
        · have := of_mem hr.rising (mem_putF.2 (Or.inr (mem_keptF.2 ⟨hg, by rw [gn]; exact hn, fun e2 => absurd e2 hs⟩)))
          rw [gn] at this
          rw [this, e]
        · rw [of_none (fun o ho on => ?_), top_put h hf, if_neg hs, e]
          rcases mem_putF.1 ho with e2 | e2
          · rw [e2] at on; exact hn on.symm
          · exact hno o (mem_keptF.1 e2).1 on
theorem up_comm (f g : Fl) (n : List UInt8) (m : Int) : upF f n (upF g n m) = upF g n (upF f n m) := by
  unfold upF
  split <;> split <;> omega
theorem up_self (f : Fl) (n : List UInt8) (m : Int) : upF f n (upF f n m) = upF f n m := by
  unfold upF
  split <;> omega
theorem up_le (f : Fl) (n : List UInt8) (m : Int) : m ≤ upF f n m := by
  unfold upF
  split <;> omega
/-- In whatever order two floors are raised it is the same; and again it is nothing new. -/
theorem raised_comm {l : List Fl} {f g : Fl} (h : RightF l) (hf : oneE f = 0) (hg : oneE g = 0) : raisedL (raisedL l f) g = raisedL (raisedL l g) f :=
  right_ext (right_raised (right_raised h hf) hg) (right_raised (right_raised h hg) hf) (fun n => by
    rw [of_raised (right_raised h hf) hg, of_raised h hf, of_raised (right_raised h hg) hf, of_raised h hg, up_comm])
theorem raised_again {l : List Fl} {f g : Fl} (h : RightF l) (hf : oneE f = 0) (hg : oneE g = 0) : raisedL (raisedL (raisedL l f) g) f = raisedL (raisedL l f) g :=
  right_ext (right_raised (right_raised (right_raised h hf) hg) hf) (right_raised (right_raised h hf) hg) (fun n => by
    rw [of_raised (right_raised (right_raised h hf) hg) hf, of_raised (right_raised h hf) hg, of_raised h hf, up_comm, up_self])

/-! ### Floors that are joined -/

def joinL (a b : List Fl) : List Fl := b.foldl raisedL a
theorem right_fold : ∀ (b : List Fl) {a : List Fl}, RightF a → (∀ f ∈ b, oneE f = 0) → RightF (b.foldl raisedL a)
  | [], _, h, _ => h
  | f :: b, _, h, hb => right_fold b (right_raised h (hb f (by simp))) (fun g hg => hb g (by simp [hg]))
theorem right_join {a b : List Fl} (h : RightF a) (hb : RightF b) : RightF (joinL a b) := right_fold b h hb.one
theorem of_fold : ∀ (b : List Fl) {a : List Fl} (_ : RightF a) (_ : ∀ f ∈ b, oneE f = 0) (n : List UInt8), ofL (b.foldl raisedL a) n = b.foldl (fun m f => upF f n m) (ofL a n)
  | [], _, _, _, _ => rfl
  | f :: b, a, h, hb, n => by
    rw [List.foldl_cons, List.foldl_cons, of_fold b (right_raised h (hb f (by simp))) (fun g hg => hb g (by simp [hg])) n, of_raised h (hb f (by simp))]
theorem fold_ge : ∀ (b : List Fl) (n : List UInt8) (m : Int), m ≤ b.foldl (fun m f => upF f n m) m
  | [], _, _ => Int.le_refl _
  | f :: b, n, m => Int.le_trans (up_le f n m) (fold_ge b n _)
theorem fold_mem : ∀ (b : List Fl) (n : List UInt8) (m : Int) (f : Fl), f ∈ b → (f.nm = star ∨ n = f.nm) → f.ep ≤ b.foldl (fun m f => upF f n m) m
  | a :: b, n, m, f, hf, hc => by
    rcases List.mem_cons.1 hf with e | e
    · subst e
      refine Int.le_trans ?_ (fold_ge b n _)
      show f.ep ≤ upF f n m
      show f.ep ≤ upF f n m
      show f.ep ≤ upF f n m
      unfold upF
      rw [if_pos hc]
      omega
    · exact fold_mem b n _ f e hc
theorem fold_cases : ∀ (b : List Fl) (n : List UInt8) (m : Int), b.foldl (fun m f => upF f n m) m = m ∨ ∃ f ∈ b, (f.nm = star ∨ n = f.nm) ∧ b.foldl (fun m f => upF f n m) m = f.ep
  | [], _, _ => Or.inl rfl
  | a :: b, n, m => by
    rw [List.foldl_cons]
    rcases fold_cases b n (upF a n m) with e | ⟨f, hf, hc, e⟩
    · rw [e]
      unfold upF
      split
      · rename_i hc
        rcases Int.le_total m a.ep with g | g
        · exact Or.inr ⟨a, by simp, hc, by omega⟩
        · exact Or.inl (by omega)
      · exact Or.inl rfl
    · exact Or.inr ⟨f, by simp [hf], hc, e⟩
theorem fold_max {b : List Fl} (h : RightF b) (n : List UInt8) (m : Int) (hm : 0 ≤ m) : b.foldl (fun m f => upF f n m) m = max m (ofL b n) := by
  have h1 := fold_ge b n m
  have h2 : ofL b n ≤ b.foldl (fun m f => upF f n m) m := by
    rcases of_cases b n with ⟨f, hf, hn, e⟩ | ⟨_, e⟩
    · rw [e]; exact fold_mem b n m f hf (Or.inr hn.symm)
    · rw [e]
      rcases top_cases b with ⟨f, hf, hs, e2⟩ | e2
      · rw [e2]; exact fold_mem b n m f hf (Or.inl hs)
      · omega
  rcases fold_cases b n m with e | ⟨f, hf, hc, e⟩
  · omega
  · have : f.ep ≤ ofL b n := by
      rcases hc with g | g
      · rw [← top_mem h.one h.rising hf g]; exact top_le_of h n
      · rw [g, of_mem h.rising hf]; exact Int.le_refl _
    omega
/-- What counts behind a join is the greater of both. -/
theorem of_join {a b : List Fl} (ha : RightF a) (hb : RightF b) (n : List UInt8) : ofL (joinL a b) n = max (ofL a n) (ofL b n) := by
  unfold joinL
  rw [of_fold b ha hb.one, fold_max hb n _ (of_nonneg ha n)]
theorem join_comm {a b : List Fl} (ha : RightF a) (hb : RightF b) : joinL a b = joinL b a :=
  right_ext (right_join ha hb) (right_join hb ha) (fun n => by rw [of_join ha hb, of_join hb ha]; omega)
theorem join_self {a : List Fl} (ha : RightF a) : joinL a a = a :=
  right_ext (right_join ha ha) ha (fun n => by rw [of_join ha ha]; omega)
theorem join_again {a b : List Fl} (ha : RightF a) (hb : RightF b) : joinL (joinL a b) b = joinL a b :=
  right_ext (right_join (right_join ha hb) hb) (right_join ha hb) (fun n => by rw [of_join (right_join ha hb) hb, of_join ha hb]; omega)

/-! ### Floors that are asked -/

/-- The number of the error of a floor behind others. -/
def behindE (ahead : List Fl) (f : Fl) : Nat :=
  if oneE f = 0 then (if ∃ g, ahead.getLast? = some g ∧ ¬ g.nm < f.nm then 8 else if f.ep ≤ topL ahead then 3 else 0) else oneE f
def badAt (l : List Fl) (i : Nat) : Nat := match l[i]? with
  | some f => behindE (l.take i) f
  | none => 0
/-- The number of the error of floors, and its place. -/
def checkL (l : List Fl) : Nat × Int := if 21 < l.length then (7, -1) else match (List.range l.length).find? (fun i => badAt l i != 0) with
  | some i => (badAt l i, i)
  | none => (0, -1)
theorem behind_one {a : List Fl} {f : Fl} (h : behindE a f = 0) : oneE f = 0 := by
  unfold behindE at h
  split at h <;> assumption
theorem behind_last {a : List Fl} {f g : Fl} (h : behindE a f = 0) (hg : a.getLast? = some g) : g.nm < f.nm := by
  have h1 := behind_one h
  unfold behindE at h
  rw [if_pos h1] at h
  split at h
  · cases h
  · rename_i hn
    exact Decidable.byContradiction fun e => hn ⟨g, hg, e⟩
theorem behind_top {a : List Fl} {f : Fl} (h : behindE a f = 0) : topL a < f.ep := by
  have h1 := behind_one h
  unfold behindE at h
  rw [if_pos h1] at h
  split at h
  · cases h
  · split at h
    · cases h
    · omega
theorem bad_right {l : List Fl} (h : RightF l) (i : Nat) : badAt l i = 0 := by
  unfold badAt
  cases hf : l[i]? with
  | none => rfl
  | some f =>
    obtain ⟨hi, hfi⟩ := List.getElem?_eq_some_iff.1 hf
    have hm : f ∈ l := by rw [← hfi]; exact List.getElem_mem _
    have hd : f ∈ l.drop i := by rw [List.drop_eq_getElem_cons hi, hfi]; simp
    have hall := h.rising
    rw [← List.take_append_drop i l] at hall
    have hlt := (List.pairwise_append.1 hall).2.2
    show behindE (l.take i) f = 0
    unfold behindE
    rw [if_pos (h.one f hm), if_neg, if_neg]
    · intro hle
      rcases top_cases (l.take i) with ⟨g, hg, gs, e⟩ | e
      · have hgl := List.mem_of_mem_take hg
        have : f.nm ≠ star := fun fs => by have := hlt g hg f hd; rw [gs, fs] at this; exact List.lt_irrefl _ this
        rcases h.above f hm with e2 | e2
        · exact this e2
        · rw [top_mem h.one h.rising hgl gs] at e2; omega
      · have := one_pos (h.one f hm); omega
    · rintro ⟨g, hg, hn⟩
      exact hn (hlt g (List.mem_of_getLast? hg) f hd)
theorem last_or {l : List Fl} (h : RisingF l) {f g : Fl} (hf : f ∈ l) (hg : l.getLast? = some g) : f = g ∨ f.nm < g.nm := by
  obtain ⟨a, rfl⟩ := List.getLast?_eq_some_iff.1 hg
  rcases List.mem_append.1 hf with e | e
  · exact Or.inr ((List.pairwise_append.1 h).2.2 f e g (by simp))
  · exact Or.inl (by simpa using e)
theorem bad_zero {l : List Fl} {i : Nat} (hi : i < l.length) (h : badAt l i = 0) : behindE (l.take i) l[i] = 0 := by
  unfold badAt at h
  rw [List.getElem?_eq_getElem hi] at h
  exact h
theorem rising_upto {l : List Fl} (h : ∀ i, i < l.length → badAt l i = 0) : ∀ i, i ≤ l.length → RisingF (l.take i)
  | 0, _ => by simp
  | i + 1, hi => by
    have ih := rising_upto h i (by omega)
    have hb := bad_zero (by omega) (h i (by omega))
    rw [List.take_succ_eq_append_getElem (by omega)]
    refine List.pairwise_append.2 ⟨ih, by simp, fun f hf g hg => ?_⟩
    obtain rfl : g = l[i] := by simpa using hg
    cases hl : (l.take i).getLast? with
    | none => rw [List.getLast?_eq_none_iff] at hl; rw [hl] at hf; cases hf
    | some o =>
      have := behind_last hb hl
      rcases last_or ih hf hl with e | e
      · rw [e]; exact this
      · exact List.lt_trans e this
theorem right_of_bad {l : List Fl} (h : ∀ i, i < l.length → badAt l i = 0) : RightF l where
  one f hf := by
    obtain ⟨i, hi, rfl⟩ := List.getElem_of_mem hf
    exact behind_one (bad_zero hi (h i hi))
  rising := by
    have := rising_upto h l.length (Nat.le_refl _)
    rwa [List.take_length] at this
  above f hf := by
    obtain ⟨i, hi, rfl⟩ := List.getElem_of_mem hf
    have hb := bad_zero hi (h i hi)
    match l, i, hi, hb with
    | a :: l, 0, _, hb =>
      by_cases hs : a.nm = star
      · exact Or.inl hs
      · refine Or.inr ?_
        rw [topL_cons, if_neg hs]
        exact (one_pos (behind_one hb)).1
    | a :: l, i + 1, hi, hb =>
      have ht := behind_top hb
      rw [List.take_succ_cons, topL_cons] at ht
      exact Or.inr ht
theorem check_full {l : List Fl} (h : 21 < l.length) : checkL l = (7, -1) := by unfold checkL; rw [if_pos h]
theorem check_bad {l : List Fl} {k : Nat} (hl : ¬ 21 < l.length) (hk : k < l.length) (h1 : ∀ j, j < k → badAt l j = 0) (h2 : badAt l k ≠ 0) : checkL l = (badAt l k, (k : Int)) := by
  unfold checkL
  rw [if_neg hl]
  have : (List.range l.length).find? (fun i => badAt l i != 0) = some k := by
    rw [List.find?_range_eq_some]
    exact ⟨by simpa using h2, by simpa using hk, fun j hj => by simp [h1 j hj]⟩
  rw [this]
theorem check_good {l : List Fl} (hl : ¬ 21 < l.length) (h : ∀ j, j < l.length → badAt l j = 0) : checkL l = (0, -1) := by
  unfold checkL
  rw [if_neg hl]
  have : (List.range l.length).find? (fun i => badAt l i != 0) = none := by
    rw [List.find?_eq_none]
    intro j hj
    simp [h j (by simpa using hj)]
  rw [this]
theorem check_right {l : List Fl} (h : RightF l) : checkL l = if 21 < l.length then (7, -1) else (0, -1) := by
  split
  · exact check_full (by assumption)
  · exact check_good (by assumption) (fun j _ => bad_right h j)
theorem right_of_check {l : List Fl} (h : (checkL l).1 = 0) : RightF l ∧ l.length ≤ 21 := by
  by_cases hl : 21 < l.length
  · rw [check_full hl] at h; cases h
  · refine ⟨right_of_bad (fun i hi => ?_), by omega⟩
    induction i using Nat.strongRecOn with
    | _ i ih =>
      refine Decidable.byContradiction fun hb => ?_
      rw [check_bad hl hi (fun j hj => ih j hj (by omega)) hb] at h
      exact hb h
theorem check_le (l : List Fl) : (checkL l).1 < 16 := by
  have hone : ∀ f, oneE f < 16 := fun f => by unfold oneE; repeat' split
                                              all_goals decide
  have hb : ∀ i, badAt l i < 16 := fun i => by
    unfold badAt
    split
    · unfold behindE
      split
      · split
        · decide
        · split <;> decide
      · exact hone _
    · decide
  unfold checkL
  split
  · decide
  · split
    · exact hb _
    · decide

/-- Their cells, one behind the other. -/
def cellsF (l : List Fl) : List Value := l.flatMap Fl.cells
theorem cellsF_nil : cellsF [] = [] := rfl
theorem cellsF_cons (f : Fl) (l : List Fl) : cellsF (f :: l) = .string f.who :: .int .i64 f.ep :: cellsF l := rfl
theorem cellsF_append (l m : List Fl) : cellsF (l ++ m) = cellsF l ++ cellsF m := by simp [cellsF]
theorem cellsF_len : ∀ l : List Fl, (cellsF l).length = l.length * 2
  | [] => rfl
  | f :: l => by rw [cellsF_cons, List.length_cons, List.length_cons, cellsF_len l, List.length_cons]; omega
theorem cellsF_who : ∀ (l : List Fl) (i : Nat) (hi : i < l.length), (cellsF l)[i * 2]? = some (.string l[i].who)
  | f :: l, 0, _ => rfl
  | f :: l, i + 1, hi => by
    rw [cellsF_cons, show (i + 1) * 2 = i * 2 + 1 + 1 by omega, List.getElem?_cons_succ, List.getElem?_cons_succ]
    exact cellsF_who l i (by simpa using hi)
theorem cellsF_ep : ∀ (l : List Fl) (i : Nat) (hi : i < l.length), (cellsF l)[i * 2 + 1]? = some (.int .i64 l[i].ep)
  | f :: l, 0, _ => rfl
  | f :: l, i + 1, hi => by
    rw [cellsF_cons, show (i + 1) * 2 + 1 = i * 2 + 1 + 1 + 1 by omega, List.getElem?_cons_succ, List.getElem?_cons_succ]
    exact cellsF_ep l i (by simpa using hi)
theorem cellsF_one (l : List Fl) : ∀ u ∈ cellsF l, u.oneCell' = true := by
  intro u hu
  unfold cellsF at hu
  obtain ⟨f, _, hf⟩ := List.mem_flatMap.1 hu
  simp only [Fl.cells, List.mem_cons, List.not_mem_nil, or_false] at hf
  rcases hf with rfl | rfl <;> rfl
theorem cellsF_take (l : List Fl) (k : Nat) : cellsF (l.take k) = (cellsF l).take (k * 2) := by
  by_cases hk : k ≤ l.length
  · have e := congrArg cellsF (List.take_append_drop k l)
    rw [cellsF_append] at e
    have h2 : (cellsF (l.take k)).length = k * 2 := by rw [cellsF_len, List.length_take]; omega
    rw [← e, ← h2, List.take_left]
  · rw [List.take_of_length_le (by omega), List.take_of_length_le (by rw [cellsF_len]; omega)]
theorem cellsF_drop (l : List Fl) (k : Nat) : cellsF (l.drop k) = (cellsF l).drop (k * 2) := by
  by_cases hk : k ≤ l.length
  · have e := congrArg cellsF (List.take_append_drop k l)
    rw [cellsF_append] at e
    have h2 : (cellsF (l.take k)).length = k * 2 := by rw [cellsF_len, List.length_take]; omega
    rw [← e, ← h2, List.drop_left]
  · rw [List.drop_of_length_le (by omega), List.drop_of_length_le (by rw [cellsF_len]; omega)]; rfl
end Go.Proofs.YteofodegeigmaaaDoor

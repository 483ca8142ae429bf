/-
  Sealed texts as lists of bytes: what is looked at, sealed and opened, and the laws of the chapter: what is sealed is opened as it was, with one byte another one it is not, and what is opened is sealed as it was.
-/
import Derived.Test.YteofodegeigmaaaDoorSealPlain
import Derived.Test.YteofodegeigmaaaDoorMarkPlain
namespace Go.Proofs.YteofodegeigmaaaDoor.Sl
open Go

/-- Bytes as a text. -/
def ofL (l : List UInt8) : ByteArray := ⟨l.toArray⟩
theorem toL_ofL (l : List UInt8) : (ofL l).data.toList = l := rfl
theorem ofL_toL (s : ByteArray) : ofL s.data.toList = s := by cases s; rfl
theorem ba_ext {a b : ByteArray} (h : a.data.toList = b.data.toList) : a = b := by rw [← ofL_toL a, ← ofL_toL b, h]
theorem ofL_size (l : List UInt8) : (ofL l).size = l.length := by show l.toArray.size = _; simp
theorem map_ofL (xs : List ByteArray) : (xs.map (·.data.toList)).map ofL = xs := by
  rw [List.map_map]
  conv => rhs; rw [← List.map_id xs]
  refine List.map_congr_left fun x _ => ofL_toL x

/-- Words, a blank between. -/
abbrev glue (ws : List (List UInt8)) : List UInt8 := Lib.join ws [32]
/-- The words that are looked at, what stands behind the last blank, its number. -/
def lookW (l : List UInt8) : List (List UInt8) := (pieces l).dropLast
def lastP (l : List UInt8) : List UInt8 := (pieces l).getLastD []
def lookN (l : List UInt8) : Nat := valL (lastP l)
/-- Words by their number and form. -/
def wordsOk (ws : List (List UInt8)) : Bool := decide (1 ≤ ws.length ∧ ws.length ≤ 10) && ws.all wordL
def lookOk (l : List UInt8) : Bool := (numOk (lastP l) && decide (valL (lastP l) ≤ 1000000006)) && wordsOk (lookW l)
/-- The number of Look's error. -/
def lookE (l : List UInt8) : Nat := if 4000 < l.length then 2 else if lookOk l = true then 0 else 1

theorem look_cut (a t : List UInt8) (ht : (32 : UInt8) ∉ t) : lookW (a ++ 32 :: t) = pieces a ∧ lastP (a ++ 32 :: t) = t := by
  unfold lookW lastP
  rw [pieces_cut, pieces_plain t ht]
  refine ⟨by simp, ?_⟩
  rw [List.getLastD_eq_getLast?]
  simp
theorem look_plain (l : List UInt8) (h : (32 : UInt8) ∉ l) : lookW l = [] := by
  unfold lookW
  rw [pieces_plain l h]
  rfl
theorem wordsOk_nil : wordsOk [] = false := rfl
theorem lookOk_plain (l : List UInt8) (h : (32 : UInt8) ∉ l) : lookOk l = false := by
  unfold lookOk
  rw [look_plain l h, wordsOk_nil, Bool.and_false]
theorem look_glue (l : List UInt8) (h : lookOk l = true) : ∃ a, l = a ++ 32 :: lastP l ∧ lookW l = pieces a ∧ glue (lookW l) = a ∧ (32 : UInt8) ∉ lastP l := by
  by_cases hm : (32 : UInt8) ∈ l
  · obtain ⟨a, t, rfl, ht⟩ := last_blank 32 l hm
    obtain ⟨h1, h2⟩ := look_cut a t ht
    refine ⟨a, by rw [h2], h1, ?_, by rw [h2]; exact ht⟩
    rw [h1]
    exact join_pieces a
  · rw [lookOk_plain l hm] at h
    cases h

theorem wordB_blank : wordB 32 = false := by decide
theorem digB_blank : digB 32 = false := by decide
theorem word_clean (w : List UInt8) (h : wordL w = true) : (32 : UInt8) ∉ w := by
  intro hm
  unfold wordL madeL at h
  rw [Bool.and_eq_true] at h
  have := List.all_eq_true.1 h.2 32 hm
  rw [wordB_blank] at this
  cases this
theorem num_clean (l : List UInt8) (h : numOk l = true) : (32 : UInt8) ∉ l := by
  intro hm
  have := List.all_eq_true.1 ((numOk_iff l).1 h).2.1 32 hm
  rw [digB_blank] at this
  cases this
theorem wordsOk_iff (ws : List (List UInt8)) : wordsOk ws = true ↔ (1 ≤ ws.length ∧ ws.length ≤ 10) ∧ ∀ w ∈ ws, wordL w = true := by
  unfold wordsOk
  rw [Bool.and_eq_true, decide_eq_true_eq, List.all_eq_true]
theorem word_len (w : List UInt8) (h : wordL w = true) : 1 ≤ w.length ∧ w.length ≤ 20 := by
  unfold wordL madeL at h
  rw [Bool.and_eq_true, decide_eq_true_eq] at h
  exact h.1

theorem glue_len (m : Nat) : ∀ (ws : List (List UInt8)), (∀ w ∈ ws, w.length ≤ m) → (glue ws).length ≤ (m + 1) * ws.length
  | [], _ => by simp [glue, Lib.join_nil]
  | [x], h => by
    have := h x (by simp)
    show (Lib.join [x] [32]).length ≤ _
    rw [Lib.join_one]
    simp; omega
  | x :: y :: r, h => by
    have h1 := h x (by simp)
    have ih : (Lib.join (y :: r) [32]).length ≤ (m + 1) * (y :: r).length := glue_len m (y :: r) (fun w hw => h w (by simp [hw]))
    show (Lib.join (x :: y :: r) [32]).length ≤ _
    rw [join_cons2 _ _ (by simp)]
    simp only [List.length_append, List.length_cons] at ih ⊢
    have e : (m + 1) * (r.length + 1 + 1) = (m + 1) * (r.length + 1) + (m + 1) := by rw [Nat.mul_add]; omega
    omega
theorem glue_ne (ws : List (List UInt8)) (h : wordsOk ws = true) : 1 ≤ (glue ws).length := by
  obtain ⟨⟨h1, _⟩, h2⟩ := (wordsOk_iff ws).1 h
  cases ws with
  | nil => simp at h1
  | cons x r =>
    have := (word_len x (h2 x (by simp))).1
    show 1 ≤ (Lib.join (x :: r) [32]).length
    rw [Lib.join_cons]
    simp; omega

/-- The mark of words, and the sealed text. -/
def sealM (key : Int) (ws : List (List UInt8)) : Nat := (Mk.mk key key (glue ws)).toNat
def sealL (key : Int) (ws : List (List UInt8)) : List UInt8 := glue ws ++ 32 :: Lib.decDigits (sealM key ws)
/-- The number of Open's error. -/
def openE (key : Int) (l : List UInt8) : Nat := if 1 ≤ key ∧ key ≤ 1000000006 then (if lookE l = 0 then (if Mk.mk key key (glue (lookW l)) = (lookN l : Int) then 0 else 9) else lookE l) else 10

theorem sealM_le (key : Int) (hk : 1 ≤ key ∧ key ≤ 1000000006) (ws : List (List UInt8)) : sealM key ws ≤ 1000000006 := by
  have := Mk.mk_bd key key (by omega) (glue ws)
  unfold sealM
  omega
theorem sealM_mk (key : Int) (hk : 1 ≤ key ∧ key ≤ 1000000006) (ws : List (List UInt8)) : (sealM key ws : Int) = Mk.mk key key (glue ws) := by
  have := Mk.mk_bd key key (by omega) (glue ws)
  unfold sealM
  omega

theorem seal_look (key : Int) (hk : 1 ≤ key ∧ key ≤ 1000000006) (ws : List (List UInt8)) (h : wordsOk ws = true) :
    lookW (sealL key ws) = ws ∧ lastP (sealL key ws) = Lib.decDigits (sealM key ws) ∧ lookE (sealL key ws) = 0 ∧ openE key (sealL key ws) = 0 ∧ (sealL key ws).length ≤ 400 := by
  obtain ⟨⟨h1, h10⟩, hw⟩ := (wordsOk_iff ws).1 h
  have hle := sealM_le key hk ws
  have hok := dec_ok (sealM key ws) (by omega)
  have hcl := num_clean _ hok
  obtain ⟨e1, e2⟩ := look_cut (glue ws) (Lib.decDigits (sealM key ws)) hcl
  have hne : ws ≠ [] := by intro e; subst e; simp at h1
  have e3 : lookW (sealL key ws) = ws := e1.trans (pieces_join ws hne (fun w hm => word_clean w (hw w hm)))
  have e4 : lastP (sealL key ws) = Lib.decDigits (sealM key ws) := e2
  have e5 : lookOk (sealL key ws) = true := by
    unfold lookOk
    rw [e3, e4, h, hok, dec_val, decide_eq_true hle]
    rfl
  have hl : (sealL key ws).length ≤ 400 := by
    have g := glue_len 20 ws (fun w hm => (word_len w (hw w hm)).2)
    have g2 : (20 + 1) * ws.length ≤ 210 := by omega
    have g3 := ((numOk_iff _).1 hok).1.2
    unfold sealL
    simp only [List.length_append, List.length_cons]
    omega
  have e6 : lookE (sealL key ws) = 0 := by
    unfold lookE
    rw [if_neg (by omega), if_pos e5]
  refine ⟨e3, e4, e6, ?_, hl⟩
  unfold openE
  rw [if_pos hk, if_pos e6, e3, if_pos]
  unfold lookN
  rw [e4, dec_val, sealM_mk key hk]

theorem lookE_ok (l : List UInt8) (h : lookE l = 0) : lookOk l = true := by
  unfold lookE at h
  split at h
  · cases h
  · split at h
    · assumption
    · cases h
theorem lookOk_words (l : List UInt8) (h : lookOk l = true) : wordsOk (lookW l) = true := by
  unfold lookOk at h
  rw [Bool.and_eq_true] at h
  exact h.2
theorem lookOk_num (l : List UInt8) (h : lookOk l = true) : numOk (lastP l) = true ∧ valL (lastP l) ≤ 1000000006 := by
  unfold lookOk at h
  rw [Bool.and_eq_true, Bool.and_eq_true, decide_eq_true_eq] at h
  exact h.1
theorem openE_iff (key : Int) (l : List UInt8) : openE key l = 0 ↔ (1 ≤ key ∧ key ≤ 1000000006) ∧ lookE l = 0 ∧ Mk.mk key key (glue (lookW l)) = (lookN l : Int) := by
  unfold openE
  constructor
  · intro h
    split at h
    · split at h
      · split at h
        · exact ⟨by assumption, by assumption, by assumption⟩
        · cases h
      · exact absurd h (by assumption)
    · cases h
  · rintro ⟨h1, h2, h3⟩
    rw [if_pos h1, if_pos h2, if_pos h3]

/-- What is opened is sealed as it was. -/
theorem open_seal (key : Int) (l : List UInt8) (h : openE key l = 0) : sealL key (lookW l) = l ∧ wordsOk (lookW l) = true := by
  obtain ⟨hk, h2, h3⟩ := (openE_iff key l).1 h
  have hok := lookE_ok l h2
  obtain ⟨a, e1, _, e3, _⟩ := look_glue l hok
  refine ⟨?_, lookOk_words l hok⟩
  have hm : sealM key (lookW l) = lookN l := by unfold sealM; rw [h3]; simp
  unfold sealL
  rw [hm, e3]
  unfold lookN
  rw [val_dec _ (lookOk_num l hok).1]
  exact e1.symm

/-- With one byte another one it is not opened, as long as the mark begins where it began. -/
theorem seal_set (key : Int) (hk : 1 ≤ key ∧ key ≤ 1000000006) (ws : List (List UInt8)) (h : wordsOk ws = true) (k : Nat) (hkl : k < (sealL key ws).length) (c : UInt8) (hc : (sealL key ws)[k] ≠ c)
    (hlast : k ≠ (glue ws).length) (hblank : (glue ws).length < k → c ≠ 32) : openE key ((sealL key ws).set k c) ≠ 0 := by
  obtain ⟨_, e2, _, _, _⟩ := seal_look key hk ws h
  have hok := dec_ok (sealM key ws) (by have := sealM_le key hk ws; omega)
  have hcl := num_clean _ hok
  intro ho
  obtain ⟨_, h2, h3⟩ := (openE_iff _ _).1 ho
  have hlok := lookE_ok _ h2
  rcases Nat.lt_or_ge k (glue ws).length with g | g
  · have es : (sealL key ws).set k c = (glue ws).set k c ++ 32 :: Lib.decDigits (sealM key ws) := by
      unfold sealL
      rw [List.set_append_left _ _ g]
    obtain ⟨w1, w2⟩ := look_cut ((glue ws).set k c) (Lib.decDigits (sealM key ws)) hcl
    rw [← es] at w1 w2
    rw [w1, show glue (pieces ((glue ws).set k c)) = (glue ws).set k c from join_pieces _] at h3
    unfold lookN at h3
    rw [w2, dec_val, sealM_mk key hk] at h3
    have hc' : (glue ws)[k] ≠ c := by
      intro e
      apply hc
      have g2 : (sealL key ws)[k]? = some c := by
        unfold sealL
        rw [List.getElem?_append_left g, List.getElem?_eq_getElem g, e]
      rw [List.getElem?_eq_getElem hkl] at g2
      exact Option.some.inj g2
    have := Mk.mk_set key key (by omega) (glue ws) k g c hc' []
    rw [List.append_nil, List.append_nil] at this
    exact this h3
  · obtain ⟨j, rfl⟩ : ∃ j, k = (glue ws).length + 1 + j := ⟨k - (glue ws).length - 1, by omega⟩
    have hc32 := hblank (by omega)
    have es : (sealL key ws).set ((glue ws).length + 1 + j) c = glue ws ++ 32 :: (Lib.decDigits (sealM key ws)).set j c := by
      unfold sealL
      rw [List.set_append_right _ _ (by omega), show (glue ws).length + 1 + j - (glue ws).length = j + 1 by omega, List.set_cons_succ]
    have hcl2 : (32 : UInt8) ∉ (Lib.decDigits (sealM key ws)).set j c := by
      intro hm
      rcases List.mem_or_eq_of_mem_set hm with g2 | g2
      · exact hcl g2
      · exact hc32 g2.symm
    obtain ⟨w1, w2⟩ := look_cut (glue ws) ((Lib.decDigits (sealM key ws)).set j c) hcl2
    rw [← es] at w1 w2
    obtain ⟨hn1, _⟩ := lookOk_num _ hlok
    rw [w1, show glue (pieces (glue ws)) = glue ws from join_pieces _, ← sealM_mk key hk] at h3
    unfold lookN at h3
    rw [w2] at h3 hn1
    have hv : valL ((Lib.decDigits (sealM key ws)).set j c) = valL (Lib.decDigits (sealM key ws)) := by rw [dec_val]; omega
    have e := val_inj _ _ hn1 hok hv
    have hj : j < (Lib.decDigits (sealM key ws)).length := by
      have := hkl
      unfold sealL at this
      simp only [List.length_append, List.length_cons] at this
      omega
    apply hc
    have g1 : ((Lib.decDigits (sealM key ws)).set j c)[j]? = some c := by rw [List.getElem?_set_self hj]
    rw [e] at g1
    have g2 : (sealL key ws)[(glue ws).length + 1 + j]? = some c := by
      unfold sealL
      rw [List.getElem?_append_right (by omega), show (glue ws).length + 1 + j - (glue ws).length = j + 1 by omega, List.getElem?_cons_succ]
      exact g1
    rw [List.getElem?_eq_getElem hkl] at g2
    exact Option.some.inj g2
end Go.Proofs.YteofodegeigmaaaDoor.Sl

/-
  Tickets as the document has them, plainly: a ticket, the numbers of its errors, its words, what is read of words, what is renewed; and the laws of the chapter: a ticket is opened as it was made, and what is renewed is good no longer than before.
-/
import Derived.Test.YteabincmopeljadDoorSealSpec
import Derived.Below
namespace Go.Proofs.YteabincmopeljadDoor
open Go

structure Tk where
  who : ByteArray
  dst : ByteArray
  epoch : Int
  frm : Int
  til : Int
  ser : Int
/-- A ticket's six cells, as an array, and the value. -/
def Tk.cells (t : Tk) : Array Value := #[.string t.who, .string t.dst, .int .i64 t.epoch, .int .i64 t.frm, .int .i64 t.til, .int .i64 t.ser]
def Tk.val (t : Tk) : Value := .agg t.cells
/-- No ticket. -/
def tk0 : Tk := ⟨⟨#[]⟩, ⟨#[]⟩, 0, 0, 0, 0⟩
def Tk.names (t : Tk) : Bool := Sl.nameL t.who.data.toList && Sl.nameL t.dst.data.toList
abbrev Tk.nums (t : Tk) : Prop := (1 ≤ t.epoch ∧ t.epoch ≤ 1073741824) ∧ (1 ≤ t.ser ∧ t.ser ≤ 1073741824) ∧ (0 ≤ t.frm ∧ t.frm ≤ 1000000) ∧ (t.frm ≤ t.til ∧ t.til ≤ 1000000)
/-- The number of a ticket's error. -/
def Tk.err (t : Tk) : Nat := if t.names = true then (if t.nums then 0 else 2) else 4
/-- Is it good at a time? The error's number. -/
def Tk.good (t : Tk) (now : Int) : Nat := if t.err = 0 then (if 0 ≤ now ∧ now ≤ 1000000 then (if now < t.frm then 11 else if t.til ≤ now then 12 else 0) else 2) else t.err
/-- The ticket, or none, by an error's number. -/
def okT (c : Nat) (t : Tk) : Tk := if c = 0 then t else tk0
/-- What would be renewed, and the error's number. -/
def Tk.anew (t : Tk) (now til ser : Int) : Tk := ⟨t.who, t.dst, t.epoch, now, min til t.til, ser⟩
def Tk.renewE (t : Tk) (now til ser : Int) : Nat := if t.good now = 0 then (t.anew now til ser).err else t.good now

/-- A ticket's words. -/
def tickL : List UInt8 := [116, 105, 99, 107, 101, 116]
def Tk.words (t : Tk) : List (List UInt8) := [tickL, t.who.data.toList, t.dst.data.toList, Lib.decDigits t.epoch.toNat, Lib.decDigits t.frm.toNat, Lib.decDigits t.til.toNat, Lib.decDigits t.ser.toNat]
/-- What is read of words: are they a ticket's by their form, the ticket, the error's number. -/
def formW (ws : List (List UInt8)) : Bool := decide (ws.length = 7) && decide (ws.getD 0 [] = tickL) && (Sl.numOk (ws.getD 3 []) && Sl.numOk (ws.getD 4 []) && Sl.numOk (ws.getD 5 []) && Sl.numOk (ws.getD 6 []))
def tkOf (ws : List (List UInt8)) : Tk := ⟨Sl.ofL (ws.getD 1 []), Sl.ofL (ws.getD 2 []), (Sl.valL (ws.getD 3 []) : Int), (Sl.valL (ws.getD 4 []) : Int), (Sl.valL (ws.getD 5 []) : Int), (Sl.valL (ws.getD 6 []) : Int)⟩
def readE (ws : List (List UInt8)) : Nat := if formW ws = true then (tkOf ws).err else 1

theorem Tk.err_le (t : Tk) : t.err ≤ 16 := by unfold Tk.err; split <;> (try split) <;> omega
theorem Tk.good_le (t : Tk) (now : Int) : t.good now ≤ 16 := by have := t.err_le; unfold Tk.good; repeat (first | split | omega)
theorem Tk.renewE_le (t : Tk) (now til ser : Int) : t.renewE now til ser ≤ 16 := by have := (t.anew now til ser).err_le; have := t.good_le now; unfold Tk.renewE; split <;> omega
theorem readE_le (ws : List (List UInt8)) : readE ws ≤ 16 := by have := (tkOf ws).err_le; unfold readE; split <;> omega
theorem Tk.err_iff (t : Tk) : t.err = 0 ↔ t.names = true ∧ t.nums := by
  unfold Tk.err
  constructor
  · intro h
    split at h
    · split at h
      · exact ⟨by assumption, by assumption⟩
      · cases h
    · cases h
  · rintro ⟨h1, h2⟩
    rw [if_pos h1, if_pos h2]
theorem Tk.good_iff (t : Tk) (now : Int) : t.good now = 0 ↔ t.err = 0 ∧ (0 ≤ now ∧ now ≤ 1000000) ∧ t.frm ≤ now ∧ now < t.til := by
  unfold Tk.good
  constructor
  · intro h
    split at h
    · split at h
      · split at h
        · cases h
        · split at h
          · cases h
          · exact ⟨by assumption, by assumption, by omega, by omega⟩
      · cases h
    · exact absurd h (by assumption)
  · rintro ⟨h1, h2, h3, h4⟩
    rw [if_pos h1, if_pos h2, if_neg (by omega), if_neg (by omega)]

theorem smallB_word (b : UInt8) (h : Sl.smallB b = true) : Sl.wordB b = true := by unfold Sl.wordB; rw [h]; rfl
theorem name_small {s : ByteArray} (h : Sl.nameL s.data.toList = true) : s.size ≤ maxLen := by
  unfold Sl.nameL Sl.madeL at h
  rw [Bool.and_eq_true, decide_eq_true_eq] at h
  have h1 := h.1
  have : s.data.toList.length = s.size := rfl
  unfold maxLen
  omega
theorem name_word (l : List UInt8) (h : Sl.nameL l = true) : Sl.wordL l = true := by
  unfold Sl.nameL Sl.madeL at h
  unfold Sl.wordL Sl.madeL
  rw [Bool.and_eq_true, decide_eq_true_eq] at h
  rw [Bool.and_eq_true, decide_eq_true_eq]
  refine ⟨by omega, List.all_eq_true.2 fun b hb => smallB_word b (List.all_eq_true.1 h.2 b hb)⟩
theorem num_word (l : List UInt8) (h : Sl.numOk l = true) : Sl.wordL l = true := by
  obtain ⟨h1, h2, _⟩ := (Sl.numOk_iff l).1 h
  unfold Sl.wordL Sl.madeL
  rw [Bool.and_eq_true, decide_eq_true_eq]
  refine ⟨by omega, List.all_eq_true.2 fun b hb => smallB_word b ?_⟩
  unfold Sl.smallB
  rw [List.all_eq_true.1 h2 b hb]
  rfl
theorem dec_nat (n : Int) (h : 0 ≤ n ∧ n ≤ 1073741824) : Sl.numOk (Lib.decDigits n.toNat) = true ∧ (Sl.valL (Lib.decDigits n.toNat) : Int) = n := by
  refine ⟨Sl.dec_ok _ (by omega), ?_⟩
  rw [Sl.dec_val]
  omega
theorem Tk.words_ok (t : Tk) (h : t.err = 0) : Sl.wordsOk t.words = true := by
  obtain ⟨hn, h1, h2, h3, h4⟩ := t.err_iff.1 h
  unfold Tk.names at hn
  rw [Bool.and_eq_true] at hn
  rw [Sl.wordsOk_iff]
  refine ⟨⟨by simp [Tk.words], by simp [Tk.words]⟩, fun w hw => ?_⟩
  simp only [Tk.words, List.mem_cons, List.not_mem_nil, or_false] at hw
  rcases hw with rfl | rfl | rfl | rfl | rfl | rfl | rfl
  · decide
  · exact name_word _ hn.1
  · exact name_word _ hn.2
  · exact num_word _ (dec_nat _ (by omega)).1
  · exact num_word _ (dec_nat _ (by omega)).1
  · exact num_word _ (dec_nat _ (by omega)).1
  · exact num_word _ (dec_nat _ (by omega)).1
/-- A ticket's words are read as the ticket. -/
theorem Tk.words_read (t : Tk) (h : t.err = 0) : readE t.words = 0 ∧ tkOf t.words = t := by
  obtain ⟨hn, h1, h2, h3, h4⟩ := t.err_iff.1 h
  have e1 := dec_nat t.epoch (by omega)
  have e2 := dec_nat t.frm (by omega)
  have e3 := dec_nat t.til (by omega)
  have e4 := dec_nat t.ser (by omega)
  have e : tkOf t.words = t := by
    show Tk.mk (Sl.ofL t.who.data.toList) (Sl.ofL t.dst.data.toList) (Sl.valL (Lib.decDigits t.epoch.toNat)) (Sl.valL (Lib.decDigits t.frm.toNat)) (Sl.valL (Lib.decDigits t.til.toNat)) (Sl.valL (Lib.decDigits t.ser.toNat)) = t
    rw [e1.2, e2.2, e3.2, e4.2, Sl.ofL_toL, Sl.ofL_toL]
  refine ⟨?_, e⟩
  have hf : formW t.words = true := by
    show (true && decide (tickL = tickL) && (Sl.numOk (Lib.decDigits t.epoch.toNat) && Sl.numOk (Lib.decDigits t.frm.toNat) && Sl.numOk (Lib.decDigits t.til.toNat) && Sl.numOk (Lib.decDigits t.ser.toNat))) = true
    rw [e1.1, e2.1, e3.1, e4.1]
    rfl
  unfold readE
  rw [if_pos hf, e, h]
/-- What is renewed is good no longer than before, and never for another one. -/
theorem Tk.anew_good (t : Tk) (now til ser thn : Int) (h : t.good now = 0) (h2 : (t.anew now til ser).good thn = 0) : t.good thn = 0 ∧ now ≤ thn := by
  obtain ⟨h3, h4, h5, h6⟩ := (t.good_iff now).1 h
  obtain ⟨g3, g4, g5, g6⟩ := ((t.anew now til ser).good_iff thn).1 h2
  have e1 : (t.anew now til ser).frm = now := rfl
  have e2 : (t.anew now til ser).til = min til t.til := rfl
  rw [e1] at g5
  rw [e2] at g6
  exact ⟨(t.good_iff thn).2 ⟨h3, g4, by omega, by omega⟩, g5⟩
end Go.Proofs.YteabincmopeljadDoor

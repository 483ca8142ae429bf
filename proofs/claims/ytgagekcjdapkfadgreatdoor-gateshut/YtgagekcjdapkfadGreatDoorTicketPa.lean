/-
  Tickets as the document has them, plainly: a ticket, the numbers of its errors, its words, what is read of words, what is renewed; and the laws of the chapter: a ticket is opened as it was made, and what is renewed is good no longer than before.
  What package ticket's isNum, isTime, Check, checked, Good and Renew give, for every ticket, time and serial.
  What package ticket's checked, Good and Renew give, for every ticket, time and serial.
  What package ticket's Renew gives, for every ticket, times and serial.
  What package ticket's words gives: a slice of a ticket's seven words, new; for every ticket.
  What package ticket's read gives: of words the ticket, or ErrText where they are none of a ticket, or Check's error; for every slice of texts.
  What package ticket's Make, Open and Look give: the sealed text of a ticket, the ticket of a sealed text, or the error that the document names; for every key, ticket and text.
  What the statements' helpers LongTicket and ticketed give; and that a ticket is opened, and looked at, as it was made.
-/
import Derived.Test.YtgagekcjdapkfadGreatDoorSealSpec
import Derived.Below
import Derived.Test.YtgagekcjdapkfadGreatDoorSealWords
import Derived.Laws.NewBlocks
import Derived.RegionTactic
import Derived.Test.YtgagekcjdapkfadGreatDoorSealTake
import Derived.Test.YtgagekcjdapkfadGreatDoorSealBack
import Derived.Deep.RegionHeld3
import Derived.Test.YtgagekcjdapkfadGreatDoorSealMake
namespace Go.Proofs.YtgagekcjdapkfadGreatDoor
open Go

structure Tk where
  who : ByteArray
  dst : ByteArray
  epoch : Int
  frm : Int
  til : Int
  ser : Int
/-- A ticket's six cells, as an array, and the value. -/
def Tk.cells (t : Tk) : Array Value := #[.string t.who, .string t.dst, .int .i64 t.epoch, .int .i64 t.frm, .int .i64 t.til, .int .i64 t.ser]
def Tk.val (t : Tk) : Value := .agg t.cells
/-- No ticket. -/
def tk0 : Tk := ⟨⟨#[]⟩, ⟨#[]⟩, 0, 0, 0, 0⟩
def Tk.names (t : Tk) : Bool := Sl.nameL t.who.data.toList && Sl.nameL t.dst.data.toList
abbrev Tk.nums (t : Tk) : Prop := (1 ≤ t.epoch ∧ t.epoch ≤ 1073741824) ∧ (1 ≤ t.ser ∧ t.ser ≤ 1073741824) ∧ (0 ≤ t.frm ∧ t.frm ≤ 1000000) ∧ (t.frm ≤ t.til ∧ t.til ≤ 1000000)
/-- The number of a ticket's error. -/
def Tk.err (t : Tk) : Nat := if t.names = true then (if t.nums then 0 else 2) else 4
/-- Is it good at a time? The error's number. -/
def Tk.good (t : Tk) (now : Int) : Nat := if t.err = 0 then (if 0 ≤ now ∧ now ≤ 1000000 then (if now < t.frm then 11 else if t.til ≤ now then 12 else 0) else 2) else t.err
/-- The ticket, or none, by an error's number. -/
def okT (c : Nat) (t : Tk) : Tk := if c = 0 then t else tk0
/-- What would be renewed, and the error's number. -/
def Tk.anew (t : Tk) (now til ser : Int) : Tk := ⟨t.who, t.dst, t.epoch, now, min til t.til, ser⟩
def Tk.renewE (t : Tk) (now til ser : Int) : Nat := if t.good now = 0 then (t.anew now til ser).err else t.good now

/-- A ticket's words. -/
def tickL : List UInt8 := [116, 105, 99, 107, 101, 116]
def Tk.words (t : Tk) : List (List UInt8) := [tickL, t.who.data.toList, t.dst.data.toList, Lib.decDigits t.epoch.toNat, Lib.decDigits t.frm.toNat, Lib.decDigits t.til.toNat, Lib.decDigits t.ser.toNat]
/-- What is read of words: are they a ticket's by their form, the ticket, the error's number. -/
def formW (ws : List (List UInt8)) : Bool := decide (ws.length = 7) && decide (ws.getD 0 [] = tickL) && (Sl.numOk (ws.getD 3 []) && Sl.numOk (ws.getD 4 []) && Sl.numOk (ws.getD 5 []) && Sl.numOk (ws.getD 6 []))
def tkOf (ws : List (List UInt8)) : Tk := ⟨Sl.ofL (ws.getD 1 []), Sl.ofL (ws.getD 2 []), (Sl.valL (ws.getD 3 []) : Int), (Sl.valL (ws.getD 4 []) : Int), (Sl.valL (ws.getD 5 []) : Int), (Sl.valL (ws.getD 6 []) : Int)⟩
def readE (ws : List (List UInt8)) : Nat := if formW ws = true then (tkOf ws).err else 1

theorem Tk.err_le (t : Tk) : t.err ≤ 16 := by unfold Tk.err; split <;> (try split) <;> omega
theorem Tk.good_le (t : Tk) (now : Int) : t.good now ≤ 16 := by have := t.err_le; unfold Tk.good; repeat (first | split | omega)
theorem Tk.renewE_le (t : Tk) (now til ser : Int) : t.renewE now til ser ≤ 16 := by have := (t.anew now til ser).err_le; have := t.good_le now; unfold Tk.renewE; split <;> omega
theorem readE_le (ws : List (List UInt8)) : readE ws ≤ 16 := by have := (tkOf ws).err_le; unfold readE; split <;> omega
theorem Tk.err_iff (t : Tk) : t.err = 0 ↔ t.names = true ∧ t.nums := by
  unfold Tk.err
  constructor
  · intro h
    split at h
    · split at h
      · exact ⟨by assumption, by assumption⟩
      · cases h
    · cases h
  · rintro ⟨h1, h2⟩
    rw [if_pos h1, if_pos h2]
theorem Tk.good_iff (t : Tk) (now : Int) : t.good now = 0 ↔ t.err = 0 ∧ (0 ≤ now ∧ now ≤ 1000000) ∧ t.frm ≤ now ∧ now < t.til := by
  unfold Tk.good
  constructor
  · intro h
    split at h
    · split at h
      · split at h
        · cases h
        · split at h
          · cases h
          · exact ⟨by assumption, by assumption, by omega, by omega⟩
      · cases h
    · exact absurd h (by assumption)
  · rintro ⟨h1, h2, h3, h4⟩
    rw [if_pos h1, if_pos h2, if_neg (by omega), if_neg (by omega)]

theorem smallB_word (b : UInt8) (h : Sl.smallB b = true) : Sl.wordB b = true := by unfold Sl.wordB; rw [h]; rfl
theorem name_word (l : List UInt8) (h : Sl.nameL l = true) : Sl.wordL l = true := by
  unfold Sl.nameL Sl.madeL at h
  unfold Sl.wordL Sl.madeL
  rw [Bool.and_eq_true, decide_eq_true_eq] at h
  rw [Bool.and_eq_true, decide_eq_true_eq]
  refine ⟨by omega, List.all_eq_true.2 fun b hb => smallB_word b (List.all_eq_true.1 h.2 b hb)⟩
theorem num_word (l : List UInt8) (h : Sl.numOk l = true) : Sl.wordL l = true := by
  obtain ⟨h1, h2, _⟩ := (Sl.numOk_iff l).1 h
  unfold Sl.wordL Sl.madeL
  rw [Bool.and_eq_true, decide_eq_true_eq]
  refine ⟨by omega, List.all_eq_true.2 fun b hb => smallB_word b ?_⟩
  unfold Sl.smallB
  rw [List.all_eq_true.1 h2 b hb]
  rfl
theorem dec_nat (n : Int) (h : 0 ≤ n ∧ n ≤ 1073741824) : Sl.numOk (Lib.decDigits n.toNat) = true ∧ (Sl.valL (Lib.decDigits n.toNat) : Int) = n := by
  refine ⟨Sl.dec_ok _ (by omega), ?_⟩
  rw [Sl.dec_val]
  omega
theorem Tk.words_ok (t : Tk) (h : t.err = 0) : Sl.wordsOk t.words = true := by
  obtain ⟨hn, h1, h2, h3, h4⟩ := t.err_iff.1 h
  unfold Tk.names at hn
  rw [Bool.and_eq_true] at hn
  rw [Sl.wordsOk_iff]
  refine ⟨⟨by simp [Tk.words], by simp [Tk.words]⟩, fun w hw => ?_⟩
  simp only [Tk.words, List.mem_cons, List.not_mem_nil, or_false] at hw
  rcases hw with rfl | rfl | rfl | rfl | rfl | rfl | rfl
  · decide
  · exact name_word _ hn.1
  · exact name_word _ hn.2
  · exact num_word _ (dec_nat _ (by omega)).1
  · exact num_word _ (dec_nat _ (by omega)).1
  · exact num_word _ (dec_nat _ (by omega)).1
  · exact num_word _ (dec_nat _ (by omega)).1
/-- A ticket's words are read as the ticket. -/
theorem Tk.words_read (t : Tk) (h : t.err = 0) : readE t.words = 0 ∧ tkOf t.words = t := by
  obtain ⟨hn, h1, h2, h3, h4⟩ := t.err_iff.1 h
  have e1 := dec_nat t.epoch (by omega)
  have e2 := dec_nat t.frm (by omega)
  have e3 := dec_nat t.til (by omega)
  have e4 := dec_nat t.ser (by omega)
  have e : tkOf t.words = t := by
    show Tk.mk (Sl.ofL t.who.data.toList) (Sl.ofL t.dst.data.toList) (Sl.valL (Lib.decDigits t.epoch.toNat)) (Sl.valL (Lib.decDigits t.frm.toNat)) (Sl.valL (Lib.decDigits t.til.toNat)) (Sl.valL (Lib.decDigits t.ser.toNat)) = t
    rw [e1.2, e2.2, e3.2, e4.2, Sl.ofL_toL, Sl.ofL_toL]
  refine ⟨?_, e⟩
  have hf : formW t.words = true := by
    show (true && decide (tickL = tickL) && (Sl.numOk (Lib.decDigits t.epoch.toNat) && Sl.numOk (Lib.decDigits t.frm.toNat) && Sl.numOk (Lib.decDigits t.til.toNat) && Sl.numOk (Lib.decDigits t.ser.toNat))) = true
    rw [e1.1, e2.1, e3.1, e4.1]
    rfl
  unfold readE
  rw [if_pos hf, e, h]
/-- What is renewed is good no longer than before, and never for another one. -/
theorem Tk.anew_good (t : Tk) (now til ser thn : Int) (h : t.good now = 0) (h2 : (t.anew now til ser).good thn = 0) : t.good thn = 0 ∧ now ≤ thn := by
  obtain ⟨h3, h4, h5, h6⟩ := (t.good_iff now).1 h
  obtain ⟨g3, g4, g5, g6⟩ := ((t.anew now til ser).good_iff thn).1 h2
  have e1 : (t.anew now til ser).frm = now := rfl
  have e2 : (t.anew now til ser).til = min til t.til := rfl
  rw [e1] at g5
  rw [e2] at g6
  exact ⟨(t.good_iff thn).2 ⟨h3, g4, by omega, by omega⟩, g5⟩
end Go.Proofs.YtgagekcjdapkfadGreatDoor

namespace Go.Proofs.YtgagekcjdapkfadGreatDoor
open Go.RowKit Go.Extern.Stop Go.Stop Go.Extern

theorem isNum_any (n : Int) (w : World) :
    Calls Tryz.prog 107 #[.int .i64 n] w fun e w' => e = .returned (.bool (decide (1 ≤ n ∧ n ≤ 1073741824))) ∧ w' = w := by
  by_cases h1 : 1 ≤ n
  · by_cases h2 : n ≤ 1073741824
    · rw [decide_eq_true ⟨h1, h2⟩]
      go_enter Tryz.func107, Tryz.ntmps107
      go_wp2
      go_ret
      exact ⟨rfl, rfl⟩
    · rw [decide_eq_false (fun h => h2 h.2)]
      go_enter Tryz.func107, Tryz.ntmps107
      go_wp2
      go_ret
      exact ⟨by simp_all, rfl⟩
  · rw [decide_eq_false (fun h => h1 h.1)]
    go_enter Tryz.func107, Tryz.ntmps107
    go_wp2
    go_ret
    exact ⟨rfl, rfl⟩
theorem isTime_any (n : Int) (w : World) :
    Calls Tryz.prog 74 #[.int .i64 n] w fun e w' => e = .returned (.bool (decide (0 ≤ n ∧ n ≤ 1000000))) ∧ w' = w := by
  by_cases h1 : 0 ≤ n
  · by_cases h2 : n ≤ 1000000
    · rw [decide_eq_true ⟨h1, h2⟩]
      go_enter Tryz.func74, Tryz.ntmps74
      go_wp2
      go_ret
      exact ⟨rfl, rfl⟩
    · rw [decide_eq_false (fun h => h2 h.2)]
      go_enter Tryz.func74, Tryz.ntmps74
      go_wp2
      go_ret
      exact ⟨by simp_all, rfl⟩
  · rw [decide_eq_false (fun h => h1 h.1)]
    go_enter Tryz.func74, Tryz.ntmps74
    go_wp2
    go_ret
    exact ⟨rfl, rfl⟩

/-- A ticket's block. -/
abbrev tkO (t : Tk) : Obj := .cells #[.string t.who, .string t.dst, .int .i64 t.epoch, .int .i64 t.frm, .int .i64 t.til, .int .i64 t.ser] 64 (0, 0)
/-- The six cells of a ticket's block. -/
theorem tk_row {w : World} {g : Nat} {t : Tk} (h : w.heap[g]? = some (tkO t)) :
    w.cell? ⟨g, 0, none⟩ = some (.string t.who) ∧ w.cell? ⟨g, 1, none⟩ = some (.string t.dst) ∧ w.cell? ⟨g, 2, none⟩ = some (.int .i64 t.epoch) ∧ w.cell? ⟨g, 3, none⟩ = some (.int .i64 t.frm) ∧ w.cell? ⟨g, 4, none⟩ = some (.int .i64 t.til) ∧ w.cell? ⟨g, 5, none⟩ = some (.int .i64 t.ser) :=
  ⟨cell_of_row w g 0 _ _ _ h, cell_of_row w g 1 _ _ _ h, cell_of_row w g 2 _ _ _ h, cell_of_row w g 3 _ _ _ h, cell_of_row w g 4 _ _ _ h, cell_of_row w g 5 _ _ _ h⟩
theorem tk_val (t : Tk) : t.val = .agg #[.string t.who, .string t.dst, .int .i64 t.epoch, .int .i64 t.frm, .int .i64 t.til, .int .i64 t.ser] := rfl

set_option maxRecDepth 100000 in
set_option maxHeartbeats 1000000 in
theorem tkCheck_name1 (a : Nat → Addr) (t : Tk) (w : World) (h : Errs a w) (hs : t.who.size ≤ maxLen) (hn : Sl.nameL t.who.data.toList = false) :
    Calls Tryz.prog 69 #[t.val] w fun e w' => e = .returned (eV (a 3)) ∧ Below w.heap.size w w' := by
  rw [tk_val]
  obtain ⟨who, dst, epoch, frm, til, ser⟩ := t
  have HN := hide (fun w => name_any who w hs)
  rw [hn] at HN
  have HE := hide h
  have HB : Hid (∀ o, Below w.heap.size w (w.alloc o)) := fun o => (Below.refl _ _).alloc (Nat.le_refl _) _
  clear h hn hs
  go_enter Tryz.func69, Tryz.ntmps69
  go_wp2_with fail
  refine (HN.out _).mono ?_
  rintro e w1 ⟨rfl, hb⟩
  have HB1 : Hid (Below w.heap.size w w1) := (HB.out _).trans (hb.mono (HB.out _).size)
  have hv : w1.cell? ⟨3, 0, none⟩ = some (eV (a 3)) := (HE.out.below HB1.out).var 3 (by decide)
  clear hb
  go_wp2
  go_ret
  exact ⟨rfl, HB1.out⟩

set_option maxRecDepth 100000 in
set_option maxHeartbeats 1000000 in
theorem tkCheck_name2 (a : Nat → Addr) (t : Tk) (w : World) (h : Errs a w) (hs : t.who.size ≤ maxLen) (hs2 : t.dst.size ≤ maxLen) (hn : Sl.nameL t.who.data.toList = true) (hn2 : Sl.nameL t.dst.data.toList = false) :
    Calls Tryz.prog 69 #[t.val] w fun e w' => e = .returned (eV (a 3)) ∧ Below w.heap.size w w' := by
  have HRow : Hid ((w.alloc (tkO t)).heap[w.heap.size]? = some (tkO t)) := heap_alloc_new _ _
  rw [tk_val]
  obtain ⟨who, dst, epoch, frm, til, ser⟩ := t
  have HN := hide (fun w => name_any who w hs)
  have HN2 := hide (fun w => name_any dst w hs2)
  rw [hn] at HN
  rw [hn2] at HN2
  have HE := hide h
  have HB : Hid (∀ o, Below w.heap.size w (w.alloc o)) := fun o => (Below.refl _ _).alloc (Nat.le_refl _) _
  clear h hn hs hn2 hs2
  go_enter Tryz.func69, Tryz.ntmps69
  go_wp2_with fail
  refine (HN.out _).mono ?_
  rintro e w1 ⟨rfl, hb⟩
  have HB1 : Hid (Below w.heap.size w w1) := (HB.out _).trans (hb.mono (HB.out _).size)
  have HR1 : Hid (w1.heap[w.heap.size]? = some (tkO ⟨who, dst, epoch, frm, til, ser⟩)) := by show _ = _; rw [hb.block _ (by simp)]; exact HRow.out
  have hc1 := (tk_row HR1.out).2.1
  dsimp only at hc1
  clear hb
  go_wp2_with fail
  refine (HN2.out _).mono ?_
  rintro e w2 ⟨rfl, hb⟩
  have HB2 : Hid (Below w.heap.size w w2) := HB1.out.trans (hb.mono HB1.out.size)
  have hv : w2.cell? ⟨3, 0, none⟩ = some (eV (a 3)) := (HE.out.below HB2.out).var 3 (by decide)
  clear hb hc1
  go_wp2
  go_ret
  exact ⟨rfl, HB2.out⟩

set_option maxRecDepth 100000 in
set_option maxHeartbeats 2000000 in
theorem tkCheck_epoch (a : Nat → Addr) (t : Tk) (w : World) (h : Errs a w) (hs : t.who.size ≤ maxLen) (hs2 : t.dst.size ≤ maxLen) (hn : Sl.nameL t.who.data.toList = true) (hn2 : Sl.nameL t.dst.data.toList = true) (h0 : ¬ (1 ≤ t.epoch ∧ t.epoch ≤ 1073741824)) :
    Calls Tryz.prog 69 #[t.val] w fun e w' => e = .returned (eV (a 1)) ∧ Below w.heap.size w w' := by
  have HRow : Hid ((w.alloc (tkO t)).heap[w.heap.size]? = some (tkO t)) := heap_alloc_new _ _
  have HC0 := hide (fun w => isNum_any t.epoch w)
  rw [decide_eq_false h0] at HC0
  have HN := hide (fun w => name_any t.who w hs)
  have HN2 := hide (fun w => name_any t.dst w hs2)
  rw [hn] at HN
  rw [hn2] at HN2
  rw [tk_val]
  obtain ⟨who, dst, epoch, frm, til, ser⟩ := t
  have HE := hide h
  have HB : Hid (∀ o, Below w.heap.size w (w.alloc o)) := fun o => (Below.refl _ _).alloc (Nat.le_refl _) _
  dsimp only at *
  clear h hn hs hn2 hs2 h0
  go_enter Tryz.func69, Tryz.ntmps69
  go_wp2_with fail
  refine (HN.out _).mono ?_
  rintro e w1 ⟨rfl, hb⟩
  have HB1 : Hid (Below w.heap.size w w1) := (HB.out _).trans (hb.mono (HB.out _).size)
  have HR1 : Hid (w1.heap[w.heap.size]? = some (tkO ⟨who, dst, epoch, frm, til, ser⟩)) := by show _ = _; rw [hb.block _ (by simp)]; exact HRow.out
  have hc1 := (tk_row HR1.out).2.1
  have HS1 : Hid (w.heap.size < w1.heap.size) := row_lt HR1.out
  clear hb HRow HN HB
  dsimp only at hc1
  go_wp2_with fail
  refine (HN2.out _).mono ?_
  rintro e w2 ⟨rfl, hb⟩
  have HB2 : Hid (Below w.heap.size w w2) := HB1.out.trans (hb.mono HB1.out.size)
  have HR2 : Hid (w2.heap[w.heap.size]? = some (tkO ⟨who, dst, epoch, frm, til, ser⟩)) := by show _ = _; rw [hb.block _ HS1.out]; exact HR1.out
  obtain ⟨hd0, hd1, hd2, hd3, hd4, hd5⟩ := tk_row HR2.out
  dsimp only at hd0 hd1 hd2 hd3 hd4 hd5
  have hv : w2.cell? ⟨0, 0, none⟩ = some (eV (a 1)) := (HE.out.below HB2.out).var 1 (by decide)
  clear hb hc1 HB1 HS1 HR1 HR2 HN2 HE
  go_wp2_with fail
  refine (HC0.out _).mono ?_
  rintro e w3 ⟨rfl, rfl⟩
  go_wp2
  go_ret
  exact ⟨rfl, HB2.out⟩
set_option maxRecDepth 100000 in
set_option maxHeartbeats 2000000 in
theorem tkCheck_ser (a : Nat → Addr) (t : Tk) (w : World) (h : Errs a w) (hs : t.who.size ≤ maxLen) (hs2 : t.dst.size ≤ maxLen) (hn : Sl.nameL t.who.data.toList = true) (hn2 : Sl.nameL t.dst.data.toList = true) (h0 : 1 ≤ t.epoch ∧ t.epoch ≤ 1073741824) (h1 : ¬ (1 ≤ t.ser ∧ t.ser ≤ 1073741824)) :
    Calls Tryz.prog 69 #[t.val] w fun e w' => e = .returned (eV (a 1)) ∧ Below w.heap.size w w' := by
  have HRow : Hid ((w.alloc (tkO t)).heap[w.heap.size]? = some (tkO t)) := heap_alloc_new _ _
  have HC0 := hide (fun w => isNum_any t.epoch w)
  rw [decide_eq_true h0] at HC0
  have HC1 := hide (fun w => isNum_any t.ser w)
  rw [decide_eq_false h1] at HC1
  have HN := hide (fun w => name_any t.who w hs)
  have HN2 := hide (fun w => name_any t.dst w hs2)
  rw [hn] at HN
  rw [hn2] at HN2
  rw [tk_val]
  obtain ⟨who, dst, epoch, frm, til, ser⟩ := t
  have HE := hide h
  have HB : Hid (∀ o, Below w.heap.size w (w.alloc o)) := fun o => (Below.refl _ _).alloc (Nat.le_refl _) _
  dsimp only at *
  clear h hn hs hn2 hs2 h0 h1
  go_enter Tryz.func69, Tryz.ntmps69
  go_wp2_with fail
  refine (HN.out _).mono ?_
  rintro e w1 ⟨rfl, hb⟩
  have HB1 : Hid (Below w.heap.size w w1) := (HB.out _).trans (hb.mono (HB.out _).size)
  have HR1 : Hid (w1.heap[w.heap.size]? = some (tkO ⟨who, dst, epoch, frm, til, ser⟩)) := by show _ = _; rw [hb.block _ (by simp)]; exact HRow.out
  have hc1 := (tk_row HR1.out).2.1
  have HS1 : Hid (w.heap.size < w1.heap.size) := row_lt HR1.out
  clear hb HRow HN HB
  dsimp only at hc1
  go_wp2_with fail
  refine (HN2.out _).mono ?_
  rintro e w2 ⟨rfl, hb⟩
  have HB2 : Hid (Below w.heap.size w w2) := HB1.out.trans (hb.mono HB1.out.size)
  have HR2 : Hid (w2.heap[w.heap.size]? = some (tkO ⟨who, dst, epoch, frm, til, ser⟩)) := by show _ = _; rw [hb.block _ HS1.out]; exact HR1.out
  obtain ⟨hd0, hd1, hd2, hd3, hd4, hd5⟩ := tk_row HR2.out
  dsimp only at hd0 hd1 hd2 hd3 hd4 hd5
  have hv : w2.cell? ⟨0, 0, none⟩ = some (eV (a 1)) := (HE.out.below HB2.out).var 1 (by decide)
  clear hb hc1 HB1 HS1 HR1 HR2 HN2 HE
  go_wp2_with fail
  refine (HC0.out _).mono ?_
  rintro e w3 ⟨rfl, rfl⟩
  go_wp2_with fail
  refine (HC1.out _).mono ?_
  rintro e w3 ⟨rfl, rfl⟩
  go_wp2
  go_ret
  exact ⟨rfl, HB2.out⟩
set_option maxRecDepth 100000 in
set_option maxHeartbeats 2000000 in
theorem tkCheck_frm (a : Nat → Addr) (t : Tk) (w : World) (h : Errs a w) (hs : t.who.size ≤ maxLen) (hs2 : t.dst.size ≤ maxLen) (hn : Sl.nameL t.who.data.toList = true) (hn2 : Sl.nameL t.dst.data.toList = true) (h0 : 1 ≤ t.epoch ∧ t.epoch ≤ 1073741824) (h1 : 1 ≤ t.ser ∧ t.ser ≤ 1073741824) (h2 : ¬ (0 ≤ t.frm ∧ t.frm ≤ 1000000)) :
    Calls Tryz.prog 69 #[t.val] w fun e w' => e = .returned (eV (a 1)) ∧ Below w.heap.size w w' := by
  have HRow : Hid ((w.alloc (tkO t)).heap[w.heap.size]? = some (tkO t)) := heap_alloc_new _ _
  have HC0 := hide (fun w => isNum_any t.epoch w)
  rw [decide_eq_true h0] at HC0
  have HC1 := hide (fun w => isNum_any t.ser w)
  rw [decide_eq_true h1] at HC1
  have HC2 := hide (fun w => isTime_any t.frm w)
  rw [decide_eq_false h2] at HC2
  have HN := hide (fun w => name_any t.who w hs)
  have HN2 := hide (fun w => name_any t.dst w hs2)
  rw [hn] at HN
  rw [hn2] at HN2
  rw [tk_val]
  obtain ⟨who, dst, epoch, frm, til, ser⟩ := t
  have HE := hide h
  have HB : Hid (∀ o, Below w.heap.size w (w.alloc o)) := fun o => (Below.refl _ _).alloc (Nat.le_refl _) _
  dsimp only at *
  clear h hn hs hn2 hs2 h0 h1 h2
  go_enter Tryz.func69, Tryz.ntmps69
  go_wp2_with fail
  refine (HN.out _).mono ?_
  rintro e w1 ⟨rfl, hb⟩
  have HB1 : Hid (Below w.heap.size w w1) := (HB.out _).trans (hb.mono (HB.out _).size)
  have HR1 : Hid (w1.heap[w.heap.size]? = some (tkO ⟨who, dst, epoch, frm, til, ser⟩)) := by show _ = _; rw [hb.block _ (by simp)]; exact HRow.out
  have hc1 := (tk_row HR1.out).2.1
  have HS1 : Hid (w.heap.size < w1.heap.size) := row_lt HR1.out
  clear hb HRow HN HB
  dsimp only at hc1
  go_wp2_with fail
  refine (HN2.out _).mono ?_
  rintro e w2 ⟨rfl, hb⟩
  have HB2 : Hid (Below w.heap.size w w2) := HB1.out.trans (hb.mono HB1.out.size)
  have HR2 : Hid (w2.heap[w.heap.size]? = some (tkO ⟨who, dst, epoch, frm, til, ser⟩)) := by show _ = _; rw [hb.block _ HS1.out]; exact HR1.out
  obtain ⟨hd0, hd1, hd2, hd3, hd4, hd5⟩ := tk_row HR2.out
  dsimp only at hd0 hd1 hd2 hd3 hd4 hd5
  have hv : w2.cell? ⟨0, 0, none⟩ = some (eV (a 1)) := (HE.out.below HB2.out).var 1 (by decide)
  clear hb hc1 HB1 HS1 HR1 HR2 HN2 HE
  go_wp2_with fail
  refine (HC0.out _).mono ?_
  rintro e w3 ⟨rfl, rfl⟩
  go_wp2_with fail
  refine (HC1.out _).mono ?_
  rintro e w3 ⟨rfl, rfl⟩
  go_wp2_with fail
  refine (HC2.out _).mono ?_
  rintro e w3 ⟨rfl, rfl⟩
  go_wp2
  go_ret
  exact ⟨rfl, HB2.out⟩
set_option maxRecDepth 100000 in
set_option maxHeartbeats 2000000 in
theorem tkCheck_til (a : Nat → Addr) (t : Tk) (w : World) (h : Errs a w) (hs : t.who.size ≤ maxLen) (hs2 : t.dst.size ≤ maxLen) (hn : Sl.nameL t.who.data.toList = true) (hn2 : Sl.nameL t.dst.data.toList = true) (h0 : 1 ≤ t.epoch ∧ t.epoch ≤ 1073741824) (h1 : 1 ≤ t.ser ∧ t.ser ≤ 1073741824) (h2 : 0 ≤ t.frm ∧ t.frm ≤ 1000000) (h3 : ¬ (0 ≤ t.til ∧ t.til ≤ 1000000)) :
    Calls Tryz.prog 69 #[t.val] w fun e w' => e = .returned (eV (a 1)) ∧ Below w.heap.size w w' := by
  have HRow : Hid ((w.alloc (tkO t)).heap[w.heap.size]? = some (tkO t)) := heap_alloc_new _ _
  have HC0 := hide (fun w => isNum_any t.epoch w)
  rw [decide_eq_true h0] at HC0
  have HC1 := hide (fun w => isNum_any t.ser w)
  rw [decide_eq_true h1] at HC1
  have HC2 := hide (fun w => isTime_any t.frm w)
  rw [decide_eq_true h2] at HC2
  have HC3 := hide (fun w => isTime_any t.til w)
  rw [decide_eq_false h3] at HC3
  have HN := hide (fun w => name_any t.who w hs)
  have HN2 := hide (fun w => name_any t.dst w hs2)
  rw [hn] at HN
  rw [hn2] at HN2
  rw [tk_val]
  obtain ⟨who, dst, epoch, frm, til, ser⟩ := t
  have HE := hide h
  have HB : Hid (∀ o, Below w.heap.size w (w.alloc o)) := fun o => (Below.refl _ _).alloc (Nat.le_refl _) _
  dsimp only at *
  clear h hn hs hn2 hs2 h0 h1 h2 h3
  go_enter Tryz.func69, Tryz.ntmps69
  go_wp2_with fail
  refine (HN.out _).mono ?_
  rintro e w1 ⟨rfl, hb⟩
  have HB1 : Hid (Below w.heap.size w w1) := (HB.out _).trans (hb.mono (HB.out _).size)
  have HR1 : Hid (w1.heap[w.heap.size]? = some (tkO ⟨who, dst, epoch, frm, til, ser⟩)) := by show _ = _; rw [hb.block _ (by simp)]; exact HRow.out
  have hc1 := (tk_row HR1.out).2.1
  have HS1 : Hid (w.heap.size < w1.heap.size) := row_lt HR1.out
  clear hb HRow HN HB
  dsimp only at hc1
  go_wp2_with fail
  refine (HN2.out _).mono ?_
  rintro e w2 ⟨rfl, hb⟩
  have HB2 : Hid (Below w.heap.size w w2) := HB1.out.trans (hb.mono HB1.out.size)
  have HR2 : Hid (w2.heap[w.heap.size]? = some (tkO ⟨who, dst, epoch, frm, til, ser⟩)) := by show _ = _; rw [hb.block _ HS1.out]; exact HR1.out
  obtain ⟨hd0, hd1, hd2, hd3, hd4, hd5⟩ := tk_row HR2.out
  dsimp only at hd0 hd1 hd2 hd3 hd4 hd5
  have hv : w2.cell? ⟨0, 0, none⟩ = some (eV (a 1)) := (HE.out.below HB2.out).var 1 (by decide)
  clear hb hc1 HB1 HS1 HR1 HR2 HN2 HE
  go_wp2_with fail
  refine (HC0.out _).mono ?_
  rintro e w3 ⟨rfl, rfl⟩
  go_wp2_with fail
  refine (HC1.out _).mono ?_
  rintro e w3 ⟨rfl, rfl⟩
  go_wp2_with fail
  refine (HC2.out _).mono ?_
  rintro e w3 ⟨rfl, rfl⟩
  go_wp2_with fail
  refine (HC3.out _).mono ?_
  rintro e w3 ⟨rfl, rfl⟩
  go_wp2
  go_ret
  exact ⟨rfl, HB2.out⟩
set_option maxRecDepth 100000 in
set_option maxHeartbeats 2000000 in
theorem tkCheck_span (a : Nat → Addr) (t : Tk) (w : World) (h : Errs a w) (hs : t.who.size ≤ maxLen) (hs2 : t.dst.size ≤ maxLen) (hn : Sl.nameL t.who.data.toList = true) (hn2 : Sl.nameL t.dst.data.toList = true) (h0 : 1 ≤ t.epoch ∧ t.epoch ≤ 1073741824) (h1 : 1 ≤ t.ser ∧ t.ser ≤ 1073741824) (h2 : 0 ≤ t.frm ∧ t.frm ≤ 1000000) (h3 : 0 ≤ t.til ∧ t.til ≤ 1000000) (h4 : t.til < t.frm) :
    Calls Tryz.prog 69 #[t.val] w fun e w' => e = .returned (eV (a 1)) ∧ Below w.heap.size w w' := by
  have HRow : Hid ((w.alloc (tkO t)).heap[w.heap.size]? = some (tkO t)) := heap_alloc_new _ _
  have HC0 := hide (fun w => isNum_any t.epoch w)
  rw [decide_eq_true h0] at HC0
  have HC1 := hide (fun w => isNum_any t.ser w)
  rw [decide_eq_true h1] at HC1
  have HC2 := hide (fun w => isTime_any t.frm w)
  rw [decide_eq_true h2] at HC2
  have HC3 := hide (fun w => isTime_any t.til w)
  rw [decide_eq_true h3] at HC3
  have HN := hide (fun w => name_any t.who w hs)
  have HN2 := hide (fun w => name_any t.dst w hs2)
  rw [hn] at HN
  rw [hn2] at HN2
  rw [tk_val]
  obtain ⟨who, dst, epoch, frm, til, ser⟩ := t
  have HE := hide h
  have HB : Hid (∀ o, Below w.heap.size w (w.alloc o)) := fun o => (Below.refl _ _).alloc (Nat.le_refl _) _
  dsimp only at *
  clear h hn hs hn2 hs2 h0 h1 h2 h3
  go_enter Tryz.func69, Tryz.ntmps69
  go_wp2_with fail
  refine (HN.out _).mono ?_
  rintro e w1 ⟨rfl, hb⟩
  have HB1 : Hid (Below w.heap.size w w1) := (HB.out _).trans (hb.mono (HB.out _).size)
  have HR1 : Hid (w1.heap[w.heap.size]? = some (tkO ⟨who, dst, epoch, frm, til, ser⟩)) := by show _ = _; rw [hb.block _ (by simp)]; exact HRow.out
  have hc1 := (tk_row HR1.out).2.1
  have HS1 : Hid (w.heap.size < w1.heap.size) := row_lt HR1.out
  clear hb HRow HN HB
  dsimp only at hc1
  go_wp2_with fail
  refine (HN2.out _).mono ?_
  rintro e w2 ⟨rfl, hb⟩
  have HB2 : Hid (Below w.heap.size w w2) := HB1.out.trans (hb.mono HB1.out.size)
  have HR2 : Hid (w2.heap[w.heap.size]? = some (tkO ⟨who, dst, epoch, frm, til, ser⟩)) := by show _ = _; rw [hb.block _ HS1.out]; exact HR1.out
  obtain ⟨hd0, hd1, hd2, hd3, hd4, hd5⟩ := tk_row HR2.out
  dsimp only at hd0 hd1 hd2 hd3 hd4 hd5
  have hv : w2.cell? ⟨0, 0, none⟩ = some (eV (a 1)) := (HE.out.below HB2.out).var 1 (by decide)
  clear hb hc1 HB1 HS1 HR1 HR2 HN2 HE
  go_wp2_with fail
  refine (HC0.out _).mono ?_
  rintro e w3 ⟨rfl, rfl⟩
  go_wp2_with fail
  refine (HC1.out _).mono ?_
  rintro e w3 ⟨rfl, rfl⟩
  go_wp2_with fail
  refine (HC2.out _).mono ?_
  rintro e w3 ⟨rfl, rfl⟩
  go_wp2_with fail
  refine (HC3.out _).mono ?_
  rintro e w3 ⟨rfl, rfl⟩
  go_wp2
  go_ret
  exact ⟨rfl, HB2.out⟩
set_option maxRecDepth 100000 in
set_option maxHeartbeats 2000000 in
theorem tkCheck_ok (a : Nat → Addr) (t : Tk) (w : World) (h : Errs a w) (hs : t.who.size ≤ maxLen) (hs2 : t.dst.size ≤ maxLen) (hn : Sl.nameL t.who.data.toList = true) (hn2 : Sl.nameL t.dst.data.toList = true) (h0 : 1 ≤ t.epoch ∧ t.epoch ≤ 1073741824) (h1 : 1 ≤ t.ser ∧ t.ser ≤ 1073741824) (h2 : 0 ≤ t.frm ∧ t.frm ≤ 1000000) (h3 : 0 ≤ t.til ∧ t.til ≤ 1000000) (h4 : t.frm ≤ t.til) :
    Calls Tryz.prog 69 #[t.val] w fun e w' => e = .returned .nilIface ∧ Below w.heap.size w w' := by
  have HRow : Hid ((w.alloc (tkO t)).heap[w.heap.size]? = some (tkO t)) := heap_alloc_new _ _
  have HC0 := hide (fun w => isNum_any t.epoch w)
  rw [decide_eq_true h0] at HC0
  have HC1 := hide (fun w => isNum_any t.ser w)
  rw [decide_eq_true h1] at HC1
  have HC2 := hide (fun w => isTime_any t.frm w)
  rw [decide_eq_true h2] at HC2
  have HC3 := hide (fun w => isTime_any t.til w)
  rw [decide_eq_true h3] at HC3
  have HN := hide (fun w => name_any t.who w hs)
  have HN2 := hide (fun w => name_any t.dst w hs2)
  rw [hn] at HN
  rw [hn2] at HN2
  rw [tk_val]
  obtain ⟨who, dst, epoch, frm, til, ser⟩ := t
  have HE := hide h
  have HB : Hid (∀ o, Below w.heap.size w (w.alloc o)) := fun o => (Below.refl _ _).alloc (Nat.le_refl _) _
  dsimp only at *
  clear h hn hs hn2 hs2 h0 h1 h2 h3
  go_enter Tryz.func69, Tryz.ntmps69
  go_wp2_with fail
  refine (HN.out _).mono ?_
  rintro e w1 ⟨rfl, hb⟩
  have HB1 : Hid (Below w.heap.size w w1) := (HB.out _).trans (hb.mono (HB.out _).size)
  have HR1 : Hid (w1.heap[w.heap.size]? = some (tkO ⟨who, dst, epoch, frm, til, ser⟩)) := by show _ = _; rw [hb.block _ (by simp)]; exact HRow.out
  have hc1 := (tk_row HR1.out).2.1
  have HS1 : Hid (w.heap.size < w1.heap.size) := row_lt HR1.out
  clear hb HRow HN HB
  dsimp only at hc1
  go_wp2_with fail
  refine (HN2.out _).mono ?_
  rintro e w2 ⟨rfl, hb⟩
  have HB2 : Hid (Below w.heap.size w w2) := HB1.out.trans (hb.mono HB1.out.size)
  have HR2 : Hid (w2.heap[w.heap.size]? = some (tkO ⟨who, dst, epoch, frm, til, ser⟩)) := by show _ = _; rw [hb.block _ HS1.out]; exact HR1.out
  obtain ⟨hd0, hd1, hd2, hd3, hd4, hd5⟩ := tk_row HR2.out
  dsimp only at hd0 hd1 hd2 hd3 hd4 hd5
  have hv : w2.cell? ⟨0, 0, none⟩ = some (eV (a 1)) := (HE.out.below HB2.out).var 1 (by decide)
  clear hb hc1 HB1 HS1 HR1 HR2 HN2 HE
  go_wp2_with fail
  refine (HC0.out _).mono ?_
  rintro e w3 ⟨rfl, rfl⟩
  go_wp2_with fail
  refine (HC1.out _).mono ?_
  rintro e w3 ⟨rfl, rfl⟩
  go_wp2_with fail
  refine (HC2.out _).mono ?_
  rintro e w3 ⟨rfl, rfl⟩
  go_wp2_with fail
  refine (HC3.out _).mono ?_
  rintro e w3 ⟨rfl, rfl⟩
  go_wp2
  go_ret
  exact ⟨rfl, HB2.out⟩

/-- Check: the error by its number. -/
theorem tkCheck_any (a : Nat → Addr) (t : Tk) (w : World) (h : Errs a w) (hs : t.who.size ≤ maxLen) (hs2 : t.dst.size ≤ maxLen) :
    Calls Tryz.prog 69 #[t.val] w fun e w' => e = .returned (errV a t.err) ∧ Below w.heap.size w w' := by
  have e4 : t.names = false → t.err = 4 := fun g => by unfold Tk.err; rw [g]; rfl
  have e2 : t.names = true → ¬ t.nums → t.err = 2 := fun g g2 => by unfold Tk.err; rw [if_pos g, if_neg g2]
  cases hn : Sl.nameL t.who.data.toList with
  | false =>
    rw [e4 (by unfold Tk.names; rw [hn]; rfl)]
    exact tkCheck_name1 a t w h hs hn
  | true =>
    cases hn2 : Sl.nameL t.dst.data.toList with
    | false =>
      rw [e4 (by unfold Tk.names; rw [hn, hn2]; rfl)]
      exact tkCheck_name2 a t w h hs hs2 hn hn2
    | true =>
      have hnm : t.names = true := by unfold Tk.names; rw [hn, hn2]; rfl
      by_cases h0 : 1 ≤ t.epoch ∧ t.epoch ≤ 1073741824
      · by_cases h1 : 1 ≤ t.ser ∧ t.ser ≤ 1073741824
        · by_cases h2 : 0 ≤ t.frm ∧ t.frm ≤ 1000000
          · by_cases h3 : 0 ≤ t.til ∧ t.til ≤ 1000000
            · by_cases h4 : t.til < t.frm
              · rw [e2 hnm (fun g => by have := g.2.2.2.1; omega)]
                exact tkCheck_span a t w h hs hs2 hn hn2 h0 h1 h2 h3 h4
              · rw [(t.err_iff.2 ⟨hnm, h0, h1, h2, by omega, h3.2⟩)]
                exact tkCheck_ok a t w h hs hs2 hn hn2 h0 h1 h2 h3 (by omega)
            · rw [e2 hnm (fun g => h3 ⟨by have := g.2.2.2.1; omega, g.2.2.2.2⟩)]
              exact tkCheck_til a t w h hs hs2 hn hn2 h0 h1 h2 h3
          · rw [e2 hnm (fun g => h2 g.2.2.1)]
            exact tkCheck_frm a t w h hs hs2 hn hn2 h0 h1 h2
        · rw [e2 hnm (fun g => h1 g.2.1)]
          exact tkCheck_ser a t w h hs hs2 hn hn2 h0 h1
      · rw [e2 hnm (fun g => h0 g.1)]
        exact tkCheck_epoch a t w h hs hs2 hn hn2 h0
end Go.Proofs.YtgagekcjdapkfadGreatDoor

namespace Go.Proofs.YtgagekcjdapkfadGreatDoor
open Go.RowKit Go.Extern.Stop Go.Stop Go.Extern

/-- The end of a function whose first result is a ticket in a block of its own. -/
theorem tkEnd {fn : Func} {p u : Tmp} (hr : fn.results = #[.cell p 64, .tmp u]) {a : Act} {w : World} {R : Ending → World → Prop} (g : Nat) (t : Tk) (hp : a.tmps.getD p undef = .pointer (some ⟨g, 0, none⟩)) (hg : w.heap[g]? = some (tkO t)) (hd : a.defers = [])
    (hR : R (.returned (.tuple #[t.val, a.tmps.getD u undef])) w) : bodyPost Tryz.prog fn R .ret a w :=
  bodyPost_ret (results_row_tmp hr a.tmps w g _ _ (0, 0) _ hp hg Tryz.underlying64 rfl (by kernel_rfl)) hd hR
/-- A block of six cells, written whole. -/
theorem row_set6 {w : World} {g : Nat} {t : TypeId} {x0 x1 x2 x3 x4 x5 : Value} (h : w.heap[g]? = some (.cells #[x0, x1, x2, x3, x4, x5] t (0, 0))) (a b c d e f : Value) :
    ((((((w.setCell ⟨g, 0, none⟩ a).setCell ⟨g, 1, none⟩ b).setCell ⟨g, 2, none⟩ c).setCell ⟨g, 3, none⟩ d).setCell ⟨g, 4, none⟩ e).setCell ⟨g, 5, none⟩ f).heap[g]? = some (.cells #[a, b, c, d, e, f] t (0, 0)) := by
  have h1 := heap_setCell_same w g 0 _ t a h
  have h2 := heap_setCell_same _ g 1 _ t b h1
  have h3 := heap_setCell_same _ g 2 _ t c h2
  have h4 := heap_setCell_same _ g 3 _ t d h3
  have h5 := heap_setCell_same _ g 4 _ t e h4
  have h6 := heap_setCell_same _ g 5 _ t f h5
  exact h6
theorem row_frozen6 {w : World} {g : Nat} {t : Tk} (h : w.heap[g]? = some (tkO t)) :
    w.frozen? ⟨g, 0, none⟩ = false ∧ w.frozen? ⟨g, 1, none⟩ = false ∧ w.frozen? ⟨g, 2, none⟩ = false ∧ w.frozen? ⟨g, 3, none⟩ = false ∧ w.frozen? ⟨g, 4, none⟩ = false ∧ w.frozen? ⟨g, 5, none⟩ = false :=
  ⟨frozen_of_row w g 0 _ _ h, frozen_of_row w g 1 _ _ h, frozen_of_row w g 2 _ _ h, frozen_of_row w g 3 _ _ h, frozen_of_row w g 4 _ _ h, frozen_of_row w g 5 _ _ h⟩
theorem below_set6 {n : Nat} {w0 w : World} {g : Nat} (h : Below n w0 w) (hg : n ≤ g) (a b c d e f : Value) :
    Below n w0 ((((((w.setCell ⟨g, 0, none⟩ a).setCell ⟨g, 1, none⟩ b).setCell ⟨g, 2, none⟩ c).setCell ⟨g, 3, none⟩ d).setCell ⟨g, 4, none⟩ e).setCell ⟨g, 5, none⟩ f) :=
  (((((h.setCell hg _).setCell hg _).setCell hg _).setCell hg _).setCell hg _).setCell hg _

theorem okT_no (c : Nat) (t : Tk) (h : c ≠ 0) : okT c t = tk0 := by unfold okT; rw [if_neg h]
theorem okT_yes (t : Tk) : okT 0 t = t := rfl

set_option maxRecDepth 100000 in
set_option maxHeartbeats 2000000 in
theorem checked_any (a : Nat → Addr) (t : Tk) (w : World) (h : Errs a w) (hs : t.who.size ≤ maxLen) (hs2 : t.dst.size ≤ maxLen) :
    Calls Tryz.prog 155 #[t.val] w fun e w' => e = .returned (.tuple #[(okT t.err t).val, errV a t.err]) ∧ Below w.heap.size w w' := by
  have HC := hide (fun w h => tkCheck_any a t w h hs hs2)
  have HB0 : Hid (Below w.heap.size w ((w.alloc (tkO t)).alloc (tkO tk0))) := ((Below.refl _ w).alloc (Nat.le_refl _) _).alloc (by simp) _
  have HR0 : Hid (((w.alloc (tkO t)).alloc (tkO tk0)).heap[w.heap.size]? = some (tkO t)) := (heap_alloc_old _ _ (by simp)).trans (heap_alloc_new _ _)
  have HR1 : Hid (((w.alloc (tkO t)).alloc (tkO tk0)).heap[w.heap.size + 1]? = some (tkO tk0)) := by
    have := heap_alloc_new (w.alloc (tkO t)) (tkO tk0)
    rw [show (w.alloc (tkO t)).heap.size = w.heap.size + 1 by simp] at this
    exact this
  have HE := hide (h.below HB0.out)
  have HOk : Hid (t.err = 0 → (okT t.err t).val = t.val) := fun g => by rw [g]; rfl
  have HNo : Hid (t.err ≠ 0 → (okT t.err t).val = tk0.val ∧ errV a t.err = eV (a (t.err - 1))) := fun g => by rw [okT_no _ _ g]; exact ⟨rfl, by unfold errV; rw [if_neg g]⟩
  have HCall := hide (HC.out _ HE.out)
  clear h hs hs2 HC
  by_cases h0 : t.err = 0
  · rw [HOk.out h0]
    rw [h0] at HCall ⊢
    rw [show errV a 0 = Value.nilIface from rfl] at HCall ⊢
    clear HNo HOk h0 HE
    rw [tk_val] at HCall ⊢
    obtain ⟨who, dst, epoch, frm, til, ser⟩ := t
    dsimp only at *
    go_enter Tryz.func155, Tryz.ntmps155
    go_wp2_with fail
    refine HCall.out.mono ?_
    rintro e w1 ⟨rfl, hb⟩
    have HB1 : Hid (Below w.heap.size w w1) := HB0.out.trans (hb.mono HB0.out.size)
    have HT0 : Hid (w1.heap[w.heap.size]? = some (tkO ⟨who, dst, epoch, frm, til, ser⟩)) := by show _ = _; rw [hb.block _ (by simp; omega)]; exact HR0.out
    have HT1 : Hid (w1.heap[w.heap.size + 1]? = some (tkO tk0)) := by show _ = _; rw [hb.block _ (by simp)]; exact HR1.out
    clear hb HR0 HR1 HB0 HCall
    obtain ⟨hc0, hc1, hc2, hc3, hc4, hc5⟩ := tk_row HT0.out
    obtain ⟨hd0, hd1, hd2, hd3, hd4, hd5⟩ := tk_row HT1.out
    obtain ⟨hf0, hf1, hf2, hf3, hf4, hf5⟩ := row_frozen6 HT1.out
    dsimp only [tk0] at hc0 hc1 hc2 hc3 hc4 hc5 hd0 hd1 hd2 hd3 hd4 hd5
    go_wp2
    refine tkEnd rfl (w.heap.size + 1) ⟨who, dst, epoch, frm, til, ser⟩ rfl (row_set6 HT1.out _ _ _ _ _ _) rfl ?_
    exact ⟨rfl, below_set6 HB1.out (by omega) _ _ _ _ _ _⟩
  · rw [(HNo.out h0).1]
    rw [(HNo.out h0).2] at HCall ⊢
    clear HNo HOk h0 HE
    generalize a (t.err - 1) = ad at *
    rw [tk_val] at HCall
    rw [tk_val t]
    obtain ⟨who, dst, epoch, frm, til, ser⟩ := t
    dsimp only at *
    go_enter Tryz.func155, Tryz.ntmps155
    go_wp2_with fail
    refine HCall.out.mono ?_
    rintro e w1 ⟨rfl, hb⟩
    have HB1 : Hid (Below w.heap.size w w1) := HB0.out.trans (hb.mono HB0.out.size)
    have HT1 : Hid (w1.heap[w.heap.size + 1]? = some (tkO tk0)) := by show _ = _; rw [hb.block _ (by simp)]; exact HR1.out
    clear hb HR0 HR1 HB0 HCall
    obtain ⟨hd0, hd1, hd2, hd3, hd4, hd5⟩ := tk_row HT1.out
    obtain ⟨hf0, hf1, hf2, hf3, hf4, hf5⟩ := row_frozen6 HT1.out
    dsimp only [tk0] at hd0 hd1 hd2 hd3 hd4 hd5
    go_wp2
    refine tkEnd rfl (w.heap.size + 1) tk0 rfl (row_set6 HT1.out _ _ _ _ _ _) rfl ?_
    exact ⟨rfl, below_set6 HB1.out (by omega) _ _ _ _ _ _⟩

set_option maxRecDepth 100000 in
set_option maxHeartbeats 2000000 in
theorem good_err (a : Nat → Addr) (t : Tk) (now : Int) (w : World) (h : Errs a w) (hs : t.who.size ≤ maxLen) (hs2 : t.dst.size ≤ maxLen) (h0 : t.err ≠ 0) :
    Calls Tryz.prog 34 #[t.val, .int .i64 now] w fun e w' => e = .returned (errV a t.err) ∧ Below w.heap.size w w' := by
  have HB0 : Hid (Below w.heap.size w (w.alloc (tkO t))) := (Below.refl _ w).alloc (Nat.le_refl _) _
  have HCall := hide (tkCheck_any a t _ (h.below HB0.out) hs hs2)
  have e1 : errV a t.err = eV (a (t.err - 1)) := by unfold errV; rw [if_neg h0]
  rw [e1] at HCall ⊢
  generalize a (t.err - 1) = ad at *
  clear h hs hs2 h0 e1
  rw [tk_val] at HCall ⊢
  obtain ⟨who, dst, epoch, frm, til, ser⟩ := t
  dsimp only at *
  go_enter Tryz.func34, Tryz.ntmps34
  go_wp2_with fail
  refine HCall.out.mono ?_
  rintro e w1 ⟨rfl, hb⟩
  have HB1 : Hid (Below w.heap.size w w1) := HB0.out.trans (hb.mono HB0.out.size)
  clear hb HB0 HCall
  go_wp2
  go_ret
  exact ⟨rfl, HB1.out⟩

/-- What Good answers of a ticket that Check lets by. -/
def goodE (t : Tk) (now : Int) : Nat := if 0 ≤ now ∧ now ≤ 1000000 then (if now < t.frm then 11 else if t.til ≤ now then 12 else 0) else 2

set_option maxRecDepth 100000 in
set_option maxHeartbeats 2000000 in
theorem good_ok (a : Nat → Addr) (t : Tk) (now : Int) (w : World) (h : Errs a w) (hs : t.who.size ≤ maxLen) (hs2 : t.dst.size ≤ maxLen) (h0 : t.err = 0) :
    Calls Tryz.prog 34 #[t.val, .int .i64 now] w fun e w' => e = .returned (errV a (goodE t now)) ∧ Below w.heap.size w w' := by
  have HB0 : Hid (Below w.heap.size w (w.alloc (tkO t))) := (Below.refl _ w).alloc (Nat.le_refl _) _
  have HCall := hide (tkCheck_any a t _ (h.below HB0.out) hs hs2)
  rw [h0, show errV a 0 = Value.nilIface from rfl] at HCall
  have HE := hide h
  have HT := hide (fun w => isTime_any now w)
  have HR0 : Hid ((w.alloc (tkO t)).heap[w.heap.size]? = some (tkO t)) := heap_alloc_new _ _
  have hcase : (¬ (0 ≤ now ∧ now ≤ 1000000) ∧ goodE t now = 2) ∨ ((0 ≤ now ∧ now ≤ 1000000) ∧ now < t.frm ∧ goodE t now = 11) ∨ ((0 ≤ now ∧ now ≤ 1000000) ∧ t.frm ≤ now ∧ t.til ≤ now ∧ goodE t now = 12) ∨ ((0 ≤ now ∧ now ≤ 1000000) ∧ t.frm ≤ now ∧ now < t.til ∧ goodE t now = 0) := by
    unfold goodE
    by_cases g1 : 0 ≤ now ∧ now ≤ 1000000
    · by_cases g2 : now < t.frm
      · exact Or.inr (Or.inl ⟨g1, g2, by rw [if_pos g1, if_pos g2]⟩)
      · by_cases g3 : t.til ≤ now
        · exact Or.inr (Or.inr (Or.inl ⟨g1, by omega, g3, by rw [if_pos g1, if_neg g2, if_pos g3]⟩))
        · exact Or.inr (Or.inr (Or.inr ⟨g1, by omega, by omega, by rw [if_pos g1, if_neg g2, if_neg g3]⟩))
    · exact Or.inl ⟨g1, by rw [if_neg g1]⟩
  clear h hs hs2 h0
  generalize goodE t now = c at hcase ⊢
  rw [tk_val] at HCall ⊢
  obtain ⟨who, dst, epoch, frm, til, ser⟩ := t
  dsimp only at *
  rcases hcase with ⟨g, rfl⟩ | ⟨g, g1, rfl⟩ | ⟨g, g1, g2, rfl⟩ | ⟨g, g1, g2, rfl⟩
  · rw [decide_eq_false g] at HT
    rw [show errV a 2 = eV (a 1) from rfl]
    clear g
    go_enter Tryz.func34, Tryz.ntmps34
    go_wp2_with fail
    refine HCall.out.mono ?_
    rintro e w1 ⟨rfl, hb⟩
    have HB1 : Hid (Below w.heap.size w w1) := HB0.out.trans (hb.mono HB0.out.size)
    have hv : w1.cell? ⟨0, 0, none⟩ = some (eV (a 1)) := (HE.out.below HB1.out).var 1 (by decide)
    clear hb HB0 HCall HE
    go_wp2_with fail
    refine (HT.out _).mono ?_
    rintro e w2 ⟨rfl, rfl⟩
    go_wp2
    go_ret
    exact ⟨rfl, HB1.out⟩
  · rw [decide_eq_true g] at HT
    rw [show errV a 11 = eV (a 10) from rfl]
    clear g
    go_enter Tryz.func34, Tryz.ntmps34
    go_wp2_with fail
    refine HCall.out.mono ?_
    rintro e w1 ⟨rfl, hb⟩
    have HB1 : Hid (Below w.heap.size w w1) := HB0.out.trans (hb.mono HB0.out.size)
    have hv : w1.cell? ⟨5, 0, none⟩ = some (eV (a 10)) := (HE.out.below HB1.out).var 10 (by decide)
    have HT0 : Hid (w1.heap[w.heap.size]? = some (tkO ⟨who, dst, epoch, frm, til, ser⟩)) := by show _ = _; rw [hb.block _ (by simp)]; exact HR0.out
    obtain ⟨hc0, hc1, hc2, hc3, hc4, hc5⟩ := tk_row HT0.out
    dsimp only at hc0 hc1 hc2 hc3 hc4 hc5
    clear hb HB0 HCall HE HR0 HT0
    go_wp2_with fail
    refine (HT.out _).mono ?_
    rintro e w2 ⟨rfl, rfl⟩
    go_wp2
    go_ret
    exact ⟨rfl, HB1.out⟩
  · rw [decide_eq_true g] at HT
    rw [show errV a 12 = eV (a 11) from rfl]
    clear g
    go_enter Tryz.func34, Tryz.ntmps34
    go_wp2_with fail
    refine HCall.out.mono ?_
    rintro e w1 ⟨rfl, hb⟩
    have HB1 : Hid (Below w.heap.size w w1) := HB0.out.trans (hb.mono HB0.out.size)
    have hv : w1.cell? ⟨2, 0, none⟩ = some (eV (a 11)) := (HE.out.below HB1.out).var 11 (by decide)
    have HT0 : Hid (w1.heap[w.heap.size]? = some (tkO ⟨who, dst, epoch, frm, til, ser⟩)) := by show _ = _; rw [hb.block _ (by simp)]; exact HR0.out
    obtain ⟨hc0, hc1, hc2, hc3, hc4, hc5⟩ := tk_row HT0.out
    dsimp only at hc0 hc1 hc2 hc3 hc4 hc5
    clear hb HB0 HCall HE HR0 HT0
    go_wp2_with fail
    refine (HT.out _).mono ?_
    rintro e w2 ⟨rfl, rfl⟩
    go_wp2
    go_ret
    exact ⟨rfl, HB1.out⟩
  · rw [decide_eq_true g] at HT
    rw [show errV a 0 = Value.nilIface from rfl]
    clear g
    go_enter Tryz.func34, Tryz.ntmps34
    go_wp2_with fail
    refine HCall.out.mono ?_
    rintro e w1 ⟨rfl, hb⟩
    have HB1 : Hid (Below w.heap.size w w1) := HB0.out.trans (hb.mono HB0.out.size)
    have HT0 : Hid (w1.heap[w.heap.size]? = some (tkO ⟨who, dst, epoch, frm, til, ser⟩)) := by show _ = _; rw [hb.block _ (by simp)]; exact HR0.out
    obtain ⟨hc0, hc1, hc2, hc3, hc4, hc5⟩ := tk_row HT0.out
    dsimp only at hc0 hc1 hc2 hc3 hc4 hc5
    clear hb HB0 HCall HE HR0 HT0
    go_wp2_with fail
    refine (HT.out _).mono ?_
    rintro e w2 ⟨rfl, rfl⟩
    go_wp2
    go_ret
    exact ⟨rfl, HB1.out⟩

theorem good_any (a : Nat → Addr) (t : Tk) (now : Int) (w : World) (h : Errs a w) (hs : t.who.size ≤ maxLen) (hs2 : t.dst.size ≤ maxLen) :
    Calls Tryz.prog 34 #[t.val, .int .i64 now] w fun e w' => e = .returned (errV a (t.good now)) ∧ Below w.heap.size w w' := by
  by_cases h0 : t.err = 0
  · have e : t.good now = goodE t now := by unfold Tk.good goodE; rw [if_pos h0]
    rw [e]
    exact good_ok a t now w h hs hs2 h0
  · have e : t.good now = t.err := by unfold Tk.good; rw [if_neg h0]
    rw [e]
    exact good_err a t now w h hs hs2 h0
end Go.Proofs.YtgagekcjdapkfadGreatDoor

namespace Go.Proofs.YtgagekcjdapkfadGreatDoor
open Go.RowKit Go.Extern.Stop Go.Stop Go.Extern

end Go.Proofs.YtgagekcjdapkfadGreatDoor

namespace Go.Proofs.YtgagekcjdapkfadGreatDoor
open Go.RowKit Go.Extern.Stop Go.Stop Go.Extern

/-- What Itoa gives of a number that is not below 0. -/
theorem itoa_any (a : Nat → Addr) (n : Int) (w : World) (h : Env a w) (h0 : 0 ≤ n) (h1 : n ≤ 1073741824) :
    Calls Tryz.prog 112 #[.int .i64 n] w fun e w' => e = .returned (.string (Sl.ofL (Lib.decDigits n.toNat))) ∧ Below w.heap.size w w' := by
  have hit : (⟨(Lib.itoa n).toArray⟩ : ByteArray) = Sl.ofL (Lib.decDigits n.toNat) := by
    have e : n = (n.toNat : Int) := by omega
    rw [e, Lib.itoa_nonneg]
    rfl
  refine (Tryz.strconv_Itoa n (by omega) (by omega) w h.tab).mono ?_
  rintro e w' ⟨rfl, k, os, rfl⟩
  exact ⟨by rw [hit], below_grow w k os⟩

theorem texts7 (w : World) (x0 x1 x2 x3 x4 x5 x6 : ByteArray) : Texts (w.alloc (.cells #[.string x0, .string x1, .string x2, .string x3, .string x4, .string x5, .string x6] 9)) w.heap.size 0 [x0, x1, x2, x3, x4, x5, x6] := fun j hj => by
  match j, hj with
  | 0, _ => simp
  | 1, _ => simp
  | 2, _ => simp
  | 3, _ => simp
  | 4, _ => simp
  | 5, _ => simp
  | 6, _ => simp

set_option maxRecDepth 100000 in
set_option maxHeartbeats 4000000 in
theorem words_any (a : Nat → Addr) (t : Tk) (w : World) (h : Env a w) (he : t.err = 0) :
    Calls Tryz.prog 71 #[t.val] w fun e w' => ∃ b, Texts w' b 0 (t.words.map Sl.ofL) ∧ e = .returned (.slice (some ⟨b, 0, none⟩) 7 7) ∧ Below w.heap.size w w' := by
  obtain ⟨_, ⟨k1, k2⟩, ⟨k3, k4⟩, ⟨k5, k6⟩, k7, k8⟩ := t.err_iff.1 he
  have H1 := hide (fun w h => itoa_any a t.epoch w h (by omega) (by omega))
  have H2 := hide (fun w h => itoa_any a t.frm w h (by omega) (by omega))
  have H3 := hide (fun w h => itoa_any a t.til w h (by omega) (by omega))
  have H4 := hide (fun w h => itoa_any a t.ser w h (by omega) (by omega))
  have HB0 : Hid (Below w.heap.size w (w.alloc (tkO t))) := (Below.refl _ w).alloc (Nat.le_refl _) _
  have HR0 : Hid ((w.alloc (tkO t)).heap[w.heap.size]? = some (tkO t)) := heap_alloc_new _ _
  have HE := hide (h.below HB0.out)
  have HW : Hid (t.words.map Sl.ofL = [Sl.ofL tickL, t.who, t.dst, Sl.ofL (Lib.decDigits t.epoch.toNat), Sl.ofL (Lib.decDigits t.frm.toNat), Sl.ofL (Lib.decDigits t.til.toNat), Sl.ofL (Lib.decDigits t.ser.toNat)]) := by
    show [Sl.ofL tickL, Sl.ofL t.who.data.toList, Sl.ofL t.dst.data.toList, _, _, _, _] = _
    rw [Sl.ofL_toL, Sl.ofL_toL]
  rw [HW.out]
  clear h he k1 k2 k3 k4 k5 k6 k7 k8 HW
  generalize Sl.ofL (Lib.decDigits t.epoch.toNat) = s1 at *
  generalize Sl.ofL (Lib.decDigits t.frm.toNat) = s2 at *
  generalize Sl.ofL (Lib.decDigits t.til.toNat) = s3 at *
  generalize Sl.ofL (Lib.decDigits t.ser.toNat) = s4 at *
  rw [tk_val]
  obtain ⟨who, dst, epoch, frm, til, ser⟩ := t
  dsimp only at *
  have HC : Hid (∀ W, Below (w.alloc (tkO ⟨who, dst, epoch, frm, til, ser⟩)).heap.size (w.alloc (tkO ⟨who, dst, epoch, frm, til, ser⟩)) W → W.cell? ⟨w.heap.size, 0, none⟩ = some (.string who) ∧ W.cell? ⟨w.heap.size, 1, none⟩ = some (.string dst) ∧ W.cell? ⟨w.heap.size, 2, none⟩ = some (.int .i64 epoch) ∧ W.cell? ⟨w.heap.size, 3, none⟩ = some (.int .i64 frm) ∧ W.cell? ⟨w.heap.size, 4, none⟩ = some (.int .i64 til) ∧ W.cell? ⟨w.heap.size, 5, none⟩ = some (.int .i64 ser)) := fun W hb => by
    refine tk_row (t := ⟨who, dst, epoch, frm, til, ser⟩) ?_
    rw [hb.block _ (by simp)]; exact HR0.out
  go_enter Tryz.func71, Tryz.ntmps71
  go_wp2_with fail
  generalize hW0 : w.alloc (.cells #[.string who, .string dst, .int .i64 epoch, .int .i64 frm, .int .i64 til, .int .i64 ser] 64) = W0 at *
  have Hd : Hid (Below W0.heap.size W0 W0.drew) := (Below.refl _ _).drew
  obtain ⟨z0, z1, z2, z3, z4, z5⟩ := HC.out W0 (Below.refl _ _)
  clear hW0 HR0
  go_region_held3 (fun w' => w'.cell? ⟨w.heap.size, 0, none⟩ = some (.string who) ∧ w'.cell? ⟨w.heap.size, 1, none⟩ = some (.string dst) ∧ w'.cell? ⟨w.heap.size, 2, none⟩ = some (.int .i64 epoch) ∧ w'.cell? ⟨w.heap.size, 3, none⟩ = some (.int .i64 frm) ∧ w'.cell? ⟨w.heap.size, 4, none⟩ = some (.int .i64 til) ∧ w'.cell? ⟨w.heap.size, 5, none⟩ = some (.int .i64 ser)) (first | go_keep | assumption)
    (first
      | (go_at_call 112; refine (H1.out _ (HE.out.below Hd.out)).mono ?_; rintro e w1 ⟨rfl, hb⟩; have HP1 : Hid (Below W0.heap.size W0 w1) := Hd.out.trans (hb.mono Hd.out.size); have hc1 := HC.out _ HP1.out; clear hb)
      | (go_at_call 112; refine (H2.out _ (HE.out.below HP1.out)).mono ?_; rintro e w2 ⟨rfl, hb⟩; have HP2 : Hid (Below W0.heap.size W0 w2) := HP1.out.trans (hb.mono HP1.out.size); have hc2 := HC.out _ HP2.out; clear hb)
      | (go_at_call 112; refine (H3.out _ (HE.out.below HP2.out)).mono ?_; rintro e w3 ⟨rfl, hb⟩; have HP3 : Hid (Below W0.heap.size W0 w3) := HP2.out.trans (hb.mono HP2.out.size); have hc3 := HC.out _ HP3.out; clear hb)
      | (go_at_call 112; refine (H4.out _ (HE.out.below HP3.out)).mono ?_; rintro e w4 ⟨rfl, hb⟩; have HP4 : Hid (Below W0.heap.size W0 w4) := HP3.out.trans (hb.mono HP3.out.size); have hc4 := HC.out _ HP4.out; clear hb))
  have HP5 := hide ((HB0.out.trans (HP4.out.mono HB0.out.size)).alloc (HB0.out.trans (HP4.out.mono HB0.out.size)).size (.cells #[.string ⟨#[116, 105, 99, 107, 101, 116]⟩, .string who, .string dst, .string s1, .string s2, .string s3, .string s4] 9))
  clear hc1 hc2 hc3 hc4 HP1 HP2 HP3 HP4 HC HE HB0 Hd z0 z1 z2 z3 z4 z5 H1 H2 H3 H4
  go_wp2
  go_ret
  exact ⟨w4.heap.size, texts7 w4 _ _ _ _ _ _ _, rfl, HP5.out⟩
end Go.Proofs.YtgagekcjdapkfadGreatDoor

namespace Go.Proofs.YtgagekcjdapkfadGreatDoor
open Go.RowKit Go.Extern.Stop Go.Stop Go.Extern

/-- The block of read's four numbers, k of them laid. -/
def num4 (ys : List ByteArray) (k j : Nat) : Value := .int .i64 (if j < k then (Sl.valL (ys.getD j ⟨#[]⟩).data.toList : Int) else 0)
def arr4 (ys : List ByteArray) (k : Nat) : Array Value := #[num4 ys k 0, num4 ys k 1, num4 ys k 2, num4 ys k 3]
theorem arr4_0 (ys : List ByteArray) : arr4 ys 0 = #[.int .i64 0, .int .i64 0, .int .i64 0, .int .i64 0] := rfl
theorem arr4_4 (y0 y1 y2 y3 : ByteArray) : arr4 [y0, y1, y2, y3] 4 = #[.int .i64 (Sl.valL y0.data.toList), .int .i64 (Sl.valL y1.data.toList), .int .i64 (Sl.valL y2.data.toList), .int .i64 (Sl.valL y3.data.toList)] := rfl
theorem arr4_set (y0 y1 y2 y3 : ByteArray) (k : Nat) (hk : k < 4) (v : Int) (hv : v = (Sl.valL ([y0, y1, y2, y3].getD k ⟨#[]⟩).data.toList : Int)) : (arr4 [y0, y1, y2, y3] k).setIfInBounds k (.int .i64 v) = arr4 [y0, y1, y2, y3] (k + 1) := by
  subst hv
  match k, hk with
  | 0, _ => rfl
  | 1, _ => rfl
  | 2, _ => rfl
  | 3, _ => rfl

theorem numB_max (l : List UInt8) : numB l 9223372036854775807 = Sl.numOk l := by
  unfold numB
  cases h : Sl.numOk l with
  | false => rfl
  | true =>
    obtain ⟨h1, h2, _⟩ := (Sl.numOk_iff l).1 h
    have := Sl.valL_lt l h2 h1.2
    rw [decide_eq_true (by omega)]
    rfl
theorem numV_max (l : List UInt8) (h : Sl.numOk l = true) : numV l 9223372036854775807 = (Sl.valL l : Int) := by
  unfold numV
  rw [numB_max, if_pos h]

set_option maxRecDepth 100000 in
set_option maxHeartbeats 2000000 in
theorem read_len (a : Nat → Addr) (ad : Option Addr) (n c : Nat) (w : World) (h : Env a w) (hn : n ≠ 7) :
    Calls Tryz.prog 114 #[.slice ad n c] w fun e w' => e = .returned (.tuple #[tk0.val, eV (a 0)]) ∧ Below w.heap.size w w' := by
  have hv := h.errs.later 0 (by decide)
  simp only [errG, List.getD_cons_zero] at hv
  have hn2 : ((n : Int) != 7) = true := by rw [bne_iff_ne]; omega
  clear h hn
  go_enter Tryz.func114, Tryz.ntmps114
  go_wp2
  go_region
  go_wp2
  refine tkEnd rfl w.heap.size tk0 rfl (heap_alloc_new _ _) rfl ?_
  exact ⟨rfl, ((Below.refl _ w).alloc (Nat.le_refl _) _).drew⟩

set_option maxRecDepth 100000 in
set_option maxHeartbeats 2000000 in
theorem read_kind (a : Nat → Addr) (b o c : Nat) (x0 : ByteArray) (w : World) (h : Env a w) (hx : w.cell? ⟨b, o, none⟩ = some (.string x0)) (hk : x0.data.toList ≠ tickL) :
    Calls Tryz.prog 114 #[.slice (some ⟨b, o, none⟩) 7 c] w fun e w' => e = .returned (.tuple #[tk0.val, eV (a 0)]) ∧ Below w.heap.size w w' := by
  have hv := h.errs.later 0 (by decide)
  simp only [errG, List.getD_cons_zero] at hv
  have hx2 : ∀ O, (w.alloc O).cell? ⟨b, o, none⟩ = some (.string x0) := fun O => by
    rw [((Below.refl w.heap.size w).alloc (Nat.le_refl _) O).cell (p := ⟨b, o, none⟩) (cell_lt hx)]; exact hx
  have hq : (x0.toList == [116, 105, 99, 107, 101, 116]) = false := by
    rw [beq_eq_false_iff_ne, Go.ByteArray.toList_eq]
    exact hk
  clear h hk hx
  go_enter Tryz.func114, Tryz.ntmps114
  go_wp2
  go_region
  go_wp2
  refine tkEnd rfl w.heap.size tk0 rfl (heap_alloc_new _ _) rfl ?_
  exact ⟨rfl, ((Below.refl _ w).alloc (Nat.le_refl _) _).drew⟩

theorem drew_heap (w : World) : w.drew.heap = w.heap := rfl
theorem tk0_drew {w : World} {g : Nat} {t : Tk} (h : w.heap[g]? = some (tkO t)) :
    ((((((w.setCell ⟨g, 0, none⟩ (.string ⟨#[]⟩)).setCell ⟨g, 1, none⟩ (.string ⟨#[]⟩)).setCell ⟨g, 2, none⟩ (.int .i64 0)).setCell ⟨g, 3, none⟩ (.int .i64 0)).setCell ⟨g, 4, none⟩ (.int .i64 0)).setCell ⟨g, 5, none⟩ (.int .i64 0)).drew.heap[g]? = some (tkO tk0) := by
  rw [drew_heap]
  exact row_set6 h _ _ _ _ _ _
theorem cell_set6 (w : World) {g : Nat} (p : Addr) (h : p.block ≠ g) (a b c d e f : Value) :
    ((((((w.setCell ⟨g, 0, none⟩ a).setCell ⟨g, 1, none⟩ b).setCell ⟨g, 2, none⟩ c).setCell ⟨g, 3, none⟩ d).setCell ⟨g, 4, none⟩ e).setCell ⟨g, 5, none⟩ f).cell? p = w.cell? p := by
  have k : ∀ (w : World) (i : Nat) (v : Value), (w.setCell ⟨g, i, none⟩ v).cell? p = w.cell? p := fun w i v => World.cell?_setCell_other _ _ _ _ (fun e => h (congrArg Addr.block e).symm)
  exact (k _ _ _).trans ((k _ _ _).trans ((k _ _ _).trans ((k _ _ _).trans ((k _ _ _).trans (k _ _ _)))))

set_option maxRecDepth 100000 in
set_option maxHeartbeats 8000000 in
theorem read_nums (a : Nat → Addr) (b o c : Nat) (x0 x1 x2 x3 x4 x5 x6 : ByteArray) (w : World) (h : Env a w) (hc : 7 ≤ c) (hx : Texts w b o [x0, x1, x2, x3, x4, x5, x6]) (hk : x0.data.toList = tickL) (hs : ∀ x ∈ [x0, x1, x2, x3, x4, x5, x6], x.size ≤ maxLen)
    (r : Tk) (rv : Value) (hbad : ∀ k, k < 4 → Sl.numOk ([x3, x4, x5, x6].getD k ⟨#[]⟩).data.toList = false → r = tk0 ∧ rv = eV (a 0))
    (hgood : (∀ k, k < 4 → Sl.numOk ([x3, x4, x5, x6].getD k ⟨#[]⟩).data.toList = true) → ∀ w, Errs a w → Calls Tryz.prog 155 #[.agg #[.string x1, .string x2, .int .i64 (Sl.valL x3.data.toList), .int .i64 (Sl.valL x4.data.toList), .int .i64 (Sl.valL x5.data.toList), .int .i64 (Sl.valL x6.data.toList)]] w fun e w' => e = .returned (.tuple #[r.val, rv]) ∧ Below w.heap.size w w') :
    Calls Tryz.prog 114 #[.slice (some ⟨b, o, none⟩) 7 c] w fun e w' => e = .returned (.tuple #[r.val, rv]) ∧ Below w.heap.size w w' := by
  have hx0 : w.cell? ⟨b, o, none⟩ = some (.string x0) := hx 0 (by simp)
  have hx2 : ∀ O, (w.alloc O).cell? ⟨b, o, none⟩ = some (.string x0) := fun O => by
    rw [((Below.refl w.heap.size w).alloc (Nat.le_refl _) O).cell (p := ⟨b, o, none⟩) (cell_lt hx0)]; exact hx0
  have hq : (x0.toList == [116, 105, 99, 107, 101, 116]) = true := by
    rw [beq_iff_eq, Go.ByteArray.toList_eq]
    exact hk
  have HX := hide hx
  have HS := hide hs
  have HE := hide h
  have HBad := hide hbad
  have HGood := hide hgood
  have HBl : Hid (b < w.heap.size) := hx.lt (by simp)
  have HG : Hid (7 < w.heap.size) := by
    have := h.errs.var 0 (by decide)
    exact cell_lt this
  clear h hk hx hx0 hs hbad hgood
  go_enter Tryz.func114, Tryz.ntmps114
  go_wp2
  have HB0 : Hid (Below w.heap.size w ((w.alloc (tkO tk0)).alloc (.cells (arr4 [x3, x4, x5, x6] 0) 222))) := ((Below.refl _ w).alloc (Nat.le_refl _) _).alloc (by simp) _
  have HR0 : Hid (((w.alloc (tkO tk0)).alloc (.cells (arr4 [x3, x4, x5, x6] 0) 222)).heap[w.heap.size]? = some (tkO tk0)) := (heap_alloc_old _ _ (by simp)).trans (heap_alloc_new _ _)
  have HR1 : Hid (((w.alloc (tkO tk0)).alloc (.cells (arr4 [x3, x4, x5, x6] 0) 222)).heap[w.heap.size + 1]? = some (.cells (arr4 [x3, x4, x5, x6] 0) 222 (0, 0))) := by
    have := heap_alloc_new (w.alloc (tkO tk0)) (.cells (arr4 [x3, x4, x5, x6] 0) 222)
    rw [show (w.alloc (tkO tk0)).heap.size = w.heap.size + 1 by simp] at this
    exact this
  clear hx2 hq
  go_loopg [23] 4 (fun gg s23 wr => ∃ k : Nat, k ≤ 4 ∧ 4 - k ≤ gg ∧ s23 = .int .i64 k ∧ Hid (Below w.heap.size w wr) ∧ Hid (wr.heap[w.heap.size]? = some (tkO tk0)) ∧ Hid (wr.heap[w.heap.size + 1]? = some (.cells (arr4 [x3, x4, x5, x6] k) 222 (0, 0))) ∧ Hid (∀ j, j < k → Sl.numOk ([x3, x4, x5, x6].getD j ⟨#[]⟩).data.toList = true))
  case atStart => exact ⟨0, Nat.zero_le _, by omega, rfl, HB0, HR0, HR1, fun j hj => absurd hj (Nat.not_lt_zero _)⟩
  case round =>
    obtain ⟨k, hk, hg, rfl, HB, HT0, HT1, A⟩ := hrel
    by_cases hlt : k < 4
    · have hltz : (k : Int) < 4 := by omega
      have hk0 : (0 : Int) ≤ (k : Int) := by omega
      have hcell : wr.cell? ⟨b, o + 3 + k, none⟩ = some (.string ([x3, x4, x5, x6].getD k ⟨#[]⟩)) := by
        rw [HB.out.cell (p := ⟨b, o + 3 + k, none⟩) HBl.out]
        have := HX.out (3 + k) (by simp; omega)
        rw [← Nat.add_assoc] at this
        rw [this]
        match k, hlt with
        | 0, _ => rfl
        | 1, _ => rfl
        | 2, _ => rfl
        | 3, _ => rfl
      have hsz : ([x3, x4, x5, x6].getD k ⟨#[]⟩).size ≤ maxLen := by
        refine HS.out _ ?_
        match k, hlt with
        | 0, _ => simp
        | 1, _ => simp
        | 2, _ => simp
        | 3, _ => simp
      have HN := hide (number_any ([x3, x4, x5, x6].getD k ⟨#[]⟩) 9223372036854775807 wr hsz)
      rw [numB_max] at HN
      have HBk := hide (HBad.out k hlt)
      have HAs : Hid (∀ v : Int, v = (Sl.valL ([x3, x4, x5, x6].getD k ⟨#[]⟩).data.toList : Int) → (arr4 [x3, x4, x5, x6] k).setIfInBounds k (.int .i64 v) = arr4 [x3, x4, x5, x6] (k + 1)) := fun v hv => arr4_set x3 x4 x5 x6 k hlt v hv
      have hac : ∃ u, (arr4 [x3, x4, x5, x6] k)[k]? = some u := by
        match k, hlt with
        | 0, _ => exact ⟨_, rfl⟩
        | 1, _ => exact ⟨_, rfl⟩
        | 2, _ => exact ⟨_, rfl⟩
        | 3, _ => exact ⟨_, rfl⟩
      obtain ⟨u, hu⟩ := hac
      have HU := hide hu
      have HA2 := hide A.out
      generalize harr : arr4 [x3, x4, x5, x6] k = cs at *
      clear harr hu
      cases hnk : Sl.numOk ([x3, x4, x5, x6].getD k ⟨#[]⟩).data.toList with
      | false =>
        obtain ⟨rfl, rfl⟩ := HBk.out hnk
        rw [hnk] at HN
        generalize numV ([x3, x4, x5, x6].getD k ⟨#[]⟩).data.toList 9223372036854775807 = nv at *
        generalize [x3, x4, x5, x6].getD k ⟨#[]⟩ = y at *
        clear hnk HBk HAs HU hsz HA2 A HBad HGood
        go_wp2_with fail
        refine HN.out.mono ?_
        rintro e w1 ⟨rfl, hb⟩
        have HB1 : Hid (Below w.heap.size w w1) := HB.out.trans (hb.mono HB.out.size)
        have HT2 : Hid (w1.heap[w.heap.size]? = some (tkO tk0)) := by show _ = _; rw [hb.block _ (row_lt HT0.out)]; exact HT0.out
        have hv := (HE.out.below HB1.out).errs.var 0 (by decide)
        simp only [errG, List.getD_cons_zero] at hv
        clear hb HN HB HT0 HT1
        obtain ⟨hd0, hd1, hd2, hd3, hd4, hd5⟩ := tk_row HT2.out
        obtain ⟨hf0, hf1, hf2, hf3, hf4, hf5⟩ := row_frozen6 HT2.out
        dsimp only [tk0] at hd0 hd1 hd2 hd3 hd4 hd5
        have hv2 : ∀ v, (w1.setCell ⟨w.heap.size, 0, none⟩ v).cell? ⟨7, 0, none⟩ = some (eV (a 0)) := fun v => by
          rw [World.cell?_setCell_other _ _ _ _ (fun e => by have := HG.out; have := (Addr.mk.inj e).1; omega)]; exact hv
        go_wp2
        go_region
        go_wp2
        refine tkEnd rfl w.heap.size tk0 rfl (tk0_drew HT2.out) rfl ?_
        exact ⟨rfl, (below_set6 HB1.out (Nat.le_refl _) _ _ _ _ _ _).drew⟩
      | true =>
        rw [hnk, numV_max _ hnk] at HN
        have HNk := hide hnk
        have HAs2 := hide (HAs.out _ rfl)
        generalize hnv : (Sl.valL ([x3, x4, x5, x6].getD k ⟨#[]⟩).data.toList : Int) = nv at *
        generalize hyy : [x3, x4, x5, x6].getD k ⟨#[]⟩ = y at *
        have HY := hide hyy
        clear hnk HBk HAs hsz hnv hyy
        go_wp2_with fail
        refine HN.out.mono ?_
        rintro e w1 ⟨rfl, hb⟩
        have HB1 : Hid (Below w.heap.size w w1) := HB.out.trans (hb.mono HB.out.size)
        have HT2 : Hid (w1.heap[w.heap.size]? = some (tkO tk0)) := by show _ = _; rw [hb.block _ (row_lt HT0.out)]; exact HT0.out
        have HT3 : Hid (w1.heap[w.heap.size + 1]? = some (.cells cs 222 (0, 0))) := by show _ = _; rw [hb.block _ (row_lt HT1.out)]; exact HT1.out
        have hc1 : w1.cell? ⟨w.heap.size + 1, k, none⟩ = some u := by rw [cell_of_row w1 _ k _ _ _ HT3.out]; exact HU.out
        have hf1 : w1.frozen? ⟨w.heap.size + 1, k, none⟩ = false := frozen_of_row w1 _ k _ _ HT3.out
        clear hb HN HB HT0 HT1
        go_wp2
        go_roundg (4 - (k + 1))
        case measure => omega
        case rel =>
          refine ⟨k + 1, by omega, by omega, by go_num, HB1.out.setCell (by simp) _, ?_, ?_, (show Hid _ from fun j hj => ?_)⟩
          · show _ = _
            rw [heap_setCell_other _ _ _ _ (by simp)]; exact HT2.out
          · show _ = _
            rw [heap_setCell_same w1 _ k _ _ _ HT3.out, HAs2.out]
          · by_cases e : j = k
            · subst e; rw [HY.out]; exact HNk.out
            · exact HA2.out j (by omega)
    · have : k = 4 := by omega
      subst this
      have HGd := hide (HGood.out A.out)
      clear HBad HGood A
      rw [arr4_4] at HT1
      generalize (Sl.valL x3.data.toList : Int) = v3 at *
      generalize (Sl.valL x4.data.toList : Int) = v4 at *
      generalize (Sl.valL x5.data.toList : Int) = v5 at *
      generalize (Sl.valL x6.data.toList : Int) = v6 at *
      have hx1 : wr.cell? ⟨b, o + 1, none⟩ = some (.string x1) := by
        rw [HB.out.cell (p := ⟨b, o + 1, none⟩) HBl.out]
        exact HX.out 1 (by simp)
      have hx2 : wr.cell? ⟨b, o + 2, none⟩ = some (.string x2) := by
        rw [HB.out.cell (p := ⟨b, o + 2, none⟩) HBl.out]
        exact HX.out 2 (by simp)
      have hn0 : wr.cell? ⟨w.heap.size + 1, 0, none⟩ = some (.int .i64 v3) := cell_of_row wr _ 0 _ _ _ HT1.out
      have hn1 : wr.cell? ⟨w.heap.size + 1, 1, none⟩ = some (.int .i64 v4) := cell_of_row wr _ 1 _ _ _ HT1.out
      have hn2 : wr.cell? ⟨w.heap.size + 1, 2, none⟩ = some (.int .i64 v5) := cell_of_row wr _ 2 _ _ _ HT1.out
      have hn3 : wr.cell? ⟨w.heap.size + 1, 3, none⟩ = some (.int .i64 v6) := cell_of_row wr _ 3 _ _ _ HT1.out
      have hbne : b ≠ w.heap.size := by have := HBl.out; omega
      have hbne2 : w.heap.size ≠ b := fun e => hbne e.symm
      have HL1 : Hid (w.heap.size + 1 < wr.heap.size) := row_lt HT1.out
      have HL2 : Hid (b < wr.heap.size) := Nat.lt_of_lt_of_le HBl.out HB.out.size
      obtain ⟨who, dst, epoch, frm, til, ser⟩ := r
      have HGe := hide (HGd.out wr.drew ((HE.out.below HB.out).errs.below (Below.refl _ _).drew))
      rw [tk_val ⟨who, dst, epoch, frm, til, ser⟩] at HGe
      dsimp only at HGe
      clear HX HS HE HGd HB0 HR0 HR1
      go_wp2_with fail
      rename_i K3 J K2 a3 a2 Q2 K1 a1 K0 a0
      clear a1 K1 a2 a3 J K2 K3 hk hg hlt HG
      go_region_held3 (fun w' => w'.cell? ⟨b, o + 1, none⟩ = some (.string x1) ∧ w'.cell? ⟨b, o + 2, none⟩ = some (.string x2) ∧ w'.cell? ⟨w.heap.size + 1, 0, none⟩ = some (.int .i64 v3) ∧ w'.cell? ⟨w.heap.size + 1, 1, none⟩ = some (.int .i64 v4) ∧ w'.cell? ⟨w.heap.size + 1, 2, none⟩ = some (.int .i64 v5) ∧ w'.cell? ⟨w.heap.size + 1, 3, none⟩ = some (.int .i64 v6)) (go_keep)
        (first
          | (go_at_call 155; refine HGe.out.mono ?_; rintro e w1 ⟨rfl, hb⟩; have HB1 : Hid (Below w.heap.size w w1) := HB.out.trans ((((Below.refl _ _).drew).trans hb).mono HB.out.size); have HT2 : Hid (w1.heap[w.heap.size]? = some (tkO tk0)) := (hb.block _ (row_lt HT0.out)).trans HT0.out; have hk1 := (hb.cell (p := ⟨b, o + 1, none⟩) HL2.out).trans hx1; have hk2 := (hb.cell (p := ⟨b, o + 2, none⟩) HL2.out).trans hx2; have hk3 := (hb.cell (p := ⟨w.heap.size + 1, 0, none⟩) HL1.out).trans hn0; have hk4 := (hb.cell (p := ⟨w.heap.size + 1, 1, none⟩) HL1.out).trans hn1; have hk5 := (hb.cell (p := ⟨w.heap.size + 1, 2, none⟩) HL1.out).trans hn2; have hk6 := (hb.cell (p := ⟨w.heap.size + 1, 3, none⟩) HL1.out).trans hn3; clear hb; obtain ⟨hd0, hd1, hd2, hd3, hd4, hd5⟩ := tk_row HT2.out; obtain ⟨hf0, hf1, hf2, hf3, hf4, hf5⟩ := row_frozen6 HT2.out; dsimp only [tk0] at hd0 hd1 hd2 hd3 hd4 hd5))
      go_wp2
      refine tkEnd rfl w.heap.size ⟨who, dst, epoch, frm, til, ser⟩ rfl (row_set6 HT2.out _ _ _ _ _ _) rfl ?_
      exact ⟨rfl, below_set6 HB1.out (Nat.le_refl _) _ _ _ _ _ _⟩

theorem read_any (a : Nat → Addr) (v : Value) (xs : List ByteArray) (w : World) (h : Env a w) (hv : TextsAt w v xs) (hs : ∀ x ∈ xs, x.size ≤ maxLen) :
    Calls Tryz.prog 114 #[v] w fun e w' => e = .returned (.tuple #[(okT (readE (toLs xs)) (tkOf (toLs xs))).val, errV a (readE (toLs xs))]) ∧ Below w.heap.size w w' := by
  obtain ⟨ad, c, rfl, hc, hor⟩ := hv
  by_cases hn : xs.length = 7
  · obtain ⟨x0, x1, x2, x3, x4, x5, x6, rfl⟩ : ∃ x0 x1 x2 x3 x4 x5 x6, xs = [x0, x1, x2, x3, x4, x5, x6] := by
      match xs, hn with
      | [x0, x1, x2, x3, x4, x5, x6], _ => exact ⟨_, _, _, _, _, _, _, rfl⟩
    obtain ⟨b, o, rfl, hx⟩ : ∃ b o, ad = some ⟨b, o, none⟩ ∧ Texts w b o [x0, x1, x2, x3, x4, x5, x6] := by
      rcases hor with g | g
      · cases g
      · exact g
    by_cases hk : x0.data.toList = tickL
    · refine read_nums a b o c x0 x1 x2 x3 x4 x5 x6 w h hc hx hk hs _ _ (fun k hk4 hno => ?_) (fun hall => ?_)
      · have e1 : readE (toLs [x0, x1, x2, x3, x4, x5, x6]) = 1 := by
          unfold readE
          rw [if_neg]
          intro hf
          unfold formW at hf
          obtain ⟨_, h36⟩ := Bool.and_eq_true_iff.1 hf
          obtain ⟨h35, g6⟩ := Bool.and_eq_true_iff.1 h36
          obtain ⟨h34, g5⟩ := Bool.and_eq_true_iff.1 h35
          obtain ⟨g3, g4⟩ := Bool.and_eq_true_iff.1 h34
          match k, hk4 with
          | 0, _ => exact absurd (hno.symm.trans g3) (by decide)
          | 1, _ => exact absurd (hno.symm.trans g4) (by decide)
          | 2, _ => exact absurd (hno.symm.trans g5) (by decide)
          | 3, _ => exact absurd (hno.symm.trans g6) (by decide)
        rw [e1]
        exact ⟨rfl, rfl⟩
      · have e1 : readE (toLs [x0, x1, x2, x3, x4, x5, x6]) = (tkOf (toLs [x0, x1, x2, x3, x4, x5, x6])).err := by
          unfold readE
          rw [if_pos]
          unfold formW
          have g3 := hall 0 (by decide)
          have g4 := hall 1 (by decide)
          have g5 := hall 2 (by decide)
          have g6 := hall 3 (by decide)
          show (true && decide (x0.data.toList = tickL) && (Sl.numOk x3.data.toList && Sl.numOk x4.data.toList && Sl.numOk x5.data.toList && Sl.numOk x6.data.toList)) = true
          have f3 : Sl.numOk x3.data.toList = true := g3
          have f4 : Sl.numOk x4.data.toList = true := g4
          have f5 : Sl.numOk x5.data.toList = true := g5
          have f6 : Sl.numOk x6.data.toList = true := g6
          rw [f3, f4, f5, f6, decide_eq_true hk]
          rfl
        rw [e1]
        intro w hw
        have ew : (tkOf (toLs [x0, x1, x2, x3, x4, x5, x6])).val = .agg #[.string x1, .string x2, .int .i64 (Sl.valL x3.data.toList), .int .i64 (Sl.valL x4.data.toList), .int .i64 (Sl.valL x5.data.toList), .int .i64 (Sl.valL x6.data.toList)] := by
          show Value.agg #[.string (Sl.ofL x1.data.toList), .string (Sl.ofL x2.data.toList), _, _, _, _] = _
          rw [Sl.ofL_toL, Sl.ofL_toL]
          rfl
        have := checked_any a (tkOf (toLs [x0, x1, x2, x3, x4, x5, x6])) w hw (by show (Sl.ofL x1.data.toList).size ≤ _; rw [Sl.ofL_toL]; exact hs x1 (by simp)) (by show (Sl.ofL x2.data.toList).size ≤ _; rw [Sl.ofL_toL]; exact hs x2 (by simp))
        rw [ew] at this
        exact this
    · have e1 : readE (toLs [x0, x1, x2, x3, x4, x5, x6]) = 1 := by
        unfold readE
        rw [if_neg]
        intro hf
        unfold formW at hf
        exact hk (of_decide_eq_true (Bool.and_eq_true_iff.1 (Bool.and_eq_true_iff.1 hf).1).2)
      rw [e1]
      exact read_kind a b o c x0 w h (hx 0 (by simp)) hk
  · have e1 : readE (toLs xs) = 1 := by
      unfold readE
      rw [if_neg]
      intro hf
      unfold formW at hf
      have := of_decide_eq_true (Bool.and_eq_true_iff.1 (Bool.and_eq_true_iff.1 hf).1).1
      rw [List.length_map] at this
      exact hn this
    rw [e1]
    exact read_len a ad xs.length c w h hn

theorem read_look (a : Nat → Addr) (l : List UInt8) (b : Nat) (w : World) (h : Env a w) (h0 : Sl.lookE l = 0) (hx : Texts w b 0 ((Sl.lookW l).map Sl.ofL)) :
    Calls Tryz.prog 114 #[.slice (some ⟨b, 0, none⟩) (Sl.lookW l).length (Sl.lookW l).length] w fun e w' => e = .returned (.tuple #[(okT (readE (Sl.lookW l)) (tkOf (Sl.lookW l))).val, errV a (readE (Sl.lookW l))]) ∧ Below w.heap.size w w' := by
  have hmm : toLs ((Sl.lookW l).map Sl.ofL) = Sl.lookW l := by
    unfold toLs
    rw [List.map_map]
    conv => rhs; rw [← List.map_id (Sl.lookW l)]
    exact List.map_congr_left fun l _ => rfl
  have hw := (Sl.wordsOk_iff _).1 (Sl.lookOk_words l (Sl.lookE_ok l h0))
  have := read_any a (.slice (some ⟨b, 0, none⟩) (Sl.lookW l).length (Sl.lookW l).length) ((Sl.lookW l).map Sl.ofL) w h ⟨_, _, by rw [List.length_map], by simp, Or.inr ⟨b, 0, rfl, hx⟩⟩ (fun x hx => by
    obtain ⟨y, hy, rfl⟩ := List.mem_map.1 hx
    have := (Sl.word_len y (hw.2 y hy)).2
    rw [Sl.ofL_size]
    unfold maxLen; omega)
  rw [hmm] at this
  exact this
end Go.Proofs.YtgagekcjdapkfadGreatDoor

namespace Go.Proofs.YtgagekcjdapkfadGreatDoor
open Go.RowKit Go.Extern.Stop Go.Stop Go.Extern

/-- Make's error and text. -/
def tkMakeE (key : Int) (t : Tk) : Nat := if 1 ≤ key ∧ key ≤ 1000000006 then t.err else 10
def tkMakeS (key : Int) (t : Tk) : ByteArray := if tkMakeE key t = 0 then Sl.ofL (Sl.sealL key t.words) else ⟨#[]⟩
theorem tkMakeE_le (key : Int) (t : Tk) : tkMakeE key t ≤ 16 := by have := t.err_le; unfold tkMakeE; split <;> omega
/-- Open's and Look's errors. -/
def tkOpenE (key : Int) (l : List UInt8) : Nat := if Sl.openE key l = 0 then readE (Sl.lookW l) else Sl.openE key l
def tkLookE (l : List UInt8) : Nat := if Sl.lookE l = 0 then readE (Sl.lookW l) else Sl.lookE l

set_option maxRecDepth 100000 in
set_option maxHeartbeats 2000000 in
theorem tkMake_key (a : Nat → Addr) (key : Int) (t : Tk) (w : World) (h : Env a w) (hk : ¬ (1 ≤ key ∧ key ≤ 1000000006)) :
    Calls Tryz.prog 28 #[.int .i64 key, t.val] w fun e w' => e = .returned (.tuple #[.string ⟨#[]⟩, eV (a 9)]) ∧ Below w.heap.size w w' := by
  have HB0 : Hid (Below w.heap.size w (w.alloc (tkO t))) := (Below.refl _ w).alloc (Nat.le_refl _) _
  have HK := hide (of_any a key ⟨#[]⟩ _ (h.errs.below HB0.out) (by decide))
  rw [key_more, if_neg hk, show errV a 10 = eV (a 9) from rfl] at HK
  generalize moreN key key _ = m at HK
  clear h hk
  rw [tk_val]
  obtain ⟨who, dst, epoch, frm, til, ser⟩ := t
  dsimp only at *
  go_enter Tryz.func28, Tryz.ntmps28
  go_wp2_with fail
  refine HK.out.mono ?_
  rintro e w1 ⟨rfl, hb⟩
  have HB1 : Hid (Below w.heap.size w w1) := HB0.out.trans (hb.mono HB0.out.size)
  clear hb HB0 HK
  go_wp2
  go_ret2
  exact ⟨rfl, HB1.out⟩

set_option maxRecDepth 100000 in
set_option maxHeartbeats 2000000 in
theorem tkMake_err (a : Nat → Addr) (key : Int) (t : Tk) (w : World) (h : Env a w) (hs : t.who.size ≤ maxLen) (hs2 : t.dst.size ≤ maxLen) (hk : 1 ≤ key ∧ key ≤ 1000000006) (h0 : t.err ≠ 0) :
    Calls Tryz.prog 28 #[.int .i64 key, t.val] w fun e w' => e = .returned (.tuple #[.string ⟨#[]⟩, errV a t.err]) ∧ Below w.heap.size w w' := by
  have HB0 : Hid (Below w.heap.size w (w.alloc (tkO t))) := (Below.refl _ w).alloc (Nat.le_refl _) _
  have HR0 : Hid ((w.alloc (tkO t)).heap[w.heap.size]? = some (tkO t)) := heap_alloc_new _ _
  have HK := hide (of_any a key ⟨#[]⟩ _ (h.errs.below HB0.out) (by decide))
  rw [key_more, if_pos hk, show errV a 0 = Value.nilIface from rfl] at HK
  generalize moreN key key _ = m at HK
  have HC := hide (fun w h => tkCheck_any a t w h hs hs2)
  have HE := hide h
  have e1 : errV a t.err = eV (a (t.err - 1)) := by unfold errV; rw [if_neg h0]
  rw [e1] at HC ⊢
  generalize a (t.err - 1) = ad at *
  clear h hk hs hs2 h0 e1
  rw [tk_val] at HC ⊢
  obtain ⟨who, dst, epoch, frm, til, ser⟩ := t
  dsimp only at *
  go_enter Tryz.func28, Tryz.ntmps28
  go_wp2_with fail
  refine HK.out.mono ?_
  rintro e w1 ⟨rfl, hb⟩
  have HB1 : Hid (Below w.heap.size w w1) := HB0.out.trans (hb.mono HB0.out.size)
  have HT0 : Hid (w1.heap[w.heap.size]? = some (tkO ⟨who, dst, epoch, frm, til, ser⟩)) := by show _ = _; rw [hb.block _ (by simp)]; exact HR0.out
  obtain ⟨hc0, hc1, hc2, hc3, hc4, hc5⟩ := tk_row HT0.out
  dsimp only at hc0 hc1 hc2 hc3 hc4 hc5
  clear hb HB0 HK HR0 HT0
  go_wp2_with fail
  refine (HC.out _ (HE.out.errs.below HB1.out)).mono ?_
  rintro e w2 ⟨rfl, hb⟩
  have HB2 : Hid (Below w.heap.size w w2) := HB1.out.trans (hb.mono HB1.out.size)
  clear hb HB1 HC HE hc0 hc1 hc2 hc3 hc4 hc5
  go_wp2
  go_ret2
  exact ⟨rfl, HB2.out⟩

set_option maxRecDepth 100000 in
set_option maxHeartbeats 2000000 in
theorem tkMake_ok (a : Nat → Addr) (key : Int) (t : Tk) (w : World) (h : Env a w) (hs : t.who.size ≤ maxLen) (hs2 : t.dst.size ≤ maxLen) (hk : 1 ≤ key ∧ key ≤ 1000000006) (h0 : t.err = 0) :
    Calls Tryz.prog 28 #[.int .i64 key, t.val] w fun e w' => e = .returned (.tuple #[.string (Sl.ofL (Sl.sealL key t.words)), .nilIface]) ∧ Below w.heap.size w w' := by
  have HB0 : Hid (Below w.heap.size w (w.alloc (tkO t))) := (Below.refl _ w).alloc (Nat.le_refl _) _
  have HR0 : Hid ((w.alloc (tkO t)).heap[w.heap.size]? = some (tkO t)) := heap_alloc_new _ _
  have HK := hide (of_any a key ⟨#[]⟩ _ (h.errs.below HB0.out) (by decide))
  rw [key_more, if_pos hk, show errV a 0 = Value.nilIface from rfl] at HK
  generalize moreN key key _ = m at HK
  have HC := hide (fun w h => tkCheck_any a t w h hs hs2)
  rw [h0, show errV a 0 = Value.nilIface from rfl] at HC
  have HE := hide h
  have HW := hide (fun w h => words_any a t w h h0)
  have hml : (t.words.map Sl.ofL).map (·.data.toList) = t.words := by
    rw [List.map_map]
    conv => rhs; rw [← List.map_id t.words]
    exact List.map_congr_left fun l _ => rfl
  have HM : Hid (∀ b w, Env a w → Texts w b 0 (t.words.map Sl.ofL) → Calls Tryz.prog 70 #[.int .i64 key, .slice (some ⟨b, 0, none⟩) 7 7] w fun e w' => e = .returned (.tuple #[.string (Sl.ofL (Sl.sealL key t.words)), .nilIface]) ∧ Below w.heap.size w w') := fun b w h hx => by
    have := make_ok a key b 0 7 7 (t.words.map Sl.ofL) w h hk (Nat.le_refl _) hx rfl (by rw [hml]; exact t.words_ok h0)
    rw [hml] at this
    exact this
  clear h hk hs hs2 h0 hml
  generalize Sl.ofL (Sl.sealL key t.words) = res at *
  generalize t.words.map Sl.ofL = ws at *
  rw [tk_val] at HC HW ⊢
  obtain ⟨who, dst, epoch, frm, til, ser⟩ := t
  dsimp only at *
  go_enter Tryz.func28, Tryz.ntmps28
  go_wp2_with fail
  refine HK.out.mono ?_
  rintro e w1 ⟨rfl, hb⟩
  have HB1 : Hid (Below w.heap.size w w1) := HB0.out.trans (hb.mono HB0.out.size)
  have HT0 : Hid (w1.heap[w.heap.size]? = some (tkO ⟨who, dst, epoch, frm, til, ser⟩)) := by show _ = _; rw [hb.block _ (by simp)]; exact HR0.out
  obtain ⟨hc0, hc1, hc2, hc3, hc4, hc5⟩ := tk_row HT0.out
  dsimp only at hc0 hc1 hc2 hc3 hc4 hc5
  clear hb HB0 HK HR0
  go_wp2_with fail
  refine (HC.out _ (HE.out.errs.below HB1.out)).mono ?_
  rintro e w2 ⟨rfl, hb⟩
  have HB2 : Hid (Below w.heap.size w w2) := HB1.out.trans (hb.mono HB1.out.size)
  have HT2 : Hid (w2.heap[w.heap.size]? = some (tkO ⟨who, dst, epoch, frm, til, ser⟩)) := by show _ = _; rw [hb.block _ (row_lt HT0.out)]; exact HT0.out
  clear hb HB1 HC hc0 hc1 hc2 hc3 hc4 hc5 HT0
  obtain ⟨hc0, hc1, hc2, hc3, hc4, hc5⟩ := tk_row HT2.out
  dsimp only at hc0 hc1 hc2 hc3 hc4 hc5
  clear HT2
  go_wp2_with fail
  refine (HW.out _ (HE.out.below HB2.out)).mono ?_
  rintro e w3 ⟨b, hx, rfl, hb⟩
  have HB3 : Hid (Below w.heap.size w w3) := HB2.out.trans (hb.mono HB2.out.size)
  have HM3 := hide (HM.out b w3 (HE.out.below HB3.out) hx)
  clear hb hx HB2 HW HE HM hc0 hc1 hc2 hc3 hc4 hc5
  go_wp2_with fail
  refine HM3.out.mono ?_
  rintro e w4 ⟨rfl, hb⟩
  have HB4 : Hid (Below w.heap.size w w4) := HB3.out.trans (hb.mono HB3.out.size)
  clear hb HB3 HM3
  go_wp2
  go_ret2
  exact ⟨rfl, HB4.out⟩

theorem tkMake_any (a : Nat → Addr) (key : Int) (t : Tk) (w : World) (h : Env a w) (hs : t.who.size ≤ maxLen) (hs2 : t.dst.size ≤ maxLen) :
    Calls Tryz.prog 28 #[.int .i64 key, t.val] w fun e w' => e = .returned (.tuple #[.string (tkMakeS key t), errV a (tkMakeE key t)]) ∧ Below w.heap.size w w' := by
  unfold tkMakeS
  by_cases hk : 1 ≤ key ∧ key ≤ 1000000006
  · rw [show tkMakeE key t = t.err by unfold tkMakeE; rw [if_pos hk]]
    by_cases h0 : t.err = 0
    · rw [if_pos h0, h0]
      exact tkMake_ok a key t w h hs hs2 hk h0
    · rw [if_neg h0]
      exact tkMake_err a key t w h hs hs2 hk h0
  · rw [show tkMakeE key t = 10 by unfold tkMakeE; rw [if_neg hk]]
    exact tkMake_key a key t w h hk

set_option maxRecDepth 100000 in
set_option maxHeartbeats 2000000 in
theorem tkOpen_any (a : Nat → Addr) (key : Int) (s : ByteArray) (w : World) (h : Env a w) :
    Calls Tryz.prog 72 #[.int .i64 key, .string s] w fun e w' => e = .returned (.tuple #[(okT (tkOpenE key s.data.toList) (tkOf (Sl.lookW s.data.toList))).val, errV a (tkOpenE key s.data.toList)]) ∧ Below w.heap.size w w' := by
  have HB0 : Hid (Below w.heap.size w (w.alloc (tkO tk0))) := (Below.refl _ w).alloc (Nat.le_refl _) _
  have HR0 : Hid ((w.alloc (tkO tk0)).heap[w.heap.size]? = some (tkO tk0)) := heap_alloc_new _ _
  have HO := hide (open_any a key s _ (h.below HB0.out))
  have HE := hide h
  by_cases h0 : Sl.openE key s.data.toList = 0
  · have e1 : tkOpenE key s.data.toList = readE (Sl.lookW s.data.toList) := by unfold tkOpenE; rw [if_pos h0]
    rw [e1]
    have HRd := hide (fun b w h hx => read_look a s.data.toList b w h (((Sl.openE_iff key _).1 h0).2.1) hx)
    rw [h0] at HO
    generalize okT (readE (Sl.lookW s.data.toList)) (tkOf (Sl.lookW s.data.toList)) = r at *
    generalize errV a (readE (Sl.lookW s.data.toList)) = rv at *
    clear h h0 e1
    generalize Sl.lookW s.data.toList = ws at *
    rw [tk_val] at HRd ⊢
    obtain ⟨who, dst, epoch, frm, til, ser⟩ := r
    dsimp only at *
    go_enter Tryz.func72, Tryz.ntmps72
    go_wp2_with fail
    refine HO.out.mono ?_
    rintro e w1 ⟨hb, hp⟩
    unfold WordsPost at hp
    rw [if_pos rfl] at hp
    obtain ⟨b, hx, rfl⟩ := hp
    have HB1 : Hid (Below w.heap.size w w1) := HB0.out.trans (hb.mono HB0.out.size)
    have HT1 : Hid (w1.heap[w.heap.size]? = some (tkO tk0)) := by show _ = _; rw [hb.block _ (by simp)]; exact HR0.out
    have HRd1 := hide (HRd.out b w1 (HE.out.below HB1.out) hx)
    clear hb hx HB0 HO HR0 HE HRd
    generalize ws.length = n at *
    go_wp2_with fail
    refine HRd1.out.mono ?_
    rintro e w2 ⟨rfl, hb⟩
    have HB2 : Hid (Below w.heap.size w w2) := HB1.out.trans (hb.mono HB1.out.size)
    have HT2 : Hid (w2.heap[w.heap.size]? = some (tkO tk0)) := by show _ = _; rw [hb.block _ (row_lt HT1.out)]; exact HT1.out
    clear hb HB1 HT1 HRd1
    obtain ⟨hd0, hd1, hd2, hd3, hd4, hd5⟩ := tk_row HT2.out
    obtain ⟨hf0, hf1, hf2, hf3, hf4, hf5⟩ := row_frozen6 HT2.out
    dsimp only [tk0] at hd0 hd1 hd2 hd3 hd4 hd5
    go_wp2
    refine tkEnd rfl w.heap.size ⟨who, dst, epoch, frm, til, ser⟩ rfl (row_set6 HT2.out _ _ _ _ _ _) rfl ?_
    exact ⟨rfl, below_set6 HB2.out (Nat.le_refl _) _ _ _ _ _ _⟩
  · have e1 : tkOpenE key s.data.toList = Sl.openE key s.data.toList := by unfold tkOpenE; rw [if_neg h0]
    rw [e1, okT_no _ _ h0, errV_posS a _ h0]
    have HO2 : Hid (Calls Tryz.prog 113 #[.int .i64 key, .string s] (w.alloc (tkO tk0)) fun e w' => e = .returned (.tuple #[.slice none 0 0, eV (a (Sl.openE key s.data.toList - 1))]) ∧ Below (w.alloc (tkO tk0)).heap.size (w.alloc (tkO tk0)) w') := HO.out.mono fun e w' ⟨hb, hp⟩ => by
      unfold WordsPost at hp
      rw [if_neg h0, errV_posS a _ h0] at hp
      exact ⟨hp, hb⟩
    generalize a (Sl.openE key s.data.toList - 1) = ad at *
    clear h h0 e1 HO HE
    go_enter Tryz.func72, Tryz.ntmps72
    go_wp2_with fail
    refine HO2.out.mono ?_
    rintro e w1 ⟨rfl, hb⟩
    have HB1 : Hid (Below w.heap.size w w1) := HB0.out.trans (hb.mono HB0.out.size)
    have HT1 : Hid (w1.heap[w.heap.size]? = some (tkO tk0)) := by show _ = _; rw [hb.block _ (by simp)]; exact HR0.out
    clear hb HB0 HO2 HR0
    obtain ⟨hd0, hd1, hd2, hd3, hd4, hd5⟩ := tk_row HT1.out
    obtain ⟨hf0, hf1, hf2, hf3, hf4, hf5⟩ := row_frozen6 HT1.out
    dsimp only [tk0] at hd0 hd1 hd2 hd3 hd4 hd5
    go_wp2
    refine tkEnd rfl w.heap.size tk0 rfl (row_set6 HT1.out _ _ _ _ _ _) rfl ?_
    exact ⟨rfl, below_set6 HB1.out (Nat.le_refl _) _ _ _ _ _ _⟩

end Go.Proofs.YtgagekcjdapkfadGreatDoor

namespace Go.Proofs.YtgagekcjdapkfadGreatDoor
open Go.RowKit Go.Extern.Stop Go.Stop Go.Extern

/-- A ticket is opened as it was made, and looked at without a key. -/
theorem tk_back (key : Int) (hk : 1 ≤ key ∧ key ≤ 1000000006) (t : Tk) (h : t.err = 0) : tkOpenE key (Sl.sealL key t.words) = 0 ∧ tkLookE (Sl.sealL key t.words) = 0 ∧ tkOf (Sl.lookW (Sl.sealL key t.words)) = t := by
  obtain ⟨h1, _, h3, h4, _⟩ := Sl.seal_look key hk t.words (t.words_ok h)
  obtain ⟨r1, r2⟩ := t.words_read h
  refine ⟨?_, ?_, by rw [h1, r2]⟩
  · unfold tkOpenE; rw [if_pos h4, h1, r1]
  · unfold tkLookE; rw [if_pos h3, h1, r1]
theorem tkOpen_back (a : Nat → Addr) (key : Int) (hk : 1 ≤ key ∧ key ≤ 1000000006) (t : Tk) (h : t.err = 0) (w : World) (hE : Env a w) :
    Calls Tryz.prog 72 #[.int .i64 key, .string (Sl.ofL (Sl.sealL key t.words))] w fun e w' => e = .returned (.tuple #[t.val, .nilIface]) ∧ Below w.heap.size w w' := by
  obtain ⟨h1, _, h3⟩ := tk_back key hk t h
  have := tkOpen_any a key (Sl.ofL (Sl.sealL key t.words)) w hE
  rw [Sl.toL_ofL, h1, h3] at this
  exact this
/-- Too long for a statement? -/
def longT (t : Tk) : Int := if 20 < t.who.size ∨ 20 < t.dst.size then 1 else 0
set_option maxRecDepth 100000 in
set_option maxHeartbeats 1000000 in
theorem longTicket_any (t : Tk) (w : World) (hs : t.who.size ≤ maxLen) (hs2 : t.dst.size ≤ maxLen) :
    Calls Tryz.prog 26 #[t.val] w fun e w' => e = .returned (.int .i64 (longT t)) ∧ Below w.heap.size w w' := by
  have hcase : (20 < t.who.size ∧ longT t = 1) ∨ (¬ 20 < t.who.size ∧ 20 < t.dst.size ∧ longT t = 1) ∨ (¬ 20 < t.who.size ∧ ¬ 20 < t.dst.size ∧ longT t = 0) := by
    unfold longT
    by_cases g1 : 20 < t.who.size
    · exact Or.inl ⟨g1, by rw [if_pos (Or.inl g1)]⟩
    · by_cases g2 : 20 < t.dst.size
      · exact Or.inr (Or.inl ⟨g1, g2, by rw [if_pos (Or.inr g2)]⟩)
      · exact Or.inr (Or.inr ⟨g1, g2, by rw [if_neg (fun h => h.elim g1 g2)]⟩)
  generalize longT t = r at hcase ⊢
  have HB0 : Hid (Below w.heap.size w (w.alloc (tkO t))) := (Below.refl _ w).alloc (Nat.le_refl _) _
  rw [tk_val]
  obtain ⟨who, dst, epoch, frm, til, ser⟩ := t
  unfold maxLen at hs hs2
  dsimp only at *
  rcases hcase with ⟨g, rfl⟩ | ⟨g, g2, rfl⟩ | ⟨g, g2, rfl⟩
  all_goals
    go_enter Tryz.func26, Tryz.ntmps26
    go_wp2
    go_ret
    exact ⟨rfl, HB0.out⟩

/-- The ticket of the closed fact. -/
def tkA : Tk := ⟨⟨#[97, 110, 110]⟩, ⟨#[100, 111, 111, 114]⟩, 1, 0, 9, 1⟩
theorem tkA_err : tkA.err = 0 := by decide
theorem tkA_8 : tkA.good 8 = 0 := by decide
theorem tkA_9 : tkA.good 9 = 12 := by decide

end Go.Proofs.YtgagekcjdapkfadGreatDoor

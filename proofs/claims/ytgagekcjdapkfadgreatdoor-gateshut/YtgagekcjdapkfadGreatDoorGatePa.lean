/-
  A gate, plainly: what its follower holds at any time, the numbers of the errors that Fresh and Ask give; and the laws of the chapter: with no fresh head nothing passes, and what passes is for this service, good, and not below the floors.
  A gate in memory; what package gate's New, Take, Fresh and Follower give, for every gate.
  What package gate's refusal and Ask give, for every gate, text and time.
  The closed fact of the chapter's statements; knocks that came in, whether they are too many or too long.
  The law of GateShut: with no fresh head nothing passes; what passes is for this service, good, and not below the floors; what is below a floor does not pass: it returns true for every input.
-/
import Derived.Test.YtgagekcjdapkfadGreatDoorFollowNews
import Derived.Test.YtgagekcjdapkfadGreatDoorTicketPa
import Derived.RegionTactic
import Derived.Deep.RegionHeld3
import Derived.Deep.CutBlock
import Derived.Deep.DeepCutAuto
namespace Go.Proofs.YtgagekcjdapkfadGreatDoor
open Go.RowKit Go.Extern.Stop Go.Stop Go.Extern Go.Proofs

/-- The number of Fresh's error. -/
def freshC (s : Fo) (old now : Int) : Nat := if 0 ≤ now ∧ now ≤ 1000000 then (if s.head.toList.isEmpty = true then 14 else if s.time < now - old then 14 else 0) else 2
/-- Why a ticket that the key opens does not pass. -/
def refuseC (name : ByteArray) (fl : List Fl) (t : Tk) (now : Int) : Nat := if t.dst.toList = name.toList then (if t.good now = 0 then (if ofL fl t.who.data.toList ≤ t.epoch then 0 else 13) else t.good now) else 4
/-- The number of Ask's error. -/
def askC (name : ByteArray) (key old : Int) (s : Fo) (x : ByteArray) (now : Int) : Nat :=
  if freshC s old now = 0 then (if tkOpenE key x.data.toList = 0 then refuseC name (floorsR s.l) (tkOf (Sl.lookW x.data.toList)) now else tkOpenE key x.data.toList) else freshC s old now
/-- The ticket that Ask gives. -/
def askT (name : ByteArray) (key old : Int) (s : Fo) (x : ByteArray) (now : Int) : Tk := okT (askC name key old s x now) (tkOf (Sl.lookW x.data.toList))

/-- What a gate's follower holds at any time. -/
structure Keeps (s : Fo) : Prop where
  small : ∀ e ∈ s.l, e.fl.who.size ≤ maxLen
  few : s.l.length ≤ 60
  head : (s.head.toList.isEmpty = true ∧ s.time = -1) ∨ (s.head.toList.isEmpty = false ∧ 0 ≤ s.time)
theorem keeps_new (key : Int) : Keeps ⟨key, [], ⟨#[]⟩, -1⟩ := ⟨fun e he => (by cases he), Nat.zero_le _, Or.inl ⟨(by rw [Lib.toList_data]; rfl), rfl⟩⟩
theorem open_time (key : Int) (l : List UInt8) : 0 ≤ (openHR key l).t := by
  unfold openHR hdR
  split
  · split
    · exact Int.natCast_nonneg _
    · exact Int.le_refl _
  · exact Int.le_refl _
theorem keeps_take {s : Fo} {h : ByteArray} {m : List En} (hs : Keeps s) (hm : ∀ e ∈ m, e.fl.who.size ≤ maxLen) (h0 : takeC s h m = 0) : Keeps (takeS s h m) := by
  obtain ⟨h1, h2, h3, h4⟩ := take_zero h0
  refine ⟨fun e he => (List.mem_append.1 he).elim (hs.small e) (hm e), (feed_zero (floors_zero h4).1).1, Or.inr ⟨?_, open_time _ _⟩⟩
  cases he : (takeS s h m).head.toList.isEmpty with
  | false => rfl
  | true =>
    have e2 : h.data.toList = [] := by
      have := List.isEmpty_iff.1 he
      rwa [Lib.toList_data] at this
    rw [e2] at h1
    exact absurd h1 (open_empty _)

theorem fresh_iff {s : Fo} (h : Keeps s) (old now : Int) : freshC s old now = 0 ↔ (0 ≤ now ∧ now ≤ 1000000) ∧ 0 ≤ s.time ∧ now - old ≤ s.time := by
  unfold freshC
  by_cases h1 : 0 ≤ now ∧ now ≤ 1000000
  · rw [if_pos h1]
    rcases h.head with ⟨e, t⟩ | ⟨e, t⟩
    · rw [if_pos e]
      exact ⟨fun h => (by cases h), fun h => (by omega)⟩
    · rw [if_neg (by rw [e]; decide)]
      by_cases h2 : s.time < now - old
      · rw [if_pos h2]
        exact ⟨fun h => (by cases h), fun h => (by omega)⟩
      · rw [if_neg h2]
        exact ⟨fun _ => ⟨h1, t, by omega⟩, fun _ => rfl⟩
  · rw [if_neg h1]
    exact ⟨fun h => (by cases h), fun h => absurd h.1 h1⟩
theorem refuse_zero {name : ByteArray} {fl : List Fl} {t : Tk} {now : Int} : refuseC name fl t now = 0 ↔ t.dst.toList = name.toList ∧ t.good now = 0 ∧ ofL fl t.who.data.toList ≤ t.epoch := by
  unfold refuseC
  by_cases h1 : t.dst.toList = name.toList
  · rw [if_pos h1]
    by_cases h2 : t.good now = 0
    · rw [if_pos h2]
      by_cases h3 : ofL fl t.who.data.toList ≤ t.epoch
      · rw [if_pos h3]; exact ⟨fun _ => ⟨h1, h2, h3⟩, fun _ => rfl⟩
      · rw [if_neg h3]; exact ⟨fun h => (by cases h), fun h => absurd h.2.2 h3⟩
    · rw [if_neg h2]; exact ⟨fun h => absurd h h2, fun h => absurd h.2.1 h2⟩
  · rw [if_neg h1]; exact ⟨fun h => (by cases h), fun h => absurd h.1 h1⟩
/-- What passes is asked with a fresh head, is for this service, good, and not below the floors. -/
theorem ask_zero {name : ByteArray} {key old : Int} {s : Fo} {x : ByteArray} {now : Int} (h : askC name key old s x now = 0) :
    freshC s old now = 0 ∧ (askT name key old s x now).dst.toList = name.toList ∧ (askT name key old s x now).good now = 0 ∧ ofL (floorsR s.l) (askT name key old s x now).who.data.toList ≤ (askT name key old s x now).epoch := by
  have ht : askT name key old s x now = tkOf (Sl.lookW x.data.toList) := by unfold askT; rw [h]; rfl
  rw [ht]
  unfold askC at h
  by_cases h1 : freshC s old now = 0
  · rw [if_pos h1] at h
    by_cases h2 : tkOpenE key x.data.toList = 0
    · rw [if_pos h2] at h
      exact ⟨h1, refuse_zero.1 h⟩
    · rw [if_neg h2] at h; exact absurd h h2
  · rw [if_neg h1] at h; exact absurd h h1
/-- A ticket that the service's key has sealed passes where the head is fresh, the ticket good, and not below the floors. -/
theorem ask_mine {name : ByteArray} {key : Int} (hk : 1 ≤ key ∧ key ≤ 1000000006) {t : Tk} (h : t.err = 0) (hd : t.dst = name) (old : Int) (s : Fo) (now : Int) :
    askC name key old s (Sl.ofL (Sl.sealL key t.words)) now = 0 ↔ freshC s old now = 0 ∧ t.good now = 0 ∧ ofL (floorsR s.l) t.who.data.toList ≤ t.epoch := by
  obtain ⟨h1, _, h3⟩ := tk_back key hk t h
  unfold askC
  rw [Sl.toL_ofL, h1, h3, if_pos rfl]
  by_cases h5 : freshC s old now = 0
  · rw [if_pos h5, refuse_zero, hd]
    exact ⟨fun h => ⟨h5, h.2⟩, fun h => ⟨rfl, h.2⟩⟩
  · rw [if_neg h5]
    exact ⟨fun h => absurd h h5, fun h => absurd h.1 h5⟩
theorem askC_le (name : ByteArray) (key old : Int) (s : Fo) (x : ByteArray) (now : Int) : askC name key old s x now ≤ 16 := by
  have h1 : tkOpenE key x.data.toList ≤ 16 := by
    have := openE_le16 key x.data.toList
    have := readE_le (Sl.lookW x.data.toList)
    unfold tkOpenE
    split <;> omega
  have h2 := (tkOf (Sl.lookW x.data.toList)).good_le now
  unfold askC refuseC freshC
  repeat' split
  all_goals omega
end Go.Proofs.YtgagekcjdapkfadGreatDoor

namespace Go.Proofs.YtgagekcjdapkfadGreatDoor
open Go.RowKit Go.Extern.Stop Go.Stop Go.Extern Go.Proofs

theorem Env.w {a : Nat → Addr} {w : World} (h : Env a w) : EnvW a w := ⟨h.errs.ev _, h.len, h.tab, h.errs.typ⟩
abbrev gaO (name : ByteArray) (key old : Int) (pf : Nat) : Obj := .cells #[.string name, .int .i64 key, .int .i64 old, .pointer (some ⟨pf, 0, none⟩)] 130 (0, 0)
/-- A gate in memory: its block, and its follower. -/
structure GaAt (w : World) (p pf : Nat) (v : Value) (name : ByteArray) (key old : Int) (s : Fo) : Prop where
  row : w.heap[p]? = some (gaO name key old pf)
  fo : FoAt w pf v s
theorem ga_cells {w : World} {p pf : Nat} {name : ByteArray} {key old : Int} (h : w.heap[p]? = some (gaO name key old pf)) :
    w.cell? ⟨p, 0, none⟩ = some (.string name) ∧ w.cell? ⟨p, 1, none⟩ = some (.int .i64 key) ∧ w.cell? ⟨p, 2, none⟩ = some (.int .i64 old) ∧ w.cell? ⟨p, 3, none⟩ = some (.pointer (some ⟨pf, 0, none⟩)) :=
  ⟨cell_of_row w p 0 _ _ _ h, cell_of_row w p 1 _ _ _ h, cell_of_row w p 2 _ _ _ h, cell_of_row w p 3 _ _ _ h⟩
theorem GaAt.below {w w' : World} {p pf : Nat} {v : Value} {name : ByteArray} {key old : Int} {s : Fo} (h : GaAt w p pf v name key old s) (hb : Below w.heap.size w w') : GaAt w' p pf v name key old s :=
  ⟨(hb.block p (row_lt h.row)).trans h.row, h.fo.below hb⟩
theorem GaAt.ne {w : World} {p pf : Nat} {v : Value} {name : ByteArray} {key old : Int} {s : Fo} (h : GaAt w p pf v name key old s) : p ≠ pf := fun e => by
  have h1 := h.row
  rw [e, h.fo.row] at h1
  have := Option.some.inj h1
  injection this with _ h2 _
  exact absurd h2 (by decide)
/-- It lasts where its follower's block is written. -/
theorem GaAt.turn {w w' : World} {p pf : Nat} {v v' : Value} {name : ByteArray} {key old : Int} {s s' : Fo} (h : GaAt w p pf v name key old s) (hg : w.grownBy w' (some pf)) (hf : FoAt w' pf v' s') : GaAt w' p pf v' name key old s' :=
  ⟨(hg.block p (row_lt h.row) (by have := h.ne; simpa using this)).trans h.row, hf⟩

theorem gaIsTime_any (n : Int) (w : World) :
    Calls Tryz.prog 67 #[.int .i64 n] w fun e w' => e = .returned (.bool (decide (0 ≤ n ∧ n ≤ 1000000))) ∧ w' = w := by
  by_cases h1 : 0 ≤ n
  · by_cases h2 : n ≤ 1000000
    · rw [decide_eq_true ⟨h1, h2⟩]
      go_enter Tryz.func67, Tryz.ntmps67
      go_wp2
      go_ret
      exact ⟨rfl, rfl⟩
    · rw [decide_eq_false (fun h => h2 h.2)]
      go_enter Tryz.func67, Tryz.ntmps67
      go_wp2
      go_ret
      exact ⟨by simp_all, rfl⟩
  · rw [decide_eq_false (fun h => h1 h.1)]
    go_enter Tryz.func67, Tryz.ntmps67
    go_wp2
    go_ret
    exact ⟨rfl, rfl⟩

set_option maxRecDepth 100000 in
theorem gaKey_any (a : Nat → Addr) (key : Int) (w : World) (h : Env a w) :
    Calls Tryz.prog 66 #[.int .i64 key] w fun e w' => e = .returned (errV a (if 1 ≤ key ∧ key ≤ 1000000006 then 0 else 10)) ∧ Below w.heap.size w w' := by
  have HOf := hide (of_ev foS rfl rfl a key ⟨#[]⟩ w h.w.errs (by decide))
  rw [key_more] at HOf
  clear h
  generalize errV a (if 1 ≤ key ∧ key ≤ 1000000006 then 0 else 10) = ev at *
  generalize moreN key key _ = m0 at *
  go_enter Tryz.func66, Tryz.ntmps66
  go_wp2_with fail
  refine HOf.out.mono ?_
  rintro e w1 ⟨rfl, hb⟩
  have HB1 := hide hb
  clear hb HOf
  go_wp2
  go_ret
  exact ⟨rfl, HB1.out⟩

/-- What New gives for a name and a key that are right. -/
def NewPost (w : World) (name : ByteArray) (key realm old : Int) (e : Ending) (w' : World) : Prop :=
  Below w.heap.size w w' ∧ ((((1 ≤ realm ∧ realm ≤ 1000000006) ∧ 0 ≤ old ∧ old ≤ 1000000) ∧ ∃ p pf, w.heap.size ≤ p ∧ w.heap.size ≤ pf ∧ e = .returned (.tuple #[.pointer (some ⟨p, 0, none⟩), .nilIface]) ∧ GaAt w' p pf (.slice none 0 0) name key old ⟨realm, [], ⟨#[]⟩, -1⟩) ∨
    (¬ ((1 ≤ realm ∧ realm ≤ 1000000006) ∧ 0 ≤ old ∧ old ≤ 1000000) ∧ ∃ p, e = .returned (.tuple #[.pointer none, eV p])))
set_option maxRecDepth 100000 in
set_option maxHeartbeats 2000000 in
theorem gaNew_any (a : Nat → Addr) (name : ByteArray) (key realm old : Int) (w : World) (h : Env a w) (hs : name.size ≤ maxLen) (hn : Sl.nameL name.data.toList = true) (hk : 1 ≤ key ∧ key ≤ 1000000006) :
    Calls Tryz.prog 27 #[.string name, .int .i64 key, .int .i64 realm, .int .i64 old] w fun e w' => NewPost w name key realm old e w' := by
  have HN := hide (fun w => name_any name w hs)
  rw [hn] at HN
  have HK := hide (fun w h => gaKey_any a key w h)
  rw [if_pos hk, errV_zero] at HK
  have HF := hide (fun w h => foNew_any a realm w h)
  have HT := hide (fun w => gaIsTime_any old w)
  have HE := hide h
  clear h hs hn hk
  go_enter Tryz.func27, Tryz.ntmps27
  go_wp2_with fail
  refine (HN.out _).mono ?_
  rintro e w1 ⟨rfl, hb⟩
  have HB1 := hide hb
  clear hb HN
  go_wp2_with fail
  refine (HK.out _ (HE.out.below HB1.out)).mono ?_
  rintro e w2 ⟨rfl, hb⟩
  have HB2 : Hid (Below w.heap.size w w2) := HB1.out.trans (hb.mono HB1.out.size)
  clear hb HK HB1
  go_wp2_with fail
  refine (HF.out _ (HE.out.below HB2.out).w).mono ?_
  rintro e w3 ⟨hb, ⟨hrl, pf, hpf, rfl, hF⟩ | ⟨hrl, rfl⟩⟩
  all_goals have HRl := hide hrl
  all_goals clear hrl
  · have HB3 : Hid (Below w.heap.size w w3) := HB2.out.trans (hb.mono HB2.out.size)
    have HFo := hide hF
    have HPf : Hid (w.heap.size ≤ pf) := Nat.le_trans HB2.out.size hpf
    clear hb hF hpf HF HB2
    by_cases ho : 0 ≤ old ∧ old ≤ 1000000
    · rw [decide_eq_true ho] at HT
      have HO := hide ho
      have HB4 : Hid (Below w3.heap.size w3 (w3.alloc (gaO name key old pf))) := (Below.refl _ _).alloc (Nat.le_refl _) _
      have HR4 : Hid ((w3.alloc (gaO name key old pf)).heap[w3.heap.size]? = some (gaO name key old pf)) := heap_alloc_new _ _
      clear ho
      go_wp2_with fail
      refine (HT.out _).mono ?_
      rintro e w4 ⟨rfl, hw⟩
      subst hw
      go_wp2
      go_ret2
      exact ⟨HB3.out.trans (HB4.out.mono HB3.out.size), Or.inl ⟨⟨HRl.out, HO.out⟩, _, _, HB3.out.size, HPf.out, rfl, HR4.out, HFo.out.below HB4.out⟩⟩
    · rw [decide_eq_false ho] at HT
      have hvv : ∀ nq, (w3.drewN nq).cell? ⟨0, 0, none⟩ = some (eV (a 1)) := fun nq => (HE.out.below (below_drewN HB3.out nq)).errs.var 1 (by decide)
      have HNo := hide ho
      clear ho
      generalize a 1 = ad at *
      go_wp2_with fail
      refine (HT.out _).mono ?_
      rintro e w4 ⟨rfl, hw⟩
      subst hw
      go_wp2
      go_quiet (fail)
      go_wp2
      go_ret2
      exact ⟨below_drewN HB3.out _, Or.inr ⟨fun h => HNo.out h.2, _, rfl⟩⟩
  · have HB3 : Hid (Below w.heap.size w w3) := HB2.out.trans (hb.mono HB2.out.size)
    generalize a 9 = ad at *
    clear hb HF HB2
    go_wp2
    go_ret2
    exact ⟨HB3.out, Or.inr ⟨fun h => HRl.out h.1, _, rfl⟩⟩

set_option maxRecDepth 100000 in
theorem gaTake_any (a : Nat → Addr) (w : World) (p pf : Nat) (v : Value) (name : ByteArray) (key old : Int) (s : Fo) (h : GaAt w p pf v name key old s) (hE : Env a w) (hk : Keeps s) (x : ByteArray) (vl : Value) (m : List En) (hv : EnAt w vl m) (hs2 : ∀ e ∈ m, e.fl.who.size ≤ maxLen) (hl : m.length ≤ 100000) :
    Calls Tryz.prog 29 #[.pointer (some ⟨p, 0, none⟩), .string x, vl] w fun e w' => FoPost a w pf (takeC s x m) (takeS s x m) e w' := by
  have HT := hide (foTake_any a pf v s x vl m w hE.w h.fo hv hk.small hs2 (by have := hk.few; omega))
  obtain ⟨c0, c1, c2, c3⟩ := ga_cells h.row
  obtain ⟨ad, cap, rfl, _⟩ := hv.form
  clear h hE hk hv hs2
  generalize takeS s x m = s' at *
  generalize takeC s x m = c at *
  generalize m.length = n at *
  go_enter Tryz.func29, Tryz.ntmps29
  go_wp2_with fail
  refine HT.out.mono ?_
  rintro e w1 (⟨h1, rfl, hb⟩ | ⟨h1, rfl, hg, hf⟩)
  · have HP : Hid (∀ ev, ev = errV a c → FoPost a w pf c s' (.returned ev) w1) := fun ev h => Or.inl ⟨h1, by rw [h], hb⟩
    generalize errV a c = ev at *
    clear hb h1 HT c0 c1 c2 c3
    go_wp2
    go_ret
    exact HP.out _ rfl
  · have HP : Hid (FoPost a w pf c s' (.returned .nilIface) w1) := Or.inr ⟨h1, rfl, hg, hf⟩
    clear hg hf h1 HT c0 c1 c2 c3
    go_wp2
    go_ret
    exact HP.out

set_option maxRecDepth 100000 in
theorem gaFollower_any (w : World) (p pf : Nat) (v : Value) (name : ByteArray) (key old : Int) (s : Fo) (h : GaAt w p pf v name key old s) (hk : Keeps s) :
    Calls Tryz.prog 30 #[.pointer (some ⟨p, 0, none⟩)] w fun e w' => ∃ q v', e = .returned (.pointer (some ⟨q, 0, none⟩)) ∧ FoAt w' q v' s ∧ Below w.heap.size w w' := by
  have HC := hide (foCopy_any w pf v s h.fo (by have := hk.few; omega))
  obtain ⟨c0, c1, c2, c3⟩ := ga_cells h.row
  clear h hk
  go_enter Tryz.func30, Tryz.ntmps30
  go_wp2_with fail
  refine HC.out.mono ?_
  rintro e w1 ⟨q, v', _, rfl, hf, hb⟩
  have HF := hide hf
  have HB := hide hb
  clear hf hb HC c0 c1 c2 c3
  go_wp2
  go_ret
  exact ⟨_, _, rfl, HF.out, HB.out⟩

set_option maxRecDepth 100000 in
set_option maxHeartbeats 2000000 in
theorem gaFresh_any (a : Nat → Addr) (w : World) (p pf : Nat) (v : Value) (name : ByteArray) (key old : Int) (s : Fo) (h : GaAt w p pf v name key old s) (hE : Env a w) (ho : 0 ≤ old ∧ old ≤ 1000000) (now : Int) :
    Calls Tryz.prog 32 #[.pointer (some ⟨p, 0, none⟩), .int .i64 now] w fun e w' => e = .returned (errV a (freshC s old now)) ∧ Below w.heap.size w w' := by
  have HT := hide (gaIsTime_any now w)
  have HH := hide (fun w h => foHead_any w pf v s h)
  have HTm := hide (fun w h => foTime_any w pf v s h)
  have HF := hide h.fo
  have HE := hide hE
  obtain ⟨c0, c1, c2, c3⟩ := ga_cells h.row
  clear h hE
  unfold freshC
  by_cases hn : 0 ≤ now ∧ now ≤ 1000000
  · rw [decide_eq_true hn] at HT
    rw [if_pos hn]
    have hwr : IntKind.i64.wrap (now - old) = now - old := by rw [IntKind.wrap_i64]; omega
    cases he : s.head.toList.isEmpty with
    | true =>
      rw [if_pos rfl, errV_pos a (show (14 : Nat) ≠ 0 by decide)]
      have hvv : ∀ nq, (w.drewN nq).cell? ⟨4, 0, none⟩ = some (eV (a 13)) := fun nq => (HE.out.below (below_drewN (Below.refl _ _) nq)).errs.var 13 (by decide)
      generalize s.head = hd at *
      generalize s.time = tm at *
      clear hn
      go_enter Tryz.func32, Tryz.ntmps32
      go_wp2_with fail
      refine HT.out.mono ?_
      rintro e w1 ⟨rfl, hw⟩
      subst hw
      go_wp2
      go_quiet (first | (go_at_call 58; exact Calls.quiet_of_same (HH.out _ (HF.out.below (below_drewN (Below.refl _ _) _)))) | (go_at_call 33; exact Calls.quiet_of_same (HTm.out _ (HF.out.below (below_drewN (Below.refl _ _) _)))))
      go_wp2
      go_ret
      exact ⟨rfl, below_drewN (Below.refl _ _) _⟩
    | false =>
      rw [if_neg (by decide)]
      by_cases hl : s.time < now - old
      · rw [if_pos hl, errV_pos a (show (14 : Nat) ≠ 0 by decide)]
        have hvv : ∀ nq, (w.drewN nq).cell? ⟨4, 0, none⟩ = some (eV (a 13)) := fun nq => (HE.out.below (below_drewN (Below.refl _ _) nq)).errs.var 13 (by decide)
        generalize s.head = hd at *
        generalize s.time = tm at *
        clear hn
        go_enter Tryz.func32, Tryz.ntmps32
        go_wp2_with fail
        refine HT.out.mono ?_
        rintro e w1 ⟨rfl, hw⟩
        subst hw
        go_wp2
        go_quiet (first | (go_at_call 58; exact Calls.quiet_of_same (HH.out _ (HF.out.below (below_drewN (Below.refl _ _) _)))) | (go_at_call 33; exact Calls.quiet_of_same (HTm.out _ (HF.out.below (below_drewN (Below.refl _ _) _)))))
        go_wp2
        go_ret
        exact ⟨rfl, below_drewN (Below.refl _ _) _⟩
      · rw [if_neg hl, errV_zero]
        generalize s.head = hd at *
        generalize s.time = tm at *
        clear hn
        go_enter Tryz.func32, Tryz.ntmps32
        go_wp2_with fail
        refine HT.out.mono ?_
        rintro e w1 ⟨rfl, hw⟩
        subst hw
        go_wp2
        go_quiet (first | (go_at_call 58; exact Calls.quiet_of_same (HH.out _ (HF.out.below (below_drewN (Below.refl _ _) _)))) | (go_at_call 33; exact Calls.quiet_of_same (HTm.out _ (HF.out.below (below_drewN (Below.refl _ _) _)))))
        go_wp2
        go_ret
        exact ⟨rfl, below_drewN (Below.refl _ _) _⟩
  · rw [decide_eq_false hn] at HT
    rw [if_neg hn, errV_pos a (show (2 : Nat) ≠ 0 by decide)]
    have hvv : w.cell? ⟨0, 0, none⟩ = some (eV (a 1)) := HE.out.errs.var 1 (by decide)
    clear hn
    go_enter Tryz.func32, Tryz.ntmps32
    go_wp2_with fail
    refine HT.out.mono ?_
    rintro e w1 ⟨rfl, hw⟩
    subst hw
    go_wp2
    go_ret
    exact ⟨rfl, Below.refl _ _⟩
end Go.Proofs.YtgagekcjdapkfadGreatDoor

namespace Go.Proofs.YtgagekcjdapkfadGreatDoor
open Go.RowKit Go.Extern.Stop Go.Stop Go.Extern Go.Proofs

set_option maxRecDepth 100000 in
set_option maxHeartbeats 4000000 in
theorem gaRefusal_any (a : Nat → Addr) (w : World) (p pf : Nat) (v : Value) (name : ByteArray) (key old : Int) (s : Fo) (h : GaAt w p pf v name key old s) (hE : Env a w) (hk : Keeps s) (t : Tk) (hs : t.who.size ≤ maxLen) (hs2 : t.dst.size ≤ maxLen) (now : Int) :
    Calls Tryz.prog 73 #[.pointer (some ⟨p, 0, none⟩), t.val, .int .i64 now] w fun e w' => e = .returned (errV a (refuseC name (floorsR s.l) t now)) ∧ Below w.heap.size w w' := by
  have HB1 : Hid (Below w.heap.size w (w.alloc (tkO t))) := (Below.refl _ w).alloc (Nat.le_refl _) _
  have HR1 : Hid ((w.alloc (tkO t)).heap[w.heap.size]? = some (tkO t)) := heap_alloc_new _ _
  have HA1 := hide (h.below HB1.out)
  have HE := hide hE
  have HG := hide (fun w h => good_any a t now w h hs hs2)
  have HFl := hide (fun w hE h => foFloors_any a w pf v s hE h hk.small (by have := hk.few; omega))
  have HPa := hide (fun v w hv => passes_any v (floorsR s.l) t.who t.epoch w hv (floors_right s.l).1.rising (by have := (floors_right s.l).2; omega))
  have HRf : Hid (refuseC name (floorsR s.l) t now = if t.dst.toList = name.toList then (if t.good now = 0 then (if ofL (floorsR s.l) t.who.data.toList ≤ t.epoch then 0 else 13) else t.good now) else 4) := rfl
  clear h hE hk hs hs2
  rw [tk_val] at HG ⊢
  generalize refuseC name (floorsR s.l) t now = rc at *
  generalize ofL (floorsR s.l) t.who.data.toList = fo at *
  generalize t.good now = gd at *
  generalize floorsR s.l = fl at *
  obtain ⟨who, dst, ep, frm, til, ser⟩ := t
  dsimp only at HG HPa HRf ⊢
  go_enter Tryz.func73, Tryz.ntmps73
  go_upto_region 1 with fail
  obtain ⟨W1, hW1⟩ : ∃ W, w.alloc (.cells #[.string who, .string dst, .int .i64 ep, .int .i64 frm, .int .i64 til, .int .i64 ser] 64) = W := ⟨_, rfl⟩
  rw [hW1] at HB1 HR1 HA1 ⊢
  have HGt : Hid (w.heap.size < W1.heap.size) := row_lt HR1.out
  clear hW1
  obtain ⟨t0, t1, t2, t3, t4, t5⟩ := tk_row HR1.out
  dsimp only at t0 t1 t2 t3 t4 t5
  obtain ⟨c0, c1, c2, c3⟩ := ga_cells HA1.out.row
  by_cases hd : dst.toList = name.toList
  · rw [if_pos hd] at HRf
    have hdz : (dst.toList == name.toList) = true := by rw [beq_iff_eq]; exact hd
    clear hd
    go_quiet (fail)
    go_upto_region 3 with fail
    have HB2 : Hid (Below w.heap.size w (W1.drewN nq)) := below_drewN HB1.out nq
    have HR2 : Hid ((W1.drewN nq).heap[w.heap.size]? = some (tkO ⟨who, dst, ep, frm, til, ser⟩)) := HR1.out
    have HA2 : Hid (GaAt (W1.drewN nq) p pf v name key old s) := HA1.out.below (below_drewN (Below.refl _ _) _)
    have HGt2 : Hid (w.heap.size < (W1.drewN nq).heap.size) := HGt.out
    obtain ⟨W2, hW2⟩ : ∃ W, W1.drewN nq = W := ⟨_, rfl⟩
    rw [hW2] at HB2 HR2 HA2 HGt2 ⊢
    clear hW2 HB1 HR1 HA1 HGt t0 t1 t2 t3 t4 t5 c0 c1 c2 c3
    obtain ⟨t0, t1, t2, t3, t4, t5⟩ := tk_row HR2.out
    dsimp only at t0 t1 t2 t3 t4 t5
    go_wp2_with fail
    refine (HG.out _ (HE.out.errs.below HB2.out)).mono ?_
    rintro e w3 ⟨rfl, hb⟩
    have HB3 : Hid (Below w.heap.size w w3) := HB2.out.trans (hb.mono (Nat.le_of_lt HGt2.out))
    have HR3 : Hid (w3.heap[w.heap.size]? = some (tkO ⟨who, dst, ep, frm, til, ser⟩)) := (hb.block _ HGt2.out).trans HR2.out
    have HA3 : Hid (GaAt w3 p pf v name key old s) := HA2.out.below hb
    have HGt3 : Hid (w.heap.size < w3.heap.size) := Nat.lt_of_lt_of_le HGt2.out hb.size
    clear hb HB2 HR2 HA2 HGt2 t0 t1 t2 t3 t4 t5 HG
    by_cases hg : gd = 0
    · rw [if_pos hg] at HRf
      rw [hg, errV_zero]
      obtain ⟨t0, t1, t2, t3, t4, t5⟩ := tk_row HR3.out
      dsimp only at t0 t1 t2 t3 t4 t5
      obtain ⟨c0, c1, c2, c3⟩ := ga_cells HA3.out.row
      clear c0 c1 c2 t1 t3 t4 t5 hg
      have HW3 : Hid (∀ W, Below w3.heap.size w3 W → Below w.heap.size w W ∧ W.cell? ⟨w.heap.size, 0, none⟩ = some (.string who) ∧ W.cell? ⟨w.heap.size, 2, none⟩ = some (.int .i64 ep) ∧ FoAt W pf v s ∧ W.cell? ⟨p, 3, none⟩ = some (.pointer (some ⟨pf, 0, none⟩))) := fun W hb => by
        obtain ⟨y0, _, y2, _⟩ := tk_row ((hb.block _ HGt3.out).trans HR3.out)
        exact ⟨HB3.out.trans (hb.mono (Nat.le_of_lt HGt3.out)), y0, y2, HA3.out.fo.below hb, (ga_cells (HA3.out.below hb).row).2.2.2⟩
      have HD3 : Hid (Below w3.heap.size w3 w3.drew) := (Below.refl _ _).drew
      have HTr : Hid (∀ W W', Below w3.heap.size w3 W → Below W.heap.size W W' → Below w3.heap.size w3 W') := fun W W' h1 h2 => h1.trans (h2.mono h1.size)
      clear HR3 HA3 HB3
      by_cases hf : fo ≤ ep
      · rw [if_pos hf] at HRf
        rw [decide_eq_true hf] at HPa
        have hz := HRf.out
        subst hz
        clear hf
        go_upto_region 6 with fail
        go_region_held3 (fun w' => w'.cell? ⟨w.heap.size, 0, none⟩ = some (.string who) ∧ w'.cell? ⟨w.heap.size, 2, none⟩ = some (.int .i64 ep) ∧ w'.cell? ⟨p, 3, none⟩ = some (.pointer (some ⟨pf, 0, none⟩))) (first | go_keep | assumption)
          (first
            | (go_at_call 36; refine (HFl.out _ (HE.out.below (HW3.out _ HD3.out).1).w.f.errs (HW3.out _ HD3.out).2.2.2.1).mono ?_; rintro e w4 ⟨v4, rfl, hown, hb⟩; have HD4 := hide (HTr.out _ _ HD3.out hb); have HF4 := hide hown.flAt; obtain ⟨ad4, cap4, rfl, _⟩ := hown.flAt.form; have e0 := (HW3.out _ HD4.out).2.1; have e2 := (HW3.out _ HD4.out).2.2.1; have e3 := (HW3.out _ HD4.out).2.2.2.2; clear hb hown HFl)
            | (go_at_call 35; refine (HPa.out _ _ HF4.out).mono ?_; rintro e w5 ⟨rfl, hb⟩; have HD5 := hide (HTr.out _ _ HD4.out hb); have HB5 := hide (HW3.out _ HD5.out).1; have g0 := (HW3.out _ HD5.out).2.1; have g2 := (HW3.out _ HD5.out).2.2.1; have g3 := (HW3.out _ HD5.out).2.2.2.2; clear hb HPa))
        go_wp2
        go_ret
        exact ⟨rfl, HB5.out⟩
      · rw [if_neg hf] at HRf
        rw [decide_eq_false hf] at HPa
        have hz := HRf.out
        subst hz
        clear hf
        go_upto_region 6 with fail
        go_region_held3 (fun w' => w'.cell? ⟨w.heap.size, 0, none⟩ = some (.string who) ∧ w'.cell? ⟨w.heap.size, 2, none⟩ = some (.int .i64 ep) ∧ w'.cell? ⟨p, 3, none⟩ = some (.pointer (some ⟨pf, 0, none⟩))) (first | go_keep | assumption)
          (first
            | (go_at_call 36; refine (HFl.out _ (HE.out.below (HW3.out _ HD3.out).1).w.f.errs (HW3.out _ HD3.out).2.2.2.1).mono ?_; rintro e w4 ⟨v4, rfl, hown, hb⟩; have HD4 := hide (HTr.out _ _ HD3.out hb); have HF4 := hide hown.flAt; obtain ⟨ad4, cap4, rfl, _⟩ := hown.flAt.form; have e0 := (HW3.out _ HD4.out).2.1; have e2 := (HW3.out _ HD4.out).2.2.1; have e3 := (HW3.out _ HD4.out).2.2.2.2; clear hb hown HFl)
            | (go_at_call 35; refine (HPa.out _ _ HF4.out).mono ?_; rintro e w5 ⟨rfl, hb⟩; have HD5 := hide (HTr.out _ _ HD4.out hb); have HB5 := hide (HW3.out _ HD5.out).1; have g0 := (HW3.out _ HD5.out).2.1; have g2 := (HW3.out _ HD5.out).2.2.1; have g3 := (HW3.out _ HD5.out).2.2.2.2; clear hb HPa))
        have hvv : w5.cell? ⟨13, 0, none⟩ = some (eV (a 12)) := (HE.out.below HB5.out).errs.var 12 (by decide)
        go_wp2
        go_ret
        exact ⟨rfl, HB5.out⟩
    · rw [if_neg hg] at HRf
      have hz := HRf.out
      subst hz
      have HEq := hide (errV_posS a _ hg)
      rw [HEq.out]
      generalize a (rc - 1) = ad at *
      clear hg
      go_wp2
      go_ret
      exact ⟨by rw [HEq.out]; rfl, HB3.out⟩
  · rw [if_neg hd] at HRf
    have hz := HRf.out
    subst hz
    have hdz : (dst.toList == name.toList) = false := by rw [beq_eq_false_iff_ne]; exact hd
    have hvv : ∀ nq, (W1.drewN nq).cell? ⟨3, 0, none⟩ = some (eV (a 3)) := fun nq => (HE.out.below (below_drewN HB1.out nq)).errs.var 3 (by decide)
    clear hd
    go_quiet (fail)
    go_wp2
    go_ret
    exact ⟨rfl, below_drewN HB1.out _⟩

theorem name_small {s : ByteArray} (h : Sl.nameL s.data.toList = true) : s.size ≤ maxLen := by
  unfold Sl.nameL Sl.madeL at h
  rw [Bool.and_eq_true, decide_eq_true_eq] at h
  have h1 := h.1
  have : s.data.toList.length = s.size := rfl
  unfold maxLen
  omega
theorem read_small {ws : List (List UInt8)} (h : readE ws = 0) : (tkOf ws).who.size ≤ maxLen ∧ (tkOf ws).dst.size ≤ maxLen := by
  unfold readE at h
  split at h
  · have := ((tkOf ws).err_iff.1 h).1
    unfold Tk.names at this
    rw [Bool.and_eq_true] at this
    exact ⟨name_small this.1, name_small this.2⟩
  · cases h
theorem open_small {key : Int} {l : List UInt8} (h : tkOpenE key l = 0) : (tkOf (Sl.lookW l)).who.size ≤ maxLen ∧ (tkOf (Sl.lookW l)).dst.size ≤ maxLen := by
  unfold tkOpenE at h
  split at h
  · exact read_small h
  · exact absurd h (by assumption)
theorem ask_cases (name : ByteArray) (key old : Int) (s : Fo) (x : ByteArray) (now : Int) :
    (freshC s old now ≠ 0 ∧ askT name key old s x now = tk0 ∧ askC name key old s x now = freshC s old now) ∨
    (freshC s old now = 0 ∧ tkOpenE key x.data.toList ≠ 0 ∧ askT name key old s x now = tk0 ∧ askC name key old s x now = tkOpenE key x.data.toList) ∨
    (freshC s old now = 0 ∧ tkOpenE key x.data.toList = 0 ∧ askC name key old s x now = refuseC name (floorsR s.l) (tkOf (Sl.lookW x.data.toList)) now ∧ askT name key old s x now = okT (refuseC name (floorsR s.l) (tkOf (Sl.lookW x.data.toList)) now) (tkOf (Sl.lookW x.data.toList))) := by
  unfold askT askC
  by_cases h1 : freshC s old now = 0
  · rw [if_pos h1]
    by_cases h2 : tkOpenE key x.data.toList = 0
    · rw [if_pos h2]; exact Or.inr (Or.inr ⟨h1, h2, rfl, rfl⟩)
    · rw [if_neg h2]; exact Or.inr (Or.inl ⟨h1, h2, okT_no _ _ h2, rfl⟩)
  · rw [if_neg h1]; exact Or.inl ⟨h1, okT_no _ _ h1, rfl⟩

set_option maxRecDepth 100000 in
set_option maxHeartbeats 4000000 in
theorem gaAsk_any (a : Nat → Addr) (w : World) (p pf : Nat) (v : Value) (name : ByteArray) (key old : Int) (s : Fo) (h : GaAt w p pf v name key old s) (hE : Env a w) (hk : Keeps s) (ho : 0 ≤ old ∧ old ≤ 1000000) (x : ByteArray) (now : Int) :
    Calls Tryz.prog 31 #[.pointer (some ⟨p, 0, none⟩), .string x, .int .i64 now] w fun e w' => e = .returned (.tuple #[(askT name key old s x now).val, errV a (askC name key old s x now)]) ∧ Below w.heap.size w w' := by
  have HB0 : Hid (Below w.heap.size w (w.alloc (tkO tk0))) := (Below.refl _ w).alloc (Nat.le_refl _) _
  have HR0 : Hid ((w.alloc (tkO tk0)).heap[w.heap.size]? = some (tkO tk0)) := heap_alloc_new _ _
  have HA0 := hide (h.below HB0.out)
  have HE := hide hE
  have HF := hide (fun w h hE => gaFresh_any a w p pf v name key old s h hE ho now)
  have HO := hide (fun w h => tkOpen_any a key x w h)
  have HRf := hide (fun w h hE t h1 h2 => gaRefusal_any a w p pf v name key old s h hE hk t h1 h2 now)
  have HSm := hide (fun h => @open_small key x.data.toList h)
  have hcase := ask_cases name key old s x now
  clear h hE hk ho
  generalize askT name key old s x now = at' at hcase ⊢
  generalize askC name key old s x now = ac at hcase ⊢
  generalize freshC s old now = fc at *
  generalize tkOpenE key x.data.toList = oc at *
  generalize tkOf (Sl.lookW x.data.toList) = T at *
  rcases hcase with ⟨h1, rfl, rfl⟩ | ⟨h1, h2, rfl, rfl⟩ | ⟨h1, h2, rfl, rfl⟩
  · rw [errV_posS a _ h1] at HF ⊢
    generalize a (ac - 1) = ad at *
    clear HO HRf HSm h1
    go_enter Tryz.func31, Tryz.ntmps31
    go_wp2_with fail
    refine (HF.out _ HA0.out (HE.out.below HB0.out)).mono ?_
    rintro e w1 ⟨rfl, hb⟩
    have HB1 : Hid (Below w.heap.size w w1) := HB0.out.trans (hb.mono HB0.out.size)
    have HT1 : Hid (w1.heap[w.heap.size]? = some (tkO tk0)) := by show _ = _; rw [hb.block _ (by simp)]; exact HR0.out
    clear hb HB0 HR0 HF
    obtain ⟨hd0, hd1, hd2, hd3, hd4, hd5⟩ := tk_row HT1.out
    obtain ⟨hf0, hf1, hf2, hf3, hf4, hf5⟩ := row_frozen6 HT1.out
    dsimp only [tk0] at hd0 hd1 hd2 hd3 hd4 hd5
    go_wp2
    refine tkEnd rfl w.heap.size tk0 rfl (row_set6 HT1.out _ _ _ _ _ _) rfl ?_
    exact ⟨rfl, below_set6 HB1.out (Nat.le_refl _) _ _ _ _ _ _⟩
  · rw [h1, errV_zero] at HF
    rw [okT_no _ _ h2, errV_posS a _ h2] at HO
    rw [errV_posS a _ h2]
    generalize a (ac - 1) = ad at *
    clear HRf HSm h1 h2
    rw [tk_val] at HO ⊢
    dsimp only [tk0] at HO ⊢
    go_enter Tryz.func31, Tryz.ntmps31
    go_wp2_with fail
    refine (HF.out _ HA0.out (HE.out.below HB0.out)).mono ?_
    rintro e w1 ⟨rfl, hb⟩
    have HB1 : Hid (Below w.heap.size w w1) := HB0.out.trans (hb.mono HB0.out.size)
    have HT1 : Hid (w1.heap[w.heap.size]? = some (tkO tk0)) := by show _ = _; rw [hb.block _ (by simp)]; exact HR0.out
    have HA1 := hide (HA0.out.below hb)
    obtain ⟨c0, c1, c2, c3⟩ := ga_cells HA1.out.row
    clear hb HB0 HR0 HF HA0 c0 c2 c3
    go_wp2_with fail
    refine (HO.out _ (HE.out.below HB1.out)).mono ?_
    rintro e w2 ⟨rfl, hb⟩
    have HB2 : Hid (Below w.heap.size w (w2.alloc (tkO tk0))) := (HB1.out.trans (hb.mono HB1.out.size)).alloc (HB1.out.trans (hb.mono HB1.out.size)).size _
    have HT2 : Hid ((w2.alloc (tkO tk0)).heap[w.heap.size]? = some (tkO tk0)) := (heap_alloc_old _ _ (Nat.lt_of_lt_of_le (row_lt HT1.out) hb.size)).trans ((hb.block _ (row_lt HT1.out)).trans HT1.out)
    clear hb HB1 HT1 HO HA1 c1
    obtain ⟨hd0, hd1, hd2, hd3, hd4, hd5⟩ := tk_row HT2.out
    obtain ⟨hf0, hf1, hf2, hf3, hf4, hf5⟩ := row_frozen6 HT2.out
    dsimp only [tk0, tkO] at hd0 hd1 hd2 hd3 hd4 hd5 hf0 hf1 hf2 hf3 hf4 hf5
    go_wp2
    refine tkEnd rfl w.heap.size tk0 rfl (row_set6 HT2.out _ _ _ _ _ _) rfl ?_
    exact ⟨rfl, below_set6 HB2.out (Nat.le_refl _) _ _ _ _ _ _⟩
  · rw [h1, errV_zero] at HF
    rw [h2, okT_yes, errV_zero] at HO
    obtain ⟨z1, z2⟩ := HSm.out h2
    have HRf2 := hide (fun w h hE => HRf.out w h hE T z1 z2)
    clear h1 h2 z1 z2 HRf HSm
    by_cases h3 : refuseC name (floorsR s.l) T now = 0
    · rw [h3, errV_zero] at HRf2 ⊢
      rw [okT_yes]
      rw [tk_val] at HRf2 HO ⊢
      obtain ⟨who, dst, ep, frm, til, ser⟩ := T
      dsimp only at HRf2 HO ⊢
      clear h3
      go_enter Tryz.func31, Tryz.ntmps31
      go_wp2_with fail
      refine (HF.out _ HA0.out (HE.out.below HB0.out)).mono ?_
      rintro e w1 ⟨rfl, hb⟩
      have HB1 : Hid (Below w.heap.size w w1) := HB0.out.trans (hb.mono HB0.out.size)
      have HT1 : Hid (w1.heap[w.heap.size]? = some (tkO tk0)) := by show _ = _; rw [hb.block _ (by simp)]; exact HR0.out
      have HA1 := hide (HA0.out.below hb)
      obtain ⟨c0, c1, c2, c3⟩ := ga_cells HA1.out.row
      clear hb HB0 HR0 HF HA0 c0 c2 c3
      go_wp2_with fail
      refine (HO.out _ (HE.out.below HB1.out)).mono ?_
      rintro e w2 ⟨rfl, hb⟩
      have HBx : Hid (Below w2.heap.size w2 (w2.alloc (tkO ⟨who, dst, ep, frm, til, ser⟩))) := (Below.refl _ _).alloc (Nat.le_refl _) _
      have HB2 : Hid (Below w.heap.size w (w2.alloc (tkO ⟨who, dst, ep, frm, til, ser⟩))) := (HB1.out.trans (hb.mono HB1.out.size)).alloc (HB1.out.trans (hb.mono HB1.out.size)).size _
      have HT2 : Hid ((w2.alloc (tkO ⟨who, dst, ep, frm, til, ser⟩)).heap[w.heap.size]? = some (tkO tk0)) := (heap_alloc_old _ _ (Nat.lt_of_lt_of_le (row_lt HT1.out) hb.size)).trans ((hb.block _ (row_lt HT1.out)).trans HT1.out)
      have HX2 : Hid ((w2.alloc (tkO ⟨who, dst, ep, frm, til, ser⟩)).heap[w2.heap.size]? = some (tkO ⟨who, dst, ep, frm, til, ser⟩)) := heap_alloc_new _ _
      have HA2 := hide ((HA1.out.below hb).below HBx.out)
      obtain ⟨y0, y1, y2, y3, y4, y5⟩ := tk_row HX2.out
      dsimp only at y0 y1 y2 y3 y4 y5
      clear hb HB1 HT1 HO HA1 c1 HBx
      go_wp2_with fail
      refine (HRf2.out _ HA2.out (HE.out.below HB2.out)).mono ?_
      rintro e w3 ⟨rfl, hb⟩
      have HB3 : Hid (Below w.heap.size w w3) := HB2.out.trans (hb.mono HB2.out.size)
      have HT3 : Hid (w3.heap[w.heap.size]? = some (tkO tk0)) := (hb.block _ (row_lt HT2.out)).trans HT2.out
      have HX3 : Hid (w3.heap[w2.heap.size]? = some (tkO ⟨who, dst, ep, frm, til, ser⟩)) := (hb.block _ (row_lt HX2.out)).trans HX2.out
      clear hb HB2 HT2 HX2 HA2 y0 y1 y2 y3 y4 y5 HRf2
      obtain ⟨x0, x1, x2, x3, x4, x5⟩ := tk_row HX3.out
      obtain ⟨hd0, hd1, hd2, hd3, hd4, hd5⟩ := tk_row HT3.out
      obtain ⟨hf0, hf1, hf2, hf3, hf4, hf5⟩ := row_frozen6 HT3.out
      dsimp only [tk0] at hd0 hd1 hd2 hd3 hd4 hd5 x0 x1 x2 x3 x4 x5
      go_wp2
      refine tkEnd rfl w.heap.size ⟨who, dst, ep, frm, til, ser⟩ rfl (row_set6 HT3.out _ _ _ _ _ _) rfl ?_
      exact ⟨rfl, below_set6 HB3.out (Nat.le_refl _) _ _ _ _ _ _⟩
    · rw [okT_no _ _ h3]
      rw [errV_posS a _ h3] at HRf2 ⊢
      generalize a (refuseC name (floorsR s.l) T now - 1) = ad at *
      rw [tk_val] at HRf2 HO ⊢
      obtain ⟨who, dst, ep, frm, til, ser⟩ := T
      dsimp only at HRf2 HO ⊢
      clear h3
      go_enter Tryz.func31, Tryz.ntmps31
      go_wp2_with fail
      refine (HF.out _ HA0.out (HE.out.below HB0.out)).mono ?_
      rintro e w1 ⟨rfl, hb⟩
      have HB1 : Hid (Below w.heap.size w w1) := HB0.out.trans (hb.mono HB0.out.size)
      have HT1 : Hid (w1.heap[w.heap.size]? = some (tkO tk0)) := by show _ = _; rw [hb.block _ (by simp)]; exact HR0.out
      have HA1 := hide (HA0.out.below hb)
      obtain ⟨c0, c1, c2, c3⟩ := ga_cells HA1.out.row
      clear hb HB0 HR0 HF HA0 c0 c2 c3
      go_wp2_with fail
      refine (HO.out _ (HE.out.below HB1.out)).mono ?_
      rintro e w2 ⟨rfl, hb⟩
      have HBx : Hid (Below w2.heap.size w2 (w2.alloc (tkO ⟨who, dst, ep, frm, til, ser⟩))) := (Below.refl _ _).alloc (Nat.le_refl _) _
      have HB2 : Hid (Below w.heap.size w (w2.alloc (tkO ⟨who, dst, ep, frm, til, ser⟩))) := (HB1.out.trans (hb.mono HB1.out.size)).alloc (HB1.out.trans (hb.mono HB1.out.size)).size _
      have HT2 : Hid ((w2.alloc (tkO ⟨who, dst, ep, frm, til, ser⟩)).heap[w.heap.size]? = some (tkO tk0)) := (heap_alloc_old _ _ (Nat.lt_of_lt_of_le (row_lt HT1.out) hb.size)).trans ((hb.block _ (row_lt HT1.out)).trans HT1.out)
      have HX2 : Hid ((w2.alloc (tkO ⟨who, dst, ep, frm, til, ser⟩)).heap[w2.heap.size]? = some (tkO ⟨who, dst, ep, frm, til, ser⟩)) := heap_alloc_new _ _
      have HA2 := hide ((HA1.out.below hb).below HBx.out)
      obtain ⟨y0, y1, y2, y3, y4, y5⟩ := tk_row HX2.out
      dsimp only at y0 y1 y2 y3 y4 y5
      clear hb HB1 HT1 HO HA1 c1 HBx
      go_wp2_with fail
      refine (HRf2.out _ HA2.out (HE.out.below HB2.out)).mono ?_
      rintro e w3 ⟨rfl, hb⟩
      have HB3 : Hid (Below w.heap.size w w3) := HB2.out.trans (hb.mono HB2.out.size)
      have HT3 : Hid (w3.heap[w.heap.size]? = some (tkO tk0)) := (hb.block _ (row_lt HT2.out)).trans HT2.out
      have HX3 : Hid (w3.heap[w2.heap.size]? = some (tkO ⟨who, dst, ep, frm, til, ser⟩)) := (hb.block _ (row_lt HX2.out)).trans HX2.out
      clear hb HB2 HT2 HX2 HA2 y0 y1 y2 y3 y4 y5 HRf2
      obtain ⟨hd0, hd1, hd2, hd3, hd4, hd5⟩ := tk_row HT3.out
      obtain ⟨hf0, hf1, hf2, hf3, hf4, hf5⟩ := row_frozen6 HT3.out
      dsimp only [tk0] at hd0 hd1 hd2 hd3 hd4 hd5
      clear HX3
      go_wp2
      refine tkEnd rfl w.heap.size tk0 rfl (row_set6 HT3.out _ _ _ _ _ _) rfl ?_
      exact ⟨rfl, below_set6 HB3.out (Nat.le_refl _) _ _ _ _ _ _⟩
end Go.Proofs.YtgagekcjdapkfadGreatDoor

namespace Go.Proofs.YtgagekcjdapkfadGreatDoor
open Go.RowKit Go.Extern.Stop Go.Stop Go.Extern Go.Proofs

structure Kn where
  kind : ByteArray
  s : ByteArray
  n : Int
  w : Ns
/-- Knocks that came in. -/
def KnIn (w : World) (v : Value) (l : List Kn) : Prop := ∃ ad cap, v = .slice ad l.length cap ∧ l.length ≤ cap ∧ (0 < l.length → ∃ b o, ad = some ⟨b, o, none⟩ ∧ b < w.heap.size ∧
  ∀ i m, l[i]? = some m → w.cell? ⟨b, o + i * 8, none⟩ = some (.string m.kind) ∧ w.cell? ⟨b, o + i * 8 + 1, none⟩ = some (.string m.s) ∧ w.cell? ⟨b, o + i * 8 + 2, none⟩ = some (.int .i64 m.n) ∧ w.cell? ⟨b, o + i * 8 + 3, none⟩ = some (.int .i64 m.w.many) ∧ w.cell? ⟨b, o + i * 8 + 4, none⟩ = some (.int .i64 m.w.from') ∧ w.cell? ⟨b, o + i * 8 + 5, none⟩ = some (.int .i64 m.w.time) ∧ w.cell? ⟨b, o + i * 8 + 6, none⟩ = some (.int .i64 m.w.key) ∧ w.cell? ⟨b, o + i * 8 + 7, none⟩ = some (.string m.w.text))
theorem KnIn.below {w w' : World} {v : Value} {l : List Kn} (h : KnIn w v l) (hb : Below w.heap.size w w') : KnIn w' v l := by
  obtain ⟨ad, cap, h1, h2, h3⟩ := h
  refine ⟨ad, cap, h1, h2, fun h0 => ?_⟩
  obtain ⟨b, o, h4, h5, h6⟩ := h3 h0
  refine ⟨b, o, h4, Nat.lt_of_lt_of_le h5 hb.size, fun i m hi => ?_⟩
  obtain ⟨c0, c1, c2, c3, c4, c5, c6, c7⟩ := h6 i m hi
  exact ⟨(hb.cell (p := ⟨b, o + i * 8, none⟩) h5).trans c0, (hb.cell (p := ⟨b, o + i * 8 + 1, none⟩) h5).trans c1, (hb.cell (p := ⟨b, o + i * 8 + 2, none⟩) h5).trans c2, (hb.cell (p := ⟨b, o + i * 8 + 3, none⟩) h5).trans c3, (hb.cell (p := ⟨b, o + i * 8 + 4, none⟩) h5).trans c4, (hb.cell (p := ⟨b, o + i * 8 + 5, none⟩) h5).trans c5, (hb.cell (p := ⟨b, o + i * 8 + 6, none⟩) h5).trans c6, (hb.cell (p := ⟨b, o + i * 8 + 7, none⟩) h5).trans c7⟩
/-- Too many, or too long. -/
def longK (l : List Kn) : Bool := decide (40 < l.length) || l.any (fun m => decide (200 < m.s.size ∨ 200 < m.w.text.size))
theorem longK_no {l : List Kn} (h : longK l = false) : l.length ≤ 40 := by
  unfold longK at h
  simp only [Bool.or_eq_false_iff, decide_eq_false_iff_not] at h
  omega

set_option maxRecDepth 100000 in
set_option maxHeartbeats 4000000 in
theorem longKnocks_any (v : Value) (l : List Kn) (w : World) (hv : KnIn w v l) :
    Calls Tryz.prog 25 #[v] w fun e w' => e = .returned (.bool (longK l)) ∧ w' = w := by
  obtain ⟨ad, cap, rfl, hc, hcell⟩ := hv
  by_cases h40 : 40 < l.length
  · have hL : longK l = true := by unfold longK; rw [decide_eq_true h40]; rfl
    rw [hL]
    generalize l.length = n at *
    have hz : (40 : Int) < (n : Int) := by omega
    clear hcell hL
    go_enter Tryz.func25, Tryz.ntmps25
    go_wp2
    go_ret
    exact ⟨rfl, rfl⟩
  · have HQ : Hid (longK l = l.any (fun m => decide (200 < m.s.size ∨ 200 < m.w.text.size))) := by show _ = _; unfold longK; rw [decide_eq_false h40]; rfl
    generalize hr : longK l = r at *
    have HV := hide hcell
    generalize hn : l.length = n at *
    have HN := hide hn
    have hz : ¬ (40 : Int) < (n : Int) := by omega
    have hn40 : n ≤ 40 := by omega
    clear hcell hr hn h40
    go_enter Tryz.func25, Tryz.ntmps25
    go_wp2
    go_loop [3] (fun i => ∃ k : Nat, k ≤ n ∧ i = .int .i64 k ∧ Hid (∀ j (hj : j < l.length), j < k → l[j].s.size ≤ 200 ∧ l[j].w.text.size ≤ 200)) (fun i => n - (intOf i).toNat)
    case atStart => exact ⟨0, Nat.zero_le _, rfl, fun j _ hj => absurd hj (Nat.not_lt_zero _)⟩
    case round =>
      obtain ⟨k, hk, rfl, A⟩ := hrel
      by_cases hlt : k < n
      · have hkl : k < l.length := by rw [HN.out]; exact hlt
        obtain ⟨b, o, rfl, hb, hcell⟩ := HV.out (by omega)
        obtain ⟨_, c1, _, _, _, _, _, c7⟩ := hcell k _ (List.getElem?_eq_getElem hkl)
        have hltz : (k : Int) < (n : Int) := by omega
        have HTrue : Hid (200 < (l[k]'hkl).s.size ∨ 200 < (l[k]'hkl).w.text.size → r = true) := fun h => by
          rw [HQ.out, List.any_eq_true]
          exact ⟨_, List.getElem_mem hkl, by simpa using h⟩
        have HNext : Hid (¬ 200 < (l[k]'hkl).s.size → ¬ 200 < (l[k]'hkl).w.text.size → ∀ j (hj : j < l.length), j < k + 1 → l[j].s.size ≤ 200 ∧ l[j].w.text.size ≤ 200) := fun h1 h2 j hj hjk => by
          by_cases e : j = k
          · subst e; exact ⟨by omega, by omega⟩
          · exact A.out j hj (by omega)
        clear hcell
        generalize (l[k]'hkl).w.text = tx at *
        generalize (l[k]'hkl).s = kd at *
        by_cases h20 : 200 < kd.size
        · have HR1 := hide (HTrue.out (Or.inl h20))
          have h20z : (200 : Int) < (kd.size : Int) := by omega
          go_wp2
          go_ret
          exact ⟨by rw [HR1.out]; rfl, rfl⟩
        · have h20z : ¬ (200 : Int) < (kd.size : Int) := by omega
          by_cases h200 : 200 < tx.size
          · have HR1 := hide (HTrue.out (Or.inr h200))
            have h200z : (200 : Int) < (tx.size : Int) := by omega
            go_wp2
            go_ret
            exact ⟨by rw [HR1.out]; rfl, rfl⟩
          · have h200z : ¬ (200 : Int) < (tx.size : Int) := by omega
            have HNx := hide (HNext.out h20 h200)
            go_wp2
            go_round
            case rel => exact ⟨k + 1, by omega, by go_num, HNx⟩
            case measure => simp [intOf]; omega
      · obtain rfl : k = n := by omega
        have hltz : ¬ (k : Int) < (k : Int) := by omega
        have hr0 : r = false := by
          rw [HQ.out, List.any_eq_false]
          intro f hf
          obtain ⟨j, hj, rfl⟩ := List.getElem_of_mem hf
          have := A.out j hj (by rw [← HN.out]; exact hj)
          simp only [decide_eq_true_eq]
          omega
        have HR0 := hide hr0
        clear hr0
        go_wp2
        go_ret
        exact ⟨by rw [HR0.out]; rfl, rfl⟩

/-- The name of the closed fact's service. -/
abbrev doorB : ByteArray := ⟨#[100, 111, 111, 114]⟩
theorem floors_nil : floorsC [] = (0, -1) ∧ floorsR [] = [] := floors_some (by rw [feed_nil]) rfl
theorem head_nil : headC 7 [] 0 = (0, -1) := by
  unfold headC
  rw [if_pos (by decide), if_pos (by rw [floors_nil.1]), if_pos ⟨by decide, by decide⟩]
def foN : Fo := ⟨7, [], ⟨#[]⟩, -1⟩
def foD : Fo := ⟨7, [], txt (headT 7 [] 0), 0⟩
theorem take_nil : takeC foN (txt (headT 7 [] 0)) [] = 0 ∧ takeS foN (txt (headT 7 [] 0)) [] = foD :=
  take_made (s := foN) (m := []) (time := 0) (by show (headC 7 [] 0).1 = 0; rw [head_nil]) (by decide)
theorem keeps_foD : Keeps foD := take_nil.2 ▸ keeps_take (keeps_new 7) (fun e he => by cases he) take_nil.1
theorem ask_none (x : ByteArray) : askC doorB 5 20 foN x 0 = 14 ∧ askT doorB 5 20 foN x 0 = tk0 := by
  have e : freshC foN 20 0 = 14 := by
    unfold freshC
    rw [if_pos (by decide), if_pos (by show (⟨#[]⟩ : ByteArray).toList.isEmpty = true; rw [Lib.toList_data]; rfl)]
  have e2 : askC doorB 5 20 foN x 0 = 14 := by unfold askC; rw [if_neg (by rw [e]; decide), e]
  exact ⟨e2, by unfold askT; rw [e2]; rfl⟩
theorem ask_ann : askC doorB 5 20 foD (Sl.ofL (Sl.sealL 5 tkA.words)) 0 = 0 ∧ askT doorB 5 20 foD (Sl.ofL (Sl.sealL 5 tkA.words)) 0 = tkA := by
  have e : askC doorB 5 20 foD (Sl.ofL (Sl.sealL 5 tkA.words)) 0 = 0 := by
    refine (ask_mine (name := doorB) (by decide) tkA_err rfl 20 foD 0).2 ⟨(fresh_iff keeps_foD 20 0).2 ⟨by decide, by decide, by decide⟩, by decide, ?_⟩
    show ofL (floorsR []) _ ≤ _
    rw [floors_nil.2]
    decide
  refine ⟨e, ?_⟩
  unfold askT
  rw [e, Sl.toL_ofL, (tk_back 5 (by decide) tkA tkA_err).2.2]
  rfl

set_option maxRecDepth 100000 in
set_option maxHeartbeats 4000000 in
theorem gated_any (a : Nat → Addr) (w : World) (h : Env a w) :
    Calls Tryz.prog 24 #[] w fun e w' => e = .returned (.bool true) ∧ Below w.heap.size w w' := by
  have HN := hide (gaNew_any a doorB 5 7 20 w h (by decide) (by decide) (by decide))
  have HM := hide (fun w h => fdMake_any a 7 (.slice none 0 0) [] 0 w h (Or.inl ⟨none, 0, rfl, rfl⟩) (fun e he => by cases he) (by simp))
  rw [head_nil] at HM
  have HT := hide (fun w h => tkMake_ok a 5 tkA w h (by decide) (by decide) (by decide) tkA_err)
  have HA1 := hide (fun w p pf v h hE => gaAsk_any a w p pf v doorB 5 20 foN h hE (keeps_new 7) (by decide) (Sl.ofL (Sl.sealL 5 tkA.words)) 0)
  rw [(ask_none _).1, (ask_none _).2, errV_posS a 14 (by decide)] at HA1
  have HTk := hide (fun w p pf v h hE => gaTake_any a w p pf v doorB 5 20 foN h hE (keeps_new 7) (txt (headT 7 [] 0)) (.slice none 0 0) [] (Or.inl ⟨none, 0, rfl, rfl⟩) (fun e he => by cases he) (by simp))
  rw [take_nil.1, take_nil.2] at HTk
  have HA2 := hide (fun w p pf v h hE => gaAsk_any a w p pf v doorB 5 20 foD h hE keeps_foD (by decide) (Sl.ofL (Sl.sealL 5 tkA.words)) 0)
  rw [ask_ann.1, ask_ann.2, errV_zero] at HA2
  have HC := hide (fun w h => coded_err a 13 (by decide) 14 w h)
  have HE := hide h
  clear h
  generalize Sl.ofL (Sl.sealL 5 tkA.words) = mk at *
  generalize headT 7 [] 0 = tx at *
  rw [tk_val] at HT HA1 HA2
  dsimp only [tkA, tk0] at HT HA1 HA2
  go_enter Tryz.func24, Tryz.ntmps24
  go_wp2_with fail
  refine HN.out.mono ?_
  rintro e w1 ⟨hb, ⟨_, p, pf, _, hpf, rfl, hG⟩ | ⟨hn, _⟩⟩
  · have HB1 := hide hb
    have HG1 := hide hG
    clear hb hG HN
    go_wp2_with fail
    refine (HM.out _ (HE.out.below HB1.out).w.f).mono ?_
    rintro e w2 ⟨hp, hb⟩
    rcases hp with ⟨_, rfl⟩ | ⟨hn, _⟩
    · have HB2 : Hid (Below w.heap.size w w2) := HB1.out.trans (hb.mono HB1.out.size)
      have HG2 := hide (HG1.out.below hb)
      clear hb HM HB1 HG1
      go_wp2_with fail
      refine (HT.out _ (HE.out.below HB2.out)).mono ?_
      rintro e w3 ⟨rfl, hb⟩
      have HB3 : Hid (Below w.heap.size w w3) := HB2.out.trans (hb.mono HB2.out.size)
      have HG3 := hide (HG2.out.below hb)
      clear hb HT HB2 HG2
      go_wp2_with fail
      refine (HA1.out _ _ _ _ HG3.out (HE.out.below HB3.out)).mono ?_
      rintro e w4 ⟨rfl, hb⟩
      have HB4 : Hid (Below w.heap.size w (w4.alloc (tkO tk0))) := (HB3.out.trans (hb.mono HB3.out.size)).alloc (HB3.out.trans (hb.mono HB3.out.size)).size _
      have HG4 : Hid (GaAt (w4.alloc (tkO tk0)) p pf _ doorB 5 20 foN) := (HG3.out.below hb).below ((Below.refl _ _).alloc (Nat.le_refl _) _)
      clear hb HA1 HB3 HG3
      go_wp2_with fail
      refine (HTk.out _ _ _ _ HG4.out (HE.out.below HB4.out)).mono ?_
      rintro e w5 (⟨hn, _⟩ | ⟨_, rfl, hg, v5, hF⟩)
      · exact absurd rfl hn
      · have HB5 : Hid (Below w.heap.size w w5) := HB4.out.grown hg HB4.out.size (fun k hk => by cases hk; exact hpf)
        have HG5 := hide (HG4.out.turn hg hF)
        clear hg hF HTk HB4 HG4
        go_wp2_with fail
        refine (HA2.out _ _ _ _ HG5.out (HE.out.below HB5.out)).mono ?_
        rintro e w6 ⟨rfl, hb⟩
        have HB6 : Hid (Below w.heap.size w (w6.alloc (tkO tkA))) := (HB5.out.trans (hb.mono HB5.out.size)).alloc (HB5.out.trans (hb.mono HB5.out.size)).size _
        have HR6 : Hid ((w6.alloc (tkO tkA)).heap[w6.heap.size]? = some (tkO tkA)) := heap_alloc_new _ _
        clear hb HA2 HB5 HG5
        go_wp2_with fail
        refine (HC.out _ (HE.out.below HB6.out).errs).mono ?_
        rintro e w7 ⟨rfl, hb⟩
        have HB7 : Hid (Below w.heap.size w w7) := HB6.out.trans (hb.mono HB6.out.size)
        have HR7 : Hid (w7.heap[w6.heap.size]? = some (tkO tkA)) := (hb.block _ (row_lt HR6.out)).trans HR6.out
        obtain ⟨x0, x1, x2, x3, x4, x5⟩ := tk_row HR7.out
        dsimp only [tkA] at x0 x1 x2 x3 x4 x5
        clear hb HC HB6 HR6
        go_wp2
        go_ret
        exact ⟨rfl, HB7.out⟩
    · exact absurd rfl hn
  · exact absurd (by decide) hn
end Go.Proofs.YtgagekcjdapkfadGreatDoor

namespace Go.Proofs.YtgagekcjdapkfadGreatDoor
open Go.RowKit Go.Extern.Stop Go.Stop Go.Extern Go.Proofs

/-- A gate and a ticket in memory, at any time. -/
structure GSt (w wr : World) (p pf : Nat) (old : Int) (t : Tk) : Prop where
  low : Below w.heap.size w wr
  pfl : w.heap.size ≤ pf
  tk : wr.heap[w.heap.size]? = some (tkO t)
  ga : ∃ v s, GaAt wr p pf v doorB 5 old s ∧ Keeps s
theorem GSt.below {w wr wz : World} {p pf : Nat} {old : Int} {t : Tk} (h : GSt w wr p pf old t) (hb : Below wr.heap.size wr wz) : GSt w wz p pf old t := by
  obtain ⟨h1, h2, h3, v, s, h4, h5⟩ := h
  exact ⟨h1.trans (hb.mono h1.size), h2, (hb.block _ (row_lt h3)).trans h3, v, s, h4.below hb, h5⟩
theorem gst_take (a : Nat → Addr) {w wr : World} {p pf : Nat} {old : Int} {t : Tk} (h : GSt w wr p pf old t) (hE : Env a w) (x : ByteArray) (ve : Value) (m : List En) (hv : EnAt wr ve m) (hs : ∀ e ∈ m, e.fl.who.size ≤ maxLen) (hl : m.length ≤ 100000) :
    Calls Tryz.prog 29 #[.pointer (some ⟨p, 0, none⟩), .string x, ve] wr fun e w' => (∃ ev, e = .returned ev) ∧ GSt w w' p pf old t := by
  obtain ⟨h1, h2, h3, v, s, h4, h5⟩ := h
  refine (gaTake_any a wr p pf v doorB 5 old s h4 (hE.below h1) h5 x ve m hv hs hl).mono ?_
  rintro e w' (⟨_, rfl, hb⟩ | ⟨h0, rfl, hg, v', hf⟩)
  · exact ⟨⟨_, rfl⟩, GSt.below ⟨h1, h2, h3, v, s, h4, h5⟩ hb⟩
  · have hne : w.heap.size ≠ pf := fun e => by
      rw [e, h4.fo.row] at h3
      have := Option.some.inj h3
      injection this with _ h6 _
      exact absurd h6 (by decide)
    exact ⟨⟨_, rfl⟩, h1.grown hg h1.size (fun j hj => by cases hj; exact h2), h2, (hg.block _ (row_lt h3) (by simpa using hne)).trans h3, v', _, h4.turn hg hf, keeps_take h5 hs h0⟩

/-- The ways on which the statement's function ends at once. -/
def earlyG (l : List En) (ks : List Kn) (t : Tk) : Bool := longE l || longK ks || decide (longT t ≠ 0)
theorem longT_cases (t : Tk) : longT t = 0 ∨ longT t = 1 := by unfold longT; split <;> simp
set_option maxRecDepth 100000 in
set_option maxHeartbeats 4000000 in
theorem gate_early (a : Nat → Addr) (own old : Int) (v : Value) (l : List En) (vk : Value) (ks : List Kn) (t : Tk) (w : World) (h : Env a w) (hv : EnAt w v l) (hk : KnIn w vk ks) (hs : t.who.size ≤ maxLen) (hs2 : t.dst.size ≤ maxLen) (hE : earlyG l ks t = true) :
    Calls Tryz.prog 4 #[.int .i64 own, .int .i64 old, v, vk, t.val] w fun e w' => e = .returned (.bool true) ∧ Below w.heap.size w w' := by
  have HB0 : Hid (Below w.heap.size w (w.alloc (tkO t))) := (Below.refl _ w).alloc (Nat.le_refl _) _
  have HR0 : Hid ((w.alloc (tkO t)).heap[w.heap.size]? = some (tkO t)) := heap_alloc_new _ _
  have HFd := hide (gated_any a _ (h.below HB0.out))
  have HLg := hide (fun w h => longEntries_any v l w h)
  have HLk := hide (fun w h => longKnocks_any vk ks w h)
  have HLt := hide (fun w => longTicket_any t w hs hs2)
  have HV := hide hv
  have HK := hide hk
  have hcase := longT_cases t
  unfold earlyG at hE
  obtain ⟨ad, cap, rfl, hcap⟩ := hv.form
  obtain ⟨adk, capk, rfl, hck, _⟩ := hk
  clear h hv hs hs2
  rw [tk_val] at HLt ⊢
  generalize longT t = lt at *
  obtain ⟨who, dst, ep, frm, til, ser⟩ := t
  dsimp only at HLt
  cases hlong : longE l with
  | true =>
    rw [if_pos hlong] at HLg
    clear hE hlong hcase
    go_enter Tryz.func4, Tryz.ntmps4
    go_wp2_with fail
    refine HFd.out.mono ?_
    rintro e w1 ⟨rfl, hb⟩
    have HB1 : Hid (Below w.heap.size w w1) := HB0.out.trans (hb.mono HB0.out.size)
    clear hb HFd
    go_wp2_with fail
    refine (HLg.out _ (HV.out.below HB1.out)).mono ?_
    rintro e w2 ⟨rfl, hw2⟩
    subst hw2
    go_wp2
    go_ret
    exact ⟨rfl, HB1.out⟩
  | false =>
    rw [if_neg (by rw [hlong]; decide)] at HLg
    cases hln : longK ks with
    | true =>
      rw [hln] at HLk
      clear hE hlong hln hcase
      go_enter Tryz.func4, Tryz.ntmps4
      go_wp2_with fail
      refine HFd.out.mono ?_
      rintro e w1 ⟨rfl, hb⟩
      have HB1 : Hid (Below w.heap.size w w1) := HB0.out.trans (hb.mono HB0.out.size)
      clear hb HFd
      go_wp2_with fail
      refine (HLg.out _ (HV.out.below HB1.out)).mono ?_
      rintro e w2 ⟨rfl, hw2⟩
      subst hw2
      go_wp2_with fail
      refine (HLk.out _ (HK.out.below HB1.out)).mono ?_
      rintro e w2 ⟨rfl, hw2⟩
      subst hw2
      go_wp2
      go_ret
      exact ⟨rfl, HB1.out⟩
    | false =>
      rw [hln] at HLk
      rw [hlong, hln] at hE
      rcases hcase with rfl | rfl
      · cases hE
      · clear hE hlong hln
        go_enter Tryz.func4, Tryz.ntmps4
        go_wp2_with fail
        refine HFd.out.mono ?_
        rintro e w1 ⟨rfl, hb⟩
        have HB1 : Hid (Below w.heap.size w w1) := HB0.out.trans (hb.mono HB0.out.size)
        have HR1 : Hid (w1.heap[w.heap.size]? = some (tkO ⟨who, dst, ep, frm, til, ser⟩)) := (hb.block _ (row_lt HR0.out)).trans HR0.out
        obtain ⟨t0, t1, t2, t3, t4, t5⟩ := tk_row HR1.out
        dsimp only at t0 t1 t2 t3 t4 t5
        clear hb HFd HR0
        go_wp2_with fail
        refine (HLg.out _ (HV.out.below HB1.out)).mono ?_
        rintro e w2 ⟨rfl, hw2⟩
        subst hw2
        go_wp2_with fail
        refine (HLk.out _ (HK.out.below HB1.out)).mono ?_
        rintro e w2 ⟨rfl, hw2⟩
        subst hw2
        go_wp2_with fail
        refine (HLt.out _).mono ?_
        rintro e w3 ⟨rfl, hb⟩
        have HB3 : Hid (Below w.heap.size w w3) := HB1.out.trans (hb.mono HB1.out.size)
        clear hb HLt
        go_wp2
        go_ret
        exact ⟨rfl, HB3.out⟩

abbrev knO (kd s : ByteArray) (n nm nf nt nk : Int) (tx : ByteArray) : Obj := .cells #[.string kd, .string s, .int .i64 n, .int .i64 nm, .int .i64 nf, .int .i64 nt, .int .i64 nk, .string tx] 73 (0, 0)
/-- What lies ready once the gate's follower is copied: the gate, the ticket, the follower, the knock. -/
structure GRd (w wr : World) (p pf q gk : Nat) (old : Int) (t : Tk) (s : Fo) (x : ByteArray) (n : Int) : Prop where
  low : Below w.heap.size w wr
  pfl : w.heap.size ≤ pf
  tk : wr.heap[w.heap.size]? = some (tkO t)
  ga : ∃ v, GaAt wr p pf v doorB 5 old s
  fo : ∃ v, FoAt wr q v s
  kn : ∃ kd nm nf nt nk tx, wr.heap[gk]? = some (knO kd x n nm nf nt nk tx)
theorem GRd.below {w wr wz : World} {p pf q gk : Nat} {old : Int} {t : Tk} {s : Fo} {x : ByteArray} {n : Int} (h : GRd w wr p pf q gk old t s x n) (hb : Below wr.heap.size wr wz) : GRd w wz p pf q gk old t s x n := by
  obtain ⟨h1, h2, h3, ⟨v, h4⟩, ⟨v2, h5⟩, kd, nm, nf, nt, nk, tx, h6⟩ := h
  exact ⟨h1.trans (hb.mono h1.size), h2, (hb.block _ (row_lt h3)).trans h3, ⟨v, h4.below hb⟩, ⟨v2, h5.below hb⟩, kd, nm, nf, nt, nk, tx, (hb.block _ (row_lt h6)).trans h6⟩
theorem GRd.st {w wr : World} {p pf q gk : Nat} {old : Int} {t : Tk} {s : Fo} {x : ByteArray} {n : Int} (h : GRd w wr p pf q gk old t s x n) (hk : Keeps s) : GSt w wr p pf old t := by
  obtain ⟨h1, h2, h3, ⟨v, h4⟩, _⟩ := h
  exact ⟨h1, h2, h3, v, s, h4, hk⟩
theorem GRd.kn12 {w wr : World} {p pf q gk : Nat} {old : Int} {t : Tk} {s : Fo} {x : ByteArray} {n : Int} (h : GRd w wr p pf q gk old t s x n) : wr.cell? ⟨gk, 1, none⟩ = some (.string x) ∧ wr.cell? ⟨gk, 2, none⟩ = some (.int .i64 n) := by
  obtain ⟨kd, nm, nf, nt, nk, tx, h6⟩ := h.kn
  exact ⟨cell_of_row wr gk 1 _ _ _ h6, cell_of_row wr gk 2 _ _ _ h6⟩
theorem GRd.ask (a : Nat → Addr) {w wr : World} {p pf q gk : Nat} {old : Int} {t : Tk} {s : Fo} {x : ByteArray} {n : Int} (h : GRd w wr p pf q gk old t s x n) (hE : Env a w) (hk : Keeps s) (ho : 0 ≤ old ∧ old ≤ 1000000) (y : ByteArray) (now : Int) :
    Calls Tryz.prog 31 #[.pointer (some ⟨p, 0, none⟩), .string y, .int .i64 now] wr fun e w' => e = .returned (.tuple #[(askT doorB 5 old s y now).val, errV a (askC doorB 5 old s y now)]) ∧ Below wr.heap.size wr w' := by
  obtain ⟨v, h4⟩ := h.ga
  exact gaAsk_any a wr p pf v doorB 5 old s h4 (hE.below h.low) hk ho y now
theorem GRd.fresh (a : Nat → Addr) {w wr : World} {p pf q gk : Nat} {old : Int} {t : Tk} {s : Fo} {x : ByteArray} {n : Int} (h : GRd w wr p pf q gk old t s x n) (hE : Env a w) (ho : 0 ≤ old ∧ old ≤ 1000000) (now : Int) :
    Calls Tryz.prog 32 #[.pointer (some ⟨p, 0, none⟩), .int .i64 now] wr fun e w' => e = .returned (errV a (freshC s old now)) ∧ Below wr.heap.size wr w' := by
  obtain ⟨v, h4⟩ := h.ga
  exact gaFresh_any a wr p pf v doorB 5 old s h4 (hE.below h.low) ho now
theorem GRd.time {w wr : World} {p pf q gk : Nat} {old : Int} {t : Tk} {s : Fo} {x : ByteArray} {n : Int} (h : GRd w wr p pf q gk old t s x n) :
    Calls Tryz.prog 33 #[.pointer (some ⟨q, 0, none⟩)] wr fun e w' => e = .returned (.int .i64 s.time) ∧ w' = wr := by
  obtain ⟨v, h4⟩ := h.fo
  exact foTime_any wr q v s h4
theorem GRd.floors (a : Nat → Addr) {w wr : World} {p pf q gk : Nat} {old : Int} {t : Tk} {s : Fo} {x : ByteArray} {n : Int} (h : GRd w wr p pf q gk old t s x n) (hE : Env a w) (hk : Keeps s) :
    Calls Tryz.prog 36 #[.pointer (some ⟨q, 0, none⟩)] wr fun e w' => ∃ v', e = .returned v' ∧ FlAt w' v' (floorsR s.l) ∧ Below wr.heap.size wr w' := by
  obtain ⟨v, h4⟩ := h.fo
  refine (foFloors_any a wr q v s (hE.below h.low).w.f.errs h4 hk.small (by have := hk.few; omega)).mono ?_
  rintro e w' ⟨v', rfl, hown, hb⟩
  exact ⟨v', rfl, hown.flAt, hb⟩
theorem gaPasses_any (s : Fo) (t : Tk) (v : Value) (w : World) (hv : FlAt w v (floorsR s.l)) :
    Calls Tryz.prog 35 #[v, .string t.who, .int .i64 t.epoch] w fun e w' => e = .returned (.bool (decide (ofL (floorsR s.l) t.who.data.toList ≤ t.epoch))) ∧ Below w.heap.size w w' :=
  passes_any v (floorsR s.l) t.who t.epoch w hv (floors_right s.l).1.rising (by have := (floors_right s.l).2; omega)
/-- The seven cells that the tests of a ticket read. -/
def Seven (w : World) (g gk : Nat) (t : Tk) (n : Int) : Prop := w.cell? ⟨g, 0, none⟩ = some (.string t.who) ∧ w.cell? ⟨g, 1, none⟩ = some (.string t.dst) ∧ w.cell? ⟨g, 2, none⟩ = some (.int .i64 t.epoch) ∧ w.cell? ⟨g, 3, none⟩ = some (.int .i64 t.frm) ∧ w.cell? ⟨g, 4, none⟩ = some (.int .i64 t.til) ∧ w.cell? ⟨g, 5, none⟩ = some (.int .i64 t.ser) ∧ w.cell? ⟨gk, 2, none⟩ = some (.int .i64 n)
theorem GRd.seven {w wr : World} {p pf q gk g : Nat} {old : Int} {t u : Tk} {s : Fo} {x : ByteArray} {n : Int} (h : GRd w wr p pf q gk old t s x n) (hg : wr.heap[g]? = some (tkO u)) : Seven wr g gk u n := by
  obtain ⟨t0, t1, t2, t3, t4, t5⟩ := tk_row hg
  exact ⟨t0, t1, t2, t3, t4, t5, h.kn12.2⟩
theorem errV_form (a : Nat → Addr) (c : Nat) : (c = 0 ∧ errV a c = .nilIface) ∨ (c ≠ 0 ∧ ∃ pe, errV a c = eV pe) := by
  by_cases h : c = 0
  · exact Or.inl ⟨h, by rw [h]; rfl⟩
  · exact Or.inr ⟨h, _, errV_posS a _ h⟩
theorem ask_no {name : ByteArray} {key old : Int} {s : Fo} {x : ByteArray} {now : Int} (h : askC name key old s x now ≠ 0) : askT name key old s x now = tk0 := okT_no _ _ h
theorem good_small {t : Tk} {now : Int} (h : t.good now = 0) : t.who.size ≤ maxLen ∧ t.dst.size ≤ maxLen := by
  have := (t.err_iff.1 ((t.good_iff now).1 h).1).1
  unfold Tk.names at this
  rw [Bool.and_eq_true] at this
  exact ⟨name_small this.1, name_small this.2⟩
end Go.Proofs.YtgagekcjdapkfadGreatDoor

/-
  A follower, plainly and in memory; what package follow's New, Seq, Time, Head, Entries, Floors, bare and tells give, for every follower.
-/
import Derived.Test.YtgagekcjdapkfacGreatDoorFollowCat
import Derived.Test.YtgagekcjdapkfacGreatDoorFeedPb
import Derived.Laws.Rows
namespace Go.Proofs.YtgagekcjdapkfacGreatDoor
open Go.RowKit Go.Extern.Stop Go.Stop Go.Extern Go.Proofs

structure Fo where
  key : Int
  l : List En
  head : ByteArray
  time : Int
/-- The errors that the chapter's functions give. -/
def foS (i : Nat) : Bool := fdS i || i == 11
/-- What follow reads of the world. -/
structure EnvW (a : Nat → Addr) (w : World) : Prop where
  errs : EV foS a w
  len : ∃ m, w.cell? ⟨17, 0, none⟩ = some (.int .i64 m)
  tab : Tab10 w
  typ : w.cell? ⟨16, 0, none⟩ = some (.iface 215 (.agg #[.pointer (some ⟨25, 28, none⟩)]))
theorem EnvW.f {a : Nat → Addr} {w : World} (h : EnvW a w) : EnvF a w := ⟨h.errs.sub (by decide), h.len, h.tab⟩
theorem EnvW.below {a : Nat → Addr} {w w' : World} (h : EnvW a w) (hb : Below w.heap.size w w') : EnvW a w' :=
  ⟨h.errs.below hb, (h.f.below hb).len, (h.f.below hb).tab, by rw [hb.cell (p := ⟨16, 0, none⟩) (cell_lt h.typ)]; exact h.typ⟩

abbrev foO (key : Int) (v : Value) (head : ByteArray) (time : Int) : Obj := .cells #[.int .i64 key, v, .string head, .int .i64 time] 129 (0, 0)
/-- A follower in memory: its block, and the row that it holds. -/
structure FoAt (w : World) (p : Nat) (v : Value) (s : Fo) : Prop where
  row : w.heap[p]? = some (foO s.key v s.head s.time)
  own : OwnE w 0 v s.l
theorem fo_cells {w : World} {p : Nat} {key time : Int} {v : Value} {head : ByteArray} (h : w.heap[p]? = some (foO key v head time)) :
    w.cell? ⟨p, 0, none⟩ = some (.int .i64 key) ∧ w.cell? ⟨p, 1, none⟩ = some v ∧ w.cell? ⟨p, 2, none⟩ = some (.string head) ∧ w.cell? ⟨p, 3, none⟩ = some (.int .i64 time) :=
  ⟨cell_of_row w p 0 _ _ _ h, cell_of_row w p 1 _ _ _ h, cell_of_row w p 2 _ _ _ h, cell_of_row w p 3 _ _ _ h⟩
theorem FoAt.en {w : World} {p : Nat} {v : Value} {s : Fo} (h : FoAt w p v s) : EnAt w v s.l := h.own.enAt
theorem FoAt.below {w w' : World} {p : Nat} {v : Value} {s : Fo} (h : FoAt w p v s) (hb : Below w.heap.size w w') : FoAt w' p v s :=
  ⟨(hb.block p (row_lt h.row)).trans h.row, h.own.below hb⟩
/-- A row of entries is no follower's block. -/
theorem OwnE.ne {w : World} {B p : Nat} {v v2 : Value} {l : List En} {key time : Int} {head : ByteArray} (h : OwnE w B v l) (hp : w.heap[p]? = some (foO key v2 head time)) : v.ownBlock ≠ some p := fun e => by
  rcases h.2 with ⟨rfl, _⟩ | ⟨g, cap, cur, rfl, hb, hg, _⟩
  · cases e
  · have e1 : g = p := Option.some.inj e
    rw [e1, hp] at hg
    have := Option.some.inj hg
    injection this with _ h2 _
    exact absurd h2 (by decide)
/-- It lasts where no other block than another follower's is written. -/
theorem FoAt.grown {w w' : World} {p q : Nat} {v v2 : Value} {s : Fo} {key time : Int} {head : ByteArray} (h : FoAt w p v s) (hq : w.heap[q]? = some (foO key v2 head time)) (hpq : p ≠ q) (hg : w.grownBy w' (some q)) : FoAt w' p v s :=
  ⟨(hg.block p (row_lt h.row) (by simpa using hpq)).trans h.row, h.own.keep (fun g e => hg.block g (h.own.lt g e).2 (fun e2 => h.own.ne hq (e.trans e2)))⟩

set_option maxRecDepth 100000 in
set_option maxHeartbeats 1000000 in
theorem foNew_any (a : Nat → Addr) (key : Int) (w : World) (h : EnvW a w) :
    Calls Tryz.prog 32 #[.int .i64 key] w fun e w' => Below w.heap.size w w' ∧ (((1 ≤ key ∧ key ≤ 1000000006) ∧ ∃ p, w.heap.size ≤ p ∧ e = .returned (.tuple #[.pointer (some ⟨p, 0, none⟩), .nilIface]) ∧ FoAt w' p (.slice none 0 0) ⟨key, [], ⟨#[]⟩, -1⟩) ∨
      (¬ (1 ≤ key ∧ key ≤ 1000000006) ∧ e = .returned (.tuple #[.pointer none, eV (a 9)]))) := by
  have HOf := hide (of_ev foS rfl rfl a key ⟨#[]⟩ w h.errs (by decide))
  rw [key_more] at HOf
  clear h
  by_cases hk : 1 ≤ key ∧ key ≤ 1000000006
  · rw [if_pos hk, errV_zero] at HOf
    generalize moreN key key _ = m0 at *
    have HK := hide hk
    clear hk
    go_enter Tryz.func32, Tryz.ntmps32
    go_wp2_with fail
    refine HOf.out.mono ?_
    rintro e w1 ⟨rfl, hb⟩
    have HB1 := hide hb
    have HF : Hid (FoAt (w1.alloc (.cells #[.int .i64 key, .slice none 0 0, .string ⟨#[]⟩, .int .i64 (-1)] 129)) w1.heap.size (.slice none 0 0) ⟨key, [], ⟨#[]⟩, -1⟩) := ⟨heap_alloc_new _ _, OwnE.nil _ _⟩
    clear hb HOf
    go_wp2
    go_ret2
    exact ⟨HB1.out.alloc HB1.out.size _, Or.inl ⟨HK.out, _, HB1.out.size, rfl, HF.out⟩⟩
  · rw [if_neg hk] at HOf
    generalize moreN key key _ = m0 at *
    have HK := hide hk
    clear hk
    go_enter Tryz.func32, Tryz.ntmps32
    go_wp2_with fail
    refine HOf.out.mono ?_
    rintro e w1 ⟨rfl, hb⟩
    have HB1 := hide hb
    clear hb HOf
    rw [errV_pos a (show (10 : Nat) ≠ 0 by decide)]
    go_wp2
    go_ret2
    exact ⟨HB1.out, Or.inr ⟨HK.out, rfl⟩⟩

theorem foSeq_any (w : World) (p : Nat) (v : Value) (s : Fo) (h : FoAt w p v s) :
    Calls Tryz.prog 36 #[.pointer (some ⟨p, 0, none⟩)] w fun e w' => e = .returned (.int .i64 s.l.length) ∧ w' = w := by
  obtain ⟨c0, c1, c2, c3⟩ := fo_cells h.row
  obtain ⟨ad, cap, rfl, hc⟩ := h.en.form
  clear h
  generalize s.l.length = n at *
  go_enter Tryz.func36, Tryz.ntmps36
  go_wp2
  go_ret
  exact ⟨rfl, rfl⟩
theorem foTime_any (w : World) (p : Nat) (v : Value) (s : Fo) (h : FoAt w p v s) :
    Calls Tryz.prog 37 #[.pointer (some ⟨p, 0, none⟩)] w fun e w' => e = .returned (.int .i64 s.time) ∧ w' = w := by
  obtain ⟨c0, c1, c2, c3⟩ := fo_cells h.row
  clear h
  generalize s.time = n at *
  go_enter Tryz.func37, Tryz.ntmps37
  go_wp2
  go_ret
  exact ⟨rfl, rfl⟩
theorem foHead_any (w : World) (p : Nat) (v : Value) (s : Fo) (h : FoAt w p v s) :
    Calls Tryz.prog 40 #[.pointer (some ⟨p, 0, none⟩)] w fun e w' => e = .returned (.string s.head) ∧ w' = w := by
  obtain ⟨c0, c1, c2, c3⟩ := fo_cells h.row
  clear h
  generalize s.head = n at *
  go_enter Tryz.func40, Tryz.ntmps40
  go_wp2
  go_ret
  exact ⟨rfl, rfl⟩
theorem foEntries_any (w : World) (p : Nat) (v : Value) (s : Fo) (h : FoAt w p v s) (hl : s.l.length ≤ 1000000) :
    Calls Tryz.prog 39 #[.pointer (some ⟨p, 0, none⟩)] w fun e w' => ∃ v', e = .returned v' ∧ OwnE w' w.heap.size v' s.l ∧ Below w.heap.size w w' := by
  obtain ⟨c0, c1, c2, c3⟩ := fo_cells h.row
  have HC := hide (cloneE_any v s.l w h.en hl)
  clear h
  go_enter Tryz.func39, Tryz.ntmps39
  go_wp2_with fail
  refine HC.out.mono ?_
  rintro e w1 ⟨v1, rfl, hown, hb⟩
  have HO := hide hown
  have HB := hide hb
  clear hown hb c0 c1 c2 c3
  go_wp2
  go_ret
  exact ⟨_, rfl, HO.out, HB.out⟩
set_option maxRecDepth 100000 in
theorem foFloors_any (a : Nat → Addr) (w : World) (p : Nat) (v : Value) (s : Fo) (hE : EV fdS a w) (h : FoAt w p v s) (hs : ∀ e ∈ s.l, e.fl.who.size ≤ maxLen) (hl : s.l.length ≤ 1000000) :
    Calls Tryz.prog 38 #[.pointer (some ⟨p, 0, none⟩)] w fun e w' => ∃ v', e = .returned v' ∧ OwnF w' w.heap.size v' (floorsR s.l) ∧ Below w.heap.size w w' := by
  obtain ⟨c0, c1, c2, c3⟩ := fo_cells h.row
  have HC := hide (floors_any a v s.l w hE h.en hs hl)
  clear h hE
  generalize floorsR s.l = r at *
  generalize floorsC s.l = c at *
  go_enter Tryz.func38, Tryz.ntmps38
  go_wp2_with fail
  refine HC.out.mono ?_
  rintro e w1 ⟨⟨v1, ev, rfl, hown, herr, hnil⟩, hb⟩
  have HO := hide hown
  have HB := hide hb
  clear hown hb c0 c1 c2 c3 hnil herr
  go_wp2
  go_ret
  exact ⟨_, rfl, HO.out, HB.out⟩

set_option maxRecDepth 100000 in
set_option maxHeartbeats 1000000 in
theorem foBare_any (a : Nat → Addr) (c : Nat × Int) (ev : Value) (w : World) (hE : EnvW a w) (h : FlErr a w c ev) (hc : c.1 ≠ 0) :
    Calls Tryz.prog 77 #[ev] w fun e w' => e = .returned (errV a c.1) ∧ Below w.heap.size w w' := by
  have hg : (w.alloc (.cells #[.pointer none] 102)).cell? ⟨16, 0, none⟩ = some (.iface 215 (.agg #[.pointer (some ⟨25, 28, none⟩)])) := by
    rw [World.cell?_alloc_lt _ _ ⟨16, 0, none⟩ (cell_lt hE.typ)]; exact hE.typ
  clear hE
  rw [errV_pos a hc]
  rcases h with ⟨h0, rfl⟩ | ⟨h0, _, rfl⟩ | ⟨h0, b, rfl, hrow⟩
  · exact absurd h0 hc
  · generalize a (c.1 - 1) = p at *
    clear h0 hc
    go_enter Tryz.func77, Tryz.ntmps77
    go_wp2_with fail
    refine (as_miss p _ _ hg).mono ?_
    rintro e w1 ⟨rfl, hw1⟩
    have HB : Hid (Below w.heap.size w w1) := by show Below _ _ _; rw [hw1]; exact ((Below.refl _ _).alloc (Nat.le_refl _) _).trans ((asMissW_below _ _).mono (by simp))
    clear hw1 hg
    go_wp2
    go_ret
    exact ⟨rfl, HB.out⟩
  · generalize a (c.1 - 1) = p at *
    clear h0 hc
    have hbl : b < w.heap.size := row_lt hrow
    go_enter Tryz.func77, Tryz.ntmps77
    go_wp2_with fail
    refine (as_hit ⟨b, 0, none⟩ ⟨w.heap.size, 0, none⟩ (.pointer none) _ hg (by simp) (by simp)).mono ?_
    rintro e w1 ⟨rfl, hw1⟩
    have HB : Hid (Below w.heap.size w w1) := by
      show Below _ _ _
      rw [hw1]
      exact ((((Below.refl _ _).alloc (Nat.le_refl _) _).trans ((asMissW_below _ _).mono (by simp))).alloc (by simp; omega) _).setCell (Nat.le_refl _) _
    have hfc : w1.cell? ⟨w.heap.size, 0, none⟩ = some (.pointer (some ⟨b, 0, none⟩)) := by
      rw [hw1]
      refine World.cell?_setCell_same _ _ _ (u := .pointer none) ?_
      rw [World.cell?_alloc_lt _ _ ⟨w.heap.size, 0, none⟩ (by simp; omega), ((asMissW_below _ _).cell (p := ⟨w.heap.size, 0, none⟩) (by simp))]
      simp
    have c1 : w1.cell? ⟨b, 1, none⟩ = some (eV p) := cell_of_row w1 b 1 _ _ _ ((HB.out.block b hbl).trans hrow)
    clear hw1 hg hrow
    go_wp2
    go_ret
    exact ⟨rfl, HB.out⟩

/-- Is it the head of these? -/
def tellsB (h : Hd) (l : List En) : Bool := decide ((floorsC l).1 = 0) && decide (sumL (floorsR l) = h.s)
set_option maxRecDepth 100000 in
set_option maxHeartbeats 4000000 in
theorem foTells_any (a : Nat → Addr) (h : Hd) (v : Value) (l : List En) (w : World) (hE : EnvF a w) (hv : EnAt w v l) (hs : ∀ e ∈ l, e.fl.who.size ≤ maxLen) (hl : l.length ≤ 1000000) :
    Calls Tryz.prog 78 #[h.val, v] w fun e w' => e = .returned (.bool (tellsB h l)) ∧ Below w.heap.size w w' := by
  have HB0 : Hid (Below w.heap.size w (w.alloc (hdO h))) := (Below.refl _ w).alloc (Nat.le_refl _) _
  have HR0 : Hid ((w.alloc (hdO h)).heap[w.heap.size]? = some (hdO h)) := heap_alloc_new _ _
  have HC := hide (floors_any a v l _ (hE.below HB0.out).errs (hv.below HB0.out) hs hl)
  have HSm := hide (fun v w h ht hv => sum_ev fdS (by decide) rfl a v (floorsR l) w h ht hv (small_floors hs) (by have := (floors_right l).2; omega))
  have HE := hide hE
  unfold tellsB
  obtain ⟨hn, ht, hsm⟩ := h
  show Calls Tryz.prog 78 #[.agg #[.int .i64 hn, .int .i64 ht, .int .i64 hsm], v] w _
  clear hE hv hs
  dsimp only
  generalize floorsR l = r at *
  generalize floorsC l = c at *
  generalize sumL r = sm at *
  have hsz : (w.alloc (hdO ⟨hn, ht, hsm⟩)).heap.size = w.heap.size + 1 := by simp
  by_cases h0 : c.1 = 0
  · rw [decide_eq_true h0, Bool.true_and]
    go_enter Tryz.func78, Tryz.ntmps78
    go_wp2_with fail
    refine HC.out.mono ?_
    rintro e w1 ⟨⟨v1, ev, rfl, hown, herr, hnil⟩, hb⟩
    obtain rfl := herr.none h0
    have HB1 : Hid (Below w.heap.size w w1) := HB0.out.trans (hb.mono HB0.out.size)
    have HF1 := hide hown.flAt
    have HR1 : Hid (w1.heap[w.heap.size]? = some (hdO ⟨hn, ht, hsm⟩)) := (hb.block _ (by rw [hsz]; omega)).trans HR0.out
    obtain ⟨c0, c1, c2, _⟩ := row_cells HR1.out
    dsimp only at c0 c1 c2
    clear hown herr hnil hb h0 HR0 HB0 hsz HC
    have HB1d : Hid (Below w.heap.size w w1.drew) := HB1.out.drew
    have HF1d : Hid (FlAt w1.drew v1 r) := HF1.out.below (Below.refl _ _).drew
    go_wp2
    go_region_held3 (fun w' => w'.cell? ⟨w.heap.size, 2, none⟩ = some (.int .i64 hsm)) (first | go_keep | assumption)
      (first
        | (go_at_call 15; refine (HSm.out _ _ (HE.out.below HB1d.out).errs (HE.out.below HB1d.out).tab HF1d.out).mono ?_; rintro e w2 ⟨rfl, hb⟩; have HB2 : Hid (Below w.heap.size w w2) := HB1d.out.trans (hb.mono HB1d.out.size); have e2 := (hb.cell (p := ⟨w.heap.size, 2, none⟩) (row_lt HR1.out)).trans c2; clear hb HSm))
    go_wp2
    go_ret
    exact ⟨by rfl, HB2.out⟩
  · rw [decide_eq_false h0, Bool.false_and]
    have HH := hide h0
    clear h0
    go_enter Tryz.func78, Tryz.ntmps78
    go_wp2_with fail
    refine HC.out.mono ?_
    rintro e w1 ⟨⟨v1, ev, rfl, hown, herr, hnil⟩, hb⟩
    have HB1 : Hid (Below w.heap.size w w1) := HB0.out.trans (hb.mono HB0.out.size)
    rcases herr.cases with ⟨e0, _⟩ | ⟨_, tt, pp, rfl⟩
    · exact absurd e0 HH.out
    · have HR1 : Hid (w1.heap[w.heap.size]? = some (hdO ⟨hn, ht, hsm⟩)) := (hb.block _ (by rw [hsz]; omega)).trans HR0.out
      obtain ⟨c0, c1, c2, _⟩ := row_cells HR1.out
      dsimp only at c0 c1 c2
      clear hown herr hnil hb HR0 HB0 hsz HC HSm
      go_wp2
      go_quiet (fail)
      go_wp2
      go_ret
      exact ⟨rfl, below_drewN HB1.out _⟩
end Go.Proofs.YtgagekcjdapkfacGreatDoor

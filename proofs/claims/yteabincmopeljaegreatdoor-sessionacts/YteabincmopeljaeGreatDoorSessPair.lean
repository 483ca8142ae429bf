/-
  A desk beside what the document's answer's desk holds, in memory: each acts in turn; nothing that came in is written.
-/
import Derived.Test.YteabincmopeljaeGreatDoorSePb
import Derived.Test.YteabincmopeljaeGreatDoorSeRa
import Derived.Test.YteabincmopeljaeGreatDoorSessLaw
namespace Go.Proofs.YteabincmopeljaeGreatDoor
open Go.RowKit Go.Extern.Stop Go.Stop Go.Extern Go.Proofs

theorem num_keep {w w' : World} {B : Nat} {v : Value} {xs : List Int} (h : OwnNum w B v xs) (hk : ∀ g, v.ownBlock = some g → w'.heap[g]? = w.heap[g]?) : OwnNum w' B v xs := by
  refine ⟨h.1, ?_⟩
  rcases h.2 with g | ⟨g, cap, cur, rfl, h1, hc, r⟩
  · exact Or.inl g
  · exact Or.inr ⟨g, cap, cur, rfl, h1, (hk g rfl).trans hc, r⟩
/-- A sweep that may fail. -/
def Dk.swept (d : Dk) (fl : List Fl) (now : Int) : Dk := if (sweepC fl now).1 = 0 then ⟨d.many, sweepL fl now d.l⟩ else d
def Dk.ended (d : Dk) (fl : List Fl) (now : Int) : List Int := if (sweepC fl now).1 = 0 then sweepN fl now d.l else []
theorem GoodD.swept {d : Dk} (h : GoodD d) (fl : List Fl) (now : Int) : GoodD (d.swept fl now) := by
  unfold Dk.swept
  split
  · exact h.part _
  · exact h
theorem sweepC_small (fl : List Fl) (now : Int) : (sweepC fl now).1 < 16 := by
  unfold sweepC
  split
  · exact check_le fl
  · split
    · exact check_le fl
    · decide
theorem checkL_zero {l : List Fl} (h : (checkL l).1 = 0) : (checkL l).2 = -1 := by
  obtain ⟨hr, hl⟩ := right_of_check h
  rw [check_right hr, if_neg (by omega)]
theorem sweepC_zero {fl : List Fl} {now : Int} (h : (sweepC fl now).1 = 0) : (sweepC fl now).2 = -1 := by
  obtain ⟨h1, h2⟩ := sweep_ok h
  unfold sweepC
  rw [if_neg (by simpa using h1), if_pos h2]
  exact checkL_zero h1

/-- Both, over the world of before. -/
structure SsSt (W : World) (p m rp : Nat) (v : Value) (d d1 : Dk) (w : World) : Prop where
  desk : DeskAt w p m d1
  ref : RefDesk w rp v d
  good : GoodD d
  below : Below W.heap.size W w
  old : W.heap.size ≤ p ∧ W.heap.size ≤ m ∧ p < rp ∧ m < rp
variable {W : World} {p m rp : Nat} {v : Value} {d d1 : Dk} {w : World}
theorem SsSt.less {w' : World} (h : SsSt W p m rp v d d1 w) (hb : Below w.heap.size w w') : SsSt W p m rp v d d1 w' :=
  ⟨h.desk.below hb, h.ref.below hb, h.good, h.below.trans (hb.mono h.below.size), h.old⟩
theorem SsSt.deskT {w' : World} {d2 : Dk} (h : SsSt W p m rp v d d1 w) (hd : DeskAt w' p m d2) (hk : KeptD (fun k => k = p ∨ k = m) w w') : SsSt W p m rp v d d2 w' := by
  obtain ⟨o1, o2, o3, o4⟩ := h.old
  refine ⟨hd, ⟨(hk.block rp (row_lt h.ref.row) (by omega)).trans h.ref.row, own_keepO h.ref.own fun g hg => hk.block g (h.ref.own.lt g hg).2 (by have := (h.ref.own.lt g hg).1; omega)⟩, h.good, below_kept h.below hk (Nat.le_refl _) (by omega), h.old⟩
theorem SsSt.refT {w' : World} {d2 : Dk} (h : SsSt W p m rp v d d1 w) (hp : DkPost w rp v d2 w') (hg : GoodD d2) : ∃ v', SsSt W p m rp v' d2 d1 w' ∧ KeptD (fun k => k = rp ∨ v.ownBlock = some k) w w' := by
  obtain ⟨v', hr, hk⟩ := hp
  obtain ⟨o1, o2, o3, o4⟩ := h.old
  have hno : ∀ k, v.ownBlock = some k → rp + 1 ≤ k := fun k hk => (h.ref.own.lt k hk).1
  refine ⟨v', ⟨h.desk.same (hk.block p (row_lt h.desk.row) ?_) (hk.block m h.desk.own.lt ?_), hr, hg, below_kept h.below hk (Nat.le_refl _) ?_, h.old⟩, hk⟩
  · rintro (e | e)
    · omega
    · have := hno _ e; omega
  · rintro (e | e)
    · omega
    · have := hno _ e; omega
  · rintro j (e | e)
    · omega
    · have := hno _ e; omega
/-- What lies in memory besides. -/
theorem SsSt.apart (h : SsSt W p m rp v d d1 w) : ∀ k, (k = p ∨ k = m ∨ k = rp ∨ v.ownBlock = some k) → k < w.heap.size := fun k hk => by
  have h1 := row_lt h.desk.row
  have h2 := h.desk.own.lt
  have h3 := row_lt h.ref.row
  rcases hk with e | e | e | e
  · omega
  · omega
  · omega
  · exact (h.ref.own.lt k e).2

theorem SsSt.openD (a : Nat → Addr) (h : SsSt W p m rp v d d w) (hE : Errs a W) (t : Tk) (now : Int) (hs : t.who.size ≤ maxLen) (hs2 : t.dst.size ≤ maxLen) (hm : d.many ≤ 1000000) :
    Calls Tryz.prog 7 #[.pointer (some ⟨p, 0, none⟩), t.val, .int .i64 now] w fun e w' => e = .returned (.tuple #[.int .i64 (if openO d.l t now = 0 then d.many + 1 else 0), errV a (openO d.l t now)]) ∧ SsSt W p m rp v d (d.opens t now) w' ∧ KeptD (fun k => k = p ∨ k = m) w w' :=
  (deOpen_any a p m d t now w h.desk ((hE.below h.below).ev _) hs hs2 hm).mono fun _ _ ⟨h1, h2, h3⟩ => ⟨h1, h.deskT h2 h3, h3⟩
theorem SsSt.openR (h : SsSt W p m rp v d d1 w) (t : Tk) (now : Int) (hs : t.who.size ≤ maxLen) (hs2 : t.dst.size ≤ maxLen) (hm : d.many ≤ 1000000) :
    Calls Tryz.prog 8 #[.pointer (some ⟨rp, 0, none⟩), t.val, .int .i64 now] w fun e w' => e = .returned (.tuple #[.int .i64 (if openO d.l t now = 0 then d.many + 1 else 0), .int .i64 (openO d.l t now : Int)]) ∧ ∃ v', SsSt W p m rp v' (d.opens t now) d1 w' ∧ KeptD (fun k => k = rp ∨ v.ownBlock = some k) w w' := by
  by_cases he : openO d.l t now = 0
  · rw [he, if_pos rfl]
    exact (refOpenD_ok rp v d t now w h.ref hs hs2 ⟨h.good.many, hm⟩ he).mono fun _ _ ⟨h1, h2⟩ => ⟨h1, h.refT h2 (h.good.opens t now)⟩
  · rw [if_neg he]
    have hd : d.opens t now = d := by unfold Dk.opens; rw [if_neg he]
    rw [hd]
    exact (refOpenD_err rp v d t now w h.ref (Nat.le_trans h.good.few (by decide)) hs hs2 he).mono fun _ _ ⟨h1, h2⟩ => ⟨h1, h.refT (DkPost.same h.ref h2) h.good⟩
theorem SsSt.closeD (a : Nat → Addr) (h : SsSt W p m rp v d d w) (hE : Errs a W) (num : Int) (hw : NumOk num) :
    Calls Tryz.prog 12 #[.pointer (some ⟨p, 0, none⟩), .int .i64 num] w fun e w' => e = .returned (errV a (closeO d.l num)) ∧ SsSt W p m rp v d ⟨d.many, closeL d.l num⟩ w' ∧ KeptD (fun k => k = p ∨ k = m) w w' :=
  (deClose_any a p m d num w h.desk ((hE.below h.below).ev _) hw).mono fun _ _ ⟨h1, h2, h3⟩ => ⟨h1, h.deskT h2 (DeskPost.turn h2 h3).2, (DeskPost.turn h2 h3).2⟩
theorem SsSt.closeR (h : SsSt W p m rp v d d1 w) (num : Int) :
    Calls Tryz.prog 13 #[.pointer (some ⟨rp, 0, none⟩), .int .i64 num] w fun e w' => e = .returned (.int .i64 (closeO d.l num : Int)) ∧ ∃ v', SsSt W p m rp v' ⟨d.many, closeL d.l num⟩ d1 w' ∧ KeptD (fun k => k = rp ∨ v.ownBlock = some k) w w' :=
  (refCloseD_any rp v d num w h.ref h.good.few).mono fun _ _ ⟨h1, h2⟩ => ⟨h1, h.refT h2 (h.good.part _)⟩
theorem SsSt.sweepD (a : Nat → Addr) (h : SsSt W p m rp v d d w) (hE : Errs a W) (vf : Value) (fl : List Fl) (now : Int) (hf : FlAt w vf fl) (hs : ∀ f ∈ fl, f.who.size ≤ maxLen) (hl : fl.length ≤ 1000000) :
    Calls Tryz.prog 14 #[.pointer (some ⟨p, 0, none⟩), vf, .int .i64 now] w fun e w' => ∃ x ev, e = .returned (.tuple #[x, ev]) ∧ FlErr a w' (sweepC fl now) ev ∧ OwnNum w' w.heap.size x (d.ended fl now) ∧ SsSt W p m rp v d (d.swept fl now) w' ∧ KeptD (fun k => k = p ∨ k = m) w w' :=
  (deSweep_any a p m d vf fl now w h.desk ((hE.below h.below).ev _) hf hs hl).mono fun e w' hp => by
    unfold Dk.ended Dk.swept
    rcases hp with ⟨h0, t, q, h1, h2, h3⟩ | ⟨h0, x, h1, h2, h3, h4⟩
    · rw [if_neg h0, if_neg h0]
      exact ⟨_, _, h1, h2, World.ownsRow_nil _ _ _ _, h.deskT (h.desk.below h3) (KeptD.of_below _ h3), KeptD.of_below _ h3⟩
    · rw [if_pos h0, if_pos h0]
      exact ⟨_, _, h1, Or.inl ⟨h0, rfl⟩, h2, h.deskT h3 (DeskPost.turn h3 h4).2, (DeskPost.turn h3 h4).2⟩
theorem SsSt.sweepR (h : SsSt W p m rp v d d1 w) (vf : Value) (fl : List Fl) (now : Int) (hf : FlAt w vf fl) (hs : ∀ f ∈ fl, f.who.size ≤ maxLen) (hl : fl.length ≤ 1000000) :
    Calls Tryz.prog 16 #[.pointer (some ⟨rp, 0, none⟩), vf, .int .i64 now] w fun e w' => ∃ x, e = .returned (.tuple #[x, fltV (sweepC fl now)]) ∧ OwnNum w' w.heap.size x (d.ended fl now) ∧ ∃ v', SsSt W p m rp v' (d.swept fl now) d1 w' ∧ KeptD (fun k => k = rp ∨ v.ownBlock = some k) w w' := by
  unfold Dk.ended Dk.swept
  by_cases he : (sweepC fl now).1 = 0
  · rw [if_pos he, if_pos he]
    exact (refSweepD_ok rp v vf d fl now w h.ref h.good.few h.good.len hf hs hl he).mono fun _ _ ⟨x, h1, h2, h3⟩ => ⟨x, h1, h2, h.refT h3 (h.good.part _)⟩
  · rw [if_neg he, if_neg he]
    exact (refSweepD_err rp vf fl now w hf hs hl he).mono fun _ _ ⟨h1, h2⟩ => ⟨_, h1, World.ownsRow_nil _ _ _ _, h.refT (DkPost.same h.ref h2) h.good⟩
/-- An error's fault lies in no desk. -/
theorem FlErr.keptR {a : Nat → Addr} {w' : World} {c : Nat × Int} {ev : Value} (he : FlErr a w c ev) (h : SsSt W p m rp v d d1 w) (hk : KeptD (fun k => k = rp ∨ v.ownBlock = some k) w w') : FlErr a w' c ev := by
  rcases he with g | g | ⟨g1, b, g2, g3⟩
  · exact Or.inl g
  · exact Or.inr (Or.inl g)
  · refine Or.inr (Or.inr ⟨g1, b, g2, (hk.block b (row_lt g3) ?_).trans g3⟩)
    rintro (e | e)
    · rw [e, h.ref.row] at g3
      exact absurd (Obj.cells.inj (Option.some.inj g3)).2.1 (by decide)
    · rcases h.ref.own.2 with ⟨e0, _⟩ | ⟨g, cap, cur, e0, _, hb, _⟩
      · rw [e0] at e; cases e
      · rw [e0] at e
        have e2 : g = b := by simpa [Value.ownBlock] using e
        rw [e2, g3] at hb
        exact absurd (Obj.cells.inj (Option.some.inj hb)).2.1 (by decide)
theorem SsSt.coded (a : Nat → Addr) (h : SsSt W p m rp v d d1 w) (hE : Errs a W) (c : Nat) (hc : c ≤ 16) :
    Calls Tryz.prog 9 #[errV a c, .int .i64 (c : Int)] w fun e w' => e = .returned (.bool true) ∧ Below w.heap.size w w' :=
  (coded_errV a c hc (c : Int) w (hE.below h.below)).mono fun _ _ ⟨h1, h2⟩ => ⟨by rw [h1]; simp, h2⟩
theorem SsSt.cell (h : SsSt W p m rp v d d1 w) {q : Addr} {x : Value} (hq : q.block < W.heap.size) (hx : W.cell? q = some x) : w.cell? q = some x :=
  (h.below.cell hq).trans hx
theorem openO_small (L : List Os) (t : Tk) (now : Int) : openO L t now ≤ 16 := by
  unfold openO
  split
  · exact t.good_le now
  · split <;> decide
theorem askO_small (L : List Os) (n now : Int) : askO L n now ≤ 16 := by
  unfold askO
  split
  · exact Tk.good_le _ _
  · decide
theorem closeO_small (L : List Os) (n : Int) : closeO L n ≤ 16 := by
  unfold closeO
  split <;> decide
theorem swept_many {d : Dk} (fl : List Fl) (now : Int) : (d.swept fl now).many = d.many := by
  unfold Dk.swept
  split <;> rfl
end Go.Proofs.YteabincmopeljaeGreatDoor

/-
  What was seen beside what the document's answer saw, in memory: each asked in turn; nothing that came in is written.
-/
import Derived.Test.YtgagekcjdapkfadDoorSeenLaw
namespace Go.Proofs.YtgagekcjdapkfadDoor
open Go.RowKit Go.Extern.Stop Go.Stop Go.Extern Go.Proofs

theorem seenC_small (long : Int) (L : List Wd) (s : ByteArray) (t now : Int) : seenC long L s t now ≤ 16 := by
  have h : seenE long t now s ≤ 16 := by
    unfold seenE
    split
    · decide
    · split
      · decide
      · split
        · decide
        · split <;> decide
  unfold seenC
  split
  · exact h
  · split
    · decide
    · split <;> decide
/-- Both, over the world of before. -/
structure SeSt (W : World) (p m rp : Nat) (long : Int) (L L1 : List Wd) (w : World) : Prop where
  see : SeenAt w p m long L1
  ref : ∃ v, RefSeen w rp long v L
  good : GoodW L
  below : Below W.heap.size W w
  old : W.heap.size ≤ m ∧ W.heap.size ≤ rp
theorem SeSt.less {W : World} {p m rp : Nat} {long : Int} {L L1 : List Wd} {w w' : World} (h : SeSt W p m rp long L L1 w) (hb : Below w.heap.size w w') : SeSt W p m rp long L L1 w' := by
  obtain ⟨v, hv⟩ := h.ref
  exact ⟨h.see.below hb, ⟨v, hv.below hb⟩, h.good, h.below.trans (hb.mono h.below.size), h.old⟩
theorem SeSt.ne {W : World} {p m rp : Nat} {long : Int} {L L1 : List Wd} {w : World} (h : SeSt W p m rp long L L1 w) : m ≠ rp ∧ p ≠ rp := by
  obtain ⟨v, hv⟩ := h.ref
  refine ⟨fun e => ?_, fun e => ?_⟩
  · obtain ⟨es, clock, hb, _⟩ := h.see.own
    rw [e, hv.row] at hb
    cases hb
  · have h1 := h.see.row
    rw [e, hv.row] at h1
    have := Option.some.inj h1
    injection this with _ h2 _
    exact absurd h2 (by decide)
/-- The map written. -/
theorem SeSt.wrote {W : World} {p m rp : Nat} {long : Int} {L L1 L2 : List Wd} {w w' : World} (h : SeSt W p m rp long L L1 w) (hs : SeenAt w' p m long L2) (hg : w.grownBy w' (some m)) : SeSt W p m rp long L L2 w' := by
  obtain ⟨v, hv⟩ := h.ref
  refine ⟨hs, ⟨v, hv.same fun i c t hi _ => hg.block i (row_lt hi) fun e => ?_⟩, h.good, h.below.grown hg h.below.size (fun k hk => by cases hk; exact h.old.1), h.old⟩
  obtain ⟨es, clock, hb, _⟩ := h.see.own
  rw [← Option.some.inj e, hi] at hb
  cases hb
/-- The document's answer's block written. -/
theorem SeSt.reft {W : World} {p m rp : Nat} {long : Int} {L L1 L2 : List Wd} {w w' : World} (h : SeSt W p m rp long L L1 w) (hp : RsPost w rp long L2 w') (hG : GoodW L2) : SeSt W p m rp long L2 L1 w' := by
  obtain ⟨v', hv', hg⟩ := hp
  have hne := h.ne
  exact ⟨h.see.kept hg (by simpa using hne.2) (by simpa using hne.1), ⟨v', hv'⟩, hG, h.below.grown hg h.below.size (fun k hk => by cases hk; exact h.old.2), h.old⟩
theorem SeSt.ask {W : World} {p m rp : Nat} {long : Int} {L : List Wd} {w : World} (a : Nat → Addr) (h : SeSt W p m rp long L L w) (hE : Errs a W) (s : ByteArray) (t now : Int) (hs : s.size ≤ maxLen) :
    Calls Tryd.prog 8 #[.pointer (some ⟨p, 0, none⟩), .string s, .int .i64 t, .int .i64 now] w fun e w' => e = .returned (errV a (seenC long L s t now)) ∧ SeSt W p m rp long L (seenL long L s t now) w' :=
  (seAsk_any a p m long t now L s w h.see ((hE.below h.below).ev _) hs).mono fun _ _ ⟨h1, h2, h3⟩ => ⟨h1, h.wrote h2 h3⟩
theorem SeSt.refAsk {W : World} {p m rp : Nat} {long : Int} {L L1 : List Wd} {w : World} (h : SeSt W p m rp long L L1 w) (s : ByteArray) (t now : Int) (hs : s.size ≤ maxLen) :
    Calls Tryd.prog 11 #[.pointer (some ⟨rp, 0, none⟩), .string s, .int .i64 t, .int .i64 now] w fun e w' => e = .returned (.int .i64 (seenC long L s t now : Int)) ∧ SeSt W p m rp long (seenL long L s t now) L1 w' := by
  obtain ⟨v, hv⟩ := h.ref
  exact (refSeen_any rp long t now L v s w hv h.good h.see.ticks hs).mono fun _ _ ⟨h1, h2⟩ => ⟨h1, h.reft h2 (seenL_good h.good s t now)⟩
theorem SeSt.coded {W : World} {p m rp : Nat} {long : Int} {L L1 : List Wd} {w : World} (a : Nat → Addr) (h : SeSt W p m rp long L L1 w) (hE : Errs a W) (c : Nat) (hc : c ≤ 16) :
    Calls Tryd.prog 10 #[errV a c, .int .i64 (c : Int)] w fun e w' => e = .returned (.bool true) ∧ SeSt W p m rp long L L1 w' :=
  (coded_errV a c hc (c : Int) w (hE.below h.below)).mono fun _ _ ⟨h1, h2⟩ => ⟨by rw [h1]; simp, h.less h2⟩
theorem SeSt.cell {W : World} {p m rp : Nat} {long : Int} {L L1 : List Wd} {w : World} (h : SeSt W p m rp long L L1 w) {q : Addr} {x : Value} (hq : q.block < W.heap.size) (hx : W.cell? q = some x) : w.cell? q = some x :=
  (h.below.cell hq).trans hx
/-- The document's answer's row, read: as many as there are. -/
theorem SeSt.len {W : World} {p m rp : Nat} {long : Int} {L L1 : List Wd} {w : World} (h : SeSt W p m rp long L L1 w) : ∃ ad cap, w.cell? ⟨rp, 1, none⟩ = some (.slice ad L.length cap) := by
  obtain ⟨v, hv⟩ := h.ref
  obtain ⟨ad, cap, rfl, _⟩ := own_readW hv.own
  exact ⟨ad, cap, hv.cells.2⟩
end Go.Proofs.YtgagekcjdapkfadDoor

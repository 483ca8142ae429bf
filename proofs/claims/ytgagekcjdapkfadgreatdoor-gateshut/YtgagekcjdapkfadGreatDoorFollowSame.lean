/-
  The law of FollowSame: whoever takes a feed at once has what one has who took it step by step: it returns true for every input.
-/
import Derived.Test.YtgagekcjdapkfadGreatDoorFollowLaw
import Derived.Deep.DeepCutAuto
namespace Go.Proofs.YtgagekcjdapkfadGreatDoor
open Go.RowKit Go.Extern.Stop Go.Stop Go.Extern Go.Proofs

/-- Numbers that came in. -/
def IntsIn (w : World) (v : Value) (st : List Int) : Prop := ∃ ad cap, v = .slice ad st.length cap ∧ st.length ≤ cap ∧ (0 < st.length → ∃ b o, ad = some ⟨b, o, none⟩ ∧ b < w.heap.size ∧ ∀ i x, st[i]? = some x → w.cell? ⟨b, o + i, none⟩ = some (.int .i64 x))
theorem shortE {l : List En} (h : longE l = false) : (∀ e ∈ l, e.fl.who.size ≤ maxLen) ∧ l.length ≤ 61 := ⟨fun e he => by
  have := (longE_no h).2 e he
  unfold maxLen; omega, (longE_no h).1⟩
/-- Both followers in memory: one who took all, one who has a beginning. -/
structure Both (w wr : World) (p q : Nat) (key : Int) (l : List En) (hd : ByteArray) (time : Int) (k : Nat) : Prop where
  below : Below w.heap.size w wr
  f : ∃ vf, FoAt wr p vf ⟨key, l, hd, time⟩
  g : ∃ vg h2 tm, FoAt wr q vg ⟨key, l.take k, h2, tm⟩ ∧ tm ≤ newL (l.take k)
theorem Both.step {w wr wz : World} {p q : Nat} {key : Int} {l : List En} {hd : ByteArray} {time : Int} {k : Nat} (h : Both w wr p q key l hd time k) (hb : Below wr.heap.size wr wz) : Both w wz p q key l hd time k := by
  obtain ⟨h1, ⟨vf, h2⟩, ⟨vg, x, tm, h3, h4⟩⟩ := h
  exact ⟨h1.trans (hb.mono h1.size), ⟨vf, h2.below hb⟩, ⟨vg, x, tm, h3.below hb, h4⟩⟩
theorem Both.turn {w wr wz : World} {p q : Nat} {key : Int} {l : List En} {hd : ByteArray} {time : Int} {k k' : Nat} (h : Both w wr p q key l hd time k) (hq : w.heap.size ≤ q) (hpq : p ≠ q) (hg : wr.grownBy wz (some q)) {v' : Value} {h2 : ByteArray} (hF : FoAt wz q v' ⟨key, l.take k', h2, newL (l.take k')⟩) : Both w wz p q key l hd time k' := by
  obtain ⟨h1, ⟨vf, h3⟩, ⟨vg, x, tm, h4, h5⟩⟩ := h
  exact ⟨h1.grown hg h1.size (fun j hj => by cases hj; exact hq), ⟨vf, h3.grown h4.row hpq hg⟩, ⟨v', h2, _, hF, Int.le_refl _⟩⟩

/-- What lies in a part of entries. -/
theorem EnAt.part {w : World} {ad : Option Addr} {n cap : Nat} {l : List En} (h : EnAt w (.slice ad n cap) l) (k j : Nat) (hkj : k ≤ j) (hj : j ≤ l.length) (hc : n ≤ cap) :
    EnAt w (.slice (if cap = k then ad else ad.map (·.add (k * 4))) (j - k) (cap - k)) ((l.take j).drop k) := by
  rcases h with ⟨ad', cap', e, rfl⟩ | ⟨b, off, cap', e, h2, h3⟩
  · have hj0 : j = 0 := by simpa using hj
    subst hj0
    exact Or.inl ⟨_, _, by rw [Nat.zero_sub], by simp⟩
  · injection e with e1 e2 e3
    subst e1; subst e3; subst e2
    by_cases hck : cap = k
    · rw [if_pos hck]
      have : j = k := by omega
      subst this
      exact Or.inl ⟨_, _, by rw [Nat.sub_self], by rw [List.drop_of_length_le (by rw [List.length_take]; omega)]⟩
    · rw [if_neg hck]
      refine Or.inr ⟨b, off + k * 4, cap - k, ?_, ?_, fun i u hu => ?_⟩
      · rw [List.length_drop, List.length_take, Nat.min_eq_left hj]
        show Value.slice (some ((⟨b, off, none⟩ : Addr).add (k * 4))) _ _ = _
        rw [Addr.add_lit]
      · rw [List.length_drop, List.length_take, Nat.min_eq_left hj]
        omega
      · rw [cellsE_drop, List.getElem?_drop, cellsE_take, List.getElem?_take] at hu
        split at hu
        · rw [Nat.add_assoc]; exact h3 _ u hu
        · cases hu
theorem EnAt.first {w : World} {ad : Option Addr} {n cap : Nat} {l : List En} (h : EnAt w (.slice ad n cap) l) (j : Nat) (hj : j ≤ l.length) : EnAt w (.slice ad j cap) (l.take j) := by
  rcases h with ⟨ad', cap', e, rfl⟩ | ⟨b, off, cap', e, h2, h3⟩
  · have hj0 : j = 0 := by simpa using hj
    subst hj0
    exact Or.inl ⟨_, _, rfl, by simp⟩
  · injection e with e1 e2 e3
    subst e1; subst e3
    exact EnAt.take h2 h3 j hj

theorem EnAt.cut {w : World} {ad : Option Addr} {n cap : Nat} {l : List En} (h : EnAt w (.slice ad n cap) l) (k j : Nat) (hkj : k ≤ j) (hj : j ≤ l.length) (hc : n ≤ cap) :
    (cap = k → EnAt w (.slice ad (j - k) 0) ((l.take j).drop k)) ∧ (¬ cap = k → EnAt w (.slice (Option.map (fun x => x.add (k * 4)) ad) (j - k) (cap - k)) ((l.take j).drop k)) := by
  have hp := EnAt.part h k j hkj hj hc
  refine ⟨fun e => ?_, fun e => ?_⟩
  · rw [if_pos e, show cap - k = 0 by omega] at hp
    exact hp
  · rw [if_neg e] at hp
    exact hp
/-- A head of a beginning; what is taken behind a beginning. -/
theorem head_take {key : Int} {l : List En} {time : Int} (hc : (headC key l time).1 = 0) (m : Nat) (hm : m ≤ l.length) : (headC key (l.take m) (newL (l.take m))).1 = 0 := by
  obtain ⟨h1, h2, h3, h4⟩ := headC_zero hc
  have hf := (floors_zero h2).1
  have hn := new_mono hf m (l.length - m) (by omega)
  rw [show m + (l.length - m) = l.length by omega, List.take_length] at hn
  have h0 := new_nonneg (feed_take hf m)
  unfold headC
  rw [if_pos h1, if_pos (floors_take h2 m), if_pos ⟨⟨h0, by omega⟩, Int.le_refl _⟩]
theorem take_rest {key : Int} {l : List En} {time : Int} (hc : (headC key l time).1 = 0) {k : Nat} (hk : k ≤ l.length) {h2 : ByteArray} {tm : Int} (ht : tm ≤ newL (l.take k)) :
    takeC ⟨key, l.take k, h2, tm⟩ (txt (headT key l time)) (l.drop k) = 0 ∧ takeS ⟨key, l.take k, h2, tm⟩ (txt (headT key l time)) (l.drop k) = ⟨key, l, txt (headT key l time), time⟩ := by
  obtain ⟨h1, h3, h4, h5⟩ := headC_zero hc
  have hn := new_mono (floors_zero h3).1 k (l.length - k) (by omega)
  rw [show k + (l.length - k) = l.length by omega, List.take_length] at hn
  have h := take_made (s := ⟨key, l.take k, h2, tm⟩) (m := l.drop k) (time := time) (by show (headC key (l.take k ++ l.drop k) time).1 = 0; rw [List.take_append_drop]; exact hc) (by show tm ≤ time; omega)
  dsimp only at h
  rw [List.take_append_drop] at h
  exact h

end Go.Proofs.YtgagekcjdapkfadGreatDoor

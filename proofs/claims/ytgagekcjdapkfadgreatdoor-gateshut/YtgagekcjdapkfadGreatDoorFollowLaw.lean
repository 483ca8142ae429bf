/-
  The chapter's laws, plainly: what is taken with a head that was made, beginnings of a feed, floors that rise; and the closed fact of its statements.
-/
import Derived.Test.YtgagekcjdapkfadGreatDoorFollowTake
import Derived.Test.YtgagekcjdapkfadGreatDoorFeedFed
import Derived.Test.YtgagekcjdapkfadGreatDoorRefPb
namespace Go.Proofs.YtgagekcjdapkfadGreatDoor
open Go.RowKit Go.Extern.Stop Go.Stop Go.Extern Go.Proofs

theorem bad_take {l : List En} {k i : Nat} (hi : i < k) : badE (l.take k) i = badE l i := by
  unfold badE
  rw [List.getElem?_take_of_lt hi, List.take_take, Nat.min_eq_left (Nat.le_of_lt hi)]
theorem feed_take {l : List En} (h : (feedC l).1 = 0) (k : Nat) : (feedC (l.take k)).1 = 0 := by
  obtain ⟨h1, h2⟩ := feed_zero h
  rw [feed_good (by rw [List.length_take]; omega) (fun j hj => ?_)]
  rw [List.length_take] at hj
  rw [bad_take (by omega)]
  exact h2 j (by omega)
theorem floors_take {l : List En} (h : (floorsC l).1 = 0) (k : Nat) : (floorsC (l.take k)).1 = 0 := by
  obtain ⟨h1, h2⟩ := floors_zero h
  cases hf : flsO (l.take k) with
  | none => rw [fls_cut l k hf] at h2; cases h2
  | some b => rw [(floors_some (feed_take h1 k) hf).1]
theorem step_rise {x b : List Fl} (hr : RightF x) : ∀ (l : List En), l.foldl stepO (some x) = some b → ∀ n, ofL x n ≤ ofL b n
  | [], h, n => by
    obtain rfl : x = b := Option.some.inj h
    exact Int.le_refl _
  | e :: l, h, n => by
    by_cases h0 : (raiseC x e.fl).1 = 0
    · obtain ⟨_, hf, hr2, _⟩ := raiseC_zero h0
      rw [List.foldl_cons, show stepO (some x) e = some (raisedL x e.fl) from if_pos h0] at h
      refine Int.le_trans ?_ (step_rise hr2 l h n)
      rw [of_raised hr hf]
      exact up_le e.fl n _
    · exfalso
      rw [List.foldl_cons, show stepO (some x) e = none from if_neg h0, step_none] at h
      cases h
/-- Floors only rise. -/
theorem floors_rise {l : List En} (h : (floorsC l).1 = 0) (k : Nat) (n : List UInt8) : ofL (floorsR (l.take k)) n ≤ ofL (floorsR l) n := by
  obtain ⟨h1, h2⟩ := floors_zero h
  obtain ⟨h3, h4⟩ := floors_zero (floors_take h k)
  obtain ⟨h5, _⟩ := floors_right (l.take k)
  refine step_rise h5 (l.drop k) ?_ n
  have e := congrArg flsO (List.take_append_drop k l)
  unfold flsO at e h2 h4
  rw [List.foldl_append, h4, h2] at e
  exact e
theorem time_at {l : List En} (h : (feedC l).1 = 0) (i : Nat) (hi : i < l.length) : newL (l.take i) ≤ l[i].time := by
  have := (feed_zero h).2 i hi
  rw [bad_at hi] at this
  exact (ent_zero this).2.2.2.1
theorem new_take {l : List En} {i : Nat} (hi : i < l.length) : newL (l.take (i + 1)) = l[i].time := by
  rw [newL_last (m := i) (by rw [List.length_take]; omega)]
  rw [List.getElem_take]
theorem new_mono {l : List En} (h : (feedC l).1 = 0) (j k : Nat) (hk : j + k ≤ l.length) : newL (l.take j) ≤ newL (l.take (j + k)) := by
  induction k with
  | zero => exact Int.le_refl _
  | succ k ih =>
    refine Int.le_trans (ih (by omega)) ?_
    rw [show j + (k + 1) = j + k + 1 by omega, new_take (by omega)]
    exact time_at h _ (by omega)
theorem txt_data (l : List UInt8) : (txt l).data.toList = l := by rw [txt_list]

/-- What is taken with a head that was made of all. -/
theorem take_made {s : Fo} {m : List En} {time : Int} (hc : (headC s.key (s.l ++ m) time).1 = 0) (ht : s.time ≤ time) :
    takeC s (txt (headT s.key (s.l ++ m) time)) m = 0 ∧ takeS s (txt (headT s.key (s.l ++ m) time)) m = ⟨s.key, s.l ++ m, txt (headT s.key (s.l ++ m) time), time⟩ := by
  obtain ⟨h1, h2⟩ := head_open hc
  obtain ⟨_, hf, _, _⟩ := headC_zero hc
  unfold takeC takeS
  rw [txt_list, h1, h2, if_pos rfl]
  dsimp only
  rw [if_neg (by omega), if_pos (by rw [List.length_append]; omega), if_pos (floors_zero hf).1, if_pos]
  · exact ⟨rfl, rfl⟩
  · unfold tellsB
    rw [hf]
    simp
theorem open_empty (key : Int) : openHC key [] ≠ 0 := by
  have h1 : Sl.lookE [] = 1 := rfl
  have : Sl.openE key [] ≠ 0 := by
    unfold Sl.openE
    rw [h1]
    split
    · rw [if_neg (by decide)]; decide
    · decide
  unfold openHC
  rw [if_neg this]
  exact this
/-- What a Take without an error says. -/
theorem take_zero {s : Fo} {h : ByteArray} {m : List En} (h0 : takeC s h m = 0) : openHC s.key h.data.toList = 0 ∧ s.time ≤ (openHR s.key h.data.toList).t ∧ (openHR s.key h.data.toList).n = (s.l.length : Int) + (m.length : Int) ∧ (floorsC (s.l ++ m)).1 = 0 := by
  unfold takeC at h0
  by_cases h1 : openHC s.key h.data.toList = 0
  · rw [if_pos h1] at h0
    by_cases h2 : (openHR s.key h.data.toList).t < s.time
    · rw [if_pos h2] at h0; cases h0
    · rw [if_neg h2] at h0
      by_cases h3 : (openHR s.key h.data.toList).n = (s.l.length : Int) + (m.length : Int)
      · rw [if_pos h3] at h0
        refine ⟨h1, by omega, h3, ?_⟩
        by_cases h4 : (feedC (s.l ++ m)).1 = 0
        · rw [if_pos h4] at h0
          by_cases h5 : tellsB (openHR s.key h.data.toList) (s.l ++ m) = true
          · unfold tellsB at h5
            simp only [Bool.and_eq_true, decide_eq_true_eq] at h5
            exact h5.1
          · rw [if_neg h5] at h0; cases h0
        · rw [if_neg h4] at h0; exact absurd h0 h4
      · rw [if_neg h3] at h0; cases h0
  · rw [if_neg h1] at h0; exact absurd h0 h1
/-- What one has behind a Take of news of a feed is a beginning of it, if it was. -/
theorem take_news {key : Int} {l : List En} {k many from' : Nat} {hd : ByteArray} {tm time : Int} (hm : many ≤ l.length) (hk : k ≤ l.length) (hf : from' ≤ many)
    (h0 : takeC ⟨key, l.take k, hd, tm⟩ (headX key (l.take many) time) ((l.take many).drop from') = 0) :
    k ≤ many ∧ (takeS ⟨key, l.take k, hd, tm⟩ (headX key (l.take many) time) ((l.take many).drop from')).l = l.take many ∧ tm ≤ (takeS ⟨key, l.take k, hd, tm⟩ (headX key (l.take many) time) ((l.take many).drop from')).time ∧ (floorsC (l.take many)).1 = 0 := by
  obtain ⟨h1, h2, h3, h4⟩ := take_zero h0
  dsimp only at h1 h2 h3 h4
  have hc : (headC key (l.take many) time).1 = 0 := by
    refine Decidable.byContradiction fun hn => ?_
    unfold headX at h1
    rw [if_neg hn] at h1
    exact open_empty key h1
  have hx : headX key (l.take many) time = txt (headT key (l.take many) time) := if_pos hc
  obtain ⟨e1, e2⟩ := head_open hc
  rw [hx, txt_list, e2] at h3
  dsimp only at h3
  rw [List.length_drop, List.length_take, List.length_take, Nat.min_eq_left hm, Nat.min_eq_left hk] at h3
  have hfk : from' = k := by omega
  subst hfk
  have hap : l.take from' ++ (l.take many).drop from' = l.take many := by
    have := List.take_append_drop from' (l.take many)
    rwa [List.take_take, Nat.min_eq_left hf] at this
  refine ⟨hf, hap, h2, ?_⟩
  rw [hap] at h4
  exact h4

theorem take_ann : takeC ⟨7, [], ⟨#[]⟩, -1⟩ (txt (headT 7 [enAnn] 4)) [enAnn] = 0 ∧ takeS ⟨7, [], ⟨#[]⟩, -1⟩ (txt (headT 7 [enAnn] 4)) [enAnn] = ⟨7, [enAnn], txt (headT 7 [enAnn] 4), 4⟩ :=
  take_made (s := ⟨7, [], ⟨#[]⟩, -1⟩) (m := [enAnn]) (time := 4) (by show (headC 7 [enAnn] 4).1 = 0; rw [head_ann]) (by decide)

end Go.Proofs.YtgagekcjdapkfadGreatDoor

/-
  A tree of followers of one feed, plainly: what each has, a beginning of the feed with the head that was made of it; a poll, all polls, a push; behind all polls all have what the root has.
  A tree of followers in memory: its block, its list of pointers, what is told of above, and each follower at a block of its own; it lasts where nothing of it is written, and where one follower is.
  What package relay's Many, Node, Push, pass and Poll give, for every tree whose followers each have a beginning of one feed with its head, none more than who is above.
  What the library's contracts ask of this program's own copies of its functions, each laid by the shelf's commands: cloneI.
  What package relay's check and New give: an error, or a tree whose followers have nothing yet; for every key and list of above.
  The closed fact of the chapter's statements; moves that came in, whether they are too many or too long.
  Moves that came in, opened: a slice's list.
-/
import Derived.Test.YtgagekcjdapkfacGreatDoorFollowNews
import Derived.Deep.RegionHeld3
import Derived.Deep.DeepCutAuto
import Derived.Shelf.SlicesE.Clone
import Derived.Shelf.SlGeneric
import Derived.Test.YtgagekcjdapkfacGreatDoorProg
import Derived.Deep.AppendLies
import Derived.Deep.RegionLaw
import Derived.Test.YtgagekcjdapkfacGreatDoorFoPo
namespace Go.Proofs.YtgagekcjdapkfacGreatDoor
open Go.RowKit Go.Extern.Stop Go.Stop Go.Extern Go.Proofs

/-- What a follower has: how many entries of the feed, the head and its time. -/
structure Nd where
  k : Nat
  hd : ByteArray
  tm : Int
def nd0 : Nd := ⟨0, ⟨#[]⟩, -1⟩
theorem nd0_empty : nd0.hd.toList.isEmpty = true := by rw [show nd0.hd = ⟨#[]⟩ from rfl, Lib.toList_data]; rfl
def ndFo (key : Int) (l : List En) (n : Nd) : Fo := ⟨key, l.take n.k, n.hd, n.tm⟩
/-- It has nothing, or a head that was made of what it has. -/
structure Made (key : Int) (l : List En) (n : Nd) : Prop where
  le : n.k ≤ l.length
  hd : n = nd0 ∨ ((headC key (l.take n.k) n.tm).1 = 0 ∧ n.hd = txt (headT key (l.take n.k) n.tm))
theorem made0 (key : Int) (l : List En) : Made key l nd0 := ⟨Nat.zero_le _, Or.inl rfl⟩
theorem txt_ne {key : Int} {l : List En} {t : Int} (h : (headC key l t).1 = 0) : txt (headT key l t) ≠ ⟨#[]⟩ := fun e => by
  have h1 := (head_open h).1
  have e2 : headT key l t = [] := by
    have := congrArg (fun x : ByteArray => x.data.toList) e
    simpa [txt_data] using this
  rw [e2] at h1
  exact open_empty key h1
theorem Made.empty {key : Int} {l : List En} {n : Nd} (h : Made key l n) (he : n.hd = ⟨#[]⟩) : n = nd0 := by
  rcases h.hd with h1 | ⟨h1, h2⟩
  · exact h1
  · exact absurd (h2.symm.trans he) (txt_ne h1)
theorem nd_ext {n m : Nd} (h1 : n.k = m.k) (h2 : n.hd = m.hd) (h3 : n.tm = m.tm) : n = m := by
  cases n; cases m; simp_all
/-- One head: one and the same. -/
theorem Made.same {key : Int} {l : List En} {n m : Nd} (hn : Made key l n) (hm : Made key l m) (he : n.hd = m.hd) : n = m := by
  rcases hm.hd with h1 | ⟨h1, h2⟩
  · subst h1; exact hn.empty he
  · rcases hn.hd with h3 | ⟨h3, h4⟩
    · subst h3; exact (hm.empty he.symm).symm
    · have e := he
      rw [h4, h2] at e
      have e2 : headT key (l.take n.k) n.tm = headT key (l.take m.k) m.tm := by
        have := congrArg (fun x : ByteArray => x.data.toList) e
        simpa [txt_data] using this
      have a1 := (head_open h3).2
      have a2 := (head_open h1).2
      rw [e2, a2] at a1
      injection a1 with b1 b2 b3
      rw [List.length_take, List.length_take, Nat.min_eq_left hn.le, Nat.min_eq_left hm.le] at b1
      exact nd_ext (by omega) he b2.symm
/-- No more than another one. -/
def Nd.le (n u : Nd) : Prop := n.k ≤ u.k ∧ n.tm ≤ u.tm
theorem Nd.le_refl (n : Nd) : n.le n := ⟨Nat.le_refl _, Int.le_refl _⟩
theorem Nd.le_trans {a b c : Nd} (h1 : a.le b) (h2 : b.le c) : a.le c := ⟨Nat.le_trans h1.1 h2.1, Int.le_trans h1.2 h2.2⟩

/-- The number of a poll's error, of one below another one. -/
def pollE (u n : Nd) : Nat := if u.hd.toList.isEmpty = true then 5 else if u.hd.toList = n.hd.toList then 12 else 0
theorem toList_inj {a b : ByteArray} (h : a.toList = b.toList) : a = b := by
  rw [Lib.toList_data, Lib.toList_data] at h
  cases a; cases b
  simp only [ByteArray.mk.injEq]
  exact Array.toList_inj.1 h
theorem toList_empty {a : ByteArray} (h : a.toList.isEmpty = true) : a = ⟨#[]⟩ := by
  apply toList_inj
  rw [List.isEmpty_iff.1 h, Lib.toList_data]
theorem poll_same (n : Nd) : pollE n n ≠ 0 := by
  unfold pollE
  split
  · decide
  · rw [if_pos rfl]; decide
/-- With an error there was no more. -/
theorem poll_err {key : Int} {l : List En} {u n : Nd} (hu : Made key l u) (hn : Made key l n) (hle : n.le u) (h : pollE u n ≠ 0) : n = u := by
  unfold pollE at h
  by_cases h1 : u.hd.toList.isEmpty = true
  · have hu0 := hu.empty (toList_empty h1)
    subst hu0
    rcases hn.hd with h2 | ⟨h2, h3⟩
    · exact h2
    · exfalso
      have h4 := (headC_zero h2).2.2.1.1
      have := hle.2
      have e : nd0.tm = -1 := rfl
      omega
  · rw [if_neg h1] at h
    by_cases h2 : u.hd.toList = n.hd.toList
    · exact hn.same hu (toList_inj h2.symm)
    · rw [if_neg h2] at h; exact absurd rfl h
/-- What a poll without an error takes. -/
theorem poll_takes {key : Int} {l : List En} {u n : Nd} (hu : Made key l u) (hle : n.le u) (h : ¬ u.hd.toList.isEmpty = true) :
    takeC (ndFo key l n) u.hd ((l.take u.k).drop n.k) = 0 ∧ takeS (ndFo key l n) u.hd ((l.take u.k).drop n.k) = ndFo key l u := by
  rcases hu.hd with h1 | ⟨h1, h2⟩
  · exfalso
    subst h1
    exact h nd0_empty
  · have hap : l.take n.k ++ (l.take u.k).drop n.k = l.take u.k := by
      have := List.take_append_drop n.k (l.take u.k)
      rwa [List.take_take, Nat.min_eq_left hle.1] at this
    have := take_made (s := ndFo key l n) (m := (l.take u.k).drop n.k) (time := u.tm) (by show (headC key (l.take n.k ++ (l.take u.k).drop n.k) u.tm).1 = 0; rw [hap]; exact h1) hle.2
    dsimp only [ndFo] at this ⊢
    rw [hap] at this
    rw [h2]
    exact this
/-- What is taken of news of the feed. -/
theorem push_news {key : Int} {l : List En} {n : Nd} {M F : Nat} {time : Int} (hn : n.k ≤ l.length) (hm : M ≤ l.length) (hf : F ≤ M)
    (h0 : takeC (ndFo key l n) (headX key (l.take M) time) ((l.take M).drop F) = 0) :
    ∃ u, takeS (ndFo key l n) (headX key (l.take M) time) ((l.take M).drop F) = ndFo key l u ∧ Made key l u ∧ n.le u := by
  obtain ⟨h1, h2, h3, h4⟩ := take_news hm hn hf h0
  have hc : (headC key (l.take M) time).1 = 0 := by
    refine Decidable.byContradiction fun hx => ?_
    have h5 := (take_zero h0).1
    unfold headX at h5
    rw [if_neg hx] at h5
    exact open_empty key h5
  have hx : headX key (l.take M) time = txt (headT key (l.take M) time) := if_pos hc
  have ht : (openHR key (headX key (l.take M) time).data.toList).t = time := by rw [hx, txt_data, (head_open hc).2]
  refine ⟨⟨M, headX key (l.take M) time, time⟩, ?_, ⟨hm, Or.inr ⟨hc, hx⟩⟩, h1, ?_⟩
  · unfold takeS at h2
    unfold takeS ndFo
    dsimp only at h2 ⊢
    rw [h2, ht]
  · unfold takeS at h3
    dsimp only at h3
    rw [ht] at h3
    exact h3

/-- Who is above: of i it is told for the follower i and 1. -/
def up (ab : List Int) (i : Nat) : Nat := (ab.getD (i - 1) 0).toNat
def Right (ab : List Int) : Prop := ∀ (i : Nat) (x : Int), ab[i]? = some x → 0 ≤ x ∧ x ≤ (i : Int)
theorem up_lt {ab : List Int} (h : Right ab) {i : Nat} (h1 : 1 ≤ i) (h2 : i ≤ ab.length) : up ab i < i := by
  unfold up
  have hi : i - 1 < ab.length := by omega
  have := h (i - 1) _ (List.getElem?_eq_getElem hi)
  rw [List.getD_eq_getElem?_getD, List.getElem?_eq_getElem hi]
  show (ab[i - 1]).toNat < i
  omega
theorem up_at {ab : List Int} (h : Right ab) {i : Nat} (hi : i < ab.length) : ab[i] = ((up ab (i + 1) : Nat) : Int) := by
  unfold up
  have := h i _ (List.getElem?_eq_getElem hi)
  rw [List.getD_eq_getElem?_getD, Nat.add_sub_cancel, List.getElem?_eq_getElem hi]
  show ab[i] = ((ab[i]).toNat : Int)
  omega
/-- What holds at any time: each has a beginning of the feed with its head, none more than who is above. -/
structure Tre (key : Int) (l : List En) (ab : List Int) (nd : Nat → Nd) : Prop where
  made : ∀ i, i ≤ ab.length → Made key l (nd i)
  ord : ∀ i, 1 ≤ i → i ≤ ab.length → (nd i).le (nd (up ab i))
def setN (nd : Nat → Nd) (i : Nat) (u : Nd) : Nat → Nd := fun j => if j = i then u else nd j
theorem setN_at (nd : Nat → Nd) (i : Nat) (u : Nd) : setN nd i u i = u := if_pos rfl
theorem setN_ne (nd : Nat → Nd) {i j : Nat} (u : Nd) (h : j ≠ i) : setN nd i u j = nd j := if_neg h
theorem setN_self (nd : Nat → Nd) (i : Nat) (u : Nd) (h : nd i = u) : setN nd i u = nd := by
  funext j
  unfold setN
  split
  · rename_i e; rw [e, h]
  · rfl
theorem tre0 (key : Int) (l : List En) (ab : List Int) : Tre key l ab (fun _ => nd0) := ⟨fun _ _ => made0 _ _, fun _ _ _ => Nd.le_refl _⟩
theorem Tre.poll {key : Int} {l : List En} {ab : List Int} {nd : Nat → Nd} (h : Tre key l ab nd) (hr : Right ab) {i : Nat} (h1 : 1 ≤ i) (h2 : i ≤ ab.length) : Tre key l ab (setN nd i (nd (up ab i))) := by
  have hui := up_lt hr h1 h2
  refine ⟨fun j hj => ?_, fun j hj1 hj2 => ?_⟩
  · by_cases e : j = i
    · rw [e, setN_at]; exact h.made _ (by omega)
    · rw [setN_ne _ _ e]; exact h.made j hj
  · by_cases e : j = i
    · rw [e, setN_at, setN_ne _ _ (by omega)]; exact Nd.le_refl _
    · rw [setN_ne _ _ e]
      by_cases e2 : up ab j = i
      · rw [e2, setN_at]
        have h3 := h.ord j hj1 hj2
        rw [e2] at h3
        exact Nd.le_trans h3 (h.ord i h1 h2)
      · rw [setN_ne _ _ e2]; exact h.ord j hj1 hj2
theorem Tre.push {key : Int} {l : List En} {ab : List Int} {nd : Nat → Nd} (h : Tre key l ab nd) {u : Nd} (hu : Made key l u) (hle : (nd 0).le u) : Tre key l ab (setN nd 0 u) := by
  refine ⟨fun j hj => ?_, fun j hj1 hj2 => ?_⟩
  · by_cases e : j = 0
    · rw [e, setN_at]; exact hu
    · rw [setN_ne _ _ e]; exact h.made j hj
  · rw [setN_ne nd (i := 0) (j := j) u (by omega)]
    by_cases e2 : up ab j = 0
    · rw [e2, setN_at]
      have h3 := h.ord j hj1 hj2
      rw [e2] at h3
      exact Nd.le_trans h3 hle
    · rw [setN_ne _ _ e2]; exact h.ord j hj1 hj2

/-- The first so many poll, in order: what all have then, and how many took something. -/
def polls (ab : List Int) (nd : Nat → Nd) : Nat → (Nat → Nd) × Nat
  | 0 => (nd, 0)
  | m + 1 => (setN (polls ab nd m).1 (m + 1) ((polls ab nd m).1 (up ab (m + 1))), (polls ab nd m).2 + (if pollE ((polls ab nd m).1 (up ab (m + 1))) ((polls ab nd m).1 (m + 1)) = 0 then 1 else 0))
theorem polls_tre {key : Int} {l : List En} {ab : List Int} {nd : Nat → Nd} (h : Tre key l ab nd) (hr : Right ab) : ∀ m, m ≤ ab.length → Tre key l ab (polls ab nd m).1
  | 0, _ => h
  | m + 1, hm => (polls_tre h hr m (by omega)).poll hr (by omega) hm
theorem polls_le (ab : List Int) (nd : Nat → Nd) : ∀ m, (polls ab nd m).2 ≤ m
  | 0 => Nat.le_refl _
  | m + 1 => by
    have := polls_le ab nd m
    show (polls ab nd m).2 + (if _ then 1 else 0) ≤ m + 1
    split <;> omega
/-- Behind it they have what the root has; the others what they had. -/
theorem polls_at {ab : List Int} {nd : Nat → Nd} (hr : Right ab) : ∀ m, m ≤ ab.length → (∀ j, j ≤ m → (polls ab nd m).1 j = nd 0) ∧ (∀ j, m < j → (polls ab nd m).1 j = nd j)
  | 0, _ => ⟨fun j hj => by obtain rfl : j = 0 := Nat.le_zero.1 hj; rfl, fun _ _ => rfl⟩
  | m + 1, hm => by
    obtain ⟨h1, h2⟩ := polls_at (nd := nd) hr m (by omega)
    have hu := up_lt hr (i := m + 1) (by omega) hm
    refine ⟨fun j hj => ?_, fun j hj => ?_⟩
    · show setN _ _ _ j = _
      by_cases e : j = m + 1
      · rw [e, setN_at]; exact h1 _ (by omega)
      · rw [setN_ne _ _ e]; exact h1 j (by omega)
    · show setN _ _ _ j = _
      rw [setN_ne _ _ (by omega)]
      exact h2 j (by omega)
/-- Where all have the same nobody takes something. -/
theorem polls_none {ab : List Int} {nd : Nat → Nd} (hr : Right ab) (h : ∀ j, j ≤ ab.length → nd j = nd 0) : ∀ m, m ≤ ab.length → (polls ab nd m).2 = 0
  | 0, _ => rfl
  | m + 1, hm => by
    obtain ⟨h1, h2⟩ := polls_at (nd := nd) hr m (by omega)
    have hu := up_lt hr (i := m + 1) (by omega) hm
    show (polls ab nd m).2 + (if _ then 1 else 0) = 0
    rw [polls_none hr h m (by omega), h1 _ (by omega), h2 _ (by omega), h _ hm, if_neg (poll_same _)]
end Go.Proofs.YtgagekcjdapkfacGreatDoor

namespace Go.Proofs.YtgagekcjdapkfacGreatDoor
open Go.RowKit Go.Extern.Stop Go.Stop Go.Extern Go.Proofs

abbrev trO (vf va : Value) : Obj := .cells #[vf, va] 136 (0, 0)
def cellsQ (ps : List Nat) : List Value := ps.map fun p => .pointer (some ⟨p, 0, none⟩)
def cellsZ (xs : List Int) : List Value := xs.map fun x => .int .i64 x
/-- Pointers of one's own; numbers of one's own. -/
abbrev OwnQ (w : World) (B : Nat) (v : Value) (ps : List Nat) : Prop := w.ownsRow B 65 1 v ps.length (cellsQ ps)
abbrev OwnZ (w : World) (B : Nat) (v : Value) (xs : List Int) : Prop := w.ownsRow B 3 1 v xs.length (cellsZ xs)
theorem own_at {w : World} {B : Nat} {e : TypeId} {v : Value} {n : Nat} {xs : List Value} (h : w.ownsRow B e 1 v n xs) {i : Nat} (hi : i < n) :
    ∃ g cap, v = .slice (some ⟨g, 0, none⟩) n cap ∧ n ≤ cap ∧ g < w.heap.size ∧ ∀ j u, xs[j]? = some u → w.cell? ⟨g, j, none⟩ = some u := by
  rcases h.2 with ⟨_, h0⟩ | ⟨g, cap, cur, rfl, hb, hg, hc, hm, hs, ht⟩
  · omega
  · refine ⟨g, cap, rfl, hc, row_lt hg, fun j u hu => ?_⟩
    rw [cell_of_row w g j cur _ _ hg]
    rw [← ht, List.getElem?_take] at hu
    split at hu
    · simpa using hu
    · cases hu
theorem own_below {w w' : World} {B : Nat} {e : TypeId} {v : Value} {n : Nat} {xs : List Value} (h : w.ownsRow B e 1 v n xs) (hb : Below w.heap.size w w') : w'.ownsRow B e 1 v n xs :=
  h.kept (grownOf hb none) (Classical.em _)
theorem own_form {w : World} {B : Nat} {e : TypeId} {v : Value} {n : Nat} {xs : List Value} (h : w.ownsRow B e 1 v n xs) : ∃ ad cap, v = .slice ad n cap ∧ n ≤ cap := by
  rcases h.2 with ⟨rfl, rfl⟩ | ⟨g, cap, cur, rfl, hb, hg, hc, _⟩
  · exact ⟨_, _, rfl, Nat.le_refl _⟩
  · exact ⟨_, _, rfl, hc⟩
/-- A row of another type is no follower's block. -/
theorem rown_ne {w : World} {B p : Nat} {e : TypeId} {v v2 : Value} {n : Nat} {xs : List Value} {key time : Int} {head : ByteArray} (h : w.ownsRow B e 1 v n xs) (he : e ≠ 129) (hp : w.heap[p]? = some (foO key v2 head time)) : v.ownBlock ≠ some p := fun e1 => by
  rcases h.2 with ⟨rfl, _⟩ | ⟨g, cap, cur, rfl, hb, hg, _⟩
  · cases e1
  · have e2 : g = p := Option.some.inj e1
    rw [e2, hp] at hg
    have := Option.some.inj hg
    injection this with _ h2 _
    exact he h2.symm
theorem tr_ne {w : World} {p q : Nat} {vf va v2 : Value} {key time : Int} {head : ByteArray} (h : w.heap[q]? = some (trO vf va)) (hp : w.heap[p]? = some (foO key v2 head time)) : q ≠ p := fun e1 => by
  rw [e1, hp] at h
  have := Option.some.inj h
  injection this with _ h2 _
  exact absurd h2 (by decide)

/-- A tree in memory: its block, the rows that it holds, and its followers' blocks, none below B. -/
structure TrAt (w : World) (B pt : Nat) (vf va : Value) (key : Int) (l : List En) (ab : List Int) (ps : List Nat) (nd : Nat → Nd) : Prop where
  row : w.heap[pt]? = some (trO vf va)
  fs : OwnQ w B vf ps
  above : OwnZ w B va ab
  f : ∀ (i p : Nat), ps[i]? = some p → B ≤ p ∧ ∃ v, FoAt w p v (ndFo key l (nd i))
  len : ps.length = ab.length + 1
  one : ∀ (i j p : Nat), ps[i]? = some p → ps[j]? = some p → i = j
theorem TrAt.below {w w' : World} {B pt : Nat} {vf va : Value} {key : Int} {l : List En} {ab : List Int} {ps : List Nat} {nd : Nat → Nd} (h : TrAt w B pt vf va key l ab ps nd) (hb : Below w.heap.size w w') : TrAt w' B pt vf va key l ab ps nd :=
  ⟨(hb.block pt (row_lt h.row)).trans h.row, own_below h.fs hb, own_below h.above hb, fun i p hi => by
    obtain ⟨h1, v, h2⟩ := h.f i p hi
    exact ⟨h1, v, h2.below hb⟩, h.len, h.one⟩
theorem TrAt.turn {w w' : World} {B pt : Nat} {vf va : Value} {key : Int} {l : List En} {ab : List Int} {ps : List Nat} {nd : Nat → Nd} (h : TrAt w B pt vf va key l ab ps nd) {i p : Nat} (hi : ps[i]? = some p) (hg : w.grownBy w' (some p)) {v' : Value} {u : Nd} (hF : FoAt w' p v' (ndFo key l u)) : TrAt w' B pt vf va key l ab ps (setN nd i u) := by
  obtain ⟨hpb, v, hv⟩ := h.f i p hi
  refine ⟨(hg.block pt (row_lt h.row) (fun e => tr_ne h.row hv.row (Option.some.inj e))).trans h.row, h.fs.kept hg (Or.inr (rown_ne h.fs (by decide) hv.row)), h.above.kept hg (Or.inr (rown_ne h.above (by decide) hv.row)), fun j q hj => ?_, h.len, h.one⟩
  obtain ⟨h1, v2, h2⟩ := h.f j q hj
  by_cases e : j = i
  · subst e
    have hpq : p = q := Option.some.inj (hi.symm.trans hj)
    subst hpq
    rw [setN_at]
    exact ⟨h1, _, hF⟩
  · rw [setN_ne _ _ e]
    exact ⟨h1, _, h2.grown hv.row (fun e2 => e (h.one j i q hj (by rw [e2]; exact hi))) hg⟩
/-- A follower's place. -/
theorem TrAt.at {w : World} {B pt : Nat} {vf va : Value} {key : Int} {l : List En} {ab : List Int} {ps : List Nat} {nd : Nat → Nd} (h : TrAt w B pt vf va key l ab ps nd) {i : Nat} (hi : i ≤ ab.length) :
    ∃ g cap p, vf = .slice (some ⟨g, 0, none⟩) (ab.length + 1) cap ∧ ab.length + 1 ≤ cap ∧ w.cell? ⟨g, i, none⟩ = some (.pointer (some ⟨p, 0, none⟩)) ∧ ps[i]? = some p := by
  have hl := h.len
  have hlt : i < ps.length := by omega
  obtain ⟨g, cap, h1, h2, _, h3⟩ := own_at h.fs hlt
  rw [hl] at h1 h2
  refine ⟨g, cap, ps[i], h1, h2, h3 i _ ?_, List.getElem?_eq_getElem hlt⟩
  unfold cellsQ
  rw [List.getElem?_map, List.getElem?_eq_getElem hlt]
  rfl
theorem TrAt.up {w : World} {B pt : Nat} {vf va : Value} {key : Int} {l : List En} {ab : List Int} {ps : List Nat} {nd : Nat → Nd} (h : TrAt w B pt vf va key l ab ps nd) (hr : Right ab) {i : Nat} (hi : i < ab.length) :
    ∃ g cap, va = .slice (some ⟨g, 0, none⟩) ab.length cap ∧ ab.length ≤ cap ∧ w.cell? ⟨g, i, none⟩ = some (.int .i64 (Go.Proofs.YtgagekcjdapkfacGreatDoor.up ab (i + 1) : Nat)) := by
  obtain ⟨g, cap, h1, h2, _, h3⟩ := own_at h.above hi
  refine ⟨g, cap, h1, h2, h3 i _ ?_⟩
  unfold cellsZ
  rw [List.getElem?_map, List.getElem?_eq_getElem hi, ← up_at hr hi]
  rfl
theorem TrAt.form {w : World} {B pt : Nat} {vf va : Value} {key : Int} {l : List En} {ab : List Int} {ps : List Nat} {nd : Nat → Nd} (h : TrAt w B pt vf va key l ab ps nd) :
    ∃ g cap, vf = .slice (some ⟨g, 0, none⟩) (ab.length + 1) cap ∧ ab.length + 1 ≤ cap := by
  obtain ⟨g, cap, p, h1, h2, _⟩ := h.at (Nat.zero_le _)
  exact ⟨g, cap, h1, h2⟩
theorem own_less {w : World} {B B' : Nat} {e : TypeId} {v : Value} {n : Nat} {xs : List Value} (h : w.ownsRow B e 1 v n xs) (hb : B' ≤ B) : w.ownsRow B' e 1 v n xs := by
  refine ⟨h.1, ?_⟩
  rcases h.2 with g | ⟨g, cap, cur, e, h1, h2⟩
  · exact Or.inl g
  · exact Or.inr ⟨g, cap, cur, e, Nat.le_trans hb h1, h2⟩
theorem TrAt.less {w : World} {B B' pt : Nat} {vf va : Value} {key : Int} {l : List En} {ab : List Int} {ps : List Nat} {nd : Nat → Nd} (h : TrAt w B pt vf va key l ab ps nd) (hb : B' ≤ B) : TrAt w B' pt vf va key l ab ps nd :=
  ⟨h.row, own_less h.fs hb, own_less h.above hb, fun i p hi => ⟨Nat.le_trans hb (h.f i p hi).1, (h.f i p hi).2⟩, h.len, h.one⟩
theorem tr_cells {w : World} {p : Nat} {vf va : Value} (h : w.heap[p]? = some (trO vf va)) : w.cell? ⟨p, 0, none⟩ = some vf ∧ w.cell? ⟨p, 1, none⟩ = some va :=
  ⟨cell_of_row w p 0 _ _ _ h, cell_of_row w p 1 _ _ _ h⟩
end Go.Proofs.YtgagekcjdapkfacGreatDoor

namespace Go.Proofs.YtgagekcjdapkfacGreatDoor
open Go.RowKit Go.Extern.Stop Go.Stop Go.Extern Go.Proofs

/-- What relay reads of the world: follow's, and one error more. -/
structure EnvR (a : Nat → Addr) (w : World) : Prop where
  env : EnvW a w
  enone : w.cell? ⟨5, 0, none⟩ = some (eV (a 4))
theorem EnvR.below {a : Nat → Addr} {w w' : World} (h : EnvR a w) (hb : Below w.heap.size w w') : EnvR a w' :=
  ⟨h.env.below hb, by rw [hb.cell (p := ⟨5, 0, none⟩) (cell_lt h.enone)]; exact h.enone⟩

theorem trMany_any (w : World) (pt : Nat) (ad : Option Addr) (n cap : Nat) (va : Value) (h : w.heap[pt]? = some (trO (.slice ad n cap) va)) :
    Calls Tryz.prog 51 #[.pointer (some ⟨pt, 0, none⟩)] w fun e w' => e = .returned (.int .i64 n) ∧ w' = w := by
  obtain ⟨c0, c1⟩ := tr_cells h
  clear h
  go_enter Tryz.func51, Tryz.ntmps51
  go_wp2
  go_ret
  exact ⟨rfl, rfl⟩

set_option maxRecDepth 100000 in
set_option maxHeartbeats 1000000 in
theorem trNode_any (w : World) (B pt : Nat) (vf va : Value) (key : Int) (l : List En) (ab : List Int) (ps : List Nat) (nd : Nat → Nd) (h : TrAt w B pt vf va key l ab ps nd) (i : Nat) (hi : i ≤ ab.length) (hl : l.length ≤ 1000000) :
    Calls Tryz.prog 50 #[.pointer (some ⟨pt, 0, none⟩), .int .i64 i] w fun e w' => ∃ q v', w.heap.size ≤ q ∧ e = .returned (.pointer (some ⟨q, 0, none⟩)) ∧ FoAt w' q v' (ndFo key l (nd i)) ∧ Below w.heap.size w w' := by
  obtain ⟨g, cap, p, rfl, hcap, hcell, hps⟩ := h.at hi
  obtain ⟨_, v, hv⟩ := h.f i p hps
  have HCp := hide (foCopy_any w p v (ndFo key l (nd i)) hv (by show (l.take _).length ≤ _; rw [List.length_take]; omega))
  have HMn := hide (trMany_any w pt _ _ _ _ h.row)
  obtain ⟨c0, c1⟩ := tr_cells h.row
  have hlt : i < ab.length + 1 := by omega
  clear h hps hv hi
  generalize ab.length + 1 = m at *
  have hz0 : ¬ (i : Int) < 0 := by omega
  have hz1 : ¬ (m : Int) ≤ (i : Int) := by omega
  go_enter Tryz.func50, Tryz.ntmps50
  go_wp2_with fail
  refine HMn.out.mono ?_
  rintro e w1 ⟨rfl, hw⟩
  subst hw
  clear HMn
  go_wp2_with fail
  refine HCp.out.mono ?_
  rintro e w2 ⟨q, v', hq, rfl, hF, hb⟩
  have HF := hide hF
  have HB := hide hb
  clear hF hb HCp
  go_wp2
  go_ret
  exact ⟨q, v', hq, rfl, HF.out, HB.out⟩

set_option maxRecDepth 100000 in
set_option maxHeartbeats 1000000 in
theorem trPush_any (a : Nat → Addr) (w : World) (B pt : Nat) (vf va : Value) (key : Int) (l : List En) (ab : List Int) (ps : List Nat) (nd : Nat → Nd) (h : TrAt w B pt vf va key l ab ps nd) (hE : EnvW a w) (hd : ByteArray) (vl : Value) (m : List En) (hv : EnAt w vl m)
    (hs1 : ∀ e ∈ l, e.fl.who.size ≤ maxLen) (hs2 : ∀ e ∈ m, e.fl.who.size ≤ maxLen) (hl : l.length + m.length ≤ 100000) :
    Calls Tryz.prog 47 #[.pointer (some ⟨pt, 0, none⟩), .string hd, vl] w fun e w' => ∃ p, ps[0]? = some p ∧ FoPost a w p (takeC (ndFo key l (nd 0)) hd m) (takeS (ndFo key l (nd 0)) hd m) e w' := by
  obtain ⟨g, cap, p, rfl, hcap, hcell, hps⟩ := h.at (Nat.zero_le _)
  obtain ⟨_, v, hF⟩ := h.f 0 p hps
  have HTk := hide (foTake_any a p v (ndFo key l (nd 0)) hd vl m w hE hF hv (fun e he => hs1 e (List.mem_of_mem_take he)) hs2 (by show (l.take _).length + _ ≤ _; rw [List.length_take]; omega))
  obtain ⟨c0, c1⟩ := tr_cells h.row
  have HPs := hide hps
  have hlt : 0 < ab.length + 1 := by omega
  clear h hps hF hE hv hs1 hs2
  generalize ab.length + 1 = n at *
  generalize takeC (ndFo key l (nd 0)) hd m = tc at *
  generalize takeS (ndFo key l (nd 0)) hd m = ts at *
  have hz0 : (0 : Int) < (n : Int) := by omega
  go_enter Tryz.func47, Tryz.ntmps47
  go_wp2_with fail
  refine HTk.out.mono ?_
  intro e w1 hp
  have HP := hide hp
  rcases hp with ⟨hc, rfl, hb⟩ | ⟨hc, rfl, hg⟩
  · have HEv : Hid (∀ ev, ev = errV a tc → FoPost a w p tc ts (.returned ev) w1) := fun ev h => by rw [h]; exact HP.out
    generalize errV a tc = ev at *
    clear HP hb hc HTk
    go_wp2
    go_ret
    exact ⟨p, HPs.out, HEv.out _ rfl⟩
  · clear hg hc HTk
    go_wp2
    go_ret
    exact ⟨p, HPs.out, HP.out⟩

set_option maxRecDepth 100000 in
set_option maxHeartbeats 2000000 in
theorem pass_any (a : Nat → Addr) (pu pn : Nat) (vu vn : Value) (key : Int) (l : List En) (u n : Nd) (w : World) (hE : EnvW a w) (hu : FoAt w pu vu (ndFo key l u)) (hn : FoAt w pn vn (ndFo key l n)) (hmu : Made key l u) (hmn : Made key l n) (hle : n.le u) (hne : ¬ u.hd.toList.isEmpty = true)
    (hs : ∀ e ∈ l, e.fl.who.size ≤ maxLen) (hl : l.length ≤ 100000) :
    Calls Tryz.prog 82 #[.pointer (some ⟨pu, 0, none⟩), .pointer (some ⟨pn, 0, none⟩)] w fun e w' => ∃ c : Nat, e = .returned (.tuple #[.int .i64 c, .nilIface]) ∧ w.grownBy w' (some pn) ∧ ∃ v', FoAt w' pn v' (ndFo key l u) := by
  obtain ⟨ht1, ht2⟩ := poll_takes hmu hle hne
  have hku := hmu.le
  have hkn := hmn.le
  have hlu : (l.take u.k).length = u.k := by rw [List.length_take]; have := hmu.le; omega
  have hln : (l.take n.k).length = n.k := by rw [List.length_take]; have := hmn.le; omega
  have hfd : (feedC (l.take u.k)).1 = 0 := by
    rcases hmu.hd with h1 | ⟨h1, _⟩
    · exact absurd (by rw [h1]; exact nd0_empty) hne
    · exact (floors_zero (headC_zero h1).2.1).1
  have hsc : sinceC (l.take u.k) (n.k : Int) = (0, -1) := by
    unfold sinceC
    rw [if_pos hfd, if_neg (by omega), if_neg (by have := hle.1; omega)]
  have hsr : sinceR (l.take u.k) (n.k : Int) = (l.take u.k).drop n.k := by
    unfold sinceR
    rw [hsc, if_pos rfl, Int.toNat_natCast]
  have HEn : Hid (∀ w, FoAt w pu vu (ndFo key l u) → Calls Tryz.prog 39 #[.pointer (some ⟨pu, 0, none⟩)] w fun e w' => ∃ v', e = .returned v' ∧ OwnE w' w.heap.size v' (l.take u.k) ∧ Below w.heap.size w w') := fun w h => foEntries_any w pu vu (ndFo key l u) h (by show (l.take _).length ≤ _; omega)
  have HSq : Hid (∀ w, FoAt w pn vn (ndFo key l n) → Calls Tryz.prog 36 #[.pointer (some ⟨pn, 0, none⟩)] w fun e w' => e = .returned (.int .i64 (n.k : Nat)) ∧ w' = w) := fun w h => by
    have := foSeq_any w pn vn (ndFo key l n) h
    rw [show (ndFo key l n).l.length = n.k from hln] at this
    exact this
  have HHd : Hid (∀ w, FoAt w pu vu (ndFo key l u) → Calls Tryz.prog 40 #[.pointer (some ⟨pu, 0, none⟩)] w fun e w' => e = .returned (.string u.hd) ∧ w' = w) := fun w h => foHead_any w pu vu (ndFo key l u) h
  have HSi := hide (fun v w h hv => since_any a v (l.take u.k) (n.k : Int) w h hv (fun e he => hs e (List.mem_of_mem_take he)) (by omega))
  have HTk := hide (fun vl w hE hF hv => foTake_any a pn vn (ndFo key l n) u.hd vl ((l.take u.k).drop n.k) w hE hF hv (fun e he => hs e (List.mem_of_mem_take he)) (fun e he => hs e (List.mem_of_mem_take (List.mem_of_mem_drop he))) (by show (l.take _).length + _ ≤ _; rw [List.length_drop]; omega))
  rw [ht1, ht2] at HTk
  rw [hsc, hsr] at HSi
  have HE := hide hE
  have HU := hide hu
  have HN := hide hn
  clear hku hkn ht1 ht2 hlu hfd hsc hsr hmu hmn hle hne hs hE hu hn hln
  generalize (l.take u.k).drop n.k = more at *
  generalize l.take u.k = lu at *
  generalize u.hd = uh at *
  go_enter Tryz.func82, Tryz.ntmps82
  go_wp2_with fail
  refine (HEn.out _ HU.out).mono ?_
  rintro e w1 ⟨v1, rfl, hown, hb⟩
  have HB1 := hide hb
  have HO1 := hide hown.enAt
  clear hb hown HEn
  go_wp2_with fail
  refine (HSq.out _ (HN.out.below HB1.out)).mono ?_
  rintro e w2 ⟨rfl, hw⟩
  subst hw
  go_wp2_with fail
  refine (HSi.out _ _ (HE.out.below HB1.out).f.errs HO1.out).mono ?_
  rintro e w3 ⟨⟨v3, ev, rfl, hown, herr, hnil⟩, hb⟩
  obtain rfl := herr.none rfl
  have HB3 : Hid (Below w.heap.size w w3) := HB1.out.trans (hb.mono HB1.out.size)
  have HO3 := hide hown.enAt
  obtain ⟨ad3, cap3, rfl, hc3⟩ := hown.enAt.form
  clear hb hown herr hnil HSi HO1 HB1 HSq
  go_wp2_with fail
  refine (HHd.out _ (HU.out.below HB3.out)).mono ?_
  rintro e w4 ⟨rfl, hw⟩
  subst hw
  go_wp2_with fail
  refine (HTk.out _ _ (HE.out.below HB3.out) (HN.out.below HB3.out) HO3.out).mono ?_
  rintro e w5 (⟨hc, _⟩ | ⟨_, rfl, hg, v5, hF⟩)
  · exact absurd rfl hc
  · have HG : Hid (w.grownBy w5 (some pn)) := (grownOf HB3.out (some pn)).trans hg
    have HF := hide hF
    clear hg hF HTk
    generalize more.length = c at *
    go_wp2
    go_ret2
    exact ⟨c, rfl, HG.out, v5, HF.out⟩

/-- What a poll leaves: the error by its number, and the tree. -/
def PollPost (a : Nat → Addr) (w : World) (B pt : Nat) (vf va : Value) (key : Int) (l : List En) (ab : List Int) (ps : List Nat) (c : Nat) (nd : Nat → Nd) (e : Ending) (w' : World) : Prop :=
  (∃ n : Int, e = .returned (.tuple #[.int .i64 n, errV a c])) ∧ TrAt w' B pt vf va key l ab ps nd ∧ Below B w w'
theorem PollPost.err {a : Nat → Addr} {w : World} {B pt : Nat} {vf va : Value} {key : Int} {l : List En} {ab : List Int} {ps : List Nat} {c : Nat} {nd : Nat → Nd} {w' : World} (hc : c ≠ 0) (h : TrAt w' B pt vf va key l ab ps nd) (hb : Below B w w') : PollPost a w B pt vf va key l ab ps c nd (.returned (.tuple #[.int .i64 0, eV (a (c - 1))])) w' := ⟨⟨0, by rw [errV_pos a hc]⟩, h, hb⟩

set_option maxRecDepth 100000 in
set_option maxHeartbeats 2000000 in
theorem poll_out (a : Nat → Addr) (w : World) (B pt : Nat) (vf va : Value) (key : Int) (l : List En) (ab : List Int) (ps : List Nat) (nd : Nat → Nd) (h : TrAt w B pt vf va key l ab ps nd) (hE : EnvW a w) (i : Int) (hi : ¬ (1 ≤ i ∧ i ≤ (ab.length : Int))) :
    Calls Tryz.prog 48 #[.pointer (some ⟨pt, 0, none⟩), .int .i64 i] w fun e w' => PollPost a w B pt vf va key l ab ps 2 nd e w' := by
  have HT := hide h
  obtain ⟨g, cap, rfl, hcap⟩ := h.form
  have HMn := hide (trMany_any w pt _ _ _ _ h.row)
  have hvv : w.cell? ⟨1, 0, none⟩ = some (eV (a 1)) := hE.errs.var 1 (by decide) rfl
  clear h hE
  have hm : ¬ (1 ≤ i ∧ i < ((ab.length + 1 : Nat) : Int)) := by omega
  clear hi
  generalize ab.length + 1 = m at *
  by_cases h1 : i < 1
  · clear hm
    go_enter Tryz.func48, Tryz.ntmps48
    go_wp2
    go_quiet (fail)
    go_wp2
    go_ret2
    exact PollPost.err (by decide) (HT.out.below (below_drewN (Below.refl _ _) _)) (below_drewN (Below.refl _ _) _)
  · have hz : (m : Int) ≤ i := by omega
    clear hm
    go_enter Tryz.func48, Tryz.ntmps48
    go_wp2_with fail
    refine HMn.out.mono ?_
    rintro e w1 ⟨rfl, hw⟩
    subst hw
    go_wp2
    go_quiet (fail)
    go_wp2
    go_ret2
    exact PollPost.err (by decide) (HT.out.below (below_drewN (Below.refl _ _) _)) (below_drewN (Below.refl _ _) _)

set_option maxRecDepth 100000 in
set_option maxHeartbeats 4000000 in
theorem poll_in (a : Nat → Addr) (w : World) (B pt : Nat) (vf va : Value) (key : Int) (l : List En) (ab : List Int) (ps : List Nat) (nd : Nat → Nd) (h : TrAt w B pt vf va key l ab ps nd) (hE : EnvR a w) (ht : Tre key l ab nd) (hr : Right ab) (hB : B ≤ w.heap.size) (hab : ab.length ≤ 10) (k : Nat) (hk : k < ab.length) (hs : ∀ e ∈ l, e.fl.who.size ≤ maxLen) (hl : l.length ≤ 100000) :
    Calls Tryz.prog 48 #[.pointer (some ⟨pt, 0, none⟩), .int .i64 ((k + 1 : Nat) : Int)] w fun e w' => PollPost a w B pt vf va key l ab ps (pollE (nd (up ab (k + 1))) (nd (k + 1))) (setN nd (k + 1) (nd (up ab (k + 1)))) e w' := by
  have hul := up_lt hr (i := k + 1) (by omega) (by omega)
  obtain ⟨g, cap, pn, hvf, hcap, hcn, hpn⟩ := h.at (i := k + 1) (by omega)
  obtain ⟨g', cap', pu, e1, _, hcu, hpu⟩ := h.at (i := up ab (k + 1)) (by omega)
  subst hvf
  injection e1 with e1 e2 e3
  injection e1 with e1
  injection e1 with e1 e4
  subst e1; subst e3
  obtain ⟨ga, capa, hva, hcapa, hca⟩ := h.up hr hk
  subst hva
  obtain ⟨_, vn, hFn⟩ := h.f _ _ hpn
  obtain ⟨_, vu, hFu⟩ := h.f _ _ hpu
  have hmn := ht.made (k + 1) (by omega)
  have hmu := ht.made (up ab (k + 1)) (by omega)
  have hle := ht.ord (k + 1) (by omega) (by omega)
  have HLow := hide (h.f _ _ hpn).1
  have HBs := hide hB
  have HT := hide h
  have HE := hide hE
  have HFn := hide hFn
  have HFu := hide hFu
  have HM := hide (trMany_any w pt _ _ _ _ h.row)
  obtain ⟨c0, c1⟩ := tr_cells h.row
  have HHu := hide (fun w h => foHead_any w pu vu (ndFo key l (nd (up ab (k + 1)))) h)
  have HHn := hide (fun w h => foHead_any w pn vn (ndFo key l (nd (k + 1))) h)
  have HPs := hide (fun w hE hu hn hne => pass_any a pu pn vu vn key l (nd (up ab (k + 1))) (nd (k + 1)) w hE hu hn hmu hmn hle hne hs hl)
  have HSame := hide (fun h => poll_err hmu hmn hle h)
  have HTurn := hide (fun (W w' : World) v' (h : TrAt W B pt (.slice (some ⟨g, 0, none⟩) (ab.length + 1) cap) (.slice (some ⟨ga, 0, none⟩) ab.length capa) key l ab ps nd) (hg : W.grownBy w' (some pn)) (hF : FoAt w' pn v' (ndFo key l (nd (up ab (k + 1))))) => h.turn hpn hg hF)
  have HSelf : Hid (nd (k + 1) = nd (up ab (k + 1)) → setN nd (k + 1) (nd (up ab (k + 1))) = nd) := fun h => setN_self _ _ _ h
  have hsub : IntKind.i64.wrap (((k + 1 : Nat) : Int) - 1) = (k : Int) := by rw [IntKind.wrap_i64]; omega
  have HPE : Hid (pollE (nd (up ab (k + 1))) (nd (k + 1)) = if (nd (up ab (k + 1))).hd.toList.isEmpty = true then 5 else if (nd (up ab (k + 1))).hd.toList = (nd (k + 1)).hd.toList then 12 else 0) := rfl
  clear h hE ht hr hpn hpu hFn hFu hmn hmu hle hs hB
  generalize pollE (nd (up ab (k + 1))) (nd (k + 1)) = pc at *
  generalize setN nd (k + 1) (nd (up ab (k + 1))) = nd' at *
  generalize nd (up ab (k + 1)) = u at *
  generalize nd (k + 1) = n at *
  generalize up ab (k + 1) = x at *
  unfold ndFo at HHu HHn
  dsimp only at HHu HHn
  have hj : k + 1 < ab.length + 1 := by omega
  have hx : x < ab.length + 1 := by omega
  have hj1 : 1 ≤ k + 1 := by omega
  generalize ab.length + 1 = m at *
  generalize ab.length = m' at *
  generalize k + 1 = j at *
  have hz0 : ¬ (j : Int) < 1 := by omega
  have hz1 : ¬ (m : Int) ≤ (j : Int) := by omega
  have hz2 : (x : Int) < (m : Int) := by omega
  have hz3 : (j : Int) < (m : Int) := by omega
  have hz4 : (k : Int) < (m' : Int) := by omega
  obtain ⟨uk, uh, ut⟩ := u
  obtain ⟨nk, nh, nt⟩ := n
  dsimp only at HHu HHn HPs HPE
  have hb12 : uh.toList.isEmpty = true ∨ uh.toList.isEmpty = false := by cases uh.toList.isEmpty <;> simp
  go_enter Tryz.func48, Tryz.ntmps48
  go_wp2_with fail
  refine HM.out.mono ?_
  rintro e w ⟨rfl, hw⟩
  subst hw
  clear HM
  go_wp2_with fail
  go_quiet (fail)
  go_upto_region 4 with fail
  have HB2 : Hid (Below w.heap.size w (w.drewN nq)) := below_drewN (Below.refl _ _) nq
  obtain ⟨W2, hW2⟩ : ∃ W, w.drewN nq = W := ⟨_, rfl⟩
  rw [hW2] at HB2 ⊢
  clear hW2 c0 c1 hcn hcu hca
  go_wp2_with fail
  refine (HHu.out _ (HFu.out.below HB2.out)).mono ?_
  rintro e W2 ⟨rfl, hw⟩
  subst hw
  rcases hb12 with hbz | hbz
  · have hz : pc = 5 := HPE.out.trans (if_pos hbz)
    subst hz
    have hn : nd' = nd := HSelf.out (HSame.out (by decide))
    have HN := hide hn
    have hvv : ∀ nq, (W2.drewN nq).cell? ⟨5, 0, none⟩ = some (eV (a 4)) := fun nq => (HE.out.below HB2.out).enone
    clear hn
    go_wp2_with fail
    go_quiet (fail)
    go_wp2
    go_ret2
    exact PollPost.err (by decide) (by rw [HN.out]; exact HT.out.below (below_drewN HB2.out _)) ((below_drewN HB2.out _).mono HBs.out)
  · by_cases h2 : uh.toList = nh.toList
    · have hz : pc = 12 := (HPE.out.trans (if_neg (by rw [hbz]; decide))).trans (if_pos h2)
      subst hz
      have hn : nd' = nd := HSelf.out (HSame.out (by decide))
      have HN := hide hn
      have hq : (uh.toList == nh.toList) = true := by rw [h2]; simp
      have hvv : ∀ nq, (W2.drewN nq).cell? ⟨3, 0, none⟩ = some (eV (a 11)) := fun nq => (HE.out.below HB2.out).env.errs.var 11 (by decide) rfl
      clear hn h2
      go_wp2_with fail
      refine (HHu.out _ (HFu.out.below HB2.out)).mono ?_
      rintro e W2 ⟨rfl, hw⟩
      subst hw
      go_wp2_with fail
      refine (HHn.out _ (HFn.out.below HB2.out)).mono ?_
      rintro e W2 ⟨rfl, hw⟩
      subst hw
      go_wp2_with fail
      go_quiet (fail)
      go_wp2
      go_ret2
      exact PollPost.err (by decide) (by rw [HN.out]; exact HT.out.below (below_drewN HB2.out _)) ((below_drewN HB2.out _).mono HBs.out)
    · have hz : pc = 0 := (HPE.out.trans (if_neg (by rw [hbz]; decide))).trans (if_neg h2)
      subst hz
      have hq : (uh.toList == nh.toList) = false := by simpa using h2
      clear h2
      go_wp2_with fail
      refine (HHu.out _ (HFu.out.below HB2.out)).mono ?_
      rintro e W2 ⟨rfl, hw⟩
      subst hw
      go_wp2_with fail
      refine (HHn.out _ (HFn.out.below HB2.out)).mono ?_
      rintro e W2 ⟨rfl, hw⟩
      subst hw
      go_wp2_with fail
      refine (HPs.out _ (HE.out.below HB2.out).env (HFu.out.below HB2.out) (HFn.out.below HB2.out) (by rw [hbz]; decide)).mono ?_
      rintro e w5 ⟨c, rfl, hg, v5, hF⟩
      have HT5 := hide (HTurn.out _ _ _ (HT.out.below HB2.out) hg hF)
      have HB5 : Hid (Below B w w5) := (HB2.out.mono HBs.out).grown hg (Nat.le_trans HBs.out HB2.out.size) (fun q hq => by cases hq; exact HLow.out)
      clear hg hF HPs HTurn HHu HHn
      go_wp2
      go_ret2
      exact ⟨⟨(c : Int), by rw [errV_zero]; rfl⟩, HT5.out, HB5.out⟩

set_option maxRecDepth 100000 in
set_option maxHeartbeats 4000000 in
theorem trAll_any (a : Nat → Addr) (w : World) (B pt : Nat) (vf va : Value) (key : Int) (l : List En) (ab : List Int) (ps : List Nat) (nd : Nat → Nd) (h : TrAt w B pt vf va key l ab ps nd) (hE : ∀ w', Below B w w' → EnvR a w') (ht : Tre key l ab nd) (hr : Right ab) (hB : B ≤ w.heap.size) (hab : ab.length ≤ 10) (hs : ∀ e ∈ l, e.fl.who.size ≤ maxLen) (hl : l.length ≤ 100000) :
    Calls Tryz.prog 49 #[.pointer (some ⟨pt, 0, none⟩)] w fun e w' => e = .returned (.int .i64 ((polls ab nd ab.length).2 : Nat)) ∧ TrAt w' B pt vf va key l ab ps (polls ab nd ab.length).1 ∧ Below B w w' := by
  have HT := hide h
  have HE := hide hE
  have HTr := hide ht
  have HR := hide hr
  have HBs := hide hB
  have HS := hide hs
  obtain ⟨g, cap, hvf, hcap⟩ := h.form
  have hm11 : ab.length + 1 ≤ 11 := by omega
  have HAb := hide hab
  clear h hE ht hr hB hs hab
  obtain ⟨m, hm⟩ : ∃ m, m = ab.length + 1 := ⟨_, rfl⟩
  have HM := hide hm
  rw [← hm] at hvf hcap hm11
  have HMn := hide (fun (W : World) nd' (h : TrAt W B pt vf va key l ab ps nd') => trMany_any W pt (some ⟨g, 0, none⟩) m cap va (by rw [← hvf]; exact h.row))
  clear hm hvf
  have hm1 : 1 ≤ m := by rw [HM.out]; omega
  go_enter Tryz.func49, Tryz.ntmps49
  go_wp2
  go_loopg [3, 4, 5, 6] m (fun gg s3 s4 _ _ wr => ∃ j : Nat, 1 ≤ j ∧ j ≤ m ∧ m - j ≤ gg ∧ s3 = .int .i64 ((polls ab nd (j - 1)).2 : Nat) ∧ s4 = .int .i64 j ∧ Hid (Below B w wr) ∧ Hid (TrAt wr B pt vf va key l ab ps (polls ab nd (j - 1)).1))
  case atStart => exact ⟨1, Nat.le_refl _, hm1, by omega, rfl, rfl, Below.refl _ _, HT.out⟩
  case round =>
    obtain ⟨j, hj1, hj, hgg, rfl, rfl, HB, HTj⟩ := hrel
    have htk : (polls ab nd (j - 1)).2 ≤ 10 := by have := polls_le ab nd (j - 1); omega
    by_cases hlt : j < m
    · obtain ⟨q, hq⟩ : ∃ q, j = q + 1 := ⟨j - 1, by omega⟩
      have hqa : q < ab.length := by have := HM.out; omega
      have HPo := hide (fun w h hE hB => poll_in a w B pt vf va key l ab ps (polls ab nd q).1 h hE (polls_tre HTr.out HR.out q (by omega)) HR.out hB HAb.out q hqa HS.out hl)
      have HSt : Hid (polls ab nd (q + 1) = (setN (polls ab nd q).1 (q + 1) ((polls ab nd q).1 (up ab (q + 1))), (polls ab nd q).2 + (if pollE ((polls ab nd q).1 (up ab (q + 1))) ((polls ab nd q).1 (q + 1)) = 0 then 1 else 0))) := rfl
      rw [← hq] at HPo HSt
      have hjq : j - 1 = q := by omega
      rw [hjq] at htk HTj ⊢
      have HJ : Hid (j + 1 - 1 = j) := Nat.add_sub_cancel _ _
      generalize pollE ((polls ab nd q).1 (up ab j)) ((polls ab nd q).1 j) = pc at *
      generalize setN (polls ab nd q).1 j ((polls ab nd q).1 (up ab j)) = nd' at *
      generalize (polls ab nd q).2 = tk at *
      have hltz : (j : Int) < (m : Int) := by omega
      clear hq hjq
      go_wp2_with fail
      refine (HMn.out _ _ HTj.out).mono ?_
      rintro e wr ⟨rfl, hw⟩
      subst hw
      go_wp2_with fail
      refine (HPo.out _ HTj.out (HE.out _ HB.out) (Nat.le_trans HBs.out HB.out.size)).mono ?_
      rintro e w2 ⟨⟨nn, rfl⟩, hT2, hb⟩
      have HT2 := hide hT2
      have HB2 : Hid (Below B w w2) := HB.out.trans hb
      clear hT2 hb HPo HTj
      by_cases hc : pc = 0
      · subst hc
        rw [errV_zero]
        have HSt2 : Hid (polls ab nd j = (nd', tk + 1)) := HSt.out
        clear HSt
        go_wp2
        go_roundg (m - (j + 1))
        case measure => omega
        case rel => exact ⟨j + 1, by omega, by omega, by omega, by rw [HJ.out, HSt2.out]; go_num, by go_num, HB2, by rw [HJ.out, HSt2.out]; exact HT2⟩
      · have HSt2 : Hid (polls ab nd j = (nd', tk)) := HSt.out.trans (by rw [if_neg hc]; rfl)
        rw [errV_pos a hc]
        generalize a (pc - 1) = pa at *
        clear HSt hc
        go_wp2
        go_roundg (m - (j + 1))
        case measure => omega
        case rel => exact ⟨j + 1, by omega, by omega, by omega, by rw [HJ.out, HSt2.out], by go_num, HB2, by rw [HJ.out, HSt2.out]; exact HT2⟩
    · have hjm : j = m := by omega
      subst hjm
      have hltz : ¬ (j : Int) < (j : Int) := by omega
      have HJa : Hid (j - 1 = ab.length) := by show _ = _; have := HM.out; omega
      go_wp2_with fail
      refine (HMn.out _ _ HTj.out).mono ?_
      rintro e wr ⟨rfl, hw⟩
      subst hw
      go_wp2
      go_ret
      rw [HJa.out] at HTj ⊢
      exact ⟨rfl, HTj.out, HB.out⟩
end Go.Proofs.YtgagekcjdapkfacGreatDoor

namespace Go.Proofs
open Go.Shelf
def Tryz.cloneI_ren : Go.Shelf.Ren := ⟨fun | 41 => 81 | n => n, fun | 22 => 78 | 23 => 3 | 4 => 4 | n => n, fun | n => n⟩
theorem Tryz.cloneI : Go.Proofs.SlLaysE0.n41 Tryz.prog Tryz.cloneI_ren := {
  mixed := by kernel_rfl
  f41 := ⟨Tryz.f81.name, by decide, Tryz.func81.trans (congrArg some (by kernel_rfl))⟩
  t4 := Tryz.underlying4
  a4 := Tryz.isAgg4
  z4 := Tryz.sizeOf4
  v4 := Tryz.zeroValue4
  t22 := Tryz.underlying78
  a22 := Tryz.isAgg78
  z22 := Tryz.sizeOf78
  v22 := Tryz.zeroValue78 }
end Go.Proofs

namespace Go.Proofs.YtgagekcjdapkfacGreatDoor
open Go.RowKit Go.Extern.Stop Go.Stop Go.Extern Go.Proofs

theorem Tryz.infoInt : (Tryz.prog.info? 3).map (fun i => (i.zero, i.size, i.bytes)) = some (some (.int .i64 0), 1, 8) := by kernel_rfl
theorem Tryz.infoFoP : (Tryz.prog.info? 65).map (fun i => (i.zero, i.size, i.bytes)) = some (some (.pointer none), 1, 8) := by kernel_rfl
theorem cellsZ_len (xs : List Int) : (cellsZ xs).length = xs.length * 1 := by simp [cellsZ]
theorem cellsZ_one (xs : List Int) : ∀ u ∈ cellsZ xs, u.oneCell' = true := by
  intro u hu
  obtain ⟨x, _, rfl⟩ := List.mem_map.1 hu
  rfl

set_option maxRecDepth 100000 in
set_option maxHeartbeats 1000000 in
theorem cloneZ_any (v : Value) (l : List Int) (w : World) (hv : IntsIn w v l) (hl : l.length ≤ 1000000) :
    Calls Tryz.prog 81 #[v] w fun e w' => ∃ v', e = .returned v' ∧ OwnZ w' w.heap.size v' l ∧ Below w.heap.size w w' := by
  obtain ⟨i0, hi, hz0, hz1, hz2⟩ := info_parts Tryz.infoInt
  obtain ⟨ad, cap, rfl, hc, hcell⟩ := hv
  by_cases h0 : 0 < l.length
  · obtain ⟨b, off, rfl, _, hx⟩ := hcell h0
    refine (AnyE.slices_Clone Tryz.cloneI i0 _ 1 8 hi hz0 hz1 hz2 rfl (by decide) Tryz.sizeOf3 b off l.length cap (cellsZ l) w (cellsZ_len l) (by unfold maxLen; omega) (by omega) (fun j u hu => ?_) (cellsZ_one l)).mono fun e w' ⟨v', h1, h2, _, h4⟩ => ⟨v', h1, h2, h4⟩
    unfold cellsZ at hu
    rw [List.getElem?_map] at hu
    cases hj : l[j]? with
    | none => rw [hj] at hu; cases hu
    | some x =>
      rw [hj] at hu
      obtain rfl := Option.some.inj hu
      exact hx j x hj
  · have hn : l = [] := List.length_eq_zero_iff.1 (by omega)
    subst hn
    cases ad with
    | none => exact (AnyE.slices_Clone_nil Tryz.cloneI 0 cap w).mono fun e w' ⟨h1, h2⟩ => ⟨_, h1, World.ownsRow_nil _ _ _ _, by rw [h2]; exact Below.refl _ _⟩
    | some ad =>
      show Calls Tryz.prog 81 #[.slice (some ad) 0 cap] w _
      clear hcell
      have q22 : ∀ (w : World) (a : Option Addr) (n c n' c' : Nat), (binOp .eql 78 (.slice a n c) (.slice none n' c')).run Tryz.prog w = .ok (.bool a.isNone) w := fun w a n c n' c' => Lib.run_eql_slice_nil w _ _ a n c n' c' Tryz.underlying78
      go_enter Tryz.func81, Tryz.ntmps81
      go_wp2_with (at_builtin; refine wpList_append_own _ rfl _ _ 78 rfl w.heap.size 3 i0 _ 1 8 Tryz.underlying78 hi hz0 hz1 hz2 rfl (by decide) _ _ _ rfl (World.ownsRow_made w #[] 0 (Nat.le_refl _) (Nat.zero_le _) (by simp)) ad 0 cap [] rfl rfl (fun j u hj => by simp at hj) (by simp) (by unfold maxLen; omega) (by omega) (by simp) ?_; intro v' w1 hown hgrow hnil)
      go_wp2
      go_ret
      exact ⟨v', rfl, (by show w1.ownsRow w.heap.size 3 1 v' 0 []; simpa using hown), ((Below.refl _ w).alloc (Nat.le_refl _) _).grown hgrow (by simp) (fun k hk => by have e : w.heap.size = k := Option.some.inj hk; omega)⟩

/-- Right: as many as may be, none that is not ahead. -/
def Fit (ab : List Int) : Prop := Right ab ∧ ab.length ≤ 10
def CheckPost (ab : List Int) (w : World) (e : Ending) (w' : World) : Prop := Below w.heap.size w w' ∧ ((Fit ab ∧ e = .returned .nilIface) ∨ (¬ Fit ab ∧ ∃ t p, e = .returned (.iface t p)))
set_option maxRecDepth 100000 in
set_option maxHeartbeats 4000000 in
theorem relCheck_any (a : Nat → Addr) (v : Value) (l : List Int) (w : World) (hE : EnvW a w) (hv : IntsIn w v l) :
    Calls Tryz.prog 80 #[v] w fun e w' => CheckPost l w e w' := by
  obtain ⟨ad, cap, rfl, hc, hcell⟩ := hv
  by_cases h10 : 10 < l.length
  · have hvv : w.cell? ⟨0, 0, none⟩ = some (eV (a 6)) := hE.errs.var 6 (by decide) rfl
    have HN : Hid (¬ Fit l) := fun h => by have := h.2; omega
    clear hE hcell
    generalize l.length = n at *
    have hz : (10 : Int) < (n : Int) := by omega
    go_enter Tryz.func80, Tryz.ntmps80
    go_wp2
    go_ret
    exact ⟨Below.refl _ _, Or.inr ⟨HN.out, _, _, rfl⟩⟩
  · have HL : Hid (l.length ≤ 10) := by show _ ≤ _; omega
    have HC := hide hcell
    have hvv : w.cell? ⟨1, 0, none⟩ = some (eV (a 1)) := hE.errs.var 1 (by decide) rfl
    generalize hn : l.length = n at *
    have HN := hide hn
    have hz : ¬ (10 : Int) < (n : Int) := by omega
    have hn10 : n ≤ 10 := by omega
    clear hE hcell hn h10
    go_enter Tryz.func80, Tryz.ntmps80
    go_wp2
    go_loop [3, 4, 11] (fun _ _ i => ∃ k : Nat, k ≤ n ∧ i = .int .i64 k ∧ Hid (∀ (j : Nat) x, l[j]? = some x → j < k → 0 ≤ x ∧ x ≤ (j : Int))) (fun _ _ i => n - (intOf i).toNat)
    case atStart => exact ⟨0, Nat.zero_le _, rfl, fun j _ _ hj => absurd hj (Nat.not_lt_zero _)⟩
    case round =>
      obtain ⟨k, hk, rfl, A⟩ := hrel
      by_cases hlt : k < n
      · have hkl : k < l.length := by rw [HN.out]; exact hlt
        obtain ⟨b, o, rfl, hb, hx⟩ := HC.out (by omega)
        have hxk := List.getElem?_eq_getElem hkl
        have c0 := hx k _ hxk
        have HX := hide hxk
        generalize (l[k]'hkl) = x at *
        have hltz : (k : Int) < (n : Int) := by omega
        clear hx hxk
        by_cases h1 : x < 0
        · have HNo : Hid (¬ Fit l) := fun h => by have := h.1 k x HX.out; omega
          go_wp2
          go_ret
          exact ⟨by first | exact ((Below.refl _ _).drew.alloc (Nat.le_refl _) _) | exact ((Below.refl _ _).alloc (Nat.le_refl _) _).drew | exact ((Below.refl _ _).alloc (Nat.le_refl _) _), Or.inr ⟨HNo.out, _, _, rfl⟩⟩
        · by_cases h2 : (k : Int) < x
          · have HNo : Hid (¬ Fit l) := fun h => by have := h.1 k x HX.out; omega
            go_wp2
            go_ret
            exact ⟨by first | exact ((Below.refl _ _).drew.alloc (Nat.le_refl _) _) | exact ((Below.refl _ _).alloc (Nat.le_refl _) _).drew | exact ((Below.refl _ _).alloc (Nat.le_refl _) _), Or.inr ⟨HNo.out, _, _, rfl⟩⟩
          · have HXk : Hid (0 ≤ x ∧ x ≤ (k : Int)) := ⟨by omega, by omega⟩
            go_wp2
            go_round
            case rel =>
              refine ⟨k + 1, by omega, by go_num, (show Hid _ from fun j y hj hjk => ?_)⟩
              by_cases e : j = k
              · subst e
                have : x = y := Option.some.inj (HX.out.symm.trans hj)
                subst this
                exact HXk.out
              · exact A.out j y hj (by omega)
            case measure => simp [intOf]; omega
      · obtain rfl : k = n := by omega
        have hltz : ¬ (k : Int) < (k : Int) := by omega
        have HF : Hid (Fit l) := ⟨fun i x hi => A.out i x hi (by
          have := (List.getElem?_eq_some_iff.1 hi).1
          rw [HN.out] at this
          exact this), by rw [HN.out]; exact HL.out⟩
        go_wp2
        go_ret
        exact ⟨Below.refl _ _, Or.inl ⟨HF.out, rfl⟩⟩

theorem blk_ne {w : World} {g p : Nat} {cs cs' : Array Value} {t t' : TypeId} {fr fr' : Nat × Nat} (h1 : w.heap[g]? = some (.cells cs t fr)) (h2 : w.heap[p]? = some (.cells cs' t' fr')) (ht : t ≠ t') : g ≠ p := fun e => by
  rw [e, h2] at h1
  have := Option.some.inj h1
  injection this with _ h3 _
  exact ht h3.symm
theorem own_block {w : World} {B : Nat} {e : TypeId} {v : Value} {n : Nat} {xs : List Value} (h : w.ownsRow B e 1 v n xs) {g : Nat} (hg : v.ownBlock = some g) : ∃ cs, w.heap[g]? = some (.cells cs e (0, 0)) := by
  rcases h.2 with ⟨rfl, _⟩ | ⟨g', cap, cur, rfl, hb, hg', _⟩
  · cases hg
  · obtain rfl : g' = g := Option.some.inj hg
    exact ⟨_, hg'⟩
theorem own_keep {w w' : World} {B : Nat} {e : TypeId} {v : Value} {n : Nat} {xs : List Value} (h : w.ownsRow B e 1 v n xs) (hk : ∀ g, v.ownBlock = some g → w'.heap[g]? = w.heap[g]?) : w'.ownsRow B e 1 v n xs := by
  refine ⟨h.1, ?_⟩
  rcases h.2 with g | ⟨g, cap, cur, rfl, hb, hg, hc, hm, hs, ht⟩
  · exact Or.inl g
  · exact Or.inr ⟨g, cap, cur, rfl, hb, by rw [hk g rfl]; exact hg, hc, hm, hs, ht⟩
/-- A follower lasts where a block of another type is written. -/
theorem FoAt.apart {w w' : World} {p : Nat} {v : Value} {s : Fo} (h : FoAt w p v s) {r : Nat} {cs : Array Value} {t : TypeId} {fr : Nat × Nat} (hr : w.heap[r]? = some (.cells cs t fr)) (h1 : t ≠ 129) (h2 : t ≠ 80) (hk : ∀ k, k < w.heap.size → k ≠ r → w'.heap[k]? = w.heap[k]?) : FoAt w' p v s := by
  refine ⟨(hk p (row_lt h.row) (blk_ne h.row hr (Ne.symm h1))).trans h.row, h.own.keep (fun g e => hk g (h.own.lt g e).2 ?_)⟩
  rcases h.own.2 with ⟨e2, _⟩ | ⟨g', cap, cur, e2, hb, hg', _⟩
  · rw [e2] at e; cases e
  · rw [e2] at e
    obtain rfl : g' = g := Option.some.inj e
    exact blk_ne hg' hr (Ne.symm h2)

/-- A tree that is being made: so many followers, all as new ones. -/
structure TrMid (w wr : World) (pt : Nat) (va : Value) (key : Int) (ab : List Int) (p0 j : Nat) (vf : Value) (ps : List Nat) : Prop where
  low : Below w.heap.size w wr
  ptl : w.heap.size ≤ pt
  row : wr.heap[pt]? = some (trO vf va)
  fs : OwnQ wr w.heap.size vf ps
  above : OwnZ wr w.heap.size va ab
  f : ∀ p, p ∈ ps → w.heap.size ≤ p ∧ ∃ v, FoAt wr p v ⟨key, [], ⟨#[]⟩, -1⟩
  first : p0 ∈ ps
  len : ps.length = j + 1
  one : ps.Nodup
theorem cellsQ_snoc (ps : List Nat) (q : Nat) : cellsQ (ps ++ [q]) = cellsQ ps ++ [.pointer (some ⟨q, 0, none⟩)] := by simp [cellsQ]
/-- One follower more. -/
theorem TrMid.more {w wr X w7 : World} {pt : Nat} {va : Value} {key : Int} {ab : List Int} {p0 j : Nat} {vf : Value} {ps : List Nat} (h : TrMid w wr pt va key ab p0 j vf ps) (hb : Below wr.heap.size wr X) {q : Nat} {v : Value} (hq : wr.heap.size ≤ q) (hF : FoAt X q v ⟨key, [], ⟨#[]⟩, -1⟩)
    {v' : Value} {n : Nat} (hn : n = ps.length) (hown : w7.ownsRow w.heap.size 65 1 v' (n + 1) (cellsQ ps ++ [.pointer (some ⟨q, 0, none⟩)])) (hg : X.grownBy w7 vf.ownBlock) :
    TrMid w (w7.setCell ⟨pt, 0, none⟩ v') pt va key ab p0 (j + 1) v' (ps ++ [q]) := by
  subst hn
  obtain ⟨g, cap, hvf, _, hgl, _⟩ := own_at h.fs (i := 0) (by rw [h.len]; omega)
  have hvo : vf.ownBlock = some g := by rw [hvf]; rfl
  have hfsX := own_below h.fs hb
  obtain ⟨cs, hgX⟩ := own_block hfsX hvo
  have hrowX := (hb.block pt (row_lt h.row)).trans h.row
  rw [hvo] at hg
  have hkg : ∀ k, k < X.heap.size → k ≠ g → w7.heap[k]? = X.heap[k]? := fun k hk hne => hg.block k hk (fun e => hne (Option.some.inj e))
  have hrow7 := (hkg pt (row_lt hrowX) (blk_ne hrowX hgX (by decide))).trans hrowX
  have hks : ∀ k, k ≠ pt → (w7.setCell ⟨pt, 0, none⟩ v').heap[k]? = w7.heap[k]? := fun k hk => Below.heap_setCell _ _ _ k hk
  refine ⟨?_, h.ptl, heap_setCell_same w7 pt 0 _ _ v' hrow7, ?_, ?_, fun p hp => ?_, List.mem_append_left _ h.first, ?_, ?_⟩
  · refine Below.setCell (Below.grown (h.low.trans (hb.mono h.low.size)) hg (Nat.le_trans h.low.size hb.size) (fun k hk => ?_)) h.ptl _
    cases hk
    exact (h.fs.lt g hvo).1
  · show World.ownsRow _ _ _ _ _ _ _
    rw [List.length_append, cellsQ_snoc]
    refine own_keep hown (fun k hk => hks k ?_)
    obtain ⟨cs', hk'⟩ := own_block hown hk
    exact blk_ne hk' hrow7 (by decide)
  · have h1 := own_below h.above hb
    have h2 : w7.ownsRow w.heap.size 3 1 va ab.length (cellsZ ab) := own_keep h1 (fun k hk => by
      obtain ⟨cs', hk'⟩ := own_block h1 hk
      exact hkg k (h1.lt k hk).2 (blk_ne hk' hgX (by decide)))
    refine own_keep h2 (fun k hk => hks k ?_)
    obtain ⟨cs', hk'⟩ := own_block h2 hk
    exact blk_ne hk' hrow7 (by decide)
  · have hlast : ∀ p v s, FoAt X p v s → FoAt (w7.setCell ⟨pt, 0, none⟩ v') p v s := fun p v s hf =>
      (hf.apart hgX (by decide) (by decide) hkg).apart hrow7 (by decide) (by decide) (fun k _ hk => hks k hk)
    rcases List.mem_append.1 hp with hp | hp
    · obtain ⟨h1, v2, h2⟩ := h.f p hp
      exact ⟨h1, v2, hlast _ _ _ (h2.below hb)⟩
    · rw [List.mem_singleton.1 hp]
      exact ⟨Nat.le_trans h.low.size hq, v, hlast _ _ _ hF⟩
  · rw [List.length_append, h.len]; rfl
  · rw [List.nodup_append]
    refine ⟨h.one, by simp, fun p hp r hr e => ?_⟩
    rw [List.mem_singleton.1 hr] at e
    obtain ⟨_, v2, h2⟩ := h.f p hp
    have := row_lt h2.row
    omega
/-- Made: none has anything yet. -/
theorem TrMid.all {w wr : World} {pt : Nat} {va : Value} {key : Int} {ab : List Int} {p0 : Nat} {vf : Value} {ps : List Nat} (h : TrMid w wr pt va key ab p0 ab.length vf ps) (l : List En) : TrAt wr w.heap.size pt vf va key l ab ps (fun _ => nd0) :=
  ⟨h.row, h.fs, h.above, fun i p hi => h.f p (List.mem_of_getElem? hi), h.len, fun i j p hi hj => by
    obtain ⟨h1, h2⟩ := List.getElem?_eq_some_iff.1 hi
    obtain ⟨h3, h4⟩ := List.getElem?_eq_some_iff.1 hj
    exact (List.getElem_inj h.one).1 (h2.trans h4.symm)⟩

def NewPost (key : Int) (ab : List Int) (l : List En) (w : World) (e : Ending) (w' : World) : Prop := Below w.heap.size w w' ∧
  ((((1 ≤ key ∧ key ≤ 1000000006) ∧ Fit ab) ∧ ∃ pt vf va ps, w.heap.size ≤ pt ∧ e = .returned (.tuple #[.pointer (some ⟨pt, 0, none⟩), .nilIface]) ∧ TrAt w' w.heap.size pt vf va key l ab ps (fun _ => nd0)) ∨
   (¬ ((1 ≤ key ∧ key ≤ 1000000006) ∧ Fit ab) ∧ ∃ t p, e = .returned (.tuple #[.pointer none, .iface t p])))
set_option maxRecDepth 100000 in
set_option maxHeartbeats 4000000 in
theorem trNew_any (a : Nat → Addr) (key : Int) (v : Value) (ab : List Int) (l : List En) (w : World) (hE : EnvW a w) (hv : IntsIn w v ab) :
    Calls Tryz.prog 46 #[.int .i64 key, v] w fun e w' => NewPost key ab l w e w' := by
  have HNw := hide (foNew_any a key w hE)
  have HCk := hide (fun w h hv => relCheck_any a v ab w h hv)
  have HCl := hide (fun w hv hl => cloneZ_any v ab w hv hl)
  have HE := hide hE
  have HIn : Hid (∀ w', Below w.heap.size w w' → IntsIn w' v ab) := fun w' hb => by
    obtain ⟨ad, cap, h1, h2, h3⟩ := hv
    refine ⟨ad, cap, h1, h2, fun h0 => ?_⟩
    obtain ⟨b, o, h4, h5, h6⟩ := h3 h0
    exact ⟨b, o, h4, Nat.lt_of_lt_of_le h5 hb.size, fun i x hi => (hb.cell (p := ⟨b, o + i, none⟩) h5).trans (h6 i x hi)⟩
  obtain ⟨ad, cap, hvv, hcap, _⟩ := hv
  have HV := hide hvv
  obtain ⟨i0, hi, hz0, hz1, hz2⟩ := info_parts Tryz.infoFoP
  subst hvv
  clear hE
  go_enter Tryz.func46, Tryz.ntmps46
  go_wp2_with fail
  refine HNw.out.mono ?_
  rintro e w1 ⟨hb, ⟨hkey, p, hpw, rfl, hF⟩ | ⟨hkey, rfl⟩⟩
  · have HK := hide hkey
    have HB1 := hide hb
    have HF1 := hide hF
    clear hb hF hkey HNw
    go_wp2_with fail
    refine (HCk.out _ (HE.out.below HB1.out) (HIn.out _ HB1.out)).mono ?_
    rintro e w2 ⟨hb, ⟨hfit, rfl⟩ | ⟨hfit, t, pv, rfl⟩⟩
    · have HB2 : Hid (Below w.heap.size w w2) := HB1.out.trans (hb.mono HB1.out.size)
      have HF2 := hide (HF1.out.below hb)
      have HFit := hide hfit
      have HBa : Hid (Below w2.heap.size w2 (w2.alloc (.cells #[.pointer (some ⟨p, 0, none⟩)] 65))) := (Below.refl _ _).alloc (Nat.le_refl _) _
      have HOa : Hid ((w2.alloc (.cells #[.pointer (some ⟨p, 0, none⟩)] 65)).ownsRow w.heap.size 65 1 (.slice (some ⟨w2.heap.size, 0, none⟩) 1 1) 1 [.pointer (some ⟨p, 0, none⟩)]) := World.ownsRow_lit (base := w.heap.size) (e := 65) (size := 1) w2 #[.pointer (some ⟨p, 0, none⟩)] 1 HB2.out.size (by unfold maxLen; omega) rfl
      have hl10 : ab.length ≤ 10 := HFit.out.2
      clear hb hfit HCk HB1 HF1
      go_wp2_with fail
      refine (HCl.out _ (HIn.out _ (HB2.out.trans (HBa.out.mono HB2.out.size))) (by omega)).mono ?_
      rintro e w3 ⟨va, rfl, hown, hb⟩
      obtain ⟨ada, capa, hva, _⟩ := own_form hown
      subst hva
      have HB3 : Hid (Below w2.heap.size w2 w3) := HBa.out.trans (hb.mono HBa.out.size)
      have HBw3 : Hid (Below w.heap.size w w3) := HB2.out.trans (HB3.out.mono HB2.out.size)
      have HMid : Hid (TrMid w (w3.alloc (.cells #[.slice (some ⟨w2.heap.size, 0, none⟩) 1 1, .slice ada ab.length capa] 136)) w3.heap.size (.slice ada ab.length capa) key ab p 0 (.slice (some ⟨w2.heap.size, 0, none⟩) 1 1) [p]) := by
        have hbb : Below w3.heap.size w3 (w3.alloc (.cells #[.slice (some ⟨w2.heap.size, 0, none⟩) 1 1, .slice ada ab.length capa] 136)) := (Below.refl _ _).alloc (Nat.le_refl _) _
        refine ⟨HBw3.out.alloc HBw3.out.size _, HBw3.out.size, heap_alloc_new _ _, own_below (own_below HOa.out hb) hbb, own_below (own_less hown (Nat.le_trans HB2.out.size HBa.out.size)) hbb, fun q hq => ?_, List.mem_singleton.2 rfl, rfl, by simp⟩
        rw [List.mem_singleton.1 hq]
        exact ⟨hpw, _, (HF2.out.below HB3.out).below hbb⟩
      clear hb hown HOa HBa HCl HF2 HB3
      generalize hpt : w3.heap.size = pt at *
      generalize hg0 : w2.heap.size = g0 at *
      generalize hnn : ab.length = m at *
      have HNn := hide hnn
      go_wp2
      go_loopg [31] m (fun gg s31 wr => ∃ j : Nat, j ≤ m ∧ m - j ≤ gg ∧ s31 = .int .i64 j ∧ Hid (∃ vf ps, TrMid w wr pt (.slice ada m capa) key ab p j vf ps))
      case atStart => exact ⟨0, Nat.zero_le _, by omega, rfl, _, _, HMid.out⟩
      case round =>
        obtain ⟨j, hj, hgg, rfl, HM⟩ := hrel
        obtain ⟨vf, ps, hM⟩ := HM.out
        by_cases hlt : j < m
        · have hltz : (j : Int) < (m : Int) := by omega
          have c0 := (tr_cells hM.row).1
          have f0 := frozen_of_row wr pt 0 _ _ hM.row
          obtain ⟨_, v0, hF0⟩ := hM.f p hM.first
          have HCp := hide (fun W h => foCopy_any W p v0 ⟨key, [], ⟨#[]⟩, -1⟩ h (by simp))
          have HBd : Hid (Below wr.heap.size wr wr.drew) := (Below.refl _ _).drew
          have HFd := hide (hF0.below HBd.out)
          have HMm := hide hM
          have hps : ps.length ≤ 11 := by rw [hM.len]; omega
          have HOw : Hid (∀ W, Below wr.heap.size wr W → W.ownsRow w.heap.size 65 1 vf ps.length (cellsQ ps)) := fun W hb => own_below hM.fs hb
          have HLow : Hid (w.heap.size ≤ wr.heap.size) := hM.low.size
          have hptl : pt < wr.heap.size := row_lt hM.row
          have HVo : Hid (vf.ownBlock ≠ some pt) := fun e => by
            obtain ⟨cs', hk'⟩ := own_block hM.fs e
            exact blk_ne hk' hM.row (by decide) rfl
          obtain ⟨n, hpn⟩ : ∃ n, n = ps.length := ⟨_, rfl⟩
          have HN := hide hpn
          rw [← hpn] at HOw hps
          clear hpn hM HM hF0
          go_wp2_with fail
          go_region_law
            (first
              | (go_simp; go_at_call 34; refine (HCp.out _ HFd.out).mono ?_; rintro e w6 ⟨q, v6, hq, rfl, hF, hb⟩; have HB6 : Hid (Below wr.heap.size wr w6) := HBd.out.trans (hb.mono HBd.out.size); have HF6 := hide hF; have HQ6 : Hid (wr.heap.size ≤ q) := hq; have e1 : w6.cell? ⟨pt, 0, none⟩ = some vf := (HB6.out.cell (p := ⟨pt, 0, none⟩) hptl).trans c0; have HP6 : Hid (pt < w6.heap.size) := Nat.lt_of_lt_of_le hptl HB6.out.size; have e1a : (w6.alloc (.cells #[.pointer (some ⟨q, 0, none⟩)] 65)).cell? ⟨pt, 0, none⟩ = some vf := (((Below.refl _ w6).alloc (Nat.le_refl _) _).cell (p := ⟨pt, 0, none⟩) HP6.out).trans e1; have g1 : w6.frozen? ⟨pt, 0, none⟩ = false := (HB6.out.frozen (p := ⟨pt, 0, none⟩) hptl).trans f0; clear hb hF hq HCp)
              | (refine step_append_lies _ (by rfl) _ _ _ (by rfl) w.heap.size 65 i0 _ 1 8 Tryz.underlying133 hi hz0 hz1 hz2 rfl (by omega) vf n (cellsQ ps) (by rfl) ((HOw.out _ HB6.out).alloc _) ⟨w6.heap.size, 0, none⟩ 1 1 [.pointer (some ⟨q, 0, none⟩)] (by rfl) (by rfl) (World.news_of_block (cs := #[.pointer (some ⟨q, 0, none⟩)]) (t := 65) (fr := (0, 0)) (heap_alloc_new w6 _)) (by simp [Value.oneCell']) (by omega) (by unfold maxLen; omega) (by omega) (Nat.le_trans HLow.out (Nat.le_trans HB6.out.size (by simp))) (w6.heap.size + 1) (by simp) ?_; intro gg2 cp w7 hown1 hgrow hat hlt2; have HM7 := hide (TrMid.more HMm.out (HB6.out.alloc HB6.out.size _) HQ6.out (HF6.out.below ((Below.refl _ _).alloc (Nat.le_refl _) _)) HN.out hown1 hgrow); have e3 : w7.cell? ⟨pt, 0, none⟩ = some vf := (hgrow.cell_far ⟨pt, 0, none⟩ (Nat.lt_of_lt_of_le HP6.out (by simp)) (Ne.symm HVo.out)).trans ((((Below.refl _ w6).alloc (Nat.le_refl _) _).cell (p := ⟨pt, 0, none⟩) HP6.out).trans e1); have g3 : w7.frozen? ⟨pt, 0, none⟩ = false := (hgrow.frozen_far ⟨pt, 0, none⟩ (Nat.lt_of_lt_of_le HP6.out (by simp)) (Ne.symm HVo.out)).trans ((((Below.refl _ w6).alloc (Nat.le_refl _) _).frozen (p := ⟨pt, 0, none⟩) HP6.out).trans g1); clear hown1 hgrow hat hlt2))
          all_goals
            go_wp2
            go_roundg (m - (j + 1))
            case measure => omega
            case rel => exact ⟨j + 1, by omega, by omega, by go_num, _, _, HM7.out⟩
        · obtain rfl : j = m := by omega
          have hltz : ¬ (j : Int) < (j : Int) := by omega
          have HA : Hid (TrAt wr w.heap.size pt vf (.slice ada j capa) key l ab ps (fun _ => nd0)) := TrMid.all (by rw [HNn.out]; exact hM) l
          have HL := hide hM.low
          have HPt := hide hM.ptl
          clear hM HM
          go_wp2
          go_ret2
          exact ⟨HL.out, Or.inl ⟨⟨HK.out, HFit.out⟩, pt, vf, _, ps, HPt.out, rfl, HA.out⟩⟩
    · have HB2 : Hid (Below w.heap.size w w2) := HB1.out.trans (hb.mono HB1.out.size)
      have HFit : Hid (¬ ((1 ≤ key ∧ key ≤ 1000000006) ∧ Fit ab)) := fun h => hfit h.2
      clear hb hfit HCk HCl
      go_wp2
      go_ret2
      exact ⟨HB2.out, Or.inr ⟨HFit.out, _, _, rfl⟩⟩
  · have HB1 := hide hb
    have HFit : Hid (¬ ((1 ≤ key ∧ key ≤ 1000000006) ∧ Fit ab)) := fun h => hkey h.1
    clear hb hkey HCk HCl
    go_wp2
    go_ret2
    exact ⟨HB1.out, Or.inr ⟨HFit.out, _, _, rfl⟩⟩
end Go.Proofs.YtgagekcjdapkfacGreatDoor

namespace Go.Proofs.YtgagekcjdapkfacGreatDoor
open Go.RowKit Go.Extern.Stop Go.Stop Go.Extern Go.Proofs

structure Mv where
  kind : ByteArray
  n : Int
  w : Ns
/-- Moves that came in. -/
def MvIn (w : World) (v : Value) (l : List Mv) : Prop := ∃ ad cap, v = .slice ad l.length cap ∧ l.length ≤ cap ∧ (0 < l.length → ∃ b o, ad = some ⟨b, o, none⟩ ∧ b < w.heap.size ∧
  ∀ i m, l[i]? = some m → w.cell? ⟨b, o + i * 7, none⟩ = some (.string m.kind) ∧ w.cell? ⟨b, o + i * 7 + 1, none⟩ = some (.int .i64 m.n) ∧ w.cell? ⟨b, o + i * 7 + 2, none⟩ = some (.int .i64 m.w.many) ∧ w.cell? ⟨b, o + i * 7 + 3, none⟩ = some (.int .i64 m.w.from') ∧ w.cell? ⟨b, o + i * 7 + 4, none⟩ = some (.int .i64 m.w.time) ∧ w.cell? ⟨b, o + i * 7 + 5, none⟩ = some (.int .i64 m.w.key) ∧ w.cell? ⟨b, o + i * 7 + 6, none⟩ = some (.string m.w.text))
theorem MvIn.below {w w' : World} {v : Value} {l : List Mv} (h : MvIn w v l) (hb : Below w.heap.size w w') : MvIn w' v l := by
  obtain ⟨ad, cap, h1, h2, h3⟩ := h
  refine ⟨ad, cap, h1, h2, fun h0 => ?_⟩
  obtain ⟨b, o, h4, h5, h6⟩ := h3 h0
  refine ⟨b, o, h4, Nat.lt_of_lt_of_le h5 hb.size, fun i m hi => ?_⟩
  obtain ⟨c0, c1, c2, c3, c4, c5, c6⟩ := h6 i m hi
  exact ⟨(hb.cell (p := ⟨b, o + i * 7, none⟩) h5).trans c0, (hb.cell (p := ⟨b, o + i * 7 + 1, none⟩) h5).trans c1, (hb.cell (p := ⟨b, o + i * 7 + 2, none⟩) h5).trans c2, (hb.cell (p := ⟨b, o + i * 7 + 3, none⟩) h5).trans c3, (hb.cell (p := ⟨b, o + i * 7 + 4, none⟩) h5).trans c4, (hb.cell (p := ⟨b, o + i * 7 + 5, none⟩) h5).trans c5, (hb.cell (p := ⟨b, o + i * 7 + 6, none⟩) h5).trans c6⟩
theorem IntsIn.below {w w' : World} {v : Value} {st : List Int} (h : IntsIn w v st) (hb : Below w.heap.size w w') : IntsIn w' v st := by
  obtain ⟨ad, cap, h1, h2, h3⟩ := h
  refine ⟨ad, cap, h1, h2, fun h0 => ?_⟩
  obtain ⟨b, o, h4, h5, h6⟩ := h3 h0
  exact ⟨b, o, h4, Nat.lt_of_lt_of_le h5 hb.size, fun i x hi => (hb.cell (p := ⟨b, o + i, none⟩) h5).trans (h6 i x hi)⟩
/-- Too many, or too long. -/
def longM (l : List Mv) : Bool := decide (40 < l.length) || l.any (fun m => decide (20 < m.kind.size ∨ 200 < m.w.text.size))
theorem longM_no {l : List Mv} (h : longM l = false) : l.length ≤ 40 ∧ ∀ m ∈ l, m.kind.size ≤ 20 := by
  unfold longM at h
  simp only [Bool.or_eq_false_iff, decide_eq_false_iff_not, List.any_eq_false, decide_eq_true_eq] at h
  exact ⟨by omega, fun e he => by have := h.2 e he; omega⟩

set_option maxRecDepth 100000 in
set_option maxHeartbeats 4000000 in
theorem longMoves_any (v : Value) (l : List Mv) (w : World) (hv : MvIn w v l) :
    Calls Tryz.prog 45 #[v] w fun e w' => e = .returned (.bool (longM l)) ∧ w' = w := by
  obtain ⟨ad, cap, rfl, hc, hcell⟩ := hv
  by_cases h40 : 40 < l.length
  · have hL : longM l = true := by unfold longM; rw [decide_eq_true h40]; rfl
    rw [hL]
    generalize l.length = n at *
    have hz : (40 : Int) < (n : Int) := by omega
    clear hcell hL
    go_enter Tryz.func45, Tryz.ntmps45
    go_wp2
    go_ret
    exact ⟨rfl, rfl⟩
  · have HQ : Hid (longM l = l.any (fun m => decide (20 < m.kind.size ∨ 200 < m.w.text.size))) := by show _ = _; unfold longM; rw [decide_eq_false h40]; rfl
    generalize hr : longM l = r at *
    have HV := hide hcell
    generalize hn : l.length = n at *
    have HN := hide hn
    have hz : ¬ (40 : Int) < (n : Int) := by omega
    have hn40 : n ≤ 40 := by omega
    clear hcell hr hn h40
    go_enter Tryz.func45, Tryz.ntmps45
    go_wp2
    go_loop [3] (fun i => ∃ k : Nat, k ≤ n ∧ i = .int .i64 k ∧ Hid (∀ j (hj : j < l.length), j < k → l[j].kind.size ≤ 20 ∧ l[j].w.text.size ≤ 200)) (fun i => n - (intOf i).toNat)
    case atStart => exact ⟨0, Nat.zero_le _, rfl, fun j _ hj => absurd hj (Nat.not_lt_zero _)⟩
    case round =>
      obtain ⟨k, hk, rfl, A⟩ := hrel
      by_cases hlt : k < n
      · have hkl : k < l.length := by rw [HN.out]; exact hlt
        obtain ⟨b, o, rfl, hb, hcell⟩ := HV.out (by omega)
        obtain ⟨c0, _, _, _, _, _, c6⟩ := hcell k _ (List.getElem?_eq_getElem hkl)
        have hltz : (k : Int) < (n : Int) := by omega
        have HTrue : Hid (20 < (l[k]'hkl).kind.size ∨ 200 < (l[k]'hkl).w.text.size → r = true) := fun h => by
          rw [HQ.out, List.any_eq_true]
          exact ⟨_, List.getElem_mem hkl, by simpa using h⟩
        have HNext : Hid (¬ 20 < (l[k]'hkl).kind.size → ¬ 200 < (l[k]'hkl).w.text.size → ∀ j (hj : j < l.length), j < k + 1 → l[j].kind.size ≤ 20 ∧ l[j].w.text.size ≤ 200) := fun h1 h2 j hj hjk => by
          by_cases e : j = k
          · subst e; exact ⟨by omega, by omega⟩
          · exact A.out j hj (by omega)
        clear hcell
        generalize (l[k]'hkl).w.text = tx at *
        generalize (l[k]'hkl).kind = kd at *
        by_cases h20 : 20 < kd.size
        · have HR1 := hide (HTrue.out (Or.inl h20))
          have h20z : (20 : Int) < (kd.size : Int) := by omega
          go_wp2
          go_ret
          exact ⟨by rw [HR1.out]; rfl, rfl⟩
        · have h20z : ¬ (20 : Int) < (kd.size : Int) := by omega
          by_cases h200 : 200 < tx.size
          · have HR1 := hide (HTrue.out (Or.inr h200))
            have h200z : (200 : Int) < (tx.size : Int) := by omega
            go_wp2
            go_ret
            exact ⟨by rw [HR1.out]; rfl, rfl⟩
          · have h200z : ¬ (200 : Int) < (tx.size : Int) := by omega
            have HNx := hide (HNext.out h20 h200)
            go_wp2
            go_round
            case rel => exact ⟨k + 1, by omega, by go_num, HNx⟩
            case measure => simp [intOf]; omega
      · obtain rfl : k = n := by omega
        have hltz : ¬ (k : Int) < (k : Int) := by omega
        have hr0 : r = false := by
          rw [HQ.out, List.any_eq_false]
          intro f hf
          obtain ⟨j, hj, rfl⟩ := List.getElem_of_mem hf
          have := A.out j hj (by rw [← HN.out]; exact hj)
          simp only [decide_eq_true_eq]
          omega
        have HR0 := hide hr0
        clear hr0
        go_wp2
        go_ret
        exact ⟨by rw [HR0.out]; rfl, rfl⟩

/-- The tree of the closed fact: two, one below the other, below the root. -/
def abTwo : List Int := [0, 1]
theorem two_fit : Fit abTwo := by
  refine ⟨fun i x hi => ?_, by decide⟩
  match i, hi with
  | 0, hi => obtain rfl : (0 : Int) = x := Option.some.inj hi; decide
  | 1, hi => obtain rfl : (1 : Int) = x := Option.some.inj hi; decide
  | _ + 2, hi => cases hi
def ndAnn : Nd := ⟨1, txt (headT 7 [enAnn] 4), 4⟩
theorem ann_made : Made 7 [enAnn] ndAnn := ⟨Nat.le_refl _, Or.inr ⟨by show (headC 7 [enAnn] 4).1 = 0; rw [head_ann], rfl⟩⟩
theorem ann_le : nd0.le ndAnn := ⟨Nat.zero_le _, by decide⟩
theorem ann_tre : Tre 7 [enAnn] abTwo (setN (fun _ => nd0) 0 ndAnn) := (tre0 7 [enAnn] abTwo).push ann_made ann_le
theorem ann_poll : pollE ndAnn nd0 = 0 := by
  have hne : ndAnn.hd ≠ ⟨#[]⟩ := txt_ne (by show (headC 7 [enAnn] 4).1 = 0; rw [head_ann])
  unfold pollE
  rw [if_neg (fun e => hne (toList_empty e)), if_neg (fun (e : ndAnn.hd.toList = nd0.hd.toList) => hne (toList_inj e))]
theorem ann_two : (polls abTwo (setN (fun _ => nd0) 0 ndAnn) 2).2 = 2 := by
  show (0 + (if pollE ndAnn nd0 = 0 then 1 else 0)) + (if pollE ndAnn nd0 = 0 then 1 else 0) = 2
  rw [ann_poll]
  rfl
theorem ann_last : (polls abTwo (setN (fun _ => nd0) 0 ndAnn) 2).1 2 = ndAnn := (polls_at (nd := setN (fun _ => nd0) 0 ndAnn) two_fit.1 2 (Nat.le_refl _)).1 2 (Nat.le_refl _)

set_option maxRecDepth 100000 in
set_option maxHeartbeats 4000000 in
theorem relayed_any (a : Nat → Addr) (w : World) (h : EnvR a w) :
    Calls Tryz.prog 44 #[] w fun e w' => e = .returned (.bool true) ∧ Below w.heap.size w w' := by
  have HNw := hide (fun v w hE hv => trNew_any a 7 v abTwo [enAnn] w hE hv)
  have HAd := hide (fun w h => fdAdd_any a (.slice none 0 0) [] 3 ⟨fAnn, 2⟩ w h (Or.inl ⟨none, 0, rfl, rfl⟩) (fun e he => by cases he) (by decide) (by simp))
  rw [add_ann.1, add_ann.2] at HAd
  have HMk := hide (fun v w h hv => fdMake_any a 7 v [enAnn] 4 w h hv (fun e he => by rw [List.mem_singleton.1 he]; decide) (by simp))
  rw [head_ann] at HMk
  have HPu := hide (fun w B pt vf va ps h hE vl hv => trPush_any a w B pt vf va 7 [enAnn] abTwo ps (fun _ => nd0) h hE (txt (headT 7 [enAnn] 4)) vl [enAnn] hv (fun e he => by rw [List.mem_singleton.1 he]; decide) (fun e he => by rw [List.mem_singleton.1 he]; decide) (by decide))
  rw [show takeC (ndFo 7 [enAnn] nd0) (txt (headT 7 [enAnn] 4)) [enAnn] = 0 from take_ann.1, show takeS (ndFo 7 [enAnn] nd0) (txt (headT 7 [enAnn] 4)) [enAnn] = ndFo 7 [enAnn] ndAnn from take_ann.2] at HPu
  have HAll := hide (fun w B pt vf va ps h hE hB => trAll_any a w B pt vf va 7 [enAnn] abTwo ps (setN (fun _ => nd0) 0 ndAnn) h hE ann_tre two_fit.1 hB two_fit.2 (fun e he => by rw [List.mem_singleton.1 he]; decide) (by decide))
  rw [show abTwo.length = 2 from rfl, ann_two] at HAll
  have HNo := hide (fun w B pt vf va ps nd h => trNode_any w B pt vf va 7 [enAnn] abTwo ps nd h 2 (Nat.le_refl _) (by decide))
  have HE := hide h
  have HNd := hide ann_last
  have HB0 : Hid (Below w.heap.size w (w.alloc (.cells #[.int .i64 0, .int .i64 1] 3))) := (Below.refl _ _).alloc (Nat.le_refl _) _
  have HI0 : Hid (IntsIn (w.alloc (.cells #[.int .i64 0, .int .i64 1] 3)) (.slice (some ⟨w.heap.size, 0, none⟩) 2 2) abTwo) := by
    refine ⟨_, _, rfl, Nat.le_refl _, fun _ => ⟨w.heap.size, 0, rfl, by simp, fun i x hi => ?_⟩⟩
    match i, hi with
    | 0, hi => obtain rfl : (0 : Int) = x := Option.some.inj hi; exact cell_of_row _ w.heap.size 0 _ _ _ (heap_alloc_new w _)
    | 1, hi => obtain rfl : (1 : Int) = x := Option.some.inj hi; exact cell_of_row _ w.heap.size 1 _ _ _ (heap_alloc_new w _)
    | _ + 2, hi => cases hi
  unfold Fl.val at HAd
  clear h
  generalize polls abTwo (setN (fun _ => nd0) 0 ndAnn) 2 = po at *
  have HSq := hide (fun w p v h => foSeq_any w p v (ndFo 7 [enAnn] ndAnn) h)
  dsimp only [ndFo] at HSq
  rw [show ((([enAnn] : List En).take ndAnn.k).length : Int) = 1 from rfl] at HSq
  generalize headT 7 [enAnn] 4 = tx at *
  go_enter Tryz.func44, Tryz.ntmps44
  go_wp2_with fail
  refine (HNw.out _ _ (HE.out.below HB0.out).env HI0.out).mono ?_
  rintro e w1 ⟨hb, ⟨_, pt, vf, va, ps, hpt, rfl, hT⟩ | ⟨hn, _⟩⟩
  · have HB1 : Hid (Below w.heap.size w w1) := HB0.out.trans (hb.mono HB0.out.size)
    have HBz : Hid (w.heap.size ≤ (w.alloc (.cells #[.int .i64 0, .int .i64 1] 3)).heap.size ∧ (w.alloc (.cells #[.int .i64 0, .int .i64 1] 3)).heap.size ≤ w1.heap.size) := ⟨HB0.out.size, hb.size⟩
    have HT1 := hide hT
    clear hb hT hpt HNw HI0 HB0
    generalize (w.alloc (.cells #[.int .i64 0, .int .i64 1] 3)).heap.size = B at *
    go_wp2_with fail
    refine (HAd.out _ (HE.out.below HB1.out).env.f.errs).mono ?_
    rintro e w2 ⟨⟨v2, ev, rfl, hown, herr, hnil⟩, hb⟩
    obtain rfl := herr.none rfl
    have HB2 : Hid (Below w.heap.size w w2) := HB1.out.trans (hb.mono HB1.out.size)
    have HT2 := hide (HT1.out.below hb)
    have HBs2 : Hid (B ≤ w2.heap.size) := Nat.le_trans HBz.out.2 hb.size
    have HO2 := hide hown
    clear hnil hb herr hown HAd HB1 HT1
    go_wp2_with fail
    refine (HMk.out _ _ (HE.out.below HB2.out).env.f HO2.out.enAt).mono ?_
    rintro e w3 ⟨hp, hb⟩
    rcases hp with ⟨_, rfl⟩ | ⟨hn, _⟩
    · have HB3 : Hid (Below w.heap.size w w3) := HB2.out.trans (hb.mono HB2.out.size)
      have HT3 := hide (HT2.out.below hb)
      have HBs3 : Hid (B ≤ w3.heap.size) := Nat.le_trans HBs2.out hb.size
      have HO3 := hide (HO2.out.below hb)
      clear hb HMk HB2 HT2 HO2 HBs2
      go_wp2_with fail
      refine (HPu.out _ _ _ _ _ _ HT3.out (HE.out.below HB3.out).env _ HO3.out.enAt).mono ?_
      rintro e w4 ⟨p, hps, ⟨hn, _⟩ | ⟨_, rfl, hg, v4, hF4⟩⟩
      · exact absurd rfl hn
      · have HB4 : Hid (Below w.heap.size w w4) := HB3.out.grown hg HB3.out.size (fun k hk => by cases hk; exact Nat.le_trans HBz.out.1 (HT3.out.f _ _ hps).1)
        have HT4 : Hid (TrAt w4 B pt vf va 7 [enAnn] abTwo ps (setN (fun _ => nd0) 0 ndAnn)) := HT3.out.turn hps hg hF4
        have HBs4 : Hid (B ≤ w4.heap.size) := Nat.le_trans HBs3.out hg.size
        clear hg hF4 hps HPu HB3 HT3 HO3 HBs3
        go_wp2_with fail
        refine (HAll.out _ _ _ _ _ _ HT4.out (fun W hb => HE.out.below (HB4.out.trans (hb.mono HBz.out.1))) HBs4.out).mono ?_
        rintro e w5 ⟨rfl, hT5, hb⟩
        have HB5 : Hid (Below w.heap.size w w5) := HB4.out.trans (hb.mono HBz.out.1)
        have HT5 := hide hT5
        clear hb hT5 HT4 HB4 HAll HBs4
        go_wp2_with fail
        refine (HNo.out _ _ _ _ _ _ _ HT5.out).mono ?_
        rintro e w6 ⟨q, v6, _, rfl, hF6, hb⟩
        have HB6 : Hid (Below w.heap.size w w6) := HB5.out.trans (hb.mono HB5.out.size)
        have HT6 := hide (HT5.out.below hb)
        rw [HNd.out] at hF6
        have HF6 := hide hF6
        obtain ⟨gf, capf, hvf, _⟩ := HT6.out.form
        have HMn := hide (trMany_any w6 pt (some ⟨gf, 0, none⟩) 3 capf va (by rw [← show vf = .slice (some ⟨gf, 0, none⟩) 3 capf from hvf]; exact HT6.out.row))
        clear hb hF6 hvf HNo HB5 HT5 HNd
        go_wp2_with fail
        refine (HSq.out _ _ _ HF6.out).mono ?_
        rintro e w6 ⟨rfl, hw⟩
        subst hw
        go_wp2_with fail
        refine HMn.out.mono ?_
        rintro e w6 ⟨rfl, hw⟩
        subst hw
        go_wp2
        go_ret
        exact ⟨rfl, HB6.out⟩
    · exact absurd rfl hn
  · exact absurd ⟨⟨by decide, by decide⟩, two_fit⟩ hn
end Go.Proofs.YtgagekcjdapkfacGreatDoor

namespace Go.Proofs.YtgagekcjdapkfacGreatDoor
open Go Go.ChangeShapes Go.WideShapes Go.ChangeAt Go.RowKit Go.Deep

theorem Tryz.moveCells : Tryz.prog.cellsOf 96 = 7 := by kernel_rfl
set_option maxRecDepth 100000 in
theorem moves_open {H : Type} {enc : TypeId × Value → H} {W : World} {base : Nat} {spare : Nat → Bool} {held : Bool} {a0 : Option Addr} {len cap : Nat} {d : DataW H} {p : List MemPlace}
    (h : DataW.Trod enc Tryz.prog W base spare held 90 (.slice a0 len cap) d p) : ∃ l : List Mv, MvIn W (.slice a0 len cap) l := by
  obtain ⟨fuel, hf⟩ := h
  rcases Go.Deep.open_slice Tryz.underlying90 hf with ⟨hcs, _⟩ | ⟨a, len', cap', m, n, D, Pl, hcs, _, hl, hm, hmm, _, hx⟩
  · have e : a0 = none ∧ len = 0 ∧ cap = 0 := by simpa [Value.cells] using hcs
    obtain ⟨rfl, rfl, rfl⟩ := e
    exact ⟨[], none, 0, rfl, Nat.le_refl _, fun h => absurd h (by simp)⟩
  · have e : a0 = some a ∧ len = len' ∧ cap = cap' := by simpa [Value.cells] using hcs
    obtain ⟨rfl, rfl, rfl⟩ := e
    have hlm : len ≤ m := by rw [hmm]; split <;> omega
    have each : ∀ i, i < len → ∃ x : Mv, W.cell? (a.add (i * 7)) = some (.string x.kind) ∧ W.cell? (a.add (i * 7 + 1)) = some (.int .i64 x.n) ∧ W.cell? (a.add (i * 7 + 2)) = some (.int .i64 x.w.many) ∧ W.cell? (a.add (i * 7 + 3)) = some (.int .i64 x.w.from') ∧ W.cell? (a.add (i * 7 + 4)) = some (.int .i64 x.w.time) ∧ W.cell? (a.add (i * 7 + 5)) = some (.int .i64 x.w.key) ∧ W.cell? (a.add (i * 7 + 6)) = some (.string x.w.text) := by
      intro i hi
      obtain ⟨cs', h1, h2⟩ := hx i (by omega)
      rw [Tryz.moveCells] at h1
      obtain ⟨_, hlen, hcell⟩ := World.cells?_some h1
      obtain ⟨y0, y1, y2, k, _, _, g0, g1, g2⟩ := Go.Deep.trod_struct3 Tryz.underlying96 h2
      match cs', hlen with
      | [v0, v1, v2, v3, v4, v5, v6], _ =>
        have q0 : DataW.trod enc Tryz.prog W base spare held k 9 [v0] = some y0 := g0
        have q1 : DataW.trod enc Tryz.prog W base spare held k 3 [v1] = some y1 := g1
        have q2 : DataW.trod enc Tryz.prog W base spare held k 69 [v2, v3, v4, v5, v6] = some y2 := g2
        have fld := fun (j : Nat) (f : Field) hj v hv => cell_trod Tryz.underlying69 (by kernel_rfl) q2 j f hj v hv
        obtain ⟨_, _, r0⟩ := fld 0 _ rfl v2 rfl
        obtain ⟨_, _, r1⟩ := fld 1 _ rfl v3 rfl
        obtain ⟨_, _, r2⟩ := fld 2 _ rfl v4 rfl
        obtain ⟨_, _, r3⟩ := fld 3 _ rfl v5 rfl
        obtain ⟨_, _, r4⟩ := fld 4 _ rfl v6 rfl
        obtain ⟨s0, e0, _, _⟩ := DataW.trod_string Tryz.underlying9 q0
        obtain ⟨n1, e1, _, _⟩ := DataW.trod_int Tryz.underlying3 q1
        obtain ⟨n2, e2, _, _⟩ := DataW.trod_int Tryz.underlying3 r0
        obtain ⟨n3, e3, _, _⟩ := DataW.trod_int Tryz.underlying3 r1
        obtain ⟨n4, e4, _, _⟩ := DataW.trod_int Tryz.underlying3 r2
        obtain ⟨n5, e5, _, _⟩ := DataW.trod_int Tryz.underlying3 r3
        obtain ⟨s6, e6, _, _⟩ := DataW.trod_string Tryz.underlying9 r4
        cases e0; cases e1; cases e2; cases e3; cases e4; cases e5; cases e6
        have c0 := hcell 0 (by omega)
        have c1 := hcell 1 (by omega)
        have c2 := hcell 2 (by omega)
        have c3 := hcell 3 (by omega)
        have c4 := hcell 4 (by omega)
        have c5 := hcell 5 (by omega)
        have c6 := hcell 6 (by omega)
        rw [Go.Deep.add_add] at c0 c1 c2 c3 c4 c5 c6
        exact ⟨⟨s0, n1, ⟨n2, n3, n4, n5, s6⟩⟩, c0, c1, c2, c3, c4, c5, c6⟩
    have inst : Inhabited Mv := ⟨⟨ByteArray.empty, 0, ⟨0, 0, 0, 0, ByteArray.empty⟩⟩⟩
    obtain ⟨f, hfx⟩ := Go.Deep.choose_lt (α := Mv) each
    have hlen : ((List.range len).map f).length = len := by simp
    refine ⟨(List.range len).map f, some a, cap, by rw [hlen], by omega, fun h0 => ?_⟩
    rw [hlen] at h0
    obtain ⟨b, off, spot⟩ := a
    have hspot : spot = none := by
      have := (hfx 0 h0).1
      simpa [Addr.add] using World.cell?_spot this
    subst hspot
    refine ⟨b, off, rfl, ?_, fun i x hx => ?_⟩
    · have := (hfx 0 h0).1
      rw [Go.WideShapes.add_plain] at this
      exact cell_lt this
    · obtain ⟨hi, e⟩ := List.getElem?_eq_some_iff.1 hx
      rw [hlen] at hi
      have hg : ((List.range len).map f)[i]'(by rw [hlen]; exact hi) = f i := by simp
      have e2 : x = f i := e.symm.trans hg
      obtain ⟨c0, c1, c2, c3, c4, c5, c6⟩ := hfx i hi
      rw [Go.WideShapes.add_plain] at c0 c1 c2 c3 c4 c5 c6
      rw [e2]
      exact ⟨c0, c1, c2, c3, c4, c5, c6⟩
end Go.Proofs.YtgagekcjdapkfacGreatDoor

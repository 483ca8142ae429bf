/-
  What the functions of these parts do, and what holds of their plain forms: RealmPlain, RealmErr, RealmSalt.
-/
import Derived.Test.YtabpnjchocgakaaGreatDoorPk00
import Derived.Test.YtabpnjchocgakaaGreatDoorPk06
import Derived.Test.YtabpnjchocgakaaGreatDoorPk09
import Derived.Test.YtabpnjchocgakaaGreatDoorPk03
import Derived.Test.YtabpnjchocgakaaGreatDoorCoded
import Derived.Test.YtabpnjchocgakaaGreatDoorPk02
namespace Go.Proofs.YtabpnjchocgakaaGreatDoor
open Go
structure Rm where
 key : Int
 long : Int
 time : Int
 ser : Int
 b : List Per
 l : List En
def startE (l : List En) : Int := l.foldl (fun a e => if e.fl.nm = star then e.fl.ep else a) 1
theorem start_snoc (l : List En) (e : En) : startE (l ++ [e]) = if e.fl.nm = star then e.fl.ep else startE l := by unfold startE; rw [List.foldl_append]; rfl
def per0 : Per := ⟨⟨#[]⟩, 0, 0, false⟩
def perOf (L : List Per) (name : ByteArray) : Per := (getP L name).getD per0
theorem per_of {L : List Per} {name : ByteArray} {p : Per} (h : getP L name = some p) : perOf L name = p := by unfold perOf; rw [h]; rfl
def Rm.addC (r : Rm) (name : ByteArray) (key : Int) : Nat := (addP r.b name key).1
def Rm.addR (r : Rm) (name : ByteArray) (key : Int) : Rm := if r.addC name key = 0 then { r with b := putP r.b { newP name key with epoch := startE r.l } } else r
def Rm.offC (r : Rm) (name : ByteArray) (off : Bool) : Nat := (offP r.b name off).1
def Rm.offR (r : Rm) (name : ByteArray) (off : Bool) : Rm := { r with b := (offP r.b name off).2 }
def prf (name : ByteArray) (time : Int) : List UInt8 := name.data.toList ++ 32 :: Lib.decDigits time.toNat
def Rm.til (r : Rm) : Int := if 1000000 < r.time + r.long then 1000000 else r.time + r.long
def Rm.logT (r : Rm) (name dst : ByteArray) : Tk := ⟨name, dst, (perOf r.b name).epoch, r.time, r.til, r.ser⟩
def Rm.logC (r : Rm) (name : ByteArray) (proof : Int) (dst : ByteArray) : Nat :=
 if getP r.b name = none ∨ getP r.b dst = none then 5
 else if (perOf r.b name).off = true ∨ (perOf r.b dst).off = true then 16
 else if rightE (perOf r.b name).key (prf name r.time) proof = 0 then (if 1000000 ≤ r.time ∨ 1073741824 < r.ser then 2 else 0)
 else rightE (perOf r.b name).key (prf name r.time) proof
def Rm.logS (r : Rm) (name : ByteArray) (proof : Int) (dst : ByteArray) : ByteArray := if r.logC name proof dst = 0 then Sl.ofL (Sl.sealL (perOf r.b dst).key (r.logT name dst).words) else ⟨#[]⟩
def Rm.serR (r : Rm) (c : Nat) : Rm := if c = 0 then { r with ser := r.ser + 1 } else r
def tkIn (s : ByteArray) : Tk := tkOf (Sl.lookW s.data.toList)
def Rm.renC (r : Rm) (s dst : ByteArray) : Nat :=
 if getP r.b dst = none then 5 else if (perOf r.b dst).off = true then 16
 else if tkOpenE (perOf r.b dst).key s.data.toList = 0 then
  (if (tkIn s).dst = dst then
   (if getP r.b (tkIn s).who = none then 5 else if (perOf r.b (tkIn s).who).off = true then 16
    else if (tkIn s).epoch = (perOf r.b (tkIn s).who).epoch then (tkIn s).renewE r.time (r.time + r.long) r.ser else 13)
   else 4)
 else tkOpenE (perOf r.b dst).key s.data.toList
def Rm.renS (r : Rm) (s dst : ByteArray) : ByteArray := if r.renC s dst = 0 then Sl.ofL (Sl.sealL (perOf r.b dst).key ((tkIn s).anew r.time (r.time + r.long) r.ser).words) else ⟨#[]⟩
def Rm.entC (r : Rm) (who : ByteArray) (n : Int) : Nat := (Go.Proofs.YtabpnjchocgakaaGreatDoor.addC r.l r.time ⟨who, n⟩).1
def Rm.entR (r : Rm) (B : List Per) (who : ByteArray) (n : Int) : Rm := if r.entC who n = 0 then { r with b := B, l := addL r.l r.time ⟨who, n⟩ } else r
def numC (c : Nat) (n : Int) : Int := if c = 0 then n else 0
def Rm.revC (r : Rm) (name : ByteArray) : Nat := if (raiseP r.b name).2.1 = 0 then r.entC name (raiseP r.b name).1 else (raiseP r.b name).2.1
def Rm.revR (r : Rm) (name : ByteArray) : Rm := if (raiseP r.b name).2.1 = 0 then r.entR (raiseP r.b name).2.2 name (raiseP r.b name).1 else r
def Rm.keyN (r : Rm) (name : ByteArray) (key : Int) : Int := (perOf (rekeyP r.b name key).2 name).epoch
def Rm.keyC (r : Rm) (name : ByteArray) (key : Int) : Nat := if (rekeyP r.b name key).1 = 0 then r.entC name (r.keyN name key) else (rekeyP r.b name key).1
def Rm.keyR (r : Rm) (name : ByteArray) (key : Int) : Rm := if (rekeyP r.b name key).1 = 0 then r.entR (rekeyP r.b name key).2 name (r.keyN name key) else r
def topE (B : List Per) : Int := B.foldl (fun a p => if a < p.epoch then p.epoch else a) 0
def allE (B : List Per) (n : Int) : List Per := B.map fun p => { p with epoch := n }
def starB : ByteArray := ⟨#[42]⟩
theorem star_nm (n : Int) : (Fl.mk starB n).nm = star := rfl
def Rm.fluC (r : Rm) : Nat := if 1073741824 ≤ topE r.b then 2 else r.entC starB (topE r.b + 1)
def Rm.fluR (r : Rm) : Rm := if 1073741824 ≤ topE r.b then r else r.entR (allE r.b (topE r.b + 1)) starB (topE r.b + 1)
def Rm.nexC (r : Rm) (n : Int) : Nat := if 0 ≤ n ∧ n ≤ 1000000 - r.time then 0 else 2
def Rm.nexR (r : Rm) (n : Int) : Rm := if r.nexC n = 0 then { r with time := r.time + n } else r
def rmC (key long : Int) : Nat := if 1 ≤ key ∧ key ≤ 1000000006 then (if 1 ≤ long ∧ long ≤ 1000000 then 0 else 2) else 10
def rmN (key long : Int) : Rm := ⟨key, long, 0, 1, [], []⟩
structure GoodR (r : Rm) : Prop where
 book : Good r.b
 key : 1 ≤ r.key ∧ r.key ≤ 1000000006
 long : 1 ≤ r.long ∧ r.long ≤ 1000000
 time : 0 ≤ r.time ∧ r.time ≤ 1000000
 ser : 1 ≤ r.ser ∧ r.ser ≤ 1073741825
 feed : (feedC r.l).1 = 0
 new : newL r.l ≤ r.time
 who : ∀ e ∈ r.l, e.fl.nm = star ∨ ∃ p ∈ r.b, p.nm = e.fl.nm ∧ e.fl.ep ≤ p.epoch
 stars : ∀ e ∈ r.l, e.fl.nm = star → e.fl.ep ≤ startE r.l
 all : ∀ p ∈ r.b, startE r.l ≤ p.epoch
 lone : r.b = [] → startE r.l = 1
theorem start_pos : ∀ {l : List En}, (∀ e ∈ l, oneE e.fl = 0) → 1 ≤ startE l ∧ startE l ≤ 1073741824 := by
 intro l
 have key : ∀ (l : List En) (a : Int), (∀ e ∈ l, oneE e.fl = 0) → 1 ≤ a ∧ a ≤ 1073741824 → 1 ≤ l.foldl (fun a e => if e.fl.nm = Go.Proofs.YtabpnjchocgakaaGreatDoor.star then e.fl.ep else a) a ∧ l.foldl (fun a e => if e.fl.nm = Go.Proofs.YtabpnjchocgakaaGreatDoor.star then e.fl.ep else a) a ≤ 1073741824 := by
  intro l
  induction l with
  | nil => intro a _ h; exact h
  | cons e l ih =>
   intro a h1 h2
   refine ih _ (fun x hx => h1 x (by simp [hx])) ?_
   show 1 ≤ (if e.fl.nm = Go.Proofs.YtabpnjchocgakaaGreatDoor.star then e.fl.ep else a) ∧ (if e.fl.nm = Go.Proofs.YtabpnjchocgakaaGreatDoor.star then e.fl.ep else a) ≤ 1073741824
   split
   ·
    exact one_pos (h1 e (by simp))
   ·
    exact h2
 exact fun h => key l 1 h (by decide)
theorem GoodR.start {r : Rm} (h : GoodR r) : 1 ≤ startE r.l ∧ startE r.l ≤ 1073741824 := start_pos (feed_one h.feed)
theorem GoodR.few {r : Rm} (h : GoodR r) : r.l.length ≤ 60 := (feed_zero h.feed).1
theorem rm_good {key long : Int} (h : rmC key long = 0) : GoodR (rmN key long) := by
 unfold rmC at h
 split at h
 ·
  split at h
  ·
   rename_i h1 h2
   exact ⟨Good.nil, h1, h2, ⟨Int.le_refl 0, by show (0 : Int) ≤ 1000000; decide⟩, ⟨by show (1 : Int) ≤ 1; decide, by show (1 : Int) ≤ 1073741825; decide⟩, (by show (feedC []).1 = 0; rfl), Int.le_refl 0, (fun e he => by cases he), (fun e he => by cases he), (fun p hp => by cases hp), fun _ => rfl⟩
  ·
   cases h
 ·
  cases h
theorem GoodR.risen {r : Rm} (h : GoodR r) {B : List Per} (hg : Good B) (hr : Risen r.b B) (ha : ∀ p ∈ B, startE r.l ≤ p.epoch) : GoodR { r with b := B } :=
 ⟨hg, h.key, h.long, h.time, h.ser, h.feed, h.new, (fun e he => (h.who e he).imp id fun ⟨p, hp, h1, h2⟩ => by
  obtain ⟨q, hq, h3, _⟩ := hr p hp
  obtain ⟨h4, h5⟩ := getP_some hq
  exact ⟨q, h5, by unfold Per.nm; rw [h4]; exact h1, by omega⟩), h.stars, ha, fun e => by
  refine h.lone ?_
  cases hb : r.b with
  | nil => rfl
  | cons p L =>
   obtain ⟨q, hq, _⟩ := hr p (by rw [hb]; simp)
   have e' : B = [] := e
   rw [e'] at hq
   cases hq⟩
theorem putP_all {L : List Per} (h : Rising L) {p p' : Per} (hg : getP L p'.name = some p) (he : p.epoch ≤ p'.epoch) {m : Int} (ha : ∀ q ∈ L, m ≤ q.epoch) : ∀ q ∈ putP L p', m ≤ q.epoch := by
 obtain ⟨k, hkl, rfl, _⟩ := getP_idx hg
 rw [putP_set h k hkl p' (getP_some hg).1]
 intro q hq
 rcases List.mem_or_eq_of_mem_set hq with g | rfl
 ·
  exact ha q g
 ·
  have := ha L[k] (List.getElem_mem _)
  omega
theorem raiseP_all {L : List Per} (h : Good L) (name : ByteArray) {m : Int} (ha : ∀ q ∈ L, m ≤ q.epoch) : ∀ q ∈ (raiseP L name).2.2, m ≤ q.epoch := by
 cases hg : getP L name with
 | none => rw [raise_none hg]; exact ha
 | some p =>
  rw [raise_some h.rise hg]
  split
  ·
   exact ha
  ·
   have hn := (getP_some hg).1
   subst hn
   exact putP_all (p' := { p with epoch := p.epoch + 1 }) h.rise hg (by show p.epoch ≤ p.epoch + 1; omega) ha
theorem offP_all {L : List Per} (h : Good L) (name : ByteArray) (off : Bool) {m : Int} (ha : ∀ q ∈ L, m ≤ q.epoch) : ∀ q ∈ (offP L name off).2, m ≤ q.epoch := by
 cases hg : getP L name with
 | none => rw [off_none off hg]; exact ha
 | some p =>
  rw [off_some off h.rise hg]
  split
  ·
   exact ha
  ·
   have hn := (getP_some hg).1
   subst hn
   exact putP_all (p' := { p with off := off }) h.rise hg (Int.le_refl _) ha
theorem rekeyP_all {L : List Per} (h : Good L) (name : ByteArray) (key : Int) {m : Int} (ha : ∀ q ∈ L, m ≤ q.epoch) : ∀ q ∈ (rekeyP L name key).2, m ≤ q.epoch := by
 cases hg : getP L name with
 | none => rw [rekey_none key hg]; exact ha
 | some p =>
  rw [rekey_some key h.rise hg]
  split
  ·
   split
   ·
    exact ha
   ·
    split
    ·
     exact ha
    ·
     have hn := (getP_some hg).1
     subst hn
     exact putP_all (p' := { p with key := key, epoch := p.epoch + 1 }) h.rise hg (by show p.epoch ≤ p.epoch + 1; omega) ha
  ·
   exact ha
theorem GoodR.offR {r : Rm} (h : GoodR r) (name : ByteArray) (off : Bool) : GoodR (r.offR name off) :=
 h.risen (off_acted h.book name off).good (off_acted h.book name off).risen (offP_all h.book name off h.all)
theorem addP_zero {L : List Per} {name : ByteArray} {key : Int} (h : (addP L name key).1 = 0) : (newP name key).err = 0 ∧ getP L name = none ∧ L.length < 20 ∧ (addP L name key).2 = putP L (newP name key) := by
 unfold addP at h ⊢
 by_cases h1 : (newP name key).err = 0
 ·
  rw [if_neg (by simpa using h1)] at h ⊢
  cases hg : getP L name with
  | some p => rw [hg] at h; cases h
  | none =>
   rw [hg] at h
   by_cases h2 : 20 ≤ L.length
   ·
    simp only [Option.isSome_none, Bool.false_eq_true, if_false, if_pos h2] at h
    cases h
   ·
    refine ⟨h1, rfl, by omega, ?_⟩
    simp only [Option.isSome_none, Bool.false_eq_true, if_false, if_neg h2]
 ·
  rw [if_pos h1] at h
  exact absurd h h1
theorem GoodR.newcomer {r : Rm} (h : GoodR r) {name : ByteArray} {key : Int} (h1 : (newP name key).err = 0) : ({ newP name key with epoch := startE r.l } : Per).err = 0 := by
 obtain ⟨f1, f2, _⟩ := err_zero.1 h1
 exact err_zero.2 ⟨f1, f2, h.start⟩
theorem GoodR.addR {r : Rm} (h : GoodR r) (name : ByteArray) (key : Int) : GoodR (r.addR name key) := by
 unfold Rm.addR
 split
 ·
  rename_i h0
  obtain ⟨h1, h2, h3, _⟩ := addP_zero h0
  obtain ⟨g1, g2⟩ := put_new_good h.book (p := { newP name key with epoch := startE r.l }) (h.newcomer h1) h2 h3
  refine h.risen g1 g2 fun q hq => ?_
  rw [putP_new (getP_none h2)] at hq
  rcases List.mem_cons.1 ((insL_perm _ _).mem_iff.1 hq) with rfl | hq
  ·
   exact Int.le_refl _
  ·
   exact h.all q hq
 ·
  exact h
theorem GoodR.serR {r : Rm} (h : GoodR r) (c : Nat) (hc : c = 0 → r.ser ≤ 1073741824) : GoodR (r.serR c) := by
 unfold Rm.serR
 split
 ·
  rename_i h0
  have := hc h0
  have := h.ser
  exact ⟨h.book, h.key, h.long, h.time, ⟨by show 1 ≤ r.ser + 1; omega, by show r.ser + 1 ≤ _; omega⟩, h.feed, h.new, h.who, h.stars, h.all, h.lone⟩
 ·
  exact h
theorem GoodR.nexR {r : Rm} (h : GoodR r) (n : Int) : GoodR (r.nexR n) := by
 by_cases h1 : 0 ≤ n ∧ n ≤ 1000000 - r.time
 ·
  have e : r.nexR n = { r with time := r.time + n } := by unfold Rm.nexR Rm.nexC; rw [if_pos h1, if_pos rfl]
  rw [e]
  have := h.time
  have := h.new
  exact ⟨h.book, h.key, h.long, ⟨by show 0 ≤ r.time + n; omega, by show r.time + n ≤ _; omega⟩, h.ser, h.feed, by show newL r.l ≤ r.time + n; omega, h.who, h.stars, h.all, h.lone⟩
 ·
  have e : r.nexR n = r := by unfold Rm.nexR Rm.nexC; rw [if_neg h1, if_neg (by decide)]
  rw [e]
  exact h
theorem new_add (l : List En) (time : Int) (f : Fl) : newL (addL l time f) = time := by unfold newL addL; rw [List.getLast?_concat]
theorem GoodR.entR {r : Rm} (h : GoodR r) {B : List Per} (hg : Good B) (hr : Risen r.b B) (ha : ∀ p ∈ B, startE r.l ≤ p.epoch) {who : ByteArray} {n : Int} (hw : (Fl.mk who n).nm ≠ Go.Proofs.YtabpnjchocgakaaGreatDoor.star) (hp : ∃ p ∈ B, p.name = who ∧ n ≤ p.epoch) : GoodR (r.entR B who n) := by
 unfold Rm.entR
 split
 ·
  rename_i h0
  have h' := h.risen hg hr ha
  have hs : startE (addL r.l r.time ⟨who, n⟩) = startE r.l := by
   unfold addL
   rw [start_snoc, if_neg hw]
  refine ⟨hg, h.key, h.long, h.time, h.ser, ?_, ?_, fun e he => ?_, fun e he hse => ?_, ?_, ?_⟩
  ·
   show (feedC (addL r.l r.time ⟨who, n⟩)).1 = 0
   rw [feed_add h.feed]
   unfold Rm.entC Go.Proofs.YtabpnjchocgakaaGreatDoor.addC at h0
   rw [if_pos h.feed] at h0
   exact h0
  ·
   show newL (addL r.l r.time ⟨who, n⟩) ≤ r.time
   rw [new_add]
   exact Int.le_refl _
  ·
   rcases List.mem_append.1 (show e ∈ r.l ++ _ from he) with g | g
   ·
    exact h'.who e g
   ·
    obtain rfl := List.mem_singleton.1 g
    obtain ⟨p, h1, h2, h3⟩ := hp
    exact Or.inr ⟨p, h1, by unfold Per.nm Fl.nm; rw [h2], h3⟩
  ·
   show e.fl.ep ≤ startE (addL r.l r.time ⟨who, n⟩)
   rw [hs]
   rcases List.mem_append.1 (show e ∈ r.l ++ _ from he) with g | g
   ·
    exact h.stars e g hse
   ·
    obtain rfl := List.mem_singleton.1 g
    exact absurd hse hw
  ·
   show ∀ p ∈ B, startE (addL r.l r.time ⟨who, n⟩) ≤ p.epoch
   rw [hs]
   exact ha
  ·
   show B = [] → startE (addL r.l r.time ⟨who, n⟩) = 1
   rw [hs]
   exact h'.lone
 ·
  exact h
theorem name_one {p : Per} (h : p.err = 0) : oneE ⟨p.name, p.epoch⟩ = 0 ∧ (Fl.mk p.name p.epoch).nm ≠ Go.Proofs.YtabpnjchocgakaaGreatDoor.star := by
 obtain ⟨f1, f2, f3⟩ := err_zero.1 h
 refine ⟨?_, fun e => ?_⟩
 ·
  have f1' : Sl.nameL (Fl.mk p.name p.epoch).nm = true := f1
  have f3' : 1 ≤ (Fl.mk p.name p.epoch).ep ∧ (Fl.mk p.name p.epoch).ep ≤ 1073741824 := f3
  unfold oneE
  rw [if_pos (Or.inr f1'), if_pos f3']
 ·
  have := star_lt f1
  rw [show p.nm = Go.Proofs.YtabpnjchocgakaaGreatDoor.star from e] at this
  exact List.lt_irrefl _ this
theorem raiseP_one {L : List Per} (h : Good L) {name : ByteArray} (h0 : (raiseP L name).2.1 = 0) : ∃ p ∈ (raiseP L name).2.2, p.name = name ∧ p.epoch = (raiseP L name).1 ∧ p.err = 0 := by
 have hG := (raise_acted h name).good
 cases hg : getP L name with
 | none => rw [raise_none hg] at h0; cases h0
 | some p =>
  rw [raise_some h.rise hg] at h0 hG ⊢
  split at h0
  ·
   cases h0
  ·
   rename_i he
   rw [if_neg he] at hG ⊢
   obtain ⟨k, hk, rfl, _⟩ := getP_idx hg
   have hn := (getP_some hg).1
   have hm : ({ L[k] with epoch := L[k].epoch + 1 } : Per) ∈ putP L { L[k] with epoch := L[k].epoch + 1 } := by
    rw [putP_set h.rise k hk { L[k] with epoch := L[k].epoch + 1 } rfl]
    exact List.mem_set hk _
   exact ⟨_, hm, hn, rfl, hG.fine _ hm⟩
theorem rekeyP_one {L : List Per} (h : Good L) {name : ByteArray} {key : Int} (h0 : (rekeyP L name key).1 = 0) : ∃ p, getP (rekeyP L name key).2 name = some p ∧ p ∈ (rekeyP L name key).2 ∧ p.name = name ∧ p.err = 0 := by
 have hA := rekey_acted h name key
 cases hg : getP L name with
 | none => rw [rekey_none key hg] at h0; cases h0
 | some p =>
  obtain ⟨hn, hm⟩ := getP_some hg
  obtain ⟨q, hq, _⟩ := hA.risen p hm
  rw [hn] at hq
  exact ⟨q, hq, (getP_some hq).2, (getP_some hq).1, hA.good.fine _ (getP_some hq).2⟩
theorem GoodR.revR {r : Rm} (h : GoodR r) (name : ByteArray) : GoodR (r.revR name) := by
 unfold Rm.revR
 split
 ·
  rename_i h0
  obtain ⟨p, hp, h1, h2, h3⟩ := raiseP_one h.book h0
  have g2 := (name_one h3).2
  rw [h1, h2] at g2
  exact h.entR (raise_acted h.book name).good (raise_acted h.book name).risen (raiseP_all h.book name h.all) g2 ⟨p, hp, h1, by omega⟩
 ·
  exact h
theorem GoodR.keyR {r : Rm} (h : GoodR r) (name : ByteArray) (key : Int) : GoodR (r.keyR name key) := by
 unfold Rm.keyR
 split
 ·
  rename_i h0
  obtain ⟨p, hp, hm, h1, h3⟩ := rekeyP_one h.book h0
  have e : r.keyN name key = p.epoch := by unfold Rm.keyN; rw [per_of hp]
  have g2 := (name_one h3).2
  rw [h1] at g2
  rw [e]
  exact h.entR (rekey_acted h.book name key).good (rekey_acted h.book name key).risen (rekeyP_all h.book name key h.all) g2 ⟨p, hm, h1, Int.le_refl _⟩
 ·
  exact h
theorem top_ge (B : List Per) : 0 ≤ topE B ∧ ∀ p ∈ B, p.epoch ≤ topE B := by
 have key : ∀ (B : List Per) (a : Int), a ≤ B.foldl (fun a p => if a < p.epoch then p.epoch else a) a ∧ ∀ p ∈ B, p.epoch ≤ B.foldl (fun a p => if a < p.epoch then p.epoch else a) a := by
  intro B
  induction B with
  | nil => exact fun a => ⟨Int.le_refl _, fun p hp => by cases hp⟩
  | cons q B ih =>
   intro a
   obtain ⟨h1, h2⟩ := ih (if a < q.epoch then q.epoch else a)
   have h3 : a ≤ (if a < q.epoch then q.epoch else a) ∧ q.epoch ≤ (if a < q.epoch then q.epoch else a) := by split <;> omega
   refine ⟨Int.le_trans h3.1 h1, fun p hp => ?_⟩
   rcases List.mem_cons.1 hp with rfl | hp
   ·
    exact Int.le_trans h3.2 h1
   ·
    exact h2 p hp
 exact key B 0
theorem all_get (B : List Per) (n : Int) (name : ByteArray) : getP (allE B n) name = (getP B name).map fun p => { p with epoch := n } := by
 unfold getP allE
 rw [List.find?_map]
 rfl
theorem all_good {B : List Per} (h : Good B) {n : Int} (hn : 1 ≤ n ∧ n ≤ 1073741824) : Good (allE B n) :=
 ⟨List.pairwise_map.2 (List.Pairwise.imp (fun {_ _} hab => hab) h.rise), (fun p hp => by
  obtain ⟨q, hq, rfl⟩ := List.mem_map.1 hp
  obtain ⟨f1, f2, _⟩ := err_zero.1 (h.fine q hq)
  exact err_zero.2 ⟨f1, f2, hn⟩), by
  have := h.few
  simpa [allE] using this⟩
theorem all_risen {B : List Per} (h : Good B) {n : Int} (hn : ∀ p ∈ B, p.epoch < n) : Risen B (allE B n) := fun q hq =>
 ⟨{ q with epoch := n }, by rw [all_get, getP_of_mem h.rise hq]; rfl, by have := hn q hq; show q.epoch ≤ n; omega, Or.inl rfl⟩
theorem GoodR.fluR {r : Rm} (h : GoodR r) : GoodR r.fluR := by
 unfold Rm.fluR
 split
 ·
  exact h
 ·
  rename_i ht
  obtain ⟨t0, t1⟩ := top_ge r.b
  have hn : 1 ≤ topE r.b + 1 ∧ topE r.b + 1 ≤ 1073741824 := by omega
  unfold Rm.entR
  split
  ·
   rename_i h0
   have hg := all_good h.book hn
   have hr := all_risen h.book (n := topE r.b + 1) (fun p hp => by have := t1 p hp; omega)
   have hs : startE (addL r.l r.time ⟨starB, topE r.b + 1⟩) = topE r.b + 1 := by
    unfold addL
    rw [start_snoc, if_pos (star_nm _)]
   have hold : startE r.l ≤ topE r.b + 1 := by
    cases hb : r.b with
    | nil => rw [h.lone hb]; show (1 : Int) ≤ topE [] + 1; decide
    | cons p L =>
     have h1 := h.all p (by rw [hb]; simp)
     have h2 := t1 p (by rw [hb]; simp)
     rw [← hb]
     omega
   refine ⟨hg, h.key, h.long, h.time, h.ser, ?_, ?_, fun e he => ?_, fun e he hse => ?_, ?_, ?_⟩
   ·
    show (feedC (addL r.l r.time ⟨starB, topE r.b + 1⟩)).1 = 0
    rw [feed_add h.feed]
    unfold Rm.entC Go.Proofs.YtabpnjchocgakaaGreatDoor.addC at h0
    rw [if_pos h.feed] at h0
    exact h0
   ·
    show newL (addL r.l r.time ⟨starB, topE r.b + 1⟩) ≤ r.time
    rw [new_add]
    exact Int.le_refl _
   ·
    rcases List.mem_append.1 (show e ∈ r.l ++ _ from he) with g | g
    ·
     refine (h.who e g).imp id fun ⟨p, hp, h1, h2⟩ => ?_
     obtain ⟨q, hq, h3, _⟩ := hr p hp
     obtain ⟨h4, h5⟩ := getP_some hq
     exact ⟨q, h5, by unfold Per.nm; rw [h4]; exact h1, by omega⟩
    ·
     obtain rfl := List.mem_singleton.1 g
     exact Or.inl (star_nm _)
   ·
    show e.fl.ep ≤ startE (addL r.l r.time ⟨starB, topE r.b + 1⟩)
    rw [hs]
    rcases List.mem_append.1 (show e ∈ r.l ++ _ from he) with g | g
    ·
     have := h.stars e g hse
     omega
    ·
     obtain rfl := List.mem_singleton.1 g
     exact Int.le_refl _
   ·
    show ∀ p ∈ allE r.b (topE r.b + 1), startE (addL r.l r.time ⟨starB, topE r.b + 1⟩) ≤ p.epoch
    rw [hs]
    intro p hp
    obtain ⟨q, _, rfl⟩ := List.mem_map.1 hp
    exact Int.le_refl _
   ·
    show allE r.b (topE r.b + 1) = [] → startE (addL r.l r.time ⟨starB, topE r.b + 1⟩) = 1
    rw [hs]
    intro e
    have hb : r.b = [] := List.map_eq_nil_iff.1 e
    rw [hb]
    rfl
  ·
   exact h
end Go.Proofs.YtabpnjchocgakaaGreatDoor

namespace Go.Proofs.YtabpnjchocgakaaGreatDoor
open Go.RowKit Go.Extern.Stop Go.Stop Go.Extern Go.Proofs
abbrev EvP (a : Nat → Addr) (w : World) (c : Nat) (ev : Value) : Prop := FlErr a w (c, -1) ev
theorem evp_V (a : Nat → Addr) (c : Nat) (w : World) : EvP a w c (errV a c) := by
 by_cases h : c = 0
 ·
  subst h
  exact Or.inl ⟨rfl, errV_zero a⟩
 ·
  exact Or.inr (Or.inl ⟨h, rfl, errV_pos a h⟩)
theorem coded_evp (a : Nat → Addr) (c : Nat) (hc : c ≤ 16) (ev : Value) (w : World) (h : EvP a w c ev) (hE : Errs a w) :
  Calls Tryz.prog 21 #[ev, .int .i64 (c : Int)] w fun e w' => e = .returned (.bool true) ∧ Below w.heap.size w w' := by
 rcases h with ⟨h1, rfl⟩ | ⟨h1, _, rfl⟩ | ⟨h1, b, rfl, hb⟩
 ·
  have h1' : c = 0 := h1
  subst h1'
  have := coded_self a 0 (by decide) w hE
  rwa [errV_zero] at this
 ·
  have h1' : c ≠ 0 := h1
  have := coded_self a c hc w hE
  rwa [errV_pos a h1'] at this
 ·
  have h1' : c ≠ 0 := h1
  have := coded_of (fV b 0) (((c - 1 : Nat) : Int) + 1) (-1) (c : Int) w (code_at a (c - 1) (by omega) b 0 (-1) w hE (cell_of_row w b 0 _ _ _ hb) (cell_of_row w b 1 _ _ _ hb))
  rwa [show decide ((((c - 1 : Nat) : Int) + 1) = (c : Int) ∧ (-1 : Int) = -1) = true from by simp; omega] at this
end Go.Proofs.YtabpnjchocgakaaGreatDoor

namespace Go.Proofs.YtabpnjchocgakaaGreatDoor
open Go
theorem nodup_le {α : Type} [DecidableEq α] : ∀ {l m : List α}, l.Nodup → (∀ x ∈ l, x ∈ m) → l.length ≤ m.length
 | [], _, _, _ => Nat.zero_le _
 | a :: l, m, hn, hs => by
  obtain ⟨h1, h2⟩ := List.nodup_cons.1 hn
  have ha := hs a (by simp)
  have h3 := nodup_le (l := l) (m := m.erase a) h2 (fun x hx => (List.mem_erase_of_ne (fun e => h1 (by rw [← e]; exact hx))).2 (hs x (by simp [hx])))
  rw [List.length_erase_of_mem ha] at h3
  have := List.length_pos_of_mem ha
  rw [List.length_cons]
  omega
theorem raised_mem {l : List Fl} {f g : Fl} (h : g ∈ raisedL l f) : g = f ∨ g ∈ l := by
 unfold raisedL at h
 split at h
 ·
  exact Or.inr h
 ·
  rcases mem_putF.1 h with e | e
  ·
   exact Or.inl e
  ·
   exact Or.inr (mem_keptF.1 e).1
theorem rising_few {l : List Fl} (h : RisingF l) {ns : List (List UInt8)} (hs : ∀ f ∈ l, f.nm ∈ ns) : l.length ≤ ns.length := by
 have hn : (l.map Fl.nm).Nodup := List.pairwise_map.2 (h.imp fun g e => by rw [e] at g; exact List.lt_irrefl _ g)
 have := nodup_le hn (fun x hx => by
  obtain ⟨f, hf, rfl⟩ := List.mem_map.1 hx
  exact hs f hf)
 rwa [List.length_map] at this
theorem fls_named {ns : List (List UInt8)} (hns : ns.length ≤ 21) : ∀ (l : List En) (a : List Fl), RightF a → (∀ f ∈ a, f.nm ∈ ns) → (∀ e ∈ l, oneE e.fl = 0 ∧ e.fl.nm ∈ ns) → l.foldl stepO (some a) = some ((l.map En.fl).foldl raisedL a)
 | [], _, _, _, _ => rfl
 | e :: l, a, h1, h2, h3 => by
  obtain ⟨h4, h5⟩ := h3 e (by simp)
  have hr := right_raised h1 h4
  have hm : ∀ f ∈ raisedL a e.fl, f.nm ∈ ns := fun f hf => by
   rcases raised_mem hf with g | g
   ·
    rw [g]; exact h5
   ·
    exact h2 f g
  have hla := rising_few h1.rising h2
  have hlr := rising_few hr.rising hm
  have h0 : (raiseC a e.fl).1 = 0 := by
   unfold raiseC
   rw [if_pos (by rw [check_right h1, if_neg (by omega)]), if_pos h4, check_right hr, if_neg (by omega)]
  rw [List.foldl_cons, List.map_cons, List.foldl_cons, show stepO (some a) e = some (raisedL a e.fl) from if_pos h0]
  exact fls_named hns l _ hr hm (fun x hx => h3 x (by simp [hx]))
theorem GoodR.floors {r : Rm} (h : GoodR r) : (floorsC r.l).1 = 0 ∧ floorsR r.l = (r.l.map En.fl).foldl raisedL [] := by
 have hfew := h.book.few
 have h1 : flsO r.l = some ((r.l.map En.fl).foldl raisedL []) := fls_named (ns := star :: r.b.map Per.nm) (by rw [List.length_cons, List.length_map]; omega) r.l [] right_nil (fun f hf => by cases hf) (fun e he => ⟨feed_one h.feed e he, by
  rcases h.who e he with g | ⟨p, hp, g, _⟩
  ·
   rw [g]; simp
  ·
   exact List.mem_cons_of_mem _ (List.mem_map.2 ⟨p, hp, g⟩)⟩)
 obtain ⟨h2, h3⟩ := floors_some h.feed h1
 exact ⟨by rw [h2], h3⟩
theorem up_fold_le : ∀ (l : List Fl) (n : List UInt8) (a m : Int), a ≤ m → (∀ f ∈ l, f.nm = star ∨ n = f.nm → f.ep ≤ m) → l.foldl (fun m f => upF f n m) a ≤ m
 | [], _, _, _, h, _ => h
 | f :: l, n, a, m, h, hs => by
  refine up_fold_le l n (upF f n a) m ?_ (fun g hg => hs g (by simp [hg]))
  have := hs f (by simp)
  unfold upF
  split
  ·
   have := this (by assumption)
   omega
  ·
   exact h
theorem GoodR.of_le {r : Rm} (h : GoodR r) (n : List UInt8) (m : Int) (h0 : 0 ≤ m) (hs : ∀ e ∈ r.l, e.fl.nm = star ∨ n = e.fl.nm → e.fl.ep ≤ m) : ofL (floorsR r.l) n ≤ m := by
 have h1 : ∀ f ∈ r.l.map En.fl, oneE f = 0 := fun f hf => by
  obtain ⟨e, he, rfl⟩ := List.mem_map.1 hf
  exact feed_one h.feed e he
 rw [h.floors.2, of_fold _ right_nil h1]
 refine up_fold_le _ n _ m (by show topL [] ≤ m; exact h0) (fun f hf => ?_)
 obtain ⟨e, he, rfl⟩ := List.mem_map.1 hf
 exact hs e he
theorem GoodR.passes {r : Rm} (h : GoodR r) {p : Per} (hp : p ∈ r.b) : ofL (floorsR r.l) p.nm ≤ p.epoch := by
 have h1 := h.all p hp
 have h2 := h.start
 refine h.of_le p.nm p.epoch (by omega) fun e he g => ?_
 rcases h.who e he with gs | ⟨q, hq, gq, hle⟩
 ·
  have := h.stars e he gs
  omega
 ·
  rcases g with gs | gp
  ·
   have := h.stars e he gs
   omega
  ·
   have e1 := getP_of_mem h.book.rise hq
   have e2 := getP_of_mem h.book.rise hp
   have e3 : q.name = p.name := name_eq (gq.trans gp.symm)
   rw [e3, e2] at e1
   rw [Option.some.inj e1]
   exact hle
theorem rev_room {r : Rm} {name : ByteArray} (h : r.revC name = 0) : (raiseP r.b name).2.1 = 0 ∧ r.entC name (raiseP r.b name).1 = 0 ∧ r.revR name = { r with b := (raiseP r.b name).2.2, l := addL r.l r.time ⟨name, (raiseP r.b name).1⟩ } := by
 unfold Rm.revC at h
 split at h
 ·
  rename_i h0
  refine ⟨h0, h, ?_⟩
  unfold Rm.revR Rm.entR
  rw [if_pos h0, if_pos h]
 ·
  rename_i h0
  exact absurd h h0
theorem GoodR.rev_floor {r : Rm} (h : GoodR r) {name : ByteArray} (h0 : r.revC name = 0) : ofL (floorsR (r.revR name).l) name.data.toList = (raiseP r.b name).1 := by
 have hg := h.revR name
 obtain ⟨h1, h2, h3⟩ := rev_room h0
 obtain ⟨p, hp, hn, he, _⟩ := raiseP_one h.book h1
 have hle : ofL (floorsR (r.revR name).l) p.nm ≤ p.epoch := hg.passes (by rw [h3]; exact hp)
 have hge : (raiseP r.b name).1 ≤ ofL (floorsR (r.revR name).l) name.data.toList := by
  have hx := hg.floors.1
  rw [h3] at hx ⊢
  exact (floors_add hx h.floors.1 name.data.toList).2
 unfold Per.nm at hle
 rw [hn, he] at hle
 omega
theorem flu_room {r : Rm} (h : r.fluC = 0) : topE r.b < 1073741824 ∧ r.fluR = { r with b := allE r.b (topE r.b + 1), l := addL r.l r.time ⟨starB, topE r.b + 1⟩ } := by
 unfold Rm.fluC at h
 split at h
 ·
  cases h
 ·
  rename_i h0
  refine ⟨by omega, ?_⟩
  unfold Rm.fluR Rm.entR
  rw [if_neg h0, if_pos h]
theorem GoodR.flu_floor {r : Rm} (h : GoodR r) (h0 : r.fluC = 0) (n : List UInt8) : topE r.b + 1 ≤ ofL (floorsR r.fluR.l) n := by
 have hg := h.fluR
 obtain ⟨_, h3⟩ := flu_room h0
 have hx := hg.floors.1
 have hrt := (floors_right r.fluR.l).1
 have h4 : topE r.b + 1 ≤ ofL (floorsR r.fluR.l) star := by
  rw [h3] at hx ⊢
  exact (floors_add hx h.floors.1 star).2
 rw [of_star hrt] at h4
 exact Int.le_trans h4 (top_le_of hrt n)
theorem flu_all {r : Rm} (h0 : r.fluC = 0) {p : Per} (hp : p ∈ r.fluR.b) : p.epoch = topE r.b + 1 := by
 obtain ⟨_, h3⟩ := flu_room h0
 rw [h3] at hp
 obtain ⟨q, _, rfl⟩ := List.mem_map.1 hp
 rfl
end Go.Proofs.YtabpnjchocgakaaGreatDoor

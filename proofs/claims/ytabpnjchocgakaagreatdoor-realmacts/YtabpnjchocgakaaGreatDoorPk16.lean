/-
  What the functions of these parts do, and what holds of their plain forms: RealmTold, RealmLate, RealmProof, RealmAfter, RealmPair, RealmReign, RealmAgain.
-/
import Derived.Test.YtabpnjchocgakaaGreatDoorPk10
import Derived.Test.YtabpnjchocgakaaGreatDoorRealmLogin
import Derived.Test.YtabpnjchocgakaaGreatDoorPk13
import Derived.Test.YtabpnjchocgakaaGreatDoorRealmRef9
import Derived.Test.YtabpnjchocgakaaGreatDoorPk15
import Derived.Test.YtabpnjchocgakaaGreatDoorRealmRef6
import Derived.Test.YtabpnjchocgakaaGreatDoorPk12
import Derived.Test.YtabpnjchocgakaaGreatDoorRealmLog2
import Derived.Test.YtabpnjchocgakaaGreatDoorPk06
namespace Go.Proofs.YtabpnjchocgakaaGreatDoor
open Go
theorem getP_put {L : List Per} (h : Rising L) {p p' : Per} (hg : getP L p'.name = some p) (name : ByteArray) : getP (putP L p') name = if name = p'.name then some p' else getP L name := by
 obtain ⟨k, hk, he, _⟩ := getP_idx hg
 have hn : L[k].name = p'.name := by rw [he]; exact (getP_some hg).1
 rw [putP_set h k hk p' hn]
 have hr := set_rising h k hk p' hn
 split
 ·
  rename_i e
  subst e
  exact getP_of_mem hr (List.mem_of_getElem? (i := k) (by rw [List.getElem?_set_self hk]))
 ·
  rename_i e
  cases hq : getP L name with
  | none =>
   cases hx : getP (L.set k p') name with
   | none => rfl
   | some x =>
    obtain ⟨h1, h2⟩ := getP_some hx
    rcases List.mem_or_eq_of_mem_set h2 with g | g
    ·
     exact absurd h1 (getP_none hq x g)
    ·
     exact absurd (by rw [← h1, g]) e
  | some q =>
   obtain ⟨h1, h2⟩ := getP_some hq
   obtain ⟨j, hj, rfl⟩ := List.getElem_of_mem h2
   have hjk : k ≠ j := fun ee => e (by subst ee; rw [← h1, hn])
   have hm : L[j] ∈ L.set k p' := List.mem_of_getElem? (i := j) (by rw [List.getElem?_set_ne hjk, List.getElem?_eq_getElem hj])
   rw [← h1]
   exact getP_of_mem hr hm
theorem log_zero {r : Rm} {name dst : ByteArray} {proof : Int} (h0 : r.logC name proof dst = 0) : ∃ p s, getP r.b name = some p ∧ getP r.b dst = some s ∧ p.off = false ∧ s.off = false ∧ rightE p.key (prf name r.time) proof = 0 ∧ r.time < 1000000 ∧ r.ser ≤ 1073741824 := by
 cases hp : getP r.b name with
 | none => rw [logC_none (Or.inl hp)] at h0; cases h0
 | some p =>
  cases hs : getP r.b dst with
  | none => rw [logC_none (Or.inr hs)] at h0; cases h0
  | some s =>
   by_cases ho : p.off = true ∨ s.off = true
   ·
    rw [logC_off hp hs ho] at h0; cases h0
   ·
    rw [logC_on hp hs ho] at h0
    have o1 : p.off = false := by cases e : p.off with
     | true => exact absurd (Or.inl e) ho
     | false => rfl
    have o2 : s.off = false := by cases e : s.off with
     | true => exact absurd (Or.inr e) ho
     | false => rfl
    by_cases hre : rightE p.key (prf name r.time) proof = 0
    ·
     rw [if_pos hre] at h0
     by_cases hb : 1000000 ≤ r.time ∨ 1073741824 < r.ser
     ·
      rw [if_pos hb] at h0; cases h0
     ·
      exact ⟨p, s, rfl, rfl, o1, o2, hre, by omega, by omega⟩
    ·
     rw [if_neg hre] at h0
     exact absurd h0 hre
theorem GoodR.log_back {r : Rm} (h : GoodR r) {name dst : ByteArray} {proof : Int} {s : Per} (h0 : r.logC name proof dst = 0) (hs : getP r.b dst = some s) : tkOpenE s.key (r.logS name proof dst).data.toList = 0 ∧ tkIn (r.logS name proof dst) = r.logT name dst := by
 obtain ⟨p, s', hp, hs', _, _, _, _, hser⟩ := log_zero h0
 have hS : r.logS name proof dst = Sl.ofL (Sl.sealL s.key (r.logT name dst).words) := by unfold Rm.logS; rw [if_pos h0, per_of hs]
 obtain ⟨h1, _, h3⟩ := tk_back s.key (h.name hs).2.1 (r.logT name dst) (log_err h hp hs hser)
 rw [hS]
 unfold tkIn
 rw [Sl.toL_ofL]
 exact ⟨h1, h3⟩
theorem GoodR.rev_book {r : Rm} (h : GoodR r) {name : ByteArray} {p : Per} (hp : getP r.b name = some p) (h0 : r.revC name = 0) : (raiseP r.b name).1 = p.epoch + 1 ∧ (∀ x, getP (r.revR name).b x = if x = name then some { p with epoch := p.epoch + 1 } else getP r.b x) ∧ (r.revR name).key = r.key ∧ (r.revR name).long = r.long ∧ (r.revR name).time = r.time ∧ (r.revR name).ser = r.ser := by
 obtain ⟨h1, _, h3⟩ := rev_room h0
 have hn := (getP_some hp).1
 have hr := raise_some h.book.rise hp
 by_cases hm : 1073741824 ≤ p.epoch
 ·
  rw [if_pos hm] at hr
  rw [hr] at h1
  cases h1
 ·
  rw [if_neg hm] at hr
  refine ⟨by rw [hr], fun x => ?_, by rw [h3], by rw [h3], by rw [h3], by rw [h3]⟩
  rw [h3, hr]
  show getP (putP r.b { p with epoch := p.epoch + 1 }) x = _
  rw [getP_put h.book.rise (p := p) (p' := { p with epoch := p.epoch + 1 }) (by show getP r.b p.name = some p; rw [hn]; exact hp) x]
  show (if x = p.name then _ else _) = _
  rw [hn]
theorem GoodR.rev_renew {r : Rm} (h : GoodR r) {name dst : ByteArray} {proof : Int} (h0 : r.logC name proof dst = 0) (hne : name ≠ dst) (h1 : (r.serR 0).revC name = 0) : ((r.serR 0).revR name).renC (r.logS name proof dst) dst = 13 := by
 obtain ⟨p, s, hp, hs, ho1, ho2, _, _, hser⟩ := log_zero h0
 have hg : GoodR (r.serR 0) := h.serR 0 (fun _ => hser)
 have hp' : getP (r.serR 0).b name = some p := hp
 obtain ⟨_, hb, _⟩ := hg.rev_book hp' h1
 obtain ⟨h2, h3⟩ := h.log_back h0 hs
 have hs2 : getP ((r.serR 0).revR name).b dst = some s := by rw [hb, if_neg (fun e => hne e.symm)]; exact hs
 have hp2 : getP ((r.serR 0).revR name).b name = some { p with epoch := p.epoch + 1 } := by rw [hb, if_pos rfl]
 unfold Rm.renC
 rw [hs2, if_neg (by simp), per_of hs2, if_neg (by rw [ho2]; simp), if_pos h2, h3]
 have hd : (r.logT name dst).dst = dst := rfl
 have hw : (r.logT name dst).who = name := rfl
 have he : (r.logT name dst).epoch = p.epoch := by show (perOf r.b name).epoch = _; rw [per_of hp]
 rw [if_pos hd, hw, hp2, if_neg (by simp), per_of hp2, he]
 have : ¬ p.epoch = p.epoch + 1 := by omega
 simp [ho1, this]
theorem GoodR.rev_login {r : Rm} (h : GoodR r) {name dst : ByteArray} {proof pr2 : Int} {p : Per} (h0 : r.logC name proof dst = 0) (hp : getP r.b name = some p) (h1 : (r.serR 0).revC name = 0) (hpr : rightE p.key (prf name r.time) pr2 = 0) :
  (((r.serR 0).revR name).logC name pr2 dst = 0 ∨ ((r.serR 0).revR name).logC name pr2 dst = 2) ∧ (((r.serR 0).revR name).logT name dst).epoch = p.epoch + 1 ∧ (((r.serR 0).revR name).logT name dst).ser = r.ser + 1 := by
 obtain ⟨p', s, hp', hs, ho1, ho2, _, htm, hser⟩ := log_zero h0
 obtain rfl : p = p' := by rw [hp] at hp'; exact Option.some.inj hp'
 have hg : GoodR (r.serR 0) := h.serR 0 (fun _ => hser)
 have hp2 : getP (r.serR 0).b name = some p := hp
 obtain ⟨_, hb, _, _, ht, hsr⟩ := hg.rev_book hp2 h1
 have hq : getP ((r.serR 0).revR name).b name = some { p with epoch := p.epoch + 1 } := by rw [hb, if_pos rfl]
 have ht2 : ((r.serR 0).revR name).time = r.time := ht
 have hs3 : ((r.serR 0).revR name).ser = r.ser + 1 := hsr
 obtain ⟨t, hts, hto⟩ : ∃ t, getP ((r.serR 0).revR name).b dst = some t ∧ t.off = false := by
  rw [hb]
  split
  ·
   exact ⟨_, rfl, ho1⟩
  ·
   exact ⟨s, hs, ho2⟩
 refine ⟨?_, ?_, hs3⟩
 ·
  rw [logC_on hq hts (by simp [ho1, hto]), ht2]
  show (if rightE p.key (prf name r.time) pr2 = 0 then _ else _) = 0 ∨ _
  rw [if_pos hpr]
  split
  ·
   exact Or.inr rfl
  ·
   exact Or.inl rfl
 ·
  show (perOf ((r.serR 0).revR name).b name).epoch = p.epoch + 1
  rw [per_of hq]
theorem getP_new {L : List Per} (h : Rising L) {p' : Per} (hn : getP L p'.name = none) (name : ByteArray) : getP (putP L p') name = if name = p'.name then some p' else getP L name := by
 rw [putP_new (getP_none hn)]
 have hr := insL_rising p' L h (getP_none hn)
 have hm : ∀ x, x ∈ insL p' L ↔ x = p' ∨ x ∈ L := fun x => by rw [(insL_perm p' L).mem_iff]; exact List.mem_cons
 split
 ·
  rename_i e
  subst e
  exact getP_of_mem hr ((hm p').2 (Or.inl rfl))
 ·
  rename_i e
  cases hq : getP L name with
  | none =>
   cases hx : getP (insL p' L) name with
   | none => rfl
   | some x =>
    obtain ⟨h1, h2⟩ := getP_some hx
    rcases (hm x).1 h2 with rfl | g
    ·
     exact absurd h1.symm e
    ·
     exact absurd h1 (getP_none hq x g)
  | some q =>
   obtain ⟨h1, h2⟩ := getP_some hq
   have := getP_of_mem hr ((hm q).2 (Or.inr h2))
   rw [h1] at this
   exact this
theorem getP_all (n : Int) (name : ByteArray) : ∀ L : List Per, getP (allE L n) name = (getP L name).map fun p => { p with epoch := n }
 | [] => rfl
 | p :: L => by
  have ih := getP_all n name L
  unfold getP allE at ih ⊢
  rw [List.map_cons, List.find?_cons, List.find?_cons]
  by_cases e : p.name = name
  ·
   simp [e]
  ·
   simp only [e, decide_false]
   exact ih
theorem flu_start {r : Rm} (h0 : r.fluC = 0) : startE r.fluR.l = topE r.b + 1 := by
 obtain ⟨_, h3⟩ := flu_room h0
 rw [h3]
 show startE (addL r.l r.time ⟨starB, topE r.b + 1⟩) = _
 unfold addL
 rw [start_snoc, if_pos (star_nm _)]
theorem GoodR.flu_le {r : Rm} (h : GoodR r) (h0 : r.fluC = 0) (n : List UInt8) : ofL (floorsR r.fluR.l) n ≤ topE r.b + 1 := by
 have hg := h.fluR
 have t0 := (top_ge r.b).1
 refine hg.of_le n _ (by omega) fun e he _ => ?_
 rcases hg.who e he with g | ⟨p, hp, _, h2⟩
 ·
  have := hg.stars e he g
  rw [flu_start h0] at this
  exact this
 ·
  have := flu_all h0 hp
  omega
theorem GoodR.flu_of {r : Rm} (h : GoodR r) (h0 : r.fluC = 0) (n : List UInt8) : ofL (floorsR r.fluR.l) n = topE r.b + 1 := Int.le_antisymm (h.flu_le h0 n) (h.flu_floor h0 n)
theorem GoodR.flu_gone {r : Rm} (h : GoodR r) {name : ByteArray} {p : Per} (hp : getP r.b name = some p) (h0 : r.fluC = 0) (n : List UInt8) : p.epoch < ofL (floorsR r.fluR.l) n := by
 have := (top_ge r.b).2 p (getP_some hp).2
 have := h.flu_floor h0 n
 omega
theorem GoodR.flu_later {r : Rm} (h : GoodR r) {a b c : ByteArray} {pr pr2 : Int} {s : Per} (h0 : r.logC a pr b = 0) (hs : getP r.b b = some s) (hser : r.ser ≤ 1000) (h1 : (r.serR 0).fluC = 0) (h2 : ((r.serR 0).fluR).addC c 9 = 0) (hpr : rightE 9 (prf c r.time) pr2 = 0) :
  (((r.serR 0).fluR).addR c 9).logC c pr2 b = 0 ∧ (∃ s', getP (((r.serR 0).fluR).addR c 9).b b = some s' ∧ s'.key = s.key) ∧ ((((r.serR 0).fluR).addR c 9).logT c b).who = c ∧ ofL (floorsR ((r.serR 0).fluR).l) c.data.toList ≤ ((((r.serR 0).fluR).addR c 9).logT c b).epoch := by
 obtain ⟨p, s', hp, hs', ho1, ho2, _, htm, hsr⟩ := log_zero h0
 obtain rfl : s = s' := by rw [hs] at hs'; exact Option.some.inj hs'
 have hg : GoodR (r.serR 0) := h.serR 0 (fun _ => hsr)
 have hb2 : ((r.serR 0).fluR).b = allE r.b (topE r.b + 1) := by rw [(flu_room h1).2]; rfl
 have ht2 : ((r.serR 0).fluR).time = r.time := by rw [(flu_room h1).2]; rfl
 have hs2 : ((r.serR 0).fluR).ser = r.ser + 1 := by rw [(flu_room h1).2]; rfl
 have hst : startE ((r.serR 0).fluR).l = topE r.b + 1 := flu_start h1
 have hle : ofL (floorsR ((r.serR 0).fluR).l) c.data.toList ≤ topE r.b + 1 := hg.flu_le h1 _
 have hg2 := hg.fluR
 generalize (r.serR 0).fluR = r2 at *
 have hbb : getP r2.b b = some { s with epoch := topE r.b + 1 } := by rw [hb2, getP_all, hs]; rfl
 obtain ⟨_, n2, _, _⟩ := addP_zero h2
 have hne : b ≠ c := fun e => by rw [← e, hbb] at n2; cases n2
 have h3 : r2.addR c 9 = { r2 with b := putP r2.b { newP c 9 with epoch := startE r2.l } } := by unfold Rm.addR; rw [if_pos h2]
 have hget := getP_new hg2.book.rise (p' := { newP c 9 with epoch := startE r2.l }) n2
 have hc3 : getP (r2.addR c 9).b c = some { newP c 9 with epoch := startE r2.l } := by
  rw [h3]
  exact (hget c).trans (if_pos rfl)
 have hb3 : getP (r2.addR c 9).b b = some { s with epoch := topE r.b + 1 } := by
  rw [h3]
  exact (hget b).trans ((if_neg hne).trans hbb)
 have ht3 : (r2.addR c 9).time = r.time := by rw [h3]; exact ht2
 have hs3 : (r2.addR c 9).ser = r.ser + 1 := by rw [h3]; exact hs2
 refine ⟨?_, ⟨_, hb3, rfl⟩, rfl, ?_⟩
 ·
  have hno : ¬ (({ newP c 9 with epoch := startE r2.l } : Per).off = true ∨ ({ s with epoch := topE r.b + 1 } : Per).off = true) := by
   rintro (e | e)
   ·
    have e' : false = true := e
    cases e'
   ·
    have e' : s.off = true := e
    rw [ho2] at e'
    cases e'
  rw [logC_on hc3 hb3 hno, ht3, hs3]
  show (if rightE 9 (prf c r.time) pr2 = 0 then _ else _) = 0
  rw [if_pos hpr, if_neg (by omega)]
 ·
  show _ ≤ (perOf (r2.addR c 9).b c).epoch
  rw [per_of hc3]
  show _ ≤ startE r2.l
  rw [hst]
  exact hle
end Go.Proofs.YtabpnjchocgakaaGreatDoor

namespace Go.Proofs.YtabpnjchocgakaaGreatDoor
open Go.RowKit Go.Extern.Stop Go.Stop Go.Extern Go.Proofs Go.Maps
def prfN (r : Rm) (q : Aq) : Int := if q.is = true then (match getP r.b q.a with
 | some p => moreN p.key p.key (prf q.a r.time)
 | none => q.n) else q.n
abbrev aqO (q : Aq) : Obj := .cells #[.string q.kind, .string q.a, .string q.b, .string q.s, .int .i64 q.n, .bool q.is] 36 (0, 0)
theorem aq_row {w : World} {g : Nat} {q : Aq} (h : w.heap[g]? = some (aqO q)) :
  w.cell? ⟨g, 0, none⟩ = some (.string q.kind) ∧ w.cell? ⟨g, 1, none⟩ = some (.string q.a) ∧ w.cell? ⟨g, 2, none⟩ = some (.string q.b) ∧ w.cell? ⟨g, 3, none⟩ = some (.string q.s) ∧ w.cell? ⟨g, 4, none⟩ = some (.int .i64 q.n) ∧ w.cell? ⟨g, 5, none⟩ = some (.bool q.is) :=
 ⟨cell_of_row w g 0 _ _ _ h, cell_of_row w g 1 _ _ _ h, cell_of_row w g 2 _ _ _ h, cell_of_row w g 3 _ _ _ h, cell_of_row w g 4 _ _ _ h, cell_of_row w g 5 _ _ _ h⟩
set_option maxRecDepth 100000 in
set_option maxHeartbeats 4000000 in
theorem proof_plain {B : Nat} (rb bb : Nat) (v lv : Value) (r : Rm) (q : Aq) (w : World) (h : RefRm B w rb bb v lv r) (hg : GoodR r) (hc : q.is = false ∨ getP r.b q.a = none) :
  Calls Tryz.prog 13 #[.pointer (some ⟨rb, 0, none⟩), .agg #[.string q.kind, .string q.a, .string q.b, .string q.s, .int .i64 q.n, .bool q.is]] w fun e w' => e = .returned (.int .i64 q.n) ∧ Below w.heap.size w w' := by
 have hB0 : Below w.heap.size w (w.alloc (aqO q)) := (Below.refl _ w).alloc (Nat.le_refl _) _
 have hR0 : (w.alloc (aqO q)).heap[w.heap.size]? = some (aqO q) := heap_alloc_new _ _
 obtain ⟨_, x1, _, _, x4, x5⟩ := aq_row hR0
 obtain ⟨_, _, _, _, c4, _⟩ := rm_cells (h.below hB0).row
 have HF := hide (fun W (hb : Below w.heap.size w W) => refFind_any bb r.b q.a W (h.below hb).book.book (Nat.le_trans hg.book.few (by decide)))
 have HFn : Hid (q.is = false ∨ findP r.b q.a < 0) := by
  rcases hc with g | g
  ·
   exact Or.inl g
  ·
   exact Or.inr (by rw [find_of_get g]; decide)
 have HB0 := hide hB0
 have HR0 := hide hR0
 have HD0 : Hid (Below w.heap.size w (w.alloc (aqO q)).drew) := hB0.drew
 have HRd : Hid ((w.alloc (aqO q)).drew.heap[w.heap.size]? = some (aqO q)) := hR0
 clear h hg hc hB0 hR0
 generalize findP r.b q.a = fw at *
 obtain ⟨kind, qa, qb, qs, qn, qi⟩ := q
 dsimp only at *
 go_enter Tryz.func13, Tryz.ntmps13
 go_upto_region 1 with fail
 go_cut [5] (fun s5 wc => s5 = .int .i64 fw ∧ Hid (Below w.heap.size w wc) ∧ Hid (wc.heap[w.heap.size]? = some (aqO ⟨kind, qa, qb, qs, qn, qi⟩)))
 case first =>
  go_region_held3 (fun w' => w'.cell? ⟨rb, 4, none⟩ = some (.pointer (some ⟨bb, 0, none⟩)) ∧ w'.cell? ⟨w.heap.size, 1, none⟩ = some (.string qa)) (first | go_keep | assumption)
   (first | (go_at_call 11; refine (HF.out _ HD0.out).mono ?_; rintro e w5 ⟨rfl, rfl⟩))
  all_goals
   go_wp2_with fail
   go_meet
   exact ⟨rfl, HD0, HRd⟩
 case rest =>
  obtain ⟨rfl, HB, HR⟩ := hcut
  clear x1 x4 x5 c4 HF HD0 HRd HB0 HR0
  obtain ⟨_, y1, _, _, y4, y5⟩ := aq_row HR.out
  dsimp only at y1 y4 y5
  rcases HFn.out with hq | hq
  ·
   subst hq
   clear HFn
   go_wp2
   go_ret
   exact ⟨rfl, HB.out⟩
  ·
   clear HFn
   cases qi
   ·
    go_wp2
    go_ret
    exact ⟨rfl, HB.out⟩
   ·
    go_wp2
    go_ret
    exact ⟨rfl, HB.out⟩
set_option maxRecDepth 100000 in
set_option maxHeartbeats 8000000 in
theorem proof_right {B : Nat} (rb bb : Nat) (v lv : Value) (r : Rm) (q : Aq) (p : Per) (w : World) (h : RefRm B w rb bb v lv r) (hg : GoodR r) (hi : q.is = true) (hp : getP r.b q.a = some p) :
  Calls Tryz.prog 13 #[.pointer (some ⟨rb, 0, none⟩), .agg #[.string q.kind, .string q.a, .string q.b, .string q.s, .int .i64 q.n, .bool q.is]] w fun e w' => e = .returned (.int .i64 (moreN p.key p.key (prf q.a r.time))) ∧ Below w.heap.size w w' := by
 have hB0 : Below w.heap.size w (w.alloc (aqO q)) := (Below.refl _ w).alloc (Nat.le_refl _) _
 have hR0 : (w.alloc (aqO q)).heap[w.heap.size]? = some (aqO q) := heap_alloc_new _ _
 obtain ⟨_, x1, _, _, _, x5⟩ := aq_row hR0
 obtain ⟨_, _, _, _, c4, _⟩ := rm_cells (h.below hB0).row
 have HF := hide (fun W (hb : Below w.heap.size w W) => refFind_any bb r.b q.a W (h.below hb).book.book (Nat.le_trans hg.book.few (by decide)))
 obtain ⟨k, hk, hka, hfk⟩ := find_at hp
 obtain ⟨g, cap, rfl, hcap, hcl⟩ := h.people hp
 have HW : Hid (∀ W, Below w.heap.size w W → W.cell? ⟨rb, 2, none⟩ = some (.int .i64 r.time) ∧ W.cell? ⟨rb, 4, none⟩ = some (.pointer (some ⟨bb, 0, none⟩)) ∧ W.cell? ⟨bb, 0, none⟩ = some (.slice (some ⟨g, 0, none⟩) r.b.length cap) ∧ W.cell? ⟨g, k * 4 + 1, none⟩ = some (.int .i64 p.key)) := fun W hb => by
  have h' := h.below hb
  obtain ⟨_, _, d2, _, d4, _⟩ := rm_cells h'.row
  obtain ⟨g', cap', e, _, hcl'⟩ := h'.people hp
  injection e with e1 _ _
  injection e1 with e1
  injection e1 with e1
  subst e1
  exact ⟨d2, d4, cell_of_row W bb 0 _ _ _ h'.book.1, (hcl' k p hka).1⟩
 have hns := name_len (hg.name hp).1
 have HDec := hide (fun W => dec_any r.time W hg.time.1 (by have := hg.time; omega))
 have HOf := hide (fun W => refOf_any p.key (prfB q.a r.time) W (prf_small hns hg.time))
 rw [prf_toList] at HOf
 have hds : (Sl.ofL (Lib.decDigits r.time.toNat)).size ≤ 1000 := by
  rw [Sl.ofL_size]
  have := ((Sl.numOk_iff _).1 (dec_nat r.time (by have := hg.time; omega)).1).1
  omega
 have HB0 := hide hB0
 have HR0 := hide hR0
 have HD0 : Hid (Below w.heap.size w (w.alloc (aqO q)).drew) := hB0.drew
 have HRd : Hid ((w.alloc (aqO q)).drew.heap[w.heap.size]? = some (aqO q)) := hR0
 rw [hfk] at HF
 clear h hg hp hB0 hR0 hcl hka hfk
 generalize r.b.length = m at *
 generalize moreN p.key p.key (prf q.a r.time) = mk at *
 generalize (moreE p.key p.key : Int) = me at *
 unfold prfB at HOf
 generalize Sl.ofL (Lib.decDigits r.time.toNat) = ds at *
 generalize r.time = t at *
 generalize p.key = pk at *
 obtain ⟨kind, qa, qb, qs, qn, qi⟩ := q
 dsimp only at *
 subst hi
 have ha1 : ∀ w : World, (Op.stringOp .add qa { data := #[32] }).run Tryz.prog w = .ok (.string (qa ++ { data := #[32] })) w := fun w => run_string_add_sum w _ _ (by show qa.size + 1 ≤ _; omega)
 have ha2 : ∀ w : World, (Op.stringOp .add (qa ++ { data := #[32] }) ds).run Tryz.prog w = .ok (.string (qa ++ { data := #[32] } ++ ds)) w := fun w => run_string_add_sum w _ _ (by rw [ByteArray.size_append]; show qa.size + 1 + ds.size ≤ _; omega)
 go_enter Tryz.func13, Tryz.ntmps13
 go_upto_region 1 with fail
 go_cut [5] (fun s5 wc => s5 = .int .i64 (k : Int) ∧ Hid (Below w.heap.size w wc) ∧ Hid (wc.heap[w.heap.size]? = some (aqO ⟨kind, qa, qb, qs, qn, true⟩)))
 case first =>
  go_region_held3 (fun w' => w'.cell? ⟨rb, 4, none⟩ = some (.pointer (some ⟨bb, 0, none⟩)) ∧ w'.cell? ⟨w.heap.size, 1, none⟩ = some (.string qa)) (first | go_keep | assumption)
   (first | (go_at_call 11; refine (HF.out _ HD0.out).mono ?_; rintro e w5 ⟨rfl, rfl⟩))
  all_goals
   go_wp2_with fail
   go_meet
   exact ⟨rfl, HD0, HRd⟩
 case rest =>
  obtain ⟨rfl, HB, HR⟩ := hcut
  clear x1 x5 c4 HF HD0 HRd HB0 HR0
  obtain ⟨_, y1, _, _, _, y5⟩ := aq_row HR.out
  dsimp only at y1 y5
  obtain ⟨c2, c4, c0, c1⟩ := HW.out wc HB.out
  have HD1 : Hid (Below w.heap.size w wc.drew) := HB.out.drew
  have HRr : Hid (∀ W, Below wc.heap.size wc W → W.cell? ⟨w.heap.size, 1, none⟩ = some (.string qa)) := fun W hb => (aq_row (q := ⟨kind, qa, qb, qs, qn, true⟩) ((hb.block _ (row_lt HR.out)).trans HR.out)).2.1
  go_wp2_with fail
  go_region_held3 (fun w' => w'.cell? ⟨rb, 2, none⟩ = some (.int .i64 t) ∧ w'.cell? ⟨rb, 4, none⟩ = some (.pointer (some ⟨bb, 0, none⟩)) ∧ w'.cell? ⟨bb, 0, none⟩ = some (.slice (some ⟨g, 0, none⟩) m cap) ∧ w'.cell? ⟨g, k * 4 + 1, none⟩ = some (.int .i64 pk) ∧ w'.cell? ⟨w.heap.size, 1, none⟩ = some (.string qa)) (first | go_keep | assumption)
   (first
    | (go_at_call 25; refine (HDec.out _).mono ?_; rintro e w4 ⟨rfl, hb⟩; have HB4 := hide (HD1.out.trans (hb.mono HD1.out.size)); have j9 := HRr.out w4 ((Below.refl wc.heap.size wc).drew.trans hb); obtain ⟨j2, j4, j0, j1⟩ := HW.out _ HB4.out; clear hb HDec)
    | (go_at_call 24; refine (HOf.out _).mono ?_; rintro e w5 ⟨rfl, rfl⟩))
  all_goals
   go_wp2
   go_ret
   exact ⟨rfl, HB4.out⟩
theorem proof_any {B : Nat} (rb bb : Nat) (v lv : Value) (r : Rm) (q : Aq) (w : World) (h : RefRm B w rb bb v lv r) (hg : GoodR r) :
  Calls Tryz.prog 13 #[.pointer (some ⟨rb, 0, none⟩), .agg #[.string q.kind, .string q.a, .string q.b, .string q.s, .int .i64 q.n, .bool q.is]] w fun e w' => e = .returned (.int .i64 (prfN r q)) ∧ Below w.heap.size w w' := by
 cases hi : q.is with
 | false =>
  have e1 : prfN r q = q.n := by unfold prfN; rw [hi]; rfl
  rw [e1, ← hi]
  exact proof_plain rb bb v lv r q w h hg (Or.inl hi)
 | true =>
  cases hp : getP r.b q.a with
  | none =>
   have e1 : prfN r q = q.n := by unfold prfN; rw [hi, hp]; rfl
   rw [e1, ← hi]
   exact proof_plain rb bb v lv r q w h hg (Or.inr hp)
  | some p =>
   have e1 : prfN r q = moreN p.key p.key (prf q.a r.time) := by unfold prfN; rw [hi, hp]; rfl
   rw [e1, ← hi]
   exact proof_right rb bb v lv r q p w h hg hi hp
def Aq.k (q : Aq) : Nat :=
 if q.kind.data.toList = [97, 100, 100] then 0 else if q.kind.data.toList = [111, 102, 102] then 1 else if q.kind.data.toList = [108, 111, 103, 105, 110] then 2
 else if q.kind.data.toList = [114, 101, 110, 101, 119] then 3 else if q.kind.data.toList = [114, 101, 118, 111, 107, 101] then 4 else if q.kind.data.toList = [114, 101, 107, 101, 121] then 5
 else if q.kind.data.toList = [102, 108, 117, 115, 104] then 6 else if q.kind.data.toList = [110, 101, 120, 116] then 7 else 8
def Aq.old (q : Aq) (last : ByteArray) : ByteArray := if q.s.data.toList = [] then last else q.s
def Rm.after (r : Rm) (q : Aq) (last : ByteArray) : Rm :=
 if q.k = 0 then r.addR q.a q.n else if q.k = 1 then r.offR q.a q.is else if q.k = 2 then r.serR (r.logC q.a (prfN r q) q.b)
 else if q.k = 3 then r.serR (r.renC (q.old last) q.b) else if q.k = 4 then r.revR q.a else if q.k = 5 then r.keyR q.a q.n
 else if q.k = 6 then r.fluR else if q.k = 7 then r.nexR q.n else r
def Rm.gives (r : Rm) (q : Aq) (last : ByteArray) : ByteArray :=
 if q.k = 2 then r.logS q.a (prfN r q) q.b else if q.k = 3 then r.renS (q.old last) q.b else ⟨#[]⟩
theorem GoodR.after {r : Rm} (h : GoodR r) (q : Aq) (last : ByteArray) : GoodR (r.after q last) := by
 unfold Rm.after
 repeat' split
 ·
  exact h.addR _ _
 ·
  exact h.offR _ _
 ·
  exact h.logR _ _ _
 ·
  exact h.renR _ _
 ·
  exact h.revR _
 ·
  exact h.keyR _ _
 ·
  exact h.fluR
 ·
  exact h.nexR _
 ·
  exact h
theorem serR_ser (r : Rm) (c : Nat) : (r.serR c).ser ≤ r.ser + 1 := by
 unfold Rm.serR
 split
 ·
  exact Int.le_refl _
 ·
  omega
theorem after_ser (r : Rm) (q : Aq) (last : ByteArray) : (r.after q last).ser ≤ r.ser + 1 := by
 have hx : ∀ x : Rm, x.ser = r.ser → x.ser ≤ r.ser + 1 := fun x e => by omega
 unfold Rm.after
 repeat' split
 ·
  refine hx _ ?_; unfold Rm.addR; split <;> rfl
 ·
  exact hx _ rfl
 ·
  exact serR_ser _ _
 ·
  exact serR_ser _ _
 ·
  refine hx _ ?_; unfold Rm.revR Rm.entR; (repeat' split) <;> rfl
 ·
  refine hx _ ?_; unfold Rm.keyR Rm.entR; (repeat' split) <;> rfl
 ·
  refine hx _ ?_; unfold Rm.fluR Rm.entR; (repeat' split) <;> rfl
 ·
  refine hx _ ?_; unfold Rm.nexR; split <;> rfl
 ·
  exact hx _ rfl
theorem seal_few {key : Int} (hk : 1 ≤ key ∧ key ≤ 1000000006) {t : Tk} (h : t.err = 0) : (Sl.ofL (Sl.sealL key t.words)).size ≤ 400 := by
 rw [Sl.ofL_size]
 exact (Sl.seal_look key hk t.words (t.words_ok h)).2.2.2.2
theorem ren_zero {r : Rm} {s dst : ByteArray} (h : r.renC s dst = 0) : ∃ k, getP r.b dst = some k ∧ ((tkIn s).anew r.time (r.time + r.long) r.ser).err = 0 := by
 cases hk : getP r.b dst with
 | none => unfold Rm.renC at h; rw [if_pos hk] at h; cases h
 | some k =>
  refine ⟨k, rfl, ?_⟩
  have hx : ∀ {T : Tk} {a b n : Int}, T.renewE a b n = 0 → (T.anew a b n).err = 0 := fun {T a b n} h0 => by
   unfold Tk.renewE at h0
   split at h0
   ·
    exact h0
   ·
    rename_i hx; exact absurd h0 hx
  unfold Rm.renC at h
  repeat' split at h
  all_goals first
   | exact hx h
   | (exact absurd h (by decide))
   | (exact absurd h (by assumption))
theorem GoodR.gives {r : Rm} (h : GoodR r) (q : Aq) (last : ByteArray) : (r.gives q last).size ≤ 400 := by
 unfold Rm.gives
 split
 ·
  by_cases h0 : r.logC q.a (prfN r q) q.b = 0
  ·
   obtain ⟨p, s, hp, hs, _, _, _, _, hser⟩ := log_zero h0
   unfold Rm.logS
   rw [if_pos h0, per_of hs]
   exact seal_few (h.name hs).2.1 (log_err h hp hs hser)
  ·
   rw [logS_no h0]; exact Nat.zero_le _
 ·
  split
  ·
   by_cases h0 : r.renC (q.old last) q.b = 0
   ·
    obtain ⟨k, hk, ht⟩ := ren_zero h0
    unfold Rm.renS
    rw [if_pos h0, per_of hk]
    exact seal_few (h.name hk).2.1 ht
   ·
    rw [renS_no h0]; exact Nat.zero_le _
  ·
   exact Nat.zero_le _
theorem right_more {key : Int} (hk : 1 ≤ key ∧ key ≤ 1000000006) (l : List UInt8) : rightE key l (moreN key key l) = 0 := by
 have e : moreE key key = 0 := by unfold moreE; rw [if_pos hk, if_pos (by omega)]
 unfold rightE moreN
 rw [if_pos hk, if_pos e, if_pos rfl]
theorem EntPost.post {B : Nat} {w w' : World} {rb : Nat} {r : Rm} (h : EntPost B w rb r w') (bb : Nat) (v : Value) : RmPost B w rb bb v r w' := by
 obtain ⟨bb', v', lv', h1, h2, h3⟩ := h
 exact ⟨bb', v', lv', h1, h2.mono fun k hk => Or.inl hk, h3⟩
def Free (t : TypeId) : Prop := t ≠ 82 ∧ t ≠ 40 ∧ t ≠ 49 ∧ t ≠ 46 ∧ t ≠ 114
def KeepT (w w' : World) : Prop := ∀ (k : Nat) (c : Array Value) (t : TypeId), Free t → w.heap[k]? = some (Obj.cells c t (0, 0)) → w'.heap[k]? = some (Obj.cells c t (0, 0))
theorem KeepT.trans {a b c : World} (h : KeepT a b) (k : KeepT b c) : KeepT a c := fun i x t ht hi => k i x t ht (h i x t ht hi)
theorem KeepT.below {w w' : World} (h : Below w.heap.size w w') : KeepT w w' := fun k _ _ _ hk => (h.block k (row_lt hk)).trans hk
theorem EvP.keep {a : Nat → Addr} {w w' : World} {c : Nat} {ev : Value} (h : EvP a w c ev) (hk : KeepT w w') : EvP a w' c ev := by
 rcases h with h | h | ⟨h1, b, h2, h3⟩
 ·
  exact Or.inl h
 ·
  exact Or.inr (Or.inl h)
 ·
  exact Or.inr (Or.inr ⟨h1, b, h2, hk b _ _ (by unfold Free; decide) h3⟩)
theorem PPost.keepT {w w' : World} {rp bp mb : Nat} {v : Value} {r r' : Rm} (h : RmAt w rp bp mb v r) (hp : PPost w rp bp mb v r' w') : KeepT w w' := fun k c t ht hk => by
 obtain ⟨bp', mb', v', _, h2, _⟩ := hp
 refine (h2.block k (row_lt hk) fun e => ?_).trans hk
 rcases e with e | e
 ·
  subst e
  rw [h.row] at hk
  exact ht.1 (Obj.cells.inj (Option.some.inj hk)).2.1.symm
 ·
  obtain ⟨es, c2, hm⟩ := h.book.map
  rw [← e, hk] at hm
  cases hm
theorem RmPost.keepT {B : Nat} {w w' : World} {rb bb : Nat} {v lv : Value} {r r' : Rm} (h : RefRm B w rb bb v lv r) (hp : RmPost B w rb bb v r' w') : KeepT w w' := fun k c t ht hk => by
 obtain ⟨bb', v', lv', _, h2, _⟩ := hp
 refine (h2.block k (row_lt hk) fun e => ?_).trans hk
 rcases e with e | e | e
 ·
  subst e
  rw [h.row] at hk
  exact ht.2.1 (Obj.cells.inj (Option.some.inj hk)).2.1.symm
 ·
  subst e
  rw [h.book.1] at hk
  exact ht.2.2.1 (Obj.cells.inj (Option.some.inj hk)).2.1.symm
 ·
  obtain ⟨c2, hc⟩ := own_tag h.book.2 e
  rw [hc] at hk
  exact ht.2.2.2.1 (Obj.cells.inj (Option.some.inj hk)).2.1.symm
theorem Both.actK {w0 w : World} {rp rb : Nat} {r r' m : Rm} {f : Nat} {args : Array Value} {E : Ending → World → Prop} (h : Both w0 w rp rb r m)
  (hc : ∀ bp mb v, RmAt w rp bp mb v r → Calls Tryz.prog f args w fun e w' => E e w' ∧ PPost w rp bp mb v r' w') : Calls Tryz.prog f args w fun e w' => E e w' ∧ Both w0 w' rp rb r' m ∧ KeepT w w' := by
 obtain ⟨bp, mb, v, bb, mv, lv, h⟩ := h
 exact (hc bp mb v h.mine).mono fun e w' ⟨h1, h2⟩ => ⟨h1, h.prog h2, PPost.keepT h.mine h2⟩
theorem Both.refK {w0 w : World} {rp rb : Nat} {r m m' : Rm} {f : Nat} {args : Array Value} {E : Ending → World → Prop} (h : Both w0 w rp rb r m)
  (hc : ∀ bb mv lv, RefRm w0.heap.size w rb bb mv lv m → Calls Tryz.prog f args w fun e w' => E e w' ∧ RmPost w0.heap.size w rb bb mv m' w') : Calls Tryz.prog f args w fun e w' => E e w' ∧ Both w0 w' rp rb r m' ∧ KeepT w w' := by
 obtain ⟨bp, mb, v, bb, mv, lv, h⟩ := h
 exact (hc bb mv lv h.ref).mono fun e w' ⟨h1, h2⟩ => ⟨h1, h.refs h2, RmPost.keepT h.ref h2⟩
theorem aq_free : Free 36 := by unfold Free; decide
theorem CopyOf.step {w w1 : World} {cp : Nat} {r r' : Rm} {f : Nat} {args : Array Value} {E : Ending → World → Prop} (h : CopyOf w r cp w1)
  (hc : ∀ bp mb v, RmAt w1 cp bp mb v r → Calls Tryz.prog f args w1 fun e w' => E e w' ∧ PPost w1 cp bp mb v r' w') : Calls Tryz.prog f args w1 fun e w' => E e w' ∧ CopyOf w r' cp w' := by
 obtain ⟨bp, mb, v, h1, h2, h3⟩ := h
 refine (hc bp mb v h1).mono ?_
 rintro e w' ⟨he, bp', mb', v', g1, g2, g3⟩
 refine ⟨he, bp', mb', v', g1, fun k hk => ?_, below_keptR h3 g2 fun k hk => ?_⟩
 ·
  rcases g3 k hk with g | g
  ·
   exact h2 k g
  ·
   exact Nat.le_trans h3.size g
 ·
  rcases hk with rfl | rfl
  ·
   exact h2 _ (Or.inl rfl)
  ·
   exact h2 _ (Or.inr (Or.inr (Or.inl rfl)))
def annR : ByteArray := ⟨#[97, 110, 110]⟩
def doorR : ByteArray := ⟨#[100, 111, 111, 114]⟩
def reA : Rm := (rmN 7 50).addR annR 5
def reB : Rm := reA.addR doorR 6
theorem re_good : GoodR (rmN 7 50) ∧ GoodR reA ∧ GoodR reB := by
 have h := rm_good (key := 7) (long := 50) (by decide)
 exact ⟨h, h.addR _ _, (h.addR _ _).addR _ _⟩
theorem re_add : (rmN 7 50).addC annR 5 = 0 ∧ reA.addC doorR 6 = 0 := by decide
theorem re_get : getP reB.b annR = some ⟨annR, 5, 1, false⟩ ∧ getP reB.b doorR = some ⟨doorR, 6, 1, false⟩ ∧ reB.time = 0 ∧ reB.ser = 1 ∧ reB.long = 50 := ⟨by rfl, by rfl, by rfl, by rfl, by rfl⟩
theorem re_log {n : Int} (hn : n = moreN 5 5 (ByteArray.mk #[97, 110, 110, 32, 48]).data.toList) : reB.logC annR n doorR = 0 ∧ reB.logT annR doorR = ⟨annR, doorR, 1, 0, 50, 1⟩ := by
 obtain ⟨h1, h2, h3, h4, h5⟩ := re_get
 constructor
 ·
  rw [logC_on h1 h2 (by decide), h3, h4]
  have hp : prf annR 0 = (ByteArray.mk #[97, 110, 110, 32, 48]).data.toList := by
   unfold prf
   rw [show Lib.decDigits (Int.toNat 0) = [48] from Lib.decDigits_one (by decide)]
   rfl
  have := right_more (key := 5) (by decide) (prf annR 0)
  rw [hp, ← hn] at this
  rw [hp, if_pos this]
  decide
 ·
  unfold Rm.logT
  rw [per_of h1, h3, h4]
  rfl
set_option maxRecDepth 100000 in
set_option maxHeartbeats 4000000 in
theorem reigned_any (a : Nat → Addr) (w : World) (h : Env a w) :
  Calls Tryz.prog 6 #[] w fun e w' => e = .returned (.bool true) ∧ Below w.heap.size w w' := by
 have HN := hide (rpNew_any a 7 50 w h.errs)
 have HE := hide h
 obtain ⟨g0, gA, gB⟩ := re_good
 have HA := hide (fun w1 cp bp mb v hR (hE : Errs a w1) => rpAdd_any a cp bp mb v (rmN 7 50) annR 5 w1 hR g0 hE (by decide))
 rw [re_add.1] at HA
 have HD := hide (fun w1 cp bp mb v hR (hE : Errs a w1) => rpAdd_any a cp bp mb v reA doorR 6 w1 hR gA hE (by decide))
 rw [re_add.2] at HD
 have HO := hide (fun w1 hE => of_any a 5 ⟨#[97, 110, 110, 32, 48]⟩ w1 hE (by decide))
 generalize hn : moreN 5 5 (ByteArray.mk #[97, 110, 110, 32, 48]).data.toList = n at *
 obtain ⟨hl0, hlT⟩ := re_log hn.symm
 have HL := hide (fun w1 cp bp mb v hR hE => rpLogin_any a cp bp mb v reB annR n doorR w1 hR gB hE (by decide) (by decide))
 rw [hl0, errV_zero] at HL
 obtain ⟨hb1, hb2⟩ := gB.log_back hl0 re_get.2.1
 rw [hlT] at hb2
 have HT := hide (fun w1 hE => tkOpen_any a 6 (reB.logS annR n doorR) w1 hE)
 unfold tkIn at hb2
 rw [hb1, hb2, errV_zero, okT_yes, tk_val] at HT
 dsimp only at HT
 generalize reB.logS annR n doorR = s at *
 rw [show errV a (moreE 5 5) = .nilIface from by rw [show moreE 5 5 = 0 by decide]; exact errV_zero a] at HO
 clear h g0 gA gB hl0 hlT hb1 hb2 hn
 go_enter Tryz.func6, Tryz.ntmps6
 go_wp2_with fail
 refine HN.out.mono ?_
 rintro e w1 ⟨hb, ⟨_, rp, bp, mb, rfl, hR, hM⟩ | ⟨hn, _⟩⟩
 ·
  have HC1 : Hid (CopyOf w (rmN 7 50) rp w1) := ⟨bp, mb, _, hR, hM, hb⟩
  clear hb hR hM HN
  go_wp2_with fail
  refine (HC1.out.step fun bp mb v hR => HA.out w1 rp bp mb v hR (HE.out.below HC1.out.past).errs).mono ?_
  rintro e w2 ⟨⟨ev, rfl, hev⟩, hc⟩
  obtain rfl : ev = .nilIface := hev.none rfl
  have HC2 : Hid (CopyOf w reA rp w2) := hc
  clear hev hc HC1 HA
  go_wp2_with fail
  refine (HC2.out.step fun bp mb v hR => HD.out w2 rp bp mb v hR (HE.out.below HC2.out.past).errs).mono ?_
  rintro e w3 ⟨⟨ev, rfl, hev⟩, hc⟩
  obtain rfl : ev = .nilIface := hev.none rfl
  have HC3 : Hid (CopyOf w reB rp w3) := hc
  clear hev hc HC2 HD
  go_wp2_with fail
  refine (HO.out w3 (HE.out.below HC3.out.past).errs).mono ?_
  rintro e w4 ⟨rfl, hb⟩
  have HC4 := hide (HC3.out.below hb)
  clear hb HC3 HO
  go_wp2_with fail
  refine (HC4.out.step fun bp mb v hR => HL.out w4 rp bp mb v hR (HE.out.below HC4.out.past)).mono ?_
  rintro e w5 ⟨rfl, hc⟩
  have HB5 := hide hc.past
  clear hc HC4 HL
  go_wp2_with fail
  refine (HT.out w5 (HE.out.below HB5.out)).mono ?_
  rintro e w6 ⟨rfl, hb⟩
  have HB6 : Hid (Below w.heap.size w (w6.alloc (tkO ⟨annR, doorR, 1, 0, 50, 1⟩))) := (HB5.out.trans (hb.mono HB5.out.size)).alloc (HB5.out.trans (hb.mono HB5.out.size)).size _
  obtain ⟨x0, x1, x2, x3, x4, x5⟩ := tk_row (heap_alloc_new w6 (tkO ⟨annR, doorR, 1, 0, 50, 1⟩))
  dsimp only at x0 x1 x2 x3 x4 x5
  clear hb HT HB5
  go_wp2
  go_ret
  exact ⟨rfl, HB6.out⟩
 ·
  exact absurd (by decide) hn
end Go.Proofs.YtabpnjchocgakaaGreatDoor

namespace Go.Proofs.YtabpnjchocgakaaGreatDoor
open Go
theorem GoodR.rev_renew_any {r : Rm} (h : GoodR r) {name dst : ByteArray} {proof : Int} (h0 : r.logC name proof dst = 0) (h1 : (r.serR 0).revC name = 0) : ((r.serR 0).revR name).renC (r.logS name proof dst) dst = 13 := by
 by_cases hne : name = dst
 ·
  subst hne
  obtain ⟨p, s, hp, hs, ho1, ho2, _, _, hser⟩ := log_zero h0
  obtain rfl : p = s := by rw [hp] at hs; exact Option.some.inj hs
  have hg : GoodR (r.serR 0) := h.serR 0 (fun _ => hser)
  have hp' : getP (r.serR 0).b name = some p := hp
  obtain ⟨_, hb, _⟩ := hg.rev_book hp' h1
  obtain ⟨h2, h3⟩ := h.log_back h0 hp
  have hp2 : getP ((r.serR 0).revR name).b name = some { p with epoch := p.epoch + 1 } := by rw [hb, if_pos rfl]
  unfold Rm.renC
  rw [hp2, if_neg (by simp), per_of hp2, if_neg (by rw [ho1]; simp), if_pos h2, h3]
  have hd : (r.logT name name).dst = name := rfl
  have hw : (r.logT name name).who = name := rfl
  have he : (r.logT name name).epoch = p.epoch := by show (perOf r.b name).epoch = _; rw [per_of hp]
  rw [if_pos hd, hw, hp2, if_neg (by simp), per_of hp2, he]
  have : ¬ p.epoch = p.epoch + 1 := by omega
  simp [ho1, this]
 ·
  exact h.rev_renew h0 hne h1
end Go.Proofs.YtabpnjchocgakaaGreatDoor

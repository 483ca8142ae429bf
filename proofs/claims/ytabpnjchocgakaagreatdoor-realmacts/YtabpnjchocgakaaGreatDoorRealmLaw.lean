/-
  What the laws of a realm ask of both realms: how they begin; a login and who proves it; a feed's floors; a look into the document's answer's book.
-/
import Derived.Test.YtabpnjchocgakaaGreatDoorPk16
import Derived.Test.YtabpnjchocgakaaGreatDoorPk13
import Derived.Test.YtabpnjchocgakaaGreatDoorRealmAnew
import Derived.Test.YtabpnjchocgakaaGreatDoorRealmAsked5
import Derived.Test.YtabpnjchocgakaaGreatDoorPk09
import Derived.Test.YtabpnjchocgakaaGreatDoorPk03
namespace Go.Proofs.YtabpnjchocgakaaGreatDoor
open Go.RowKit Go.Extern.Stop Go.Stop Go.Extern Go.Proofs Go.Maps
theorem both_new {W w1 w2 w3 : World} {key long : Int} {rp bp mb rb bb : Nat} (h0 : Below W.heap.size W w1) (hb1 : Below w1.heap.size w1 w2) (hR : RmAt w2 rp bp mb (.slice none 0 0) (rmN key long)) (hM : ∀ k, Mine rp bp mb (.slice none 0 0) k → w1.heap.size ≤ k) (hb2 : Below w2.heap.size w2 w3) (hr : RefRm w2.heap.size w3 rb bb (.slice none 0 0) (.slice none 0 0) (rmN key long)) : Both W w3 rp rb (rmN key long) (rmN key long) := by
 have h2 : Below W.heap.size W w2 := h0.trans (hb1.mono h0.size)
 have hs := h2.size
 obtain ⟨o1, o2⟩ := hr.old
 refine ⟨bp, mb, .slice none 0 0, bb, .slice none 0 0, .slice none 0 0, h2.trans (hb2.mono hs), hR.below hb2, ⟨hr.row, ⟨hr.book.1, World.ownsRow_nil _ _ _ _⟩, hr.nil, World.ownsRow_nil _ _ _ _, by omega, by omega⟩, fun k hk => ⟨?_, fun e => by cases e⟩, fun k hk => Nat.le_trans h0.size (hM k hk)⟩
 have := hR.lt hk
 omega
theorem Both.cell {w0 w : World} {rp rb : Nat} {r m : Rm} (h : Both w0 w rp rb r m) {q : Addr} {u : Value} (hq : q.block < w0.heap.size) (hc : w0.cell? q = some u) : w.cell? q = some u := (h.past.cell hq).trans hc
def rightN (r : Rm) (name : ByteArray) : Int := prfN r ⟨⟨#[]⟩, name, ⟨#[]⟩, ⟨#[]⟩, 0, true⟩
theorem right_some {r : Rm} {name : ByteArray} {p : Per} (h : getP r.b name = some p) : rightN r name = moreN p.key p.key (prf name r.time) := by
 show prfN r ⟨⟨#[]⟩, name, ⟨#[]⟩, ⟨#[]⟩, 0, true⟩ = _
 unfold prfN
 rw [if_pos rfl]
 show (match getP r.b name with | some p => moreN p.key p.key (prf name r.time) | none => _) = _
 rw [h]
theorem GoodR.proves {r : Rm} (h : GoodR r) {name : ByteArray} {p : Per} (hp : getP r.b name = some p) : rightE p.key (prf name r.time) (rightN r name) = 0 := by
 rw [right_some hp]
 exact right_more (h.name hp).2.1 _
theorem both_proof {w0 w : World} {rp rb : Nat} {r m : Rm} (h : Both w0 w rp rb r m) (hg : GoodR m) (name : ByteArray) :
  Calls Tryz.prog 13 #[.pointer (some ⟨rb, 0, none⟩), .agg #[.string ⟨#[]⟩, .string name, .string ⟨#[]⟩, .string ⟨#[]⟩, .int .i64 0, .bool true]] w fun e w' => e = .returned (.int .i64 (rightN m name)) ∧ Both w0 w' rp rb r m ∧ KeepT w w' := by
 obtain ⟨bp, mb, v, bb, mv, lv, hT⟩ := id h
 exact (proof_any rb bb mv lv m ⟨⟨#[]⟩, name, ⟨#[]⟩, ⟨#[]⟩, 0, true⟩ w hT.ref hg).mono fun e w' ⟨h1, h2⟩ => ⟨h1, h.below h2, KeepT.below h2⟩
theorem both_login (a : Nat → Addr) {w0 w : World} {rp rb : Nat} {r m : Rm} (h : Both w0 w rp rb r m) (hg : GoodR r) (hE : Env a w0) (name dst : ByteArray) (proof : Int) (h1 : name.size ≤ maxLen) (h2 : dst.size ≤ maxLen) :
  Calls Tryz.prog 12 #[.pointer (some ⟨rp, 0, none⟩), .string name, .int .i64 proof, .string dst] w fun e w' => e = .returned (.tuple #[.string (r.logS name proof dst), errV a (r.logC name proof dst)]) ∧ Both w0 w' rp rb (r.serR (r.logC name proof dst)) m ∧ KeepT w w' :=
 h.actK fun bp mb v hm => rpLogin_any a rp bp mb v r name proof dst w hm hg (hE.below h.past) h1 h2
structure Seat (w0 w : World) (rp rb : Nat) (r m : Rm) (name : ByteArray) (bb : Nat) : Prop where
 ptr : w.cell? ⟨rb, 4, none⟩ = some (.pointer (some ⟨bb, 0, none⟩))
 time : w.cell? ⟨rb, 2, none⟩ = some (.int .i64 m.time)
 find : Calls Tryz.prog 11 #[.pointer (some ⟨bb, 0, none⟩), .string name] w fun e w' => e = .returned (.int .i64 (findP m.b name)) ∧ w' = w
theorem both_seat {w0 w : World} {rp rb : Nat} {r m : Rm} (h : Both w0 w rp rb r m) (hg : GoodR m) (name : ByteArray) : ∃ bb, Seat w0 w rp rb r m name bb := by
 obtain ⟨bp, mb, v, bb, mv, lv, hT⟩ := h
 obtain ⟨_, _, c2, _, c4, _⟩ := rm_cells hT.ref.row
 exact ⟨bb, c4, c2, refFind_any bb m.b name w hT.ref.book.book (Nat.le_trans hg.book.few (by decide))⟩
theorem both_key {w0 w : World} {rp rb : Nat} {r m : Rm} (h : Both w0 w rp rb r m) {name : ByteArray} {s : Per} (hs : getP m.b name = some s) :
  ∃ k : Nat, findP m.b name = k ∧ k < m.b.length ∧ ∃ bb g cap, w.cell? ⟨rb, 4, none⟩ = some (.pointer (some ⟨bb, 0, none⟩)) ∧ w.cell? ⟨bb, 0, none⟩ = some (.slice (some ⟨g, 0, none⟩) m.b.length cap) ∧ w.cell? ⟨g, k * 4 + 1, none⟩ = some (.int .i64 s.key) := by
 obtain ⟨bp, mb, v, bb, mv, lv, hT⟩ := h
 obtain ⟨k, hk, hka, hfk⟩ := find_at hs
 obtain ⟨g, cap, rfl, hcap, hcl⟩ := hT.ref.people hs
 obtain ⟨_, _, _, _, c4, _⟩ := rm_cells hT.ref.row
 exact ⟨k, hfk, hk, bb, g, cap, c4, cell_of_row w bb 0 _ _ _ hT.ref.book.1, (hcl k s hka).1⟩
theorem both_feed {w0 w : World} {rp rb : Nat} {r m : Rm} (h : Both w0 w rp rb r m) (hg : GoodR r) :
  Calls Tryz.prog 16 #[.pointer (some ⟨rp, 0, none⟩)] w fun e w' => ∃ v, e = .returned v ∧ EnAt w' v r.l ∧ Both w0 w' rp rb r m ∧ KeepT w w' := by
 obtain ⟨bp, mb, v, bb, mv, lv, hT⟩ := id h
 exact (rpFeed_any rp bp mb v r w hT.mine (Nat.le_trans hg.few (by decide))).mono fun e w' ⟨v', h1, h2, h3⟩ => ⟨v', h1, h2.enAt, h.below h3, KeepT.below h3⟩
theorem both_floors (a : Nat → Addr) {w0 w : World} {rp rb : Nat} {r m : Rm} (h : Both w0 w rp rb r m) (hg : GoodR r) (hE : Env a w0) (v : Value) (hv : EnAt w v r.l) :
  Calls Tryz.prog 15 #[v] w fun e w' => ∃ f B, e = .returned (.tuple #[f, .nilIface]) ∧ OwnF w' B f (floorsR r.l) ∧ Both w0 w' rp rb r m ∧ KeepT w w' := by
 have h0 := hg.floors.1
 refine (floors_any a v r.l w ((hE.below h.past).errs.ev _) hv hg.small (Nat.le_trans hg.few (by decide))).mono ?_
 rintro e w' ⟨⟨f, ev, h1, h2, h3, _⟩, hb⟩
 obtain rfl : ev = .nilIface := h3.none h0
 exact ⟨f, _, h1, h2, h.below hb, KeepT.below hb⟩
theorem both_passes {w0 w : World} {rp rb : Nat} {r m : Rm} (h : Both w0 w rp rb r m) (f : Value) (l : List En) (hf : FlAt w f (floorsR l)) (name : ByteArray) (epoch : Int) :
  Calls Tryz.prog 18 #[f, .string name, .int .i64 epoch] w fun e w' => e = .returned (.bool (decide (ofL (floorsR l) name.data.toList ≤ epoch))) ∧ Both w0 w' rp rb r m ∧ KeepT w w' :=
 (passes_any f (floorsR l) name epoch w hf (floors_right l).1.rising (Nat.le_trans (floors_right l).2 (by decide))).mono fun e w' ⟨h1, h2⟩ => ⟨h1, h.below h2, KeepT.below h2⟩
theorem both_of {w0 w : World} {rp rb : Nat} {r m : Rm} (h : Both w0 w rp rb r m) (f : Value) (l : List En) (hf : FlAt w f (floorsR l)) (name : ByteArray) :
  Calls Tryz.prog 19 #[f, .string name] w fun e w' => e = .returned (.int .i64 (ofL (floorsR l) name.data.toList)) ∧ Both w0 w' rp rb r m ∧ KeepT w w' :=
 (floorOf_any f (floorsR l) name w hf (floors_right l).1.rising (Nat.le_trans (floors_right l).2 (by decide))).mono fun e w' ⟨h1, h2⟩ => ⟨h1, h.below h2, KeepT.below h2⟩
theorem OwnF.keepT {w w' : World} {B : Nat} {v : Value} {l : List Fl} (h : OwnF w B v l) (hk : KeepT w w') : OwnF w' B v l := h.keep fun g hg => by
 obtain ⟨c, hc⟩ := own_tag h hg
 exact (hk g c _ (by unfold Free; decide) hc).trans hc.symm
theorem tk_keep {w w' : World} {g : Nat} {t : Tk} (h : w.heap[g]? = some (tkO t)) (hk : KeepT w w') : w'.heap[g]? = some (tkO t) := hk g _ _ (by unfold Free; decide) h
theorem both_open (a : Nat → Addr) {w0 w : World} {rp rb : Nat} {r m : Rm} (h : Both w0 w rp rb r m) (hE : Env a w0) {q : Rm} (hg : GoodR q) {name dst : ByteArray} {proof : Int} {s : Per} (h0 : q.logC name proof dst = 0) (hs : getP q.b dst = some s) :
  Calls Tryz.prog 14 #[.int .i64 s.key, .string (q.logS name proof dst)] w fun e w' => e = .returned (.tuple #[(q.logT name dst).val, .nilIface]) ∧ Both w0 w' rp rb r m ∧ KeepT w w' := by
 obtain ⟨h1, h2⟩ := hg.log_back h0 hs
 unfold tkIn at h2
 have := tkOpen_any a s.key (q.logS name proof dst) w (hE.below h.past)
 rw [h1, h2, errV_zero, okT_yes] at this
 exact this.mono fun e w' ⟨g1, g2⟩ => ⟨g1, h.below g2, KeepT.below g2⟩
theorem both_flush (a : Nat → Addr) {w0 w : World} {rp rb : Nat} {r m : Rm} (h : Both w0 w rp rb r m) (hg : GoodR r) (hE : Env a w0) :
  Calls Tryz.prog 22 #[.pointer (some ⟨rp, 0, none⟩)] w fun e w' => (∃ ev, e = .returned (.tuple #[.int .i64 (numC r.fluC (topE r.b + 1)), ev]) ∧ EvP a w' r.fluC ev) ∧ Both w0 w' rp rb r.fluR m ∧ KeepT w w' :=
 h.actK fun bp mb v hm => rpFlush_any a rp bp mb v r w hm hg (hE.below h.past).errs
theorem both_revoke (a : Nat → Addr) {w0 w : World} {rp rb : Nat} {r m : Rm} (h : Both w0 w rp rb r m) (hg : GoodR r) (hE : Env a w0) (name : ByteArray) (hs : name.size ≤ maxLen) :
  Calls Tryz.prog 17 #[.pointer (some ⟨rp, 0, none⟩), .string name] w fun e w' => (∃ ev, e = .returned (.tuple #[.int .i64 (numC (r.revC name) ((raiseP r.b name).1)), ev]) ∧ EvP a w' (r.revC name) ev) ∧ Both w0 w' rp rb (r.revR name) m ∧ KeepT w w' :=
 h.actK fun bp mb v hm => rpRevoke_any a rp bp mb v r name w hm hg (hE.below h.past).errs hs
theorem both_add (a : Nat → Addr) {w0 w : World} {rp rb : Nat} {r m : Rm} (h : Both w0 w rp rb r m) (hg : GoodR r) (hE : Env a w0) (name : ByteArray) (key : Int) (hs : name.size ≤ maxLen) :
  Calls Tryz.prog 23 #[.pointer (some ⟨rp, 0, none⟩), .string name, .int .i64 key] w fun e w' => (∃ ev, e = .returned ev ∧ EvP a w' (r.addC name key) ev) ∧ Both w0 w' rp rb (r.addR name key) m ∧ KeepT w w' :=
 h.actK fun bp mb v hm => rpAdd_any a rp bp mb v r name key w hm hg (hE.below h.past).errs hs
theorem both_renew (a : Nat → Addr) {w0 w : World} {rp rb : Nat} {r m : Rm} (h : Both w0 w rp rb r m) (hg : GoodR r) (hE : Env a w0) (s dst : ByteArray) (h2 : dst.size ≤ maxLen) :
  Calls Tryz.prog 20 #[.pointer (some ⟨rp, 0, none⟩), .string s, .string dst] w fun e w' => e = .returned (.tuple #[.string (r.renS s dst), errV a (r.renC s dst)]) ∧ Both w0 w' rp rb (r.serR (r.renC s dst)) m ∧ KeepT w w' :=
 h.actK fun bp mb v hm => rpRenew_any a rp bp mb v r s dst w hm hg (hE.below h.past) h2
theorem both_coded (a : Nat → Addr) {w0 w : World} {rp rb : Nat} {r m : Rm} (h : Both w0 w rp rb r m) (hE : Env a w0) (c : Nat) (hc : c ≤ 16) (ev : Value) (he : EvP a w c ev) :
  Calls Tryz.prog 21 #[ev, .int .i64 (c : Int)] w fun e w' => e = .returned (.bool true) ∧ Both w0 w' rp rb r m ∧ KeepT w w' :=
 (coded_evp a c hc ev w he (hE.below h.past).errs).mono fun _ _ ⟨h1, h2⟩ => ⟨h1, h.below h2, KeepT.below h2⟩
theorem err_iface {a : Nat → Addr} {c : Nat} (hc : c ≠ 0) : ∃ t p, errV a c = .iface t p := ⟨_, _, errV_pos a hc⟩
theorem longAq_fine {most : Nat} {l : List Aq} (h : longAq most l = false) : ∀ q ∈ l, AqFine q := fun q hq => by
 obtain ⟨_, h1, h2, h3⟩ := (longAq_no h).2 q hq
 unfold AqFine maxLen
 omega
theorem both_ask {w0 w : World} {rp rb : Nat} {r m : Rm} (h : Both w0 w rp rb r m) {b p : Nat} {q : Aq} (hb : b < w0.heap.size) (hq : AqAt w0 b p q) : AqAt w b p q := by
 obtain ⟨h0, h1, h2, h3, h4, h5⟩ := hq
 exact ⟨h.cell (by exact hb) h0, h.cell (by exact hb) h1, h.cell (by exact hb) h2, h.cell (by exact hb) h3, h.cell (by exact hb) h4, h.cell (by exact hb) h5⟩
end Go.Proofs.YtabpnjchocgakaaGreatDoor

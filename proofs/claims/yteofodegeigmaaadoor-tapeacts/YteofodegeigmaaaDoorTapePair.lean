/-
  A disk beside the document's tape, in memory: what each act leaves of both; what came in, in a slice of acts.
-/
import Derived.Test.YteofodegeigmaaaDoorTapeDone
import Derived.Test.YteofodegeigmaaaDoorTapeRef2
namespace Go.Proofs.YteofodegeigmaaaDoor
open Go Go.RowKit Go.Extern.Stop Go.Stop Go.Extern Go.Proofs

/-- An act on a tape. -/
structure Tw where
  kind : ByteArray
  s : ByteArray
  n : Int
def TwIn (w : World) (v : Value) (l : List Tw) : Prop := ∃ ad cap, v = .slice ad l.length cap ∧ l.length ≤ cap ∧ (0 < l.length → ∃ b o, ad = some ⟨b, o, none⟩ ∧ b < w.heap.size ∧ ∀ i m, l[i]? = some m → (w.cell? ⟨b, o + i * 3, none⟩ = some (.string m.kind) ∧ w.cell? ⟨b, o + i * 3 + 1, none⟩ = some (.string m.s) ∧ w.cell? ⟨b, o + i * 3 + 2, none⟩ = some (.int .i64 m.n)) ∧ m.n ≤ 9223372036854775807)
/-- One act, in memory by itself. -/
def twO (kd s : ByteArray) (n : Int) : Obj := .cells #[.string kd, .string s, .int .i64 n] 43 (0, 0)
/-- Both. -/
structure TaSt (W : World) (d m : Nat) (t t2 : Tp) (w : World) : Prop where
  disk : ∃ v, DiskAt w W.heap.size d v t
  ref : w.heap[m]? = some (rtY t2)
  below : Below W.heap.size W w
  oldD : W.heap.size ≤ d
  oldM : W.heap.size ≤ m
theorem TaSt.less {W : World} {d m : Nat} {t t2 : Tp} {w w' : World} (h : TaSt W d m t t2 w) (hb : Below w.heap.size w w') : TaSt W d m t t2 w' := by
  obtain ⟨v, hd⟩ := h.disk
  exact ⟨⟨v, hd.below hb⟩, (hb.block m (row_lt h.ref)).trans h.ref, h.below.trans (hb.mono h.below.size), h.oldD, h.oldM⟩
theorem disk_ne {w : World} {B d : Nat} {v : Value} {t : Tp} (h : DiskAt w B d v t) {k : Nat} {c : Array Value} {T : TypeId} {fr : Nat × Nat} (hk : w.heap[k]? = some (.cells c T fr)) (h1 : T ≠ 5) (h2 : T ≠ 51) : ¬ (k = d ∨ v.ownBlock = some k) := by
  rintro (rfl | e)
  · have := h.row
    rw [hk] at this
    exact h2 (Obj.cells.inj (Option.some.inj this)).2.1
  · obtain ⟨c', fr', hc⟩ := own_block h.own e
    rw [hk] at hc
    exact h1 (Obj.cells.inj (Option.some.inj hc)).2.1
theorem TaSt.acted {W : World} {d m : Nat} {v : Value} {t t' t2 : Tp} {w w' : World} (h : TaSt W d m t t2 w) (hv : DiskAt w W.heap.size d v t) (hp : DPost w W.heap.size d v t' w') : TaSt W d m t' t2 w' := by
  have hl := hp.low h.below h.oldD hv
  obtain ⟨v', h1, h2⟩ := hp
  exact ⟨⟨v', h1⟩, (h2.block m (row_lt h.ref) (disk_ne hv h.ref (by decide) (by decide))).trans h.ref, hl, h.oldD, h.oldM⟩
theorem TaSt.refed {W : World} {d m : Nat} {t t2 t2' : Tp} {w w' : World} (h : TaSt W d m t t2 w) (hp : TPost w m t2' w') : TaSt W d m t t2' w' := by
  obtain ⟨v, hd⟩ := h.disk
  have hn := disk_ne hd h.ref (by decide) (by decide)
  exact ⟨⟨v, hd.keep hp.2 (fun e => hn (Or.inl e.symm)) fun g hg e => hn (Or.inr (by rw [← e]; exact hg))⟩, hp.1, below_kept h.below hp.2 (Nat.le_refl _) fun j hj => by rw [hj]; exact h.oldM, h.oldD, h.oldM⟩
/-- Both, and the act that is being done. -/
structure TaSx (W : World) (d m ga : Nat) (kd s : ByteArray) (n : Int) (t t2 : Tp) (w : World) : Prop where
  st : TaSt W d m t t2 w
  loc : w.heap[ga]? = some (twO kd s n)
theorem TaSx.less {W : World} {d m ga : Nat} {kd s : ByteArray} {n : Int} {t t2 : Tp} {w w' : World} (h : TaSx W d m ga kd s n t t2 w) (hb : Below w.heap.size w w') : TaSx W d m ga kd s n t t2 w' := ⟨h.st.less hb, (hb.block ga (row_lt h.loc)).trans h.loc⟩
theorem TaSx.acted {W : World} {d m ga : Nat} {kd s : ByteArray} {n : Int} {v : Value} {t t' t2 : Tp} {w w' : World} (h : TaSx W d m ga kd s n t t2 w) (hv : DiskAt w W.heap.size d v t) (hp : DPost w W.heap.size d v t' w') : TaSx W d m ga kd s n t' t2 w' := by
  refine ⟨h.st.acted hv hp, ?_⟩
  obtain ⟨v', h1, h2⟩ := hp
  exact (h2.block ga (row_lt h.loc) (disk_ne hv h.loc (by decide) (by decide))).trans h.loc
theorem TaSx.refed {W : World} {d m ga : Nat} {kd s : ByteArray} {n : Int} {t t2 t2' : Tp} {w w' : World} (h : TaSx W d m ga kd s n t t2 w) (hp : TPost w m t2' w') : TaSx W d m ga kd s n t t2' w' := by
  refine ⟨h.st.refed hp, (hp.2.block ga (row_lt h.loc) fun e => ?_).trans h.loc⟩
  have h1 := h.loc
  rw [e, h.st.ref] at h1
  exact absurd (Obj.cells.inj (Option.some.inj h1)).2.1 (by decide)
theorem TaSx.append {W : World} {d m ga : Nat} {kd s : ByteArray} {n : Int} {t t2 : Tp} {w : World} (a : Nat → Addr) (h : TaSx W d m ga kd s n t t2 w) (hE : EV tpS a W) (hT : Tab10 W) (hR : t.Right) (x : ByteArray) :
    Calls Tryd.prog 8 #[.pointer (some ⟨d, 0, none⟩), .string x] w fun e w' => e = .returned (errV a (t.appC x.data.toList)) ∧ TaSx W d m ga kd s n (t.appR x.data.toList) t2 w' := by
  obtain ⟨v, hd⟩ := h.st.disk
  exact (append_any a W d v t x w hE hT h.st.below h.st.oldD hd hR).mono fun _ _ ⟨h1, h2⟩ => ⟨h1, h.acted hd h2⟩
theorem TaSx.refAppend {W : World} {d m ga : Nat} {kd s : ByteArray} {n : Int} {t t2 : Tp} {w : World} (h : TaSx W d m ga kd s n t t2 w) (hR : t2.Right) (x : ByteArray) :
    Calls Tryd.prog 15 #[.pointer (some ⟨m, 0, none⟩), .string x] w fun e w' => e = .returned (.int .i64 (t2.appC x.data.toList : Nat)) ∧ TaSx W d m ga kd s n t (t2.appR x.data.toList) w' :=
  (refAppend_any m t2 x w h.st.ref hR).mono fun _ _ ⟨h1, h2⟩ => ⟨h1, h.refed h2⟩
theorem TaSx.cut {W : World} {d m ga : Nat} {kd s : ByteArray} {n : Int} {t t2 : Tp} {w : World} (a : Nat → Addr) (h : TaSx W d m ga kd s n t t2 w) (hE : EV tpS a W) (x : Int) :
    Calls Tryd.prog 7 #[.pointer (some ⟨d, 0, none⟩), .int .i64 x] w fun e w' => e = .returned (errV a (t.cutC x)) ∧ TaSx W d m ga kd s n (t.cutR x) t2 w' := by
  obtain ⟨v, hd⟩ := h.st.disk
  exact (cutD_any a W.heap.size d v t x w hd (hE.below h.st.below)).mono fun _ _ ⟨h1, h2⟩ => ⟨h1, h.acted hd h2⟩
theorem TaSx.refCut {W : World} {d m ga : Nat} {kd s : ByteArray} {n : Int} {t t2 : Tp} {w : World} (h : TaSx W d m ga kd s n t t2 w) (x : Int) :
    Calls Tryd.prog 16 #[.pointer (some ⟨m, 0, none⟩), .int .i64 x] w fun e w' => e = .returned (.int .i64 (t2.cutC x : Nat)) ∧ TaSx W d m ga kd s n t (t2.cutR x) w' :=
  (refSetCut_any m t2 x w h.st.ref).mono fun _ _ ⟨h1, h2⟩ => ⟨h1, h.refed h2⟩
theorem TaSx.coded {W : World} {d m ga : Nat} {kd s : ByteArray} {n : Int} {t t2 : Tp} {w : World} (a : Nat → Addr) (h : TaSx W d m ga kd s n t t2 w) (hE : Errs a W) (c : Nat) (hc : c ≤ 16) :
    Calls Tryd.prog 14 #[errV a c, .int .i64 (c : Int)] w fun e w' => e = .returned (.bool true) ∧ TaSx W d m ga kd s n t t2 w' :=
  (coded_errV a c hc (c : Int) w (hE.below h.st.below)).mono fun _ _ ⟨h1, h2⟩ => ⟨by rw [h1]; simp, h.less h2⟩
theorem TaSx.cell {W : World} {d m ga : Nat} {kd s : ByteArray} {n : Int} {t t2 : Tp} {w : World} (h : TaSx W d m ga kd s n t t2 w) : w.cell? ⟨ga, 0, none⟩ = some (.string kd) ∧ w.cell? ⟨ga, 1, none⟩ = some (.string s) ∧ w.cell? ⟨ga, 2, none⟩ = some (.int .i64 n) :=
  ⟨cell_of_row w ga 0 _ _ _ h.loc, cell_of_row w ga 1 _ _ _ h.loc, cell_of_row w ga 2 _ _ _ h.loc⟩
theorem TaSt.on {W : World} {d m : Nat} {t t2 : Tp} {w : World} (h : TaSt W d m t t2 w) :
    Calls Tryd.prog 17 #[.pointer (some ⟨d, 0, none⟩)] w fun e w' => e = .returned (.tuple #[]) ∧ TaSt W d m t.onR t2 w' := by
  obtain ⟨v, hd⟩ := h.disk
  exact (on_any W.heap.size d v t w hd).mono fun _ _ ⟨h1, h2⟩ => ⟨h1, h.acted hd h2⟩
theorem TaSt.recover {W : World} {d m : Nat} {t t2 : Tp} {w : World} (h : TaSt W d m t t2 w) (hT : Tab10 W) (hR : t.Right) :
    Calls Tryd.prog 9 #[.pointer (some ⟨d, 0, none⟩)] w fun e w' => ∃ x, e = .returned (.tuple #[x, .nilIface]) ∧ w'.ownsRow w.heap.size 9 1 x (readA t.b).length (cellsT ((readA t.b).map txt)) ∧ w.heap.size ≤ w'.heap.size ∧ TaSt W d m t.recR t2 w' := by
  obtain ⟨v, hd⟩ := h.disk
  refine (recover_any W d v t w hT h.below h.oldD hd hR).mono fun e w' ⟨x, h1, h2, h3⟩ => ⟨x, h1, h2, ?_, h.acted hd h3⟩
  obtain ⟨_, _, hk⟩ := h3
  exact hk.size
theorem TaSt.refRecover {W : World} {d m : Nat} {t t2 : Tp} {w : World} (h : TaSt W d m t t2 w) (hR : t2.Right) :
    Calls Tryd.prog 18 #[.pointer (some ⟨m, 0, none⟩)] w fun e w' => ∃ x, e = .returned x ∧ w'.ownsRow w.heap.size 9 1 x (readA t2.b).length (cellsT ((readA t2.b).map txt)) ∧ KeptD (fun k => k = m) w w' ∧ TaSt W d m t t2.recR w' :=
  (refRecover_any m t2 w h.ref hR).mono fun _ _ ⟨x, h1, h2, h3⟩ => ⟨x, h1, h2, h3.2, h.refed h3⟩
theorem TaSt.bytes {W : World} {d m : Nat} {t t2 : Tp} {w : World} (h : TaSt W d m t t2 w) :
    Calls Tryd.prog 13 #[.pointer (some ⟨d, 0, none⟩)] w fun e w' => e = .returned (.string (txt t.b)) ∧ w' = w := by
  obtain ⟨v, hd⟩ := h.disk
  exact bytesD_any W.heap.size d v t w hd
theorem TaSt.power {W : World} {d m : Nat} {t t2 : Tp} {w : World} (h : TaSt W d m t t2 w) :
    Calls Tryd.prog 11 #[.pointer (some ⟨d, 0, none⟩)] w fun e w' => e = .returned (.bool (!t.off)) ∧ w' = w := by
  obtain ⟨v, hd⟩ := h.disk
  exact power_any W.heap.size d v t w hd
end Go.Proofs.YteofodegeigmaaaDoor

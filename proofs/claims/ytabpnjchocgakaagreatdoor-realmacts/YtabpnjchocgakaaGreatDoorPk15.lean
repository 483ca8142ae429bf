/-
  What the functions of these parts do, and what holds of their plain forms: RealmRenew, RealmRenew2, RealmRenew3, RealmRenew4.
-/
import Derived.Test.YtabpnjchocgakaaGreatDoorRealmLogin
import Derived.Test.YtabpnjchocgakaaGreatDoorPk13
import Derived.Deep.RegionHeld3
namespace Go.Proofs.YtabpnjchocgakaaGreatDoor
open Go.RowKit Go.Extern.Stop Go.Stop Go.Extern Go.Proofs Go.Maps
set_option maxRecDepth 100000 in
set_option maxHeartbeats 4000000 in
theorem refRenewR_none {B : Nat} (rb bb : Nat) (v lv : Value) (r : Rm) (s dst : ByteArray) (w : World) (h : RefRm B w rb bb v lv r) (hg : GoodR r) (hno : getP r.b dst = none) :
  Calls Tryz.prog 39 #[.pointer (some ⟨rb, 0, none⟩), .string s, .string dst] w fun e w' => e = .returned (.tuple #[.string ⟨#[]⟩, .int .i64 5]) ∧ Below w.heap.size w w' := by
 obtain ⟨_, _, _, _, c4, _⟩ := rm_cells h.row
 have HF1 := hide (refFind_any bb r.b dst w h.book.book (Nat.le_trans hg.book.few (by decide)))
 rw [find_of_get hno] at HF1
 clear h hg hno
 go_enter Tryz.func39, Tryz.ntmps39
 go_wp2_with fail
 refine HF1.out.mono ?_
 rintro e w1 ⟨rfl, rfl⟩
 go_wp2
 go_ret2
 exact ⟨rfl, Below.refl _ _⟩
set_option maxRecDepth 100000 in
set_option maxHeartbeats 4000000 in
theorem refRenewR_off {B : Nat} (rb bb : Nat) (v lv : Value) (r : Rm) (s dst : ByteArray) (k : Per) (w : World) (h : RefRm B w rb bb v lv r) (hg : GoodR r) (hk : getP r.b dst = some k) (ho : k.off = true) :
  Calls Tryz.prog 39 #[.pointer (some ⟨rb, 0, none⟩), .string s, .string dst] w fun e w' => e = .returned (.tuple #[.string ⟨#[]⟩, .int .i64 16]) ∧ Below w.heap.size w w' := by
 obtain ⟨_, _, _, _, c4, _⟩ := rm_cells h.row
 have HF1 := hide (refFind_any bb r.b dst w h.book.book (Nat.le_trans hg.book.few (by decide)))
 have k0 : w.cell? ⟨bb, 0, none⟩ = some v := cell_of_row w bb 0 _ _ _ h.book.1
 obtain ⟨kk, hkk, hka, hfk⟩ := find_at hk
 obtain ⟨g, cap, rfl, hcap, hcl⟩ := h.people hk
 obtain ⟨q1, _, q3⟩ := hcl kk k hka
 rw [hfk] at HF1
 rw [ho] at q3
 clear h hg hk hcl hka hfk ho q1
 generalize r.b.length = m at *
 go_enter Tryz.func39, Tryz.ntmps39
 go_wp2_with fail
 refine HF1.out.mono ?_
 rintro e w1 ⟨rfl, rfl⟩
 go_wp2
 go_ret2
 exact ⟨rfl, Below.refl _ _⟩
set_option maxRecDepth 100000 in
set_option maxHeartbeats 8000000 in
theorem refRenewR_open {B : Nat} (rb bb : Nat) (v lv : Value) (r : Rm) (s dst : ByteArray) (k : Per) (w : World) (h : RefRm B w rb bb v lv r) (hg : GoodR r) (hss : s.size ≤ maxLen) (hk : getP r.b dst = some k) (ho : k.off = false) (he : tkOpenE k.key s.data.toList ≠ 0 ∨ (tkOpenE k.key s.data.toList = 0 ∧ (tkIn s).dst ≠ dst)) :
  Calls Tryz.prog 39 #[.pointer (some ⟨rb, 0, none⟩), .string s, .string dst] w fun e w' => e = .returned (.tuple #[.string ⟨#[]⟩, .int .i64 ((if tkOpenE k.key s.data.toList = 0 then 4 else tkOpenE k.key s.data.toList : Nat) : Int)]) ∧ Below w.heap.size w w' := by
 obtain ⟨_, _, _, _, c4, _⟩ := rm_cells h.row
 have HF1 := hide (refFind_any bb r.b dst w h.book.book (Nat.le_trans hg.book.few (by decide)))
 have k0 : w.cell? ⟨bb, 0, none⟩ = some v := cell_of_row w bb 0 _ _ _ h.book.1
 obtain ⟨kk, hkk, hka, hfk⟩ := find_at hk
 obtain ⟨g, cap, rfl, hcap, hcl⟩ := h.people hk
 obtain ⟨q1, _, q3⟩ := hcl kk k hka
 have HO := hide (fun W => refOpen_any k.key s W hss)
 have HIn : Hid (tkOf (Sl.lookW s.data.toList) = tkIn s) := rfl
 rw [HIn.out] at HO
 rw [hfk] at HF1
 rw [ho] at q3
 clear h hg hk hcl hka hfk ho hss HIn
 generalize tkIn s = T at *
 generalize tkOpenE k.key s.data.toList = oe at *
 generalize hres : (if oe = 0 then 4 else oe) = res
 have HRes := hide hres
 have HE := hide he
 clear hres he
 obtain ⟨x0, x1, x2, x3, x4, x5, hOT⟩ : ∃ x0 x1 x2 x3 x4 x5, (okT oe T) = ⟨x0, x1, x2, x3, x4, x5⟩ := ⟨_, _, _, _, _, _, rfl⟩
 have HOT := hide hOT
 rw [hOT] at HO
 have HDst : Hid (oe = 0 → x1 = T.dst) := fun e => by
  have := HOT.out
  rw [e, okT_yes] at this
  rw [this]
 clear hOT HOT
 unfold Tk.val Tk.cells at HO
 dsimp only at HO
 generalize r.b.length = m at *
 generalize k.key = ky at *
 go_enter Tryz.func39, Tryz.ntmps39
 go_wp2_with fail
 refine HF1.out.mono ?_
 rintro e w1 ⟨rfl, rfl⟩
 go_wp2_with fail
 refine (HO.out _).mono ?_
 rintro e w2 ⟨rfl, hb⟩
 have HB2 := hide hb
 clear hb HO
 by_cases h0 : oe = 0
 ·
  subst h0
  have hr4 : res = 4 := by rw [← HRes.out]; rfl
  subst hr4
  have hne : x1 ≠ dst := by rw [HDst.out rfl]; exact (HE.out.resolve_left (fun e => e rfl)).2
  have hnb := texts_ne hne
  have HB3 := hide (HB2.out.alloc HB2.out.size (.cells #[.string x0, .string x1, .int .i64 x2, .int .i64 x3, .int .i64 x4, .int .i64 x5] 51))
  clear hne HE HDst HRes
  go_wp2
  go_ret2
  exact ⟨rfl, HB3.out⟩
 ·
  have hr4 : res = oe := by rw [← HRes.out, if_neg h0]
  subst hr4
  have hz : (0 : Int) < (res : Int) := by omega
  have HB3 := hide (HB2.out.alloc HB2.out.size (.cells #[.string x0, .string x1, .int .i64 x2, .int .i64 x3, .int .i64 x4, .int .i64 x5] 51))
  clear HE HDst HRes
  go_wp2
  go_ret2
  exact ⟨rfl, HB3.out⟩
structure RnAt (rb bb g kk m cap gt : Nat) (r : Rm) (ky : Int) (T : Tk) (W : World) : Prop where
 long : W.cell? ⟨rb, 1, none⟩ = some (.int .i64 r.long)
 time : W.cell? ⟨rb, 2, none⟩ = some (.int .i64 r.time)
 ser : W.cell? ⟨rb, 3, none⟩ = some (.int .i64 r.ser)
 book : W.cell? ⟨rb, 4, none⟩ = some (.pointer (some ⟨bb, 0, none⟩))
 row : W.cell? ⟨bb, 0, none⟩ = some (.slice (some ⟨g, 0, none⟩) m cap)
 key : W.cell? ⟨g, kk * 4 + 1, none⟩ = some (.int .i64 ky)
 tk : W.heap[gt]? = some (tkO T)
 zer : W.frozen? ⟨rb, 3, none⟩ = false
set_option maxRecDepth 100000 in
set_option maxHeartbeats 8000000 in
theorem refRenewR_who {B : Nat} (rb bb : Nat) (v lv : Value) (r : Rm) (s dst : ByteArray) (k : Per) (c : Nat) (w : World) (h : RefRm B w rb bb v lv r) (hg : GoodR r) (hss : s.size ≤ maxLen) (hk : getP r.b dst = some k) (ho : k.off = false) (he : tkOpenE k.key s.data.toList = 0) (hd : (tkIn s).dst = dst)
  (hc : (getP r.b (tkIn s).who = none ∧ c = 5) ∨ (∃ p, getP r.b (tkIn s).who = some p ∧ ((p.off = true ∧ c = 16) ∨ (p.off = false ∧ (tkIn s).epoch ≠ p.epoch ∧ c = 13)))) :
  Calls Tryz.prog 39 #[.pointer (some ⟨rb, 0, none⟩), .string s, .string dst] w fun e w' => e = .returned (.tuple #[.string ⟨#[]⟩, .int .i64 (c : Int)]) ∧ Below w.heap.size w w' := by
 obtain ⟨_, _, _, _, c4, _⟩ := rm_cells h.row
 have HF1 := hide (refFind_any bb r.b dst w h.book.book (Nat.le_trans hg.book.few (by decide)))
 have k0 : w.cell? ⟨bb, 0, none⟩ = some v := cell_of_row w bb 0 _ _ _ h.book.1
 obtain ⟨kk, hkk, hka, hfk⟩ := find_at hk
 obtain ⟨g, cap, rfl, hcap, hcl⟩ := h.people hk
 obtain ⟨q1, _, q3⟩ := hcl kk k hka
 have HO := hide (fun W => refOpen_any k.key s W hss)
 have HIn : Hid (tkOf (Sl.lookW s.data.toList) = tkIn s) := rfl
 rw [HIn.out, he, okT_yes] at HO
 rw [hfk] at HF1
 rw [ho] at q3
 have HFW := hide (fun W (hb : Below w.heap.size w W) => refFind_any bb r.b (tkIn s).who W (h.below hb).book.book (Nat.le_trans hg.book.few (by decide)))
 have HW : Hid (∀ gt W, Below w.heap.size w W → W.heap[gt]? = some (tkO (tkIn s)) → RnAt rb bb g kk r.b.length cap gt r k.key (tkIn s) W) := fun gt W hb hT => by
  have h' := h.below hb
  obtain ⟨_, d1, d2, d3, d4, _⟩ := rm_cells h'.row
  obtain ⟨g', cap', e, _, hcl'⟩ := h'.people hk
  injection e with e1 _ _
  injection e1 with e1
  injection e1 with e1
  subst e1
  exact ⟨d1, d2, d3, d4, cell_of_row W bb 0 _ _ _ h'.book.1, (hcl' kk k hka).1, hT, (rm_frozen h'.row).2.1⟩
 have HWho : Hid (∀ W (p : Per) (j : Nat), Below w.heap.size w W → r.b[j]? = some p → W.cell? ⟨g, j * 4 + 2, none⟩ = some (.int .i64 p.epoch) ∧ W.cell? ⟨g, j * 4 + 3, none⟩ = some (.bool p.off)) := fun W p j hb hp => by
  obtain ⟨g', cap', e, _, hcl'⟩ := (h.below hb).people hk
  injection e with e1 _ _
  injection e1 with e1
  injection e1 with e1
  subst e1
  exact ⟨(hcl' j p hp).2.1, (hcl' j p hp).2.2⟩
 have HC : Hid ((findP r.b (tkIn s).who < 0 ∧ c = 5) ∨ (∃ (j : Nat) (p : Per), findP r.b (tkIn s).who = j ∧ j < r.b.length ∧ r.b[j]? = some p ∧ ((p.off = true ∧ c = 16) ∨ (p.off = false ∧ (tkIn s).epoch ≠ p.epoch ∧ c = 13)))) := by
  rcases hc with ⟨h1, h2⟩ | ⟨p, h1, h2⟩
  ·
   exact Or.inl ⟨by rw [find_of_get h1]; decide, h2⟩
  ·
   obtain ⟨j, hj, hpa, hf⟩ := find_at h1
   exact Or.inr ⟨j, p, hf, hj, hpa, h2⟩
 have hdt : (tkIn s).dst.toList == dst.toList := by rw [hd]; simp
 clear h hg hk hcl hka hfk ho hss HIn he hc hd
 generalize tkIn s = T at *
 rw [tk_val] at HO
 generalize findP r.b T.who = fw at *
 generalize k.key = ky at *
 go_enter Tryz.func39, Tryz.ntmps39
 go_wp2_with fail
 refine HF1.out.mono ?_
 rintro e w1 ⟨rfl, rfl⟩
 go_wp2_with fail
 refine (HO.out _).mono ?_
 rintro e w2 ⟨rfl, hb⟩
 have HB3 : Hid (Below w1.heap.size w1 (w2.alloc (tkO T))) := hb.alloc hb.size _
 have HT3 : Hid ((w2.alloc (tkO T)).heap[w2.heap.size]? = some (tkO T)) := heap_alloc_new _ _
 have HLt : Hid (w1.heap.size ≤ w2.heap.size) := hb.size
 clear hb HO
 go_upto_region 9 with fail
 obtain ⟨W3, hW3⟩ : ∃ W, w2.alloc (.cells #[.string T.who, .string T.dst, .int .i64 T.epoch, .int .i64 T.frm, .int .i64 T.til, .int .i64 T.ser] 51) = W := ⟨_, rfl⟩
 change Hid (Below w1.heap.size w1 (w2.alloc (.cells #[.string T.who, .string T.dst, .int .i64 T.epoch, .int .i64 T.frm, .int .i64 T.til, .int .i64 T.ser] 51))) at HB3
 change Hid ((w2.alloc (.cells #[.string T.who, .string T.dst, .int .i64 T.epoch, .int .i64 T.frm, .int .i64 T.til, .int .i64 T.ser] 51)).heap[w2.heap.size]? = some (tkO T)) at HT3
 rw [hW3] at HB3 HT3 ⊢
 clear hW3
 generalize w2.heap.size = gt at *
 have H3 := HW.out gt W3 HB3.out HT3.out
 obtain ⟨t0, t1, t2, _, _, _⟩ := tk_row H3.tk
 have j4 := H3.book
 have HD1 : Hid (Below w1.heap.size w1 W3.drew) := HB3.out.drew
 go_upto_region 11 with fail
 go_cut [11] (fun s11 wc => s11 = .int .i64 fw ∧ Hid (Below w1.heap.size w1 wc) ∧ Hid (wc.heap[gt]? = some (tkO T)))
 case first =>
  have HTd : Hid (W3.drew.heap[gt]? = some (tkO T)) := HT3.out
  go_region_held3 (fun w' => w'.cell? ⟨rb, 4, none⟩ = some (.pointer (some ⟨bb, 0, none⟩)) ∧ w'.cell? ⟨gt, 0, none⟩ = some (.string T.who)) (first | go_keep | assumption)
   (first | (go_at_call 11; refine (HFW.out _ HD1.out).mono ?_; rintro e w5 ⟨rfl, rfl⟩))
  all_goals
   go_wp2_with fail
   go_meet
   exact ⟨rfl, HD1, HTd⟩
 case rest =>
  obtain ⟨rfl, HB4, HT4⟩ := hcut
  clear H3 t0 t1 t2 j4 HD1 HB3 HT3 HFW HF1 c4 k0 q1 q3
  have H4 := HW.out gt wc HB4.out HT4.out
  obtain ⟨t0, t1, t2, _, _, _⟩ := tk_row H4.tk
  have j4 := H4.book
  have j0 := H4.row
  rcases HC.out with ⟨hf, rfl⟩ | ⟨j, p, rfl, hj, hpa, hcase⟩
  ·
   clear HC HW HWho
   go_wp2
   go_ret2
   exact ⟨rfl, HB4.out⟩
  ·
   obtain ⟨p2, p3⟩ := HWho.out wc p j HB4.out hpa
   have HDr : Hid (∀ k, Below w1.heap.size w1 (wc.drewN k)) := fun k => below_drewN HB4.out k
   rcases hcase with ⟨hof, rfl⟩ | ⟨hof, hne, rfl⟩
   ·
    rw [hof] at p3
    clear HC HW HWho hpa hof
    generalize r.b.length = m at *
    go_wp2
    go_ret2
    exact ⟨rfl, HB4.out⟩
   ·
    rw [hof] at p3
    clear HC HW HWho hpa hof
    generalize r.b.length = m at *
    generalize T.epoch = te at *
    generalize p.epoch = pe at *
    go_upto_region 16 with fail
    go_quiet (fail)
    go_wp2
    go_ret2
    exact ⟨rfl, HDr.out _⟩
set_option maxRecDepth 100000 in
set_option maxHeartbeats 16000000 in
theorem refRenewR_end {B : Nat} (rb bb : Nat) (v lv : Value) (r : Rm) (s dst : ByteArray) (k p : Per) (w : World) (h : RefRm B w rb bb v lv r) (hg : GoodR r) (hss : s.size ≤ maxLen) (hk : getP r.b dst = some k) (ho : k.off = false) (he : tkOpenE k.key s.data.toList = 0) (hd : (tkIn s).dst = dst) (hp : getP r.b (tkIn s).who = some p) (hpo : p.off = false) (hep : (tkIn s).epoch = p.epoch) :
  Calls Tryz.prog 39 #[.pointer (some ⟨rb, 0, none⟩), .string s, .string dst] w fun e w' => e = .returned (.tuple #[.string (if (tkIn s).renewE r.time (r.time + r.long) r.ser = 0 then Sl.ofL (Sl.sealL k.key ((tkIn s).anew r.time (r.time + r.long) r.ser).words) else ⟨#[]⟩), .int .i64 ((tkIn s).renewE r.time (r.time + r.long) r.ser : Int)]) ∧ RmPost B w rb bb v (r.serR ((tkIn s).renewE r.time (r.time + r.long) r.ser)) w' := by
 obtain ⟨_, c1, _, _, c4, _⟩ := rm_cells h.row
 have HF1 := hide (refFind_any bb r.b dst w h.book.book (Nat.le_trans hg.book.few (by decide)))
 have k0 : w.cell? ⟨bb, 0, none⟩ = some v := cell_of_row w bb 0 _ _ _ h.book.1
 obtain ⟨kk, hkk, hka, hfk⟩ := find_at hk
 obtain ⟨g, cap, rfl, hcap, hcl⟩ := h.people hk
 obtain ⟨q1, _, q3⟩ := hcl kk k hka
 have HO := hide (fun W => refOpen_any k.key s W hss)
 have HIn : Hid (tkOf (Sl.lookW s.data.toList) = tkIn s) := rfl
 rw [HIn.out, he, okT_yes] at HO
 rw [hfk] at HF1
 rw [ho] at q3
 have HFW := hide (fun W (hb : Below w.heap.size w W) => refFind_any bb r.b (tkIn s).who W (h.below hb).book.book (Nat.le_trans hg.book.few (by decide)))
 have HW : Hid (∀ T gt W, Below w.heap.size w W → W.heap[gt]? = some (tkO T) → RnAt rb bb g kk r.b.length cap gt r k.key T W) := fun T gt W hb hT => by
  have h' := h.below hb
  obtain ⟨_, d1, d2, d3, d4, _⟩ := rm_cells h'.row
  obtain ⟨g', cap', e, _, hcl'⟩ := h'.people hk
  injection e with e1 _ _
  injection e1 with e1
  injection e1 with e1
  subst e1
  exact ⟨d1, d2, d3, d4, cell_of_row W bb 0 _ _ _ h'.book.1, (hcl' kk k hka).1, hT, (rm_frozen h'.row).2.1⟩
 have HWho : Hid (∀ W (p : Per) (j : Nat), Below w.heap.size w W → r.b[j]? = some p → W.cell? ⟨g, j * 4 + 2, none⟩ = some (.int .i64 p.epoch) ∧ W.cell? ⟨g, j * 4 + 3, none⟩ = some (.bool p.off)) := fun W p j hb hp => by
  obtain ⟨g', cap', e, _, hcl'⟩ := (h.below hb).people hk
  injection e with e1 _ _
  injection e1 with e1
  injection e1 with e1
  subst e1
  exact ⟨(hcl' j p hp).2.1, (hcl' j p hp).2.2⟩
 obtain ⟨j, hj, hpa, hfj⟩ := find_at hp
 have hdt : (tkIn s).dst.toList == dst.toList := by rw [hd]; simp
 have hs1 := name_small (hg.name hp).1
 have hs2 : (tkIn s).dst.size ≤ maxLen := by rw [hd]; exact name_small (hg.name hk).1
 have HRn := hide (fun W => refRenew_any (tkIn s) r.time (r.time + r.long) r.ser W hs1 hs2)
 have HTx : Hid ((tkIn s).renewE r.time (r.time + r.long) r.ser = 0 → ∀ W, Calls Tryz.prog 86 #[.int .i64 k.key, ((tkIn s).anew r.time (r.time + r.long) r.ser).val] W fun e w' => e = .returned (.tuple #[.string (Sl.ofL (Sl.sealL k.key ((tkIn s).anew r.time (r.time + r.long) r.ser).words)), .int .i64 0]) ∧ Below W.heap.size W w') := fun h0 W => by
  have h1 : ((tkIn s).anew r.time (r.time + r.long) r.ser).err = 0 := by
   unfold Tk.renewE at h0
   split at h0
   ·
    exact h0
   ·
    rename_i hx; exact absurd h0 hx
  have hm0 : tkMakeE k.key ((tkIn s).anew r.time (r.time + r.long) r.ser) = 0 := by unfold tkMakeE; rw [if_pos (hg.name hk).2.1]; exact h1
  have := refTkText_any k.key ((tkIn s).anew r.time (r.time + r.long) r.ser) W hs1 hs2
  rw [hm0, show tkMakeS k.key ((tkIn s).anew r.time (r.time + r.long) r.ser) = Sl.ofL (Sl.sealL k.key ((tkIn s).anew r.time (r.time + r.long) r.ser).words) by unfold tkMakeS; rw [if_pos hm0]] at this
  exact this
 have HNo : Hid (∀ W, (tkIn s).renewE r.time (r.time + r.long) r.ser ≠ 0 → Below w.heap.size w W → RmPost B w rb bb (.slice (some ⟨g, 0, none⟩) r.b.length cap) (r.serR ((tkIn s).renewE r.time (r.time + r.long) r.ser)) W) := fun W h0 hb => RmPost.unserved h h0 hb
 have HYes : Hid (∀ W, (tkIn s).renewE r.time (r.time + r.long) r.ser = 0 → Below w.heap.size w W → RmPost B w rb bb (.slice (some ⟨g, 0, none⟩) r.b.length cap) (r.serR ((tkIn s).renewE r.time (r.time + r.long) r.ser)) (W.setCell ⟨rb, 3, none⟩ (.int .i64 (r.ser + 1)))) := fun W h0 hb => by rw [h0]; exact h.served hb
 have HSer : Hid ((tkIn s).renewE r.time (r.time + r.long) r.ser = 0 → r.ser ≤ 1073741824) := fun h0 => by
  have h1 : ((tkIn s).anew r.time (r.time + r.long) r.ser).err = 0 := by
   unfold Tk.renewE at h0
   split at h0
   ·
    exact h0
   ·
    rename_i hx; exact absurd h0 hx
  exact ((Tk.err_iff _).1 h1).2.2.1.2
 have HTS : Hid ((if (tkIn s).renewE r.time (r.time + r.long) r.ser = 0 then Sl.ofL (Sl.sealL k.key ((tkIn s).anew r.time (r.time + r.long) r.ser).words) else ⟨#[]⟩) = if (tkIn s).renewE r.time (r.time + r.long) r.ser = 0 then Sl.ofL (Sl.sealL k.key ((tkIn s).anew r.time (r.time + r.long) r.ser).words) else ⟨#[]⟩) := rfl
 have hb1 := hg.time
 have hb2 := hg.long
 have hb3 := hg.ser
 have hw1 : IntKind.i64.wrap (r.time + r.long) = r.time + r.long := by rw [IntKind.wrap_i64]; omega
 have hw2 : IntKind.i64.wrap (r.ser + 1) = r.ser + 1 := by rw [IntKind.wrap_i64]; omega
 rw [hfj] at HFW
 clear h hg hk hcl hka hfk ho hss HIn he hd hp hfj hs1 hs2
 generalize tkIn s = T at *
 generalize hrs : (if T.renewE r.time (r.time + r.long) r.ser = 0 then Sl.ofL (Sl.sealL k.key (T.anew r.time (r.time + r.long) r.ser).words) else ⟨#[]⟩) = RS at *
 have HRS := hide hrs
 clear hrs HTS
 generalize Sl.ofL (Sl.sealL k.key (T.anew r.time (r.time + r.long) r.ser).words) = LS at *
 generalize r.serR (T.renewE r.time (r.time + r.long) r.ser) = r2 at *
 have HOk : Hid (T.renewE r.time (r.time + r.long) r.ser = 0 → okT (T.renewE r.time (r.time + r.long) r.ser) (T.anew r.time (r.time + r.long) r.ser) = T.anew r.time (r.time + r.long) r.ser) := fun h0 => by rw [h0, okT_yes]
 generalize T.anew r.time (r.time + r.long) r.ser = TA at *
 generalize T.renewE r.time (r.time + r.long) r.ser = rc at *
 generalize okT rc TA = T2 at *
 rw [tk_val] at HO
 rw [tk_val, tk_val] at HRn
 have HPe : Hid (p.epoch = T.epoch) := hep.symm
 have HPo : Hid (p.off = false) := hpo
 clear hep hpo
 generalize k.key = ky at *
 go_enter Tryz.func39, Tryz.ntmps39
 go_wp2_with fail
 refine HF1.out.mono ?_
 rintro e w1 ⟨rfl, rfl⟩
 go_wp2_with fail
 refine (HO.out _).mono ?_
 rintro e w2 ⟨rfl, hb⟩
 have HB3 : Hid (Below w1.heap.size w1 (w2.alloc (tkO T))) := hb.alloc hb.size _
 have HT3 : Hid ((w2.alloc (tkO T)).heap[w2.heap.size]? = some (tkO T)) := heap_alloc_new _ _
 have HLt : Hid (w1.heap.size ≤ w2.heap.size) := hb.size
 clear hb HO
 go_upto_region 9 with fail
 obtain ⟨W3, hW3⟩ : ∃ W, w2.alloc (.cells #[.string T.who, .string T.dst, .int .i64 T.epoch, .int .i64 T.frm, .int .i64 T.til, .int .i64 T.ser] 51) = W := ⟨_, rfl⟩
 change Hid (Below w1.heap.size w1 (w2.alloc (.cells #[.string T.who, .string T.dst, .int .i64 T.epoch, .int .i64 T.frm, .int .i64 T.til, .int .i64 T.ser] 51))) at HB3
 change Hid ((w2.alloc (.cells #[.string T.who, .string T.dst, .int .i64 T.epoch, .int .i64 T.frm, .int .i64 T.til, .int .i64 T.ser] 51)).heap[w2.heap.size]? = some (tkO T)) at HT3
 rw [hW3] at HB3 HT3 ⊢
 clear hW3
 generalize w2.heap.size = gt at *
 have H3 := HW.out T gt W3 HB3.out HT3.out
 obtain ⟨t0, t1, t2, _, _, _⟩ := tk_row H3.tk
 have j4 := H3.book
 have HD1 : Hid (Below w1.heap.size w1 W3.drew) := HB3.out.drew
 go_upto_region 11 with fail
 go_cut [11] (fun s11 wc => s11 = .int .i64 (j : Int) ∧ Hid (Below w1.heap.size w1 wc) ∧ Hid (wc.heap[gt]? = some (tkO T)))
 case first =>
  have HTd : Hid (W3.drew.heap[gt]? = some (tkO T)) := HT3.out
  go_region_held3 (fun w' => w'.cell? ⟨rb, 4, none⟩ = some (.pointer (some ⟨bb, 0, none⟩)) ∧ w'.cell? ⟨gt, 0, none⟩ = some (.string T.who)) (first | go_keep | assumption)
   (first | (go_at_call 11; refine (HFW.out _ HD1.out).mono ?_; rintro e w5 ⟨rfl, rfl⟩))
  all_goals
   go_wp2_with fail
   go_meet
   exact ⟨rfl, HD1, HTd⟩
 case rest =>
  obtain ⟨rfl, HB4, HT4⟩ := hcut
  clear H3 t0 t1 t2 j4 HD1 HB3 HT3 HFW HF1 c4 k0 q1 q3
  have H4 := HW.out T gt wc HB4.out HT4.out
  obtain ⟨t0, t1, t2, _, _, _⟩ := tk_row H4.tk
  have j4 := H4.book
  have j0 := H4.row
  obtain ⟨p2, p3⟩ := HWho.out wc p j HB4.out hpa
  rw [HPe.out] at p2
  rw [HPo.out] at p3
  have HDr : Hid (∀ k, Below w1.heap.size w1 (wc.drewN k)) := fun k => below_drewN HB4.out k
  have HTr : Hid (∀ k, (wc.drewN k).heap[gt]? = some (tkO T)) := fun k => HT4.out
  clear HWho hpa HPe HPo
  generalize r.b.length = m at *
  go_upto_region 16 with fail
  go_cut [88] (fun s88 wc => s88 = .bool false ∧ Hid (Below w1.heap.size w1 wc) ∧ Hid (wc.heap[gt]? = some (tkO T)))
  case first =>
   go_quiet (fail)
   go_wp2
   go_meet
   exact ⟨by simp, HDr.out _, HTr.out _⟩
  case rest =>
   obtain ⟨rfl, HB5, HT5⟩ := hcut
   clear H4 t0 t1 t2 j4 j0 p2 p3 HB4 HT4 HDr HTr
   have H5 := HW.out T gt wc HB5.out HT5.out
   obtain ⟨t0, t1, t2, t3, t4, t5⟩ := tk_row H5.tk
   have j1 := H5.long
   have j2 := H5.time
   have j3 := H5.ser
   have HD5 : Hid (Below w1.heap.size w1 wc.drew) := HB5.out.drew
   have HTd : Hid (wc.drew.heap[gt]? = some (tkO T)) := HT5.out
   go_upto_region 18 with fail
   go_cut [10] (fun s10 wc => s10 = .int .i64 (rc : Int) ∧ Hid (Below w1.heap.size w1 wc) ∧ Hid (wc.heap[gt]? = some (tkO T2)))
   case first =>
    have hne : gt ≠ rb := by
     intro e
     have h1 := HLt.out
     have h2 := World.block_lt_of_cell? w1 ⟨rb, 1, none⟩ c1
     change rb < _ at h2
     omega
    refine wp_region_noPanic ?_
    refine wp_region_held_drew (S := (fun w' => w'.cell? ⟨rb, 1, none⟩ = some (.int .i64 r.long) ∧ w'.cell? ⟨rb, 2, none⟩ = some (.int .i64 r.time) ∧ w'.cell? ⟨rb, 3, none⟩ = some (.int .i64 r.ser))) (by kernel_rfl) ⟨j1, j2, j3⟩ (fun hHeld => ?_)
    refine takeD (i := 1) (oi := _) (v := ?_) (d := 91) rfl rfl (by kernel_rfl) (by kernel_rfl) (by kernel_rfl) (fun _ _ _ h => h) (Or.inl ⟨by rfl, ?_⟩) (by assumption) ?_
    rotate_left
    ·
     intro w hSw
     (try dsimp only at hSw)
     go_simp
     (try with_reducible rfl)
    simp only [List.setIfInBounds_toArray, List.set_cons_zero, List.set_cons_succ]
    refine takeD (i := 2) (oi := _) (v := ?_) (d := 92) rfl rfl (by kernel_rfl) (by kernel_rfl) (by kernel_rfl) (fun _ _ _ h => h) (Or.inl ⟨by rfl, ?_⟩) (by assumption) ?_
    rotate_left
    ·
     intro w hSw
     (try dsimp only at hSw)
     go_simp
     (try with_reducible rfl)
    simp only [List.setIfInBounds_toArray, List.set_cons_zero, List.set_cons_succ]
    refine takeD (i := 3) (oi := _) (v := ?_) (d := 93) rfl rfl (by kernel_rfl) (by kernel_rfl) (by kernel_rfl) (fun _ _ _ h => h) (Or.inl ⟨by rfl, ?_⟩) (by assumption) ?_
    rotate_left
    ·
     intro w hSw
     (try dsimp only at hSw)
     go_simp
     (try with_reducible rfl)
    simp only [List.setIfInBounds_toArray, List.set_cons_zero, List.set_cons_succ]
    refine takeD (i := 4) (oi := _) (v := ?_) (d := 94) rfl rfl (by kernel_rfl) (by kernel_rfl) (by kernel_rfl) (fun _ _ _ h => h) (Or.inl ⟨by rfl, ?_⟩) (by assumption) ?_
    rotate_left
    ·
     intro w hSw
     (try dsimp only at hSw)
     go_simp
     (try with_reducible rfl)
    simp only [List.setIfInBounds_toArray, List.set_cons_zero, List.set_cons_succ]
    refine takeD (i := 5) (oi := _) (v := ?_) (d := 95) rfl rfl (by kernel_rfl) (by kernel_rfl) (by kernel_rfl) (fun _ _ _ h => h) (Or.inl ⟨by rfl, ?_⟩) (by assumption) ?_
    rotate_left
    ·
     intro w hSw
     (try dsimp only at hSw)
     go_simp
     (try with_reducible rfl)
    simp only [List.setIfInBounds_toArray, List.set_cons_zero, List.set_cons_succ]
    refine takeD (i := 6) (oi := _) (v := ?_) (d := 96) rfl rfl (by kernel_rfl) (by kernel_rfl) (by kernel_rfl) (fun _ _ _ h => h) (Or.inl ⟨by rfl, ?_⟩) (by assumption) ?_
    rotate_left
    ·
     intro w hSw
     (try dsimp only at hSw)
     go_simp
     (try with_reducible rfl)
    simp only [List.setIfInBounds_toArray, List.set_cons_zero, List.set_cons_succ]
    refine takeD (i := 7) (oi := _) (v := ?_) (d := 97) rfl rfl (by kernel_rfl) (by kernel_rfl) (by kernel_rfl) (fun _ _ _ h => h) (Or.inl ⟨by rfl, ?_⟩) (by assumption) ?_
    rotate_left
    ·
     intro w hSw
     (try dsimp only at hSw)
     go_simp
     (try with_reducible rfl)
    simp only [List.setIfInBounds_toArray, List.set_cons_zero, List.set_cons_succ]
    refine takeD (i := 8) (oi := _) (v := ?_) (d := 98) rfl rfl (by kernel_rfl) (by kernel_rfl) (by kernel_rfl) (fun _ _ _ h => h) (Or.inl ⟨by rfl, ?_⟩) (by assumption) ?_
    rotate_left
    ·
     intro w hSw
     (try dsimp only at hSw)
     go_simp
     (try with_reducible rfl)
    simp only [List.setIfInBounds_toArray, List.set_cons_zero, List.set_cons_succ]
    refine takeD (i := 9) (oi := _) (v := ?_) (d := 99) rfl rfl (by kernel_rfl) (by kernel_rfl) (by kernel_rfl) (fun _ _ _ h => h) (Or.inl ⟨by rfl, ?_⟩) (by assumption) ?_
    rotate_left
    ·
     intro w hSw
     (try dsimp only at hSw)
     go_simp
     (try with_reducible rfl)
    simp only [List.setIfInBounds_toArray, List.set_cons_zero, List.set_cons_succ]
    refine takeD (i := 10) (oi := _) (v := ?_) (d := 100) rfl rfl (by kernel_rfl) (by kernel_rfl) (by kernel_rfl) (fun _ _ _ h => h) (Or.inl ⟨by rfl, ?_⟩) (by assumption) ?_
    rotate_left
    ·
     intro w hSw
     (try dsimp only at hSw)
     go_simp
     (try with_reducible rfl)
    simp only [List.setIfInBounds_toArray, List.set_cons_zero, List.set_cons_succ]
    refine takeD (i := 11) (oi := _) (v := ?_) (d := 101) rfl rfl (by kernel_rfl) (by kernel_rfl) (by kernel_rfl) (fun _ _ _ h => h) (Or.inl ⟨by rfl, ?_⟩) (by assumption) ?_
    rotate_left
    ·
     intro w hSw
     (try dsimp only at hSw)
     go_simp
     (try with_reducible rfl)
    simp only [List.setIfInBounds_toArray, List.set_cons_zero, List.set_cons_succ]
    refine takeD (i := 12) (oi := _) (v := ?_) (d := 102) rfl rfl (by kernel_rfl) (by kernel_rfl) (by kernel_rfl) (fun _ _ _ h => h) (Or.inl ⟨by rfl, ?_⟩) (by assumption) ?_
    rotate_left
    ·
     intro w hSw
     (try dsimp only at hSw)
     go_simp
     (try with_reducible rfl)
    simp only [List.setIfInBounds_toArray, List.set_cons_zero, List.set_cons_succ]
    refine takeD (i := 13) (oi := _) (v := ?_) (d := 103) rfl rfl (by kernel_rfl) (by kernel_rfl) (by kernel_rfl) (fun _ _ _ h => h) (Or.inl ⟨by rfl, ?_⟩) (by assumption) ?_
    rotate_left
    ·
     intro w hSw
     (try dsimp only at hSw)
     go_simp
     (try with_reducible rfl)
    simp only [List.setIfInBounds_toArray, List.set_cons_zero, List.set_cons_succ]
    refine takeD (i := 14) (oi := _) (v := ?_) (d := 104) rfl rfl (by kernel_rfl) (by kernel_rfl) (by kernel_rfl) (fun _ _ _ h => h) (Or.inl ⟨by rfl, ?_⟩) (by assumption) ?_
    rotate_left
    ·
     intro w hSw
     (try dsimp only at hSw)
     go_simp
     (try with_reducible rfl)
    simp only [List.setIfInBounds_toArray, List.set_cons_zero, List.set_cons_succ]
    refine takeD (i := 15) (oi := _) (v := ?_) (d := 105) rfl rfl (by kernel_rfl) (by kernel_rfl) (by kernel_rfl) (fun _ _ _ h => h) (Or.inl ⟨by rfl, ?_⟩) (by assumption) ?_
    rotate_left
    ·
     intro w hSw
     (try dsimp only at hSw)
     go_simp
     (try with_reducible rfl)
    simp only [List.setIfInBounds_toArray, List.set_cons_zero, List.set_cons_succ]
    refine takeD (i := 16) (oi := _) (v := ?_) (d := 106) rfl rfl (by kernel_rfl) (by kernel_rfl) (by kernel_rfl) (fun _ _ _ h => h) (Or.inl ⟨by rfl, ?_⟩) (by assumption) ?_
    rotate_left
    ·
     intro w hSw
     (try dsimp only at hSw)
     go_simp
     (try with_reducible rfl)
    simp only [List.setIfInBounds_toArray, List.set_cons_zero, List.set_cons_succ]
    refine takeD (i := 17) (oi := _) (v := ?_) (d := 107) rfl rfl (by kernel_rfl) (by kernel_rfl) (by kernel_rfl) (fun _ _ _ h => h) (Or.inl ⟨by rfl, ?_⟩) (by assumption) ?_
    rotate_left
    ·
     intro w hSw
     (try dsimp only at hSw)
     go_simp
     (try with_reducible rfl)
    simp only [List.setIfInBounds_toArray, List.set_cons_zero, List.set_cons_succ]
    refine wpAnyH_ready (rs := [0]) (by kernel_rfl) (by simp) ?_
    refine AllReadyH.cons (o := _) rfl (fun K hK => ?_) AllReadyH.nil
    go_simp
    refine hK.out _ _ hHeld (fun hHeld => ?_)
    clear hK K
    refine wpAnyH_ready (rs := [18]) (by kernel_rfl) (by simp) ?_
    refine AllReadyH.cons (o := _) rfl (fun K hK => ?_) AllReadyH.nil
    go_simp
    refine (HRn.out _).mono ?_
    rintro e w7 ⟨rfl, hb⟩
    have HB7 := hide (HD5.out.trans (hb.mono HD5.out.size))
    have HT7 := hide ((hb.block _ (row_lt HTd.out)).trans HTd.out)
    have H7 := HW.out T gt _ HB7.out HT7.out
    obtain ⟨y0, y1, y2, y3, y4, y5⟩ := tk_row HT7.out
    obtain ⟨z0, z1, z2, z3, z4, z5⟩ := row_frozen6 HT7.out
    clear hb HRn
    go_wp2_with fail
    refine hK.out _ _ ⟨H7.long, H7.time, H7.ser⟩ (fun hHeld => ?_)
    clear hK K
    refine takeD (i := 19) (oi := _) (v := ?_) (d := 89) rfl rfl (by kernel_rfl) (by kernel_rfl) (by kernel_rfl) (fun _ _ _ h => h) (Or.inl ⟨by rfl, ?_⟩) (by assumption) ?_
    rotate_left
    ·
     intro w hSw
     (try dsimp only at hSw)
     go_simp
     (try with_reducible rfl)
    simp only [List.setIfInBounds_toArray, List.set_cons_zero, List.set_cons_succ]
    refine takeD (i := 20) (oi := _) (v := ?_) (d := 109) rfl rfl (by kernel_rfl) (by kernel_rfl) (by kernel_rfl) (fun _ _ _ h => h) (Or.inl ⟨by rfl, ?_⟩) (by assumption) ?_
    rotate_left
    ·
     intro w hSw
     (try dsimp only at hSw)
     go_simp
     (try with_reducible rfl)
    simp only [List.setIfInBounds_toArray, List.set_cons_zero, List.set_cons_succ]
    refine takeD (i := 21) (oi := _) (v := ?_) (d := 110) rfl rfl (by kernel_rfl) (by kernel_rfl) (by kernel_rfl) (fun _ _ _ h => h) (Or.inl ⟨by rfl, ?_⟩) (by assumption) ?_
    rotate_left
    ·
     intro w hSw
     (try dsimp only at hSw)
     go_simp
     (try with_reducible rfl)
    simp only [List.setIfInBounds_toArray, List.set_cons_zero, List.set_cons_succ]
    refine wpAnyH_ready (rs := [22]) (by kernel_rfl) (by simp) ?_
    refine AllReadyH.cons (o := _) rfl (fun K hK => ?_) AllReadyH.nil
    go_simp
    have HBs := hide (below_set6 HB7.out HLt.out (.string T2.who) (.string T2.dst) (.int .i64 T2.epoch) (.int .i64 T2.frm) (.int .i64 T2.til) (.int .i64 T2.ser))
    have HTs := hide (row_set6 HT7.out (.string T2.who) (.string T2.dst) (.int .i64 T2.epoch) (.int .i64 T2.frm) (.int .i64 T2.til) (.int .i64 T2.ser))
    have Hs := HW.out T2 gt _ HBs.out HTs.out
    refine hK.out _ _ ⟨Hs.long, Hs.time, Hs.ser⟩ (fun hHeld => ?_)
    clear hK K Hs
    refine takeD (i := 23) (oi := _) (v := ?_) (d := 10) rfl rfl (by kernel_rfl) (by kernel_rfl) (by kernel_rfl) (fun _ _ _ h => h) (Or.inl ⟨by rfl, ?_⟩) (by assumption) ?_
    rotate_left
    ·
     intro w hSw
     (try dsimp only at hSw)
     go_simp
     (try with_reducible rfl)
    simp only [List.setIfInBounds_toArray, List.set_cons_zero, List.set_cons_succ]
    refine wpAnyH_done (by kernel_rfl) ?_ _
    refine NoPanic.normal ?_
    go_wp2_with fail
    go_meet
    exact ⟨rfl, HBs, HTs⟩
   case rest =>
    obtain ⟨rfl, HB6, HT6⟩ := hcut
    clear H5 t0 t1 t2 t3 t4 t5 j1 j2 j3 HB5 HT5 HD5 HTd HRn
    by_cases h0 : rc = 0
    ·
     have HT2 : Hid (T2 = TA) := HOk.out h0
     have HYes2 : Hid (∀ W, Below w1.heap.size w1 W → RmPost B w1 rb bb (.slice (some ⟨g, 0, none⟩) m cap) r2 (W.setCell ⟨rb, 3, none⟩ (.int .i64 (r.ser + 1)))) := fun W hb => HYes.out W h0 hb
     have HTx2 := hide (HTx.out h0)
     have hser := HSer.out h0
     have HRS2 : Hid (RS = LS) := by show _ = _; rw [← HRS.out, if_pos h0]
     subst h0
     have e2 := HT2.out
     subst e2
     rw [tk_val] at HTx2
     clear HNo HOk HTx HSer HRS HYes
     have H6 := HW.out T2 gt wc HB6.out HT6.out
     obtain ⟨t0, t1, t2, t3, t4, t5⟩ := tk_row H6.tk
     have j4 := H6.book
     have j0 := H6.row
     have j1 := H6.key
     have HD6 : Hid (Below w1.heap.size w1 wc.drew) := HB6.out.drew
     have HTd : Hid (wc.drew.heap[gt]? = some (tkO T2)) := HT6.out
     go_upto_region 21 with fail
     go_cut [10, 12] (fun s10 s12 wd => s10 = .int .i64 0 ∧ s12 = .string LS ∧ Hid (Below w1.heap.size w1 wd) ∧ Hid (wd.heap[gt]? = some (tkO T2)))
     case first =>
      go_region_held3 (fun w' => w'.cell? ⟨rb, 4, none⟩ = some (.pointer (some ⟨bb, 0, none⟩)) ∧ w'.cell? ⟨bb, 0, none⟩ = some (.slice (some ⟨g, 0, none⟩) m cap) ∧ w'.cell? ⟨g, kk * 4 + 1, none⟩ = some (.int .i64 ky) ∧ w'.cell? ⟨gt, 0, none⟩ = some (.string T2.who) ∧ w'.cell? ⟨gt, 1, none⟩ = some (.string T2.dst) ∧ w'.cell? ⟨gt, 2, none⟩ = some (.int .i64 T2.epoch) ∧ w'.cell? ⟨gt, 3, none⟩ = some (.int .i64 T2.frm) ∧ w'.cell? ⟨gt, 4, none⟩ = some (.int .i64 T2.til) ∧ w'.cell? ⟨gt, 5, none⟩ = some (.int .i64 T2.ser)) (first | go_keep | assumption)
       (first | (go_at_call 86; refine (HTx2.out _).mono ?_; rintro e w5 ⟨rfl, hb⟩; have HB7 := hide (HD6.out.trans (hb.mono HD6.out.size)); have HT7 := hide ((hb.block _ (row_lt HTd.out)).trans HTd.out); have i4 := (HW.out T2 gt _ HB7.out HT7.out).book; have i0 := (HW.out T2 gt _ HB7.out HT7.out).row; have i1 := (HW.out T2 gt _ HB7.out HT7.out).key; obtain ⟨y0, y1, y2, y3, y4, y5⟩ := tk_row HT7.out; clear hb HTx2))
      all_goals
       go_wp2_with fail
       go_meet
       exact ⟨rfl, rfl, HB7, HT7⟩
     case rest =>
      obtain ⟨rfl, rfl, HB8, HT8⟩ := hcut
      clear H6 t0 t1 t2 t3 t4 t5 j4 j0 j1 HD6 HTd HTx2
      have H8 := HW.out T2 gt wc HB8.out HT8.out
      have j3 := H8.ser
      have jz := H8.zer
      have HE8 := hide (HYes2.out wc HB8.out)
      clear HW HYes2 H8 HB8 HT8 HB6 HT6
      go_wp2
      go_ret2
      exact ⟨by rw [HRS2.out]; rfl, HE8.out⟩
    ·
     have hz : (0 : Int) < (rc : Int) := by omega
     have HRS2 : Hid (RS = ⟨#[]⟩) := by show _ = _; rw [← HRS.out, if_neg h0]
     have HN2 := hide (HNo.out wc h0 HB6.out)
     clear HRS HNo HYes HTx HSer HOk HW
     generalize hrz : (rc : Int) = rz at *
     go_wp2
     go_ret2
     exact ⟨by rw [HRS2.out, ← hrz]; rfl, HN2.out⟩
theorem renS_no {r : Rm} {s dst : ByteArray} (h : r.renC s dst ≠ 0) : r.renS s dst = ⟨#[]⟩ := by unfold Rm.renS; rw [if_neg h]
theorem refRenewR_any {B : Nat} (rb bb : Nat) (v lv : Value) (r : Rm) (s dst : ByteArray) (w : World) (h : RefRm B w rb bb v lv r) (hg : GoodR r) (hss : s.size ≤ maxLen) :
  Calls Tryz.prog 39 #[.pointer (some ⟨rb, 0, none⟩), .string s, .string dst] w fun e w' => e = .returned (.tuple #[.string (r.renS s dst), .int .i64 (r.renC s dst : Int)]) ∧ RmPost B w rb bb v (r.serR (r.renC s dst)) w' := by
 have hbad : ∀ (c : Nat), c ≠ 0 → r.renC s dst = c → (Calls Tryz.prog 39 #[.pointer (some ⟨rb, 0, none⟩), .string s, .string dst] w fun e w' => e = .returned (.tuple #[.string ⟨#[]⟩, .int .i64 (c : Int)]) ∧ Below w.heap.size w w') → Calls Tryz.prog 39 #[.pointer (some ⟨rb, 0, none⟩), .string s, .string dst] w fun e w' => e = .returned (.tuple #[.string (r.renS s dst), .int .i64 (r.renC s dst : Int)]) ∧ RmPost B w rb bb v (r.serR (r.renC s dst)) w' := fun c hc e hC => by
  rw [renS_no (by rw [e]; exact hc), e]
  exact hC.mono fun _ _ ⟨h1, h2⟩ => ⟨h1, RmPost.unserved h hc h2⟩
 cases hk : getP r.b dst with
 | none => exact hbad 5 (by decide) (by unfold Rm.renC; rw [if_pos hk]) (refRenewR_none rb bb v lv r s dst w h hg hk)
 | some k =>
  have hk1 : ¬ getP r.b dst = none := by rw [hk]; simp
  have hpk := per_of hk
  cases ho : k.off with
  | true => exact hbad 16 (by decide) (by unfold Rm.renC; rw [if_neg hk1, hpk, if_pos ho]) (refRenewR_off rb bb v lv r s dst k w h hg hk ho)
  | false =>
   have ho1 : ¬ k.off = true := by rw [ho]; simp
   by_cases he : tkOpenE k.key s.data.toList = 0
   ·
    by_cases hd : (tkIn s).dst = dst
    ·
     cases hp : getP r.b (tkIn s).who with
     | none =>
      refine hbad 5 (by decide) ?_ (refRenewR_who rb bb v lv r s dst k 5 w h hg hss hk ho he hd (Or.inl ⟨hp, rfl⟩))
      unfold Rm.renC
      rw [if_neg hk1, hpk, if_neg ho1, if_pos he, if_pos hd, if_pos hp]
     | some p =>
      have hp1 : ¬ getP r.b (tkIn s).who = none := by rw [hp]; simp
      have hpp := per_of hp
      cases hpo : p.off with
      | true =>
       refine hbad 16 (by decide) ?_ (refRenewR_who rb bb v lv r s dst k 16 w h hg hss hk ho he hd (Or.inr ⟨p, hp, Or.inl ⟨hpo, rfl⟩⟩))
       unfold Rm.renC
       rw [if_neg hk1, hpk, if_neg ho1, if_pos he, if_pos hd, if_neg hp1, hpp, if_pos hpo]
      | false =>
       have hpo1 : ¬ p.off = true := by rw [hpo]; simp
       by_cases hep : (tkIn s).epoch = p.epoch
       ·
        have hC : r.renC s dst = (tkIn s).renewE r.time (r.time + r.long) r.ser := by
         unfold Rm.renC
         rw [if_neg hk1, hpk, if_neg ho1, if_pos he, if_pos hd, if_neg hp1, hpp, if_neg hpo1, if_pos hep]
        have hS : r.renS s dst = if (tkIn s).renewE r.time (r.time + r.long) r.ser = 0 then Sl.ofL (Sl.sealL k.key ((tkIn s).anew r.time (r.time + r.long) r.ser).words) else ⟨#[]⟩ := by
         unfold Rm.renS
         rw [hC, hpk]
        rw [hS, hC]
        exact refRenewR_end rb bb v lv r s dst k p w h hg hss hk ho he hd hp hpo hep
       ·
        refine hbad 13 (by decide) ?_ (refRenewR_who rb bb v lv r s dst k 13 w h hg hss hk ho he hd (Or.inr ⟨p, hp, Or.inr ⟨hpo, hep, rfl⟩⟩))
        unfold Rm.renC
        rw [if_neg hk1, hpk, if_neg ho1, if_pos he, if_pos hd, if_neg hp1, hpp, if_neg hpo1, if_neg hep]
    ·
     refine hbad 4 (by decide) ?_ ?_
     ·
      unfold Rm.renC
      rw [if_neg hk1, hpk, if_neg ho1, if_pos he, if_neg hd]
     ·
      have := refRenewR_open rb bb v lv r s dst k w h hg hss hk ho (Or.inr ⟨he, hd⟩)
      rw [if_pos he] at this
      exact this
   ·
    refine hbad (tkOpenE k.key s.data.toList) he ?_ ?_
    ·
     unfold Rm.renC
     rw [if_neg hk1, hpk, if_neg ho1, if_neg he]
    ·
     have := refRenewR_open rb bb v lv r s dst k w h hg hss hk ho (Or.inl he)
     rw [if_neg he] at this
     exact this
theorem renew_ser {T : Tk} {a b n : Int} (h0 : T.renewE a b n = 0) : n ≤ 1073741824 := by
 have h1 : (T.anew a b n).err = 0 := by
  unfold Tk.renewE at h0
  split at h0
  ·
   exact h0
  ·
   rename_i hx; exact absurd h0 hx
 exact ((Tk.err_iff _).1 h1).2.2.1.2
theorem GoodR.renR {r : Rm} (h : GoodR r) (s dst : ByteArray) : GoodR (r.serR (r.renC s dst)) := by
 refine h.serR _ fun e => ?_
 unfold Rm.renC at e
 repeat' split at e
 all_goals first
  | exact renew_ser e
  | (exact absurd e (by decide))
  | (exact absurd e (by assumption))
end Go.Proofs.YtabpnjchocgakaaGreatDoor

/-
  What the document's answer's Login of a realm gives where both are there and are on.
-/
import Derived.Test.YtabpnjchocgakaaGreatDoorRealmRef7
namespace Go.Proofs.YtabpnjchocgakaaGreatDoor
open Go.RowKit Go.Extern.Stop Go.Stop Go.Extern Go.Proofs Go.Maps
def prfB (name : ByteArray) (time : Int) : ByteArray := name ++ ⟨#[32]⟩ ++ Sl.ofL (Lib.decDigits time.toNat)
theorem prf_toList (name : ByteArray) (time : Int) : (prfB name time).data.toList = prf name time := by
 unfold prfB prf Sl.ofL
 simp [ByteArray.data_append]
theorem prf_small {name : ByteArray} {time : Int} (hs : name.size ≤ 1000) (ht : 0 ≤ time ∧ time ≤ 1000000) : (prfB name time).size ≤ maxLen := by
 have h1 := size_list (prfB name time)
 rw [prf_toList] at h1
 have h2 := size_list name
 have h3 := ((Sl.numOk_iff _).1 (dec_nat time (by omega)).1).1
 unfold prf at h1
 rw [List.length_append, List.length_cons] at h1
 unfold maxLen
 omega
set_option maxRecDepth 100000 in
set_option maxHeartbeats 8000000 in
theorem refLogin_mark {B : Nat} (rb bb : Nat) (v lv : Value) (r : Rm) (name : ByteArray) (proof : Int) (dst : ByteArray) (p s : Per) (w : World) (h : RefRm B w rb bb v lv r) (hg : GoodR r) (hp : getP r.b name = some p) (hs : getP r.b dst = some s) (ho : p.off = false) (ho2 : s.off = false) (hne : rightE p.key (prf name r.time) proof ≠ 0 ∨ 1000000 ≤ r.time ∨ 1073741824 < r.ser) :
  Calls Tryz.prog 38 #[.pointer (some ⟨rb, 0, none⟩), .string name, .int .i64 proof, .string dst] w fun e w' => e = .returned (.tuple #[.string ⟨#[]⟩, .int .i64 ((if rightE p.key (prf name r.time) proof = 0 then 2 else rightE p.key (prf name r.time) proof : Nat) : Int)]) ∧ Below w.heap.size w w' := by
 obtain ⟨_, _, c2, c3, c4, _⟩ := rm_cells h.row
 have HF1 := hide (refFind_any bb r.b name w h.book.book (Nat.le_trans hg.book.few (by decide)))
 have HF2 := hide (refFind_any bb r.b dst w h.book.book (Nat.le_trans hg.book.few (by decide)))
 have k0 : w.cell? ⟨bb, 0, none⟩ = some v := cell_of_row w bb 0 _ _ _ h.book.1
 obtain ⟨g, cap, rfl, hcap, hcl⟩ := h.people hp
 obtain ⟨kp, hkp, hpa, hfp⟩ := find_at hp
 obtain ⟨ks, hks, hsa, hfs⟩ := find_at hs
 obtain ⟨p1, p2, p3⟩ := hcl kp p hpa
 have s3 := (hcl ks s hsa).2.2
 rw [hfp] at HF1
 rw [hfs] at HF2
 rw [ho] at p3
 rw [ho2] at s3
 have HW : Hid (∀ W, Below w.heap.size w W → W.cell? ⟨rb, 2, none⟩ = some (.int .i64 r.time) ∧ W.cell? ⟨rb, 3, none⟩ = some (.int .i64 r.ser) ∧ W.cell? ⟨rb, 4, none⟩ = some (.pointer (some ⟨bb, 0, none⟩)) ∧ W.cell? ⟨bb, 0, none⟩ = some (.slice (some ⟨g, 0, none⟩) r.b.length cap) ∧ W.cell? ⟨g, kp * 4 + 1, none⟩ = some (.int .i64 p.key)) := fun W hb => by
  have h' := h.below hb
  obtain ⟨_, _, d2, d3, d4, _⟩ := rm_cells h'.row
  obtain ⟨g', cap', e, _, hcl'⟩ := h'.people hp
  injection e with e1 _ _
  injection e1 with e1
  injection e1 with e1
  subst e1
  exact ⟨d2, d3, d4, cell_of_row W bb 0 _ _ _ h'.book.1, (hcl' kp p hpa).1⟩
 have hnm := (getP_some hp).1
 have hfi := (err_zero.1 (hg.book.fine p (getP_some hp).2)).1
 have hns : name.size ≤ 1000 := by
  have h1 := size_list name
  unfold Per.nm at hfi
  rw [hnm] at hfi
  unfold Sl.nameL Sl.madeL at hfi
  simp only [Bool.and_eq_true, decide_eq_true_eq] at hfi
  omega
 have HDec := hide (fun W => dec_any r.time W hg.time.1 (by have := hg.time; omega))
 have HErr := hide (fun W => refError_any p.key (prfB name r.time) proof W (prf_small hns hg.time))
 rw [prf_toList] at HErr
 have hle := rightE_le p.key (prf name r.time) proof
 have hds : (Sl.ofL (Lib.decDigits r.time.toNat)).size ≤ 1000 := by
  rw [Sl.ofL_size]
  have := ((Sl.numOk_iff _).1 (dec_nat r.time (by have := hg.time; omega)).1).1
  omega
 clear h hg hp hs ho ho2 hcl hpa hsa hfp hfs hnm hfi
 generalize r.b.length = m at *
 generalize rightE p.key (prf name r.time) proof = re at *
 unfold prfB at HErr
 generalize Sl.ofL (Lib.decDigits r.time.toNat) = ds at *
 generalize hres : (if re = 0 then 2 else re) = res
 have HRes := hide hres
 clear hres
 generalize r.time = t at *
 generalize r.ser = sr at *
 generalize p.key = pk at *
 have HNe := hide hne
 clear hne
 have ha1 : ∀ w : World, (Op.stringOp .add name { data := #[32] }).run Tryz.prog w = .ok (.string (name ++ { data := #[32] })) w := fun w => run_string_add_sum w _ _ (by show name.size + 1 ≤ _; omega)
 have ha2 : ∀ w : World, (Op.stringOp .add (name ++ { data := #[32] }) ds).run Tryz.prog w = .ok (.string (name ++ { data := #[32] } ++ ds)) w := fun w => run_string_add_sum w _ _ (by rw [ByteArray.size_append]; show name.size + 1 + ds.size ≤ _; omega)
 go_enter Tryz.func38, Tryz.ntmps38
 go_wp2_with fail
 refine HF1.out.mono ?_
 rintro e w1 ⟨rfl, rfl⟩
 go_wp2_with fail
 refine HF2.out.mono ?_
 rintro e w2 ⟨rfl, rfl⟩
 have HD0 : Hid (Below w2.heap.size w2 w2) := Below.refl _ _
 have HD1 : Hid (Below w2.heap.size w2 w2.drew) := (Below.refl _ _).drew
 go_upto_region 7 with fail
 go_cut [12] (fun s12 wc => s12 = .int .i64 (re : Int) ∧ Hid (Below w2.heap.size w2 wc))
 case first =>
  go_region_held3 (fun w' => w'.cell? ⟨rb, 2, none⟩ = some (.int .i64 t) ∧ w'.cell? ⟨rb, 4, none⟩ = some (.pointer (some ⟨bb, 0, none⟩)) ∧ w'.cell? ⟨bb, 0, none⟩ = some (.slice (some ⟨g, 0, none⟩) m cap) ∧ w'.cell? ⟨g, kp * 4 + 1, none⟩ = some (.int .i64 pk)) (first | go_keep | assumption)
   (first
    | (go_at_call 25; refine (HDec.out _).mono ?_; rintro e w4 ⟨rfl, hb⟩; have HB4 := hide (HD1.out.trans (hb.mono HD1.out.size)); have j2 := (HW.out _ HB4.out).1; have j4 := (HW.out _ HB4.out).2.2.1; have j0 := (HW.out _ HB4.out).2.2.2.1; have j1 := (HW.out _ HB4.out).2.2.2.2; clear hb HDec)
    | (go_at_call 85; refine (HErr.out _).mono ?_; rintro e w5 ⟨rfl, rfl⟩))
  all_goals
   go_wp2_with fail
   go_meet
   exact ⟨rfl, HB4⟩
 case rest =>
  obtain ⟨rfl, HB⟩ := hcut
  obtain ⟨j2, j3, j4, j0, j1⟩ := HW.out wc HB.out
  clear c2 c3 c4 k0 p1 p2 p3 s3 HW HDec HErr HF1 HF2 HD0 HD1
  by_cases hre : re = 0
  ·
   subst hre
   have hr2 : res = 2 := by rw [← HRes.out]; rfl
   subst hr2
   have ht := HNe.out.resolve_left (fun e => e rfl)
   by_cases ht1 : 1000000 ≤ t
   ·
    clear ht
    go_wp2
    go_ret2
    exact ⟨rfl, HB.out⟩
   ·
    have ht2 := ht.resolve_left ht1
    clear ht
    go_wp2
    go_ret2
    exact ⟨rfl, HB.out⟩
  ·
   have hr2 : res = re := by rw [← HRes.out, if_neg hre]
   subst hr2
   clear HRes HNe
   have hz : (0 : Int) < (res : Int) := by omega
   go_wp2
   go_ret2
   exact ⟨rfl, HB.out⟩
end Go.Proofs.YtabpnjchocgakaaGreatDoor

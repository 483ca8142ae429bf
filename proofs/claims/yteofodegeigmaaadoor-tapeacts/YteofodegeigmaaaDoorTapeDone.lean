/-
  What was appended is what is read, plainly; that a tape is there (the closed fact); what holds while a disk is written and its records are kept apart.
-/
import Derived.Test.YteofodegeigmaaaDoorTapeRead
namespace Go.Proofs.YteofodegeigmaaaDoor
open Go Go.RowKit Go.Extern.Stop Go.Stop Go.Extern Go.Proofs

theorem flat_len (L : List (List UInt8)) : L.length ≤ (L.flatMap recL).length := by
  induction L with
  | nil => simp
  | cons s l ih => rw [List.flatMap_cons, List.length_append, List.length_cons]; have := rec_pos s; omega
theorem done_read {b p : List UInt8} {L : List (List UInt8)} (hL : ∀ s ∈ L, s.length ≤ 4000) (hb : b = L.flatMap recL ++ p) (hp : oneR p = none) : readA b = L ∧ readN b = (L.flatMap recL).length := by
  have h := flat_len L
  have hr := read_recs L b.length p hL (by rw [hb, List.length_append]; omega) hp
  rw [← hb] at hr
  unfold readA readN
  rw [hr]
  refine ⟨rfl, ?_⟩
  show b.length - p.length = _
  rw [hb, List.length_append]
  omega
theorem Tp.holds.read {t : Tp} {L : List (List UInt8)} (h : t.holds L) : readA t.b = L ∧ t.recR.b = L.flatMap recL := by
  obtain ⟨h1, p, h2, h3, _⟩ := h
  obtain ⟨h4, h5⟩ := done_read h1 h2 h3
  refine ⟨h4, ?_⟩
  show t.b.take (readN t.b) = _
  rw [h5, h2]
  exact List.take_left
theorem one_more {L : List (List UInt8)} {s : List UInt8} (hL : ∀ s ∈ L, s.length ≤ 4000) (hs : s.length ≤ 4000) : readA (L.flatMap recL ++ recL s) = L ++ [s] ∧ readN (L.flatMap recL ++ recL s) = (L.flatMap recL ++ recL s).length := by
  have e : L.flatMap recL ++ recL s = (L ++ [s]).flatMap recL ++ [] := by simp
  have h := done_read (b := L.flatMap recL ++ recL s) (L := L ++ [s]) (p := []) (fun x hx => by
    rcases List.mem_append.1 hx with g | g
    · exact hL x g
    · rw [List.mem_singleton.1 g]; exact hs) e rfl
  refine ⟨h.1, ?_⟩
  rw [h.2, e]
  simp
theorem app_len (t : Tp) (s : List UInt8) : (t.appR s).b.length ≤ t.b.length + (recL s).length := by
  unfold Tp.appR
  split
  · omega
  · split
    · show (t.b ++ _).length ≤ _
      rw [List.length_append, List.length_take]
      omega
    · show (t.b ++ _).length ≤ _
      rw [List.length_append]
      omega
theorem rec_small {s : List UInt8} (h : s.length ≤ 200) : (recL s).length ≤ 213 := by
  rw [rec_len]
  have := (Sl.numOk_iff _).1 (Sl.dec_ok s.length (by omega))
  rw [Lib.decDigits_length] at this
  omega
/-- What is appended with no error, where there is room and power. -/
theorem app_ok {t : Tp} {s : List UInt8} (h1 : s.length ≤ 200) (h2 : t.b.length ≤ 200000) (h3 : t.off = false) (h4 : t.cut < 0) : t.appC s = 0 ∧ t.appR s = ⟨t.b ++ recL s, false, t.cut⟩ := by
  have hr := rec_small h1
  unfold Tp.appC Tp.appR
  rw [if_neg (by omega), if_neg (by omega), h3, if_neg (by decide), if_neg (by omega), if_neg (show ¬ (4000 < s.length ∨ 262144 < t.b.length + (recL s).length ∨ false = true) by rintro (h | h | h) <;> first | omega | cases h), if_neg (by omega), if_neg (by omega)]
  exact ⟨rfl, rfl⟩
theorem words_tag {w : World} {B : Nat} {v : Value} {n : Nat} {cs : List Value} (h : w.ownsRow B 9 1 v n cs) {g : Nat} (hg : v.ownBlock = some g) : ∃ c, w.heap[g]? = some (.cells c 9 (0, 0)) := by
  rcases h.2 with ⟨rfl, _⟩ | ⟨g', cap, cur, rfl, _, hb, _⟩
  · cases hg
  · simp only [Value.ownBlock, Option.some.injEq] at hg
    subst hg
    exact ⟨cur, hb⟩
theorem words_ne {w : World} {B : Nat} {v : Value} {n : Nat} {cs : List Value} (h : w.ownsRow B 9 1 v n cs) {g : Nat} (hg : v.ownBlock = some g) {c : Array Value} {T : TypeId} {fr : Nat × Nat} {k : Nat} (hk : w.heap[k]? = some (.cells c T fr)) (hT : T ≠ 9) : g ≠ k := by
  rintro rfl
  obtain ⟨c', hc'⟩ := words_tag h hg
  rw [hk] at hc'
  exact hT (Obj.cells.inj (Option.some.inj hc')).2.1
theorem own_block {w : World} {B : Nat} {v : Value} {l : List UInt8} (h : OwnY w B v l) {g : Nat} (hg : v.ownBlock = some g) : ∃ c fr, w.heap[g]? = some (.cells c 5 fr) := by
  obtain ⟨g', cap, cur, fz, rfl, _, hb, _⟩ := h
  simp only [Value.ownBlock, Option.some.injEq] at hg
  subst hg
  exact ⟨cur, fz, hb⟩
theorem DPost.low {W w w' : World} {d : Nat} {v : Value} {t t' : Tp} (hp : DPost w W.heap.size d v t' w') (hW : Below W.heap.size W w) (hd : W.heap.size ≤ d) (hv : DiskAt w W.heap.size d v t) : Below W.heap.size W w' := by
  obtain ⟨v', h1, h2⟩ := hp
  refine below_kept hW h2 (Nat.le_refl _) fun j hj => ?_
  rcases hj with rfl | hj
  · exact hd
  · exact (hv.own.lt j hj).1
/-- A disk, and records that are kept beside it. -/
structure TcSt (W : World) (d : Nat) (v8 : Value) (t : Tp) (L : List (List UInt8)) (w : World) : Prop where
  disk : ∃ v, DiskAt w W.heap.size d v t
  words : w.ownsRow W.heap.size 9 1 v8 L.length (cellsT (L.map txt))
  below : Below W.heap.size W w
theorem TcSt.less {W : World} {d : Nat} {v8 : Value} {t : Tp} {L : List (List UInt8)} {w w' : World} (h : TcSt W d v8 t L w) (hb : Below w.heap.size w w') : TcSt W d v8 t L w' := by
  obtain ⟨v, hd⟩ := h.disk
  exact ⟨⟨v, hd.below hb⟩, words_kept h.words fun g hg => hb.block g (h.words.lt g hg).2, h.below.trans (hb.mono h.below.size)⟩
theorem TcSt.acted {W : World} {d : Nat} {v v8 : Value} {t t' : Tp} {L : List (List UInt8)} {w w' : World} (h : TcSt W d v8 t L w) (hd : W.heap.size ≤ d) (hv : DiskAt w W.heap.size d v t) (hp : DPost w W.heap.size d v t' w') : TcSt W d v8 t' L w' := by
  obtain ⟨v', h1, h2⟩ := hp
  refine ⟨⟨v', h1⟩, words_kept h.words fun g hg => h2.block g (h.words.lt g hg).2 ?_, below_kept h.below h2 (Nat.le_refl _) fun j hj => ?_⟩
  · rintro (e | e)
    · exact words_ne h.words hg hv.row (by decide) e
    · obtain ⟨c, fr, hc⟩ := own_block hv.own e
      exact words_ne h.words hg hc (by decide) rfl
  · rcases hj with rfl | hj
    · exact hd
    · exact (hv.own.lt j hj).1
theorem TcSt.push {W : World} {d : Nat} {v8 v8' : Value} {t : Tp} {L : List (List UInt8)} {x : ByteArray} {w w1 w' : World} (h : TcSt W d v8 t L w) (hb : Below w.heap.size w w1)
    (hown : w'.ownsRow W.heap.size 9 1 v8' (L.length + 1) (cellsT (L.map txt) ++ [.string x])) (hg : w1.grownBy w' v8.ownBlock) : TcSt W d v8' t (L ++ [x.data.toList]) w' := by
  have h1 := h.less hb
  obtain ⟨v, hd⟩ := h1.disk
  have hne : ∀ k (c : Array Value) (T : TypeId) fr, w1.heap[k]? = some (.cells c T fr) → T ≠ 9 → some k ≠ v8.ownBlock := fun k c T fr hk hT e => words_ne h1.words e.symm hk hT rfl
  refine ⟨⟨v, ⟨(hg.block d (row_lt hd.row) (hne _ _ _ _ hd.row (by decide))).trans hd.row, hd.own.keep fun g e => ?_⟩⟩, ?_, h1.below.grown hg h1.below.size fun k hk => (h1.words.lt k hk).1⟩
  · obtain ⟨c, fr, hc⟩ := own_block hd.own e
    exact hg.block g (row_lt hc) (hne _ _ _ _ hc (by decide))
  · rw [cellsTx_snoc] at hown
    rw [List.length_append]
    exact hown
theorem TcSt.wordsAt {W : World} {d : Nat} {v8 : Value} {t : Tp} {L : List (List UInt8)} {w : World} (h : TcSt W d v8 t L w) : WordsAt w v8 (L.map txt) := words_own (by rw [List.length_map]; exact h.words)
theorem abT : recL [97, 32, 98] = [51, 58, 97, 32, 98, 10, 46] := by kernel_rfl
set_option maxRecDepth 100000 in
set_option maxHeartbeats 2000000 in
theorem taped_any (a : Nat → Addr) (W : World) (hE : EV tpS a W) (hT : Tab10 W) :
    Calls Tryd.prog 5 #[] W fun e w' => e = .returned (.bool true) ∧ Below W.heap.size W w' := by
  have HN := hide (newDisk_any ⟨#[]⟩ W (by decide))
  have HE := hide hE
  have HT := hide hT
  obtain ⟨k1, k2⟩ := app_ok (t := ⟨[], false, -1⟩) (s := [97, 32, 98]) (by decide) (by decide) rfl (by decide)
  have HK := hide (And.intro k1 k2)
  have HM := hide (one_more (L := []) (s := [97, 32, 98]) (fun x hx => by cases hx) (by decide))
  clear k1 k2 hE hT
  go_enter Tryd.func5, Tryd.ntmps5
  go_wp2_with fail
  refine HN.out.mono ?_
  rintro e w1 ⟨d, v, rfl, hd, hD, hb⟩
  have HD0 := hide hd
  have HA := hide (append_any a W d v ⟨[], false, -1⟩ ⟨#[97, 32, 98]⟩ w1 HE.out HT.out hb hd hD ⟨by decide, by decide, by decide⟩)
  have HD := hide hD
  have HB1 := hide hb
  clear hD hb hd
  go_wp2_with fail
  refine HA.out.mono ?_
  rintro e w2 ⟨rfl, hP⟩
  change DPost _ _ _ _ (Tp.appR ⟨[], false, -1⟩ [97, 32, 98]) w2 at hP
  rw [HK.out.2] at hP
  have hc : Tp.appC ⟨[], false, -1⟩ (ByteArray.data ⟨#[97, 32, 98]⟩).toList = 0 := HK.out.1
  rw [hc, show errV a 0 = .nilIface from rfl]
  have HW2 := hide (hP.low HB1.out HD0.out HD.out)
  obtain ⟨v2, hD2, _⟩ := hP
  have HD2 := hide hD2
  have HR := hide (recover_any W d v2 ⟨[] ++ recL [97, 32, 98], false, -1⟩ w2 HT.out HW2.out HD0.out hD2 ⟨by rw [abT]; decide, by decide, by decide⟩)
  clear hc hD2 HA HN HD HB1
  go_wp2_with fail
  refine HR.out.mono ?_
  rintro e w3 ⟨x, rfl, hx, hP⟩
  have HW3 := hide (hP.low HW2.out HD0.out HD2.out)
  obtain ⟨v3, hD3, _⟩ := hP
  have hb3 : (Tp.recR ⟨[] ++ recL [97, 32, 98], false, -1⟩).b = [51, 58, 97, 32, 98, 10, 46] := by
    show ([] ++ recL [97, 32, 98]).take (readN ([] ++ recL [97, 32, 98])) = _
    have h := HM.out.2
    change readN ([] ++ recL [97, 32, 98]) = ([] ++ recL [97, 32, 98]).length at h
    rw [h, List.take_length, abT]
    rfl
  have hA1 : readA ([] ++ recL [97, 32, 98]) = [[97, 32, 98]] := HM.out.1
  have hx' : w3.ownsRow w2.heap.size 9 1 x (readA ([] ++ recL [97, 32, 98])).length (cellsT ((readA ([] ++ recL [97, 32, 98])).map txt)) := hx
  rw [hA1] at hx'
  have HX : Hid (WordsAt w3 x [⟨#[97, 32, 98]⟩]) := words_own hx'
  have HB3 : Hid (Below w3.heap.size w3 (w3.alloc (.cells #[.string ⟨#[97, 32, 98]⟩] 9))) := (Below.refl _ _).alloc (Nat.le_refl _) _
  have HY : Hid (WordsAt (w3.alloc (.cells #[.string ⟨#[97, 32, 98]⟩] 9)) (.slice (some ⟨w3.heap.size, 0, none⟩) 1 1) [⟨#[97, 32, 98]⟩]) := ⟨_, 1, rfl, Nat.le_refl _, Or.inr ⟨_, 0, rfl, fun j hj => by
    have : j = 0 := by simp at hj; exact hj
    subst this
    exact cell_of_row _ _ 0 _ _ _ (heap_alloc_new w3 _)⟩⟩
  have HS := hide (sameT_any [⟨#[97, 32, 98]⟩] x _ _ (by decide) (HX.out.below HB3.out) HY.out)
  have HD3 := hide hD3
  have HD4 := hide (fun w' (h : Below w3.heap.size w3 w') => bytesD_any W.heap.size d v3 _ w' (hD3.below h))
  rw [hb3] at HD4
  clear hb3 hA1 hx' hx hD3 HR HD2 HX HY HM HK
  go_wp2_with fail
  refine HS.out.mono ?_
  rintro e w5 ⟨rfl, hb⟩
  have HB5 : Hid (Below w3.heap.size w3 w5) := HB3.out.trans (hb.mono HB3.out.size)
  clear hb HS HB3
  go_wp2_with fail
  refine (HD4.out w5 HB5.out).mono ?_
  rintro e w6 ⟨rfl, rfl⟩
  go_wp2
  go_ret
  exact ⟨by first | rfl | simp, HW3.out.trans (HB5.out.mono HW3.out.size)⟩
end Go.Proofs.YteofodegeigmaaaDoor

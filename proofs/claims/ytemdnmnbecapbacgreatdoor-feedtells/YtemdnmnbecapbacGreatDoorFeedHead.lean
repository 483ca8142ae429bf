/-
  What package feed's words, read and Open give: a head's words; of words the head, or ErrText; of a text the head, or an error; for every text.
-/
import Derived.Test.YtemdnmnbecapbacGreatDoorFeedMem
import Derived.Test.YtemdnmnbecapbacGreatDoorSealMake
import Derived.Test.YtemdnmnbecapbacGreatDoorFeedPackA
import Derived.Deep.RegionHeld3
namespace Go.Proofs.YtemdnmnbecapbacGreatDoor
open Go.RowKit Go.Extern.Stop Go.Stop Go.Extern Go.Proofs

/-- A head, its value and its block. -/
structure Hd where
  n : Int
  t : Int
  s : Int
def Hd.val (h : Hd) : Value := .agg #[.int .i64 h.n, .int .i64 h.t, .int .i64 h.s]
def hd0 : Hd := ⟨0, 0, 0⟩
abbrev hdO (h : Hd) : Obj := .cells #[.int .i64 h.n, .int .i64 h.t, .int .i64 h.s] 36 (0, 0)
/-- What feed reads of the world. -/
structure EnvF (a : Nat → Addr) (w : World) : Prop where
  errs : EV fdS a w
  len : ∃ m, w.cell? ⟨17, 0, none⟩ = some (.int .i64 m)
  tab : Tab10 w
theorem EnvF.e {a : Nat → Addr} {w : World} (h : EnvF a w) : EnvE a w := ⟨h.errs.sl, h.len, h.tab⟩
theorem EnvF.below {a : Nat → Addr} {w w' : World} (h : EnvF a w) (hb : Below w.heap.size w w') : EnvF a w' := ⟨h.errs.below hb, (h.e.below hb).len, (h.e.below hb).tab⟩
theorem texts4 (w : World) (x0 x1 x2 x3 : ByteArray) : Texts (w.alloc (.cells #[.string x0, .string x1, .string x2, .string x3] 9)) w.heap.size 0 [x0, x1, x2, x3] := fun j hj => by
  match j, hj with
  | 0, _ => simp
  | 1, _ => simp
  | 2, _ => simp
  | 3, _ => simp

set_option maxRecDepth 100000 in
set_option maxHeartbeats 4000000 in
theorem fdWords_any (n t s : Int) (w : World) (h : Tab10 w) (hn : 0 ≤ n ∧ n ≤ 1073741824) (ht : 0 ≤ t ∧ t ≤ 1073741824) (hs : 0 ≤ s ∧ s ≤ 1073741824) :
    Calls Tryz.prog 33 #[.agg #[.int .i64 n, .int .i64 t, .int .i64 s]] w fun e w' => ∃ b, Texts w' b 0 ((headW n t s).map Sl.ofL) ∧ e = .returned (.slice (some ⟨b, 0, none⟩) 4 4) ∧ Below w.heap.size w w' := by
  have H1 := hide (fun w h => itoa_fl n w h hn.1 hn.2)
  have H2 := hide (fun w h => itoa_fl t w h ht.1 ht.2)
  have H3 := hide (fun w h => itoa_fl s w h hs.1 hs.2)
  have HB0 : Hid (Below w.heap.size w (w.alloc (hdO ⟨n, t, s⟩))) := (Below.refl _ w).alloc (Nat.le_refl _) _
  have HR0 : Hid ((w.alloc (hdO ⟨n, t, s⟩)).heap[w.heap.size]? = some (hdO ⟨n, t, s⟩)) := heap_alloc_new _ _
  have HE := hide (tab_below h HB0.out)
  have HW : Hid ((headW n t s).map Sl.ofL = [Sl.ofL headL, txt (Lib.decDigits n.toNat), txt (Lib.decDigits t.toNat), txt (Lib.decDigits s.toNat)]) := rfl
  rw [HW.out]
  clear h hn ht hs HW
  generalize txt (Lib.decDigits n.toNat) = s1 at *
  generalize txt (Lib.decDigits t.toNat) = s2 at *
  generalize txt (Lib.decDigits s.toNat) = s3 at *
  have HC : Hid (∀ W, Below (w.alloc (hdO ⟨n, t, s⟩)).heap.size (w.alloc (hdO ⟨n, t, s⟩)) W → W.cell? ⟨w.heap.size, 0, none⟩ = some (.int .i64 n) ∧ W.cell? ⟨w.heap.size, 1, none⟩ = some (.int .i64 t) ∧ W.cell? ⟨w.heap.size, 2, none⟩ = some (.int .i64 s)) := fun W hb => by
    have h := row_cells ((hb.block w.heap.size (by simp)).trans HR0.out)
    exact ⟨h.1, h.2.1, h.2.2.1⟩
  go_enter Tryz.func33, Tryz.ntmps33
  go_wp2_with fail
  generalize hW0 : w.alloc (.cells #[.int .i64 n, .int .i64 t, .int .i64 s] 36) = W0 at *
  have Hd : Hid (Below W0.heap.size W0 W0.drew) := (Below.refl _ _).drew
  obtain ⟨z0, z1, z2⟩ := HC.out W0 (Below.refl _ _)
  clear hW0 HR0
  go_region_held3 (fun w' => w'.cell? ⟨w.heap.size, 0, none⟩ = some (.int .i64 n) ∧ w'.cell? ⟨w.heap.size, 1, none⟩ = some (.int .i64 t) ∧ w'.cell? ⟨w.heap.size, 2, none⟩ = some (.int .i64 s)) (first | go_keep | assumption)
    (first
      | (go_at_call 61; refine (H1.out _ (tab_below HE.out Hd.out)).mono ?_; rintro e w1 ⟨rfl, hb⟩; have HP1 : Hid (Below W0.heap.size W0 w1) := Hd.out.trans (hb.mono Hd.out.size); have hc1 := HC.out _ HP1.out; clear hb)
      | (go_at_call 61; refine (H2.out _ (tab_below HE.out HP1.out)).mono ?_; rintro e w2 ⟨rfl, hb⟩; have HP2 : Hid (Below W0.heap.size W0 w2) := HP1.out.trans (hb.mono HP1.out.size); have hc2 := HC.out _ HP2.out; clear hb)
      | (go_at_call 61; refine (H3.out _ (tab_below HE.out HP2.out)).mono ?_; rintro e w3 ⟨rfl, hb⟩; have HP3 : Hid (Below W0.heap.size W0 w3) := HP2.out.trans (hb.mono HP2.out.size); have hc3 := HC.out _ HP3.out; clear hb))
  have HP5 := hide ((HB0.out.trans (HP3.out.mono HB0.out.size)).alloc (HB0.out.trans (HP3.out.mono HB0.out.size)).size (.cells #[.string ⟨#[104, 101, 97, 100]⟩, .string s1, .string s2, .string s3] 9))
  clear hc1 hc2 hc3 HP1 HP2 HP3 HC HE HB0 Hd z0 z1 z2 H1 H2 H3
  go_wp2
  go_ret
  exact ⟨w3.heap.size, texts4 w3 _ _ _ _, rfl, HP5.out⟩

/-- The end of a function whose first result is a head in a block of its own. -/
theorem hdEnd {fn : Func} {p u : Tmp} (hr : fn.results = #[.cell p 36, .tmp u]) {a : Act} {w : World} {R : Ending → World → Prop} (g : Nat) (t : Hd) (hp : a.tmps.getD p undef = .pointer (some ⟨g, 0, none⟩)) (hg : w.heap[g]? = some (hdO t)) (hd : a.defers = [])
    (hR : R (.returned (.tuple #[t.val, a.tmps.getD u undef])) w) : bodyPost Tryz.prog fn R .ret a w :=
  bodyPost_ret (results_row_tmp hr a.tmps w g _ _ (0, 0) _ hp hg Tryz.underlying36 rfl (by kernel_rfl)) hd hR
theorem below_set3 {n : Nat} {w0 w : World} {g : Nat} (h : Below n w0 w) (hg : n ≤ g) (a b c : Value) :
    Below n w0 (((w.setCell ⟨g, 0, none⟩ a).setCell ⟨g, 1, none⟩ b).setCell ⟨g, 2, none⟩ c) := ((h.setCell hg _).setCell hg _).setCell hg _
theorem drewHeap (w : World) : w.drew.heap = w.heap := rfl

/-- The greatest numbers of a head's words. -/
def mostH (k : Nat) : Int := [60, 1000000, 1000000006].getD k 0
/-- Are words those of a head? And what they tell. -/
def hdOk (ws : List (List UInt8)) : Bool := decide (ws.length = 4) && decide (ws.getD 0 [] = headL) && (numB (ws.getD 1 []) 60 && numB (ws.getD 2 []) 1000000 && numB (ws.getD 3 []) 1000000006)
def hdC (ws : List (List UInt8)) : Nat := if hdOk ws = true then 0 else 1
def hdR (ws : List (List UInt8)) : Hd := if hdOk ws = true then ⟨Sl.valL (ws.getD 1 []), Sl.valL (ws.getD 2 []), Sl.valL (ws.getD 3 [])⟩ else hd0
theorem hd_no {ws : List (List UInt8)} (h : hdOk ws = false) : hdC ws = 1 ∧ hdR ws = hd0 := by
  unfold hdC hdR
  rw [h]
  exact ⟨rfl, rfl⟩
theorem hd_made (n t s : Int) (hn : 0 ≤ n ∧ n ≤ 60) (ht : 0 ≤ t ∧ t ≤ 1000000) (hs : 0 ≤ s ∧ s ≤ 1000000006) : hdC (headW n t s) = 0 ∧ hdR (headW n t s) = ⟨n, t, s⟩ := by
  have hk : ∀ (x m : Int), 0 ≤ x → x ≤ m → m ≤ 1000000006 → numB (Lib.decDigits x.toNat) m = true := fun x m h1 h2 h3 => by
    unfold numB
    rw [Sl.dec_ok x.toNat (by omega), Sl.dec_val, decide_eq_true (by omega)]
    rfl
  have h0 : hdOk (headW n t s) = true := by
    show (true && true && (numB (Lib.decDigits n.toNat) 60 && numB (Lib.decDigits t.toNat) 1000000 && numB (Lib.decDigits s.toNat) 1000000006)) = true
    rw [hk n 60 hn.1 hn.2 (by decide), hk t 1000000 ht.1 ht.2 (by decide), hk s 1000000006 hs.1 hs.2 (by decide)]
    rfl
  unfold hdC hdR
  rw [h0]
  refine ⟨rfl, ?_⟩
  show Hd.mk (Sl.valL (Lib.decDigits n.toNat)) (Sl.valL (Lib.decDigits t.toNat)) (Sl.valL (Lib.decDigits s.toNat)) = _
  rw [Sl.dec_val, Sl.dec_val, Sl.dec_val, Int.toNat_of_nonneg hn.1, Int.toNat_of_nonneg ht.1, Int.toNat_of_nonneg hs.1]

set_option maxRecDepth 100000 in
set_option maxHeartbeats 2000000 in
theorem hdRead_len (a : Nat → Addr) (ad : Option Addr) (n c : Nat) (w : World) (h : EnvF a w) (hn : n ≠ 4) :
    Calls Tryz.prog 35 #[.slice ad n c] w fun e w' => e = .returned (.tuple #[hd0.val, eV (a 0)]) ∧ Below w.heap.size w w' := by
  have hv := h.errs.later 0 (by decide) rfl
  simp only [errG, List.getD_cons_zero] at hv
  have hn2 : ((n : Int) != 4) = true := by rw [bne_iff_ne]; omega
  clear h hn
  go_enter Tryz.func35, Tryz.ntmps35
  go_wp2
  go_region
  go_wp2
  refine hdEnd rfl w.heap.size hd0 rfl (heap_alloc_new _ _) rfl ?_
  exact ⟨rfl, ((Below.refl _ w).alloc (Nat.le_refl _) _).drew⟩

set_option maxRecDepth 100000 in
set_option maxHeartbeats 2000000 in
theorem hdRead_kind (a : Nat → Addr) (b o c : Nat) (x0 : ByteArray) (w : World) (h : EnvF a w) (hx : w.cell? ⟨b, o, none⟩ = some (.string x0)) (hk : x0.data.toList ≠ headL) :
    Calls Tryz.prog 35 #[.slice (some ⟨b, o, none⟩) 4 c] w fun e w' => e = .returned (.tuple #[hd0.val, eV (a 0)]) ∧ Below w.heap.size w w' := by
  have hv := h.errs.later 0 (by decide) rfl
  simp only [errG, List.getD_cons_zero] at hv
  have hx2 : ∀ O, (w.alloc O).cell? ⟨b, o, none⟩ = some (.string x0) := fun O => by
    rw [((Below.refl w.heap.size w).alloc (Nat.le_refl _) O).cell (p := ⟨b, o, none⟩) (cell_lt hx)]; exact hx
  have hq : (x0.toList == [104, 101, 97, 100]) = false := by
    rw [beq_eq_false_iff_ne, Go.ByteArray.toList_eq]
    exact hk
  clear h hk hx
  go_enter Tryz.func35, Tryz.ntmps35
  go_wp2
  go_region
  go_wp2
  refine hdEnd rfl w.heap.size hd0 rfl (heap_alloc_new _ _) rfl ?_
  exact ⟨rfl, ((Below.refl _ w).alloc (Nat.le_refl _) _).drew⟩

/-- The block of read's three numbers, k of them laid. -/
def num3 (ys : List ByteArray) (k j : Nat) : Value := .int .i64 (if j < k then (Sl.valL (ys.getD j ⟨#[]⟩).data.toList : Int) else 0)
def arr3 (ys : List ByteArray) (k : Nat) : Array Value := #[num3 ys k 0, num3 ys k 1, num3 ys k 2]
theorem arr3_3 (y0 y1 y2 : ByteArray) : arr3 [y0, y1, y2] 3 = #[.int .i64 (Sl.valL y0.data.toList), .int .i64 (Sl.valL y1.data.toList), .int .i64 (Sl.valL y2.data.toList)] := rfl
theorem arr3_set (y0 y1 y2 : ByteArray) (k : Nat) (hk : k < 3) (v : Int) (hv : v = (Sl.valL ([y0, y1, y2].getD k ⟨#[]⟩).data.toList : Int)) : (arr3 [y0, y1, y2] k).setIfInBounds k (.int .i64 v) = arr3 [y0, y1, y2] (k + 1) := by
  subst hv
  match k, hk with
  | 0, _ => rfl
  | 1, _ => rfl
  | 2, _ => rfl

set_option maxRecDepth 100000 in
set_option maxHeartbeats 8000000 in
theorem hdRead_nums (a : Nat → Addr) (b o c : Nat) (x0 x1 x2 x3 : ByteArray) (w : World) (h : EnvF a w) (hc : 4 ≤ c) (hx : Texts w b o [x0, x1, x2, x3]) (hk : x0.data.toList = headL) (hs : ∀ x ∈ [x0, x1, x2, x3], x.size ≤ maxLen)
    (r : Hd) (rv : Value) (hbad : ∀ k, k < 3 → numB ([x1, x2, x3].getD k ⟨#[]⟩).data.toList (mostH k) = false → r = hd0 ∧ rv = eV (a 0))
    (hgood : (∀ k, k < 3 → numB ([x1, x2, x3].getD k ⟨#[]⟩).data.toList (mostH k) = true) → r = ⟨Sl.valL x1.data.toList, Sl.valL x2.data.toList, Sl.valL x3.data.toList⟩ ∧ rv = .nilIface) :
    Calls Tryz.prog 35 #[.slice (some ⟨b, o, none⟩) 4 c] w fun e w' => e = .returned (.tuple #[r.val, rv]) ∧ Below w.heap.size w w' := by
  have hx0 : w.cell? ⟨b, o, none⟩ = some (.string x0) := hx 0 (by simp)
  have hx2 : ∀ O, (w.alloc O).cell? ⟨b, o, none⟩ = some (.string x0) := fun O => by
    rw [((Below.refl w.heap.size w).alloc (Nat.le_refl _) O).cell (p := ⟨b, o, none⟩) (cell_lt hx0)]; exact hx0
  have hq : (x0.toList == [104, 101, 97, 100]) = true := by
    rw [beq_iff_eq, Go.ByteArray.toList_eq]
    exact hk
  have HX := hide hx
  have HS := hide hs
  have HE := hide h
  have HBad := hide hbad
  have HGood := hide hgood
  have HBl : Hid (b < w.heap.size) := hx.lt (by simp)
  have HG : Hid (5 < w.heap.size) := by
    have := h.errs.var 0 (by decide) rfl
    exact cell_lt this
  clear h hk hx hx0 hs hbad hgood
  go_enter Tryz.func35, Tryz.ntmps35
  go_wp2
  have HB0 : Hid (Below w.heap.size w (((w.alloc (hdO hd0)).alloc (.cells #[.int .i64 60, .int .i64 1000000, .int .i64 1000000006] 109)).alloc (.cells (arr3 [x1, x2, x3] 0) 109))) := (((Below.refl _ w).alloc (Nat.le_refl _) _).alloc (by simp) _).alloc (by simp; omega) _
  have HR0 : Hid ((((w.alloc (hdO hd0)).alloc (.cells #[.int .i64 60, .int .i64 1000000, .int .i64 1000000006] 109)).alloc (.cells (arr3 [x1, x2, x3] 0) 109)).heap[w.heap.size]? = some (hdO hd0)) := (heap_alloc_old _ _ (by simp; omega)).trans ((heap_alloc_old _ _ (by simp)).trans (heap_alloc_new _ _))
  have HR1 : Hid ((((w.alloc (hdO hd0)).alloc (.cells #[.int .i64 60, .int .i64 1000000, .int .i64 1000000006] 109)).alloc (.cells (arr3 [x1, x2, x3] 0) 109)).heap[w.heap.size + 1]? = some (.cells #[.int .i64 60, .int .i64 1000000, .int .i64 1000000006] 109 (0, 0))) := by
    refine (heap_alloc_old _ _ (by simp)).trans ?_
    have := heap_alloc_new (w.alloc (hdO hd0)) (.cells #[.int .i64 60, .int .i64 1000000, .int .i64 1000000006] 109)
    rw [show (w.alloc (hdO hd0)).heap.size = w.heap.size + 1 by simp] at this
    exact this
  have HR2 : Hid ((((w.alloc (hdO hd0)).alloc (.cells #[.int .i64 60, .int .i64 1000000, .int .i64 1000000006] 109)).alloc (.cells (arr3 [x1, x2, x3] 0) 109)).heap[w.heap.size + 2]? = some (.cells (arr3 [x1, x2, x3] 0) 109 (0, 0))) := by
    have := heap_alloc_new ((w.alloc (hdO hd0)).alloc (.cells #[.int .i64 60, .int .i64 1000000, .int .i64 1000000006] 109)) (.cells (arr3 [x1, x2, x3] 0) 109)
    rw [show ((w.alloc (hdO hd0)).alloc (.cells #[.int .i64 60, .int .i64 1000000, .int .i64 1000000006] 109)).heap.size = w.heap.size + 2 by simp] at this
    exact this
  clear hx2 hq
  go_loopg [6, 7, 8, 9, 25] 3 (fun gg _ _ _ _ s25 wr => ∃ k : Nat, k ≤ 3 ∧ 3 - k ≤ gg ∧ s25 = .int .i64 k ∧ Hid (Below w.heap.size w wr) ∧ Hid (wr.heap[w.heap.size]? = some (hdO hd0)) ∧ Hid (wr.heap[w.heap.size + 1]? = some (.cells #[.int .i64 60, .int .i64 1000000, .int .i64 1000000006] 109 (0, 0))) ∧ Hid (wr.heap[w.heap.size + 2]? = some (.cells (arr3 [x1, x2, x3] k) 109 (0, 0))) ∧ Hid (∀ j, j < k → numB ([x1, x2, x3].getD j ⟨#[]⟩).data.toList (mostH j) = true))
  case atStart => exact ⟨0, Nat.zero_le _, by omega, rfl, HB0, HR0, HR1, HR2, fun j hj => absurd hj (Nat.not_lt_zero _)⟩
  case round =>
    obtain ⟨k, hk, hg, rfl, HB, HT0, HT1, HT2, A⟩ := hrel
    by_cases hlt : k < 3
    · have hltz : (k : Int) < 3 := by omega
      have hk0 : (0 : Int) ≤ (k : Int) := by omega
      have hcell : wr.cell? ⟨b, o + 1 + k, none⟩ = some (.string ([x1, x2, x3].getD k ⟨#[]⟩)) := by
        rw [HB.out.cell (p := ⟨b, o + 1 + k, none⟩) HBl.out]
        have := HX.out (1 + k) (by simp; omega)
        rw [← Nat.add_assoc] at this
        rw [this]
        match k, hlt with
        | 0, _ => rfl
        | 1, _ => rfl
        | 2, _ => rfl
      have hmo : wr.cell? ⟨w.heap.size + 1, k, none⟩ = some (.int .i64 (mostH k)) := by
        rw [cell_of_row wr _ k _ _ _ HT1.out]
        match k, hlt with
        | 0, _ => rfl
        | 1, _ => rfl
        | 2, _ => rfl
      have hsz : ([x1, x2, x3].getD k ⟨#[]⟩).size ≤ maxLen := by
        refine HS.out _ ?_
        match k, hlt with
        | 0, _ => simp
        | 1, _ => simp
        | 2, _ => simp
      have HN := hide (number_any ([x1, x2, x3].getD k ⟨#[]⟩) (mostH k) wr hsz)
      have HBk := hide (HBad.out k hlt)
      have HAs : Hid (∀ v : Int, v = (Sl.valL ([x1, x2, x3].getD k ⟨#[]⟩).data.toList : Int) → (arr3 [x1, x2, x3] k).setIfInBounds k (.int .i64 v) = arr3 [x1, x2, x3] (k + 1)) := fun v hv => arr3_set x1 x2 x3 k hlt v hv
      have hac : ∃ u, (arr3 [x1, x2, x3] k)[k]? = some u := by
        match k, hlt with
        | 0, _ => exact ⟨_, rfl⟩
        | 1, _ => exact ⟨_, rfl⟩
        | 2, _ => exact ⟨_, rfl⟩
      obtain ⟨u, hu⟩ := hac
      have HU := hide hu
      have HA2 := hide A.out
      generalize harr : arr3 [x1, x2, x3] k = cs at *
      clear harr hu
      cases hnk : numB ([x1, x2, x3].getD k ⟨#[]⟩).data.toList (mostH k) with
      | false =>
        obtain ⟨rfl, rfl⟩ := HBk.out hnk
        rw [hnk] at HN
        generalize numV ([x1, x2, x3].getD k ⟨#[]⟩).data.toList (mostH k) = nv at *
        generalize [x1, x2, x3].getD k ⟨#[]⟩ = y at *
        clear hnk HBk HAs HU hsz HA2 A HBad HGood
        generalize mostH k = mo at *
        go_wp2_with fail
        refine HN.out.mono ?_
        rintro e w1 ⟨rfl, hb⟩
        have HB1 : Hid (Below w.heap.size w w1) := HB.out.trans (hb.mono HB.out.size)
        have HT4 : Hid (w1.heap[w.heap.size]? = some (hdO hd0)) := by show _ = _; rw [hb.block _ (row_lt HT0.out)]; exact HT0.out
        have hv : w1.cell? ⟨5, 0, none⟩ = some (eV (a 0)) := (HE.out.below HB1.out).errs.var 0 (by decide) rfl
        clear hb HN HB HT0 HT1 HT2
        obtain ⟨hd0', hd1, hd2, hf0, hf1, hf2⟩ := row_cells HT4.out
        dsimp only [hd0] at hd0' hd1 hd2
        have hv2 : ∀ v, (w1.setCell ⟨w.heap.size, 0, none⟩ v).cell? ⟨5, 0, none⟩ = some (eV (a 0)) := fun v => by
          rw [World.cell?_setCell_other _ _ _ _ (fun e => by have := HG.out; have := (Addr.mk.inj e).1; omega)]; exact hv
        go_wp2
        go_region
        go_wp2
        refine hdEnd rfl w.heap.size hd0 rfl (by rw [drewHeap]; exact row_set3 HT4.out _ _ _) rfl ?_
        exact ⟨rfl, (below_set3 HB1.out (Nat.le_refl _) _ _ _).drew⟩
      | true =>
        rw [hnk, show numV ([x1, x2, x3].getD k ⟨#[]⟩).data.toList (mostH k) = (Sl.valL ([x1, x2, x3].getD k ⟨#[]⟩).data.toList : Int) from if_pos hnk] at HN
        have HNk := hide hnk
        have HAs2 := hide (HAs.out _ rfl)
        generalize hnv : (Sl.valL ([x1, x2, x3].getD k ⟨#[]⟩).data.toList : Int) = nv at *
        generalize hyy : [x1, x2, x3].getD k ⟨#[]⟩ = y at *
        have HY := hide hyy
        clear hnk HBk HAs hsz hnv hyy
        generalize hmm : mostH k = mo at *
        have HM := hide hmm
        clear hmm
        go_wp2_with fail
        refine HN.out.mono ?_
        rintro e w1 ⟨rfl, hb⟩
        have HB1 : Hid (Below w.heap.size w w1) := HB.out.trans (hb.mono HB.out.size)
        have HT4 : Hid (w1.heap[w.heap.size]? = some (hdO hd0)) := by show _ = _; rw [hb.block _ (row_lt HT0.out)]; exact HT0.out
        have HT5 : Hid (w1.heap[w.heap.size + 1]? = some (.cells #[.int .i64 60, .int .i64 1000000, .int .i64 1000000006] 109 (0, 0))) := by show _ = _; rw [hb.block _ (row_lt HT1.out)]; exact HT1.out
        have HT6 : Hid (w1.heap[w.heap.size + 2]? = some (.cells cs 109 (0, 0))) := by show _ = _; rw [hb.block _ (row_lt HT2.out)]; exact HT2.out
        have hc1 : w1.cell? ⟨w.heap.size + 2, k, none⟩ = some u := by rw [cell_of_row w1 _ k _ _ _ HT6.out]; exact HU.out
        have hf1 : w1.frozen? ⟨w.heap.size + 2, k, none⟩ = false := frozen_of_row w1 _ k _ _ HT6.out
        clear hb HN HB HT0 HT1 HT2
        go_wp2
        go_roundg (3 - (k + 1))
        case measure => omega
        case rel =>
          refine ⟨k + 1, by omega, by omega, by go_num, HB1.out.setCell (by simp; omega) _, ?_, ?_, ?_, (show Hid _ from fun j hj => ?_)⟩
          · show _ = _
            rw [heap_setCell_other _ _ _ _ (by first | (simp; done) | (simp; omega) | omega)]; exact HT4.out
          · show _ = _
            rw [heap_setCell_other _ _ _ _ (by first | (simp; done) | (simp; omega) | omega)]; exact HT5.out
          · show _ = _
            rw [heap_setCell_same w1 _ k _ _ _ HT6.out, HAs2.out]
          · by_cases e : j = k
            · subst e; rw [HY.out, HM.out]; exact HNk.out
            · exact HA2.out j (by omega)
    · have : k = 3 := by omega
      subst this
      have HRr := hide (HGood.out A.out)
      clear HBad HGood A
      rw [arr3_3] at HT2
      generalize (Sl.valL x1.data.toList : Int) = v1 at *
      generalize (Sl.valL x2.data.toList : Int) = v2 at *
      generalize (Sl.valL x3.data.toList : Int) = v3 at *
      obtain ⟨hn0, hn1, hn2, _⟩ := row_cells HT2.out
      obtain ⟨hd0', hd1, hd2, hf0, hf1, hf2⟩ := row_cells HT0.out
      dsimp only [hd0] at hd0' hd1 hd2
      clear HX HS HE HB0 HR0 HR1 HR2
      go_wp2
      refine hdEnd rfl w.heap.size ⟨v1, v2, v3⟩ rfl (row_set3 HT0.out _ _ _) rfl ?_
      exact ⟨by rw [HRr.out.1, HRr.out.2]; rfl, below_set3 HB.out (Nat.le_refl _) _ _ _⟩

theorem hdRead_any (a : Nat → Addr) (b o c : Nat) (xs : List ByteArray) (w : World) (h : EnvF a w) (hc : xs.length ≤ c) (hx : Texts w b o xs) (hs : ∀ x ∈ xs, x.size ≤ maxLen) :
    Calls Tryz.prog 35 #[.slice (some ⟨b, o, none⟩) xs.length c] w fun e w' => e = .returned (.tuple #[(hdR (xs.map (·.data.toList))).val, errV a (hdC (xs.map (·.data.toList)))]) ∧ Below w.heap.size w w' := by
  by_cases hn : xs.length = 4
  · obtain ⟨x0, x1, x2, x3, rfl⟩ : ∃ x0 x1 x2 x3, xs = [x0, x1, x2, x3] := by
      match xs, hn with
      | [x0, x1, x2, x3], _ => exact ⟨_, _, _, _, rfl⟩
    have hok : hdOk (([x0, x1, x2, x3] : List ByteArray).map (·.data.toList)) = (decide (x0.data.toList = headL) && (numB x1.data.toList 60 && numB x2.data.toList 1000000 && numB x3.data.toList 1000000006)) := rfl
    by_cases hk : x0.data.toList = headL
    · rw [decide_eq_true hk, Bool.true_and] at hok
      refine hdRead_nums a b o c x0 x1 x2 x3 w h hc hx hk hs _ _ (fun k hk3 hno => ?_) (fun hall => ?_)
      · have : hdOk (([x0, x1, x2, x3] : List ByteArray).map (·.data.toList)) = false := by
          rw [hok]
          match k, hk3 with
          | 0, _ => rw [show numB x1.data.toList 60 = false from hno]; rfl
          | 1, _ => rw [show numB x2.data.toList 1000000 = false from hno, Bool.and_false]; rfl
          | 2, _ => rw [show numB x3.data.toList 1000000006 = false from hno, Bool.and_false]
        obtain ⟨e1, e2⟩ := hd_no this
        rw [e1, e2]
        exact ⟨rfl, rfl⟩
      · have : hdOk (([x0, x1, x2, x3] : List ByteArray).map (·.data.toList)) = true := by
          rw [hok, show numB x1.data.toList 60 = true from hall 0 (by decide), show numB x2.data.toList 1000000 = true from hall 1 (by decide), show numB x3.data.toList 1000000006 = true from hall 2 (by decide)]
          rfl
        unfold hdR hdC
        rw [this]
        exact ⟨rfl, rfl⟩
    · rw [decide_eq_false hk, Bool.false_and] at hok
      obtain ⟨e1, e2⟩ := hd_no hok
      rw [e1, e2]
      exact hdRead_kind a b o c x0 w h (hx 0 (by simp)) hk
  · have hok : hdOk (xs.map (·.data.toList)) = false := by
      unfold hdOk
      rw [decide_eq_false (by rw [List.length_map]; exact hn)]
      rfl
    obtain ⟨e1, e2⟩ := hd_no hok
    rw [e1, e2]
    exact hdRead_len a _ xs.length c w h hn

/-- Of a text: the number of its error, and the head. -/
def openHC (key : Int) (l : List UInt8) : Nat := if Sl.openE key l = 0 then hdC (Sl.lookW l) else Sl.openE key l
def openHR (key : Int) (l : List UInt8) : Hd := if Sl.openE key l = 0 then hdR (Sl.lookW l) else hd0
theorem openE_le16 (key : Int) (l : List UInt8) : Sl.openE key l ≤ 16 := by
  unfold Sl.openE Sl.lookE
  repeat' split
  all_goals omega
theorem openHC_le (key : Int) (l : List UInt8) : openHC key l ≤ 16 := by
  unfold openHC hdC
  have := openE_le16 key l
  repeat' split
  all_goals omega
theorem open_made (key : Int) (hk : 1 ≤ key ∧ key ≤ 1000000006) (n t s : Int) (hn : 0 ≤ n ∧ n ≤ 60) (ht : 0 ≤ t ∧ t ≤ 1000000) (hs : 0 ≤ s ∧ s ≤ 1000000006) :
    openHC key (Sl.sealL key (headW n t s)) = 0 ∧ openHR key (Sl.sealL key (headW n t s)) = ⟨n, t, s⟩ := by
  obtain ⟨e1, _, _, e4, _⟩ := Sl.seal_look key hk (headW n t s) (headW_ok n t s (by omega) (by omega) (by omega))
  unfold openHC openHR
  rw [e4, if_pos rfl, if_pos rfl, e1]
  exact hd_made n t s hn ht hs

set_option maxRecDepth 100000 in
set_option maxHeartbeats 2000000 in
theorem fdOpen_any (a : Nat → Addr) (key : Int) (s : ByteArray) (w : World) (h : EnvF a w) :
    Calls Tryz.prog 10 #[.int .i64 key, .string s] w fun e w' => e = .returned (.tuple #[(openHR key s.data.toList).val, errV a (openHC key s.data.toList)]) ∧ Below w.heap.size w w' := by
  have HB0 : Hid (Below w.heap.size w (w.alloc (hdO hd0))) := (Below.refl _ w).alloc (Nat.le_refl _) _
  have HR0 : Hid ((w.alloc (hdO hd0)).heap[w.heap.size]? = some (hdO hd0)) := heap_alloc_new _ _
  have HO := hide (open_ev a key s _ (h.below HB0.out).e)
  have HE := hide h
  by_cases h0 : Sl.openE key s.data.toList = 0
  · rw [show openHC key s.data.toList = hdC (Sl.lookW s.data.toList) from if_pos h0, show openHR key s.data.toList = hdR (Sl.lookW s.data.toList) from if_pos h0]
    have hw := (Sl.wordsOk_iff _).1 (Sl.lookOk_words _ (Sl.lookE_ok _ (((Sl.openE_iff key _).1 h0).2.1)))
    have HRd := hide (fun b w h hx => hdRead_any a b 0 (Sl.lookW s.data.toList).length ((Sl.lookW s.data.toList).map Sl.ofL) w h (by rw [List.length_map]; exact Nat.le_refl _) hx (fun x hx => by
      obtain ⟨y, hy, rfl⟩ := List.mem_map.1 hx
      have := (Sl.word_len y (hw.2 y hy)).2
      rw [Sl.ofL_size]
      unfold maxLen; omega))
    have hmm : ((Sl.lookW s.data.toList).map Sl.ofL).map (·.data.toList) = Sl.lookW s.data.toList := by
      rw [List.map_map]
      conv => rhs; rw [← List.map_id (Sl.lookW s.data.toList)]
      exact List.map_congr_left fun l _ => rfl
    rw [hmm, List.length_map] at HRd
    rw [h0] at HO
    generalize hdR (Sl.lookW s.data.toList) = r at *
    generalize errV a (hdC (Sl.lookW s.data.toList)) = rv at *
    clear h h0 hmm hw
    generalize Sl.lookW s.data.toList = ws at *
    obtain ⟨rn, rt, rs⟩ := r
    unfold Hd.val at HRd ⊢
    dsimp only at *
    go_enter Tryz.func10, Tryz.ntmps10
    go_wp2_with fail
    refine HO.out.mono ?_
    rintro e w1 ⟨hb, hp⟩
    unfold WordsPost at hp
    rw [if_pos rfl] at hp
    obtain ⟨b, hx, rfl⟩ := hp
    have HB1 : Hid (Below w.heap.size w w1) := HB0.out.trans (hb.mono HB0.out.size)
    have HT1 : Hid (w1.heap[w.heap.size]? = some (hdO hd0)) := by show _ = _; rw [hb.block _ (by simp)]; exact HR0.out
    have HRd1 := hide (HRd.out b w1 (HE.out.below HB1.out) hx)
    clear hb hx HB0 HO HR0 HE HRd
    generalize ws.length = n at *
    go_wp2_with fail
    refine HRd1.out.mono ?_
    rintro e w2 ⟨rfl, hb⟩
    have HB2 : Hid (Below w.heap.size w w2) := HB1.out.trans (hb.mono HB1.out.size)
    have HT2 : Hid (w2.heap[w.heap.size]? = some (hdO hd0)) := by show _ = _; rw [hb.block _ (row_lt HT1.out)]; exact HT1.out
    clear hb HB1 HT1 HRd1
    obtain ⟨hd0', hd1, hd2, hf0, hf1, hf2⟩ := row_cells HT2.out
    dsimp only [hd0] at hd0' hd1 hd2
    go_wp2
    refine hdEnd rfl w.heap.size ⟨rn, rt, rs⟩ rfl (row_set3 HT2.out _ _ _) rfl ?_
    exact ⟨rfl, below_set3 HB2.out (Nat.le_refl _) _ _ _⟩
  · rw [show openHC key s.data.toList = Sl.openE key s.data.toList from if_neg h0, show openHR key s.data.toList = hd0 from if_neg h0, errV_pos a h0]
    have HO2 : Hid (Calls Tryz.prog 34 #[.int .i64 key, .string s] (w.alloc (hdO hd0)) fun e w' => e = .returned (.tuple #[.slice none 0 0, eV (a (Sl.openE key s.data.toList - 1))]) ∧ Below (w.alloc (hdO hd0)).heap.size (w.alloc (hdO hd0)) w') := HO.out.mono fun e w' ⟨hb, hp⟩ => by
      unfold WordsPost at hp
      rw [if_neg h0, errV_pos a h0] at hp
      exact ⟨hp, hb⟩
    generalize a (Sl.openE key s.data.toList - 1) = ad at *
    clear h h0 HO HE
    go_enter Tryz.func10, Tryz.ntmps10
    go_wp2_with fail
    refine HO2.out.mono ?_
    rintro e w1 ⟨rfl, hb⟩
    have HB1 : Hid (Below w.heap.size w w1) := HB0.out.trans (hb.mono HB0.out.size)
    have HT1 : Hid (w1.heap[w.heap.size]? = some (hdO hd0)) := by show _ = _; rw [hb.block _ (by simp)]; exact HR0.out
    clear hb HB0 HO2 HR0
    obtain ⟨hd0', hd1, hd2, hf0, hf1, hf2⟩ := row_cells HT1.out
    dsimp only [hd0] at hd0' hd1 hd2
    go_wp2
    refine hdEnd rfl w.heap.size hd0 rfl (row_set3 HT1.out _ _ _) rfl ?_
    exact ⟨rfl, below_set3 HB1.out (Nat.le_refl _) _ _ _⟩
end Go.Proofs.YtemdnmnbecapbacGreatDoor

/-
  What package person's Raise, RaiseTo, Off and Rekey give, and what they do to the book: its map is written, and nothing else; for every book, name, key and bool.
-/
import Derived.Test.YtkkjalokgaaniaaDoorBookDo3
namespace Go.Proofs.YtkkjalokgaaniaaDoor
open Go.RowKit Go.Extern.Stop Go.Stop Go.Extern Go.Maps

theorem small_name {p : Per} (h : p.err = 0) : p.name.size ≤ maxLen := by
  have h1 := (err_zero.1 h).1
  have h2 : p.nm.length ≤ 8 := by
    unfold Sl.nameL Sl.madeL at h1
    simp only [Bool.and_eq_true, decide_eq_true_eq] at h1
    omega
  have h3 : p.name.size = p.nm.length := by unfold Per.nm; simp
  unfold maxLen
  omega
theorem BookAt.fine {w : World} {bp mb : Nat} {L : List Per} (h : BookAt w bp mb L) {name : ByteArray} {p : Per} (hg : getP L name = some p) : p.name = name ∧ p.err = 0 ∧ p.name.size ≤ maxLen ∧ 1 ≤ p.epoch ∧ p.epoch ≤ 1073741824 := by
  obtain ⟨h1, h2⟩ := getP_some hg
  have h3 := h.good.fine p h2
  obtain ⟨_, _, h4⟩ := err_zero.1 h3
  exact ⟨h1, h3, small_name h3, h4.1, h4.2⟩
/-- A person of the book's in a new block. -/
theorem alloc_row4 (w : World) (p : Per) : (w.alloc (.cells #[.string p.name, .int .i64 p.key, .int .i64 p.epoch, .bool p.off] 58)).heap[w.heap.size]? = some (.cells #[.string p.name, .int .i64 p.key, .int .i64 p.epoch, .bool p.off] 58 (0, 0)) := heap_alloc_new _ _

set_option maxRecDepth 100000 in
set_option maxHeartbeats 2000000 in
theorem praise_any (a : Nat → Addr) (bp mb : Nat) (L : List Per) (name : ByteArray) (w : World) (h : BookAt w bp mb L) (hE : EV perS a w) (hs : name.size ≤ maxLen) :
    Calls Tryd.prog 24 #[.pointer (some ⟨bp, 0, none⟩), .string name] w fun e w' => e = .returned (.tuple #[.int .i64 (raiseP L name).1, errV a (raiseP L name).2.1]) ∧ BookAt w' bp mb (raiseP L name).2.2 ∧ w.grownBy w' (some mb) := by
  have HB := hide h
  have HE := hide hE
  cases hg : getP L name with
  | none =>
    have HG := hide (get_no a bp mb L name w h hE hs hg)
    rw [raise_none hg]
    show Calls _ _ _ _ fun e w' => e = .returned (.tuple #[.int .i64 0, errV a 5]) ∧ _
    rw [errV_pos a (by decide)]
    clear h hE hg
    go_enter Tryd.func24, Tryd.ntmps24
    go_wp2_with fail
    refine HG.out.mono ?_
    rintro e w1 ⟨rfl, hb⟩
    have HB1 := hide hb
    clear hb
    go_wp2
    go_ret2
    have HB2 := HB1.out.trans (((Below.refl w1.heap.size w1).alloc (Nat.le_refl _) (.cells #[.string ByteArray.empty, .int .i64 0, .int .i64 0, .bool false] 58)).mono HB1.out.size)
    exact ⟨rfl, HB.out.below HB2, grown_of_below HB2 _⟩
  | some p =>
    obtain ⟨hn, hf, hps, h1, h2⟩ := h.fine hg
    have HG := hide (get_yes bp mb L name w h hs p hg)
    rw [raise_some h.good.rise hg]
    by_cases he : 1073741824 ≤ p.epoch
    · rw [if_pos he]
      have hup : (upP p).err = 2 := by
        obtain ⟨f1, f2, f3⟩ := err_zero.1 hf
        unfold Per.err upP
        rw [if_pos f1, if_pos f2, if_neg (by show ¬ (1 ≤ p.epoch + 1 ∧ p.epoch + 1 ≤ _); omega)]
      have HRise : Hid (∀ w, BookAt w bp mb L → EV perS a w → Calls Tryd.prog 37 #[.pointer (some ⟨bp, 0, none⟩), .agg #[.string p.name, .int .i64 p.key, .int .i64 p.epoch, .bool p.off], .int .i64 (p.epoch + 1)] w fun e w' => e = .returned (.tuple #[.int .i64 0, errV a 2]) ∧ BookAt w' bp mb L ∧ w.grownBy w' (some mb)) := fun w hb hE => by
        have := rise_err a bp mb L p (p.epoch + 1) w hb hE hps (by rw [to_up, hup]; decide)
        rwa [to_up, hup] at this
      have hw1 : IntKind.i64.wrap (p.epoch + 1) = p.epoch + 1 := by rw [IntKind.wrap_i64]; omega
      show Calls _ _ _ _ fun e w' => e = .returned (.tuple #[.int .i64 0, errV a 2]) ∧ _
      generalize errV a 2 = ev at *
      clear h hE hg hn hf hps he hup
      go_enter Tryd.func24, Tryd.ntmps24
      go_wp2_with fail
      refine HG.out.mono ?_
      rintro e w1 ⟨rfl, hb⟩
      have HB1 : Hid (Below w.heap.size w (w1.alloc (.cells #[.string p.name, .int .i64 p.key, .int .i64 p.epoch, .bool p.off] 58))) := hb.trans (((Below.refl w1.heap.size w1).alloc (Nat.le_refl _) _).mono hb.size)
      clear hb
      go_wp2_with fail
      refine (HRise.out _ (HB.out.below HB1.out) (HE.out.below HB1.out)).mono ?_
      rintro e w2 ⟨rfl, hk, hgr⟩
      have HK := hide hk
      have HR := hide ((grown_of_below HB1.out (some mb)).trans hgr)
      clear hk hgr
      go_wp2
      go_ret2
      exact ⟨rfl, HK.out, HR.out⟩
    · rw [if_neg he]
      have hup : (upP p).err = 0 := by
        obtain ⟨f1, f2, f3⟩ := err_zero.1 hf
        exact err_zero.2 ⟨f1, f2, by show 1 ≤ p.epoch + 1 ∧ p.epoch + 1 ≤ _; omega⟩
      have hgood : Good (putP L (upP p)) := (put_set_good h.good (p' := upP p) (p := p) (by show getP L p.name = _; rw [hn]; exact hg) hup (by show p.epoch ≤ p.epoch + 1; omega) (Or.inl rfl)).1
      have HRise : Hid (∀ w, BookAt w bp mb L → EV perS a w → Calls Tryd.prog 37 #[.pointer (some ⟨bp, 0, none⟩), .agg #[.string p.name, .int .i64 p.key, .int .i64 p.epoch, .bool p.off], .int .i64 (p.epoch + 1)] w fun e w' => e = .returned (.tuple #[.int .i64 (p.epoch + 1), .nilIface]) ∧ BookAt w' bp mb (putP L (upP p)) ∧ w.grownBy w' (some mb)) := fun w hb hE => by
        have := rise_ok a bp mb L p (p.epoch + 1) w hb hE hps (by rw [to_up]; exact hup) (by rw [to_up]; exact hgood)
        rw [to_up] at this
        exact this
      have hw1 : IntKind.i64.wrap (p.epoch + 1) = p.epoch + 1 := by rw [IntKind.wrap_i64]; omega
      show Calls _ _ _ _ fun e w' => e = .returned (.tuple #[.int .i64 (p.epoch + 1), .nilIface]) ∧ BookAt w' bp mb (putP L (upP p)) ∧ _
      clear h hE hg hn hf hps he hup hgood
      go_enter Tryd.func24, Tryd.ntmps24
      go_wp2_with fail
      refine HG.out.mono ?_
      rintro e w1 ⟨rfl, hb⟩
      have HB1 : Hid (Below w.heap.size w (w1.alloc (.cells #[.string p.name, .int .i64 p.key, .int .i64 p.epoch, .bool p.off] 58))) := hb.trans (((Below.refl w1.heap.size w1).alloc (Nat.le_refl _) _).mono hb.size)
      clear hb
      go_wp2_with fail
      refine (HRise.out _ (HB.out.below HB1.out) (HE.out.below HB1.out)).mono ?_
      rintro e w2 ⟨rfl, hk, hgr⟩
      have HK := hide hk
      have HR := hide ((grown_of_below HB1.out (some mb)).trans hgr)
      clear hk hgr
      go_wp2
      go_ret2
      exact ⟨rfl, HK.out, HR.out⟩

set_option maxRecDepth 100000 in
set_option maxHeartbeats 2000000 in
theorem off_any (a : Nat → Addr) (bp mb : Nat) (L : List Per) (name : ByteArray) (off : Bool) (w : World) (h : BookAt w bp mb L) (hE : EV perS a w) (hs : name.size ≤ maxLen) :
    Calls Tryd.prog 25 #[.pointer (some ⟨bp, 0, none⟩), .string name, .bool off] w fun e w' => e = .returned (errV a (offP L name off).1) ∧ BookAt w' bp mb (offP L name off).2 ∧ w.grownBy w' (some mb) := by
  have HB := hide h
  have HE := hide hE
  cases hg : getP L name with
  | none =>
    have HG := hide (get_no a bp mb L name w h hE hs hg)
    rw [off_none off hg]
    show Calls _ _ _ _ fun e w' => e = .returned (errV a 5) ∧ _
    rw [errV_pos a (by decide)]
    clear h hE hg
    go_enter Tryd.func25, Tryd.ntmps25
    go_wp2_with fail
    refine HG.out.mono ?_
    rintro e w1 ⟨rfl, hb⟩
    have HB1 := hide hb
    clear hb
    go_wp2
    go_ret
    have HB2 := HB1.out.trans (((Below.refl w1.heap.size w1).alloc (Nat.le_refl _) (.cells #[.string ByteArray.empty, .int .i64 0, .int .i64 0, .bool false] 58)).mono HB1.out.size)
    exact ⟨rfl, HB.out.below HB2, grown_of_below HB2 _⟩
  | some p =>
    obtain ⟨hn, hf, hps, h1, h2⟩ := h.fine hg
    have HG := hide (get_yes bp mb L name w h hs p hg)
    rw [off_some off h.good.rise hg]
    by_cases he : p.off = off
    · rw [if_pos he]
      have hq : (p.off == off) = true := by simpa using he
      show Calls _ _ _ _ fun e w' => e = .returned (errV a 6) ∧ _
      rw [errV_pos a (by decide)]
      clear h hE hg hn hf hps he
      go_enter Tryd.func25, Tryd.ntmps25
      go_wp2_with fail
      refine HG.out.mono ?_
      rintro e w1 ⟨rfl, hb⟩
      have HB1 : Hid (∀ o, Below w.heap.size w (w1.alloc o)) := fun o => hb.trans (((Below.refl w1.heap.size w1).alloc (Nat.le_refl _) _).mono hb.size)
      have hv : ∀ o, (w1.alloc o).cell? ⟨5, 0, none⟩ = some (eV (a 5)) := fun o => (HE.out.below (HB1.out o)).var 5 (by decide) rfl
      clear hb
      go_wp2
      go_ret
      exact ⟨rfl, HB.out.below (HB1.out _), grown_of_below (HB1.out _) _⟩
    · rw [if_neg he]
      have hq : (p.off == off) = false := by simpa using he
      have hok : ({ p with off := off } : Per).err = 0 := by
        obtain ⟨f1, f2, f3⟩ := err_zero.1 hf
        exact err_zero.2 ⟨f1, f2, f3⟩
      have HGood := hide (put_set_good h.good (p' := { p with off := off }) (p := p) (by show getP L p.name = _; rw [hn]; exact hg) hok (Int.le_refl _) (Or.inl rfl)).1
      show Calls _ _ _ _ fun e w' => e = .returned .nilIface ∧ BookAt w' bp mb (putP L { p with off := off }) ∧ _
      subst hn
      clear h hE hg hf he hok
      go_enter Tryd.func25, Tryd.ntmps25
      go_wp2_with fail
      refine HG.out.mono ?_
      rintro e w1 ⟨rfl, hb⟩
      have HB1 : Hid (∀ o, Below w.heap.size w (w1.alloc o)) := fun o => hb.trans (((Below.refl w1.heap.size w1).alloc (Nat.le_refl _) _).mono hb.size)
      have hc : ∀ o, (w1.alloc o).cell? ⟨bp, 0, none⟩ = some (.map (some mb)) := fun o => (HB.out.below (HB1.out o)).cell
      obtain ⟨w2, hrun, hk2, hg2⟩ := BookAt.store (w := (w1.alloc (.cells #[.string p.name, .int .i64 p.key, .int .i64 p.epoch, .bool off] 58)).drew) ((HB.out.below (HB1.out _)).same rfl rfl) { p with off := off } hps HGood.out
      have hrun' : (Instr.mapUpdate 70 (.map (some mb)) (.string p.name) (.agg #[.string p.name, .int .i64 p.key, .int .i64 p.epoch, .bool off])).run Tryd.prog (w1.alloc (.cells #[.string p.name, .int .i64 p.key, .int .i64 p.epoch, .bool off] 58)).drew = .ok () w2 := hrun
      have HR : Hid (BookAt w2 bp mb (putP L { p with off := off }) ∧ w.grownBy w2 (some mb)) := ⟨hk2, (grown_of_below (HB1.out _).drew (some mb)).trans hg2⟩
      clear hb hrun hk2 hg2
      go_wp2
      go_region
      go_wp2
      go_ret
      exact ⟨rfl, HR.out⟩

set_option maxRecDepth 100000 in
set_option maxHeartbeats 2000000 in
theorem rekey_any (a : Nat → Addr) (bp mb : Nat) (L : List Per) (name : ByteArray) (key : Int) (w : World) (h : BookAt w bp mb L) (hE : EV perS a w) (hs : name.size ≤ maxLen) :
    Calls Tryd.prog 23 #[.pointer (some ⟨bp, 0, none⟩), .string name, .int .i64 key] w fun e w' => e = .returned (errV a (rekeyP L name key).1) ∧ BookAt w' bp mb (rekeyP L name key).2 ∧ w.grownBy w' (some mb) := by
  have HB := hide h
  have HE := hide hE
  cases hg : getP L name with
  | none =>
    have HG := hide (get_no a bp mb L name w h hE hs hg)
    rw [rekey_none key hg]
    show Calls _ _ _ _ fun e w' => e = .returned (errV a 5) ∧ _
    rw [errV_pos a (by decide)]
    clear h hE hg
    go_enter Tryd.func23, Tryd.ntmps23
    go_wp2_with fail
    refine HG.out.mono ?_
    rintro e w1 ⟨rfl, hb⟩
    have HB1 := hide hb
    clear hb
    go_wp2
    go_ret
    have HB2 := HB1.out.trans (((Below.refl w1.heap.size w1).alloc (Nat.le_refl _) (.cells #[.string ByteArray.empty, .int .i64 0, .int .i64 0, .bool false] 58)).mono HB1.out.size)
    exact ⟨rfl, HB.out.below HB2, grown_of_below HB2 _⟩
  | some p =>
    obtain ⟨hn, hf, hps, h1, h2⟩ := h.fine hg
    obtain ⟨f1, f2, f3⟩ := err_zero.1 hf
    have HG := hide (get_yes bp mb L name w h hs p hg)
    by_cases he : p.key = key
    · have hre : rekeyP L name key = (6, L) := by rw [rekey_some key h.good.rise hg, if_pos (by rw [← he]; exact f2), if_pos he]
      rw [hre]
      have hq : (key == p.key) = true := by simpa using he.symm
      show Calls _ _ _ _ fun e w' => e = .returned (errV a 6) ∧ _
      rw [errV_pos a (by decide)]
      clear h hE hg hn hf hps he hre f1 f2 f3
      go_enter Tryd.func23, Tryd.ntmps23
      go_wp2_with fail
      refine HG.out.mono ?_
      rintro e w1 ⟨rfl, hb⟩
      have HB1 : Hid (∀ o, Below w.heap.size w (w1.alloc o)) := fun o => hb.trans (((Below.refl w1.heap.size w1).alloc (Nat.le_refl _) _).mono hb.size)
      have hv : ∀ o, (w1.alloc o).cell? ⟨5, 0, none⟩ = some (eV (a 5)) := fun o => (HE.out.below (HB1.out o)).var 5 (by decide) rfl
      clear hb
      go_wp2
      go_ret
      exact ⟨rfl, HB.out.below (HB1.out _), grown_of_below (HB1.out _) _⟩
    · have hq : (key == p.key) = false := by simpa using fun e => he (Eq.symm e)
      have HRise : Hid (∀ w, BookAt w bp mb L → EV perS a w → Calls Tryd.prog 37 #[.pointer (some ⟨bp, 0, none⟩), .agg #[.string p.name, .int .i64 key, .int .i64 p.epoch, .bool p.off], .int .i64 (p.epoch + 1)] w fun e w' => (∃ n, e = .returned (.tuple #[.int .i64 n, errV a (rekeyP L name key).1])) ∧ BookAt w' bp mb (rekeyP L name key).2 ∧ w.grownBy w' (some mb)) := fun w hb hE => by
        rw [rekey_some key hb.good.rise hg]
        by_cases hk : 1 ≤ key ∧ key ≤ 1000000006
        · rw [if_pos hk, if_neg he]
          by_cases hx : 1073741824 ≤ p.epoch
          · rw [if_pos hx]
            have hup : (upP { p with key := key }).err = 2 := by
              unfold Per.err upP
              rw [if_pos f1, if_pos hk, if_neg (by show ¬ (1 ≤ p.epoch + 1 ∧ p.epoch + 1 ≤ _); omega)]
            have := rise_err a bp mb L { p with key := key } (p.epoch + 1) w hb hE hps (by rw [show toP { p with key := key } (p.epoch + 1) = _ from to_up { p with key := key }, hup]; decide)
            rw [show toP { p with key := key } (p.epoch + 1) = _ from to_up { p with key := key }, hup] at this
            exact this.mono fun e w' ⟨he, hk⟩ => ⟨⟨_, he⟩, hk⟩
          · rw [if_neg hx]
            have hup : (upP { p with key := key }).err = 0 := err_zero.2 ⟨f1, hk, by show 1 ≤ p.epoch + 1 ∧ p.epoch + 1 ≤ _; omega⟩
            have hgood : Good (putP L (upP { p with key := key })) := (put_set_good hb.good (p' := upP { p with key := key }) (p := p) (by show getP L p.name = _; rw [hn]; exact hg) hup (by show p.epoch ≤ p.epoch + 1; omega) (Or.inr (by show p.epoch + 1 ≠ p.epoch; omega))).1
            have := rise_ok a bp mb L { p with key := key } (p.epoch + 1) w hb hE hps (by rw [show toP { p with key := key } (p.epoch + 1) = _ from to_up { p with key := key }]; exact hup) (by rw [show toP { p with key := key } (p.epoch + 1) = _ from to_up { p with key := key }]; exact hgood)
            rw [show toP { p with key := key } (p.epoch + 1) = _ from to_up { p with key := key }] at this
            exact this.mono fun e w' ⟨he, hk⟩ => ⟨⟨_, he⟩, hk⟩
        · rw [if_neg hk]
          have hup : (upP { p with key := key }).err = 10 := by
            unfold Per.err upP
            rw [if_pos f1, if_neg hk]
          have := rise_err a bp mb L { p with key := key } (p.epoch + 1) w hb hE hps (by rw [show toP { p with key := key } (p.epoch + 1) = _ from to_up { p with key := key }, hup]; decide)
          rw [show toP { p with key := key } (p.epoch + 1) = _ from to_up { p with key := key }, hup] at this
          exact this.mono fun e w' ⟨he, hk⟩ => ⟨⟨_, he⟩, hk⟩
      have hw1 : IntKind.i64.wrap (p.epoch + 1) = p.epoch + 1 := by rw [IntKind.wrap_i64]; omega
      generalize errV a (rekeyP L name key).1 = ev at *
      generalize (rekeyP L name key).2 = L' at *
      clear h hE hg hn hf hps he f1 f2 f3
      go_enter Tryd.func23, Tryd.ntmps23
      go_wp2_with fail
      refine HG.out.mono ?_
      rintro e w1 ⟨rfl, hb⟩
      have HB1 : Hid (∀ o, Below w.heap.size w (w1.alloc o)) := fun o => hb.trans (((Below.refl w1.heap.size w1).alloc (Nat.le_refl _) _).mono hb.size)
      clear hb
      go_wp2_with fail
      refine (HRise.out _ (HB.out.below (HB1.out _)) (HE.out.below (HB1.out _))).mono ?_
      rintro e w2 ⟨⟨n, rfl⟩, hk, hgr⟩
      have HK := hide hk
      have HR := hide ((grown_of_below (HB1.out _) (some mb)).trans hgr)
      clear hk hgr
      go_wp2
      go_ret
      exact ⟨rfl, HK.out, HR.out⟩

/-- A rise of somebody: nobody goes, and the book stays in order. -/
theorem to_good {L : List Per} (h : Good L) {p : Per} {ep : Int} (hg : getP L p.name = some p) (h0 : (toP p ep).err = 0) : Good (putP L (toP p ep)) :=
  (put_set_good h (p' := toP p ep) (p := p) hg h0 (by show p.epoch ≤ max p.epoch ep; omega) (Or.inl rfl)).1

end Go.Proofs.YtkkjalokgaaniaaDoor

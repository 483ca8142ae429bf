/-
  A ticket that came in by value, opened: the value written out, and how long its two texts may be.
-/
import Derived.Test.YtgagekcjdapkfabGreatDoorFieldOpen
import Derived.Test.YtgagekcjdapkfabGreatDoorTicketPlain
import Derived.Test.YtgagekcjdapkfabGreatDoorLaidBase
namespace Go.Proofs.YtgagekcjdapkfabGreatDoor
open Go Go.ChangeShapes Go.WideShapes Go.RowKit Go.Deep

theorem array6 {α : Type} {cs : Array α} (h : cs.size = 6) : ∃ c0 c1 c2 c3 c4 c5, cs = #[c0, c1, c2, c3, c4, c5] := by
  obtain ⟨l⟩ := cs
  match l, h with
  | [c0, c1, c2, c3, c4, c5], _ => exact ⟨c0, c1, c2, c3, c4, c5, rfl⟩
theorem str_of {H : Type} {enc : TypeId × Value → H} {W : World} {base : Nat} {spare : Nat → Bool} {held : Bool} {v : Value} (h : ∃ n y, DataW.trod enc Tryz.prog W base spare held n 9 [v] = some y) : ∃ s, v = .string s ∧ s.size ≤ maxLen := by
  obtain ⟨n, y, h⟩ := h
  obtain ⟨s, e, _, z⟩ := DataW.trod_string Tryz.underlying9 h
  cases e
  exact ⟨s, rfl, z⟩
theorem int_of {H : Type} {enc : TypeId × Value → H} {W : World} {base : Nat} {spare : Nat → Bool} {held : Bool} {v : Value} (h : ∃ n y, DataW.trod enc Tryz.prog W base spare held n 3 [v] = some y) : ∃ n, v = .int .i64 n := by
  obtain ⟨n, y, h⟩ := h
  obtain ⟨s, e, _, _⟩ := DataW.trod_int Tryz.underlying3 h
  cases e
  exact ⟨s, rfl⟩
set_option maxRecDepth 100000 in
theorem tk_open {H : Type} {enc : TypeId × Value → H} {W : World} {base b0 : Nat} {spare : Nat → Bool} {held : Bool} {v : Value} {d : DataW H} {p : List MemPlace} (hv : Value.okWide Tryz.prog W .any b0 23 v)
    (h : DataW.Trod enc Tryz.prog W base spare held 23 v d p) : ∃ q : Tk, v = q.val ∧ q.who.size ≤ maxLen ∧ q.dst.size ≤ maxLen := by
  obtain ⟨cs, rfl, hsz⟩ := okWide_struct Tryz.underlying23 hv
  obtain ⟨c0, c1, c2, c3, c4, c5, rfl⟩ := array6 (hsz.trans (by kernel_rfl))
  have g := field_trod Tryz.underlying23 (by kernel_rfl) h
  obtain ⟨s0, rfl, z0⟩ := str_of (g 0 _ rfl c0 rfl)
  obtain ⟨s1, rfl, z1⟩ := str_of (g 1 _ rfl c1 rfl)
  obtain ⟨n2, rfl⟩ := int_of (g 2 _ rfl c2 rfl)
  obtain ⟨n3, rfl⟩ := int_of (g 3 _ rfl c3 rfl)
  obtain ⟨n4, rfl⟩ := int_of (g 4 _ rfl c4 rfl)
  obtain ⟨n5, rfl⟩ := int_of (g 5 _ rfl c5 rfl)
  exact ⟨⟨s0, s1, n2, n3, n4, n5⟩, rfl, z0, z1⟩
end Go.Proofs.YtgagekcjdapkfabGreatDoor

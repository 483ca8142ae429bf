/-
  The plain arithmetic of marks, over lists of bytes: a mark is a number below the modulus, what is marked in two parts is marked as in one, one byte changed gives another mark, and a mark reckoned from behind is the same.
-/
import Derived.Below
namespace Go.Proofs.YteofodegeigmaaaDoor.Mk

/-- One byte more. -/
def step (key m : Int) (b : UInt8) : Int := (m * 257 + (b.toNat : Int) + 1 + key) % 1000000007
/-- The mark of bytes, begun with n. -/
def mk (key n : Int) (l : List UInt8) : Int := l.foldl (step key) n

theorem step_bd (key m : Int) (b : UInt8) : 0 ≤ step key m b ∧ step key m b ≤ 1000000006 := by unfold step; omega
theorem mk_nil (key n : Int) : mk key n [] = n := rfl
theorem mk_snoc (key n : Int) (l : List UInt8) (b : UInt8) : mk key n (l ++ [b]) = step key (mk key n l) b := by simp [mk]
theorem mk_cons (key n : Int) (b : UInt8) (l : List UInt8) : mk key n (b :: l) = mk key (step key n b) l := rfl
theorem mk_append (key n : Int) (a b : List UInt8) : mk key n (a ++ b) = mk key (mk key n a) b := by simp [mk]
theorem mk_bd (key n : Int) (hn : 0 ≤ n ∧ n ≤ 1000000006) : ∀ l : List UInt8, 0 ≤ mk key n l ∧ mk key n l ≤ 1000000006 := by
  intro l
  induction l generalizing n with
  | nil => exact hn
  | cons b l ih => exact ih _ (step_bd key n b)

/-- Two numbers below the modulus that one byte takes to the same one are the same. -/
theorem step_inj (key m n : Int) (b : UInt8) (hm : 0 ≤ m ∧ m ≤ 1000000006) (hn : 0 ≤ n ∧ n ≤ 1000000006) (h : step key m b = step key n b) : m = n := by
  unfold step at h
  omega
theorem mk_inj (key : Int) : ∀ (l : List UInt8) (m n : Int), (0 ≤ m ∧ m ≤ 1000000006) → (0 ≤ n ∧ n ≤ 1000000006) → mk key m l = mk key n l → m = n := by
  intro l
  induction l with
  | nil => intro m n _ _ h; exact h
  | cons b l ih =>
    intro m n hm hn h
    exact step_inj key m n b hm hn (ih _ _ (step_bd key m b) (step_bd key n b) h)
theorem step_byte (key m : Int) (b c : UInt8) (h : step key m b = step key m c) : b = c := by
  unfold step at h
  have hb := b.toNat_lt
  have hc := c.toNat_lt
  apply UInt8.toNat_inj.1
  omega

/-- With one byte another one it is another mark. -/
theorem mk_set (key n : Int) (hn : 0 ≤ n ∧ n ≤ 1000000006) (l : List UInt8) (k : Nat) (hk : k < l.length) (x : UInt8) (hx : l[k] ≠ x) (r : List UInt8) : mk key n (l.set k x ++ r) ≠ mk key n (l ++ r) := by
  have e1 : l = l.take k ++ l[k] :: l.drop (k + 1) := by simp
  have e2 : l.set k x = l.take k ++ x :: l.drop (k + 1) := List.set_eq_take_append_cons_drop.trans (by simp [hk])
  intro h
  rw [e2] at h
  have h' : mk key n (l.take k ++ x :: l.drop (k + 1) ++ r) = mk key n ((l.take k ++ l[k] :: l.drop (k + 1)) ++ r) := by rw [← e1]; exact h
  simp only [mk_append, mk_cons] at h'
  rw [← mk_append, ← mk_append] at h'
  have hb := mk_bd key n hn (l.take k)
  have := mk_inj key _ _ _ (step_bd _ _ _) (step_bd _ _ _) h'
  exact hx (step_byte key _ _ _ this).symm

/-! From behind. -/
/-- The power of 257 at a length. -/
def pw (k : Nat) : Int := 257 ^ k % 1000000007
/-- The sum of the parts of bytes, each times the power of all behind it. -/
def sm (key : Int) : List UInt8 → Int
  | [] => 0
  | b :: l => (sm key l + pw l.length * (((b.toNat : Int) + 1 + key) % 1000000007)) % 1000000007

theorem pw_zero : pw 0 = 1 := by decide
theorem pw_succ (k : Nat) : pw (k + 1) = pw k * 257 % 1000000007 := by
  unfold pw
  rw [Int.pow_succ, Int.mul_emod, Int.mul_emod (257 ^ k % 1000000007) 257]
  simp
theorem pw_bd (k : Nat) : 0 ≤ pw k ∧ pw k ≤ 1000000006 := by unfold pw; omega
theorem sm_bd (key : Int) (l : List UInt8) : 0 ≤ sm key l ∧ sm key l ≤ 1000000006 := by
  cases l with
  | nil => simp [sm]
  | cons b l => unfold sm; omega

/-- The mark is what is reckoned from behind. -/
theorem mk_sm (key : Int) : ∀ (l : List UInt8) (n : Int), mk key n l % 1000000007 = (sm key l + pw l.length * n) % 1000000007 := by
  intro l
  induction l with
  | nil => intro n; simp [mk_nil, sm, pw_zero]
  | cons b l ih =>
    intro n
    rw [mk_cons, ih]
    have e1 : step key n b % 1000000007 = (n * 257 + (b.toNat : Int) + 1 + key) % 1000000007 := by unfold step; omega
    generalize hq : step key n b = q at *
    generalize hs : sm key l = s at *
    generalize hp : pw l.length = p at *
    have e2 : sm key (b :: l) = (s + p * (((b.toNat : Int) + 1 + key) % 1000000007)) % 1000000007 := by simp only [sm, hs, hp]
    have e3 : pw (b :: l).length = p * 257 % 1000000007 := by rw [List.length_cons, pw_succ, hp]
    rw [e2, e3]
    have hdiv : ∀ a b : Int, a % 1000000007 = b % 1000000007 → ∃ c, a = b + 1000000007 * c := fun a b h => ⟨(a - b) / 1000000007, by omega⟩
    have hmul : ∀ a b : Int, (∃ c, a = b + 1000000007 * c) → a % 1000000007 = b % 1000000007 := by
      rintro a b ⟨c, rfl⟩; omega
    obtain ⟨c1, h1⟩ := hdiv _ _ e1
    obtain ⟨c2, h2⟩ := hdiv (((b.toNat : Int) + 1 + key) % 1000000007) ((b.toNat : Int) + 1 + key) (by omega)
    obtain ⟨c3, h3⟩ := hdiv ((s + p * (((b.toNat : Int) + 1 + key) % 1000000007)) % 1000000007) (s + p * (((b.toNat : Int) + 1 + key) % 1000000007)) (by omega)
    obtain ⟨c4, h4⟩ := hdiv (p * 257 % 1000000007) (p * 257) (by omega)
    apply hmul
    rw [h3, h4, h2, h1]
    refine ⟨p * c1 - p * c2 - c3 - c4 * n, ?_⟩
    grind

/-- .. and begun with a number below the modulus it is just that. -/
theorem mk_behind (key n : Int) (l : List UInt8) (hn : 0 ≤ n ∧ n ≤ 1000000006) : (sm key l + pw l.length * n) % 1000000007 = mk key n l := by
  rw [← mk_sm]
  have := mk_bd key n hn l
  omega
end Go.Proofs.YteofodegeigmaaaDoor.Mk

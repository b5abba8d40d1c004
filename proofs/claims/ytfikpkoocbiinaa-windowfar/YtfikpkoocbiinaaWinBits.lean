/- What a Window makes of numbers, by the bits one by one. -/
import Derived.Test.YtfikpkoocbiinaaWin
namespace Go.Proofs.Ytfikpkoocbiinaa
namespace Win
theorem bit_eq {b : Nat} (h : b ≤ 64) (h1 : 1 ≤ b) : bit b = 2 ^ (b - 1) := by
  unfold bit
  exact Nat.mod_eq_of_lt (Nat.pow_lt_pow_right (by decide) (by omega))
theorem bit_zero {b : Nat} (h : 64 < b) : bit b = 0 := by
  unfold bit
  obtain ⟨t, rfl⟩ : ∃ t, b = 64 + t + 1 := ⟨b - 65, by omega⟩
  rw [show 64 + t + 1 - 1 = 64 + t by omega, Nat.pow_add, Nat.mul_mod_right]
theorem bit_test (b j : Nat) (h1 : 1 ≤ b) : (bit b).testBit j = (decide (b ≤ 64) && decide (j = b - 1)) := by
  by_cases h : b ≤ 64
  · rw [bit_eq h h1, Nat.testBit_two_pow, decide_eq_true h, Bool.true_and]
    congr 1
    exact propext ⟨Eq.symm, Eq.symm⟩
  · rw [bit_zero (by omega), Nat.zero_testBit, decide_eq_false h, Bool.false_and]
theorem and_bit {x b : Nat} (h : b ≤ 64) (h1 : 1 ≤ b) : x &&& bit b = 0 ↔ x.testBit (b - 1) = false := by
  constructor
  · intro e
    have := congrArg (fun y => Nat.testBit y (b - 1)) e
    simpa [Nat.testBit_and, bit_test b (b - 1) h1, h] using this
  · intro e
    apply Nat.eq_of_testBit_eq
    intro j
    rw [Nat.testBit_and, bit_test b j h1, Nat.zero_testBit]
    by_cases g : j = b - 1
    · rw [g, e]; rfl
    · rw [decide_eq_false g, Bool.and_false, Bool.and_false]
/-- a newer one: each bit behind it -/
theorem newer_test (x d j : Nat) (hd : 1 ≤ d) (hj : j < 64) : (x * 2 ^ d % 2 ^ 64 ||| bit d).testBit j = ((decide (d ≤ j) && x.testBit (j - d)) || decide (j = d - 1)) := by
  rw [Nat.testBit_or, Nat.testBit_mod_two_pow, bit_test d j hd, decide_eq_true hj, Bool.true_and, Nat.testBit_mul_two_pow]
  congr 1
  by_cases e : j = d - 1
  · rw [decide_eq_true e, decide_eq_true (by omega)]; rfl
  · rw [decide_eq_false e, Bool.and_false]
theorem bits_ext {x y : Nat} (hx : x < 2 ^ 64) (hy : y < 2 ^ 64) (h : ∀ j, j < 64 → x.testBit j = y.testBit j) : x = y := by
  apply Nat.eq_of_testBit_eq
  intro j
  rcases Nat.lt_or_ge j 64 with g | g
  · exact h j g
  · rw [Nat.testBit_lt_two_pow (Nat.lt_of_lt_of_le hx (Nat.pow_le_pow_right (by decide) g)), Nat.testBit_lt_two_pow (Nat.lt_of_lt_of_le hy (Nat.pow_le_pow_right (by decide) g))]
end Win
end Go.Proofs.Ytfikpkoocbiinaa

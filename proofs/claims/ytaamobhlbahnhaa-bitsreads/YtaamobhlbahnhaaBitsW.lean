/- Package bits: size, roomAt, low. -/
import Derived.Test.YtaamobhlbahnhaaRows
import Derived.Test.YtaamobhlbahnhaaBitMath
import Derived.WalkKit
import Derived.ProofKit
import Derived.Laws.Shifts
import Derived.Laws.BitsAllLaws
import Derived.Lib.Hide
namespace Go.Proofs.Ytaamobhlbahnhaa
open Go.RowKit

theorem ret_num {k : IntKind} {a b : Int} (h : a = b) : Ending.returned (.int k a) = .returned (.int k b) := by rw [h]
/-- n brought within 0 to 64 -/
def sz (n : Int) : Nat := min n.toNat 64
theorem sz_le (n : Int) : sz n ≤ 64 := by unfold sz; omega

theorem size_any (n : Int) (w : World) : Calls Try.prog 30 #[.int .i64 n] w fun e w' => e = .returned (.int .i64 (sz n)) ∧ w = w' := by
  rcases (show n < 0 ∨ (0 ≤ n ∧ n ≤ 64) ∨ 64 < n by omega) with h | h | h
  all_goals
    go_enter Try.func30, Try.ntmps30
    go_wp2
    all_goals
      go_ret
      exact ⟨ret_num (by unfold sz; omega), rfl⟩

theorem room_any (c : Nat) (hc : c ≤ 8796093022208) (w : World) : Calls Try.prog 31 #[.int .i64 c] w fun e w' => e = .returned (.int .i64 ((8 - c % 8 : Nat) : Int)) ∧ w = w' := by
  go_enter Try.func31, Try.ntmps31
  go_wp2
  go_ret
  exact ⟨ret_num (by omega), rfl⟩

theorem wrap_u64 (n : Int) : IntKind.u64.wrap n = n % 18446744073709551616 := by simp [IntKind.wrap, IntKind.bits, IntKind.signed]
theorem wrap_i64 (n : Int) : IntKind.i64.wrap n = (n + 9223372036854775808) % 18446744073709551616 - 9223372036854775808 := by rw [IntKind.wrap_i64]
theorem low_num (v n : Nat) (hv : v < 18446744073709551616) (hn : n ≤ 64) : bits BinOp.and IntKind.u64 (v : Int) (IntKind.u64.wrap (IntKind.u64.wrap ((2 : Int) ^ n) - 1)) = ((v % 2 ^ n : Nat) : Int) := by
  have p : ((2 : Int) ^ n) = ((2 ^ n : Nat) : Int) := by simp
  have q : 2 ^ n ≤ 18446744073709551616 := by
    have := Nat.pow_le_pow_right (show 0 < 2 by decide) hn
    simpa using this
  have q0 := Nat.two_pow_pos n
  rw [p, wrap_u64, wrap_u64]
  by_cases h : n = 64
  · subst h
    rw [show (((2 ^ 64 : Nat) : Int) % 18446744073709551616 - 1) % 18446744073709551616 = ((18446744073709551615 : Nat) : Int) by simp]
    rw [u64_and_nat v _ hv (by omega)]
    congr 1
    exact Nat.and_two_pow_sub_one_eq_mod v 64
  · have q2 : 2 ^ n ≤ 9223372036854775808 := by
      have := Nat.pow_le_pow_right (show 0 < 2 by decide) (show n ≤ 63 by omega)
      simpa using this
    rw [show (((2 ^ n : Nat) : Int) % 18446744073709551616 - 1) % 18446744073709551616 = ((2 ^ n - 1 : Nat) : Int) by omega]
    rw [u64_and_nat v _ hv (by omega), Nat.and_two_pow_sub_one_eq_mod]

theorem low_any (v n : Nat) (hv : v < 18446744073709551616) (hn : n ≤ 64) (w : World) : Calls Try.prog 32 #[.int .u64 v, .int .i64 n] w fun e w' => e = .returned (.int .u64 ((v % 2 ^ n : Nat) : Int)) ∧ w = w' := by
  go_enter Try.func32, Try.ntmps32
  go_wp2
  go_ret
  exact ⟨ret_num (low_num v n hv hn), rfl⟩
/-- .. its argument as the walk spells it -/
theorem low_int (x : Int) (n : Nat) (h0 : 0 ≤ x) (h1 : x < 18446744073709551616) (hn : n ≤ 64) (w : World) : Calls Try.prog 32 #[.int .u64 x, .int .i64 n] w fun e w' => e = .returned (.int .u64 (x % 2 ^ n)) ∧ w' = w := by
  obtain ⟨v, rfl⟩ : ∃ v : Nat, x = v := ⟨x.toNat, by omega⟩
  refine (low_any v n (by omega) hn w).mono ?_
  rintro e w' ⟨rfl, rfl⟩
  exact ⟨ret_num (by simp), rfl⟩
end Go.Proofs.Ytaamobhlbahnhaa

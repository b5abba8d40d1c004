/- Package dice as plain functions; Next and Roll. -/
import Derived.Test.YtngbannidbijmaaRows
import Derived.WalkKit
import Derived.ProofKit
import Derived.Below
import Derived.WalkLawsBesides
namespace Go.Proofs.Ytngbannidbijmaa
open Go.RowKit

def Dice.next (s : Int) : Int := (s * 6364136223846793005 + 1442695040888963407) % 18446744073709551616
def Dice.num (t : Int) : Int := t / 8589934592
def Dice.seed (n : Int) : Int := (n * 2 + 1) % 18446744073709551616
theorem wrap_u64 (n : Int) : IntKind.u64.wrap n = n % 18446744073709551616 := by simp [IntKind.wrap, IntKind.bits, IntKind.signed]
theorem next_rng (s : Int) : 0 ≤ Dice.next s ∧ Dice.next s ≤ 18446744073709551615 := by unfold Dice.next; omega
theorem num_rng (s : Int) : 0 ≤ Dice.num (Dice.next s) ∧ Dice.num (Dice.next s) < 2147483648 := by have := next_rng s; unfold Dice.num; omega
theorem one_s {a b : Int} (h : a = b) : Ending.returned (.int .u64 a) = .returned (.int .u64 b) := by rw [h]
theorem two_s {a b c d : Int} (h : a = c) (k : b = d) : Ending.returned (.tuple #[.int .u64 a, .int .i64 b]) = .returned (.tuple #[.int .u64 c, .int .i64 d]) := by rw [h, k]

theorem roll_rng (s n : Int) (h : 1 ≤ n) : 0 ≤ Dice.num (Dice.next s) % n ∧ Dice.num (Dice.next s) % n < n :=
  ⟨Int.emod_nonneg _ (by omega), Int.emod_lt_of_pos _ (by omega)⟩
theorem next_eq (s : Int) : IntKind.u64.wrap (IntKind.u64.wrap (s * 6364136223846793005) + 1442695040888963407) = Dice.next s := by
  simp only [wrap_u64, Dice.next]; omega
theorem num_eq (s : Int) : wrap64 (Dice.next s / 8589934592) = Dice.num (Dice.next s) := by
  have := next_rng s
  unfold Dice.num wrap64; omega

theorem next_any (s : Int) (w : World) : Calls Try.prog 109 #[.int .u64 s] w fun e w' => e = .returned (.tuple #[.int .u64 (Dice.next s), .int .i64 (Dice.num (Dice.next s))]) ∧ w = w' := by
  go_enter Try.func109, Try.ntmps109
  go_wp2_with fail
  go_ret2
  exact ⟨two_s (next_eq s) (by rw [next_eq, num_eq]), rfl⟩
theorem roll_none (s n : Int) (h : n < 1) (w : World) : Calls Try.prog 107 #[.int .u64 s, .int .i64 n] w fun e w' => e = .returned (.tuple #[.int .u64 s, .int .i64 0]) ∧ w = w' := by
  go_enter Try.func107, Try.ntmps107
  go_wp2_with fail
  go_ret2
  exact ⟨rfl, rfl⟩
theorem roll_any (s n : Int) (h : 1 ≤ n) (w : World) : Calls Try.prog 107 #[.int .u64 s, .int .i64 n] w fun e w' => e = .returned (.tuple #[.int .u64 (Dice.next s), .int .i64 (Dice.num (Dice.next s) % n)]) ∧ w' = w.drew := by
  have h1 : ¬ n < 1 := by omega
  have h2 : ¬ n = 0 := by omega
  obtain ⟨b1, b2⟩ := num_rng s
  go_enter Try.func107, Try.ntmps107
  go_wp2_with fail
  refine (next_any _ _).mono ?_
  rintro e w' ⟨rfl, rfl⟩
  go_wp2_with fail
  go_region
  go_wp2_with fail
  go_ret2
  exact ⟨rfl, rfl⟩
end Go.Proofs.Ytngbannidbijmaa

/- The reference's Next and Roll. -/
import Derived.Test.YtfeloiodebjolaaDiceA
namespace Go.Proofs.Ytfeloiodebjolaa
open Go.RowKit
theorem rnext_any (s : Int) (w : World) : Calls Try.prog 39 #[.int .u64 s] w fun e w' => e = .returned (.tuple #[.int .u64 (Dice.next s), .int .i64 (Dice.num (Dice.next s))]) ∧ w = w' := by
  go_enter Try.func39, Try.ntmps39
  go_wp2_with fail
  go_ret2
  exact ⟨two_s (next_eq s) (by rw [next_eq, num_eq]), rfl⟩
theorem rroll_none (s n : Int) (h : n < 1) (w : World) : Calls Try.prog 22 #[.int .u64 s, .int .i64 n] w fun e w' => e = .returned (.tuple #[.int .u64 s, .int .i64 0]) ∧ w = w' := by
  go_enter Try.func22, Try.ntmps22
  go_wp2_with fail
  go_ret2
  exact ⟨rfl, rfl⟩
theorem rroll_any (s n : Int) (h : 1 ≤ n) (w : World) : Calls Try.prog 22 #[.int .u64 s, .int .i64 n] w fun e w' => e = .returned (.tuple #[.int .u64 (Dice.next s), .int .i64 (Dice.num (Dice.next s) % n)]) ∧ w' = w.drew := by
  have h1 : ¬ n < 1 := by omega
  have h2 : ¬ n = 0 := by omega
  obtain ⟨b1, b2⟩ := num_rng s
  go_enter Try.func22, Try.ntmps22
  go_wp2_with fail
  refine (rnext_any _ _).mono ?_
  rintro e w' ⟨rfl, rfl⟩
  go_wp2_with fail
  go_region
  go_wp2_with fail
  go_ret2
  exact ⟨rfl, rfl⟩
end Go.Proofs.Ytfeloiodebjolaa

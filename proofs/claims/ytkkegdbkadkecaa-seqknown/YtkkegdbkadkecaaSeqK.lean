/- What is known of package seq, by the law's own 'known'. -/
import Derived.Test.YtkkegdbkadkecaaSeq
namespace Go.Proofs.Ytkkegdbkadkecaa
open Go.RowKit
theorem ah_1 : ahead 1 65535 = 2 := by decide
theorem no_1 : norm (65535 + 1) = 0 := by decide
theorem known_any (w : World) : Calls Try.prog 7 #[] w fun e w' => e = .returned (.bool true) ∧ w = w' := by
  go_enter Try.func7, Try.ntmps7
  go_wp2_with fail
  refine (ahead_any _ _ _).mono ?_
  rintro e w' ⟨rfl, rfl⟩
  rw [ah_1]
  go_wp2_with fail
  refine (next_any _ _).mono ?_
  rintro e w' ⟨rfl, rfl⟩
  rw [no_1]
  go_wp2_with fail
  refine (newer_any _ _ _).mono ?_
  rintro e w' ⟨rfl, rfl⟩
  rw [ah_1]
  go_wp2_with fail
  go_ret
  exact ⟨rfl, rfl⟩
end Go.Proofs.Ytkkegdbkadkecaa

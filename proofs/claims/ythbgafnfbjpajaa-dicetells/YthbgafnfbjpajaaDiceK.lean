/- What is known of package dice, by the law's own 'known'. -/
import Derived.Test.YthbgafnfbjpajaaDice
namespace Go.Proofs.Ythbgafnfbjpajaa
open Go.RowKit
theorem di_1 : Dice.next 0 = 1442695040888963407 := by decide
theorem di_2 : Dice.num 1442695040888963407 = 167951807 := by decide
theorem di_3 : Dice.seed 3 = 7 := by decide
theorem known_any (w : World) : Calls Try.prog 9 #[] w fun e w' => e = .returned (.bool true) ∧ w = w' := by
  go_enter Try.func9, Try.ntmps9
  go_wp2_with fail
  refine (next_any _ _).mono ?_
  rintro e w' ⟨rfl, rfl⟩
  rw [di_1, di_2]
  go_wp2_with fail
  refine (seed_any _ _).mono ?_
  rintro e w' ⟨rfl, rfl⟩
  rw [di_3]
  go_wp2_with fail
  go_ret
  exact ⟨rfl, rfl⟩
end Go.Proofs.Ythbgafnfbjpajaa

/- The law's own helper 'known'. -/
import Derived.Test.YtakcajmkgdoofaaTrap
namespace Go.Proofs.Ytakcajmkgdoofaa
open Go.RowKit

theorem known1 (w : World) : Calls Try.prog 32 #[] w fun e w' => e = .panicked [{ v := thrownV 5 2, recovered := false }] ∧ w' = w := by
  go_enter Try.func32, Try.ntmps32
  go_wp2_with fail
  refine (throw_any _ _ _).mono ?_
  rintro e w' ⟨rfl, rfl⟩
  exact ⟨rfl, rfl, rfl⟩
theorem known2 (w : World) : Calls Try.prog 33 #[] w fun e w' => e = .returned (.tuple #[]) ∧ w' = w := by
  go_enter Try.func33, Try.ntmps33
  go_wp2_with fail
  go_end0
  exact ⟨rfl, rfl⟩
theorem known_any (w : World) : Calls Try.prog 8 #[] w fun e w' => e = .returned (.bool true) ∧ Only [] w w' := by
  have hnot : ∀ (x : Bool) (w : World), (Op.unary .not (.bool x)).run Try.prog w = .ok (.bool (!x)) w := fun _ _ => rfl
  go_enter Try.func8, Try.ntmps8
  go_wp2_with fail
  refine catch_any 32 #[] [] _ (by simp) (by simp) (by simp [go_sem]) ?_
  refine (known1 _).mono ?_
  rintro e w2 ⟨rfl, rfl⟩
  refine ⟨Only.refl _ _, _, .thrown 5 2 [] (by simp), ?_⟩
  intro w3 o3
  have o3 : Only [] w w3 := (inCatch_only w).then o3 (by simp)
  go_wp2_with fail
  obtain ⟨w4, e4⟩ : ∃ w4, w4 = w3.alloc (.cells #[.int .i64 5, .int .i64 2] 24) := ⟨_, rfl⟩
  have b4 : Two w4 w3.heap.size (.int .i64 5) (.int .i64 2) := e4 ▸ Two.new _ _ _ _
  have o4 : Only [] w w4 := e4 ▸ o3.alloc _
  have s4 : w4.heap.size = w3.heap.size + 1 := by rw [e4]; simp
  rw [← e4]
  refine catch_any 33 #[] [] _ (by simp) (by simp) (by simp [go_sem]) ?_
  refine (known2 _).mono ?_
  rintro e w5 ⟨rfl, rfl⟩
  refine ⟨Only.refl _ _, _, .none _, ?_⟩
  intro w6 o6
  have o46 : Only [] w4 w6 := (inCatch_only w4).then o6 (by simp)
  have b6 := b4.only o46 (by simp)
  have c0 := fun o => (b6.alloc o).cell0
  have c1 := fun o => (b6.alloc o).cell1
  have o6 := o4.trans o46
  clear e4 b4 b6 o46 o4 s4 o3
  go_wp2_with fail
  go_ret
  exact ⟨rfl, o6.alloc _⟩
end Go.Proofs.Ytakcajmkgdoofaa

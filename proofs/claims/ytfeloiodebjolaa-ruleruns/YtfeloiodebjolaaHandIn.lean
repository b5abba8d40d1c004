/- The hand: Input. -/
import Derived.Test.YtfeloiodebjolaaPick
import Derived.Test.YtfeloiodebjolaaM0
namespace Go.Proofs.Ytfeloiodebjolaa
open Go.RowKit
set_option linter.unusedVariables false
set_option maxRecDepth 100000 in
theorem inp_any (n m : Int) (w : World) : Calls Try.prog 14 #[.int .i64 n, .int .i64 m] w fun e w' => e = .returned (.agg #[.int .i64 (n % 256), .int .i64 (m % 129 - 64), .int .i64 (wrap64 (m.tdiv 129) % 129 - 64)]) ∧ Only [] w w' := by
  have w1 : ∀ n : Int, IntKind.i64.wrap (n % 129 - 64) = n % 129 - 64 := fun n => IntWalk.i64_in _ (by omega)
  go_enter Try.func14, Try.ntmps14
  go_wp2_with fail
  refine (pick_any _ _ (by omega) (by omega) _).mono ?_
  rintro e w' ⟨rfl, rfl⟩
  go_wp2_with fail
  refine (pick_any _ _ (by omega) (by omega) _).mono ?_
  rintro e w' ⟨rfl, rfl⟩
  go_wp2_with fail
  refine (pick_any _ _ (by omega) (by omega) _).mono ?_
  rintro e w' ⟨rfl, rfl⟩
  go_wp2_with fail
  refine bodyPost_ret (v := .agg #[.int .i64 (n % 256), .int .i64 (m % 129 - 64), .int .i64 (wrap64 (m.tdiv 129) % 129 - 64)]) (by simp [results, Try.results14, go_sem]) rfl ⟨rfl, (Only.refl _ _).alloc _⟩
end Go.Proofs.Ytfeloiodebjolaa

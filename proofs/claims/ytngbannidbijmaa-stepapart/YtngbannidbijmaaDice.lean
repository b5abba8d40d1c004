/- Package dice as plain functions, and its calls. -/
import Derived.Test.YtngbannidbijmaaDiceA
namespace Go.Proofs.Ytngbannidbijmaa
open Go.RowKit
theorem seed_any (n : Int) (w : World) : Calls Try.prog 28 #[.int .i64 n] w fun e w' => e = .returned (.int .u64 (Dice.seed n)) ∧ w = w' := by
  have e : IntKind.u64.wrap (IntKind.u64.wrap (IntKind.u64.wrap n * 2) + 1) = Dice.seed n := by simp only [wrap_u64, Dice.seed]; omega
  have H : Hid _ := e
  clear e
  go_enter Try.func28, Try.ntmps28
  go_wp2_with fail
  go_ret
  exact ⟨one_s H.out, rfl⟩
end Go.Proofs.Ytngbannidbijmaa

/- Package seq: Norm and Ahead. -/
import Derived.Test.YtfikpkoocbiinaaRows
import Derived.WalkKit
import Derived.ProofKit
import Derived.Below
import Derived.WalkLawsBesides
namespace Go.Proofs.Ytfikpkoocbiinaa
open Go.RowKit

def norm (n : Int) : Int := n % 65536
def ahead (a b : Int) : Int := (a - b + 32768) % 65536 - 32768
theorem ret_s {k : IntKind} {a b : Int} (h : a = b) : Ending.returned (.int k a) = .returned (.int k b) := by rw [h]
theorem wrap_16 (n : Int) : IntKind.u16.wrap n = n % 65536 := by simp [IntKind.wrap, IntKind.bits, IntKind.signed]
theorem wrap_s16 (n : Int) : IntKind.i16.wrap n = (n + 32768) % 65536 - 32768 := by
  simp [IntKind.wrap, IntKind.bits, IntKind.signed]
  split <;> omega
theorem norm_rng (n : Int) : 0 ≤ norm n ∧ norm n ≤ 65535 := by unfold norm; omega
theorem ahead_rng (a b : Int) : -32768 ≤ ahead a b ∧ ahead a b ≤ 32767 := by unfold ahead; omega

theorem norm_any (n : Int) (w : World) : Calls Try.prog 17 #[.int .i64 n] w fun e w' => e = .returned (.int .i64 (norm n)) ∧ w = w' := by
  go_enter Try.func17, Try.ntmps17
  go_wp2
  go_ret
  refine ⟨ret_s ?_, rfl⟩
  rw [wrap_16]
  unfold norm wrap64
  omega
theorem ahead_any (a b : Int) (w : World) : Calls Try.prog 18 #[.int .i64 a, .int .i64 b] w fun e w' => e = .returned (.int .i64 (ahead a b)) ∧ w = w' := by
  go_enter Try.func18, Try.ntmps18
  go_wp2
  go_ret
  refine ⟨ret_s ?_, rfl⟩
  rw [wrap_s16]
  unfold ahead wrap64
  omega
end Go.Proofs.Ytfikpkoocbiinaa

/- The hand's Pick. -/
import Derived.Test.YtngbannidbijmaaRows
import Derived.WalkKit
import Derived.ProofKit
import Derived.Below
import Derived.WalkLawsBesides
namespace Go.Proofs.Ytngbannidbijmaa
open Go.RowKit
theorem ret_int {a b : Int} (h : a = b) : Ending.returned (.int .i64 a) = .returned (.int .i64 b) := by rw [h]

theorem pick_any (n m : Int) (hm : 0 < m) (hm2 : m ≤ 1152921504606846976) (w : World) :
    Calls Try.prog 24 #[.int .i64 n, .int .i64 m] w fun e w' => e = .returned (.int .i64 (n % m)) ∧ w = w' := by
  have b1 := Int.emod_nonneg n (show m ≠ 0 by omega)
  have b2 := Int.emod_lt_of_pos n hm
  have h1 : ¬ m = 0 := by omega
  by_cases c : n.tmod m < 0
  · have e : n.tmod m + m = n % m := by
      rw [Int.tmod_eq_emod] at c ⊢
      split at c
      · omega
      · rename_i h
        have : (m.natAbs : Int) = m := by omega
        rw [if_neg h]; omega
    have e2 : -1152921504606846976 ≤ n.tmod m := by omega
    have H : Hid _ := e
    clear e b1 b2
    go_enter Try.func24, Try.ntmps24
    go_wp2
    go_ret
    exact ⟨ret_int H.out, rfl⟩
  · have e : n.tmod m = n % m := by
      rw [Int.tmod_eq_emod] at c ⊢
      split
      · omega
      · rename_i h
        rw [if_neg h] at c
        have : (m.natAbs : Int) = m := by omega
        omega
    have e2 : n.tmod m ≤ 1152921504606846976 := by omega
    have H : Hid _ := e
    clear e b1 b2
    go_enter Try.func24, Try.ntmps24
    go_wp2
    go_ret
    exact ⟨ret_int H.out, rfl⟩
end Go.Proofs.Ytngbannidbijmaa

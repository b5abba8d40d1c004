/- What is known of package body, by the law's own 'known'. -/
import Derived.Test.YtpbckiijmoellaaBodyM
namespace Go.Proofs.Ytpbckiijmoellaa
open Go.RowKit
set_option linter.unusedVariables false
theorem bk_1 : Body.born 0 1 = ⟨1, 0, 2048, 2048, 0, 0, 0, 0, 0, 0, 0, 0⟩ := by decide
theorem bk_2 : Body.push ⟨1, 0, 2048, 2048, 0, 0, 0, 0, 0, 0, 0, 0⟩ 3 (-200) = ⟨1, 0, 2048, 2048, 3, -64, 0, 0, 0, 0, 0, 0⟩ := by decide
theorem bk_3 : Body.move ⟨1, 0, 2048, 2048, 3, -64, 0, 0, 0, 0, 0, 0⟩ = (⟨1, 0, 2051, 1984, 3, -64, 1, 0, 0, 0, 0, 0⟩, true) := by decide
theorem bk_4 : ((⟨1, 0, 2051, 1984, 3, -64, 1, 0, 0, 0, 0, 0⟩ : Bd) == Body.zero || Body.some ⟨1, 0, 2051, 1984, 3, -64, 1, 0, 0, 0, 0, 0⟩) = true := by decide
theorem bk_5 (w : World) : (binOp .eql 27 (.agg #[.int .i64 1, .int .i64 0, .int .i64 2048, .int .i64 2048, .int .i64 0, .int .i64 0, .int .i64 0, .int .i64 0, .int .i64 0, .int .i64 0, .int .i64 0, .int .i64 0]) (.agg #[.int .i64 1, .int .i64 0, .int .i64 2048, .int .i64 2048, .int .i64 0, .int .i64 0, .int .i64 0, .int .i64 0, .int .i64 0, .int .i64 0, .int .i64 0, .int .i64 0])).run Try.prog w = .ok (.bool true) w :=
  eq_bd ⟨1, 0, 2048, 2048, 0, 0, 0, 0, 0, 0, 0, 0⟩ ⟨1, 0, 2048, 2048, 0, 0, 0, 0, 0, 0, 0, 0⟩ w
set_option maxRecDepth 100000 in
set_option maxHeartbeats 4000000 in
theorem known_any (w : World) : Calls Try.prog 7 #[] w fun e w' => e = .returned (.bool true) ∧ Only [] w w' := by
  have q := bk_5
  go_enter Try.func7, Try.ntmps7
  go_wp2_with fail
  refine (born_any _ _ _).mono ?_
  rintro e w1 ⟨rfl, o1⟩
  rw [bk_1]
  have H1 : Hid (Bl (w1.alloc (.cells #[.int .i64 1, .int .i64 0, .int .i64 2048, .int .i64 2048, .int .i64 0, .int .i64 0, .int .i64 0, .int .i64 0, .int .i64 0, .int .i64 0, .int .i64 0, .int .i64 0] 27)) w1.heap.size ⟨1, 0, 2048, 2048, 0, 0, 0, 0, 0, 0, 0, 0⟩ ∧ Only [] w (w1.alloc (.cells #[.int .i64 1, .int .i64 0, .int .i64 2048, .int .i64 2048, .int .i64 0, .int .i64 0, .int .i64 0, .int .i64 0, .int .i64 0, .int .i64 0, .int .i64 0, .int .i64 0] 27))) := ⟨Bl.new ⟨1, 0, 2048, 2048, 0, 0, 0, 0, 0, 0, 0, 0⟩ _ _, o1.alloc _⟩
  clear o1
  go_wp2_with fail
  generalize w1.alloc (.cells #[.int .i64 1, .int .i64 0, .int .i64 2048, .int .i64 2048, .int .i64 0, .int .i64 0, .int .i64 0, .int .i64 0, .int .i64 0, .int .i64 0, .int .i64 0, .int .i64 0] 27) = W1 at *
  generalize w1.heap.size = p1 at *
  refine (push_any ⟨1, 0, 2048, 2048, 0, 0, 0, 0, 0, 0, 0, 0⟩ _ _ _).mono ?_
  rintro e w2 ⟨rfl, o2⟩
  rw [bk_2]
  have H2 : Hid (Bl w2 p1 ⟨1, 0, 2048, 2048, 0, 0, 0, 0, 0, 0, 0, 0⟩ ∧ Only [] w w2) := ⟨H1.out.1.only o2 (by simp), H1.out.2.trans o2⟩
  clear o2 H1
  go_wp2_with fail
  refine (move_any ⟨1, 0, 2048, 2048, 3, -64, 0, 0, 0, 0, 0, 0⟩ _).mono ?_
  rintro e w3 ⟨rfl, o3⟩
  rw [bk_3]
  have H3 : Hid (Bl w3 p1 ⟨1, 0, 2048, 2048, 0, 0, 0, 0, 0, 0, 0, 0⟩ ∧ Only [] w w3) := ⟨H2.out.1.only o3 (by simp), H2.out.2.trans o3⟩
  clear o3 H2
  obtain ⟨c0, c1, c2, c3, c4, c5, c6, c7, c8, c9, c10, c11⟩ := H3.out.1.all
  dsimp only at c0 c1 c2 c3 c4 c5 c6 c7 c8 c9 c10 c11
  have lt := H3.out.1.lt
  go_wp2_with fail
  refine (right_any ⟨1, 0, 2051, 1984, 3, -64, 1, 0, 0, 0, 0, 0⟩ _).mono ?_
  rintro e w4 ⟨rfl, o4⟩
  rw [bk_4]
  have O4 : Hid (Only [] w w4) := (H3.out.2.alloc _).trans o4
  clear o4 H3
  go_wp2_with fail
  go_ret
  exact ⟨rfl, O4.out⟩
end Go.Proofs.Ytpbckiijmoellaa

/- Right bodies stay right. -/
import Derived.Test.YtngbannidbijmaaBodyM
import Derived.Test.YtngbannidbijmaaBodyH
namespace Go.Proofs.Ytngbannidbijmaa
open Go.RowKit
set_option linter.unusedVariables false
theorem neq_mem (a b c d : Int) (w : World) : (binOp .neq 31 (.agg #[.int .i64 a, .int .i64 b, .int .i64 c, .int .i64 d]) (.agg #[.int .i64 a, .int .i64 b, .int .i64 c, .int .i64 d])).run Try.prog w = .ok (.bool false) w := by
  simp only [binOp, Op.equal, Op.maxDepth, Sem.run_bind, eq_mem w 9998 a b c d a b c d, Result.andThen_ok, Sem.run_pure]
  simp
theorem hit_symm (a b : Bd) : Body.hit a b = Body.hit b a := by
  rw [Bool.eq_iff_iff]
  simp only [Body.hit, Body.btw, Bool.and_eq_true, Bool.not_eq_true', beq_eq_false_iff_ne, decide_eq_true_eq]
  constructor
  · rintro ⟨⟨⟨⟨⟨h1, h2⟩, h3⟩, h4⟩, h5⟩, h6⟩
    exact ⟨⟨⟨⟨⟨h2, h1⟩, fun h => h3 h.symm⟩, fun h => h4 h.symm⟩, by omega⟩, by omega⟩
  · rintro ⟨⟨⟨⟨⟨h1, h2⟩, h3⟩, h4⟩, h5⟩, h6⟩
    exact ⟨⟨⟨⟨⟨h2, h1⟩, fun h => h3 h.symm⟩, fun h => h4 h.symm⟩, by omega⟩, by omega⟩
theorem hit_self (a : Bd) : Body.hit a a = false := by simp [Body.hit]
namespace Body
def right (b : Bd) : Bool := b == zero || some b
theorem right_some {b : Bd} (h : right b = true) (k : ¬ b.k = 0) : some b = true := by
  unfold right at h
  simp only [Bool.or_eq_true, beq_iff_eq] at h
  rcases h with rfl | h
  · exact absurd rfl k
  · exact h
theorem right_of {b : Bd} (h : some b = true) : right b = true := by unfold right; rw [h]; simp
theorem Ok.pushed {b : Bd} (h : Ok b) (x y : Int) : Ok (pushed b x y) :=
  ⟨h.k, h.o, h.x, h.y, within_rng _ _ _ (by omega), within_rng _ _ _ (by omega), h.age, h.f, h.m0, h.m1, h.m2, h.m3⟩
theorem older_rng {n : Int} (h : 0 ≤ n ∧ n ≤ 600) : 0 ≤ older n ∧ older n ≤ 600 := by unfold older; split <;> omega
theorem bounce_rng {p s : Int} (h : -64 ≤ s ∧ s ≤ 64) : (0 ≤ (bounce p s).1 ∧ (bounce p s).1 ≤ 4095) ∧ (-64 ≤ (bounce p s).2 ∧ (bounce p s).2 ≤ 64) := by
  unfold bounce
  split
  · rename_i g
    simp only [btw, Bool.and_eq_true, decide_eq_true_eq] at g
    exact ⟨g, h⟩
  · exact ⟨within_rng _ _ _ (by omega), by simp only; omega⟩
theorem Ok.kept {b : Bd} (h : Ok b) : Ok (kept b) :=
  ⟨h.k, h.o, (bounce_rng h.vx).1, (bounce_rng h.vy).1, (bounce_rng h.vx).2, (bounce_rng h.vy).2, older_rng h.age, h.f, h.m0, h.m1, h.m2, h.m3⟩
theorem Ok.fly {b : Bd} (h : Ok b) (g : gone b = false) : Ok (fly b) ∧ older b.age ≤ 40 := by
  simp only [gone, btw, Bool.or_eq_false_iff, Bool.not_eq_false', Bool.and_eq_true, decide_eq_true_eq, decide_eq_false_iff_not] at g
  obtain ⟨⟨g1, g2⟩, g3⟩ := g
  exact ⟨⟨h.k, h.o, g2, g3, h.vx, h.vy, older_rng h.age, h.f, h.m0, h.m1, h.m2, h.m3⟩, by omega⟩
end Body
end Go.Proofs.Ytngbannidbijmaa

/- Package body's other calls. -/
import Derived.Test.YtngbannidbijmaaBody
import Derived.Test.YtngbannidbijmaaEqAgg
namespace Go.Proofs.Ytngbannidbijmaa
open Go.RowKit
set_option linter.unusedVariables false

set_option maxRecDepth 100000 in
theorem eq_mem (w : World) (d : Nat) (a0 a1 a2 a3 b0 b1 b2 b3 : Int) : (Op.equalIn (d + 2) 31 (.agg #[.int .i64 a0, .int .i64 a1, .int .i64 a2, .int .i64 a3]) (.agg #[.int .i64 b0, .int .i64 b1, .int .i64 b2, .int .i64 b3])).run Try.prog w = .ok (a0 == b0 && (a1 == b1 && (a2 == b2 && a3 == b3))) w := by
  have hi : ∃ i, Try.prog.info? 3 = .some i := info_of_underlying Try.underlying3
  obtain ⟨i, hi⟩ := hi
  have hc : Try.prog.cellsOf 3 = 1 := by kernel_rfl
  rw [run_equalIn_array w (d + 1) _ _ Try.underlying31 hi, hc]
  have := eqItems_all (P := Try.prog) w (d + 1) 3 1 #[.int .i64 a0, .int .i64 a1, .int .i64 a2, .int .i64 a3] #[.int .i64 b0, .int .i64 b1, .int .i64 b2, .int .i64 b3] (fun i => .int .i64 ([a0, a1, a2, a3].getD i 0)) (fun i => .int .i64 ([b0, b1, b2, b3].getD i 0)) (fun i => [a0, a1, a2, a3].getD i 0 == [b0, b1, b2, b3].getD i 0) (List.range 4) (by
    intro i hi
    have : i < 4 := by simpa using hi
    have h4 : i = 0 ∨ i = 1 ∨ i = 2 ∨ i = 3 := by omega
    refine ⟨?_, ?_, run_equalIn_int w d 3 .i64 .i64 _ _ Try.underlying3⟩
    · rcases h4 with rfl | rfl | rfl | rfl <;> rfl
    · rcases h4 with rfl | rfl | rfl | rfl <;> rfl)
  rw [this]
  simp [List.range, List.range.loop]
set_option maxRecDepth 100000 in
theorem eq_in (w : World) (d : Nat) (a b : Bd) : (Op.equalIn (d + 3) 33 a.v b.v).run Try.prog w = .ok (a == b) w := by
  have hu := Try.underlying33
  have hs : Try.prog.stoodInHeld 33 = false := by kernel_rfl
  rw [run_equalIn_struct w (d + 2) 33 _ _ (by simp only [Program.fieldsOf, hu]) hs]
  simp only [Program.fieldsOf, hu]
  have q : ∀ a b : Int, (Op.equalIn (d + 2) 3 (.int .i64 a) (.int .i64 b)).run Try.prog w = .ok (a == b) w := fun a b => run_equalIn_int w (d + 1) 3 .i64 .i64 a b Try.underlying3
  refine (eqFields_cons w _ _ _ _ _ (by decide) _ _ _ _ rfl rfl (q _ _) <| eqFields_cons w _ _ _ _ _ (by decide) _ _ _ _ rfl rfl (q _ _) <| eqFields_cons w _ _ _ _ _ (by decide) _ _ _ _ rfl rfl (q _ _) <| eqFields_cons w _ _ _ _ _ (by decide) _ _ _ _ rfl rfl (q _ _) <| eqFields_cons w _ _ _ _ _ (by decide) _ _ _ _ rfl rfl (q _ _) <| eqFields_cons w _ _ _ _ _ (by decide) _ _ _ _ rfl rfl (q _ _) <| eqFields_cons w _ _ _ _ _ (by decide) _ _ _ _ rfl rfl (q _ _) <| eqFields_cons w _ _ _ _ _ (by decide) _ _ _ _ rfl rfl (eq_mem w d _ _ _ _ _ _ _ _) <| eqFields_cons w _ _ _ _ _ (by decide) _ _ _ _ rfl rfl (q _ _) <| eqFields_nil w _ _ _).trans ?_
  congr 1
  obtain ⟨k, o, x, y, vx, vy, age, m0, m1, m2, m3, f⟩ := a
  obtain ⟨k', o', x', y', vx', vy', age', m0', m1', m2', m3', f'⟩ := b
  rw [Bool.eq_iff_iff]
  simp only [Bool.and_eq_true, beq_iff_eq, Bd.mk.injEq, and_true]
  constructor
  · rintro ⟨h1, h2, h3, h4, h5, h6, h7, ⟨h8, h9, h10, h11⟩, h12⟩
    exact ⟨h1, h2, h3, h4, h5, h6, h7, h8, h9, h10, h11, h12⟩
  · rintro ⟨h1, h2, h3, h4, h5, h6, h7, h8, h9, h10, h11, h12⟩
    exact ⟨h1, h2, h3, h4, h5, h6, h7, ⟨h8, h9, h10, h11⟩, h12⟩
theorem eq_bd (a b : Bd) (w : World) : (binOp .eql 33 a.v b.v).run Try.prog w = .ok (.bool (a == b)) w := by
  simp only [binOp, Op.equal, Op.maxDepth, Sem.run_bind, eq_in w 9997 a b, Result.andThen_ok, Sem.run_pure]
theorem eq_zero {b : Bd} {z : Bool} (h : (b == Body.zero) = z) (w : World) : (binOp .eql 33 b.v (.agg #[.int .i64 0, .int .i64 0, .int .i64 0, .int .i64 0, .int .i64 0, .int .i64 0, .int .i64 0, .int .i64 0, .int .i64 0, .int .i64 0, .int .i64 0, .int .i64 0])).run Try.prog w = .ok (.bool z) w := by rw [← h]; exact eq_bd b Body.zero w
theorem right_any (b : Bd) (w : World) : Calls Try.prog 23 #[b.v] w fun e w' => e = .returned (.bool (b == Body.zero || Body.some b)) ∧ Only [] w w' := by
  obtain ⟨z, hz⟩ : ∃ z, (b == Body.zero) = z := ⟨_, rfl⟩
  have q := eq_zero hz
  rw [hz]
  clear hz
  cases z
  · go_enter Try.func23, Try.ntmps23
    go_wp2_with fail
    refine (somebody_any b _).mono ?_
    rintro e w' ⟨rfl, o⟩
    go_wp2_with fail
    go_ret
    exact ⟨rfl, ((Only.refl _ _).alloc _).trans o⟩
  · go_enter Try.func23, Try.ntmps23
    go_wp2_with fail
    go_ret
    exact ⟨rfl, (Only.refl _ _).alloc _⟩
end Go.Proofs.Ytngbannidbijmaa

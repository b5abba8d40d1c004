/- Package rule: two Envs held against each other, as the law does. -/
import Derived.Test.YtfeloiodebjolaaRuleP
namespace Go.Proofs.Ytfeloiodebjolaa
open Go.RowKit
set_option linter.unusedVariables false

theorem neq_bd (a b : Bd) (w : World) : (binOp .neq 34 a.v b.v).run Try.prog w = .ok (.bool (a != b)) w := by
  simp only [binOp, Op.equal, Op.maxDepth, Sem.run_bind, eq_in w 9997 a b, Result.andThen_ok, Sem.run_pure]
  rfl
set_option maxRecDepth 100000 in
theorem neq_in (a b c a' b' c' : Int) (w : World) : (binOp .neq 36 (.agg #[.int .i64 a, .int .i64 b, .int .i64 c]) (.agg #[.int .i64 a', .int .i64 b', .int .i64 c'])).run Try.prog w = .ok (.bool (!(a == a' && (b == b' && c == c')))) w := by
  have hu := Try.underlying36
  have hs : Try.prog.stoodInHeld 36 = false := by kernel_rfl
  have q : ∀ a b : Int, (Op.equalIn 9999 3 (.int .i64 a) (.int .i64 b)).run Try.prog w = .ok (a == b) w := fun a b => run_equalIn_int w 9998 3 .i64 .i64 a b Try.underlying3
  have key : (Op.equalIn 10000 36 (.agg #[.int .i64 a, .int .i64 b, .int .i64 c]) (.agg #[.int .i64 a', .int .i64 b', .int .i64 c'])).run Try.prog w = .ok (a == a' && (b == b' && (c == c' && true))) w := by
    rw [run_equalIn_struct w 9999 36 _ _ (by simp only [Program.fieldsOf, hu]) hs]
    simp only [Program.fieldsOf, hu]
    exact eqFields_cons w _ _ _ _ _ (by decide) _ _ _ _ rfl rfl (q _ _) <| eqFields_cons w _ _ _ _ _ (by decide) _ _ _ _ rfl rfl (q _ _) <| eqFields_cons w _ _ _ _ _ (by decide) _ _ _ _ rfl rfl (q _ _) <| eqFields_nil w _ _ _
  simp only [binOp, Op.equal, Op.maxDepth, Sem.run_bind, key, Result.andThen_ok, Sem.run_pure, Bool.and_true]
/-- the body at a place -/
theorem SR.at_ {B : Nat} {w : World} {a : Option Addr} {n cap : Nat} {xs : List Bd} (h : SR B w (.slice a n cap) xs) (i : Nat) (hi : i < xs.length) : ∃ g, a = some ⟨g, 0, none⟩ ∧ g < w.heap.size ∧ ∀ j v, ((xs.getD i Body.zero).cells)[j]? = some v → w.cell? ⟨g, i * 12 + j, none⟩ = some v := by
  rcases h.2 with ⟨_, h0⟩ | ⟨g, cap', cur, e, h1, h2, h3, h4, h5, h6⟩
  · omega
  · injection e with e1 e2 e3
    refine ⟨g, e1, (Array.getElem?_eq_some_iff.1 h2).1, fun j v hj => ?_⟩
    have hjl : j < 12 := by have := (List.getElem?_eq_some_iff.1 hj).1; simpa [Bd.cells] using this
    have hc := World.ownsRow.cells h (g := g) (by rw [e1]; rfl) (i * 12 + j) v ?_
    · rwa [Addr.add_lit, Nat.zero_add] at hc
    · have key : ∀ (ys : List Bd) (i : Nat), i < ys.length → (flatB ys)[i * 12 + j]? = ((ys.getD i Body.zero).cells)[j]? := by
        intro ys
        induction ys with
        | nil => intro i hi; simp at hi
        | cons y ys ih =>
          intro i hi
          rw [flatB, List.flatMap_cons]
          change (y.cells ++ flatB ys)[_]? = _
          cases i with
          | zero => rw [List.getElem?_append_left (by simp [Bd.cells]; omega)]; simp
          | succ i =>
            rw [List.getElem?_append_right (by simp [Bd.cells]; omega), show (i + 1) * 12 + j - y.cells.length = i * 12 + j by simp [Bd.cells]; omega, ih i (by simpa using hi)]
            simp
      rw [key xs i hi]; exact hj
end Go.Proofs.Ytfeloiodebjolaa

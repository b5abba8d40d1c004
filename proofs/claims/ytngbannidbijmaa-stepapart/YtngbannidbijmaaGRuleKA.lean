/- Ops just laid, as they read. Faults held against each other. -/
import Derived.Test.YtngbannidbijmaaGRuleO
namespace Go.Proofs.Ytngbannidbijmaa
open Go.RowKit
set_option linter.unusedVariables false

def flatO (l : List Op3) : List Value := l.flatMap Op3.cells
theorem flatO_get (l : List Op3) : ∀ i j, i < l.length → j < 3 → (flatO l)[i * 3 + j]? = ((l.getD i ⟨0, 0, 0⟩).cells)[j]? := by
  induction l with
  | nil => intro i j hi; simp at hi
  | cons y ys ih =>
    intro i j hi hj
    rw [flatO, List.flatMap_cons]
    change (y.cells ++ flatO ys)[_]? = _
    cases i with
    | zero => rw [List.getElem?_append_left (by simp [Op3.cells]; omega)]; simp
    | succ i =>
      rw [List.getElem?_append_right (by simp [Op3.cells]; omega), show (i + 1) * 3 + j - y.cells.length = i * 3 + j by simp [Op3.cells]; omega, ih i j (by simpa using hi) hj]
      simp
theorem RdO.of_blk {B b : Nat} {w : World} {l : List Op3} (h : Blk w b (flatO l)) (hb : b < B) {cap : Nat} (hc : l.length ≤ cap) : RdO B w (.slice (some ⟨b, 0, none⟩) l.length cap) l := by
  refine ⟨_, cap, rfl, hc, Or.inr ⟨b, 0, rfl, hb, h.lt, fun i hi => ?_⟩⟩
  refine ⟨?_, ?_, ?_⟩
  · rw [Nat.zero_add, h.cell, show i * 3 = i * 3 + 0 by omega, flatO_get l i 0 hi (by omega)]; rfl
  · rw [Nat.zero_add, h.cell, flatO_get l i 1 hi (by omega)]; rfl
  · rw [Nat.zero_add, h.cell, flatO_get l i 2 hi (by omega)]; rfl
theorem rdo_new {w W : World} (l : List Op3) (o : Only [] (w.alloc (.cells (flatO l).toArray 23)) W) : RdO W.heap.size W (.slice (some ⟨w.heap.size, 0, none⟩) l.length l.length) l :=
  RdO.of_blk ((Blk.new w (flatO l).toArray _).only o (by simp)) (by have := o.size; simp at this; omega) (Nat.le_refl _)

theorem rdo_at {w W : World} {p : Nat} (hp : w.heap.size = p) (l : List Op3) (o : Only [] (w.alloc (.cells (flatO l).toArray 23)) W) : RdO W.heap.size W (.slice (some ⟨p, 0, none⟩) l.length l.length) l := hp ▸ rdo_new l o
end Go.Proofs.Ytngbannidbijmaa
namespace Go.Proofs.Ytngbannidbijmaa
open Go.RowKit
set_option linter.unusedVariables false
set_option maxRecDepth 100000 in
theorem eq_flt (a b c d : Int) (w : World) : (binOp .eql 110 (.agg #[.int .i64 a, .int .i64 b]) (.agg #[.int .i64 c, .int .i64 d])).run Try.prog w = .ok (.bool (a == c && b == d)) w := by
  have hu := Try.underlying110
  have hs : Try.prog.stoodInHeld 110 = false := by kernel_rfl
  have q : ∀ a b : Int, (Op.equalIn 9999 3 (.int .i64 a) (.int .i64 b)).run Try.prog w = .ok (a == b) w := fun a b => run_equalIn_int w 9998 3 .i64 .i64 a b Try.underlying3
  have key : (Op.equalIn 10000 110 (.agg #[.int .i64 a, .int .i64 b]) (.agg #[.int .i64 c, .int .i64 d])).run Try.prog w = .ok (a == c && (b == d && true)) w := by
    rw [run_equalIn_struct w 9999 110 _ _ (by simp only [Program.fieldsOf, hu]) hs]
    simp only [Program.fieldsOf, hu]
    exact eqFields_cons w _ _ _ _ _ (by decide) _ _ _ _ rfl rfl (q _ _) <| eqFields_cons w _ _ _ _ _ (by decide) _ _ _ _ rfl rfl (q _ _) <| eqFields_nil w _ _ _
  simp only [binOp, Op.equal, Op.maxDepth, Sem.run_bind, key, Result.andThen_ok, Sem.run_pure, Bool.and_true]
theorem idx1 (p : Nat) (w : World) : (Instr.indexAt 31 (.pointer (some ⟨p, 7, none⟩)) (.int .i64 1)).run Try.prog w = .ok (.pointer (some ⟨p, 8, none⟩)) w := by kernel_rfl
end Go.Proofs.Ytngbannidbijmaa

/- States held against each other. -/
import Derived.Test.YtngbannidbijmaaStepV
import Derived.Test.YtngbannidbijmaaEqAgg
namespace Go.Proofs.Ytngbannidbijmaa
open Go.RowKit
set_option linter.unusedVariables false

set_option maxRecDepth 100000 in
theorem part_body {bs : List Bd} (h : bs.length = 16) {i : Nat} (hi : i < 16) (w : World) : (part 33 (flatB bs).toArray (i * 12)).run Try.prog w = .ok (bs.getD i Body.zero).v w := by
  obtain ⟨a0, a1, a2, a3, a4, a5, a6, a7, b0, b1, b2, b3, b4, b5, b6, b7, rfl⟩ := list16 h
  rcases lt16 hi with rfl | rfl | rfl | rfl | rfl | rfl | rfl | rfl | rfl | rfl | rfl | rfl | rfl | rfl | rfl | rfl <;> (show _ = _; kernel_rfl)
set_option maxRecDepth 100000 in
theorem part_score {sc : List Int} (h : sc.length = 8) {i : Nat} (hi : i < 8) (w : World) : (part 3 (nums sc).toArray (i * 1)).run Try.prog w = .ok (.int .i64 (sc.getD i 0)) w := by
  obtain ⟨a0, a1, a2, a3, a4, a5, a6, a7, rfl⟩ := list8 h
  rcases lt8 hi with rfl | rfl | rfl | rfl | rfl | rfl | rfl | rfl <;> (show _ = _; kernel_rfl)
theorem all_getD {α : Type} [DecidableEq α] {l m : List α} {n : Nat} (z : α) (h1 : l.length = n) (h2 : m.length = n) : ((List.range n).all fun i => l.getD i z == m.getD i z) = decide (l = m) := by
  rw [Bool.eq_iff_iff, List.all_eq_true, decide_eq_true_eq]
  constructor
  · intro h
    apply List.ext_getElem (h1.trans h2.symm)
    intro i hi hj
    have := h i (by rw [List.mem_range]; omega)
    simpa [List.getD_eq_getElem?_getD, hi, hj] using this
  · rintro rfl i _
    simp
theorem eq_bodies (w : World) (d : Nat) {bs bt : List Bd} (h1 : bs.length = 16) (h2 : bt.length = 16) : (Op.equalIn (d + 4) 34 (.agg (flatB bs).toArray) (.agg (flatB bt).toArray)).run Try.prog w = .ok (decide (bs = bt)) w := by
  obtain ⟨i, hi⟩ : ∃ i, Try.prog.info? 33 = .some i := info_of_underlying Try.underlying33
  have hc : Try.prog.cellsOf 33 = 12 := by kernel_rfl
  rw [run_equalIn_array w (d + 3) _ _ Try.underlying34 hi, hc]
  rw [eqItems_all (P := Try.prog) w (d + 3) 33 12 _ _ (fun i => (bs.getD i Body.zero).v) (fun i => (bt.getD i Body.zero).v) (fun i => bs.getD i Body.zero == bt.getD i Body.zero) (List.range 16) (fun i hi => by
    rw [List.mem_range] at hi
    exact ⟨part_body h1 hi w, part_body h2 hi w, eq_in w d _ _⟩)]
  rw [all_getD Body.zero h1 h2]
theorem eq_scores (w : World) (d : Nat) {sc sd : List Int} (h1 : sc.length = 8) (h2 : sd.length = 8) : (Op.equalIn (d + 4) 35 (.agg (nums sc).toArray) (.agg (nums sd).toArray)).run Try.prog w = .ok (decide (sc = sd)) w := by
  obtain ⟨i, hi⟩ : ∃ i, Try.prog.info? 3 = .some i := info_of_underlying Try.underlying3
  have hc : Try.prog.cellsOf 3 = 1 := by kernel_rfl
  rw [run_equalIn_array w (d + 3) _ _ Try.underlying35 hi, hc]
  rw [eqItems_all (P := Try.prog) w (d + 3) 3 1 _ _ (fun i => .int .i64 (sc.getD i 0)) (fun i => .int .i64 (sd.getD i 0)) (fun i => sc.getD i 0 == sd.getD i 0) (List.range 8) (fun i hi => by
    rw [List.mem_range] at hi
    exact ⟨part_score h1 hi w, part_score h2 hi w, run_equalIn_int w (d + 2) 3 .i64 .i64 _ _ Try.underlying3⟩)]
  rw [all_getD 0 h1 h2]
set_option maxRecDepth 100000 in
theorem parts_st {s : Gs} (h : Step.Wf s) (w : World) : (part 3 s.cells.toArray 0).run Try.prog w = .ok (.int .i64 s.fr) w ∧ (part 30 s.cells.toArray 1).run Try.prog w = .ok (.int .u64 s.d) w ∧ (part 34 s.cells.toArray 2).run Try.prog w = .ok (.agg (flatB s.bs).toArray) w ∧ (part 35 s.cells.toArray 194).run Try.prog w = .ok (.agg (nums s.sc).toArray) w := by
  obtain ⟨fr, d, bs, sc⟩ := s
  obtain ⟨h1, h2⟩ := h
  obtain ⟨x0, x1, x2, x3, x4, x5, x6, x7, y0, y1, y2, y3, y4, y5, y6, y7, rfl⟩ := list16 h1
  obtain ⟨z0, z1, z2, z3, z4, z5, z6, z7, rfl⟩ := list8 h2
  refine ⟨?_, ?_, ?_, ?_⟩ <;> (show _ = _; kernel_rfl)
set_option maxRecDepth 100000 in
set_option maxHeartbeats 4000000 in
theorem eq_stIn (w : World) (d : Nat) {s t : Gs} (h1 : Step.Wf s) (h2 : Step.Wf t) : (Op.equalIn (d + 5) 37 s.v t.v).run Try.prog w = .ok (decide (s = t)) w := by
  have hu := Try.underlying37
  have hs : Try.prog.stoodInHeld 37 = false := by kernel_rfl
  show (Op.equalIn (d + 5) 37 (.agg s.cells.toArray) (.agg t.cells.toArray)).run Try.prog w = _
  rw [run_equalIn_struct w (d + 4) 37 _ _ (by simp only [Program.fieldsOf, hu]) hs]
  simp only [Program.fieldsOf, hu]
  have q : ∀ a b : Int, (Op.equalIn (d + 4) 3 (.int .i64 a) (.int .i64 b)).run Try.prog w = .ok (a == b) w := fun a b => run_equalIn_int w (d + 3) 3 .i64 .i64 a b Try.underlying3
  have qu : ∀ a b : Int, (Op.equalIn (d + 4) 30 (.int .u64 a) (.int .u64 b)).run Try.prog w = .ok (a == b) w := fun a b => run_equalIn_int w (d + 3) 30 .u64 .u64 a b Try.underlying30
  obtain ⟨p1, p2, p3, p4⟩ := parts_st h1 w
  obtain ⟨r1, r2, r3, r4⟩ := parts_st h2 w
  generalize s.cells.toArray = S at *
  generalize t.cells.toArray = T at *
  refine (eqFields_cons w _ _ _ _ _ (by decide) _ _ _ _ p1 r1 (q _ _) <| eqFields_cons w _ _ _ _ _ (by decide) _ _ _ _ p2 r2 (qu _ _) <| eqFields_cons w _ _ _ _ _ (by decide) _ _ _ _ p3 r3 (eq_bodies w d h1.b h2.b) <| eqFields_cons w _ _ _ _ _ (by decide) _ _ _ _ p4 r4 (eq_scores w d h1.s h2.s) <| eqFields_nil w _ _ _).trans ?_
  congr 1
  obtain ⟨a1, a2, a3, a4⟩ := s
  obtain ⟨b1, b2, b3, b4⟩ := t
  rw [Bool.eq_iff_iff]
  simp only [Bool.and_eq_true, beq_iff_eq, decide_eq_true_eq, Gs.mk.injEq, and_true]
theorem eq_st {s t : Gs} (h1 : Step.Wf s) (h2 : Step.Wf t) (w : World) : (binOp .eql 37 s.v t.v).run Try.prog w = .ok (.bool (decide (s = t))) w := by
  have e := eq_stIn w 9995 h1 h2
  unfold Gs.v at e ⊢
  simp only [binOp, Op.equal, Op.maxDepth, Sem.run_bind, e, Result.andThen_ok, Sem.run_pure]
theorem neq_st {s t : Gs} (h1 : Step.Wf s) (h2 : Step.Wf t) (w : World) : (binOp .neq 37 s.v t.v).run Try.prog w = .ok (.bool (!decide (s = t))) w := by
  have e := eq_stIn w 9995 h1 h2
  unfold Gs.v at e ⊢
  simp only [binOp, Op.equal, Op.maxDepth, Sem.run_bind, e, Result.andThen_ok, Sem.run_pure]
theorem guard_st (op : BinOp) (x y : Operand) (a b : Array Value) (w : World) : (eqGuard op 37 x y (.agg a) (.agg b)).run Try.prog w = .ok () w := by
  have hg : Try.prog.eqGuardType Try.prog.depth 37 = false := by kernel_rfl
  unfold eqGuard
  cases op <;> simp [hg]
theorem exec_eqS {w : World} {o : Oper} {act : Act} {s t : Gs} (h1 : Step.Wf s) (h2 : Step.Wf t) (x y : Operand) (r : TypeId) (ho : o.op = .binOp .eql 37 x y r) (hx : act.eval x = s.v) (hy : act.eval y = t.v) : (execOp act.eval o).run Try.prog w = .ok (.value (.bool (decide (s = t)))) w := by
  have e := eq_st h1 h2 w
  unfold Gs.v at e hx hy
  simp only [execOp, ho, hx, hy, Sem.run_bind, guard_st, Result.andThen_ok, e, Sem.run_pure]
theorem exec_neS {w : World} {o : Oper} {act : Act} {s t : Gs} (h1 : Step.Wf s) (h2 : Step.Wf t) (x y : Operand) (r : TypeId) (ho : o.op = .binOp .neq 37 x y r) (hx : act.eval x = s.v) (hy : act.eval y = t.v) : (execOp act.eval o).run Try.prog w = .ok (.value (.bool (!decide (s = t)))) w := by
  have e := neq_st h1 h2 w
  unfold Gs.v at e hx hy
  simp only [execOp, ho, hx, hy, Sem.run_bind, guard_st, Result.andThen_ok, e, Sem.run_pure]
end Go.Proofs.Ytngbannidbijmaa

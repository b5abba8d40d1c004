/- A call, under a guard that says yes or under none. -/
import Derived.Test.YtngbannidbijmaaSeqRun
namespace Go.Proofs.Ytngbannidbijmaa
open Go.RowKit
theorem opg_call {w w1 : World} {ops : Array Oper} {rest : List Oper} {o : Oper} {act : Act} {Q : Exit → Act → World → Prop} {F : Nat} {args : Array Value} (hw : Region.wanted o (yielded ops act.tmps) = true) (h0 : (execOp act.eval o).run Try.prog w = .ok (.enter F args) w1)
    (h : Calls Try.prog F args w1 fun e w' => ∃ v, e = .returned v ∧ wpList Try.prog ops Q rest (act.put o.dst v) w') : wpList Try.prog ops Q (o :: rest) act w := by
  refine BigFrame.wpList_want hw fun K hK => ?_
  unfold Oper.wp
  rw [h0]
  refine Calls.mono h ?_
  rintro e w' ⟨v, rfl, h1⟩
  exact hK _ _ h1
theorem opg_two {w : World} {ops : Array Oper} {rest : List Oper} {o : Oper} {act : Act} {Q : Exit → Act → World → Prop} (hw : Region.wanted o (yielded ops act.tmps) = true) {p : Nat} {a b : Int} (x : Operand) (ho : o.op = .load 110 x) (hx : act.eval x = .pointer (some ⟨p, 0, none⟩)) (h2 : Two w p (.int .i64 a) (.int .i64 b))
    (h : wpList Try.prog ops Q rest (act.put o.dst (.agg #[.int .i64 a, .int .i64 b])) w) : wpList Try.prog ops Q (o :: rest) act w :=
  opg_loads hw (cs := [.int .i64 a, .int .i64 b]) 110 x ho hx Try.underlying110 (by kernel_rfl) (fun j v hj => by
    match j, hj with
    | 0, hj => injection hj with hj; subst hj; exact h2.cell0
    | 1, hj => injection hj with hj; subst hj; exact h2.cell1) h
theorem opg_three {w : World} {ops : Array Oper} {rest : List Oper} {o : Oper} {act : Act} {Q : Exit → Act → World → Prop} (hw : Region.wanted o (yielded ops act.tmps) = true) {p : Nat} {a b c : Int} (x : Operand) (ho : o.op = .load 23 x) (hx : act.eval x = .pointer (some ⟨p, 0, none⟩)) (h3 : Three w p (.int .i64 a) (.int .i64 b) (.int .i64 c))
    (h : wpList Try.prog ops Q rest (act.put o.dst (.agg #[.int .i64 a, .int .i64 b, .int .i64 c])) w) : wpList Try.prog ops Q (o :: rest) act w :=
  opg_loads hw (cs := [.int .i64 a, .int .i64 b, .int .i64 c]) 23 x ho hx Try.underlying23 (by kernel_rfl) (fun j v hj => by
    match j, hj with
    | 0, hj => injection hj with hj; subst hj; exact h3.cell0
    | 1, hj => injection hj with hj; subst hj; exact h3.cell1
    | 2, hj => injection hj with hj; subst hj; exact h3.cell2) h
end Go.Proofs.Ytngbannidbijmaa

/- Structs that are read and written at once, cell by cell one fact. -/
import Derived.Test.YtngbannidbijmaaGOnly
namespace Go.Proofs.Ytngbannidbijmaa
open Go.RowKit
theorem run_loads {w : World} {g off : Nat} {cs : List Value} (ty : TypeId) {f : Array Field} (hu : Try.prog.underlying ty = some (.struct f)) (hi : (Try.prog.info? ty).map (·.size) = some cs.length) (h : ∀ j v, cs[j]? = some v → w.cell? ⟨g, off + j, none⟩ = some v) :
    (Instr.loadAt ty (.pointer (some ⟨g, off, none⟩))).run Try.prog w = .ok (.agg cs.toArray) w := by
  have hl : (loadCells ⟨g, off, none⟩ cs.length).run Try.prog w = .ok cs.toArray w :=
    run_loadCells_list (P := Try.prog) w ⟨g, off, none⟩ cs (fun j v hv => by rw [Addr.add_lit]; exact h j v hv)
  simp only [Instr.loadAt, Instr.sureAddr, Sem.run_bind, Sem.run_pure, Result.andThen]
  cases hq : Try.prog.info? ty with
  | none => simp [hq] at hi
  | some i =>
    have hs : i.size = cs.length := by simpa [hq] using hi
    have hagg : (isAgg ty).run Try.prog w = .ok true w := by
      unfold isAgg
      rw [Sem.run_bind, run_underlying hu w]
      rfl
    simp [loadVar, Sem.run_bind, hagg, sizeOf, typeInfo, hq, hs, hl]
/-- the law for a load of a struct, wherever it lies -/
theorem op_loads {w : World} {ops : Array Oper} {rest : List Oper} {o : Oper} {act : Act} {Q : Exit → Act → World → Prop} (hgd : o.guard = none) {cs : List Value} {g off : Nat} (ty : TypeId) (x : Operand) (ho : o.op = .load ty x) (hx : act.eval x = .pointer (some ⟨g, off, none⟩))
    {f : Array Field} (hu : Try.prog.underlying ty = some (.struct f)) (hi : (Try.prog.info? ty).map (·.size) = some cs.length) (hc : ∀ j v, cs[j]? = some v → w.cell? ⟨g, off + j, none⟩ = some v) (h : wpList Try.prog ops Q rest (act.put o.dst (.agg cs.toArray)) w) : wpList Try.prog ops Q (o :: rest) act w := by
  refine op_val hgd (.agg cs.toArray) ?_ h
  simp only [execOp, ho, hx, Sem.run_bind, run_loads ty hu hi hc, Result.andThen_ok, Sem.run_pure]
/-- .. as an operation's value -/
theorem exec_loads {w : World} {o : Oper} {act : Act} {cs : List Value} {g off : Nat} (ty : TypeId) (x : Operand) (ho : o.op = .load ty x) (hx : act.eval x = .pointer (some ⟨g, off, none⟩))
    {f : Array Field} (hu : Try.prog.underlying ty = some (.struct f)) (hi : (Try.prog.info? ty).map (·.size) = some cs.length) (hc : ∀ j v, cs[j]? = some v → w.cell? ⟨g, off + j, none⟩ = some v) : (execOp act.eval o).run Try.prog w = .ok (.value (.agg cs.toArray)) w := by
  simp only [execOp, ho, hx, Sem.run_bind, run_loads ty hu hi hc, Result.andThen_ok, Sem.run_pure]
/-- a call, wherever it stands -/
theorem op_call {w w1 : World} {ops : Array Oper} {rest : List Oper} {o : Oper} {act : Act} {Q : Exit → Act → World → Prop} {F : Nat} {args : Array Value} (hgd : o.guard = none) (h0 : (execOp act.eval o).run Try.prog w = .ok (.enter F args) w1)
    (h : Calls Try.prog F args w1 fun e w' => ∃ v, e = .returned v ∧ wpList Try.prog ops Q rest (act.put o.dst v) w') : wpList Try.prog ops Q (o :: rest) act w := by
  refine wpList_plain hgd fun K hK => ?_
  unfold Oper.wp
  rw [h0]
  refine Calls.mono h ?_
  rintro e w' ⟨v, rfl, h1⟩
  exact hK _ _ h1
theorem Blk.part {w : World} {b : Nat} {xs cs ys : List Value} (h : Blk w b (xs ++ cs ++ ys)) : ∀ j v, cs[j]? = some v → w.cell? ⟨b, xs.length + j, none⟩ = some v := fun j v hj => by
  rw [h.cell, List.append_assoc, List.getElem?_append_right (by omega), Nat.add_sub_cancel_left, List.getElem?_append_left (List.getElem?_eq_some_iff.1 hj).1, hj]
theorem Blk.whole {w : World} {b : Nat} {cs : List Value} (h : Blk w b cs) : ∀ j v, cs[j]? = some v → w.cell? ⟨b, 0 + j, none⟩ = some v := fun j v hj => by rw [h.cell, Nat.zero_add, hj]
end Go.Proofs.Ytngbannidbijmaa

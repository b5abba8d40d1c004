/- One cell of a block, written. -/
import Derived.Test.YtngbannidbijmaaGOnly
import Derived.Test.YtngbannidbijmaaBlkS
namespace Go.Proofs.Ytngbannidbijmaa
open Go.RowKit
set_option linter.unusedVariables false

theorem Blk.store1 {w : World} {b : Nat} {cs : List Value} {ty : TypeId} {v : Value} (k : Nat) (h : Blk w b cs) (hi : (Try.prog.info? ty).map (·.size) = some 1) (hk : k < cs.length) (hv : v.cells = #[v]) (h1 : v.oneCell' = true) :
    ∃ w', (Instr.storeAt ty (.pointer (some ⟨b, k, none⟩)) v).run Try.prog w = .ok () w' ∧ Blk w' b (cs.set k v) ∧ Only [b] w w' ∧ w'.heap.size = w.heap.size := by
  obtain ⟨w', hs, k1, k2, k3⟩ := h.store (ty := ty) (vs := [v]) k hi (by simp; omega) (by intro u hu; rw [List.mem_singleton] at hu; rw [hu]; exact h1)
  have e : cs.take k ++ [v] ++ cs.drop (k + [v].length) = cs.set k v := by
    rw [List.set_eq_take_append_cons_drop, if_pos hk]
    simp
  rw [e] at k1
  refine ⟨w', ?_, k1, k2, k3⟩
  rw [← hs]
  simp only [Instr.storeAt, Instr.sureAddr, Sem.run_bind, Sem.run_pure, Result.andThen, storeVar]
  have e2 : (Value.agg [v].toArray).cells = v.cells := by rw [hv]; rfl
  simp only [e2]
theorem op_store1 {w : World} {b : Nat} {cs : List Value} {v : Value} {ops : Array Oper} {rest : List Oper} {o : Oper} {act : Act} {Q : Exit → Act → World → Prop} (hgd : o.guard = none) (ty : TypeId) (x y : Operand) (ho : o.op = .store ty x y) (k : Nat) (hx : act.eval x = .pointer (some ⟨b, k, none⟩)) (hy : act.eval y = v) (hB : Blk w b cs)
    (hi : (Try.prog.info? ty).map (·.size) = some 1) (hk : k < cs.length) (hv : v.cells = #[v]) (h1 : v.oneCell' = true)
    (h : ∀ w', Blk w' b (cs.set k v) → Only [b] w w' → w'.heap.size = w.heap.size → wpList Try.prog ops Q rest (act.put o.dst undef) w') : wpList Try.prog ops Q (o :: rest) act w := by
  obtain ⟨w', hs, k1, k2, k3⟩ := hB.store1 (ty := ty) k hi hk hv h1
  refine wpList_plain hgd fun K hK => ?_
  unfold Oper.wp
  simp only [execOp, ho, hx, hy, Sem.run_bind, hs, Result.andThen_ok, Sem.run_pure]
  exact hK _ _ (h w' k1 k2 k3)
end Go.Proofs.Ytngbannidbijmaa

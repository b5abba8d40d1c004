/- A block of the call's own, whatever its cells. -/
import Derived.Test.YtnicjbllkdpgcaaOwn
import Derived.Test.YtnicjbllkdpgcaaRows
import Derived.WalkKit
import Derived.Deep.WholeRow
import Derived.Laws.CopyRow
namespace Go.Proofs.Ytnicjbllkdpgcaa
open Go.RowKit
/-- a block with these cells -/
def Blk (w : World) (b : Nat) (cs : List Value) : Prop := ∃ t, w.heap[b]? = some (.cells cs.toArray t (0, 0))
section
variable {S : List Nat} {w w' : World} {b : Nat} {cs : List Value}
theorem Blk.cell (h : Blk w b cs) (i : Nat) : w.cell? ⟨b, i, none⟩ = cs[i]? := by
  obtain ⟨t, h⟩ := h; simp [World.cell?, h]
theorem Blk.frozen (h : Blk w b cs) (i : Nat) : w.frozen? ⟨b, i, none⟩ = false := by
  obtain ⟨t, h⟩ := h; simp [World.frozen?, h]
theorem Blk.lt (h : Blk w b cs) : b < w.heap.size := by
  obtain ⟨t, h⟩ := h
  rcases Nat.lt_or_ge b w.heap.size with g | g
  · exact g
  · rw [Array.getElem?_eq_none g] at h; cases h
theorem Blk.only (h : Blk w b cs) (o : Only S w w') (hn : b ∉ S) : Blk w' b cs := by
  have := h.lt
  obtain ⟨t, h⟩ := h
  exact ⟨t, by rw [o.block b this hn, h]⟩
theorem Blk.set (h : Blk w b cs) (i : Nat) (u : Value) : Blk (w.setCell ⟨b, i, none⟩ u) b (cs.set i u) := by
  obtain ⟨t, h⟩ := h
  exact ⟨t, by simp [World.setCell, Array.getElem?_modify, h]⟩
theorem Blk.new (w : World) (c : Array Value) (t : TypeId) : Blk (w.alloc (.cells c t)) w.heap.size c.toList :=
  ⟨t, by show (w.heap.push _)[w.heap.size]? = _; simp⟩
/-- all its cells as one value -/
theorem Blk.load (h : Blk w b cs) (ty : TypeId) (n : Nat) (e : TypeId) (hu : Try.prog.underlying ty = some (.array n e)) (hi : (Try.prog.info? ty).map (·.size) = some cs.length) :
    (Instr.loadAt ty (.pointer (some ⟨b, 0, none⟩))).run Try.prog w = .ok (.agg cs.toArray) w := by
  obtain ⟨t, h⟩ := h
  simp only [Instr.loadAt, Instr.sureAddr, Sem.run_bind, Sem.run_pure, Result.andThen]
  exact run_loadVar_row w b t ty cs.toArray (0, 0) _ h hu rfl (by simpa using hi)
/-- some of its cells, at once -/
theorem Blk.store {ty : TypeId} {vs : List Value} (o : Nat) (h : Blk w b cs) (hi : (Try.prog.info? ty).map (·.size) = some vs.length) (hl : o + vs.length ≤ cs.length) (h1 : ∀ v ∈ vs, v.oneCell' = true) :
    ∃ w', (Instr.storeAt ty (.pointer (some ⟨b, o, none⟩)) (.agg vs.toArray)).run Try.prog w = .ok () w' ∧ Blk w' b (cs.take o ++ vs ++ cs.drop (o + vs.length)) ∧ Only [b] w w' ∧ w'.heap.size = w.heap.size := by
  obtain ⟨t, h⟩ := h
  have hs := run_storeCells_at (P := Try.prog) b o t vs 0 cs.toArray w h (by simpa using hl) h1
  refine ⟨w.setRow b (cs.take o ++ vs ++ cs.drop (o + vs.length)).toArray, ?_, ⟨t, setRow_heap w b _ _ t (0, 0) h⟩, ⟨rfl, rfl, rfl, ?_, ?_⟩, ?_⟩
  · simp only [Instr.storeAt, Instr.sureAddr, Sem.run_bind, Sem.run_pure, Result.andThen]
    cases hq : Try.prog.info? ty with
    | none => simp [hq] at hi
    | some i =>
      have hz : vs.length = i.size := by simp [hq] at hi; omega
      simpa [storeVar, sizeOf, typeInfo, hq, Value.cells, hz] using hs
  · simp [World.setRow]
  · intro k hk hn
    exact setRow_other w b k _ (by simpa using hn)
  · simp [World.setRow]
end
/-- one operation, its answer known -/
theorem op_val {w w' : World} {ops : Array Oper} {rest : List Oper} {o : Oper} {act : Act} {Q : Exit → Act → World → Prop} (hgd : o.guard = none) (v : Value) (h0 : (execOp act.eval o).run Try.prog w = .ok (.value v) w') (h : wpList Try.prog ops Q rest (act.put o.dst v) w') : wpList Try.prog ops Q (o :: rest) act w := by
  refine wpList_plain hgd fun K hK => ?_
  unfold Oper.wp
  rw [h0]
  exact hK _ _ h
/-- all of a block, read at once -/
theorem op_load {w : World} {b : Nat} {cs : List Value} {ops : Array Oper} {rest : List Oper} {o : Oper} {act : Act} {Q : Exit → Act → World → Prop} (hgd : o.guard = none) (ty : TypeId) (x : Operand) (ho : o.op = .load ty x) (hx : act.eval x = .pointer (some ⟨b, 0, none⟩)) (hB : Blk w b cs)
    (n : Nat) (e : TypeId) (hu : Try.prog.underlying ty = some (.array n e)) (hi : (Try.prog.info? ty).map (·.size) = some cs.length) (h : wpList Try.prog ops Q rest (act.put o.dst (.agg cs.toArray)) w) : wpList Try.prog ops Q (o :: rest) act w := by
  refine op_val hgd (.agg cs.toArray) ?_ h
  simp only [execOp, ho, hx, Sem.run_bind, hB.load ty n e hu hi, Result.andThen_ok, Sem.run_pure]
/-- some cells of a block, written at once -/
theorem op_store {w : World} {b : Nat} {cs vs : List Value} {ops : Array Oper} {rest : List Oper} {o : Oper} {act : Act} {Q : Exit → Act → World → Prop} (hgd : o.guard = none) (ty : TypeId) (x y : Operand) (ho : o.op = .store ty x y) (k : Nat) (hx : act.eval x = .pointer (some ⟨b, k, none⟩)) (hy : act.eval y = .agg vs.toArray) (hB : Blk w b cs)
    (hi : (Try.prog.info? ty).map (·.size) = some vs.length) (hl : k + vs.length ≤ cs.length) (h1 : ∀ v ∈ vs, v.oneCell' = true)
    (h : ∀ w', Blk w' b (cs.take k ++ vs ++ cs.drop (k + vs.length)) → Only [b] w w' → w'.heap.size = w.heap.size → wpList Try.prog ops Q rest (act.put o.dst undef) w') : wpList Try.prog ops Q (o :: rest) act w := by
  obtain ⟨w', hs, k1, k2, k3⟩ := hB.store (ty := ty) k hi hl h1
  refine wpList_plain hgd fun K hK => ?_
  unfold Oper.wp
  simp only [execOp, ho, hx, hy, Sem.run_bind, hs, Result.andThen_ok, Sem.run_pure]
  exact hK _ _ (h w' k1 k2 k3)
end Go.Proofs.Ytnicjbllkdpgcaa

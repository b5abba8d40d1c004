/- Rows of ops: of the call's own; 'append' of them. -/
import Derived.Test.YtngbannidbijmaaGRuleKA
namespace Go.Proofs.Ytngbannidbijmaa
open Go.RowKit
set_option linter.unusedVariables false

theorem flatO_len (xs : List Op3) : (flatO xs).length = xs.length * 3 := by
  induction xs with
  | nil => rfl
  | cons x xs ih => rw [flatO, List.flatMap_cons, List.length_append]; change _ + (flatO xs).length = _; rw [ih]; simp [Op3.cells]; omega
theorem flatO_app (xs ys : List Op3) : flatO (xs ++ ys) = flatO xs ++ flatO ys := by simp [flatO]
theorem flatO_one (xs : List Op3) : ∀ u ∈ flatO xs, u.oneCell' = true := by
  intro u hu
  obtain ⟨x, _, h⟩ := List.mem_flatMap.1 hu
  simp only [Op3.cells, List.mem_cons, List.not_mem_nil, or_false] at h
  rcases h with rfl | rfl | rfl <;> rfl
/-- a row of ops that the call made -/
def SO (B : Nat) (w : World) (v : Value) (xs : List Op3) : Prop := w.ownsRow B 23 3 v xs.length (flatO xs)
/-- v reads as these ops, cell by cell -/
def RdP (w : World) (v : Value) (xs : List Op3) : Prop := ∃ a cap, v = .slice a xs.length cap ∧ xs.length ≤ cap ∧ cap ≤ maxLen ∧ ((a = none ∧ xs = []) ∨ ∃ b off, a = some ⟨b, off, none⟩ ∧ b < w.heap.size ∧ ∀ j u, (flatO xs)[j]? = some u → w.cell? ⟨b, off + j, none⟩ = some u)
theorem SO.rd {B : Nat} {w : World} {v : Value} {xs : List Op3} (h : SO B w v xs) : RdP w v xs := by
  have hl := World.ownsRow.lt h
  rcases h.2 with ⟨rfl, h0⟩ | ⟨g, cap, cur, rfl, h1, h2, h3, h4, h5, h6⟩
  · have : xs = [] := List.length_eq_zero_iff.1 h0
    subst this
    exact ⟨none, 0, rfl, Nat.le_refl _, Nat.zero_le _, Or.inl ⟨rfl, rfl⟩⟩
  · refine ⟨_, cap, rfl, h3, h4, Or.inr ⟨g, 0, rfl, (hl g rfl).2, fun j u hj => ?_⟩⟩
    have := World.ownsRow.cells h (g := g) rfl j u hj
    rwa [Addr.add_lit] at this
theorem RdP.only {w w' : World} {v : Value} {xs : List Op3} {S : List Nat} (h : RdP w v xs) (o : Only S w w') (hS : ∀ g, v.ownBlock = some g → g ∉ S) : RdP w' v xs := by
  obtain ⟨a, cap, rfl, h1, h2, h⟩ := h
  refine ⟨a, cap, rfl, h1, h2, ?_⟩
  rcases h with h | ⟨b, off, rfl, hb, hc⟩
  · exact Or.inl h
  · exact Or.inr ⟨b, off, rfl, Nat.lt_of_lt_of_le hb o.size, fun j u hj => by rw [o.cell (p := ⟨b, off + j, none⟩) hb (hS b rfl)]; exact hc j u hj⟩
/-- .. as Run reads them -/
theorem RdP.rdo {w : World} {v : Value} {xs : List Op3} {K : Nat} (h : RdP w v xs) (hK : w.heap.size ≤ K) : RdO K w v xs := by
  obtain ⟨a, cap, rfl, h1, h2, h⟩ := h
  refine ⟨a, cap, rfl, h1, ?_⟩
  rcases h with ⟨_, h⟩ | ⟨b, off, rfl, hb, hc⟩
  · exact Or.inl h
  · refine Or.inr ⟨b, off, rfl, by omega, hb, fun i hi => ⟨?_, ?_, ?_⟩⟩
    · have := hc (i * 3 + 0) _ ((flatO_get xs i 0 hi (by omega)).trans rfl); rwa [show off + (i * 3 + 0) = off + i * 3 by omega] at this
    · have := hc (i * 3 + 1) _ ((flatO_get xs i 1 hi (by omega)).trans rfl); rwa [show off + (i * 3 + 1) = off + i * 3 + 1 by omega] at this
    · have := hc (i * 3 + 2) _ ((flatO_get xs i 2 hi (by omega)).trans rfl); rwa [show off + (i * 3 + 2) = off + i * 3 + 2 by omega] at this
theorem SO.only {B : Nat} {w w' : World} {v : Value} {xs : List Op3} {S : List Nat} (h : SO B w v xs) (o : Only S w w') (hS : ∀ g, v.ownBlock = some g → g ∉ S) : SO B w' v xs := own_only h o hS
theorem SO.nil (B : Nat) (w : World) : SO B w (.slice none 0 0) [] := World.ownsRow_nil _ _ _ _
theorem SO.lt {B : Nat} {w : World} {v : Value} {xs : List Op3} (h : SO B w v xs) : ∀ g, v.ownBlock = some g → B ≤ g ∧ g < w.heap.size := World.ownsRow.lt h
theorem SO.form {B : Nat} {w : World} {v : Value} {xs : List Op3} (h : SO B w v xs) : ∃ a cap, v = .slice a xs.length cap ∧ xs.length ≤ 9223372036854775807 := by
  rcases h.2 with ⟨rfl, h0⟩ | ⟨g, cap, cur, rfl, h1, h2, h3, h4, h5, h6⟩
  · exact ⟨none, 0, by rw [h0], by omega⟩
  · exact ⟨_, cap, rfl, by unfold maxLen at h4; omega⟩
theorem SO.lower {B B' : Nat} {w : World} {v : Value} {xs : List Op3} (h : SO B w v xs) (hb : B' ≤ B) : SO B' w v xs := by
  obtain ⟨h1, h2⟩ := h
  refine ⟨h1, ?_⟩
  rcases h2 with h2 | ⟨g, cap, cur, hv, hg, r⟩
  · exact Or.inl h2
  · exact Or.inr ⟨g, cap, cur, hv, Nat.le_trans hb hg, r⟩
theorem SO.empty (B : Nat) (w : World) (hB : B ≤ w.heap.size) : SO B (w.alloc (.cells #[] 23)) (.slice (some ⟨w.heap.size, 0, none⟩) 0 0) [] :=
  World.ownsRow_made _ _ _ hB (Nat.zero_le _) rfl
theorem info_op : (Try.prog.info? 23).map (fun i => (i.zero, i.size, i.bytes)) = some (some (Op3.v ⟨0, 0, 0⟩), 3, 24) := by kernel_rfl

/-- what an 'append' of ops leaves -/
structure AppO (B : Nat) (w : World) (v : Value) (w' : World) (v' : Value) (xs : List Op3) : Prop where
  row : SO B w' v' xs
  only : Only v.ownBlock.toList w w'
  at_ : v'.ownBlock = v.ownBlock ∨ v'.ownBlock = some w.heap.size
theorem run_app_o {w : World} {B : Nat} {v s : Value} {xs ys : List Op3} (h : SO B w v xs) (r : RdP w s ys) (hl : xs.length + ys.length ≤ 1000000000000) (hB : B ≤ w.heap.size) (ty : TypeId) :
    ∃ v' w', (Builtin.append_ #[24, 24] ty #[v, s]).run Try.prog w = .ok v' w' ∧ AppO B w v w' v' (xs ++ ys) := by
  obtain ⟨i0, hi, hz0, hz1, hz2⟩ := info3 info_op
  obtain ⟨a, cap, rfl, _, _, r⟩ := r
  rcases r with ⟨rfl, rfl⟩ | ⟨b, off, rfl, hb, hc⟩
  · refine ⟨v, w, ?_, by simpa using h, Only.refl _ _, Or.inl rfl⟩
    rcases h.2 with ⟨rfl, hn⟩ | ⟨g, cap, cur, rfl, _, _, hnc, _⟩
    · simp [Builtin.append_, run_underlying Try.underlying24, sizeOf, typeInfo, hi, Builtin.lenOf, Builtin.firstCells]
    · simp [Builtin.append_, run_underlying Try.underlying24, sizeOf, typeInfo, hi, Builtin.lenOf, Builtin.firstCells, hnc, storeCells]
  · obtain ⟨v', w', hr, k1, k2, _, k3⟩ := run_append_own_at (P := Try.prog) (w := w) B 24 ty 23 i0 (Op3.v ⟨0, 0, 0⟩) 3 24 Try.underlying24 hi hz0 hz1 hz2 rfl (by decide) v xs.length (flatO xs) h ⟨b, off, none⟩ ys.length cap (flatO ys) (flatO_len ys)
      (fun j u hj => by rw [Addr.add_lit]; exact hc j u hj) (flatO_one ys) (by unfold maxLen; omega) (by omega) hB
    refine ⟨v', w', hr, ?_, grown_only k2, k3⟩
    unfold SO
    rw [List.length_append, flatO_app]
    exact k1
/-- the law, at an operation without a guard -/
theorem app_o {w : World} {ops : Array Oper} {rest : List Oper} {o : Oper} {act : Act} {Q : Exit → Act → World → Prop} {B : Nat} {v s : Value} {xs ys : List Op3} (hgd : o.guard = none) (x y : Operand)
    (ho : o.op = .call { callee := .builtin .append, args := #[x, y], argTypes := #[24, 24] }) (hx : act.eval x = v) (hy : act.eval y = s) (h : SO B w v xs) (r : RdP w s ys) (hl : xs.length + ys.length ≤ 1000000000000) (hB : B ≤ w.heap.size)
    (k : ∀ v' w', AppO B w v w' v' (xs ++ ys) → wpList Try.prog ops Q rest (act.put o.dst v') w') : wpList Try.prog ops Q (o :: rest) act w := by
  obtain ⟨v', w', hr, h2⟩ := run_app_o h r hl hB o.type
  refine wpList_plain hgd fun K hK => ?_
  unfold Oper.wp
  simp only [execOp, ho, resolve, invoke, builtin, Sem.run_bind, Sem.run_pure, Result.andThen_ok, List.map_toArray, List.map_cons, List.map_nil, hx, hy, hr]
  exact hK _ _ (k v' w' h2)
/-- one op just laid, as a slice -/
theorem rdp_new (w : World) (l : List Op3) (hl : l.length ≤ maxLen) : RdP (w.alloc (.cells (flatO l).toArray 23)) (.slice (some ⟨w.heap.size, 0, none⟩) l.length l.length) l := by
  refine ⟨_, l.length, rfl, Nat.le_refl _, hl, Or.inr ⟨w.heap.size, 0, rfl, by simp, fun j u hj => ?_⟩⟩
  rw [Nat.zero_add, (Blk.new w (flatO l).toArray _).cell j]
  exact hj
end Go.Proofs.Ytngbannidbijmaa

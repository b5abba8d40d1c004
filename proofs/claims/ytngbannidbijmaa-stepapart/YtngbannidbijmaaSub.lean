/- Parts of a slice. -/
import Derived.Test.YtngbannidbijmaaCame
import Derived.Test.YtngbannidbijmaaGOnly
namespace Go.Proofs.Ytngbannidbijmaa
open Go.RowKit
set_option linter.unusedVariables false

section
variable {t e : TypeId} {c : Nat} (ht : Try.prog.underlying t = some (.slice e)) (hs : ∀ w : World, (sizeOf e).run Try.prog w = .ok c w)
include ht hs
theorem run_from {a : Option Addr} {len cap lo : Nat} (h1 : lo ≤ len) (h2 : len ≤ cap) (w : World) : (Instr.slice t (.slice a len cap) (some (.int .i64 (lo : Nat))) none none).run Try.prog w = .ok (.slice (if cap = lo then a else a.map (·.add (lo * c))) (len - lo) (cap - lo)) w := by
  have hb : (Instr.sliceBound (.int .i64 (lo : Nat)) len .sliceB).run Try.prog w = .ok lo w := by
    rw [run_sliceBound (h0 := by omega) (h1 := by omega)]; simp
  simp [Instr.slice, run_underlying ht, Instr.sliceBounds, hb, hs w]
theorem run_to {a : Option Addr} {len cap hi : Nat} (h1 : hi ≤ cap) (w : World) : (Instr.slice t (.slice a len cap) none (some (.int .i64 (hi : Nat))) none).run Try.prog w = .ok (.slice a hi cap) w := by
  have hb : (Instr.sliceBound (.int .i64 (hi : Nat)) cap .sliceAcap).run Try.prog w = .ok hi w := by
    rw [run_sliceBound (h0 := by omega) (h1 := by omega)]; simp
  have e0 : (if cap = 0 then a else a.map (·.add 0)) = a := by
    cases a with
    | none => simp
    | some p =>
      have : p.add 0 = p := by
        obtain ⟨b, o, s⟩ := p
        cases s <;> simp [Addr.add]
      simp [this]
  simp [Instr.slice, run_underlying ht, Instr.sliceBounds, hb, hs w, e0]
theorem exec_from {w : World} {o : Oper} {act : Act} {a : Option Addr} {len cap lo : Nat} (h1 : lo ≤ len) (h2 : len ≤ cap) (x y : Operand) (ho : o.op = .slice t x (some y) none none) (hx : act.eval x = .slice a len cap) (hy : act.eval y = .int .i64 (lo : Nat)) : (execOp act.eval o).run Try.prog w = .ok (.value (.slice (if cap = lo then a else a.map (·.add (lo * c))) (len - lo) (cap - lo))) w := by
  simp only [execOp, ho, hx, hy, Option.map_some, Option.map_none, Instr.sliceAt, run_underlying ht, Sem.run_bind, run_from ht hs h1 h2, Result.andThen_ok, Sem.run_pure]
theorem exec_to {w : World} {o : Oper} {act : Act} {a : Option Addr} {len cap hi : Nat} (h1 : hi ≤ cap) (x y : Operand) (ho : o.op = .slice t x none (some y) none) (hx : act.eval x = .slice a len cap) (hy : act.eval y = .int .i64 (hi : Nat)) : (execOp act.eval o).run Try.prog w = .ok (.value (.slice a hi cap)) w := by
  simp only [execOp, ho, hx, hy, Option.map_some, Option.map_none, Instr.sliceAt, run_underlying ht, Sem.run_bind, run_to ht hs h1, Result.andThen_ok, Sem.run_pure]
end
section
variable {α : Type} {c : Nat} {R : Rdr α} {B : Nat} {w : World} {xs : List α} {a : Option Addr} {len cap : Nat}
theorem RdG.to_ (h : RdG c R B w (.slice a len cap) xs) {k : Nat} (hk : k ≤ xs.length) : RdG c R B w (.slice a k cap) (xs.take k) := by
  have := h.part rfl (k := 0) (n := k) (by omega)
  have e0 : (a.map fun p => (⟨p.block, p.off + 0 * c, p.spot⟩ : Addr)) = a := by cases a <;> simp
  rw [e0] at this
  simpa using this
theorem RdG.from_ (h : RdG c R B w (.slice a len cap) xs) {k : Nat} (hk : k ≤ xs.length) : RdG c R B w (.slice (if cap = k then a else a.map (·.add (k * c))) (len - k) (cap - k)) (xs.drop k) := by
  obtain ⟨a', cap', hv, h1, h2, _⟩ := id h
  injection hv with e1 e2 e3
  subst e1 e2 e3
  by_cases hc : cap = k
  · have hx : xs.drop k = [] := List.drop_of_length_le (by omega)
    rw [if_pos hc, hx]
    exact ⟨a, cap - k, by simp; omega, by simp, by omega, Or.inl rfl⟩
  · rw [if_neg hc]
    have := h.part rfl (k := k) (n := xs.length - k) (by omega)
    rw [List.take_of_length_le (by simp)] at this
    rcases this with ⟨a2, cap2, hv, g1, g2, g3⟩
    injection hv with e1 e2 e3
    subst e3
    by_cases hx : xs.drop k = []
    · refine ⟨_, _, by rw [e2], g1, g2, Or.inl hx⟩
    · obtain ⟨a', cap', hv', _, _, hh⟩ := id h
      injection hv' with e1' e2' e3'
      subst e1'
      rcases hh with hh | ⟨b, off, rfl, _⟩
      · rw [hh] at hx; simp at hx
      · refine ⟨_, _, by rw [e2], g1, g2, ?_⟩
        have : (Option.map (fun p : Addr => p.add (k * c)) (some ⟨b, off, none⟩)) = a2 := by
          rw [← e1]
          simp [Addr.add]
        rw [this]; exact g3
end
end Go.Proofs.Ytngbannidbijmaa

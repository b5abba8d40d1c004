/- RuleRuns: what its walk takes. -/
import Derived.Test.YtfeloiodebjolaaRefRF
namespace Go.Proofs.Ytfeloiodebjolaa.ruleRuns
open Go.RowKit
set_option linter.unusedVariables false
section
variable {w : World} {ops : Array Oper} {rest : List Oper} {o : Oper} {act : Act} {Q : Exit → Act → World → Prop}
/-- its input, alone -/
theorem opg_input (hw : Region.wanted o (yielded ops act.tmps) = true) {p : Nat} {e : Ev} {s : Value} (x : Operand) (ho : o.op = .load 36 x) (hx : act.eval x = .pointer (some ⟨p, 12, none⟩)) (hE : Eb w p e s) (h : wpList Try.prog ops Q rest (act.put o.dst (.agg #[.int .i64 e.t, .int .i64 e.ix, .int .i64 e.iy])) w) : wpList Try.prog ops Q (o :: rest) act w :=
  opg_loads hw (cs := [.int .i64 e.t, .int .i64 e.ix, .int .i64 e.iy]) 36 x ho hx Try.underlying36 (by kernel_rfl) (Blk.part (xs := e.b.cells) (cs := [.int .i64 e.t, .int .i64 e.ix, .int .i64 e.iy]) (ys := [.int .u64 e.d, .int .i64 e.room, s]) (by have := hE.blk; exact this)) h
/-- a number held against itself -/
theorem eq_int {k : IntKind} {n : Int} (x y : Operand) {ty : TypeId} {ty2 : TypeId} (ho : o.op = .binOp .eql ty x y ty2) (hx : act.eval x = .int k n) (hy : act.eval y = .int k n) : (execOp act.eval o).run Try.prog w = .ok (.value (.bool true)) w := by
  simp only [execOp, ho, hx, hy]
  go_simp
end
/-- what a run of ops on an Env without shots leaves of them -/
theorem run_len {l : List Op3} {e e' : Ev} {c a : Int} {ok : Bool} (hs : e.sh = []) (h : Rule.run l e = (e', c, a, ok)) : e'.sh.length ≤ 1000000 := by
  by_cases hb : Body.some e.b = true
  · have h2 := go_inv l 64 0 e (by omega) (by omega)
    cases hg : Rule.go l 64 0 e with
    | fault c' a' =>
      rw [run_fault hb hg] at h
      injection h with h
      rw [← h, hs]; simp
    | done e2 =>
      rw [hg] at h2
      rw [run_done hb hg] at h
      injection h with h
      obtain ⟨ll, hsh, hll, _⟩ := h2.sh
      rw [← h, hsh, hs, List.nil_append]
      omega
  · rw [run_bad (by simpa using hb)] at h
    injection h with h
    rw [← h, hs]; simp
end Go.Proofs.Ytfeloiodebjolaa.ruleRuns

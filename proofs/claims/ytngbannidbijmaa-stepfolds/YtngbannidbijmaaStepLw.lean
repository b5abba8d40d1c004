/- Law 13: where its walks stand. -/
import Derived.Test.YtngbannidbijmaaStepPl
import Derived.Test.YtngbannidbijmaaStepEq
import Derived.Test.YtngbannidbijmaaM46
import Derived.Test.YtngbannidbijmaaHandN
import Derived.Test.YtngbannidbijmaaSub
namespace Go.Proofs.Ytngbannidbijmaa
open Go.RowKit
set_option linter.unusedVariables false
set_option linter.unusedSimpArgs false

/-- a config at p, rows: all below T -/
structure Fd (w W : World) (T p : Nat) (c : Cf) (rv tv ov : Value) (rows : List (List Cl)) : Prop where
  conf : Cb W p c rv tv
  rd : Rd T W c rv tv
  rows : RdG 1 rRow T W ov rows
  only : Only [] w W
  lt : p < T
  le : w.heap.size ≤ p
  sz : T ≤ W.heap.size
theorem Fd.off {w W W' : World} {T p : Nat} {c : Cf} {rv tv ov : Value} {rows : List (List Cl)} (h : Fd w W T p c rv tv ov rows) {S : List Nat} (o : Only S W W') (hS : ∀ x ∈ S, T ≤ x) : Fd w W' T p c rv tv ov rows := by
  have h1 := h.lt
  have h2 := h.le
  exact ⟨h.conf.only o (fun m => by have := hS _ m; omega), h.rd.only o hS, h.rows.only rRow_st o hS, h.only.then o (fun x hx hl => by have := hS _ hx; omega), h.lt, h.le, Nat.le_trans h.sz o.size⟩
theorem Fd.then {w W W' : World} {T p : Nat} {c : Cf} {rv tv ov : Value} {rows : List (List Cl)} (h : Fd w W T p c rv tv ov rows) (o : Only [] W W') : Fd w W' T p c rv tv ov rows := h.off o (by simp)
theorem exec_eqT {w : World} {o : Oper} {act : Act} {s : Gs} (h1 : Step.Wf s) (x y : Operand) (r : TypeId) (ho : o.op = .binOp .eql 37 x y r) (hx : act.eval x = s.v) (hy : act.eval y = s.v) : (execOp act.eval o).run Try.prog w = .ok (.value (.bool true)) w := by
  have e := exec_eqS (w := w) (o := o) h1 h1 x y r ho hx hy
  simpa using e
theorem exec_len {w : World} {o : Oper} {act : Act} {a : Option Addr} {n c : Nat} {t : TypeId} (ht : Try.prog.underlying t = some (.slice (Try.prog.elem t))) (x : Operand) (ho : o.op = .call { callee := .builtin .len, args := #[x], argTypes := #[t] }) (hx : act.eval x = .slice a n c) : (execOp act.eval o).run Try.prog w = .ok (.value (.int .i64 n)) w := by
  simp only [execOp, ho, resolve, invoke, builtin, Sem.run_bind, Sem.run_pure, Result.andThen_ok, List.map_toArray, List.map_cons, List.map_nil, hx, run_len_slice (P := Try.prog) w t o.type a n c ht]
  rfl
theorem sb_at {w : World} {x : Nat} {s : Gs} (h : w.heap.size = x) (hs : Step.Wf s) (t : TypeId) : Sb (w.alloc (.cells s.cells.toArray t)) x s := h ▸ Sb.new hs w t
theorem hs_row (w : World) : (sizeOf 45).run Try.prog w = .ok 1 w := by kernel_rfl
/-- a row among them -/
theorem Fd.row {w W : World} {T p : Nat} {c : Cf} {rv tv ov : Value} {rows : List (List Cl)} (h : Fd w W T p c rv tv ov rows) {i : Nat} {row : List Cl} (hr : rows[i]? = some row) : ∃ b off cap ra rn rc, ov = .slice (some ⟨b, off, none⟩) rows.length cap ∧ W.cell? ⟨b, off + i, none⟩ = some (.slice ra rn rc) ∧ RdC T W (.slice ra rn rc) row ∧ b < T := by
  obtain ⟨b, off, cap, hv, hbB, hbl, cs, ⟨rwv, rfl, RC⟩, -, hc⟩ := h.rows.get hr
  obtain ⟨ra, rc, e, _⟩ := id RC
  have := hc 0 (by omega)
  subst e
  exact ⟨b, off, cap, ra, _, rc, hv, by simpa using this, RC, hbB⟩
theorem at_rows {g off n cap k : Nat} (hk : k < n) (w : World) : (Instr.indexAt 47 (.slice (some ⟨g, off, none⟩) n cap) (.int .i64 (k : Nat))).run Try.prog w = .ok (.pointer (some ⟨g, off + k, none⟩)) w := by
  have hs : (sizeOf (Try.prog.elem 47)).run Try.prog w = .ok 1 w := by kernel_rfl
  rw [run_indexAt_slice (h := by kernel_rfl), if_pos ⟨by omega, by omega⟩, hs]
  simp [Result.andThen, Addr.add_lit]
theorem exec_atRs {w : World} {o : Oper} {act : Act} {g off n cap k : Nat} (hk : k < n) (x y : Operand) (ho : o.op = .indexAddr 47 x y) (hx : act.eval x = .slice (some ⟨g, off, none⟩) n cap) (hy : act.eval y = .int .i64 (k : Nat)) : (execOp act.eval o).run Try.prog w = .ok (.value (.pointer (some ⟨g, off + k, none⟩))) w := by
  simp only [execOp, ho, hx, hy, Sem.run_bind, at_rows hk, Result.andThen_ok, Sem.run_pure]
theorem exec_ldC {w : World} {o : Oper} {act : Act} {a : Addr} {b : Option Addr} {n c : Nat} (x : Operand) (ho : o.op = .load 45 x) (hx : act.eval x = .pointer (some a)) (h : w.cell? a = some (.slice b n c)) : (execOp act.eval o).run Try.prog w = .ok (.value (.slice b n c)) w := by
  simp only [execOp, ho, hx]
  go_simp
theorem exec_ldS {w : World} {o : Oper} {act : Act} {p off : Nat} {s : Gs} (hs : Step.Wf s) (x : Operand) (ho : o.op = .load 37 x) (hx : act.eval x = .pointer (some ⟨p, off, none⟩)) (hc : ∀ j v, s.cells[j]? = some v → w.cell? ⟨p, off + j, none⟩ = some v) : (execOp act.eval o).run Try.prog w = .ok (.value s.v) w :=
  exec_loads (cs := s.cells) (g := p) (off := off) 37 x ho hx Try.underlying37 (by rw [info_st, Gs.len hs]) hc
theorem exec_ldCf {w : World} {o : Oper} {act : Act} {p : Nat} {c : Cf} {rv tv : Value} (h : Cb w p c rv tv) (x : Operand) (ho : o.op = .load 28 x) (hx : act.eval x = .pointer (some ⟨p, 0, none⟩)) : (execOp act.eval o).run Try.prog w = .ok (.value (c.v rv tv)) w :=
  exec_loads (cs := c.cells rv tv) (g := p) (off := 0) 28 x ho hx Try.underlying28 info_cf h.blk.whole
theorem only_below {w W : World} (h : Only [] w W) : Below w.heap.size w W := h.below (Nat.le_refl _) (by simp)
end Go.Proofs.Ytngbannidbijmaa

/- Law 13: where its walks stand. Law 13: rows beside a state that is laid anew again and again. -/
import Derived.Test.YtngbannidbijmaaStepPl
import Derived.Test.YtngbannidbijmaaStepEq
import Derived.Test.YtngbannidbijmaaGStepOne
import Derived.Test.YtngbannidbijmaaGHandC
import Derived.Test.YtngbannidbijmaaSub
namespace Go.Proofs.Ytngbannidbijmaa
open Go.RowKit
set_option linter.unusedVariables false
set_option linter.unusedSimpArgs false

/-- a config at p, rows: all below T -/
structure Fd (w W : World) (T p : Nat) (c : Cf) (rv tv ov : Value) (rows : List (List Cl)) : Prop where
  conf : Cb W p c rv tv
  rd : Rd T W c rv tv
  rows : RdG 1 rRow T W ov rows
  only : Only [] w W
  lt : p < T
  le : w.heap.size ≤ p
  sz : T ≤ W.heap.size
theorem Fd.off {w W W' : World} {T p : Nat} {c : Cf} {rv tv ov : Value} {rows : List (List Cl)} (h : Fd w W T p c rv tv ov rows) {S : List Nat} (o : Only S W W') (hS : ∀ x ∈ S, T ≤ x) : Fd w W' T p c rv tv ov rows := by
  have h1 := h.lt
  have h2 := h.le
  exact ⟨h.conf.only o (fun m => by have := hS _ m; omega), h.rd.only o hS, h.rows.only rRow_st o hS, h.only.then o (fun x hx hl => by have := hS _ hx; omega), h.lt, h.le, Nat.le_trans h.sz o.size⟩
theorem Fd.then {w W W' : World} {T p : Nat} {c : Cf} {rv tv ov : Value} {rows : List (List Cl)} (h : Fd w W T p c rv tv ov rows) (o : Only [] W W') : Fd w W' T p c rv tv ov rows := h.off o (by simp)
theorem exec_eqT {w : World} {o : Oper} {act : Act} {s : Gs} (h1 : Step.Wf s) (x y : Operand) (r : TypeId) (ho : o.op = .binOp .eql 37 x y r) (hx : act.eval x = s.v) (hy : act.eval y = s.v) : (execOp act.eval o).run Try.prog w = .ok (.value (.bool true)) w := by
  have e := exec_eqS (w := w) (o := o) h1 h1 x y r ho hx hy
  simpa using e
theorem exec_len {w : World} {o : Oper} {act : Act} {a : Option Addr} {n c : Nat} {t : TypeId} (ht : Try.prog.underlying t = some (.slice (Try.prog.elem t))) (x : Operand) (ho : o.op = .call { callee := .builtin .len, args := #[x], argTypes := #[t] }) (hx : act.eval x = .slice a n c) : (execOp act.eval o).run Try.prog w = .ok (.value (.int .i64 n)) w := by
  simp only [execOp, ho, resolve, invoke, builtin, Sem.run_bind, Sem.run_pure, Result.andThen_ok, List.map_toArray, List.map_cons, List.map_nil, hx, run_len_slice (P := Try.prog) w t o.type a n c ht]
  rfl
theorem sb_at {w : World} {x : Nat} {s : Gs} (h : w.heap.size = x) (hs : Step.Wf s) (t : TypeId) : Sb (w.alloc (.cells s.cells.toArray t)) x s := h ▸ Sb.new hs w t
theorem hs_row (w : World) : (sizeOf 45).run Try.prog w = .ok 1 w := by kernel_rfl
/-- a row among them -/
theorem Fd.row {w W : World} {T p : Nat} {c : Cf} {rv tv ov : Value} {rows : List (List Cl)} (h : Fd w W T p c rv tv ov rows) {i : Nat} {row : List Cl} (hr : rows[i]? = some row) : ∃ b off cap ra rn rc, ov = .slice (some ⟨b, off, none⟩) rows.length cap ∧ W.cell? ⟨b, off + i, none⟩ = some (.slice ra rn rc) ∧ RdC T W (.slice ra rn rc) row ∧ b < T := by
  obtain ⟨b, off, cap, hv, hbB, hbl, cs, ⟨rwv, rfl, RC⟩, -, hc⟩ := h.rows.get hr
  obtain ⟨ra, rc, e, _⟩ := id RC
  have := hc 0 (by omega)
  subst e
  exact ⟨b, off, cap, ra, _, rc, hv, by simpa using this, RC, hbB⟩
theorem at_rows {g off n cap k : Nat} (hk : k < n) (w : World) : (Instr.indexAt 47 (.slice (some ⟨g, off, none⟩) n cap) (.int .i64 (k : Nat))).run Try.prog w = .ok (.pointer (some ⟨g, off + k, none⟩)) w := by
  have hs : (sizeOf (Try.prog.elem 47)).run Try.prog w = .ok 1 w := by kernel_rfl
  rw [run_indexAt_slice (h := by kernel_rfl), if_pos ⟨by omega, by omega⟩, hs]
  simp [Result.andThen, Addr.add_lit]
theorem exec_atRs {w : World} {o : Oper} {act : Act} {g off n cap k : Nat} (hk : k < n) (x y : Operand) (ho : o.op = .indexAddr 47 x y) (hx : act.eval x = .slice (some ⟨g, off, none⟩) n cap) (hy : act.eval y = .int .i64 (k : Nat)) : (execOp act.eval o).run Try.prog w = .ok (.value (.pointer (some ⟨g, off + k, none⟩))) w := by
  simp only [execOp, ho, hx, hy, Sem.run_bind, at_rows hk, Result.andThen_ok, Sem.run_pure]
theorem exec_ldC {w : World} {o : Oper} {act : Act} {a : Addr} {b : Option Addr} {n c : Nat} (x : Operand) (ho : o.op = .load 45 x) (hx : act.eval x = .pointer (some a)) (h : w.cell? a = some (.slice b n c)) : (execOp act.eval o).run Try.prog w = .ok (.value (.slice b n c)) w := by
  simp only [execOp, ho, hx]
  go_simp
theorem exec_ldS {w : World} {o : Oper} {act : Act} {p off : Nat} {s : Gs} (hs : Step.Wf s) (x : Operand) (ho : o.op = .load 37 x) (hx : act.eval x = .pointer (some ⟨p, off, none⟩)) (hc : ∀ j v, s.cells[j]? = some v → w.cell? ⟨p, off + j, none⟩ = some v) : (execOp act.eval o).run Try.prog w = .ok (.value s.v) w :=
  exec_loads (cs := s.cells) (g := p) (off := off) 37 x ho hx Try.underlying37 (by rw [info_st, Gs.len hs]) hc
theorem exec_ldCf {w : World} {o : Oper} {act : Act} {p : Nat} {c : Cf} {rv tv : Value} (h : Cb w p c rv tv) (x : Operand) (ho : o.op = .load 28 x) (hx : act.eval x = .pointer (some ⟨p, 0, none⟩)) : (execOp act.eval o).run Try.prog w = .ok (.value (c.v rv tv)) w :=
  exec_loads (cs := c.cells rv tv) (g := p) (off := 0) 28 x ho hx Try.underlying28 info_cf h.blk.whole
theorem only_below {w W : World} (h : Only [] w W) : Below w.heap.size w W := h.below (Nat.le_refl _) (by simp)
end Go.Proofs.Ytngbannidbijmaa
namespace Go.Proofs.Ytngbannidbijmaa
open Go.RowKit
set_option linter.unusedVariables false

/-- a row that reads, whatever is laid at xs, or behind all -/
def RowX (q xs T : Nat) (W : World) (v : Value) (row : List Cl) : Prop := RdC q W v row ∨ ∃ g, v = .slice (some ⟨g, 0, none⟩) row.length row.length ∧ g ≠ xs ∧ g < T ∧ row.length ≤ 8 ∧ Blk W g (elC.flat row)
/-- a config at p, a state at xs, rows -/
structure Fs (w W : World) (q xs T p : Nat) (c : Cf) (rv tv ov : Value) (rows : List (List Cl)) : Prop where
  conf : Cb W p c rv tv
  rd : Rd p W c rv tv
  rows : ∀ (i : Nat) (row : List Cl), rows[i]? = some row → ∃ b off cap ra rn rc, ov = .slice (some ⟨b, off, none⟩) rows.length cap ∧ b ≠ xs ∧ b < T ∧ W.cell? ⟨b, off + i, none⟩ = some (.slice ra rn rc) ∧ RowX q xs T W (.slice ra rn rc) row
  only : Only [] w W
  le : w.heap.size ≤ p
  qp : q < p
  lt : p < xs
  xT : xs < T
  sz : T ≤ W.heap.size
theorem Fs.off {w W W' : World} {q xs T p : Nat} {c : Cf} {rv tv ov : Value} {rows : List (List Cl)} (h : Fs w W q xs T p c rv tv ov rows) {S : List Nat} (o : Only S W W') (hS : ∀ x ∈ S, x = xs ∨ T ≤ x) : Fs w W' q xs T p c rv tv ov rows := by
  have h1 := h.lt
  have h2 := h.le
  have h3 := h.xT
  have h4 := h.qp
  have h5 := h.sz
  refine ⟨h.conf.only o (fun m => by have := hS _ m; omega), h.rd.only o (fun g hg => by have := hS g hg; omega), fun i row hr => ?_, h.only.then o (fun x hx hl => by have := hS x hx; have := h.only.size; omega), h.le, h.qp, h.lt, h.xT, Nat.le_trans h.sz o.size⟩
  obtain ⟨b, off, cap, ra, rn, rc, k1, k2, k3, k4, k5⟩ := h.rows i row hr
  refine ⟨b, off, cap, ra, rn, rc, k1, k2, k3, (o.cell (p := ⟨b, off + i, none⟩) (by show b < _; omega) (fun m => by have := hS b m; omega)).trans k4, ?_⟩
  rcases k5 with k5 | ⟨g, e1, e2, e3, e4, e5⟩
  · exact Or.inl (k5.only o (fun g hg => by have := hS g hg; omega))
  · exact Or.inr ⟨g, e1, e2, e3, e4, e5.only o (fun m => by have := hS _ m; omega)⟩
theorem Fs.then {w W W' : World} {q xs T p : Nat} {c : Cf} {rv tv ov : Value} {rows : List (List Cl)} (h : Fs w W q xs T p c rv tv ov rows) (o : Only [] W W') : Fs w W' q xs T p c rv tv ov rows := h.off o (by simp)
theorem Fs.row {w W : World} {q xs T p : Nat} {c : Cf} {rv tv ov : Value} {rows : List (List Cl)} (h : Fs w W q xs T p c rv tv ov rows) {i : Nat} {row : List Cl} (hr : rows[i]? = some row) : ∃ b off cap ra rn rc, ov = .slice (some ⟨b, off, none⟩) rows.length cap ∧ W.cell? ⟨b, off + i, none⟩ = some (.slice ra rn rc) ∧ RdC T W (.slice ra rn rc) row ∧ b < T := by
  obtain ⟨b, off, cap, ra, rn, rc, k1, k2, k3, k4, k5⟩ := h.rows i row hr
  refine ⟨b, off, cap, ra, rn, rc, k1, k4, ?_, k3⟩
  rcases k5 with k5 | ⟨g, e1, e2, e3, e4, e5⟩
  · exact k5.lower (by have := h.qp; have := h.lt; have := h.xT; omega)
  · rw [e1]
    exact rdc_blk (cap := row.length) (ys := []) (by rw [List.append_nil]; exact e5) (Nat.le_refl _) (by omega) e3
theorem Fs.rdT {w W : World} {q xs T p : Nat} {c : Cf} {rv tv ov : Value} {rows : List (List Cl)} (h : Fs w W q xs T p c rv tv ov rows) : Rd T W c rv tv := h.rd.upto (by have := h.lt; have := h.xT; omega)
/-- rows just made by the hand -/
theorem Hrs.rowx {w0 W : World} {B q xs : Nat} {lv ov : Value} {ls : List (List Int)} {ss : List Sl} {rows : List (List Cl)} {s : Gs} (h : Hrs w0 W B lv ov ls ss rows) (hx : xs < w0.heap.size) (hs : Sb W xs s) (i : Nat) (row : List Cl) (hr : rows[i]? = some row) :
    ∃ b off cap ra rn rc, ov = .slice (some ⟨b, off, none⟩) rows.length cap ∧ b ≠ xs ∧ b < W.heap.size ∧ W.cell? ⟨b, off + i, none⟩ = some (.slice ra rn rc) ∧ RowX q xs W.heap.size W (.slice ra rn rc) row := by
  have hi : i < ss.length := by rw [h.len]; exact (List.getElem?_eq_some_iff.1 hr).1
  obtain ⟨a', cap', hv', _, _, hc⟩ := h.own.rd
  rcases hc with hc | ⟨b, off, rfl, hb, hc⟩
  · rw [hc] at hi; simp at hi
  have hbx := (h.own.lt b (by rw [hv']; rfl)).1
  have h1 : ss[i]? = some ss[i] := List.getElem?_eq_getElem hi
  have hcell := hc (i * 1 + 0) _ (elR_ok.flat_get ss i _ h1 0 (by decide))
  obtain ⟨g, k1, k2, k3, k4⟩ := h.each i _ row h1 hr
  rw [k1] at hcell
  refine ⟨b, off, cap', some ⟨g, 0, none⟩, row.length, row.length, by rw [hv', h.len], by omega, hb, by simpa using hcell, Or.inr ⟨g, rfl, fun e => ?_, k2.lt, k4, k2⟩⟩
  subst e
  obtain ⟨t1, e1⟩ := hs.blk
  obtain ⟨t2, e2⟩ := k2
  rw [e1] at e2
  injection e2 with e2
  injection e2 with e2
  have e3 := congrArg List.length (List.toArray_inj e2)
  rw [Gs.len hs.wf, elC_ok.flat_len] at e3
  have : elC.c = 4 := rfl
  rw [this] at e3
  omega
theorem sb_ne {W : World} {xs g : Nat} {s : Gs} {row : List Cl} (hs : Sb W xs s) (h : Blk W g (elC.flat row)) (hl : row.length ≤ 8) : g ≠ xs := fun e => by
  subst e
  obtain ⟨t1, e1⟩ := hs.blk
  obtain ⟨t2, e2⟩ := h
  rw [e1] at e2
  injection e2 with e2
  injection e2 with e2
  have e3 := congrArg List.length (List.toArray_inj e2)
  rw [Gs.len hs.wf, elC_ok.flat_len] at e3
  have : elC.c = 4 := rfl
  rw [this] at e3
  omega
theorem Hrs.at_ {w0 W : World} {B : Nat} {lv ov : Value} {ls : List (List Int)} {ss : List Sl} {rows : List (List Cl)} (h : Hrs w0 W B lv ov ls ss rows) (i : Nat) (row : List Cl) (hr : rows[i]? = some row) :
    ∃ b off cap g, ov = .slice (some ⟨b, off, none⟩) rows.length cap ∧ w0.heap.size ≤ b ∧ b < W.heap.size ∧ W.cell? ⟨b, off + i, none⟩ = some (.slice (some ⟨g, 0, none⟩) row.length row.length) ∧ row.length ≤ 8 ∧ Blk W g (elC.flat row) := by
  have hi : i < ss.length := by rw [h.len]; exact (List.getElem?_eq_some_iff.1 hr).1
  obtain ⟨a', cap', hv', _, _, hc⟩ := h.own.rd
  rcases hc with hc | ⟨b, off, rfl, hb, hc⟩
  · rw [hc] at hi; simp at hi
  have hbx := (h.own.lt b (by rw [hv']; rfl)).1
  have h1 : ss[i]? = some ss[i] := List.getElem?_eq_getElem hi
  have hcell := hc (i * 1 + 0) _ (elR_ok.flat_get ss i _ h1 0 (by decide))
  obtain ⟨g, k1, k2, k3, k4⟩ := h.each i _ row h1 hr
  rw [k1] at hcell
  exact ⟨b, off, cap', g, by rw [hv', h.len], hbx, hb, by simpa using hcell, k4, k2⟩
/-- all scores, held against others -/
theorem exec_ldSc {w : World} {o : Oper} {act : Act} {p : Nat} {s : Gs} (h : Sb w p s) (x : Operand) (ho : o.op = .load 35 x) (hx : act.eval x = .pointer (some ⟨p, 194, none⟩)) : (execOp act.eval o).run Try.prog w = .ok (.value (.agg (nums s.sc).toArray)) w := by
  have hr := run_loadsA (w := w) (g := p) (off := 194) (cs := nums s.sc) 35 Try.underlying35 (by rw [info_sc]; simp [nums, h.wf.s]) h.scores
  simp only [execOp, ho, hx, Sem.run_bind, hr, Result.andThen_ok, Sem.run_pure]
theorem exec_eqSc {w : World} {o : Oper} {act : Act} {a b : List Int} (h1 : a.length = 8) (h2 : b.length = 8) (x y : Operand) (r : TypeId) (ho : o.op = .binOp .eql 35 x y r) (hx : act.eval x = .agg (nums a).toArray) (hy : act.eval y = .agg (nums b).toArray) : (execOp act.eval o).run Try.prog w = .ok (.value (.bool (decide (a = b)))) w := by
  have e := eq_scores w 9996 h1 h2
  have hg : ∀ a b : Array Value, (eqGuard .eql 35 x y (.agg a) (.agg b)).run Try.prog w = .ok () w := fun a b => by
    have hg : Try.prog.eqGuardType Try.prog.depth 35 = false := by kernel_rfl
    unfold eqGuard
    simp [hg]
  simp only [execOp, ho, hx, hy, Sem.run_bind, hg, Result.andThen_ok, binOp, Op.equal, Op.maxDepth, e, Sem.run_pure]
theorem exec_eqScT {w : World} {o : Oper} {act : Act} {a : List Int} (h1 : a.length = 8) (x y : Operand) (r : TypeId) (ho : o.op = .binOp .eql 35 x y r) (hx : act.eval x = .agg (nums a).toArray) (hy : act.eval y = .agg (nums a).toArray) : (execOp act.eval o).run Try.prog w = .ok (.value (.bool true)) w := by
  have e := exec_eqSc (w := w) (o := o) h1 h1 x y r ho hx hy
  simpa using e
end Go.Proofs.Ytngbannidbijmaa

/- Package rule: a Run, and its answers laid; operations under a guard. -/
import Derived.Test.YtngbannidbijmaaGRuleKA
import Derived.Test.YtngbannidbijmaaOpRow
import Derived.BigFrame
namespace Go.Proofs.Ytngbannidbijmaa
open Go.RowKit
set_option linter.unusedVariables false

section
variable {w w' w1 : World} {ops : Array Oper} {rest : List Oper} {o : Oper} {act : Act} {Q : Exit → Act → World → Prop}
/-- one operation whose guard says yes, its answer known -/
theorem opg_val (hw : Region.wanted o (yielded ops act.tmps) = true) (v : Value) (h0 : (execOp act.eval o).run Try.prog w = .ok (.value v) w') (h : wpList Try.prog ops Q rest (act.put o.dst v) w') : wpList Try.prog ops Q (o :: rest) act w := by
  refine BigFrame.wpList_want hw fun K hK => ?_
  unfold Oper.wp
  rw [h0]
  exact hK _ _ h
theorem opg_loads (hw : Region.wanted o (yielded ops act.tmps) = true) {cs : List Value} {g off : Nat} (ty : TypeId) (x : Operand) (ho : o.op = .load ty x) (hx : act.eval x = .pointer (some ⟨g, off, none⟩))
    {f : Array Field} (hu : Try.prog.underlying ty = some (.struct f)) (hi : (Try.prog.info? ty).map (·.size) = some cs.length) (hc : ∀ j v, cs[j]? = some v → w.cell? ⟨g, off + j, none⟩ = some v) (h : wpList Try.prog ops Q rest (act.put o.dst (.agg cs.toArray)) w) : wpList Try.prog ops Q (o :: rest) act w := by
  refine opg_val hw (.agg cs.toArray) ?_ h
  simp only [execOp, ho, hx, Sem.run_bind, run_loads ty hu hi hc, Result.andThen_ok, Sem.run_pure]
/-- an Env is read at once -/
theorem opg_env (hw : Region.wanted o (yielded ops act.tmps) = true) {p : Nat} {e : Ev} {s : Value} (x : Operand) (ho : o.op = .load 108 x) (hx : act.eval x = .pointer (some ⟨p, 0, none⟩)) (hE : Eb w p e s) (h : wpList Try.prog ops Q rest (act.put o.dst (e.v s)) w) : wpList Try.prog ops Q (o :: rest) act w :=
  opg_loads hw (cs := e.cells s) 108 x ho hx Try.underlying108 info_env hE.cell h
theorem op_env (hgd : o.guard = none) {p : Nat} {e : Ev} {s : Value} (x : Operand) (ho : o.op = .load 108 x) (hx : act.eval x = .pointer (some ⟨p, 0, none⟩)) (hE : Eb w p e s) (h : wpList Try.prog ops Q rest (act.put o.dst (e.v s)) w) : wpList Try.prog ops Q (o :: rest) act w :=
  op_loads hgd (cs := e.cells s) 108 x ho hx Try.underlying108 info_env hE.cell h
theorem Eb.bodyCell {w : World} {p : Nat} {e : Ev} {s : Value} (h : Eb w p e s) : ∀ j v, e.b.cells[j]? = some v → w.cell? ⟨p, 0 + j, none⟩ = some v :=
  Blk.part (xs := []) (cs := e.b.cells) (ys := [.int .i64 e.t, .int .i64 e.ix, .int .i64 e.iy, .int .u64 e.d, .int .i64 e.room, s]) (by have := h.blk; exact this)
/-- its body, alone -/
theorem opg_body (hw : Region.wanted o (yielded ops act.tmps) = true) {p : Nat} {e : Ev} {s : Value} (x : Operand) (ho : o.op = .load 33 x) (hx : act.eval x = .pointer (some ⟨p, 0, none⟩)) (hE : Eb w p e s) (h : wpList Try.prog ops Q rest (act.put o.dst e.b.v) w) : wpList Try.prog ops Q (o :: rest) act w :=
  opg_loads hw (cs := e.b.cells) 33 x ho hx Try.underlying33 (by kernel_rfl) hE.bodyCell h
/-- a Fault is laid -/
theorem op_storeF {p : Nat} {x0 y0 : Value} {c a : Int} (hgd : o.guard = none) (x y : Operand) (ho : o.op = .store 110 x y) (hx : act.eval x = .pointer (some ⟨p, 0, none⟩)) (hy : act.eval y = .agg #[.int .i64 c, .int .i64 a]) (hB : Two w p x0 y0)
    (h : ∀ w', Two w' p (.int .i64 c) (.int .i64 a) → Only [p] w w' → w'.heap.size = w.heap.size → wpList Try.prog ops Q rest (act.put o.dst undef) w') : wpList Try.prog ops Q (o :: rest) act w := by
  obtain ⟨t, hB⟩ := hB
  refine op_store (vs := [.int .i64 c, .int .i64 a]) hgd 110 x y ho 0 hx hy (cs := [x0, y0]) ⟨t, hB⟩ (by kernel_rfl) (by simp) (by intro v hv; simp at hv; rcases hv with rfl | rfl <;> rfl) ?_
  intro w' hb ho hz
  obtain ⟨t2, hb⟩ := hb
  exact h w' ⟨t2, by simpa using hb⟩ ho hz
end
set_option maxRecDepth 100000 in
theorem neq_flt (a b c d : Int) (w : World) : (binOp .neq 110 (.agg #[.int .i64 a, .int .i64 b]) (.agg #[.int .i64 c, .int .i64 d])).run Try.prog w = .ok (.bool (!(a == c && b == d))) w := by
  have hu := Try.underlying110
  have hs : Try.prog.stoodInHeld 110 = false := by kernel_rfl
  have q : ∀ a b : Int, (Op.equalIn 9999 3 (.int .i64 a) (.int .i64 b)).run Try.prog w = .ok (a == b) w := fun a b => run_equalIn_int w 9998 3 .i64 .i64 a b Try.underlying3
  have key : (Op.equalIn 10000 110 (.agg #[.int .i64 a, .int .i64 b]) (.agg #[.int .i64 c, .int .i64 d])).run Try.prog w = .ok (a == c && (b == d && true)) w := by
    rw [run_equalIn_struct w 9999 110 _ _ (by simp only [Program.fieldsOf, hu]) hs]
    simp only [Program.fieldsOf, hu]
    exact eqFields_cons w _ _ _ _ _ (by decide) _ _ _ _ rfl rfl (q _ _) <| eqFields_cons w _ _ _ _ _ (by decide) _ _ _ _ rfl rfl (q _ _) <| eqFields_nil w _ _ _
  simp only [binOp, Op.equal, Op.maxDepth, Sem.run_bind, key, Result.andThen_ok, Sem.run_pure, Bool.and_true]
/-- what a Run and the laying of its answers leave: at p what is then, at q the fault -/
structure RunSeq (w W : World) (p q : Nat) (v : Value) (R : Ev × Int × Int × Bool) : Prop where
  env : Eb W p R.1 v
  flt : Two W q (.int .i64 R.2.1) (.int .i64 R.2.2.1)
  row : SR w.heap.size W v R.1.sh
  only : Only [] w W
  lt1 : w.heap.size ≤ p
  lt2 : p < q
theorem RunSeq.then {w W W' : World} {p q : Nat} {v : Value} {R : Ev × Int × Int × Bool} (h : RunSeq w W p q v R) (o : Only [] W W') : RunSeq w W' p q v R :=
  ⟨h.env.only o (by simp), h.flt.only o (by simp), h.row.only o (by simp), h.only.trans o, h.lt1, h.lt2⟩
def AR2 (act : Act) (oc om : Oper) (T : Value) : Act := (act.put oc.dst T).put om.dst T
def AR5 (act : Act) (oc om o0 o1 o2 : Oper) (x y z : Value) : Act := (((AR2 act oc om (.tuple #[x, y, z])).put o0.dst x).put o1.dst y).put o2.dst z
def AR7 (act : Act) (oc om o0 o1 o2 oa ob : Oper) (x y z p q : Value) : Act := ((AR5 act oc om o0 o1 o2 x y z).put oa.dst p).put ob.dst q
set_option maxRecDepth 100000 in
theorem run_seq {w : World} {ops : Array Oper} {rest : List Oper} {oc om o0 o1 o2 oa ob os ot oq : Oper} {act : Act} {Q : Exit → Act → World → Prop}
    {B : Nat} {e : Ev} {s ov : Value} {l : List Op3} {R : Ev × Int × Int × Bool}
    (hs : SR B w s e.sh) (hl : e.sh.length ≤ 900000) (hn : l.length ≤ 1000000) (ho : RdO w.heap.size w ov l) (hR : Rule.run l e = R)
    (gc : oc.guard = none) (gm : om.guard = none) (g0 : o0.guard = none) (g1 : o1.guard = none) (g2 : o2.guard = none) (ga : oa.guard = none) (gb : ob.guard = none) (gs : os.guard = none) (gt : ot.guard = none) (gq : oq.guard = none)
    (hc : (execOp act.eval oc).run Try.prog w = .ok (.enter 73 #[ov, e.v s]) w)
    (hm : ∀ T w', (execOp (act.put oc.dst T).eval om).run Try.prog w' = .ok (.value T) w')
    (h0 : ∀ x y z w', (execOp (AR2 act oc om (.tuple #[x, y, z])).eval o0).run Try.prog w' = .ok (.value x) w')
    (h1 : ∀ x y z w', (execOp ((AR2 act oc om (.tuple #[x, y, z])).put o0.dst x).eval o1).run Try.prog w' = .ok (.value y) w')
    (h2 : ∀ x y z w', (execOp (((AR2 act oc om (.tuple #[x, y, z])).put o0.dst x).put o1.dst y).eval o2).run Try.prog w' = .ok (.value z) w')
    (ha : oa.op = .alloc 108) (hb : ob.op = .alloc 110)
    (x1 y1 x2 y2 : Operand) (h3 : os.op = .store 108 x1 y1) (h4 : ot.op = .store 110 x2 y2) (ds : os.dst = none) (dt : ot.dst = none)
    (e1 : ∀ x y z p q, (AR7 act oc om o0 o1 o2 oa ob x y z p q).eval x1 = p) (e2 : ∀ x y z p q, (AR7 act oc om o0 o1 o2 oa ob x y z p q).eval y1 = x)
    (e3 : ∀ x y z p q, (AR7 act oc om o0 o1 o2 oa ob x y z p q).eval x2 = q) (e4 : ∀ x y z p q, (AR7 act oc om o0 o1 o2 oa ob x y z p q).eval y2 = y)
    (hq : ∀ x y z p q w', (execOp (AR7 act oc om o0 o1 o2 oa ob x y z p q).eval oq).run Try.prog w' = .ok (.value z) w')
    (h : ∀ W va vn vc p q, RunSeq w W p q (.slice va vn vc) R → wpList Try.prog ops Q rest ((AR7 act oc om o0 o1 o2 oa ob (R.1.v (.slice va vn vc)) (faultV R.2.1 R.2.2.1) (.bool R.2.2.2) (.pointer (some ⟨p, 0, none⟩)) (.pointer (some ⟨q, 0, none⟩))).put oq.dst (.bool R.2.2.2)) W) :
    wpList Try.prog ops Q (oc :: om :: o0 :: o1 :: o2 :: oa :: ob :: os :: ot :: oq :: rest) act w := by
  refine op_call gc hc ?_
  refine (hR ▸ rule_run e hs hl hn ho).mono ?_
  rintro x w3 ⟨⟨v, rfl, hv⟩, o3⟩
  refine ⟨_, rfl, ?_⟩
  obtain ⟨va, vn, vc, rfl⟩ := hv.form2
  refine op_val gm _ (hm _ _) ?_
  refine op_val g0 _ (h0 _ _ _ _) ?_
  refine op_val g1 _ (h1 _ _ _ _) ?_
  refine op_val g2 _ (h2 _ _ _ _) ?_
  refine op_val (w' := w3.alloc (.cells (Ev.zero.cells (.slice none 0 0)).toArray 108)) ga (.pointer (some ⟨w3.heap.size, 0, none⟩)) (by simp only [execOp, ha]; kernel_rfl) ?_
  have hs1 : (w3.alloc (.cells (Ev.zero.cells (.slice none 0 0)).toArray 108)).heap.size = w3.heap.size + 1 := by simp
  refine op_val (w' := (w3.alloc (.cells (Ev.zero.cells (.slice none 0 0)).toArray 108)).alloc (.cells #[.int .i64 0, .int .i64 0] 110)) gb (.pointer (some ⟨(w3.alloc (.cells (Ev.zero.cells (.slice none 0 0)).toArray 108)).heap.size, 0, none⟩)) (by simp only [execOp, hb]; kernel_rfl) ?_
  rw [hs1]
  obtain ⟨w5, hw5⟩ : ∃ w5, (w3.alloc (.cells (Ev.zero.cells (.slice none 0 0)).toArray 108)).alloc (.cells #[.int .i64 0, .int .i64 0] 110) = w5 := ⟨_, rfl⟩
  have k5 : Eb w5 w3.heap.size Ev.zero (.slice none 0 0) ∧ Two w5 (w3.heap.size + 1) (.int .i64 0) (.int .i64 0) ∧ Only [] w3 w5 := by
    subst hw5
    refine ⟨(Eb.new Ev.zero _ _ _).only ((Only.refl [] _).alloc _) (by simp), ?_, ((Only.refl [] _).alloc _).alloc _⟩
    have := Two.new (w3.alloc (.cells (Ev.zero.cells (.slice none 0 0)).toArray 108)) (.int .i64 0) (.int .i64 0) 110
    simpa using this
  rw [hw5]
  clear hw5
  have hsz := o3.size
  refine op_storeE (p := w3.heap.size) (e := R.1) (s := .slice va vn vc) gs x1 y1 h3 (e1 _ _ _ _ _) (e2 _ _ _ _ _) k5.1 rfl ?_
  intro w6 k6 o6 z6
  rw [ds]
  refine op_storeF (p := w3.heap.size + 1) (c := R.2.1) (a := R.2.2.1) gt x2 y2 h4 (e3 _ _ _ _ _) (e4 _ _ _ _ _) (k5.2.1.only o6 (by simp)) ?_
  intro w7 k7 o7 z7
  rw [dt]
  refine op_val gq _ (hq _ _ _ _ _ _) ?_
  have o36 : Only [] w3 w6 := k5.2.2.then o6 (fun u hu hl => by have h2 : u = w3.heap.size := (by simpa using hu); omega)
  have o37 : Only [] w3 w7 := o36.then o7 (fun u hu hl => by have h2 : u = w3.heap.size + 1 := (by simpa using hu); omega)
  exact h w7 va vn vc _ _ ⟨k6.only o7 (by simp), k7, hv.only o37 (by simp), o3.trans o37, hsz, by omega⟩
end Go.Proofs.Ytngbannidbijmaa

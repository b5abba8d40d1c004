/- Configs, states, cells as values; a state and a Step under way in memory. -/
import Derived.Test.YtngbannidbijmaaGStepM
import Derived.Test.YtngbannidbijmaaBodyRow
import Derived.Test.YtngbannidbijmaaOpG
namespace Go.Proofs.Ytngbannidbijmaa
open Go.RowKit
set_option linter.unusedVariables false

def Cl.cells (c : Cl) : List Value := [.bool c.r, .int .i64 c.i.b, .int .i64 c.i.x, .int .i64 c.i.y]
abbrev Inp.v (i : Inp) : Value := .agg #[.int .i64 i.b, .int .i64 i.x, .int .i64 i.y]
def Cf.cells (c : Cf) (rv tv : Value) : List Value := [.int .i64 c.pl, .int .i64 c.pe, .int .i64 c.gr, .int .i64 c.st, .int .i64 c.fr, .int .i64 c.sd, .float .f64 c.ra, .float .f64 c.de, rv, tv]
abbrev Cf.v (c : Cf) (rv tv : Value) : Value := .agg #[.int .i64 c.pl, .int .i64 c.pe, .int .i64 c.gr, .int .i64 c.st, .int .i64 c.fr, .int .i64 c.sd, .float .f64 c.ra, .float .f64 c.de, rv, tv]
def nums (l : List Int) : List Value := l.map fun n => .int .i64 n
def Gs.cells (s : Gs) : List Value := .int .i64 s.fr :: .int .u64 s.d :: (flatB s.bs ++ nums s.sc)
def Gs.v (s : Gs) : Value := .agg s.cells.toArray
theorem list8 {α : Type} {l : List α} (h : l.length = 8) : ∃ a0 a1 a2 a3 a4 a5 a6 a7, l = [a0, a1, a2, a3, a4, a5, a6, a7] := by
  match l, h with
  | [a0, a1, a2, a3, a4, a5, a6, a7], _ => exact ⟨a0, a1, a2, a3, a4, a5, a6, a7, rfl⟩
theorem list16 {α : Type} {l : List α} (h : l.length = 16) : ∃ a0 a1 a2 a3 a4 a5 a6 a7 b0 b1 b2 b3 b4 b5 b6 b7, l = [a0, a1, a2, a3, a4, a5, a6, a7, b0, b1, b2, b3, b4, b5, b6, b7] := by
  match l, h with
  | [a0, a1, a2, a3, a4, a5, a6, a7, b0, b1, b2, b3, b4, b5, b6, b7], _ => exact ⟨a0, a1, a2, a3, a4, a5, a6, a7, b0, b1, b2, b3, b4, b5, b6, b7, rfl⟩
theorem lt8 {i : Nat} (h : i < 8) : i = 0 ∨ i = 1 ∨ i = 2 ∨ i = 3 ∨ i = 4 ∨ i = 5 ∨ i = 6 ∨ i = 7 := by omega
theorem lt16 {i : Nat} (h : i < 16) : i = 0 ∨ i = 1 ∨ i = 2 ∨ i = 3 ∨ i = 4 ∨ i = 5 ∨ i = 6 ∨ i = 7 ∨ i = 8 ∨ i = 9 ∨ i = 10 ∨ i = 11 ∨ i = 12 ∨ i = 13 ∨ i = 14 ∨ i = 15 := by omega
theorem flatB_get (l : List Bd) : ∀ i j, i < l.length → j < 12 → (flatB l)[i * 12 + j]? = ((l.getD i Body.zero).cells)[j]? := by
  induction l with
  | nil => intro i j hi; simp at hi
  | cons y ys ih =>
    intro i j hi hj
    rw [flatB, List.flatMap_cons]
    change (y.cells ++ flatB ys)[_]? = _
    cases i with
    | zero => rw [List.getElem?_append_left (by simp [Bd.cells]; omega)]; simp
    | succ i =>
      rw [List.getElem?_append_right (by simp [Bd.cells]; omega), show (i + 1) * 12 + j - y.cells.length = i * 12 + j by simp [Bd.cells]; omega, ih i j (by simpa using hi) hj]
      simp
theorem bd_len (b : Bd) : b.cells.length = 12 := rfl
theorem Gs.len {s : Gs} (h : Step.Wf s) : s.cells.length = 202 := by
  simp only [Gs.cells, nums, List.length_cons, List.length_append, flatB_len, List.length_map, h.b, h.s]
theorem info_st : (Try.prog.info? 37).map (·.size) = some 202 := by kernel_rfl
theorem info_cf : (Try.prog.info? 28).map (·.size) = some 10 := by kernel_rfl
theorem info_bd : (Try.prog.info? 33).map (·.size) = some 12 := by kernel_rfl
theorem info_bs : (Try.prog.info? 34).map (·.size) = some 192 := by kernel_rfl
theorem info_sc : (Try.prog.info? 35).map (·.size) = some 8 := by kernel_rfl
theorem nums_one (l : List Int) : ∀ v ∈ nums l, v.oneCell' = true := by
  intro v hv
  obtain ⟨x, _, rfl⟩ := List.mem_map.1 hv
  rfl
theorem Gs.one (s : Gs) : ∀ v ∈ s.cells, v.oneCell' = true := by
  intro v hv
  rcases List.mem_cons.1 hv with rfl | hv
  · rfl
  rcases List.mem_cons.1 hv with rfl | hv
  · rfl
  rcases List.mem_append.1 hv with hv | hv
  · exact flatB_one _ v hv
  · exact nums_one _ v hv
theorem Bd.one (b : Bd) : ∀ v ∈ b.cells, v.oneCell' = true := by
  intro v hv
  simp only [Bd.cells, List.mem_cons, List.not_mem_nil, or_false] at hv
  rcases hv with rfl | rfl | rfl | rfl | rfl | rfl | rfl | rfl | rfl | rfl | rfl | rfl <;> rfl
set_option maxRecDepth 100000 in
/-- a body out of an array of them, read at once -/
theorem idx_body {bs : List Bd} (h : bs.length = 16) {i : Nat} (hi : i < 16) (w : World) : (Instr.index 34 (.agg (flatB bs).toArray) (.int .i64 (i : Nat))).run Try.prog w = .ok (bs.getD i Body.zero).v w := by
  obtain ⟨a0, a1, a2, a3, a4, a5, a6, a7, b0, b1, b2, b3, b4, b5, b6, b7, rfl⟩ := list16 h
  rcases lt16 hi with rfl | rfl | rfl | rfl | rfl | rfl | rfl | rfl | rfl | rfl | rfl | rfl | rfl | rfl | rfl | rfl <;> (show _ = _; kernel_rfl)
set_option maxRecDepth 100000 in
theorem idx_score {sc : List Int} (h : sc.length = 8) {i : Nat} (hi : i < 8) (w : World) : (Instr.index 35 (.agg (nums sc).toArray) (.int .i64 (i : Nat))).run Try.prog w = .ok (.int .i64 (sc.getD i 0)) w := by
  obtain ⟨a0, a1, a2, a3, a4, a5, a6, a7, rfl⟩ := list8 h
  rcases lt8 hi with rfl | rfl | rfl | rfl | rfl | rfl | rfl | rfl <;> (show _ = _; kernel_rfl)
set_option maxRecDepth 100000 in
/-- where a body of an array lies -/
theorem at_body {p off i : Nat} (hi : i < 16) (w : World) : (Instr.indexAt 34 (.pointer (some ⟨p, off, none⟩)) (.int .i64 (i : Nat))).run Try.prog w = .ok (.pointer (some ⟨p, off + i * 12, none⟩)) w := by
  rcases lt16 hi with rfl | rfl | rfl | rfl | rfl | rfl | rfl | rfl | rfl | rfl | rfl | rfl | rfl | rfl | rfl | rfl <;> (show _ = _; kernel_rfl)
set_option maxRecDepth 100000 in
theorem at_score {p off i : Nat} (hi : i < 8) (w : World) : (Instr.indexAt 35 (.pointer (some ⟨p, off, none⟩)) (.int .i64 (i : Nat))).run Try.prog w = .ok (.pointer (some ⟨p, off + i, none⟩)) w := by
  rcases lt8 hi with rfl | rfl | rfl | rfl | rfl | rfl | rfl | rfl <;> (show _ = _; kernel_rfl)
theorem exec_at {w : World} {o : Oper} {act : Act} {p off i : Nat} (hi : i < 16) (x y : Operand) (ho : o.op = .indexAddr 34 x y) (hx : act.eval x = .pointer (some ⟨p, off, none⟩)) (hy : act.eval y = .int .i64 (i : Nat)) : (execOp act.eval o).run Try.prog w = .ok (.value (.pointer (some ⟨p, off + i * 12, none⟩))) w := by
  simp only [execOp, ho, hx, hy, Sem.run_bind, at_body hi, Result.andThen_ok, Sem.run_pure]
theorem exec_ix {w : World} {o : Oper} {act : Act} {bs : List Bd} {i : Nat} (h : bs.length = 16) (hi : i < 16) (x y : Operand) (ho : o.op = .index 34 x y) (hx : act.eval x = .agg (flatB bs).toArray) (hy : act.eval y = .int .i64 (i : Nat)) : (execOp act.eval o).run Try.prog w = .ok (.value (bs.getD i Body.zero).v) w := by
  simp only [execOp, ho, hx, hy, Sem.run_bind, idx_body h hi, Result.andThen_ok, Sem.run_pure]
theorem exec_ixS {w : World} {o : Oper} {act : Act} {sc : List Int} {i : Nat} (h : sc.length = 8) (hi : i < 8) (x y : Operand) (ho : o.op = .index 35 x y) (hx : act.eval x = .agg (nums sc).toArray) (hy : act.eval y = .int .i64 (i : Nat)) : (execOp act.eval o).run Try.prog w = .ok (.value (.int .i64 (sc.getD i 0))) w := by
  simp only [execOp, ho, hx, hy, Sem.run_bind, idx_score h hi, Result.andThen_ok, Sem.run_pure]
theorem exec_atS {w : World} {o : Oper} {act : Act} {p off i : Nat} (hi : i < 8) (x y : Operand) (ho : o.op = .indexAddr 35 x y) (hx : act.eval x = .pointer (some ⟨p, off, none⟩)) (hy : act.eval y = .int .i64 (i : Nat)) : (execOp act.eval o).run Try.prog w = .ok (.value (.pointer (some ⟨p, off + i, none⟩))) w := by
  simp only [execOp, ho, hx, hy, Sem.run_bind, at_score hi, Result.andThen_ok, Sem.run_pure]
/-- the cells of a state, told one by one -/
theorem Gs.get_body (s : Gs) (h : Step.Wf s) {i j : Nat} (hi : i < 16) (hj : j < 12) : s.cells[2 + (i * 12 + j)]? = ((s.bs.getD i Body.zero).cells)[j]? := by
  rw [← flatB_get s.bs i j (by rw [h.b]; exact hi) hj]
  show (Value.int .i64 s.fr :: Value.int .u64 s.d :: (flatB s.bs ++ nums s.sc))[2 + (i * 12 + j)]? = _
  rw [show 2 + (i * 12 + j) = (i * 12 + j) + 1 + 1 by omega, List.getElem?_cons_succ, List.getElem?_cons_succ, List.getElem?_append_left (by rw [flatB_len, h.b]; omega)]
theorem Gs.get_score (s : Gs) (h : Step.Wf s) {i : Nat} (hi : i < 8) : s.cells[194 + i]? = some (.int .i64 (s.sc.getD i 0)) := by
  show (Value.int .i64 s.fr :: Value.int .u64 s.d :: (flatB s.bs ++ nums s.sc))[194 + i]? = _
  rw [show 194 + i = (192 + i) + 1 + 1 by omega, List.getElem?_cons_succ, List.getElem?_cons_succ, List.getElem?_append_right (by rw [flatB_len, h.b]; omega), flatB_len, h.b, show 192 + i - 16 * 12 = i by omega]
  have hl : i < s.sc.length := by rw [h.s]; exact hi
  simp [nums, List.getD_eq_getElem?_getD, hl]
theorem drop_flatB (l : List Bd) (i : Nat) (b : Bd) (hi : i < l.length) : (flatB l).take (i * 12) ++ b.cells ++ (flatB l).drop (i * 12 + 12) = flatB (l.set i b) := by
  induction l generalizing i with
  | nil => simp at hi
  | cons y ys ih =>
    cases i with
    | zero => simp [flatB, Bd.cells]
    | succ i =>
      have e1 : flatB (y :: ys) = y.cells ++ flatB ys := rfl
      have e2 : flatB (y :: ys.set i b) = y.cells ++ flatB (ys.set i b) := rfl
      rw [List.set_cons_succ, e2, ← ih i (by simpa using hi), e1]
      rw [List.take_append, List.drop_append, List.take_of_length_le (by rw [bd_len]; omega), List.drop_of_length_le (by rw [bd_len]; omega), bd_len, show (i + 1) * 12 - 12 = i * 12 by omega, show (i + 1) * 12 + 12 - 12 = i * 12 + 12 by omega]
      simp
/-- another body at a place -/
theorem Gs.set_body (s : Gs) (h : Step.Wf s) {i : Nat} (hi : i < 16) (b : Bd) (xs ys : List Value) :
    (xs ++ (s.cells ++ ys)).take (xs.length + (2 + i * 12)) ++ b.cells ++ (xs ++ (s.cells ++ ys)).drop (xs.length + (2 + i * 12) + b.cells.length) = xs ++ ({ s with bs := s.bs.set i b }.cells ++ ys) := by
  have hl : i < s.bs.length := by rw [h.b]; exact hi
  have k := drop_flatB s.bs i b hl
  have fl : (flatB s.bs).length = 192 := by rw [flatB_len, h.b]
  have e : ({ s with bs := s.bs.set i b } : Gs).cells = Value.int .i64 s.fr :: Value.int .u64 s.d :: (flatB (s.bs.set i b) ++ nums s.sc) := rfl
  rw [e, ← k]
  show (xs ++ ((Value.int .i64 s.fr :: Value.int .u64 s.d :: (flatB s.bs ++ nums s.sc)) ++ ys)).take _ ++ b.cells ++ (xs ++ ((Value.int .i64 s.fr :: Value.int .u64 s.d :: (flatB s.bs ++ nums s.sc)) ++ ys)).drop _ = _
  rw [List.take_append, List.drop_append, List.take_of_length_le (by omega), List.drop_of_length_le (by omega), bd_len, show xs.length + (2 + i * 12) - xs.length = i * 12 + 1 + 1 by omega, show xs.length + (2 + i * 12) + 12 - xs.length = (i * 12 + 12) + 1 + 1 by omega]
  simp only [List.cons_append, List.take_succ_cons, List.drop_succ_cons, List.append_assoc, List.nil_append]
  rw [List.take_append_of_le_length (by rw [fl]; omega), List.drop_append_of_le_length (by rw [fl]; omega)]
theorem Gs.put_fr (s : Gs) (n : Int) : s.cells.set 0 (.int .i64 n) = { s with fr := n }.cells := rfl
theorem Gs.put_d (s : Gs) (n : Int) : s.cells.set 1 (.int .u64 n) = { s with d := n }.cells := rfl
theorem Gs.put_sc (s : Gs) (h : Step.Wf s) {i : Nat} (hi : i < 8) (n : Int) : s.cells.set (194 + i) (.int .i64 n) = { s with sc := s.sc.set i n }.cells := by
  show (Value.int .i64 s.fr :: Value.int .u64 s.d :: (flatB s.bs ++ nums s.sc)).set (194 + i) _ = _
  rw [show 194 + i = (192 + i) + 1 + 1 by omega, List.set_cons_succ, List.set_cons_succ, List.set_append_right _ _ (by rw [flatB_len, h.b]; omega), flatB_len, h.b, show 192 + i - 16 * 12 = i by omega]
  have : (nums s.sc).set i (.int .i64 n) = nums (s.sc.set i n) := by simp [nums, List.map_set]
  rw [this]; rfl
/-- a state in a block of its own -/
structure Sb (w : World) (p : Nat) (s : Gs) : Prop where
  blk : Blk w p s.cells
  wf : Step.Wf s
theorem Sb.only {w w' : World} {p : Nat} {s : Gs} {S : List Nat} (h : Sb w p s) (o : Only S w w') (hn : p ∉ S) : Sb w' p s := ⟨h.blk.only o hn, h.wf⟩
theorem Sb.new {s : Gs} (h : Step.Wf s) (w : World) (t : TypeId) : Sb (w.alloc (.cells s.cells.toArray t)) w.heap.size s := ⟨Blk.new w _ _, h⟩
theorem Sb.body {w : World} {p : Nat} {s : Gs} (h : Sb w p s) {i : Nat} (hi : i < 16) : ∀ j v, ((s.bs.getD i Body.zero).cells)[j]? = some v → w.cell? ⟨p, 2 + i * 12 + j, none⟩ = some v := fun j v hj => by
  have hj12 : j < 12 := by rw [← bd_len (s.bs.getD i Body.zero)]; exact (List.getElem?_eq_some_iff.1 hj).1
  rw [h.blk.cell, show 2 + i * 12 + j = 2 + (i * 12 + j) by omega, s.get_body h.wf hi hj12, hj]
/-- a Step under way, in a block of its own -/
def Fr.cells (c : Cf) (rv tv : Value) (s : Gs) (fv : Value) : List Value := c.cells rv tv ++ (s.cells ++ [fv])
structure Fr (w : World) (p : Nat) (c : Cf) (rv tv : Value) (s : Gs) (fv : Value) : Prop where
  blk : Blk w p (Fr.cells c rv tv s fv)
  wf : Step.Wf s
section
variable {w w' : World} {p : Nat} {c : Cf} {rv tv fv : Value} {s : Gs} {S : List Nat}
theorem Fr.only (h : Fr w p c rv tv s fv) (o : Only S w w') (hn : p ∉ S) : Fr w' p c rv tv s fv := ⟨h.blk.only o hn, h.wf⟩
theorem Fr.get (h : Fr w p c rv tv s fv) (i : Nat) (hi : i < 202) : w.cell? ⟨p, 10 + i, none⟩ = s.cells[i]? := by
  rw [h.blk.cell]
  show (c.cells rv tv ++ (s.cells ++ [fv]))[10 + i]? = _
  rw [List.getElem?_append_right (by simp [Cf.cells]), show 10 + i - (c.cells rv tv).length = i by simp [Cf.cells], List.getElem?_append_left (by rw [Gs.len h.wf]; exact hi)]
theorem Fr.body (h : Fr w p c rv tv s fv) {i : Nat} (hi : i < 16) : ∀ j v, ((s.bs.getD i Body.zero).cells)[j]? = some v → w.cell? ⟨p, 12 + i * 12 + j, none⟩ = some v := fun j v hj => by
  have hj12 : j < 12 := by rw [← bd_len (s.bs.getD i Body.zero)]; exact (List.getElem?_eq_some_iff.1 hj).1
  rw [show 12 + i * 12 + j = 10 + (2 + (i * 12 + j)) by omega, h.get _ (by omega), s.get_body h.wf hi hj12, hj]
theorem Fr.score (h : Fr w p c rv tv s fv) {i : Nat} (hi : i < 8) : w.cell? ⟨p, 204 + i, none⟩ = some (.int .i64 (s.sc.getD i 0)) := by
  rw [show 204 + i = 10 + (194 + i) by omega, h.get _ (by omega), s.get_score h.wf hi]
theorem Fr.conf (h : Fr w p c rv tv s fv) : ∀ j v, (c.cells rv tv)[j]? = some v → w.cell? ⟨p, 0 + j, none⟩ = some v := fun j v hj => by
  rw [h.blk.cell, Nat.zero_add]
  show (c.cells rv tv ++ (s.cells ++ [fv]))[j]? = _
  rw [List.getElem?_append_left (List.getElem?_eq_some_iff.1 hj).1, hj]
theorem Fr.pl (h : Fr w p c rv tv s fv) : w.cell? ⟨p, 0, none⟩ = some (.int .i64 c.pl) := h.conf 0 _ rfl
theorem Fr.rules (h : Fr w p c rv tv s fv) : w.cell? ⟨p, 8, none⟩ = some rv := h.conf 8 _ rfl
theorem Fr.frame (h : Fr w p c rv tv s fv) : w.cell? ⟨p, 10, none⟩ = some (.int .i64 s.fr) := h.get 0 (by omega)
theorem Fr.dice (h : Fr w p c rv tv s fv) : w.cell? ⟨p, 11, none⟩ = some (.int .u64 s.d) := h.get 1 (by omega)
theorem Fr.fired (h : Fr w p c rv tv s fv) : w.cell? ⟨p, 212, none⟩ = some fv := by
  rw [h.blk.cell]
  show (c.cells rv tv ++ (s.cells ++ [fv]))[212]? = _
  rw [List.getElem?_append_right (by simp [Cf.cells]), show 212 - (c.cells rv tv).length = 202 by simp [Cf.cells], List.getElem?_append_right (by rw [Gs.len h.wf]; omega), Gs.len h.wf]
  rfl
/-- all bodies, all scores, the state, as one part of the block -/
theorem Fr.state (h : Fr w p c rv tv s fv) : ∀ j v, s.cells[j]? = some v → w.cell? ⟨p, 10 + j, none⟩ = some v := fun j v hj => by
  have := (List.getElem?_eq_some_iff.1 hj).1
  rw [Gs.len h.wf] at this
  rw [h.get _ this, hj]
theorem Fr.bodies (h : Fr w p c rv tv s fv) : ∀ j v, (flatB s.bs)[j]? = some v → w.cell? ⟨p, 12 + j, none⟩ = some v := fun j v hj => by
  have hl := (List.getElem?_eq_some_iff.1 hj).1
  rw [flatB_len, h.wf.b] at hl
  rw [show 12 + j = 10 + (j + 1 + 1) by omega, h.get _ (by omega)]
  show (Value.int .i64 s.fr :: Value.int .u64 s.d :: (flatB s.bs ++ nums s.sc))[j + 1 + 1]? = _
  rw [List.getElem?_cons_succ, List.getElem?_cons_succ, List.getElem?_append_left (by rw [flatB_len, h.wf.b]; exact hl), hj]
theorem Fr.setCell (h : Fr w p c rv tv s fv) {i : Nat} (hi : i < 202) {s' : Gs} {v : Value} (e : s.cells.set i v = s'.cells) (h' : Step.Wf s') : Fr (w.setCell ⟨p, 10 + i, none⟩ v) p c rv tv s' fv := by
  refine ⟨?_, h'⟩
  have := h.blk.set (10 + i) v
  have e2 : (Fr.cells c rv tv s fv).set (10 + i) v = Fr.cells c rv tv s' fv := by
    show (c.cells rv tv ++ (s.cells ++ [fv])).set (10 + i) v = c.cells rv tv ++ (s'.cells ++ [fv])
    rw [List.set_append_right _ _ (by simp [Cf.cells]), show 10 + i - (c.cells rv tv).length = i by simp [Cf.cells], List.set_append_left _ _ (by rw [Gs.len h.wf]; exact hi), e]
  rwa [e2] at this
theorem Fr.setFrame (h : Fr w p c rv tv s fv) (n : Int) : Fr (w.setCell ⟨p, 10, none⟩ (.int .i64 n)) p c rv tv { s with fr := n } fv := h.setCell (i := 0) (by omega) (s.put_fr n) ⟨h.wf.b, h.wf.s⟩
theorem Fr.setDice (h : Fr w p c rv tv s fv) (n : Int) : Fr (w.setCell ⟨p, 11, none⟩ (.int .u64 n)) p c rv tv { s with d := n } fv := h.setCell (i := 1) (by omega) (s.put_d n) ⟨h.wf.b, h.wf.s⟩
theorem Fr.setScore (h : Fr w p c rv tv s fv) {i : Nat} (hi : i < 8) (n : Int) : Fr (w.setCell ⟨p, 204 + i, none⟩ (.int .i64 n)) p c rv tv { s with sc := s.sc.set i n } fv := by
  have := h.setCell (i := 194 + i) (by omega) (s.put_sc h.wf hi n) ⟨h.wf.b, by show (s.sc.set i n).length = 8; rw [List.length_set]; exact h.wf.s⟩
  rwa [show 10 + (194 + i) = 204 + i by omega] at this
theorem Fr.setFired (h : Fr w p c rv tv s fv) (v : Value) : Fr (w.setCell ⟨p, 212, none⟩ v) p c rv tv s v := by
  refine ⟨?_, h.wf⟩
  have := h.blk.set 212 v
  have e2 : (Fr.cells c rv tv s fv).set 212 v = Fr.cells c rv tv s v := by
    show (c.cells rv tv ++ (s.cells ++ [fv])).set 212 v = c.cells rv tv ++ (s.cells ++ [v])
    rw [List.set_append_right _ _ (by simp [Cf.cells]), show 212 - (c.cells rv tv).length = 202 by simp [Cf.cells], List.set_append_right _ _ (by rw [Gs.len h.wf]; omega), Gs.len h.wf]
    rfl
  rwa [e2] at this
/-- a body is laid at a place -/
theorem op_storeB {ops : Array Oper} {rest : List Oper} {o : Oper} {act : Act} {Q : Exit → Act → World → Prop} (hgd : o.guard = none) (h : Fr w p c rv tv s fv) {i : Nat} (hi : i < 16) (b : Bd) (x y : Operand) (ho : o.op = .store 33 x y) (hx : act.eval x = .pointer (some ⟨p, 12 + i * 12, none⟩)) (hy : act.eval y = b.v)
    (k : ∀ w', Fr w' p c rv tv { s with bs := s.bs.set i b } fv → Only [p] w w' → w'.heap.size = w.heap.size → wpList Try.prog ops Q rest (act.put o.dst undef) w') : wpList Try.prog ops Q (o :: rest) act w := by
  have hl := Gs.len h.wf
  refine op_store (vs := b.cells) (cs := Fr.cells c rv tv s fv) hgd 33 x y ho (12 + i * 12) hx hy h.blk info_bd (by simp only [Fr.cells, List.length_append, hl, Cf.cells, bd_len, List.length_cons, List.length_nil]; omega) b.one ?_
  intro w' hb o2 hz
  have e := s.set_body h.wf hi b (c.cells rv tv) [fv]
  have e0 : (c.cells rv tv).length + (2 + i * 12) = 12 + i * 12 := by simp [Cf.cells]; omega
  rw [e0] at e
  unfold Fr.cells at hb
  rw [e] at hb
  exact k w' ⟨hb, by show (s.bs.set i b).length = 16; rw [List.length_set]; exact h.wf.b, h.wf.s⟩ o2 hz
end
end Go.Proofs.Ytngbannidbijmaa

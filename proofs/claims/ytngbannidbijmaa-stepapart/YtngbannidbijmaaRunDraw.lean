/- Package rule: a Run whose answers are laid in a region that draws its order: what its operations come to. -/
import Derived.Test.YtngbannidbijmaaSeqRun
import Derived.Test.YtngbannidbijmaaGRegL
namespace Go.Proofs.Ytngbannidbijmaa
open Go.RowKit
set_option linter.unusedVariables false

section
variable {P : Program} {base : List (Nat × Value)} {K : Act → World → Prop} {a0 : Act} {w0 : World} {ops : Array Oper} {sps : EntL} {cons : List Nat} {k : Nat} {o : Oper} {rest : List Oper}
abbrev lsVal (c : Value) : Ls := ⟨[], [], fun v _ => v = c, fun _ _ _ => True, fun _ _ => []⟩
/-- a value -/
theorem rl_val (c : Value) (hg : o.guard = none) (h : ∀ f a w, Only [] w0 w → (∀ p ∈ base, a.tmps.getD p.1 undef = p.2) ∧ FxL sps f a o.after.toList → (execOp a.eval o).run P w = .ok (.value c) w)
    (hr : RL P base K a0 w0 ops (k + 1) rest ((k, o.dst, lsVal c) :: sps) cons) : RL P base K a0 w0 ops k (o :: rest) sps cons :=
  ⟨lsVal c, hg, rfl, List.nodup_nil, rfl, fun _ _ _ _ _ _ _ _ => trivial, fun f a w hO hb hf _ => by
    rw [h f a w hO ⟨hb, hf⟩]
    exact ⟨rfl, trivial, Only.refl _ _, fun g hg => by cases hg⟩, hr⟩
/-- whatever else -/
theorem rl_eff (s : Ls) (hg : o.guard = none) (hc : (s.C.all fun c => waits ops k c && !cons.contains c) = true) (hnd : s.C.Nodup) (hd : (s.D.all fun c => waits ops k c) = true) (hl : LocL s)
    (he : ∀ f a w, Only [] w0 w → (∀ p ∈ base, a.tmps.getD p.1 undef = p.2) ∧ FxL sps f a o.after.toList → CxL sps f a w w0.heap.size s.C → effL P (postL s (s.D.map f) (s.C.flatMap (FpL sps f a)) w) ((execOp a.eval o).run P w))
    (hr : RL P base K a0 w0 ops (k + 1) rest ((k, o.dst, s) :: sps) (s.C ++ cons)) : RL P base K a0 w0 ops k (o :: rest) sps cons :=
  ⟨s, hg, hc, hnd, hd, hl, fun f a w hO hb hf hcx => he f a w hO ⟨hb, hf⟩ hcx, hr⟩
end
/-- the block to which a value points -/
def ptrB : Value → List Nat
  | .pointer (some a) => [a.block]
  | _ => []
/-- the block of the Shots of an Env, alone or first of three -/
def shA (xs : Array Value) : List Nat := match xs[17]? with
  | some s => s.ownBlock.toList
  | none => []
def shB : Value → List Nat
  | .agg xs => shA xs
  | .tuple xs => (match (xs[0]? : Option Value) with
    | some (Value.agg ys) => shA ys
    | _ => [])
  | _ => []
theorem shB_env (e : Ev) (s : Value) : shB (e.v s) = s.ownBlock.toList := rfl
theorem shB_tup (e : Ev) (s x y : Value) : shB (.tuple #[e.v s, x, y]) = s.ownBlock.toList := rfl
/-- a row of ops -/
abbrev lsRow (C : List Nat) (l : List Op3) : Ls := ⟨C, [], fun _ _ => True, fun w v _ => SO 0 w v l, fun v _ => v.ownBlock.toList⟩
theorem loc_row (C : List Nat) (l : List Op3) : LocL (lsRow C l) := fun w w' S v ds o hn h => SO.only h o fun g hg => hn g (by simpa [Option.mem_toList] using hg)
theorem post_row {C : List Nat} {l : List Op3} {ds : List Value} {S : List Nat} {w w' : World} {v v' : Value} (h : AppO 0 w v w' v' l) (hS : ∀ g, v.ownBlock = some g → g ∈ S) : postL (lsRow C l) ds S w v' w' := by
  refine ⟨trivial, h.row, h.only.weaken (fun g hg _ => hS g (by simpa [Option.mem_toList] using hg)), fun g hg => ?_⟩
  have hg' : v'.ownBlock = some g := by simpa [Option.mem_toList] using hg
  refine ⟨?_, (h.row.lt g hg').2⟩
  rcases h.at_ with e | e
  · exact Or.inl (hS g (by rw [← e]; exact hg'))
  · rw [hg'] at e; injection e with e; right; omega
/-- ops just laid, to be read -/
abbrev lsOps (l : List Op3) : Ls := ⟨[], [], fun _ _ => True, fun w v _ => RdP w v l, fun v _ => v.ownBlock.toList⟩
theorem loc_ops (l : List Op3) : LocL (lsOps l) := fun w w' S v ds o hn h => RdP.only h o fun g hg => hn g (by simpa [Option.mem_toList] using hg)
theorem post_ops {l : List Op3} {ds : List Value} {S : List Nat} {w : World} (hl : l.length ≤ maxLen) : postL (lsOps l) ds S w (.slice (some ⟨w.heap.size, 0, none⟩) l.length l.length) (w.alloc (.cells (flatO l).toArray 23)) := by
  refine ⟨trivial, rdp_new w l hl, (Only.refl _ _).alloc _, fun g hg => ?_⟩
  have hg' : g = w.heap.size := by simpa [Value.ownBlock] using hg
  exact ⟨Or.inr (by omega), by simp; omega⟩
/-- what Run answers -/
abbrev tupR (R : Ev × Int × Int × Bool) (s : Value) : Value := .tuple #[R.1.v s, faultV R.2.1 R.2.2.1, .bool R.2.2.2]
abbrev lsTup (C : List Nat) (N : Nat) (R : Ev × Int × Int × Bool) : Ls := ⟨C, [], fun v _ => ∃ a n c, v = tupR R (.slice a n c), fun w v _ => ∃ s, v = tupR R s ∧ SR N w s R.1.sh, fun v _ => shB v⟩
theorem loc_tup (C : List Nat) (N : Nat) (R : Ev × Int × Int × Bool) : LocL (lsTup C N R) := fun w w' S v ds o hn h => by
  obtain ⟨s, rfl, h⟩ := h
  exact ⟨s, rfl, h.only o fun g hg => hn g (by show g ∈ shB (tupR R s); rw [shB_tup]; simpa [Option.mem_toList] using hg)⟩
abbrev lsEnv (C : List Nat) (N : Nat) (R : Ev × Int × Int × Bool) : Ls := ⟨C, [], fun v _ => ∃ a n c, v = R.1.v (.slice a n c), fun w v _ => ∃ s, v = R.1.v s ∧ SR N w s R.1.sh, fun v _ => shB v⟩
theorem loc_env (C : List Nat) (N : Nat) (R : Ev × Int × Int × Bool) : LocL (lsEnv C N R) := fun w w' S v ds o hn h => by
  obtain ⟨s, rfl, h⟩ := h
  exact ⟨s, rfl, h.only o fun g hg => hn g (by show g ∈ shB (R.1.v s); rw [shB_env]; simpa [Option.mem_toList] using hg)⟩
theorem post_tup {C : List Nat} {N : Nat} {R : Ev × Int × Int × Bool} {ds : List Value} {S : List Nat} {w w' : World} {v : Value} (hN : N ≤ w.heap.size) (hv : SR w.heap.size w' v R.1.sh) (ho : Only [] w w') : postL (lsTup C N R) ds S w (tupR R v) w' := by
  obtain ⟨a, n, c, rfl⟩ := hv.form2
  refine ⟨⟨a, n, c, rfl⟩, ⟨_, rfl, hv.lower hN⟩, ho.weaken (by simp), fun g hg => ?_⟩
  have hg' : (Value.slice a n c).ownBlock = some g := by
    have : g ∈ shB (tupR R (.slice a n c)) := hg
    rw [shB_tup] at this; simpa [Option.mem_toList] using this
  exact ⟨Or.inr (hv.lt g hg').1, (hv.lt g hg').2⟩
/-- an Env, a Fault, just laid -/
abbrev lsE (N : Nat) : Ls := ⟨[], [], fun v _ => ∃ g, v = .pointer (some ⟨g, 0, none⟩), fun w v _ => ∃ g, v = .pointer (some ⟨g, 0, none⟩) ∧ N ≤ g ∧ Eb w g Ev.zero (.slice none 0 0), fun v _ => ptrB v⟩
abbrev lsF (N : Nat) : Ls := ⟨[], [], fun v _ => ∃ g, v = .pointer (some ⟨g, 0, none⟩), fun w v _ => ∃ g, v = .pointer (some ⟨g, 0, none⟩) ∧ N ≤ g ∧ Two w g (.int .i64 0) (.int .i64 0), fun v _ => ptrB v⟩
theorem loc_e (N : Nat) : LocL (lsE N) := fun w w' S v ds o hn h => by
  obtain ⟨g, rfl, hN, h⟩ := h
  exact ⟨g, rfl, hN, h.only o (hn g (by simp [ptrB]))⟩
theorem loc_f (N : Nat) : LocL (lsF N) := fun w w' S v ds o hn h => by
  obtain ⟨g, rfl, hN, h⟩ := h
  exact ⟨g, rfl, hN, h.only o (hn g (by simp [ptrB]))⟩
theorem post_e {N : Nat} {ds : List Value} {S : List Nat} {w : World} (hN : N ≤ w.heap.size) : postL (lsE N) ds S w (.pointer (some ⟨w.heap.size, 0, none⟩)) (w.alloc (.cells (Ev.zero.cells (.slice none 0 0)).toArray 108)) := by
  refine ⟨⟨_, rfl⟩, ⟨_, rfl, hN, Eb.new Ev.zero _ _ _⟩, (Only.refl _ _).alloc _, fun g hg => ?_⟩
  have hg' : g = w.heap.size := by simpa [ptrB] using hg
  exact ⟨Or.inr (by omega), by simp; omega⟩
theorem post_f {N : Nat} {ds : List Value} {S : List Nat} {w : World} (hN : N ≤ w.heap.size) : postL (lsF N) ds S w (.pointer (some ⟨w.heap.size, 0, none⟩)) (w.alloc (.cells #[.int .i64 0, .int .i64 0] 110)) := by
  refine ⟨⟨_, rfl⟩, ⟨_, rfl, hN, Two.new _ _ _ _⟩, (Only.refl _ _).alloc _, fun g hg => ?_⟩
  have hg' : g = w.heap.size := by simpa [ptrB] using hg
  exact ⟨Or.inr (by omega), by simp; omega⟩
/-- they are stored -/
abbrev lsStE (i j : Nat) (N : Nat) (R : Ev × Int × Int × Bool) : Ls := ⟨[i, j], [i, j], fun _ _ => True, fun w _ ds => ∃ g a n c, ds = [.pointer (some ⟨g, 0, none⟩), R.1.v (.slice a n c)] ∧ N ≤ g ∧ Eb w g R.1 (.slice a n c) ∧ SR N w (.slice a n c) R.1.sh, fun _ ds => ptrB (ds.getD 0 undef) ++ shB (ds.getD 1 undef)⟩
abbrev lsStF (i : Nat) (N : Nat) (c a : Int) : Ls := ⟨[i], [i], fun _ _ => True, fun w _ ds => ∃ g, ds = [.pointer (some ⟨g, 0, none⟩)] ∧ N ≤ g ∧ Two w g (.int .i64 c) (.int .i64 a), fun _ ds => ptrB (ds.getD 0 undef)⟩
theorem loc_ste (i j N : Nat) (R : Ev × Int × Int × Bool) : LocL (lsStE i j N R) := fun w w' S v ds o hn h => by
  obtain ⟨g, a, n, c, rfl, hN, h, k⟩ := h
  refine ⟨g, a, n, c, rfl, hN, h.only o (hn g ?_), k.only o fun g' hg => hn g' ?_⟩
  · show g ∈ ptrB _ ++ shB _
    simp [ptrB]
  · show g' ∈ ptrB _ ++ shB (R.1.v _)
    rw [shB_env]
    exact List.mem_append.2 (Or.inr (by simpa [Option.mem_toList] using hg))
theorem loc_stf (i N : Nat) (c a : Int) : LocL (lsStF i N c a) := fun w w' S v ds o hn h => by
  obtain ⟨g, rfl, hN, h⟩ := h
  exact ⟨g, rfl, hN, h.only o (hn g (by simp [ptrB]))⟩
theorem post_ste {i j N : Nat} {R : Ev × Int × Int × Bool} {S : List Nat} {w : World} {o : Oper} {act : Act} {v1 v2 f1 f2 : Value} (x y : Operand) (ho : o.op = .store 108 x y) (hx : act.eval x = v1) (hy : act.eval y = v2) (e1 : f1 = v1) (e2 : f2 = v2)
    (h1 : ∃ g, v1 = .pointer (some ⟨g, 0, none⟩) ∧ N ≤ g ∧ Eb w g Ev.zero (.slice none 0 0)) (h2 : ∃ s, v2 = R.1.v s ∧ SR N w s R.1.sh) (hd : ∀ g ∈ ptrB v1, g ∉ shB v2) (hS : ∀ g, g ∈ ptrB v1 ∨ g ∈ shB v2 → g ∈ S) :
    effL Try.prog (postL (lsStE i j N R) [f1, f2] S w) ((execOp act.eval o).run Try.prog w) := by
  subst e1 e2
  obtain ⟨g, rfl, hN, hE⟩ := h1
  obtain ⟨s, rfl, hR⟩ := h2
  obtain ⟨a, n, c, rfl⟩ := hR.form2
  have hng : ∀ g', (Value.slice a n c).ownBlock = some g' → g' ∉ [g] := fun g' hg' hm => by
    have : g' = g := by simpa using hm
    subst this
    exact hd g' (by simp [ptrB]) (by rw [shB_env]; simpa [Option.mem_toList] using hg')
  obtain ⟨w', hr, k1, k2, k3⟩ := exec_storeE x y ho hx hy hE (s := .slice a n c) rfl
  rw [hr]
  refine ⟨trivial, ⟨g, a, n, c, rfl, hN, k1, hR.only k2 hng⟩, k2.weaken (fun g' hg' _ => hS g' (Or.inl (by simpa [ptrB] using hg'))), fun g' hg' => ?_⟩
  have hm : g' ∈ ptrB (.pointer (some ⟨g, 0, none⟩)) ++ shB (R.1.v (.slice a n c)) := hg'
  rcases List.mem_append.1 hm with hm | hm
  · refine ⟨Or.inl (hS g' (Or.inl hm)), ?_⟩
    have : g' = g := by simpa [ptrB] using hm
    subst this; exact k1.lt
  · refine ⟨Or.inl (hS g' (Or.inr hm)), ?_⟩
    rw [shB_env] at hm
    have := (hR.lt g' (by simpa [Option.mem_toList] using hm)).2
    omega
theorem post_stf {i N : Nat} {c a : Int} {S : List Nat} {w : World} {o : Oper} {act : Act} {v1 f1 : Value} (x y : Operand) (ho : o.op = .store 110 x y) (hx : act.eval x = v1) (hy : act.eval y = faultV c a) (e1 : f1 = v1)
    (h1 : ∃ g, v1 = .pointer (some ⟨g, 0, none⟩) ∧ N ≤ g ∧ Two w g (.int .i64 0) (.int .i64 0)) (hS : ∀ g, g ∈ ptrB v1 → g ∈ S) :
    effL Try.prog (postL (lsStF i N c a) [f1] S w) ((execOp act.eval o).run Try.prog w) := by
  subst e1
  obtain ⟨g, rfl, hN, hE⟩ := h1
  obtain ⟨t, hE⟩ := hE
  obtain ⟨w', hr, k1, k2, k3⟩ := Blk.store (ty := 110) (vs := [.int .i64 c, .int .i64 a]) (cs := [.int .i64 0, .int .i64 0]) 0 ⟨t, hE⟩ (by kernel_rfl) (by simp) (by intro v hv; simp at hv; rcases hv with rfl | rfl <;> rfl)
  obtain ⟨t2, k1⟩ := k1
  have hy2 : act.eval y = .agg [.int .i64 c, .int .i64 a].toArray := hy
  have hrun : (execOp act.eval o).run Try.prog w = .ok .skip w' := by simp only [execOp, ho, hx, hy2, Sem.run_bind, hr, Result.andThen_ok, Sem.run_pure]
  rw [hrun]
  have kt : Two w' g (.int .i64 c) (.int .i64 a) := ⟨t2, by simpa using k1⟩
  refine ⟨trivial, ⟨g, rfl, hN, kt⟩, k2.weaken (fun g' hg' _ => hS g' (by simpa [ptrB] using hg')), fun g' hg' => ?_⟩
  have hm : g' ∈ ptrB (.pointer (some ⟨g, 0, none⟩)) := hg'
  refine ⟨Or.inl (hS g' hm), ?_⟩
  have : g' = g := by simpa [ptrB] using hm
  subst this; exact kt.lt
theorem effL_of {P : Program} {post : Value → World → Prop} {r : Result Next} {v : Value} {w' : World} (h : r = .ok (.value v) w') (hp : post v w') : effL P post r := h ▸ hp
theorem post_empty {ds : List Value} {S : List Nat} {w : World} : postL (lsRow [] []) ds S w (.slice (some ⟨w.heap.size, 0, none⟩) 0 0) (w.alloc (.cells #[] 23)) := by
  refine ⟨trivial, SO.empty 0 w (Nat.zero_le _), (Only.refl _ _).alloc _, fun g hg => ?_⟩
  have hg' : g = w.heap.size := by simpa [Value.ownBlock] using hg
  exact ⟨Or.inr (by omega), by simp; omega⟩
theorem exec_appO {w w' : World} {o : Oper} {act : Act} {v s v' : Value} (x y : Operand) (ho : o.op = .call { callee := .builtin .append, args := #[x, y], argTypes := #[24, 24] }) (hx : act.eval x = v) (hy : act.eval y = s) (hr : (Builtin.append_ #[24, 24] o.type #[v, s]).run Try.prog w = .ok v' w') :
    (execOp act.eval o).run Try.prog w = .ok (.value v') w' := by
  simp only [execOp, ho, resolve, invoke, builtin, Sem.run_bind, Sem.run_pure, Result.andThen_ok, List.map_toArray, List.map_cons, List.map_nil, hx, hy, hr]
/-- an append, in such a region -/
theorem eff_app {C : List Nat} {ds : List Value} {S : List Nat} {w : World} {o : Oper} {act : Act} {v s : Value} {xs ys : List Op3} (x y : Operand) (ho : o.op = .call { callee := .builtin .append, args := #[x, y], argTypes := #[24, 24] }) (hx : act.eval x = v) (hy : act.eval y = s)
    (h : SO 0 w v xs) (r : RdP w s ys) (hl : xs.length + ys.length ≤ 1000000000000) (hS : ∀ g, v.ownBlock = some g → g ∈ S) : effL Try.prog (postL (lsRow C (xs ++ ys)) ds S w) ((execOp act.eval o).run Try.prog w) := by
  obtain ⟨v', w', hr, k⟩ := run_app_o h r hl (Nat.zero_le _) o.type
  exact effL_of (exec_appO x y ho hx hy hr) (post_row k hS)
theorem effL_call {P : Program} {post : Value → World → Prop} {r : Result Next} {F : Nat} {args : Array Value} {w : World} (h : r = .ok (.enter F args) w) (hp : Calls P F args w fun e w' => ∃ v, e = .returned v ∧ post v w') : effL P post r := h ▸ hp
theorem exec_ext {w : World} {o : Oper} {act : Act} {xs : Array Value} {v : Value} (x : Operand) (i : Nat) (ho : o.op = .extract x i) (hx : act.eval x = .tuple xs) (hv : xs[i]? = some v) : (execOp act.eval o).run Try.prog w = .ok (.value v) w := by
  simp only [execOp, ho, hx, Instr.extract, hv, Sem.run_bind]
  rfl
theorem exec_move {w : World} {o : Oper} {act : Act} {v : Value} (x : Operand) (ho : o.op = .move x) (hx : act.eval x = v) : (execOp act.eval o).run Try.prog w = .ok (.value v) w := by
  simp only [execOp, ho, hx]
  rfl
theorem exec_run {w : World} {o : Oper} {act : Act} {v s : Value} (x y : Operand) (ho : o.op = .call { callee := .value (.func 73), args := #[x, y], argTypes := #[24, 108] }) (hx : act.eval x = v) (hy : act.eval y = s) : (execOp act.eval o).run Try.prog w = .ok (.enter 73 #[v, s]) w := by
  simp only [execOp, ho, resolve, invoke, Sem.run_bind, List.map_toArray, List.map_cons, List.map_nil, hx, hy]
  kernel_rfl
theorem post_move {C : List Nat} {N : Nat} {R : Ev × Int × Int × Bool} {ds : List Value} {S : List Nat} {w : World} {v : Value} (hP : ∃ a n c, v = tupR R (.slice a n c)) (hM : ∃ s, v = tupR R s ∧ SR N w s R.1.sh) (hb : ∀ g ∈ shB v, N ≤ g ∧ g < w.heap.size) (hS : ∀ g ∈ shB v, g ∈ S) : postL (lsTup C N R) ds S w v w :=
  ⟨hP, hM, Only.refl _ _, fun g hg => ⟨Or.inl (hS g hg), (hb g hg).2⟩⟩
theorem eff_ext {C : List Nat} {N : Nat} {R : Ev × Int × Int × Bool} {ds : List Value} {S : List Nat} {w : World} {o : Oper} {act : Act} {v : Value} (x : Operand) (ho : o.op = .extract x 0) (hx : act.eval x = v) (hM : ∃ s, v = tupR R s ∧ SR N w s R.1.sh) (hb : ∀ g ∈ shB v, N ≤ g ∧ g < w.heap.size) (hS : ∀ g ∈ shB v, g ∈ S) : effL Try.prog (postL (lsEnv C N R) ds S w) ((execOp act.eval o).run Try.prog w) := by
  obtain ⟨s, rfl, h⟩ := hM
  obtain ⟨a, n, c, rfl⟩ := h.form2
  exact effL_of (exec_ext x 0 ho hx (v := R.1.v (.slice a n c)) rfl) ⟨⟨a, n, c, rfl⟩, ⟨_, rfl, h⟩, Only.refl _ _, fun g hg => ⟨Or.inl (hS g hg), (hb g hg).2⟩⟩
/-- what such a region leaves -/
structure RunD (w W : World) (p q : Nat) (v : Value) (R : Ev × Int × Int × Bool) : Prop where
  env : Eb W p R.1 v
  flt : Two W q (.int .i64 R.2.1) (.int .i64 R.2.2.1)
  row : SR w.heap.size W v R.1.sh
  only : Only [] w W
theorem RunD.then {w W W' : World} {p q : Nat} {v : Value} {R : Ev × Int × Int × Bool} (h : RunD w W p q v R) (o : Only [] W W') : RunD w W' p q v R :=
  ⟨h.env.only o (by simp), h.flt.only o (by simp), h.row.only o (by simp), h.only.trans o⟩
theorem RunSeq.d {w W : World} {p q : Nat} {v : Value} {R : Ev × Int × Int × Bool} (h : RunSeq w W p q v R) : RunD w W p q v R := ⟨h.env, h.flt, h.row, h.only⟩
end Go.Proofs.Ytngbannidbijmaa

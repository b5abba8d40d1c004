/- Package rule: an Env, as a value and in memory; Clone. Package rule: Run. -/
import Derived.Test.YtngbannidbijmaaGRuleE
import Derived.Test.YtngbannidbijmaaBlkS
import Derived.Deep.DeepCutAuto
import Derived.Deep.CutBlock
namespace Go.Proofs.Ytngbannidbijmaa
open Go.RowKit
set_option linter.unusedVariables false

/-- an Env as a value: s its Shots -/
abbrev Ev.v (e : Ev) (s : Value) : Value := .agg #[.int .i64 e.b.k, .int .i64 e.b.o, .int .i64 e.b.x, .int .i64 e.b.y, .int .i64 e.b.vx, .int .i64 e.b.vy, .int .i64 e.b.age, .int .i64 e.b.m0, .int .i64 e.b.m1, .int .i64 e.b.m2, .int .i64 e.b.m3, .int .i64 e.b.f, .int .i64 e.t, .int .i64 e.ix, .int .i64 e.iy, .int .u64 e.d, .int .i64 e.room, s]
def Ev.cells (e : Ev) (s : Value) : List Value := [.int .i64 e.b.k, .int .i64 e.b.o, .int .i64 e.b.x, .int .i64 e.b.y, .int .i64 e.b.vx, .int .i64 e.b.vy, .int .i64 e.b.age, .int .i64 e.b.m0, .int .i64 e.b.m1, .int .i64 e.b.m2, .int .i64 e.b.m3, .int .i64 e.b.f, .int .i64 e.t, .int .i64 e.ix, .int .i64 e.iy, .int .u64 e.d, .int .i64 e.room, s]
/-- .. in memory -/
structure Eb (w : World) (p : Nat) (e : Ev) (s : Value) : Prop where
  blk : Blk w p (e.cells s)
theorem Eb.all {w : World} {p : Nat} {e : Ev} {s : Value} (h : Eb w p e s) : w.cell? ⟨p, 0, none⟩ = some (.int .i64 e.b.k) ∧ w.cell? ⟨p, 1, none⟩ = some (.int .i64 e.b.o) ∧ w.cell? ⟨p, 2, none⟩ = some (.int .i64 e.b.x) ∧ w.cell? ⟨p, 3, none⟩ = some (.int .i64 e.b.y) ∧ w.cell? ⟨p, 4, none⟩ = some (.int .i64 e.b.vx) ∧ w.cell? ⟨p, 5, none⟩ = some (.int .i64 e.b.vy) ∧ w.cell? ⟨p, 6, none⟩ = some (.int .i64 e.b.age) ∧ w.cell? ⟨p, 7, none⟩ = some (.int .i64 e.b.m0) ∧ w.cell? ⟨p, 8, none⟩ = some (.int .i64 e.b.m1) ∧ w.cell? ⟨p, 9, none⟩ = some (.int .i64 e.b.m2) ∧ w.cell? ⟨p, 10, none⟩ = some (.int .i64 e.b.m3) ∧ w.cell? ⟨p, 11, none⟩ = some (.int .i64 e.b.f) ∧ w.cell? ⟨p, 12, none⟩ = some (.int .i64 e.t) ∧ w.cell? ⟨p, 13, none⟩ = some (.int .i64 e.ix) ∧ w.cell? ⟨p, 14, none⟩ = some (.int .i64 e.iy) ∧ w.cell? ⟨p, 15, none⟩ = some (.int .u64 e.d) ∧ w.cell? ⟨p, 16, none⟩ = some (.int .i64 e.room) ∧ w.cell? ⟨p, 17, none⟩ = some (s) := by
  have := fun i => h.blk.cell i
  exact ⟨this 0, this 1, this 2, this 3, this 4, this 5, this 6, this 7, this 8, this 9, this 10, this 11, this 12, this 13, this 14, this 15, this 16, this 17⟩
theorem Eb.frozen {w : World} {p : Nat} {e : Ev} {s : Value} (h : Eb w p e s) (i : Nat) : w.frozen? ⟨p, i, none⟩ = false := h.blk.frozen i
theorem Eb.lt {w : World} {p : Nat} {e : Ev} {s : Value} (h : Eb w p e s) : p < w.heap.size := h.blk.lt
theorem Eb.only {w w' : World} {p : Nat} {e : Ev} {s : Value} {S : List Nat} (h : Eb w p e s) (o : Only S w w') (hn : p ∉ S) : Eb w' p e s := ⟨h.blk.only o hn⟩
theorem Eb.new (e : Ev) (s : Value) (w : World) (t : TypeId) : Eb (w.alloc (.cells #[.int .i64 e.b.k, .int .i64 e.b.o, .int .i64 e.b.x, .int .i64 e.b.y, .int .i64 e.b.vx, .int .i64 e.b.vy, .int .i64 e.b.age, .int .i64 e.b.m0, .int .i64 e.b.m1, .int .i64 e.b.m2, .int .i64 e.b.m3, .int .i64 e.b.f, .int .i64 e.t, .int .i64 e.ix, .int .i64 e.iy, .int .u64 e.d, .int .i64 e.room, s] t)) w.heap.size e s := ⟨Blk.new w _ _⟩
theorem Eb.newAt (e : Ev) (s : Value) {w : World} {M : Nat} (h : w.heap.size = M) (t : TypeId) : Eb (w.alloc (.cells #[.int .i64 e.b.k, .int .i64 e.b.o, .int .i64 e.b.x, .int .i64 e.b.y, .int .i64 e.b.vx, .int .i64 e.b.vy, .int .i64 e.b.age, .int .i64 e.b.m0, .int .i64 e.b.m1, .int .i64 e.b.m2, .int .i64 e.b.m3, .int .i64 e.b.f, .int .i64 e.t, .int .i64 e.ix, .int .i64 e.iy, .int .u64 e.d, .int .i64 e.room, s] t)) M e s := h ▸ Eb.new e s w t
theorem Eb.sets {w : World} {p : Nat} {e : Ev} {s : Value} (h : Eb w p e s) (v : Value) : Eb (w.setCell ⟨p, 17, none⟩ v) p e v := ⟨h.blk.set 17 _⟩
def putE (w : World) (p : Nat) (e : Ev) (s : Value) : World := (((((((((((((((((w.setCell ⟨p, 0, none⟩ (.int .i64 e.b.k)).setCell ⟨p, 1, none⟩ (.int .i64 e.b.o)).setCell ⟨p, 2, none⟩ (.int .i64 e.b.x)).setCell ⟨p, 3, none⟩ (.int .i64 e.b.y)).setCell ⟨p, 4, none⟩ (.int .i64 e.b.vx)).setCell ⟨p, 5, none⟩ (.int .i64 e.b.vy)).setCell ⟨p, 6, none⟩ (.int .i64 e.b.age)).setCell ⟨p, 7, none⟩ (.int .i64 e.b.m0)).setCell ⟨p, 8, none⟩ (.int .i64 e.b.m1)).setCell ⟨p, 9, none⟩ (.int .i64 e.b.m2)).setCell ⟨p, 10, none⟩ (.int .i64 e.b.m3)).setCell ⟨p, 11, none⟩ (.int .i64 e.b.f)).setCell ⟨p, 12, none⟩ (.int .i64 e.t)).setCell ⟨p, 13, none⟩ (.int .i64 e.ix)).setCell ⟨p, 14, none⟩ (.int .i64 e.iy)).setCell ⟨p, 15, none⟩ (.int .u64 e.d)).setCell ⟨p, 16, none⟩ (.int .i64 e.room)).setCell ⟨p, 17, none⟩ s
theorem putE_only (w : World) (p : Nat) (e : Ev) (s : Value) : Only [p] w (putE w p e s) :=
  (Only.setCell (Only.setCell (Only.setCell (Only.setCell (Only.setCell (Only.setCell (Only.setCell (Only.setCell (Only.setCell (Only.setCell (Only.setCell (Only.setCell (Only.setCell (Only.setCell (Only.setCell (Only.setCell (Only.setCell (Only.setCell (Only.refl _ _) (p := ⟨p, 0, none⟩) (Or.inl (List.mem_singleton.2 rfl)) _) (p := ⟨p, 1, none⟩) (Or.inl (List.mem_singleton.2 rfl)) _) (p := ⟨p, 2, none⟩) (Or.inl (List.mem_singleton.2 rfl)) _) (p := ⟨p, 3, none⟩) (Or.inl (List.mem_singleton.2 rfl)) _) (p := ⟨p, 4, none⟩) (Or.inl (List.mem_singleton.2 rfl)) _) (p := ⟨p, 5, none⟩) (Or.inl (List.mem_singleton.2 rfl)) _) (p := ⟨p, 6, none⟩) (Or.inl (List.mem_singleton.2 rfl)) _) (p := ⟨p, 7, none⟩) (Or.inl (List.mem_singleton.2 rfl)) _) (p := ⟨p, 8, none⟩) (Or.inl (List.mem_singleton.2 rfl)) _) (p := ⟨p, 9, none⟩) (Or.inl (List.mem_singleton.2 rfl)) _) (p := ⟨p, 10, none⟩) (Or.inl (List.mem_singleton.2 rfl)) _) (p := ⟨p, 11, none⟩) (Or.inl (List.mem_singleton.2 rfl)) _) (p := ⟨p, 12, none⟩) (Or.inl (List.mem_singleton.2 rfl)) _) (p := ⟨p, 13, none⟩) (Or.inl (List.mem_singleton.2 rfl)) _) (p := ⟨p, 14, none⟩) (Or.inl (List.mem_singleton.2 rfl)) _) (p := ⟨p, 15, none⟩) (Or.inl (List.mem_singleton.2 rfl)) _) (p := ⟨p, 16, none⟩) (Or.inl (List.mem_singleton.2 rfl)) _) (p := ⟨p, 17, none⟩) (Or.inl (List.mem_singleton.2 rfl)) _)
theorem setCell_size (w : World) (a : Addr) (v : Value) : (w.setCell a v).heap.size = w.heap.size := by simp [World.setCell]
theorem putE_size (w : World) (p : Nat) (e : Ev) (s : Value) : (putE w p e s).heap.size = w.heap.size := by unfold putE; simp only [setCell_size]
theorem putE_eb {w : World} {p : Nat} {e0 : Ev} {s0 : Value} (h : Eb w p e0 s0) (e : Ev) (s : Value) : Eb (putE w p e s) p e s := by
  have h0 : Blk w p [.int .i64 e0.b.k, .int .i64 e0.b.o, .int .i64 e0.b.x, .int .i64 e0.b.y, .int .i64 e0.b.vx, .int .i64 e0.b.vy, .int .i64 e0.b.age, .int .i64 e0.b.m0, .int .i64 e0.b.m1, .int .i64 e0.b.m2, .int .i64 e0.b.m3, .int .i64 e0.b.f, .int .i64 e0.t, .int .i64 e0.ix, .int .i64 e0.iy, .int .u64 e0.d, .int .i64 e0.room, s0] := h.blk
  have h1 := h0.set 0 (.int .i64 e.b.k)
  simp only [List.set_cons_zero] at h1
  have h2 := h1.set 1 (.int .i64 e.b.o)
  simp only [List.set_cons_zero, List.set_cons_succ] at h2
  have h3 := h2.set 2 (.int .i64 e.b.x)
  simp only [List.set_cons_zero, List.set_cons_succ] at h3
  have h4 := h3.set 3 (.int .i64 e.b.y)
  simp only [List.set_cons_zero, List.set_cons_succ] at h4
  have h5 := h4.set 4 (.int .i64 e.b.vx)
  simp only [List.set_cons_zero, List.set_cons_succ] at h5
  have h6 := h5.set 5 (.int .i64 e.b.vy)
  simp only [List.set_cons_zero, List.set_cons_succ] at h6
  have h7 := h6.set 6 (.int .i64 e.b.age)
  simp only [List.set_cons_zero, List.set_cons_succ] at h7
  have h8 := h7.set 7 (.int .i64 e.b.m0)
  simp only [List.set_cons_zero, List.set_cons_succ] at h8
  have h9 := h8.set 8 (.int .i64 e.b.m1)
  simp only [List.set_cons_zero, List.set_cons_succ] at h9
  have h10 := h9.set 9 (.int .i64 e.b.m2)
  simp only [List.set_cons_zero, List.set_cons_succ] at h10
  have h11 := h10.set 10 (.int .i64 e.b.m3)
  simp only [List.set_cons_zero, List.set_cons_succ] at h11
  have h12 := h11.set 11 (.int .i64 e.b.f)
  simp only [List.set_cons_zero, List.set_cons_succ] at h12
  have h13 := h12.set 12 (.int .i64 e.t)
  simp only [List.set_cons_zero, List.set_cons_succ] at h13
  have h14 := h13.set 13 (.int .i64 e.ix)
  simp only [List.set_cons_zero, List.set_cons_succ] at h14
  have h15 := h14.set 14 (.int .i64 e.iy)
  simp only [List.set_cons_zero, List.set_cons_succ] at h15
  have h16 := h15.set 15 (.int .u64 e.d)
  simp only [List.set_cons_zero, List.set_cons_succ] at h16
  have h17 := h16.set 16 (.int .i64 e.room)
  simp only [List.set_cons_zero, List.set_cons_succ] at h17
  have h18 := h17.set 17 (s)
  simp only [List.set_cons_zero, List.set_cons_succ] at h18
  exact ⟨h18⟩
def Ev.zero : Ev := ⟨Body.zero, 0, 0, 0, 0, 0, []⟩
theorem res_env {n : Nat} {fn : Func} {W : World} {p : Nat} {e : Ev} {s : Value} {tm : Array Value} (h : Eb W p e s) (hr : fn.results = #[.cell n 108]) (hp : tm.getD n undef = .pointer (some ⟨p, 0, none⟩)) : (results fn tm).run Try.prog W = .ok (e.v s) W := by
  obtain ⟨t, ht⟩ := h.blk
  have hu : ∃ f, Try.prog.underlying 108 = some (.struct f) := ⟨_, Try.underlying108⟩
  obtain ⟨f, hu⟩ := hu
  exact results_cell_row (P := Try.prog) hr tm W p t (e.cells s).toArray (0, 0) _ hp ht hu rfl (by kernel_rfl)
theorem info_env : (Try.prog.info? 108).map (·.size) = some 18 := by kernel_rfl
theorem Eb.cell {w : World} {p : Nat} {e : Ev} {s : Value} (h : Eb w p e s) : ∀ j v, (e.cells s)[j]? = some v → w.cell? ⟨p, 0 + j, none⟩ = some v := h.blk.whole
theorem Ev.one (e : Ev) {s : Value} (hs : s.oneCell' = true) : ∀ v ∈ e.cells s, v.oneCell' = true := by
  intro v hv
  simp only [Ev.cells, List.mem_cons, List.not_mem_nil, or_false] at hv
  rcases hv with rfl | rfl | rfl | rfl | rfl | rfl | rfl | rfl | rfl | rfl | rfl | rfl | rfl | rfl | rfl | rfl | rfl | rfl
  all_goals first | rfl | exact hs
theorem op_storeE {w : World} {ops : Array Oper} {rest : List Oper} {o : Oper} {act : Act} {Q : Exit → Act → World → Prop} {p : Nat} {e0 e : Ev} {s0 s : Value} (hgd : o.guard = none) (x y : Operand) (ho : o.op = .store 108 x y) (hx : act.eval x = .pointer (some ⟨p, 0, none⟩)) (hy : act.eval y = e.v s) (hB : Eb w p e0 s0) (hs : s.oneCell' = true)
    (h : ∀ w', Eb w' p e s → Only [p] w w' → w'.heap.size = w.heap.size → wpList Try.prog ops Q rest (act.put o.dst undef) w') : wpList Try.prog ops Q (o :: rest) act w := by
  refine op_store (vs := e.cells s) hgd 108 x y ho 0 hx hy hB.blk info_env (by simp [Ev.cells]) (e.one hs) ?_
  intro w' hb ho hz
  have e1 : List.take 0 (e0.cells s0) ++ e.cells s ++ List.drop (0 + (e.cells s).length) (e0.cells s0) = e.cells s := by simp [Ev.cells]
  rw [e1] at hb
  exact h w' ⟨hb⟩ ho hz
theorem exec_storeE {w : World} {o : Oper} {act : Act} {p : Nat} {e0 e : Ev} {s0 s : Value} (x y : Operand) (ho : o.op = .store 108 x y) (hx : act.eval x = .pointer (some ⟨p, 0, none⟩)) (hy : act.eval y = e.v s) (hB : Eb w p e0 s0) (hs : s.oneCell' = true) :
    ∃ w', (execOp act.eval o).run Try.prog w = .ok .skip w' ∧ Eb w' p e s ∧ Only [p] w w' ∧ w'.heap.size = w.heap.size := by
  obtain ⟨w', hr, k1, k2, k3⟩ := hB.blk.store (vs := e.cells s) (ty := 108) 0 info_env (by simp [Ev.cells]) (e.one hs)
  have e1 : List.take 0 (e0.cells s0) ++ e.cells s ++ List.drop (0 + (e.cells s).length) (e0.cells s0) = e.cells s := by simp [Ev.cells]
  rw [e1] at k1
  refine ⟨w', ?_, ⟨k1⟩, k2, k3⟩
  have hy2 : act.eval y = .agg (e.cells s).toArray := hy
  simp only [execOp, ho, hx, hy2, Sem.run_bind, hr, Result.andThen_ok, Sem.run_pure]
theorem effOk_storeE {T : World → World → Prop} {R : World → Value → Prop} {J : World → Prop} {w : World} {o : Oper} {act : Act} {p : Nat} {e0 e : Ev} {s0 s : Value} (x y : Operand) (ho : o.op = .store 108 x y) (hx : act.eval x = .pointer (some ⟨p, 0, none⟩)) (hy : act.eval y = e.v s) (hB : Eb w p e0 s0) (hs : s.oneCell' = true)
    (k : ∀ w', Eb w' p e s → Only [p] w w' → R w' undef ∧ J w' ∧ T w w') : effOk Try.prog T R J w ((execOp act.eval o).run Try.prog w) := by
  obtain ⟨w', hr, k1, k2, _⟩ := exec_storeE x y ho hx hy hB hs
  rw [hr]
  exact k w' k1 k2
set_option maxRecDepth 100000 in
theorem clone_none (w : World) : Calls Try.prog 89 #[.slice none 0 0] w fun e w' => e = .returned (.slice none 0 0) ∧ w' = w := by
  have heq : ∀ w : World, (binOp BinOp.eql 70 (.slice none 0 0) (.slice none 0 0)).run Try.prog w = .ok (.bool true) w := fun _ => rfl
  go_enter Try.func89, Try.ntmps89
  go_wp2_with fail
  go_ret
  exact ⟨rfl, rfl⟩
set_option maxRecDepth 100000 in
set_option maxHeartbeats 1000000 in
theorem clone_some {B : Nat} {w : World} {a : Addr} {n cap : Nat} {xs : List Bd} (h : SR B w (.slice (some a) n cap) xs) (hl : xs.length ≤ 1000000) : Calls Try.prog 89 #[.slice (some a) n cap] w fun e w' => (∃ v, e = .returned v ∧ SR w.heap.size w' v xs) ∧ Only [] w w' := by
  have HS : Hid (RdS (w.alloc (.cells #[] 33)) (.slice (some a) n cap) xs ∧ SR w.heap.size (w.alloc (.cells #[] 33)) (.slice (some ⟨w.heap.size, 0, none⟩) 0 0) [] ∧ Only [] w (w.alloc (.cells #[] 33))) := ⟨h.rd.only ((Only.refl [] _).alloc _) (by simp), SR.empty _ _ (Nat.le_refl _), (Only.refl [] _).alloc _⟩
  clear h
  have heq : ∀ w : World, (binOp BinOp.eql 70 (.slice (some a) n cap) (.slice none 0 0)).run Try.prog w = .ok (.bool false) w := fun _ => rfl
  go_enter Try.func89, Try.ntmps89
  go_wp2_with (at_builtin; refine app_s rfl _ _ rfl rfl rfl HS.out.2.1 HS.out.1 (by simp; omega) (by simp) ?_)
  intro v w' A
  have HA : Hid _ := A
  clear A
  go_wp2_with fail
  go_ret
  refine ⟨⟨_, rfl, HA.out.row⟩, HS.out.2.2.then HA.out.only fun x hx hlt => ?_⟩
  have : x = w.heap.size := by simpa [Value.ownBlock] using hx
  omega
theorem clone_any {B : Nat} {w : World} {s : Value} {xs : List Bd} (h : SR B w s xs) (hl : xs.length ≤ 1000000) : Calls Try.prog 89 #[s] w fun e w' => (∃ v, e = .returned v ∧ SR w.heap.size w' v xs) ∧ Only [] w w' := by
  rcases h.2 with ⟨rfl, h0⟩ | ⟨g, cap, cur, rfl, _⟩
  · have : xs = [] := List.length_eq_zero_iff.1 h0
    subst this
    refine (clone_none w).mono ?_
    rintro e w' ⟨rfl, rfl⟩
    exact ⟨⟨_, rfl, SR.nil _ _⟩, Only.refl _ _⟩
  · exact clone_some h hl

end Go.Proofs.Ytngbannidbijmaa
namespace Go.Proofs.Ytngbannidbijmaa
open Go.RowKit
set_option linter.unusedVariables false
set_option maxRecDepth 100000 in
set_option maxHeartbeats 4000000 in
theorem apart_any {B : Nat} {w : World} (e : Ev) {s : Value} (h : SR B w s e.sh) (hl : e.sh.length ≤ 1000000) : Calls Try.prog 85 #[e.v s] w fun r w' => (∃ v, r = .returned (e.v v) ∧ SR w.heap.size w' v e.sh) ∧ Only [] w w' := by
  have H0 : Hid (SR B w s e.sh) := h
  clear h
  go_enter Try.func85, Try.ntmps85
  go_wp2_with fail
  obtain ⟨W, hW⟩ : ∃ W, W = ((w.alloc (.cells (e.cells s).toArray 108)).alloc (.cells (Ev.zero.cells (.slice none 0 0)).toArray 108)) := ⟨_, rfl⟩
  have o1 : Only [] (w.alloc (.cells (e.cells s).toArray 108)) W := by rw [hW]; exact (Only.refl _ _).alloc _
  have H1 : Hid (Eb W w.heap.size e s ∧ Eb W (w.heap.size + 1) Ev.zero (.slice none 0 0) ∧ SR B W s e.sh ∧ Only [] w W ∧ W.heap.size = w.heap.size + 2) := by
    refine ⟨(Eb.new e s w _).only o1 (by simp), ?_, (H0.out.only ((Only.refl [] _).alloc _) (by simp)).only o1 (by simp), ((Only.refl [] _).alloc _).trans o1, by rw [hW]; simp⟩
    rw [hW]; exact Eb.newAt Ev.zero _ (by simp) _
  change Calls _ _ _ ((w.alloc (.cells (e.cells s).toArray 108)).alloc (.cells (Ev.zero.cells (.slice none 0 0)).toArray 108)) _
  rw [← hW]
  clear hW o1 H0
  have hsz := H1.out.2.2.2.2
  refine (clone_any H1.out.2.2.1 hl).mono ?_
  rintro r w2 ⟨⟨v, rfl, hv⟩, o2⟩
  have H2 : Hid (Eb w2 w.heap.size e s ∧ Eb w2 (w.heap.size + 1) Ev.zero (.slice none 0 0) ∧ SR W.heap.size w2 v e.sh ∧ Only [] w w2) := ⟨H1.out.1.only o2 (by simp), H1.out.2.1.only o2 (by simp), hv, H1.out.2.2.2.1.trans o2⟩
  obtain ⟨va, vn, vc, rfl⟩ := hv.form2
  clear hv o2 H1
  have fz := H2.out.1.frozen
  have fz2 := H2.out.2.1.frozen
  have c17 : w2.cell? ⟨w.heap.size, 17, none⟩ = some s := H2.out.1.blk.cell 17
  obtain ⟨q, hqq⟩ : ∃ q, w.heap.size = q := ⟨_, rfl⟩
  simp only [hqq] at H2 hsz c17 fz fz2 ⊢
  go_upto_region 2 with fail
  have oS : Only [q] w2 (w2.setCell ⟨q, 17, none⟩ (.slice va vn vc)) := (Only.refl _ _).setCell (by simp) _
  have H3 : Hid (Eb (w2.setCell ⟨q, 17, none⟩ (.slice va vn vc)) q e (.slice va vn vc) ∧ Eb (w2.setCell ⟨q, 17, none⟩ (.slice va vn vc)) (q + 1) Ev.zero (.slice none 0 0) ∧ SR (q + 2) (w2.setCell ⟨q, 17, none⟩ (.slice va vn vc)) (.slice va vn vc) e.sh ∧ Only [] w (w2.setCell ⟨q, 17, none⟩ (.slice va vn vc))) := by
    refine ⟨H2.out.1.sets _, H2.out.2.1.only oS (by simp), ?_, H2.out.2.2.2.then oS fun x hx hl => ?_⟩
    · rw [← hsz]
      exact H2.out.2.2.1.only oS fun g hg hm => by have := (H2.out.2.2.1.lt g hg).1; have h2 : g = q := (by simpa using hm); omega
    · have h2 : x = q := (by simpa using hx); omega
  clear H2 oS c17 fz fz2
  generalize w2.setCell ⟨q, 17, none⟩ (.slice va vn vc) = w3 at *
  apply wp_region_lit
  refine op_loads rfl (cs := e.cells (.slice va vn vc)) 108 _ rfl rfl Try.underlying108 info_env H3.out.1.cell ?_
  refine op_storeE rfl _ _ rfl rfl rfl H3.out.2.1 rfl ?_
  intro w4 hb4 o4 hz4
  have H4 : Hid (Eb w4 (q + 1) e (.slice va vn vc) ∧ Only [q + 1] w3 w4) := ⟨hb4, o4⟩
  clear hb4 o4
  refine wpList_nil ?_
  go_wp2_with fail
  refine bodyPost_ret (res_env H4.out.1 Try.results85 rfl) rfl ⟨⟨_, rfl, ?_⟩, H3.out.2.2.2.then H4.out.2 fun x hx hl => ?_⟩
  · exact (H3.out.2.2.1.only H4.out.2 (fun g hg hm => by have := (H3.out.2.2.1.lt g hg).1; have h2 : g = q + 1 := (by simpa using hm); omega)).lower (by omega)
  · have h2 : x = q + 1 := (by simpa using hx); omega
end Go.Proofs.Ytngbannidbijmaa

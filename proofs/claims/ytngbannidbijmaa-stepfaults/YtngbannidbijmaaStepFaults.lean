/- StepFaults: rules that always break leave each player where it was, but for its count of faults and its age. For every number of players, seed, rows and kind of break; nothing is assumed of them. -/
import Derived.Test.YtngbannidbijmaaGStepLw
import Derived.Test.YtngbannidbijmaaStepFl
namespace Go.Proofs.Ytngbannidbijmaa.stepFaults
open Go.ChangeShapes Go.WideShapes Go.ChangeAt Go.RowKit Go.Deep
set_option linter.unusedVariables false
set_option linter.unusedSimpArgs false

def badOf (k : Nat) : Op3 := if k = 0 then ⟨6, 0, 3⟩ else if k = 1 then ⟨1, 9, 0⟩ else if k = 2 then ⟨8, 4, 0⟩ else ⟨10, 0, 0⟩
set_option maxRecDepth 100000 in
theorem exec_bad {w : World} {o : Oper} {act : Act} {k : Nat} (hk : k < 4) (x y : Operand) (ho : o.op = .index 62 x y) (hx : act.eval x = .agg #[.int .i64 6, .int .i64 0, .int .i64 3, .int .i64 1, .int .i64 9, .int .i64 0, .int .i64 8, .int .i64 4, .int .i64 0, .int .i64 10, .int .i64 0, .int .i64 0]) (hy : act.eval y = .int .i64 (k : Nat)) : (execOp act.eval o).run Try.prog w = .ok (.value (badOf k).v) w := by
  have h4 : k = 0 ∨ k = 1 ∨ k = 2 ∨ k = 3 := by omega
  simp only [execOp, ho, hx, hy]
  rcases h4 with rfl | rfl | rfl | rfl <;> (show _ = _; kernel_rfl)
def rul (b : Op3) : List Op3 := [⟨12, 0, 0⟩, ⟨1, 1, 5⟩, ⟨11, 1, 0⟩, b]
set_option maxRecDepth 100000 in
theorem exec_rul {w : World} {o : Oper} {act : Act} (b : Op3) (x0 x1 x2 x3 : Operand) (ho : o.op = .buildSlice 24 4 #[(0, x0), (1, x1), (2, x2), (3, x3)]) (h0 : act.eval x0 = Op3.v ⟨12, 0, 0⟩) (h1 : act.eval x1 = Op3.v ⟨1, 1, 5⟩) (h2 : act.eval x2 = Op3.v ⟨11, 1, 0⟩) (h3 : act.eval x3 = b.v) : (execOp act.eval o).run Try.prog w = .ok (.value (.slice (some ⟨w.heap.size, 0, none⟩) 4 4)) (w.alloc (.cells (flatO (rul b)).toArray 23)) := by
  obtain ⟨b0, b1, b2⟩ := b
  simp only [execOp, ho, List.map_toArray, List.map_cons, List.map_nil, h0, h1, h2, h3]
  show _ = _
  kernel_rfl
theorem rdo_last {B : Nat} {w : World} {g : Nat} {a b c d : Op3} (h : RdO B w (.slice (some ⟨g, 0, none⟩) 4 4) [a, b, c, d]) : RdO B w (.slice (some ⟨g, 9, none⟩) 1 1) [d] := by
  obtain ⟨x, cap, hv, h1, h2⟩ := h
  injection hv with e1 _ e3
  rcases h2 with h2 | ⟨b', off, e, hB, hl, hc⟩
  · cases h2
  · rw [← e1] at e
    injection e with e
    injection e with e4 e5
    subst e4 e5
    refine ⟨_, 1, rfl, Nat.le_refl _, Or.inr ⟨g, 9, rfl, hB, hl, fun i hi => ?_⟩⟩
    have h0 : i = 0 := by simp at hi; omega
    subst h0
    have := hc 3 (by simp)
    exact this
/-- a config as 'one' makes it, with a seed and rules -/
def cfS (n : Nat) (sd : Int) (rules : List Op3) : Cf := ⟨n, 1, 0, 0, 50, sd, 4607182418800017408, 4617315517961601024, rules, nats n⟩
theorem nats_ok {n : Nat} (h1 : 1 ≤ n) (h8 : n ≤ 8) : Step.tokens (nats n) n = true := by
  have : n = 1 ∨ n = 2 ∨ n = 3 ∨ n = 4 ∨ n = 5 ∨ n = 6 ∨ n = 7 ∨ n = 8 := by omega
  rcases this with rfl | rfl | rfl | rfl | rfl | rfl | rfl | rfl <;> decide
theorem cfS_legal {n : Nat} {sd : Int} {rules : List Op3} (h1 : 1 ≤ n) (h8 : n ≤ 8) (hs : 0 ≤ sd ∧ sd < 1000) (hr : Rule.right rules = true) : Step.legal (cfS n sd rules) = true := by
  unfold Step.legal cfS
  have t := nats_ok h1 h8
  have r1 : Step.rate 4607182418800017408 = true := by kernel_rfl
  have d1 : Step.depth 4617315517961601024 = true := by kernel_rfl
  simp only [Bool.and_eq_true, Body.btw, decide_eq_true_eq, nats_len]
  exact ⟨by omega, by omega, by omega, by omega, by omega, by omega, r1, d1, hr, trivial, t⟩
theorem bad_ok {k : Nat} (hk : k < 4) : OpOk (badOf k) := by
  have h4 : k = 0 ∨ k = 1 ∨ k = 2 ∨ k = 3 := by omega
  rcases h4 with rfl | rfl | rfl | rfl <;> refine ⟨?_, ?_, ?_⟩ <;> decide
theorem rul_right {k : Nat} (hk : k < 4) : Rule.right (rul (badOf k)) = true := by
  refine ops_right (fun o ho => ?_) (by simp [rul])
  simp only [rul, List.mem_cons, List.not_mem_nil, or_false] at ho
  rcases ho with rfl | rfl | rfl | rfl
  · exact ⟨by decide, by decide, by decide⟩
  · exact ⟨by decide, by decide, by decide⟩
  · exact ⟨by decide, by decide, by decide⟩
  · exact bad_ok hk
/-- a block, with its type -/
def Bt (w : World) (b : Nat) (cs : List Value) (t : TypeId) : Prop := w.heap[b]? = some (.cells cs.toArray t (0, 0))
theorem Bt.blk {w : World} {b : Nat} {cs : List Value} {t : TypeId} (h : Bt w b cs t) : Blk w b cs := ⟨t, h⟩
theorem Bt.only {w w' : World} {b : Nat} {cs : List Value} {t : TypeId} {S : List Nat} (h : Bt w b cs t) (o : Only S w w') (hn : b ∉ S) : Bt w' b cs t := by
  have := h.blk.lt
  unfold Bt at h ⊢
  rw [o.block b this hn, h]
theorem Bt.new (w : World) (c : Array Value) (t : TypeId) : Bt (w.alloc (.cells c t)) w.heap.size c.toList t := by
  show (w.heap.push _)[w.heap.size]? = _; simp
theorem Bt.ne {w : World} {a b : Nat} {cs ds : List Value} {t u : TypeId} (h : Bt w a cs t) (k : Bt w b ds u) (hn : t ≠ u) : a ≠ b := fun e => by
  subst e
  unfold Bt at h k
  rw [h] at k
  injection k with k
  injection k with _ k
  exact hn k
theorem own_bt {B : Nat} {w : World} {v : Value} {xs : List Int} (h : Own elI B w v xs) {g : Nat} (hg : v.ownBlock = some g) : ∃ cs, Bt w g cs 3 := by
  rcases h.2 with ⟨rfl, _⟩ | ⟨g', cap, cur, rfl, _, h2, _⟩
  · cases hg
  · injection hg with hg
    subst hg
    exact ⟨cur.toList, h2⟩
theorem exec_neB {w : World} {o : Oper} {act : Act} (b : Bd) (x y : Operand) (r : TypeId) (ho : o.op = .binOp .neq 33 x y r) (hx : act.eval x = b.v) (hy : act.eval y = b.v) : (execOp act.eval o).run Try.prog w = .ok (.value (.bool false)) w := by
  have e := eq_in w 9997 b b
  have hg : ∀ a b : Array Value, (eqGuard .neq 33 x y (.agg a) (.agg b)).run Try.prog w = .ok () w := fun a b => by
    have hg : Try.prog.eqGuardType Try.prog.depth 33 = false := by kernel_rfl
    unfold eqGuard
    simp [hg]
  simp only [execOp, ho, hx, hy, Sem.run_bind, hg, Result.andThen_ok, binOp, Op.equal, Op.maxDepth, e, Sem.run_pure]
  simp
set_option maxRecDepth 100000 in
theorem exec_fieldD {w : World} {o : Oper} {act : Act} {s : Gs} {d : Int} (hs : Step.Wf s) (hd : s.d = d) (x : Operand) (ho : o.op = .field 37 x 1) (hx : act.eval x = s.v) : (execOp act.eval o).run Try.prog w = .ok (.value (.int .u64 d)) w := by
  subst hd
  obtain ⟨fr, d, bs, sc⟩ := s
  obtain ⟨h1, h2⟩ := hs
  obtain ⟨x0, x1, x2, x3, x4, x5, x6, x7, y0, y1, y2, y3, y4, y5, y6, y7, rfl⟩ := list16 h1
  obtain ⟨z0, z1, z2, z3, z4, z5, z6, z7, rfl⟩ := list8 h2
  simp only [execOp, ho, hx]
  show _ = _
  kernel_rfl
/-- a config at p, a state at xs, rows -/
structure Gf (w W : World) (T0 xs T p : Nat) (c : Cf) (rv tv ov : Value) (rows : List (List Cl)) : Prop where
  conf : Cb W p c rv tv
  rd : Rd T0 W c rv tv
  rows : ∀ (i : Nat) (row : List Cl), rows[i]? = some row → ∃ b off cap ra rn rc, ov = .slice (some ⟨b, off, none⟩) rows.length cap ∧ b ≠ xs ∧ b < T ∧ W.cell? ⟨b, off + i, none⟩ = some (.slice ra rn rc) ∧ RowX 0 xs T W (.slice ra rn rc) row
  only : Only [] w W
  le : w.heap.size ≤ p
  pT : p < T0
  lt : T0 ≤ xs
  xT : xs < T
  sz : T ≤ W.heap.size
theorem Gf.off {w W W' : World} {T0 xs T p : Nat} {c : Cf} {rv tv ov : Value} {rows : List (List Cl)} (h : Gf w W T0 xs T p c rv tv ov rows) {S : List Nat} (o : Only S W W') (hS : ∀ x ∈ S, x = xs ∨ T ≤ x) : Gf w W' T0 xs T p c rv tv ov rows := by
  have h1 := h.lt
  have h2 := h.le
  have h3 := h.xT
  have h4 := h.pT
  have h5 := h.sz
  refine ⟨h.conf.only o (fun m => by have := hS _ m; omega), h.rd.only o (fun g hg => by have := hS g hg; omega), fun i row hr => ?_, h.only.then o (fun x hx hl => by have := hS x hx; have := h.only.size; omega), h.le, h.pT, h.lt, h.xT, Nat.le_trans h.sz o.size⟩
  obtain ⟨b, off, cap, ra, rn, rc, k1, k2, k3, k4, k5⟩ := h.rows i row hr
  refine ⟨b, off, cap, ra, rn, rc, k1, k2, k3, (o.cell (p := ⟨b, off + i, none⟩) (by show b < _; omega) (fun m => by have := hS b m; omega)).trans k4, ?_⟩
  rcases k5 with k5 | ⟨g, e1, e2, e3, e4, e5⟩
  · exact Or.inl (k5.only o (fun g hg => Nat.zero_le _))
  · exact Or.inr ⟨g, e1, e2, e3, e4, e5.only o (fun m => by have := hS _ m; omega)⟩
theorem Gf.then {w W W' : World} {T0 xs T p : Nat} {c : Cf} {rv tv ov : Value} {rows : List (List Cl)} (h : Gf w W T0 xs T p c rv tv ov rows) (o : Only [] W W') : Gf w W' T0 xs T p c rv tv ov rows := h.off o (by simp)
theorem Gf.row {w W : World} {T0 xs T p : Nat} {c : Cf} {rv tv ov : Value} {rows : List (List Cl)} (h : Gf w W T0 xs T p c rv tv ov rows) {i : Nat} {row : List Cl} (hr : rows[i]? = some row) : ∃ b off cap ra rn rc, ov = .slice (some ⟨b, off, none⟩) rows.length cap ∧ W.cell? ⟨b, off + i, none⟩ = some (.slice ra rn rc) ∧ RdC T W (.slice ra rn rc) row ∧ b < T := by
  obtain ⟨b, off, cap, ra, rn, rc, k1, k2, k3, k4, k5⟩ := h.rows i row hr
  refine ⟨b, off, cap, ra, rn, rc, k1, k4, ?_, k3⟩
  rcases k5 with k5 | ⟨g, e1, e2, e3, e4, e5⟩
  · exact k5.lower (Nat.zero_le _)
  · rw [e1]
    exact rdc_blk (cap := row.length) (ys := []) (by rw [List.append_nil]; exact e5) (Nat.le_refl _) (by omega) e3
theorem Gf.rdT {w W : World} {T0 xs T p : Nat} {c : Cf} {rv tv ov : Value} {rows : List (List Cl)} (h : Gf w W T0 xs T p c rv tv ov rows) : Rd T W c rv tv := h.rd.upto (by have := h.lt; have := h.xT; omega)
set_option maxRecDepth 100000 in
set_option maxHeartbeats 4000000 in
theorem walk (a0 : Int) (a1 : Int) (s2 : Value) (a2 : List (List Int)) (a3 : Int) (w : World) (w0 : (Lit.int .i64 a0).wf = true) (w1 : (Lit.int .i64 a1).wf = true) (w2 : RdG 1 rInts w.heap.size w s2 a2) (w3 : (Lit.int .i64 a3).wf = true) :
    Calls Try.prog 7 #[.int .i64 a0, .int .i64 a1, s2, .int .i64 a3] w fun e w' => e = .returned (.bool true) ∧ Below w.heap.size w w' := by
  have hnot : ∀ (x : Bool) (w : World), (Op.unary .not (.bool x)).run Try.prog w = .ok (.bool (!x)) w := fun _ _ => rfl
  obtain ⟨q, hq⟩ : ∃ q, w.heap.size = q := ⟨_, rfl⟩
  have H0 : Hid (RdG 1 rInts q w s2 a2) := hq ▸ w2
  have HQ : Hid (w.heap.size = q) := hq
  clear w2 w3
  rw [hq]
  clear hq
  go_enter Try.func7, Try.ntmps7
  go_upto_region 1 with fail
  apply wp_region_lit
  refine op_call (F := 15) (args := #[]) (w1 := w) rfl (by kernel_rfl) ?_
  refine (known_any w).mono ?_
  rintro e W1 ⟨rfl, o⟩
  refine ⟨_, rfl, ?_⟩
  have H1 : Hid (RdG 1 rInts q W1 s2 a2 ∧ Only [] w W1 ∧ q ≤ W1.heap.size) := ⟨H0.out.only rInts_st o (by simp), o, by have := HQ.out; have := o.size; omega⟩
  clear H0 o
  simp only [Act.put, List.setIfInBounds_toArray, List.set_cons_succ, List.set_cons_zero]
  refine op_val (w' := W1) rfl (.bool false) (by kernel_rfl) ?_
  simp only [Act.put, List.setIfInBounds_toArray, List.set_cons_succ, List.set_cons_zero]
  refine wpList_nil ?_
  obtain ⟨k, hk⟩ : ∃ k : Nat, a3 % 4 = k := ⟨(a3 % 4).toNat, by omega⟩
  have hk4 : k < 4 := by omega
  go_upto_region 3 with fail
  apply wp_region_lit
  refine op_val (w' := W1) rfl (Op3.v ⟨6, 0, 3⟩) (by kernel_rfl) ?_
  simp only [Act.put, List.setIfInBounds_toArray, List.set_cons_succ, List.set_cons_zero]
  refine op_val (w' := W1) rfl (Op3.v ⟨1, 9, 0⟩) (by kernel_rfl) ?_
  simp only [Act.put, List.setIfInBounds_toArray, List.set_cons_succ, List.set_cons_zero]
  refine op_val (w' := W1) rfl (Op3.v ⟨8, 4, 0⟩) (by kernel_rfl) ?_
  simp only [Act.put, List.setIfInBounds_toArray, List.set_cons_succ, List.set_cons_zero]
  refine op_val (w' := W1) rfl (Op3.v ⟨10, 0, 0⟩) (by kernel_rfl) ?_
  simp only [Act.put, List.setIfInBounds_toArray, List.set_cons_succ, List.set_cons_zero]
  refine op_val (w' := W1) rfl (.agg #[.int .i64 6, .int .i64 0, .int .i64 3, .int .i64 1, .int .i64 9, .int .i64 0, .int .i64 8, .int .i64 4, .int .i64 0, .int .i64 10, .int .i64 0, .int .i64 0]) (by kernel_rfl) ?_
  simp only [Act.put, List.setIfInBounds_toArray, List.set_cons_succ, List.set_cons_zero]
  refine op_val (w' := W1) rfl (.int .i64 a3) (by kernel_rfl) ?_
  simp only [Act.put, List.setIfInBounds_toArray, List.set_cons_succ, List.set_cons_zero]
  refine op_call (F := 24) (args := #[.int .i64 a3, .int .i64 4]) (w1 := W1) rfl (by kernel_rfl) ?_
  refine (pick_any _ _ (by omega) (by omega) _).mono ?_
  rintro e W2 ⟨rfl, rfl⟩
  refine ⟨_, rfl, ?_⟩
  rw [hk]
  simp only [Act.put, List.setIfInBounds_toArray, List.set_cons_succ, List.set_cons_zero]
  refine op_val (w' := W1) rfl ((badOf k).v) (exec_bad hk4 (.tmp 22) (.tmp 24) rfl (by kernel_rfl) (by kernel_rfl)) ?_
  simp only [Act.put, List.setIfInBounds_toArray, List.set_cons_succ, List.set_cons_zero]
  obtain ⟨bad, hbad⟩ : ∃ b, badOf k = b := ⟨_, rfl⟩
  have HBAD : Hid (badOf k = bad ∧ k < 4) := ⟨hbad, hk4⟩
  obtain ⟨t, ht⟩ : ∃ t, W1.heap.size = t := ⟨_, rfl⟩
  rw [hbad]
  clear hbad hk hk4
  refine op_val (w' := W1.alloc (.cells (Op3.cells ⟨0, 0, 0⟩).toArray 23)) rfl (.pointer (some ⟨W1.heap.size, 0, none⟩)) (by kernel_rfl) ?_
  simp only [Act.put, List.setIfInBounds_toArray, List.set_cons_succ, List.set_cons_zero]
  rw [ht]
  refine op_storeO (p := t) (a := bad) rfl (⟨ht ▸ Blk.new W1 _ _⟩ : Ob _ t ⟨0, 0, 0⟩) (.tmp 9) (.tmp 25) rfl (by kernel_rfl) (by kernel_rfl) ?_
  intro W2 hb o2 hz
  have o12 : Only [] W1 W2 := ((Only.refl [] W1).alloc _).then o2 (fun x hx hl => by have h2 : x = t := (by simpa using hx); omega)
  have H2 : Hid (RdG 1 rInts q W2 s2 a2 ∧ Only [] w W2 ∧ Ob W2 t bad ∧ q ≤ t) := ⟨H1.out.1.only rInts_st o12 (by simp), H1.out.2.1.trans o12, hb, ht ▸ H1.out.2.2⟩
  clear H1 hb o2 hz o12 ht
  simp only [Act.put, List.setIfInBounds_toArray, List.set_cons_succ, List.set_cons_zero]
  refine wpList_nil ?_
  obtain ⟨n, hn⟩ : ∃ n : Nat, 1 + a0 % 8 = n := ⟨(1 + a0 % 8).toNat, by omega⟩
  have HN : Hid (1 ≤ n ∧ n ≤ 8) := ⟨by omega, by omega⟩
  have hn8 := HN.out.2
  have wn : IntKind.i64.wrap (n : Int) = n := IntWalk.i64_in _ (by omega)
  go_upto_region 4 with fail
  have HV : Hid (∀ y, Only [] W2.drew y → Ob y t bad ∧ t < y.heap.size) := fun y hy => by
    have o := (only_drew W2).trans hy
    have := H2.out.2.2.1.only o (by simp)
    exact ⟨this, this.blk.lt⟩
  refine wp_region_free 10 (Only []) (Only.refl _) (Only.trans) [(0, .int .i64 a0), (9, .pointer (some ⟨t, 0, none⟩))] (by intro p hp; simp only [List.mem_cons, List.not_mem_nil, or_false] at hp; rcases hp with rfl | rfl <;> rfl) (by kernel_rfl) (by kernel_rfl) (by decide) (by kernel_rfl) (by kernel_rfl) ?_
  simp only [List.take_succ_cons, List.take_zero, List.drop_succ_cons, List.drop_zero]
  refine rf_val (.int .i64 a0) (by first | rfl | exact ⟨by kernel_rfl, rfl⟩) (fun zA v hT hf => ?_) ?_
  · skip
    simp at hf
    go_simp
    try rfl
  refine rf_eff (fun _ v => v = .int .i64 (a0 % 8)) (by first | rfl | exact ⟨by kernel_rfl, rfl⟩) (fun _ _ _ _ h => h) (fun z2 y hT hf => ?_) ?_
  · simp at hf
    go_simp
    refine (pick_any _ _ (by omega) (by omega) _).mono ?_
    rintro e y2 ⟨rfl, rfl⟩
    exact ⟨_, rfl, rfl, Only.refl _ _⟩
  refine rf_val (.int .i64 n) (by first | rfl | exact ⟨by kernel_rfl, rfl⟩) (fun zA v hT hf => ?_) ?_
  · skip
    simp at hf
    go_simp
    try rfl
  refine rf_val (Op3.v ⟨12, 0, 0⟩) (by first | rfl | exact ⟨by kernel_rfl, rfl⟩) (fun zA v hT hf => ?_) ?_
  · skip
    simp at hf
    go_simp
    try rfl
  refine rf_val (Op3.v ⟨1, 1, 5⟩) (by first | rfl | exact ⟨by kernel_rfl, rfl⟩) (fun zA v hT hf => ?_) ?_
  · skip
    simp at hf
    go_simp
    try rfl
  refine rf_val (Op3.v ⟨11, 1, 0⟩) (by first | rfl | exact ⟨by kernel_rfl, rfl⟩) (fun zA v hT hf => ?_) ?_
  · skip
    simp at hf
    go_simp
    try rfl
  refine rf_val (bad.v) (by first | rfl | exact ⟨by kernel_rfl, rfl⟩) (fun zA v hT hf => exec_loads (cs := bad.cells) (g := t) (off := 0) 23 (.tmp 9) rfl (by simp at hf; simp [Act.eval, hf]) Try.underlying23 info_op3 (HV.out v hT).1.blk.whole) ?_
  refine rf_eff (fun y v => ∃ g, v = .slice (some ⟨g, 0, none⟩) 4 4 ∧ Bt y g (flatO (rul bad)) 23) (by first | rfl | exact ⟨by kernel_rfl, rfl⟩) (fun y y2 v hT h => ?_) (fun z2 y hT hf => ?_) ?_
  · obtain ⟨g, h1, h2⟩ := h
    exact ⟨g, h1, h2.only hT (by simp)⟩
  · have e29 : z2.eval (.tmp 29) = Op3.v ⟨12, 0, 0⟩ := by simp at hf; simp [Act.eval, hf]
    have e30 : z2.eval (.tmp 30) = Op3.v ⟨1, 1, 5⟩ := by simp at hf; simp [Act.eval, hf]
    have e31 : z2.eval (.tmp 31) = Op3.v ⟨11, 1, 0⟩ := by simp at hf; simp [Act.eval, hf]
    have e32 : z2.eval (.tmp 32) = bad.v := by simp at hf; simp [Act.eval, hf]
    rw [exec_rul bad (.tmp 29) (.tmp 30) (.tmp 31) (.tmp 32) rfl e29 e30 e31 e32]
    exact ⟨⟨_, rfl, Bt.new y _ _⟩, trivial, (Only.refl _ _).alloc _⟩
  refine rf_eff (fun y v => ∃ g ta tn tc, v = (cf1 n (rul bad)).v (.slice (some ⟨g, 0, none⟩) 4 4) (.slice ta tn tc) ∧ Bt y g (flatO (rul bad)) 23 ∧ Own elI 0 y (.slice ta tn tc) (nats n)) (by first | rfl | exact ⟨by kernel_rfl, rfl⟩) (fun y y2 v hT h => ?_) (fun z2 y hT hf => ?_) ?_
  · obtain ⟨g, ta, tn, tc, h1, h2, h3⟩ := h
    exact ⟨g, ta, tn, tc, h1, h2.only hT (by simp), h3.only hT (by simp)⟩
  · simp at hf
    obtain ⟨⟨g0, g9⟩, g28, ⟨g, g33, hg⟩, g27⟩ := hf
    go_simp
    refine (one_any (B := y.heap.size) (rules := rul bad) n hn8 (RdO.of_blk hg.blk hg.blk.lt (Nat.le_refl _)) (by show 4 ≤ _; omega) (Nat.le_refl _)).mono ?_
    rintro e y2 ⟨ta, tn, tc, rfl, hr, ho, o⟩
    exact ⟨_, rfl, ⟨g, ta, tn, tc, rfl, hg.only o (by simp), ho.lower (Nat.zero_le _)⟩, o⟩
  refine rf_eff (fun y v => ∃ g, v = .pointer (some ⟨g, 0, none⟩) ∧ Bt y g (Cf.zero.cells (.slice none 0 0) (.slice none 0 0)) 28 ∧ t < g) (by first | rfl | exact ⟨by kernel_rfl, rfl⟩) (fun y y2 v hT h => ?_) (fun z2 y hT hf => ?_) ?_
  · obtain ⟨g, h1, h2, h3⟩ := h
    exact ⟨g, h1, h2.only hT (by simp), h3⟩
  · exact ⟨⟨_, rfl, Bt.new y (Cf.zero.cells (.slice none 0 0) (.slice none 0 0)).toArray 28, (HV.out y hT).2⟩, trivial, (Only.refl _ _).alloc _⟩
  intro W3 hy
  simp only [FinA, Sp.R, forall_eq]
  simp only [Act.put, List.setIfInBounds_toArray, List.set_cons_succ, List.set_cons_zero]
  rintro v33 ⟨g', rfl, -⟩ v34 ⟨g, ta, tn, tc, rfl, hg, ho⟩ v10 ⟨p, rfl, hp, htp⟩
  have o3 := (only_drew W2).trans hy
  have hpg : p ≠ g := hp.ne hg (by decide)
  have hpo : ∀ x, (Value.slice ta tn tc).ownBlock = some x → x ≠ p := fun x hx => by
    obtain ⟨cs, hc⟩ := own_bt ho hx
    exact hc.ne hp (by decide)
  have HNE : Hid (p ≠ g ∧ ∀ x, (Value.slice ta tn tc).ownBlock = some x → x ≠ p) := ⟨hpg, hpo⟩
  have H3 : Hid (RdG 1 rInts q W3 s2 a2 ∧ Only [] w W3 ∧ Ob W3 t bad ∧ q ≤ t ∧ t < p ∧ Bt W3 g (flatO (rul bad)) 23 ∧ Own elI 0 W3 (.slice ta tn tc) (nats n)) := ⟨H2.out.1.only rInts_st o3 (by simp), H2.out.2.1.trans o3, H2.out.2.2.1.only o3 (by simp), H2.out.2.2.2, htp, hg, ho⟩
  clear HV hy H2 hg ho hpg hpo wn
  refine op_storeCf (p := p) (c := cfS n 0 (rul bad)) (ra := some ⟨g, 0, none⟩) (rn := 4) (rc := 4) (ta := ta) (tn := tn) (tc := tc) rfl ⟨hp.blk⟩ (.tmp 10) (.tmp 34) rfl (by kernel_rfl) (by kernel_rfl) ?_
  intro W4 hb o4 hz
  -- what is written to the config alone
  have PUT : Hid (∀ {W W' : World}, (RdG 1 rInts q W s2 a2 ∧ Only [] w W ∧ Ob W t bad ∧ q ≤ t ∧ t < p ∧ Bt W g (flatO (rul bad)) 23 ∧ Own elI 0 W (.slice ta tn tc) (nats n)) → Only [p] W W' → (RdG 1 rInts q W' s2 a2 ∧ Only [] w W' ∧ Ob W' t bad ∧ q ≤ t ∧ t < p ∧ Bt W' g (flatO (rul bad)) 23 ∧ Own elI 0 W' (.slice ta tn tc) (nats n))) := fun {W W'} h o => by
    obtain ⟨k1, k2, k3, k4, k5, k6, k7⟩ := h
    have := HQ.out
    exact ⟨k1.only rInts_st o (fun x hx => by have h2 : x = p := (by simpa using hx); omega), k2.then o (fun x hx hl => by have h2 : x = p := (by simpa using hx); omega), k3.only o (by simp; omega), k4, k5, k6.only o (by simp; exact fun e => HNE.out.1 e.symm), k7.only o (fun x hx hm => HNE.out.2 x hx (by simpa using hm))⟩
  have H4 : Hid ((RdG 1 rInts q W4 s2 a2 ∧ Only [] w W4 ∧ Ob W4 t bad ∧ q ≤ t ∧ t < p ∧ Bt W4 g (flatO (rul bad)) 23 ∧ Own elI 0 W4 (.slice ta tn tc) (nats n)) ∧ Cb W4 p (cfS n 0 (rul bad)) (.slice (some ⟨g, 0, none⟩) 4 4) (.slice ta tn tc)) := ⟨PUT.out H3.out o4, hb⟩
  clear hb o4 hz H3 hp htp
  simp only [Act.put, List.setIfInBounds_toArray, List.set_cons_succ, List.set_cons_zero]
  refine wpList_nil ?_
  have cb0 : W4.cell? ⟨t, 0, none⟩ = some (.int .i64 bad.c) := H4.out.1.2.2.1.blk.cell 0
  go_upto_if 37 with fail
  go_cut [] (fun wx => ∃ (rules : List Op3) (off rn : Nat), Hid ((RdG 1 rInts q wx s2 a2 ∧ Only [] w wx ∧ Ob wx t bad ∧ q ≤ t ∧ t < p ∧ Bt wx g (flatO (rul bad)) 23 ∧ Own elI 0 wx (.slice ta tn tc) (nats n)) ∧ Cb wx p (cfS n 0 rules) (.slice (some ⟨g, off, none⟩) rn rn) (.slice ta tn tc) ∧ Step.Breaks rules ∧ Rule.right rules = true ∧ ∀ W' : World, Bt W' g (flatO (rul bad)) 23 → RdO W'.heap.size W' (.slice (some ⟨g, off, none⟩) rn rn) rules))
  case first =>
    by_cases hj : bad.c = 10
    · have zj : (bad.c == 10) = true := by simpa using hj
      have HJ : Hid (bad = ⟨10, 0, 0⟩) := by
        obtain ⟨e, hk4⟩ := HBAD.out
        have h4 : k = 0 ∨ k = 1 ∨ k = 2 ∨ k = 3 := by omega
        show _ = _
        rw [← e] at hj ⊢
        rcases h4 with rfl | rfl | rfl | rfl
        · exact absurd hj (by decide)
        · exact absurd hj (by decide)
        · exact absurd hj (by decide)
        · rfl
      go_upto_region 6 with fail
      clear cb0 zj hj
      apply wp_region_lit
      refine op_val (w' := W4) rfl (.pointer (some ⟨p, 8, none⟩)) (by kernel_rfl) ?_
      simp only [Act.put, List.setIfInBounds_toArray, List.set_cons_succ, List.set_cons_zero]
      refine op_val (w' := W4) rfl (.slice (some ⟨g, 0, none⟩) 4 4) (exec_ldO (a := ⟨p, 8, none⟩) (.tmp 38) rfl (by kernel_rfl) (H4.out.2.blk.cell 8)) ?_
      simp only [Act.put, List.setIfInBounds_toArray, List.set_cons_succ, List.set_cons_zero]
      refine op_val (w' := W4) rfl (.slice (some ⟨g, 9, none⟩) 1 1) (by kernel_rfl) ?_
      simp only [Act.put, List.setIfInBounds_toArray, List.set_cons_succ, List.set_cons_zero]
      refine op_val (w' := W4) rfl (.pointer (some ⟨p, 8, none⟩)) (by kernel_rfl) ?_
      simp only [Act.put, List.setIfInBounds_toArray, List.set_cons_succ, List.set_cons_zero]
      refine op_store1 rfl 24 (.tmp 41) (.tmp 40) rfl 8 (v := .slice (some ⟨g, 9, none⟩) 1 1) (by kernel_rfl) (by kernel_rfl) H4.out.2.blk (by kernel_rfl) (by simp [Cf.cells]) rfl rfl ?_
      intro W5 hb o5 hz5
      have h5 := PUT.out H4.out.1 o5
      have H5 : Hid ((RdG 1 rInts q W5 s2 a2 ∧ Only [] w W5 ∧ Ob W5 t bad ∧ q ≤ t ∧ t < p ∧ Bt W5 g (flatO (rul bad)) 23 ∧ Own elI 0 W5 (.slice ta tn tc) (nats n)) ∧ Cb W5 p (cfS n 0 [bad]) (.slice (some ⟨g, 9, none⟩) 1 1) (.slice ta tn tc) ∧ Step.Breaks [bad] ∧ Rule.right [bad] = true ∧ ∀ W' : World, Bt W' g (flatO (rul bad)) 23 → RdO W'.heap.size W' (.slice (some ⟨g, 9, none⟩) 1 1) [bad]) :=
        ⟨h5, ⟨hb⟩, by rw [HJ.out]; exact Step.breaks_jump, by rw [HJ.out]; decide, fun W' h => rdo_last (RdO.of_blk (l := rul bad) h.blk h.blk.lt (Nat.le_refl _))⟩
      clear hb o5 hz5 h5 H4
      simp only [Act.put, List.setIfInBounds_toArray, List.set_cons_succ, List.set_cons_zero]
      refine wpList_nil ?_
      go_wp2_with fail
      go_meet
      exact ⟨_, _, _, H5.out⟩
    · have zj : (bad.c == 10) = false := by simpa using hj
      have H5 : Hid ((RdG 1 rInts q W4 s2 a2 ∧ Only [] w W4 ∧ Ob W4 t bad ∧ q ≤ t ∧ t < p ∧ Bt W4 g (flatO (rul bad)) 23 ∧ Own elI 0 W4 (.slice ta tn tc) (nats n)) ∧ Cb W4 p (cfS n 0 (rul bad)) (.slice (some ⟨g, 0, none⟩) 4 4) (.slice ta tn tc) ∧ Step.Breaks (rul bad) ∧ Rule.right (rul bad) = true ∧ ∀ W' : World, Bt W' g (flatO (rul bad)) 23 → RdO W'.heap.size W' (.slice (some ⟨g, 0, none⟩) 4 4) (rul bad)) :=
        ⟨H4.out.1, H4.out.2, Step.breaks_roll bad, by rw [← HBAD.out.1]; exact rul_right HBAD.out.2, fun W' h => RdO.of_blk (l := rul bad) h.blk h.blk.lt (Nat.le_refl _)⟩
      go_wp2_with fail
      go_meet
      exact ⟨_, _, _, H5.out⟩
  case rest =>
    clear H4 cb0
    obtain ⟨rules, off, rn, HC⟩ := hcut
    obtain ⟨sd, hsd⟩ : ∃ sd, a1 % 1000 = sd := ⟨_, rfl⟩
    have HSD : Hid (0 ≤ sd ∧ sd < 1000) := ⟨by omega, by omega⟩
    go_upto_region 7 with fail
    apply wp_region_lit
    refine op_val (w' := wc) rfl (.int .i64 a1) (by kernel_rfl) ?_
    simp only [Act.put, List.setIfInBounds_toArray, List.set_cons_succ, List.set_cons_zero]
    refine op_call (F := 24) (args := #[.int .i64 a1, .int .i64 1000]) (w1 := wc) rfl (by kernel_rfl) ?_
    refine (pick_any _ _ (by omega) (by omega) _).mono ?_
    rintro e W5 ⟨rfl, rfl⟩
    refine ⟨_, rfl, ?_⟩
    rw [hsd]
    clear hsd
    simp only [Act.put, List.setIfInBounds_toArray, List.set_cons_succ, List.set_cons_zero]
    refine op_val (w' := wc) rfl (.pointer (some ⟨p, 5, none⟩)) (by kernel_rfl) ?_
    simp only [Act.put, List.setIfInBounds_toArray, List.set_cons_succ, List.set_cons_zero]
    refine op_store1 rfl 3 (.tmp 44) (.tmp 43) rfl 5 (v := .int .i64 sd) (by kernel_rfl) (by kernel_rfl) HC.out.2.1.blk (by kernel_rfl) (by simp [Cf.cells]) rfl rfl ?_
    intro W5 hb o5 hz5
    obtain ⟨c, hc⟩ : ∃ c, cfS n sd rules = c := ⟨_, rfl⟩
    obtain ⟨T0, hT0⟩ : ∃ T0, W5.heap.size = T0 := ⟨_, rfl⟩
    have LEG : Hid (Step.legal c = true ∧ c.pl = n ∧ Step.Breaks c.rules) := by
      rw [← hc]
      exact ⟨cfS_legal HN.out.1 HN.out.2 HSD.out HC.out.2.2.2.1, rfl, HC.out.2.2.1⟩
    have H5 : Hid (Cb W5 p c (.slice (some ⟨g, off, none⟩) rn rn) (.slice ta tn tc) ∧ Rd T0 W5 c (.slice (some ⟨g, off, none⟩) rn rn) (.slice ta tn tc) ∧ RdG 1 rInts q W5 s2 a2 ∧ Only [] w W5 ∧ q ≤ p ∧ p < T0 ∧ T0 ≤ W5.heap.size) := by
      have h5 := PUT.out HC.out.1 o5
      have hb' : Cb W5 p c (.slice (some ⟨g, off, none⟩) rn rn) (.slice ta tn tc) := by rw [← hc]; exact ⟨hb⟩
      refine ⟨hb', ⟨?_, hT0 ▸ (by have := h5.2.2.2.2.2.2.rdn; rw [← hc]; exact this), ?_, ?_⟩, h5.1, h5.2.1, by omega, by have := hb'.blk.lt; omega, by omega⟩
      · rw [← hc, ← hT0]; exact HC.out.2.2.2.2 W5 h5.2.2.2.2.2.1
      · rw [← hc]; have := right_len (LEG.out.1); rw [← hc] at this; exact this
      · rw [← hc]; show (nats n).length ≤ _; rw [nats_len]; omega
    clear hb o5 hz5 HC PUT HNE hT0 HSD hc
    simp only [Act.put, List.setIfInBounds_toArray, List.set_cons_succ, List.set_cons_zero]
    refine wpList_nil ?_
    go_upto_region 8 with fail
    apply wp_region_lit
    refine opg_loadC (p := p) (by kernel_rfl) (.tmp 10) rfl (by kernel_rfl) H5.out.1.blk.whole ?_
    simp only [Act.put, List.setIfInBounds_toArray, List.set_cons_succ, List.set_cons_zero]
    refine op_call (F := 11) (args := #[c.v (.slice (some ⟨g, off, none⟩) rn rn) (.slice ta tn tc)]) (w1 := W5) rfl (by kernel_rfl) ?_
    refine (first_any c H5.out.2.1 H5.out.2.2.2.2.2.2).mono ?_
    rintro e W6 ⟨rfl, o⟩
    refine ⟨_, rfl, ?_⟩
    rw [Step.first_lost LEG.out.1 LEG.out.2.1]
    have FO : Hid (Step.Ok c (Step.lostS c n 0)) := by rw [← Step.first_lost LEG.out.1 LEG.out.2.1]; exact Step.first_ok LEG.out.1
    obtain ⟨xs, hxs⟩ : ∃ xs, W6.heap.size = xs := ⟨_, rfl⟩
    simp only [Act.put, List.setIfInBounds_toArray, List.set_cons_succ, List.set_cons_zero]
    refine op_val (w' := W6.alloc (.cells Step.zero.cells.toArray 37)) rfl (.pointer (some ⟨W6.heap.size, 0, none⟩)) (by kernel_rfl) ?_
    simp only [Act.put, List.setIfInBounds_toArray, List.set_cons_succ, List.set_cons_zero]
    rw [hxs]
    refine op_storeS (p := xs) (s := Step.lostS c n 0) rfl (sb_at hxs Step.zero_wf _) ⟨FO.out.b.len, FO.out.s.len⟩ (.tmp 11) (.tmp 46) rfl (by kernel_rfl) (by kernel_rfl) ?_
    intro W7 hb o7 hz
    have o57 : Only [] W5 W7 := o.trans (((Only.refl [] W6).alloc _).then o7 (fun x hx hl => by have h2 : x = xs := (by simpa using hx); omega))
    have H7 : Hid (Cb W7 p c (.slice (some ⟨g, off, none⟩) rn rn) (.slice ta tn tc) ∧ Rd T0 W7 c (.slice (some ⟨g, off, none⟩) rn rn) (.slice ta tn tc) ∧ RdG 1 rInts q W7 s2 a2 ∧ Only [] w W7 ∧ q ≤ p ∧ p < T0 ∧ T0 ≤ xs ∧ Sb W7 xs (Step.lostS c n 0)) := by
      obtain ⟨k1, k2, k3, k4, k5, k6, k7⟩ := H5.out
      exact ⟨k1.only o57 (by simp), k2.only o57 (by simp), k3.only rInts_st o57 (by simp), k4.trans o57, k5, k6, by have := o.size; omega, hb⟩
    clear H5 hb o o7 hz hxs o57
    simp only [Act.put, List.setIfInBounds_toArray, List.set_cons_succ, List.set_cons_zero]
    refine wpList_nil ?_
    go_upto_region 9 with fail
    apply wp_region_lit
    refine op_val (w' := W7) rfl (.pointer (some ⟨p, 0, none⟩)) (by kernel_rfl) ?_
    simp only [Act.put, List.setIfInBounds_toArray, List.set_cons_succ, List.set_cons_zero]
    refine op_val (w' := W7) rfl (.int .i64 n) (exec_int (a := ⟨p, 0, none⟩) (.tmp 47) rfl (by kernel_rfl) (by rw [← LEG.out.2.1]; exact H7.out.1.blk.cell 0)) ?_
    simp only [Act.put, List.setIfInBounds_toArray, List.set_cons_succ, List.set_cons_zero]
    refine op_val (w' := W7) rfl (s2) (by kernel_rfl) ?_
    simp only [Act.put, List.setIfInBounds_toArray, List.set_cons_succ, List.set_cons_zero]
    refine op_call (F := 20) (args := #[.int .i64 (n : Nat), s2]) (w1 := W7) rfl (by kernel_rfl) ?_
    refine (hrows_any n hn8 H7.out.2.2.1 (by have := H7.out.1.blk.lt; have := H7.out.2.2.2.2.1; omega)).mono ?_
    rintro e W8 ⟨ov, ss, rfl, HR⟩
    refine ⟨_, rfl, ?_⟩
    obtain ⟨T, hT⟩ : ∃ T, W8.heap.size = T := ⟨_, rfl⟩
    obtain ⟨rows, hrows⟩ : ∃ rows, hrows n a2 = rows := ⟨_, rfl⟩
    have hlen : rows.length ≤ 40 := by rw [← hrows]; simp [_root_.Go.Proofs.Ytngbannidbijmaa.hrows]; omega
    rw [hrows] at HR
    have H8 : Hid (Gf w W8 T0 xs T p c (.slice (some ⟨g, off, none⟩) rn rn) (.slice ta tn tc) ov rows ∧ Sb W8 xs (Step.lostS c n 0)) := by
      obtain ⟨k1, k2, k3, k4, k5, k6, k7, k8⟩ := H7.out
      have hsb := k8.only HR.only (by simp)
      have hxT : xs < T := by have := hsb.blk.lt; omega
      have := HQ.out
      refine ⟨⟨k1.only HR.only (by simp), k2.only HR.only (by simp), fun i row hr => ?_, k4.trans HR.only, by omega, k6, k7, hxT, by omega⟩, hsb⟩
      have := HR.rowx (q := 0) (k8.blk.lt) hsb i row hr
      rw [hT] at this
      exact this
    obtain ⟨oa, oc, hov, -, -⟩ := HR.own.form
    rw [HR.len] at hov
    obtain ⟨m, hm⟩ : ∃ m, rows.length = m := ⟨_, rfl⟩
    have HMM : Hid (rows.length = m) := hm
    rw [hm] at hov hlen
    subst hov
    clear HR H7 hrows hT hm
    simp only [Act.put, List.setIfInBounds_toArray, List.set_cons_succ, List.set_cons_zero]
    refine op_val (w' := W8) rfl (.slice oa m oc) (by kernel_rfl) ?_
    simp only [Act.put, List.setIfInBounds_toArray, List.set_cons_succ, List.set_cons_zero]
    refine wpList_nil ?_
    go_wp2_with fail
    go_loopg [13, 14, 15, 53] (m + 1) (fun gk v13 v14 v15 vi wr => ∃ i : Nat, vi = .int .i64 i ∧ i ≤ m ∧ m + 1 - i ≤ gk ∧ Hid (Gf w wr T0 xs T p c (.slice (some ⟨g, off, none⟩) rn rn) (.slice ta tn tc) (.slice oa m oc) rows ∧ Sb wr xs (Step.lostS c n i) ∧ Step.Ok c (Step.lostS c n i)))
    case atStart => exact ⟨0, rfl, by omega, by omega, H8.out.1, H8.out.2, FO.out⟩
    case round =>
      clear H8 FO
      obtain ⟨i, rfl, hi, hgk, HH⟩ := hrel
      by_cases hl : i < m
      · have z1 : (i : Int) < (m : Int) := by omega
        obtain ⟨row, hrow⟩ : ∃ row, rows[i]? = some row := ⟨_, List.getElem?_eq_getElem (by rw [HMM.out]; exact hl)⟩
        obtain ⟨b, boff, cap', xa, xn, xc, hv, hcell, hRC, hbT⟩ := HH.out.1.row hrow
        injection hv with e1 e2 e3
        subst e1 e3
        clear e2 hrow
        have ST : Hid (Step.step c (Step.lostS c n i) row = Step.lostS c n (i + 1) ∧ Step.Ok c (Step.lostS c n (i + 1)) ∧ Step.Wf (Step.lostS c n i) ∧ Step.Wf (Step.lostS c n (i + 1))) := by
          have e := Step.step_lost LEG.out.2.2 LEG.out.2.1 (i := i) (by omega) HH.out.2.2 row
          have h1 := (HH.out.2.2.step row).1
          rw [e] at h1
          exact ⟨e, h1, HH.out.2.1.wf, ⟨h1.b.len, h1.s.len⟩⟩
        have CR : Hid (wr.cell? ⟨b, boff + i, none⟩ = some (.slice xa xn xc) ∧ RdC T wr (.slice xa xn xc) row ∧ b < wr.heap.size) := ⟨hcell, hRC, by have := HH.out.1.sz; omega⟩
        clear hcell hRC hbT
        go_upto_region 13 with fail
        have HV : Hid (∀ y, Only [] wr.drew y → Gf w y T0 xs T p c (.slice (some ⟨g, off, none⟩) rn rn) (.slice ta tn tc) (.slice (some ⟨b, boff, none⟩) m oc) rows ∧ Sb y xs (Step.lostS c n i) ∧ y.cell? ⟨b, boff + i, none⟩ = some (.slice xa xn xc) ∧ RdC T y (.slice xa xn xc) row) := fun y hy => by
          have o := (only_drew wr).trans hy
          exact ⟨HH.out.1.then o, HH.out.2.1.only o (by simp), (o.cell (p := ⟨b, boff + i, none⟩) CR.out.2.2 (by simp)).trans CR.out.1, CR.out.2.1.only o (by simp)⟩
        clear HH CR
        refine wp_region_free 7 (Only []) (Only.refl _) (Only.trans) [(10, .pointer (some ⟨p, 0, none⟩)), (11, .pointer (some ⟨xs, 0, none⟩)), (12, .slice (some ⟨b, boff, none⟩) m oc), (13, .int .i64 i)] (by intro p hp; simp only [List.mem_cons, List.not_mem_nil, or_false] at hp; rcases hp with rfl | rfl | rfl | rfl <;> rfl) (by kernel_rfl) (by kernel_rfl) (by decide) (by kernel_rfl) (by kernel_rfl) ?_
        simp only [List.take_succ_cons, List.take_zero, List.drop_succ_cons, List.drop_zero]
        refine rf_val (c.v (.slice (some ⟨g, off, none⟩) rn rn) (.slice ta tn tc)) (by first | rfl | exact ⟨by kernel_rfl, rfl⟩) (fun zA v hT hf => exec_ldCf (HV.out v hT).1.conf (.tmp 10) rfl (by simp at hf; simp [Act.eval, hf])) ?_
        refine rf_val ((Step.lostS c n i).v) (by first | rfl | exact ⟨by kernel_rfl, rfl⟩) (fun zA v hT hf => exec_ldS (p := xs) (off := 0) ST.out.2.2.1 (.tmp 11) rfl (by simp at hf; simp [Act.eval, hf]) (HV.out v hT).2.1.blk.whole) ?_
        refine rf_val (.slice (some ⟨b, boff, none⟩) m oc) (by first | rfl | exact ⟨by kernel_rfl, rfl⟩) (fun zA v hT hf => ?_) ?_
        · skip
          simp at hf
          go_simp
          try rfl
        refine rf_val (.int .i64 i) (by first | rfl | exact ⟨by kernel_rfl, rfl⟩) (fun zA v hT hf => ?_) ?_
        · skip
          simp at hf
          go_simp
          try rfl
        refine rf_val (.pointer (some ⟨b, boff + i, none⟩)) (by first | rfl | exact ⟨by kernel_rfl, rfl⟩) (fun zA v hT hf => exec_atRs (cap := oc) hl (.tmp 58) (.tmp 59) rfl (by simp at hf; simp [Act.eval, hf]) (by simp at hf; simp [Act.eval, hf])) ?_
        refine rf_val (.slice xa xn xc) (by first | rfl | exact ⟨by kernel_rfl, rfl⟩) (fun zA v hT hf => exec_ldC (a := ⟨b, boff + i, none⟩) (.tmp 60) rfl (by simp at hf; simp [Act.eval, hf]) (HV.out v hT).2.2.1) ?_
        refine rf_eff (fun _ v => v = (Step.lostS c n (i + 1)).v) (by first | rfl | exact ⟨by kernel_rfl, rfl⟩) (fun _ _ _ _ h => h) (fun z2 y hT hf => ?_) ?_
        · simp at hf
          go_simp
          refine (step_any c (Step.lostS c n i) (HV.out y hT).1.rdT ST.out.2.2.1 (HV.out y hT).2.2.2 (HV.out y hT).1.sz).mono ?_
          rw [ST.out.1]
          rintro e y2 ⟨rfl, o⟩
          exact ⟨_, rfl, rfl, o⟩
        intro w6 hy
        simp only [FinA, Sp.R, forall_eq]
        simp only [Act.put, List.setIfInBounds_toArray, List.set_cons_succ, List.set_cons_zero]
        have H6 : Hid _ := HV.out w6 hy
        clear HV hy
        refine op_storeS (p := xs) (s := Step.lostS c n (i + 1)) rfl H6.out.2.1 ST.out.2.2.2 (.tmp 11) (.tmp 62) rfl (by kernel_rfl) (by kernel_rfl) ?_
        intro w7 hb o7 hz
        have H7 : Hid (Gf w w7 T0 xs T p c (.slice (some ⟨g, off, none⟩) rn rn) (.slice ta tn tc) (.slice (some ⟨b, boff, none⟩) m oc) rows ∧ Sb w7 xs (Step.lostS c n (i + 1))) := ⟨H6.out.1.off o7 (fun x hx => by have h2 : x = xs := (by simpa using hx); exact Or.inl h2), hb⟩
        clear hb o7 hz H6
        simp only [Act.put, List.setIfInBounds_toArray, List.set_cons_succ, List.set_cons_zero]
        refine wpList_nil ?_
        generalize w7 = W9 at *
        go_wp2_with fail
        go_loopg [14, 15] 17 (fun gk vk v15 wk => ∃ k : Nat, vk = .int .i64 k ∧ k ≤ 16 ∧ 17 - k ≤ gk ∧ Hid (Gf w wk T0 xs T p c (.slice (some ⟨g, off, none⟩) rn rn) (.slice ta tn tc) (.slice (some ⟨b, boff, none⟩) m oc) rows ∧ Sb wk xs (Step.lostS c n (i + 1))))
        case atStart => exact ⟨0, rfl, by omega, by omega, H7.out⟩
        case round =>
          clear H7
          obtain ⟨k, rfl, hk16, hgk2, HI⟩ := hrel
          by_cases hk : k < 16
          · have z2 : (k : Int) < 16 := by omega
            go_upto_region 17 with fail
            apply wp_region_lit
            refine op_val (w' := wr) rfl (Body.zero.v) (by kernel_rfl) ?_
            simp only [Act.put, List.setIfInBounds_toArray, List.set_cons_succ, List.set_cons_zero]
            obtain ⟨wt, hwt⟩ : ∃ wt, wr.heap.size = wt := ⟨_, rfl⟩
            refine op_val (w' := wr.alloc (.cells Body.zero.cells.toArray 33)) rfl (.pointer (some ⟨wr.heap.size, 0, none⟩)) (by kernel_rfl) ?_
            simp only [Act.put, List.setIfInBounds_toArray, List.set_cons_succ, List.set_cons_zero]
            rw [hwt]
            refine op_storeBl (p := wt) (b := Body.zero) rfl (hwt ▸ Bl.new Body.zero _ _) (.tmp 15) (.tmp 67) rfl (by kernel_rfl) (by kernel_rfl) ?_
            intro w10 hb10 o10 hz10
            have o9 : Only [] wr w10 := ((Only.refl [] wr).alloc _).then o10 (fun x hx hl => by have h2 : x = wt := (by simpa using hx); omega)
            have H10 : Hid (Gf w w10 T0 xs T p c (.slice (some ⟨g, off, none⟩) rn rn) (.slice ta tn tc) (.slice (some ⟨b, boff, none⟩) m oc) rows ∧ Sb w10 xs (Step.lostS c n (i + 1)) ∧ Bl w10 wt Body.zero ∧ T ≤ wt ∧ xs < T) := ⟨HI.out.1.then o9, HI.out.2.only o9 (by simp), hb10, by have := HI.out.1.sz; omega, HI.out.1.xT⟩
            clear HI hb10 o10 hz10 o9 hwt
            simp only [Act.put, List.setIfInBounds_toArray, List.set_cons_succ, List.set_cons_zero]
            refine wpList_nil ?_
            have cn : w10.cell? ⟨p, 0, none⟩ = some (.int .i64 n) := by rw [← LEG.out.2.1]; exact H10.out.1.conf.blk.cell 0
            go_upto_if 71 with fail
            go_cut [] (fun wx => Hid (Gf w wx T0 xs T p c (.slice (some ⟨g, off, none⟩) rn rn) (.slice ta tn tc) (.slice (some ⟨b, boff, none⟩) m oc) rows ∧ Sb wx xs (Step.lostS c n (i + 1)) ∧ Bl wx wt ((Step.lostL n (i + 1)).getD k Body.zero)))
            case first =>
              have LA : Hid ((Step.lostL n (i + 1)).getD k Body.zero = if k < n then Step.lost n k (i + 1) else Body.zero) := Step.lostL_at n (i + 1) k hk
              by_cases hkn : k < n
              · have z3 : (k : Int) < (n : Int) := by omega
                have LB : Hid ((Step.lostL n (i + 1)).getD k Body.zero = Step.lost n k (i + 1)) := by show _ = _; rw [LA.out, if_pos hkn]
                clear LA
                go_upto_region 19 with fail
                clear cn
                apply wp_region_lit
                refine op_val (w' := w10) rfl (.int .i64 k) (by kernel_rfl) ?_
                simp only [Act.put, List.setIfInBounds_toArray, List.set_cons_succ, List.set_cons_zero]
                refine op_val (w' := w10) rfl (.pointer (some ⟨p, 0, none⟩)) (by kernel_rfl) ?_
                simp only [Act.put, List.setIfInBounds_toArray, List.set_cons_succ, List.set_cons_zero]
                refine op_val (w' := w10) rfl (.int .i64 n) (exec_int (a := ⟨p, 0, none⟩) (.tmp 73) rfl (by kernel_rfl) (by rw [← LEG.out.2.1]; exact H10.out.1.conf.blk.cell 0)) ?_
                simp only [Act.put, List.setIfInBounds_toArray, List.set_cons_succ, List.set_cons_zero]
                refine op_call (F := 25) (args := #[.int .i64 (k : Nat), .int .i64 (n : Nat)]) (w1 := w10) rfl (by kernel_rfl) ?_
                refine (born_any k n w10).mono ?_
                rintro e w11 ⟨rfl, o⟩
                refine ⟨_, rfl, ?_⟩
                rw [born_plr k n hkn hn8]
                simp only [Act.put, List.setIfInBounds_toArray, List.set_cons_succ, List.set_cons_zero]
                refine op_storeBl (p := wt) (b := plr k (at_ k n)) rfl (H10.out.2.2.1.only o (by simp)) (.tmp 15) (.tmp 75) rfl (by kernel_rfl) (by kernel_rfl) ?_
                intro w12 hb12 o12 hz12
                have H12 : Hid (Gf w w12 T0 xs T p c (.slice (some ⟨g, off, none⟩) rn rn) (.slice ta tn tc) (.slice (some ⟨b, boff, none⟩) m oc) rows ∧ Sb w12 xs (Step.lostS c n (i + 1)) ∧ Bl w12 wt (plr k (at_ k n)) ∧ T ≤ wt ∧ xs < T) := ⟨(H10.out.1.then o).off o12 (fun x hx => by have h2 : x = wt := (by simpa using hx); have := H10.out.2.2.2.1; right; omega), (H10.out.2.1.only o (by simp)).only o12 (by have := H10.out.2.2.2; simp; omega), hb12, H10.out.2.2.2⟩
                clear H10 o hb12 o12 hz12
                simp only [Act.put, List.setIfInBounds_toArray, List.set_cons_succ, List.set_cons_zero]
                refine wpList_nil ?_
                have hwr : IntKind.i64.wrap ((i : Int) + 1) = (i : Int) + 1 := IntWalk.i64_in _ (by omega)
                have c6 : w12.cell? ⟨wt, 6, none⟩ = some (.int .i64 0) := H12.out.2.2.1.blk.cell 6
                have c11 : w12.cell? ⟨wt, 11, none⟩ = some (.int .i64 0) := H12.out.2.2.1.blk.cell 11
                have f6 : w12.frozen? ⟨wt, 6, none⟩ = false := H12.out.2.2.1.frozen 6
                have f11 : w12.frozen? ⟨wt, 11, none⟩ = false := H12.out.2.2.1.frozen 11
                go_wp2_with fail
                go_meet
                have o13 : Only [wt] w12 ((w12.setCell ⟨wt, 6, none⟩ (.int .i64 ((i : Int) + 1))).setCell ⟨wt, 11, none⟩ (.int .i64 ((i : Int) + 1))) := ((Only.refl _ _).setCell (by simp) _).setCell (by simp) _
                rw [LB.out]
                refine ⟨H12.out.1.off o13 (fun x hx => by have h2 : x = wt := (by simpa using hx); have := H12.out.2.2.2.1; right; omega), H12.out.2.1.only o13 (by have := H12.out.2.2.2; simp; omega), ?_⟩
                have := (H12.out.2.2.1.set6 ((i : Int) + 1)).set11 ((i : Int) + 1)
                unfold Step.lost
                rw [show ((i + 1 : Nat) : Int) = (i : Int) + 1 by omega]
                exact this
              · have z3 : ¬ (k : Int) < (n : Int) := by omega
                go_wp2_with fail
                go_meet
                rw [LA.out, if_neg hkn]
                exact ⟨H10.out.1, H10.out.2.1, H10.out.2.2.1⟩
            case rest =>
              clear H10 cn
              have HC := hcut
              clear hcut
              go_upto_region 22 with fail
              have HV : Hid (∀ y, Only [] wc.drew y → Gf w y T0 xs T p c (.slice (some ⟨g, off, none⟩) rn rn) (.slice ta tn tc) (.slice (some ⟨b, boff, none⟩) m oc) rows ∧ Sb y xs (Step.lostS c n (i + 1)) ∧ Bl y wt ((Step.lostL n (i + 1)).getD k Body.zero)) := fun y hy => by
                have o := (only_drew wc).trans hy
                exact ⟨HC.out.1.then o, HC.out.2.1.only o (by simp), HC.out.2.2.only o (by simp)⟩
              clear HC
              obtain ⟨bd, hbd⟩ : ∃ bd, (Step.lostL n (i + 1)).getD k Body.zero = bd := ⟨_, rfl⟩
              have HBD : Hid ((Step.lostS c n (i + 1)).bs.getD k Body.zero = bd) := hbd
              rw [hbd] at HV
              clear hbd
              refine wp_region_free 6 (Only []) (Only.refl _) (Only.trans) [(11, .pointer (some ⟨xs, 0, none⟩)), (14, .int .i64 k), (15, .pointer (some ⟨wt, 0, none⟩))] (by intro p hp; simp only [List.mem_cons, List.not_mem_nil, or_false] at hp; rcases hp with rfl | rfl | rfl <;> rfl) (by kernel_rfl) (by kernel_rfl) (by decide) (by kernel_rfl) (by kernel_rfl) ?_
              simp only [List.take_succ_cons, List.take_zero, List.drop_succ_cons, List.drop_zero]
              refine rf_val (.int .i64 k) (by first | rfl | exact ⟨by kernel_rfl, rfl⟩) (fun zA v hT hf => ?_) ?_
              · skip
                simp at hf
                go_simp
                try rfl
              refine rf_val (.pointer (some ⟨xs, 2, none⟩)) (by first | rfl | exact ⟨by kernel_rfl, rfl⟩) (fun zA v hT hf => ?_) ?_
              · skip
                simp at hf
                go_simp
                try rfl
              refine rf_val (.pointer (some ⟨xs, 2 + k * 12, none⟩)) (by first | rfl | exact ⟨by kernel_rfl, rfl⟩) (fun zA v hT hf => exec_at hk (.tmp 83) (.tmp 82) rfl (by simp at hf; simp [Act.eval, hf]) (by simp at hf; simp [Act.eval, hf])) ?_
              refine rf_val (bd.v) (by first | rfl | exact ⟨by kernel_rfl, rfl⟩) (fun zA v hT hf => exec_loads (cs := bd.cells) (g := xs) (off := 2 + k * 12) 33 (.tmp 84) rfl (by simp at hf; simp [Act.eval, hf]) Try.underlying33 info_bd (by rw [← HBD.out]; exact (HV.out v hT).2.1.body hk)) ?_
              refine rf_val (bd.v) (by first | rfl | exact ⟨by kernel_rfl, rfl⟩) (fun zA v hT hf => exec_loads (cs := bd.cells) (g := wt) (off := 0) 33 (.tmp 15) rfl (by simp at hf; simp [Act.eval, hf]) Try.underlying33 info_bd (HV.out v hT).2.2.blk.whole) ?_
              refine rf_val (.bool false) (by first | rfl | exact ⟨by kernel_rfl, rfl⟩) (fun zA v hT hf => exec_neB bd (.tmp 85) (.tmp 86) _ rfl (by simp at hf; simp [Act.eval, hf]) (by simp at hf; simp [Act.eval, hf])) ?_
              intro w9 hy
              simp only [FinA, Sp.R, forall_eq]
              simp only [Act.put, List.setIfInBounds_toArray, List.set_cons_succ, List.set_cons_zero]
              have H9 : Hid _ := And.intro (HV.out w9 hy).1 (HV.out w9 hy).2.1
              clear HV hy
              try refine wpList_nil ?_
              go_wp2_with fail
              go_roundg (17 - (k + 1))
              case measure => omega
              case rel => exact ⟨k + 1, by go_num, by omega, by omega, H9.out⟩
          · have z2 : ¬ (k : Int) < 16 := by omega
            go_wp2_with fail
            go_roundg (m + 1 - (i + 1))
            case measure => omega
            case rel => exact ⟨i + 1, by go_num, by omega, by omega, HI.out.1, HI.out.2, ST.out.2.1⟩
      · have z1 : ¬ (i : Int) < (m : Int) := by omega
        have F0 : Hid (Step.first c = Step.lostS c n 0) := Step.first_lost LEG.out.1 LEG.out.2.1
        go_upto_region 25 with fail
        have HV : Hid (∀ y, Only [] wr.drew y → Gf w y T0 xs T p c (.slice (some ⟨g, off, none⟩) rn rn) (.slice ta tn tc) (.slice oa m oc) rows ∧ Sb y xs (Step.lostS c n i)) := fun y hy => by
          have o := (only_drew wr).trans hy
          exact ⟨HH.out.1.then o, HH.out.2.1.only o (by simp)⟩
        clear HH
        obtain ⟨dd, hdd⟩ : ∃ dd, Dice.seed c.sd = dd := ⟨_, rfl⟩
        have HDD : Hid (Dice.seed c.sd = dd) := hdd
        clear hdd
        refine wp_region_free 13 (Only []) (Only.refl _) (Only.trans) [(10, .pointer (some ⟨p, 0, none⟩)), (11, .pointer (some ⟨xs, 0, none⟩))] (by intro p hp; simp only [List.mem_cons, List.not_mem_nil, or_false] at hp; rcases hp with rfl | rfl <;> rfl) (by kernel_rfl) (by kernel_rfl) (by decide) (by kernel_rfl) (by kernel_rfl) ?_
        simp only [List.take_succ_cons, List.take_zero, List.drop_succ_cons, List.drop_zero]
        refine rf_val (.pointer (some ⟨xs, 1, none⟩)) (by first | rfl | exact ⟨by kernel_rfl, rfl⟩) (fun zA v hT hf => ?_) ?_
        · skip
          simp at hf
          go_simp
          try rfl
        refine rf_val (.int .u64 dd) (by first | rfl | exact ⟨by kernel_rfl, rfl⟩) (fun zA v hT hf => ?_) ?_
        · have hc := (HV.out v hT).2.blk.cell 1; rw [show (Step.lostS c n i).cells[1]? = some (.int .u64 dd) by rw [← HDD.out]; rfl] at hc
          simp at hf
          go_simp
          try rfl
        refine rf_val (c.v (.slice (some ⟨g, off, none⟩) rn rn) (.slice ta tn tc)) (by first | rfl | exact ⟨by kernel_rfl, rfl⟩) (fun zA v hT hf => exec_ldCf (HV.out v hT).1.conf (.tmp 10) rfl (by simp at hf; simp [Act.eval, hf])) ?_
        refine rf_eff (fun _ v => v = (Step.lostS c n 0).v) (by first | rfl | exact ⟨by kernel_rfl, rfl⟩) (fun _ _ _ _ h => h) (fun z2 y hT hf => ?_) ?_
        · simp at hf
          go_simp
          refine (first_any c (HV.out y hT).1.rdT (HV.out y hT).1.sz).mono ?_
          rw [F0.out]
          rintro e y2 ⟨rfl, o⟩
          exact ⟨_, rfl, rfl, o⟩
        refine rf_val (.int .u64 dd) (by first | rfl | exact ⟨by kernel_rfl, rfl⟩) (fun zA v hT hf => exec_fieldD (s := Step.lostS c n 0) ⟨Step.lostL_len _ _, rfl⟩ HDD.out (.tmp 92) rfl (by simp at hf; simp [Act.eval, hf])) ?_
        refine rf_val (.bool true) (by first | rfl | exact ⟨by kernel_rfl, rfl⟩) (fun zA v hT hf => ?_) ?_
        · skip
          simp at hf
          go_simp
          try rfl
        refine rf_val (.bool true) (by first | rfl | exact ⟨by kernel_rfl, rfl⟩) (fun zA v hT hf => ?_) ?_
        · skip
          simp at hf
          go_simp
          try rfl
        refine rf_val (.pointer (some ⟨xs, 194, none⟩)) (by first | rfl | exact ⟨by kernel_rfl, rfl⟩) (fun zA v hT hf => ?_) ?_
        · skip
          simp at hf
          go_simp
          try rfl
        refine rf_val (.agg (nums (List.replicate 8 0)).toArray) (by first | rfl | exact ⟨by kernel_rfl, rfl⟩) (fun zA v hT hf => exec_ldSc (HV.out v hT).2 (.tmp 96) rfl (by simp at hf; simp [Act.eval, hf])) ?_
        refine rf_val (.agg (nums (List.replicate 8 0)).toArray) (by first | rfl | exact ⟨by kernel_rfl, rfl⟩) (fun zA v hT hf => by kernel_rfl) ?_
        refine rf_val (.bool true) (by first | rfl | exact ⟨by kernel_rfl, rfl⟩) (fun zA v hT hf => exec_eqScT (a := List.replicate 8 0) rfl (.tmp 97) (.tmp 98) _ rfl (by simp at hf; simp [Act.eval, hf]) (by simp at hf; simp [Act.eval, hf])) ?_
        refine rf_val (.bool true) (by first | rfl | exact ⟨by kernel_rfl, rfl⟩) (fun zA v hT hf => ?_) ?_
        · skip
          simp at hf
          go_simp
          try rfl
        refine rf_val (.bool true) (by first | rfl | exact ⟨by kernel_rfl, rfl⟩) (fun zA v hT hf => ?_) ?_
        · skip
          simp at hf
          go_simp
          try rfl
        intro w9 hy
        simp only [FinA, Sp.R, forall_eq]
        simp only [Act.put, List.setIfInBounds_toArray, List.set_cons_succ, List.set_cons_zero]
        have H9 : Hid (Only [] w w9) := (HV.out w9 hy).1.only
        clear HV hy
        try refine wpList_nil ?_
        go_wp2_with fail
        go_ret
        exact ⟨rfl, H9.out.below (Nat.le_of_eq HQ.out.symm) (by simp)⟩
set_option maxRecDepth 100000 in
theorem lifted (os : Os) (started : os.Started) (H : Type) (enc : TypeId × Value → H) :
    ReturnsInHanded {} Try.checked os 7 .any (Rows.stepFaultsSpec.pre6 enc Try.prog Try.f7 Rows.stepFaultsRow.domain false) (Rows.stepFaultsSpec.post enc Try.prog Try.f7 false true false false) := by
  refine returnsInHanded_of_change (C := Try.checked) own started (by kernel_rfl) Try.func7
    (ChangeSpec.witness6 (enc := enc) (C := Try.checked) false ⟨#[], #[.int .i64 0, .int .i64 0, .slice none 0 0, .int .i64 0], []⟩ 8 (by kernel_rfl) (by kernel_rfl) (by kernel_rfl) (by kernel_rfl)) ?_
  intro W base args ds gs before hval0 hW hcnd _
  have hval : ∀ (j : Nat) t v, Try.f7.params[j]? = some t → args[j]? = some v → Value.okWide Try.prog W .any base t v := hval0
  have hW' := hW
  obtain ⟨p, q, hA0, hV, rfl, hfz, hnd⟩ := hW
  have hA : DataW.TrodAll enc Try.prog W 0 (fun _ => true) true Try.f7.params.toList args.toList ds p := hA0
  rw [Try.params7] at hA hval
  obtain ⟨v0, vs0, d0, ds0, p0, q0, hargs, rfl, rfl, h0, r0⟩ := trodAll_cons hA
  obtain ⟨v1, vs1, d1, ds1, p1, q1, rfl, rfl, rfl, h1, r1⟩ := trodAll_cons r0
  obtain ⟨v2, vs2, d2, ds2, p2, q2, rfl, rfl, rfl, h2, r2⟩ := trodAll_cons r1
  obtain ⟨v3, vs3, d3, ds3, p3, q3, rfl, rfl, rfl, h3, r3⟩ := trodAll_cons r2
  obtain ⟨rfl, rfl, rfl⟩ := trodAll_nil r3
  obtain rfl : args = #[v0, v1, v2, v3] := by cases args; simp_all
  obtain ⟨rfl, rfl⟩ := trodVars_none hV
  obtain ⟨a0, rfl, rfl, rfl, w0⟩ := open_int Try.underlying3 (hval 0 3 v0 rfl rfl) h0
  obtain ⟨a1, rfl, rfl, rfl, w1⟩ := open_int Try.underlying3 (hval 1 3 v1 rfl rfl) h1
  have k2 := h2
  have lt2 : ∀ x ∈ p2, x.block < W.heap.size := by obtain ⟨m, hm⟩ := k2; exact DataW.trod_lt m _ _ _ hm
  obtain ⟨e2, len2, cap2, rfl⟩ := okWide_slice Try.underlying54 (hval 2 54 v2 rfl rfl)
  obtain ⟨a2, w2⟩ := came_sl (opens_slice Try.underlying54 (by kernel_rfl) (by decide) opens_ints) h2
  obtain ⟨a3, rfl, rfl, rfl, w3⟩ := open_int Try.underlying3 (hval 3 3 v3 rfl rfl) h3
  clear hA0 hval0
  refine (walk a0 a1 _ a2 a3 W w0 w1 w2 w3).mono fun e W' ⟨he, bel⟩ => ?_
  subst he
  exact ⟨_, rfl, _, _, _, [], _, [], hW', trodAll_mk1 (shut_bool Try.underlying4 _), (trodAll_cons_mk (shut_int Try.underlying3 w0) (trodAll_cons_mk (shut_int Try.underlying3 w1) (trodAll_cons_mk (Below.trod laidOut (by kernel_rfl) (of_decide_eq_true (by kernel_rfl)) k2 bel lt2) (trodAll_cons_mk (shut_int Try.underlying3 w3) trodAll_mk0)))), rfl, bel.frame _, fun h => by cases h⟩

theorem over : Rows.stepFaultsRow.holds Try.pinned (OpenSpec.ofChange Rows.stepFaultsSpec) :=
  OpenClaim.holds_of_wide 7 Try.f7 rfl rfl rfl rfl rfl rfl rfl ⟨rfl, rfl, rfl, rfl, rfl⟩ rfl rfl rfl rfl rfl (by kernel_rfl) Try.func7 (by kernel_rfl)
    (of_decide_eq_true (by kernel_rfl)) (by unfold Func.isWrapper; first | (rw [if_pos (by decide +kernel)]; kernel_rfl) | (rw [if_neg (by decide +kernel)]; exact ⟨rfl, rfl⟩))
    (fun os started H enc _ => lifted os started H enc)

/-- THE STATEMENT -/
theorem proved : Rows.StepFaultsSaid := over
end Go.Proofs.Ytngbannidbijmaa.stepFaults

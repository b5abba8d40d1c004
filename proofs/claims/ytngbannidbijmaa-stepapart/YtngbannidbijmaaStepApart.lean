/- StepApart: what one player presses turns nothing of another one's body. For every seed, rows, other rows and slot; nothing is assumed of them. -/
import Derived.Test.YtngbannidbijmaaGStepLw
import Derived.Test.YtngbannidbijmaaGStepFl
namespace Go.Proofs.Ytngbannidbijmaa.stepApart
open Go.ChangeShapes Go.WideShapes Go.ChangeAt Go.RowKit Go.Deep
set_option linter.unusedVariables false
set_option linter.unusedSimpArgs false

/-- rows of four, as they lie: beside two states -/
def Rws (xs xt T : Nat) (W : World) (ov : Value) (rows : List (List Cl)) : Prop := ∀ (i : Nat) (row : List Cl), rows[i]? = some row → ∃ b off cap g, ov = .slice (some ⟨b, off, none⟩) rows.length cap ∧ (b ≠ xs ∧ b ≠ xt ∧ b < T) ∧ W.cell? ⟨b, off + i, none⟩ = some (.slice (some ⟨g, 0, none⟩) row.length row.length) ∧ row.length ≤ 8 ∧ (g ≠ xs ∧ g ≠ xt ∧ g < T) ∧ Blk W g (elC.flat row)
theorem Rws.off {xs xt T : Nat} {W W' : World} {ov : Value} {rows : List (List Cl)} (h : Rws xs xt T W ov rows) (hT : T ≤ W.heap.size) {S : List Nat} (o : Only S W W') (hS : ∀ x ∈ S, x = xs ∨ x = xt ∨ T ≤ x) : Rws xs xt T W' ov rows := fun i row hr => by
  obtain ⟨b, off, cap, g, k1, k2, k3, k4, k5, k6⟩ := h i row hr
  exact ⟨b, off, cap, g, k1, k2, (o.cell (p := ⟨b, off + i, none⟩) (by show b < _; omega) (fun m => by have := hS b m; omega)).trans k3, k4, k5, k6.only o (fun m => by have := hS _ m; omega)⟩
theorem Rws.more {xs xt T T' : Nat} {W : World} {ov : Value} {rows : List (List Cl)} (h : Rws xs xt T W ov rows) (hT : T ≤ T') : Rws xs xt T' W ov rows := fun i row hr => by
  obtain ⟨b, off, cap, g, k1, k2, k3, k4, k5, k6⟩ := h i row hr
  exact ⟨b, off, cap, g, k1, ⟨k2.1, k2.2.1, by omega⟩, k3, k4, ⟨k5.1, k5.2.1, by omega⟩, k6⟩
theorem rws_of {w0 W : World} {B xs xt : Nat} {lv ov : Value} {ls : List (List Int)} {ss : List Sl} {rows : List (List Cl)} {s t : Gs} (h : Hrs w0 W B lv ov ls ss rows) (h1 : xs < w0.heap.size) (h2 : xt < w0.heap.size) (hs : Sb W xs s) (ht : Sb W xt t) : Rws xs xt W.heap.size W ov rows := fun i row hr => by
  obtain ⟨b, off, cap, g, k1, k2, k3, k4, k5, k6⟩ := h.at_ i row hr
  exact ⟨b, off, cap, g, k1, ⟨by omega, by omega, k3⟩, k4, k5, ⟨sb_ne hs k6 k5, sb_ne ht k6 k5, k6.lt⟩, k6⟩
/-- where it stands -/
structure Ga (w W : World) (p xs xt T : Nat) (c : Cf) (rv tv ova ovb : Value) (ra rb : List (List Cl)) : Prop where
  conf : Cb W p c rv tv
  rd : Rd p W c rv tv
  a : Rws xs xt T W ova ra
  b : Rws xs xt T W ovb rb
  only : Only [] w W
  le : w.heap.size ≤ p
  lt : p < xs ∧ xs < xt ∧ xt < T
  sz : T ≤ W.heap.size
theorem Ga.off {w W W' : World} {p xs xt T : Nat} {c : Cf} {rv tv ova ovb : Value} {ra rb : List (List Cl)} (h : Ga w W p xs xt T c rv tv ova ovb ra rb) {S : List Nat} (o : Only S W W') (hS : ∀ x ∈ S, x = xs ∨ x = xt ∨ T ≤ x) : Ga w W' p xs xt T c rv tv ova ovb ra rb := by
  have h1 := h.lt
  have h2 := h.le
  have h5 := h.sz
  exact ⟨h.conf.only o (fun m => by have := hS _ m; omega), h.rd.only o (fun g hg => by have := hS g hg; omega), h.a.off h.sz o hS, h.b.off h.sz o hS, h.only.then o (fun x hx hl => by have := hS x hx; omega), h.le, h.lt, Nat.le_trans h.sz o.size⟩
theorem Ga.then {w W W' : World} {p xs xt T : Nat} {c : Cf} {rv tv ova ovb : Value} {ra rb : List (List Cl)} (h : Ga w W p xs xt T c rv tv ova ovb ra rb) (o : Only [] W W') : Ga w W' p xs xt T c rv tv ova ovb ra rb := h.off o (by simp)
/-- one row of four, where it lies -/
structure Rw1 (xs xt T b o g : Nat) (W : World) (row : List Cl) : Prop where
  cell : W.cell? ⟨b, o, none⟩ = some (.slice (some ⟨g, 0, none⟩) 4 4)
  blk : Blk W g (elC.flat row)
  nb : b ≠ xs ∧ b ≠ xt ∧ b < T
  ng : g ≠ xs ∧ g ≠ xt ∧ g < T
  sz : T ≤ W.heap.size
theorem Rw1.off {xs xt T b o g : Nat} {W W' : World} {row : List Cl} (h : Rw1 xs xt T b o g W row) {S : List Nat} (k : Only S W W') (hS : ∀ x ∈ S, x = xs ∨ x = xt ∨ T ≤ x) : Rw1 xs xt T b o g W' row := by
  have h1 := h.nb
  have h2 := h.ng
  have h3 := h.sz
  exact ⟨(k.cell (p := ⟨b, o, none⟩) (by show b < _; omega) (fun m => by have := hS b m; omega)).trans h.cell, h.blk.only k (fun m => by have := hS _ m; omega), h1, h2, Nat.le_trans h3 k.size⟩
theorem Rw1.then {xs xt T b o g : Nat} {W W' : World} {row : List Cl} (h : Rw1 xs xt T b o g W row) (k : Only [] W W') : Rw1 xs xt T b o g W' row := h.off k (by simp)
theorem Rws.get {xs xt T : Nat} {W : World} {a : Option Addr} {m cap : Nat} {rows : List (List Cl)} (h : Rws xs xt T W (.slice a m cap) rows) (hT : T ≤ W.heap.size) {i : Nat} {row : List Cl} (hr : rows[i]? = some row) (h4 : row.length = 4) : ∃ b off g, a = some ⟨b, off, none⟩ ∧ Rw1 xs xt T b (off + i) g W row := by
  obtain ⟨b, off, cap', g, k1, k2, k3, k4, k5, k6⟩ := h i row hr
  injection k1 with e1 _ _
  rw [h4] at k3
  exact ⟨b, off, g, e1, k3, k6, k2, k5, hT⟩
theorem rdc_of_rw1 {xs xt T b o g : Nat} {W : World} {row : List Cl} (h : Rw1 xs xt T b o g W row) (h4 : row.length = 4) : RdC T W (.slice (some ⟨g, 0, none⟩) 4 4) row := by
  have := rdc_blk (cap := 4) (B := T) (xs := row) (ys := []) (by rw [List.append_nil]; exact h.blk) (by omega) (by omega) h.ng.2.2
  rwa [h4] at this
theorem flat_cell {W : World} {g k : Nat} {row : List Cl} {c : Cl} {ys : List Value} (h : Blk W g (elC.flat row ++ ys)) (hc : row[k]? = some c) : ∀ j v, c.cells[j]? = some v → W.cell? ⟨g, 0 + k * 4 + j, none⟩ = some v := fun j v hj => by
  have hj4 : j < 4 := by have := (List.getElem?_eq_some_iff.1 hj).1; simpa [Cl.cells] using this
  have e := elC_ok.flat_get row k c hc j hj4
  have hl := elC_ok.flat_len row
  have hk := (List.getElem?_eq_some_iff.1 hc).1
  rw [h.cell, show 0 + k * 4 + j = k * 4 + j by omega, List.getElem?_append_left (by rw [hl]; show k * 4 + j < row.length * 4; omega)]
  exact e.trans hj
def cfS (n : Nat) (sd : Int) (rules : List Op3) : Cf := ⟨n, 1, 0, 0, 50, sd, 4607182418800017408, 4617315517961601024, rules, nats n⟩
theorem cf_legal {sd : Int} (hs : 0 ≤ sd ∧ sd < 1000) : Step.legal (cfS 4 sd Step.ownR) = true := by
  unfold Step.legal cfS
  have t : Step.tokens (nats 4) 4 = true := by decide
  have r1 : Step.rate 4607182418800017408 = true := by kernel_rfl
  have d1 : Step.depth 4617315517961601024 = true := by kernel_rfl
  have hr : Rule.right Step.ownR = true := by decide
  simp only [Bool.and_eq_true, Body.btw, decide_eq_true_eq, nats_len]
  exact ⟨by omega, by omega, by omega, by omega, by omega, by omega, r1, d1, hr, trivial, t⟩
theorem input_set {row : List Cl} {k : Nat} {c : Cl} {row2 : List Cl} (h1 : k < row.length) (h2 : row2[k]? = some c) : Step.input (row.set k c) (k : Nat) = Step.input row2 (k : Nat) := by
  have h3 := (List.getElem?_eq_some_iff.1 h2).1
  rw [input_at (cl := c) (by rw [List.length_set]; exact h1) (by simp [List.getD_eq_getElem?_getD, h1]), input_at (cl := c) h3 (by simp [List.getD_eq_getElem?_getD, h2])]
theorem exec_neB {w : World} {o : Oper} {act : Act} (b : Bd) (x y : Operand) (r : TypeId) (ho : o.op = .binOp .neq 33 x y r) (hx : act.eval x = b.v) (hy : act.eval y = b.v) : (execOp act.eval o).run Try.prog w = .ok (.value (.bool false)) w := by
  have e := eq_in w 9997 b b
  have hg : ∀ a b : Array Value, (eqGuard .neq 33 x y (.agg a) (.agg b)).run Try.prog w = .ok () w := fun a b => by
    have hg : Try.prog.eqGuardType Try.prog.depth 33 = false := by kernel_rfl
    unfold eqGuard
    simp [hg]
  simp only [execOp, ho, hx, hy, Sem.run_bind, hg, Result.andThen_ok, binOp, Op.equal, Op.maxDepth, e, Sem.run_pure]
  simp
theorem exec_u64 {w : World} {o : Oper} {act : Act} {a : Addr} {n : Int} (x : Operand) (ho : o.op = .load 30 x) (hx : act.eval x = .pointer (some a)) (h : w.cell? a = some (.int .u64 n)) : (execOp act.eval o).run Try.prog w = .ok (.value (.int .u64 n)) w := by
  simp only [execOp, ho, hx]
  go_simp
set_option maxRecDepth 100000 in
set_option maxHeartbeats 4000000 in
theorem walk (a0 : Int) (s1 : Value) (a1 : List (List Int)) (s2 : Value) (a2 : List (List Int)) (a3 : Int) (w : World) (w0 : (Lit.int .i64 a0).wf = true) (w1 : RdG 1 rInts w.heap.size w s1 a1) (w2 : RdG 1 rInts w.heap.size w s2 a2) (w3 : (Lit.int .i64 a3).wf = true) :
    Calls Try.prog 6 #[.int .i64 a0, s1, s2, .int .i64 a3] w fun e w' => e = .returned (.bool true) ∧ Below w.heap.size w w' := by
  have hnot : ∀ (x : Bool) (w : World), (Op.unary .not (.bool x)).run Try.prog w = .ok (.bool (!x)) w := fun _ _ => rfl
  obtain ⟨q, hq⟩ : ∃ q, w.heap.size = q := ⟨_, rfl⟩
  have H0 : Hid (RdG 1 rInts q w s1 a1 ∧ RdG 1 rInts q w s2 a2) := ⟨hq ▸ w1, hq ▸ w2⟩
  have HQ : Hid (w.heap.size = q) := hq
  clear w0 w1 w2 w3
  rw [hq]
  go_enter Try.func6, Try.ntmps6
  go_upto_region 1 with fail
  apply wp_region_lit
  refine op_val (w' := w) rfl (Op3.v ⟨7, 0, 5⟩) (by kernel_rfl) ?_
  simp only [Act.put, List.setIfInBounds_toArray, List.set_cons_succ, List.set_cons_zero]
  refine op_val (w' := w) rfl (Op3.v ⟨3, 1, 0⟩) (by kernel_rfl) ?_
  simp only [Act.put, List.setIfInBounds_toArray, List.set_cons_succ, List.set_cons_zero]
  refine op_val (w' := w) rfl (Op3.v ⟨8, 3, 1⟩) (by kernel_rfl) ?_
  simp only [Act.put, List.setIfInBounds_toArray, List.set_cons_succ, List.set_cons_zero]
  refine op_val (w' := w.alloc (.cells (flatO Step.ownR).toArray 23)) rfl (.slice (some ⟨w.heap.size, 0, none⟩) 3 3) (by kernel_rfl) ?_
  simp only [Act.put, List.setIfInBounds_toArray, List.set_cons_succ, List.set_cons_zero]
  have hg := Blk.new w (flatO Step.ownR).toArray 23
  have o1 : Only [] w (w.alloc (.cells (flatO Step.ownR).toArray 23)) := (Only.refl _ _).alloc _
  refine op_call (F := 10) (args := #[.int .i64 4, .slice (some ⟨w.heap.size, 0, none⟩) 3 3]) (w1 := w.alloc (.cells (flatO Step.ownR).toArray 23)) rfl (by kernel_rfl) ?_
  refine (one_any (B := w.heap.size + 1) (rules := Step.ownR) 4 (by decide) (RdO.of_blk hg (by omega) (Nat.le_refl _)) (by decide) (by simp)).mono ?_
  rintro e W2 ⟨ta, tn, tc, rfl, RD, -, o⟩
  refine ⟨_, rfl, ?_⟩
  rw [hq]
  have H2 : Hid (RdG 1 rInts q W2 s1 a1 ∧ RdG 1 rInts q W2 s2 a2 ∧ Only [] w W2 ∧ Rd W2.heap.size W2 (cf1 4 Step.ownR) (.slice (some ⟨q, 0, none⟩) 3 3) (.slice ta tn tc) ∧ q < W2.heap.size) := ⟨H0.out.1.only rInts_st (o1.trans o) (by simp), H0.out.2.only rInts_st (o1.trans o) (by simp), o1.trans o, by rw [← hq]; exact RD, by have := o.size; simp at this; omega⟩
  clear H0 hg o1 RD o hq
  simp only [Act.put, List.setIfInBounds_toArray, List.set_cons_succ, List.set_cons_zero]
  refine op_val (w' := W2.alloc (.cells (Cf.zero.cells (.slice none 0 0) (.slice none 0 0)).toArray 28)) rfl (.pointer (some ⟨W2.heap.size, 0, none⟩)) (by kernel_rfl) ?_
  simp only [Act.put, List.setIfInBounds_toArray, List.set_cons_succ, List.set_cons_zero]
  obtain ⟨p, hp⟩ : ∃ p, W2.heap.size = p := ⟨_, rfl⟩
  rw [hp]
  refine op_storeCf (p := p) (c := cfS 4 0 Step.ownR) (ra := some ⟨q, 0, none⟩) (rn := 3) (rc := 3) (ta := ta) (tn := tn) (tc := tc) rfl (cb_new hp _) (.tmp 9) (.tmp 20) rfl (by kernel_rfl) (by kernel_rfl) ?_
  intro W3 hb o3 hz
  have o23 : Only [] W2 W3 := ((Only.refl [] W2).alloc _).then o3 (fun x hx hl => by have h2 : x = p := (by simpa using hx); omega)
  have H3 : Hid (Cb W3 p (cfS 4 0 Step.ownR) (.slice (some ⟨q, 0, none⟩) 3 3) (.slice ta tn tc) ∧ Rd p W3 (cf1 4 Step.ownR) (.slice (some ⟨q, 0, none⟩) 3 3) (.slice ta tn tc) ∧ RdG 1 rInts q W3 s1 a1 ∧ RdG 1 rInts q W3 s2 a2 ∧ Only [] w W3 ∧ q < p) := by
    obtain ⟨k1, k2, k3, k4, k5⟩ := H2.out
    rw [hp] at k4 k5
    exact ⟨hb, k4.only o23 (by simp), k1.only rInts_st o23 (by simp), k2.only rInts_st o23 (by simp), k3.trans o23, k5⟩
  clear H2 hb o3 hz o23 hp
  simp only [Act.put, List.setIfInBounds_toArray, List.set_cons_succ, List.set_cons_zero]
  refine wpList_nil ?_
  obtain ⟨sd, hsd⟩ : ∃ sd, a0 % 1000 = sd := ⟨_, rfl⟩
  have HSD : Hid (0 ≤ sd ∧ sd < 1000) := ⟨by omega, by omega⟩
  go_upto_region 2 with fail
  apply wp_region_lit
  refine op_val (w' := W3) rfl (.int .i64 a0) (by kernel_rfl) ?_
  simp only [Act.put, List.setIfInBounds_toArray, List.set_cons_succ, List.set_cons_zero]
  refine op_call (F := 24) (args := #[.int .i64 a0, .int .i64 1000]) (w1 := W3) rfl (by kernel_rfl) ?_
  refine (pick_any _ _ (by omega) (by omega) _).mono ?_
  rintro e W4 ⟨rfl, rfl⟩
  refine ⟨_, rfl, ?_⟩
  rw [hsd]
  clear hsd
  simp only [Act.put, List.setIfInBounds_toArray, List.set_cons_succ, List.set_cons_zero]
  refine op_val (w' := W3) rfl (.pointer (some ⟨p, 5, none⟩)) (by kernel_rfl) ?_
  simp only [Act.put, List.setIfInBounds_toArray, List.set_cons_succ, List.set_cons_zero]
  refine op_store1 rfl 3 (.tmp 23) (.tmp 22) rfl 5 (v := .int .i64 sd) (by kernel_rfl) (by kernel_rfl) H3.out.1.blk (by kernel_rfl) (by simp [Cf.cells]) rfl rfl ?_
  intro W4 hb o4 hz4
  obtain ⟨c, hc⟩ : ∃ c, cfS 4 sd Step.ownR = c := ⟨_, rfl⟩
  have LEG : Hid (Step.legal c = true ∧ c.pl = 4 ∧ c.rules = Step.ownR) := by rw [← hc]; exact ⟨cf_legal HSD.out, rfl, rfl⟩
  have H4 : Hid (Cb W4 p c (.slice (some ⟨q, 0, none⟩) 3 3) (.slice ta tn tc) ∧ Rd p W4 c (.slice (some ⟨q, 0, none⟩) 3 3) (.slice ta tn tc) ∧ RdG 1 rInts q W4 s1 a1 ∧ RdG 1 rInts q W4 s2 a2 ∧ Only [] w W4 ∧ q < p) := by
    obtain ⟨k1, k2, k3, k4, k5, k6⟩ := H3.out
    have hS : ∀ g ∈ [p], q ≤ g := fun g hg => by have h2 : g = p := (by simpa using hg); omega
    have hS2 : ∀ g ∈ [p], p ≤ g := fun g hg => by have h2 : g = p := (by simpa using hg); omega
    have k2' := k2.only o4 hS2
    rw [← hc]
    exact ⟨⟨hb⟩, ⟨k2'.r, k2'.t, k2'.lr, k2'.lt⟩, k3.only rInts_st o4 hS, k4.only rInts_st o4 hS, k5.then o4 (fun x hx hl => by have h2 : x = p := (by simpa using hx); have := HQ.out; omega), k6⟩
  clear hb o4 hz4 H3 hc HSD
  simp only [Act.put, List.setIfInBounds_toArray, List.set_cons_succ, List.set_cons_zero]
  refine wpList_nil ?_
  obtain ⟨sl, hsl⟩ : ∃ sl : Nat, a3 % 4 = sl := ⟨(a3 % 4).toNat, by omega⟩
  have hsl4 : sl < 4 := by omega
  go_upto_region 3 with fail
  apply wp_region_lit
  refine op_val (w' := W4) rfl (.int .i64 a3) (by kernel_rfl) ?_
  simp only [Act.put, List.setIfInBounds_toArray, List.set_cons_succ, List.set_cons_zero]
  refine op_call (F := 24) (args := #[.int .i64 a3, .int .i64 4]) (w1 := W4) rfl (by kernel_rfl) ?_
  refine (pick_any _ _ (by omega) (by omega) _).mono ?_
  rintro e W5 ⟨rfl, rfl⟩
  refine ⟨_, rfl, ?_⟩
  rw [hsl]
  clear hsl
  simp only [Act.put, List.setIfInBounds_toArray, List.set_cons_succ, List.set_cons_zero]
  refine op_val (w' := W4) rfl (.int .i64 sl) (by kernel_rfl) ?_
  simp only [Act.put, List.setIfInBounds_toArray, List.set_cons_succ, List.set_cons_zero]
  refine wpList_nil ?_
  have Q0 : Hid (Step.Quiet c (Step.first c)) := Step.first_quiet LEG.out.1 LEG.out.2.1 LEG.out.2.2
  obtain ⟨s, hs⟩ : ∃ s, Step.first c = s := ⟨_, rfl⟩
  have HS : Hid (Step.first c = s) := hs
  rw [hs] at Q0
  clear hs
  have WF : Hid (Step.Wf s) := ⟨Q0.out.ok.b.len, Q0.out.ok.s.len⟩
  go_upto_region 4 with fail
  apply wp_region_lit
  refine opg_loadC (p := p) (by kernel_rfl) (.tmp 9) rfl (by kernel_rfl) H4.out.1.blk.whole ?_
  simp only [Act.put, List.setIfInBounds_toArray, List.set_cons_succ, List.set_cons_zero]
  refine op_call (F := 11) (args := #[c.v (.slice (some ⟨q, 0, none⟩) 3 3) (.slice ta tn tc)]) (w1 := W4) rfl (by kernel_rfl) ?_
  refine (first_any c H4.out.2.1 (Nat.le_of_lt H4.out.1.blk.lt)).mono ?_
  rintro e W5 ⟨rfl, o⟩
  refine ⟨_, rfl, ?_⟩
  rw [HS.out]
  simp only [Act.put, List.setIfInBounds_toArray, List.set_cons_succ, List.set_cons_zero]
  obtain ⟨xs, hxs⟩ : ∃ xs, W5.heap.size = xs := ⟨_, rfl⟩
  refine op_val (w' := W5.alloc (.cells Step.zero.cells.toArray 37)) rfl (.pointer (some ⟨W5.heap.size, 0, none⟩)) (by kernel_rfl) ?_
  simp only [Act.put, List.setIfInBounds_toArray, List.set_cons_succ, List.set_cons_zero]
  rw [hxs]
  refine op_storeS (p := xs) (s := s) rfl (sb_at hxs Step.zero_wf _) WF.out (.tmp 10) (.tmp 27) rfl (by kernel_rfl) (by kernel_rfl) ?_
  intro W6 hb o6 hz
  have o46 : Only [] W4 W6 := o.trans (((Only.refl [] W5).alloc _).then o6 (fun x hx hl => by have h2 : x = xs := (by simpa using hx); omega))
  have H6 : Hid (Cb W6 p c (.slice (some ⟨q, 0, none⟩) 3 3) (.slice ta tn tc) ∧ Rd p W6 c (.slice (some ⟨q, 0, none⟩) 3 3) (.slice ta tn tc) ∧ RdG 1 rInts q W6 s1 a1 ∧ RdG 1 rInts q W6 s2 a2 ∧ Only [] w W6 ∧ q < p ∧ Sb W6 xs s ∧ p < xs) := by
    obtain ⟨k1, k2, k3, k4, k5, k6⟩ := H4.out
    exact ⟨k1.only o46 (by simp), k2.only o46 (by simp), k3.only rInts_st o46 (by simp), k4.only rInts_st o46 (by simp), k5.trans o46, k6, hb, by have := k1.blk.lt; have := o.size; omega⟩
  clear H4 hb o o6 hz hxs o46
  simp only [Act.put, List.setIfInBounds_toArray, List.set_cons_succ, List.set_cons_zero]
  refine wpList_nil ?_
  go_upto_region 5 with fail
  apply wp_region_lit
  refine opg_loadC (p := p) (by kernel_rfl) (.tmp 9) rfl (by kernel_rfl) H6.out.1.blk.whole ?_
  simp only [Act.put, List.setIfInBounds_toArray, List.set_cons_succ, List.set_cons_zero]
  refine op_call (F := 11) (args := #[c.v (.slice (some ⟨q, 0, none⟩) 3 3) (.slice ta tn tc)]) (w1 := W6) rfl (by kernel_rfl) ?_
  refine (first_any c H6.out.2.1 (Nat.le_of_lt H6.out.1.blk.lt)).mono ?_
  rintro e W7 ⟨rfl, o⟩
  refine ⟨_, rfl, ?_⟩
  rw [HS.out]
  simp only [Act.put, List.setIfInBounds_toArray, List.set_cons_succ, List.set_cons_zero]
  obtain ⟨xt, hxt⟩ : ∃ xt, W7.heap.size = xt := ⟨_, rfl⟩
  refine op_val (w' := W7.alloc (.cells Step.zero.cells.toArray 37)) rfl (.pointer (some ⟨W7.heap.size, 0, none⟩)) (by kernel_rfl) ?_
  simp only [Act.put, List.setIfInBounds_toArray, List.set_cons_succ, List.set_cons_zero]
  rw [hxt]
  refine op_storeS (p := xt) (s := s) rfl (sb_at hxt Step.zero_wf _) WF.out (.tmp 11) (.tmp 29) rfl (by kernel_rfl) (by kernel_rfl) ?_
  intro W8 hb o8 hz
  have o68 : Only [] W6 W8 := o.trans (((Only.refl [] W7).alloc _).then o8 (fun x hx hl => by have h2 : x = xt := (by simpa using hx); omega))
  have H8 : Hid (Cb W8 p c (.slice (some ⟨q, 0, none⟩) 3 3) (.slice ta tn tc) ∧ Rd p W8 c (.slice (some ⟨q, 0, none⟩) 3 3) (.slice ta tn tc) ∧ RdG 1 rInts q W8 s1 a1 ∧ RdG 1 rInts q W8 s2 a2 ∧ Only [] w W8 ∧ q < p ∧ Sb W8 xs s ∧ p < xs ∧ Sb W8 xt s ∧ xs < xt) := by
    obtain ⟨k1, k2, k3, k4, k5, k6, k7, k8⟩ := H6.out
    exact ⟨k1.only o68 (by simp), k2.only o68 (by simp), k3.only rInts_st o68 (by simp), k4.only rInts_st o68 (by simp), k5.trans o68, k6, k7.only o68 (by simp), k8, hb, by have := k7.blk.lt; have := o.size; omega⟩
  clear H6 hb o o8 hz hxt o68
  simp only [Act.put, List.setIfInBounds_toArray, List.set_cons_succ, List.set_cons_zero]
  refine wpList_nil ?_
  go_upto_region 6 with fail
  apply wp_region_lit
  refine op_val (w' := W8) rfl (s1) (by kernel_rfl) ?_
  simp only [Act.put, List.setIfInBounds_toArray, List.set_cons_succ, List.set_cons_zero]
  refine op_call (F := 20) (args := #[.int .i64 4, s1]) (w1 := W8) rfl (by kernel_rfl) ?_
  refine (hrows_any 4 (by decide) H8.out.2.2.1 (by have := H8.out.1.blk.lt; have := H8.out.2.2.2.2.2.1; omega)).mono ?_
  rintro e W9 ⟨ova, ssa, rfl, HA⟩
  refine ⟨_, rfl, ?_⟩
  obtain ⟨oaa, oca, hova, -, -⟩ := HA.own.form
  rw [HA.len] at hova
  have H9 : Hid (Cb W9 p c (.slice (some ⟨q, 0, none⟩) 3 3) (.slice ta tn tc) ∧ Rd p W9 c (.slice (some ⟨q, 0, none⟩) 3 3) (.slice ta tn tc) ∧ RdG 1 rInts q W9 s2 a2 ∧ Only [] w W9 ∧ q < p ∧ Sb W9 xs s ∧ p < xs ∧ Sb W9 xt s ∧ xs < xt ∧ Rws xs xt W9.heap.size W9 ova (hrows 4 a1)) := by
    obtain ⟨k1, k2, k3, k4, k5, k6, k7, k8, k9, k10⟩ := H8.out
    exact ⟨k1.only HA.only (by simp), k2.only HA.only (by simp), k4.only rInts_st HA.only (by simp), k5.trans HA.only, k6, k7.only HA.only (by simp), k8, k9.only HA.only (by simp), k10, rws_of HA k7.blk.lt k9.blk.lt (k7.only HA.only (by simp)) (k9.only HA.only (by simp))⟩
  clear H8 HA
  subst hova
  simp only [Act.put, List.setIfInBounds_toArray, List.set_cons_succ, List.set_cons_zero]
  refine op_val (w' := W9) rfl (.slice oaa (hrows 4 a1).length oca) (by kernel_rfl) ?_
  simp only [Act.put, List.setIfInBounds_toArray, List.set_cons_succ, List.set_cons_zero]
  refine wpList_nil ?_
  go_upto_region 7 with fail
  apply wp_region_lit
  refine op_val (w' := W9) rfl (s2) (by kernel_rfl) ?_
  simp only [Act.put, List.setIfInBounds_toArray, List.set_cons_succ, List.set_cons_zero]
  refine op_call (F := 20) (args := #[.int .i64 4, s2]) (w1 := W9) rfl (by kernel_rfl) ?_
  refine (hrows_any 4 (by decide) H9.out.2.2.1 (by have := H9.out.1.blk.lt; have := H9.out.2.2.2.2.1; omega)).mono ?_
  rintro e W10 ⟨ovb, ssb, rfl, HB⟩
  refine ⟨_, rfl, ?_⟩
  obtain ⟨oab, ocb, hovb, -, -⟩ := HB.own.form
  rw [HB.len] at hovb
  obtain ⟨T, hT⟩ : ∃ T, W10.heap.size = T := ⟨_, rfl⟩
  have H10 : Hid (Ga w W10 p xs xt T c (.slice (some ⟨q, 0, none⟩) 3 3) (.slice ta tn tc) (.slice oaa (hrows 4 a1).length oca) ovb (hrows 4 a1) (hrows 4 a2) ∧ Sb W10 xs s ∧ Sb W10 xt s) := by
    obtain ⟨k1, k2, k3, k4, k5, k6, k7, k8, k9, k10⟩ := H9.out
    have hb1 := k6.only HB.only (by simp)
    have hb2 := k8.only HB.only (by simp)
    refine ⟨⟨k1.only HB.only (by simp), k2.only HB.only (by simp), (k10.off (Nat.le_refl _) HB.only (by simp)).more (by have := HB.only.size; omega), hT ▸ rws_of HB k6.blk.lt k8.blk.lt hb1 hb2, k4.trans HB.only, by have := HQ.out; omega, ⟨k7, k9, by have := hb2.blk.lt; omega⟩, by omega⟩, hb1, hb2⟩
  clear H9 HB hT
  subst hovb
  obtain ⟨rA, hrA⟩ : ∃ r, hrows 4 a1 = r := ⟨_, rfl⟩
  obtain ⟨rB, hrB⟩ : ∃ r, hrows 4 a2 = r := ⟨_, rfl⟩
  have L4 : Hid ((∀ row ∈ rA, row.length = 4) ∧ (∀ row ∈ rB, row.length = 4) ∧ rA.length ≤ 40 ∧ rB.length ≤ 40) := by
    rw [← hrA, ← hrB]
    refine ⟨fun row h => ?_, fun row h => ?_, by simp [hrows]; omega, by simp [hrows]; omega⟩
    · obtain ⟨l, _, rfl⟩ := List.mem_map.1 h; exact hrowTo_len _ _ _
    · obtain ⟨l, _, rfl⟩ := List.mem_map.1 h; exact hrowTo_len _ _ _
  rw [hrA, hrB] at H10
  rw [hrA, hrB]
  obtain ⟨ma, hma⟩ : ∃ m, rA.length = m := ⟨_, rfl⟩
  obtain ⟨mb, hmb⟩ : ∃ m, rB.length = m := ⟨_, rfl⟩
  have HML : Hid (rA.length = ma ∧ rB.length = mb ∧ ma ≤ 40 ∧ mb ≤ 40) := ⟨hma, hmb, by rw [← hma]; exact L4.out.2.2.1, by rw [← hmb]; exact L4.out.2.2.2⟩
  have hma40 := HML.out.2.2.1
  have hmb40 := HML.out.2.2.2
  rw [hma, hmb] at H10
  rw [hma, hmb]
  clear hrA hrB hma hmb
  simp only [Act.put, List.setIfInBounds_toArray, List.set_cons_succ, List.set_cons_zero]
  refine op_val (w' := W10) rfl (.slice oab mb ocb) (by kernel_rfl) ?_
  simp only [Act.put, List.setIfInBounds_toArray, List.set_cons_succ, List.set_cons_zero]
  refine wpList_nil ?_
  go_wp2_with fail
  go_loopg [14, 15, 36] (ma + 1) (fun gk v14 v15 vi wr => ∃ i : Nat, vi = .int .i64 i ∧ i ≤ ma ∧ ma + 1 - i ≤ gk ∧ Hid (∃ s t, Ga w wr p xs xt T c (.slice (some ⟨q, 0, none⟩) 3 3) (.slice ta tn tc) (.slice oaa ma oca) (.slice oab mb ocb) rA rB ∧ Sb wr xs s ∧ Sb wr xt t ∧ Step.Quiet c s ∧ Step.Quiet c t ∧ s.d = t.d ∧ s.bs.getD sl Body.zero = t.bs.getD sl Body.zero))
  case atStart => exact ⟨0, rfl, by omega, by omega, s, s, H10.out.1, H10.out.2.1, H10.out.2.2, Q0.out, Q0.out, rfl, rfl⟩
  case round =>
    clear H10 Q0 WF HS
    obtain ⟨i, rfl, hi, hgk, HH⟩ := hrel
    obtain ⟨s, t, HH⟩ := HH.out
    have HH : Hid _ := HH
    by_cases hl : i < ma
    · have z1 : (i : Int) < (ma : Int) := by omega
      obtain ⟨rowA, hrowA⟩ : ∃ row, rA[i]? = some row := ⟨_, List.getElem?_eq_getElem (by rw [HML.out.1]; exact hl)⟩
      have hA4 : rowA.length = 4 := L4.out.1 rowA (List.mem_of_getElem? hrowA)
      obtain ⟨b, off, g, hv, R1⟩ := HH.out.1.a.get HH.out.1.sz hrowA hA4
      subst hv
      have HRA : Hid (rowA.length = 4) := hA4
      have HR1 : Hid (Rw1 xs xt T b (off + i) g wr rowA) := R1
      obtain ⟨s', hs'⟩ : ∃ s', Step.step c s rowA = s' := ⟨_, rfl⟩
      have QS : Hid (Step.step c s rowA = s' ∧ Step.Quiet c s' ∧ s'.d = s.d ∧ s'.bs.getD sl Body.zero = Step.ownN (s.bs.getD sl Body.zero) (Step.input rowA (sl : Nat)) ∧ Step.Wf s ∧ Step.Wf s') := by
        obtain ⟨h1, h2, h3⟩ := Step.quiet_step HH.out.2.2.2.1 rowA
        rw [hs'] at h1 h2 h3
        exact ⟨hs', h1, h2, h3 sl hsl4, HH.out.2.1.wf, ⟨h1.ok.b.len, h1.ok.s.len⟩⟩
      have QT : Hid (Step.Quiet c t ∧ s.d = t.d ∧ s.bs.getD sl Body.zero = t.bs.getD sl Body.zero ∧ Step.Wf t) := ⟨HH.out.2.2.2.2.1, HH.out.2.2.2.2.2.1, HH.out.2.2.2.2.2.2, HH.out.2.2.1.wf⟩
      have LX : Hid (p < xs ∧ xs < xt ∧ xt < T) := HH.out.1.lt
      clear hs' hrowA hA4 R1
      go_upto_region 11 with fail
      have HV : Hid (∀ y, Only [] wr.drew y → Ga w y p xs xt T c (.slice (some ⟨q, 0, none⟩) 3 3) (.slice ta tn tc) (.slice (some ⟨b, off, none⟩) ma oca) (.slice oab mb ocb) rA rB ∧ Sb y xs s ∧ Sb y xt t ∧ Rw1 xs xt T b (off + i) g y rowA) := fun y hy => by
        have o := (only_drew wr).trans hy
        exact ⟨HH.out.1.then o, HH.out.2.1.only o (by simp), HH.out.2.2.1.only o (by simp), HR1.out.then o⟩
      clear HH HR1
      refine wp_region_free 7 (Only []) (Only.refl _) (Only.trans) [(9, .pointer (some ⟨p, 0, none⟩)), (10, .pointer (some ⟨xs, 0, none⟩)), (12, .slice (some ⟨b, off, none⟩) ma oca), (14, .int .i64 i)] (by intro p hp; simp only [List.mem_cons, List.not_mem_nil, or_false] at hp; rcases hp with rfl | rfl | rfl | rfl <;> rfl) (by kernel_rfl) (by kernel_rfl) (by decide) (by kernel_rfl) (by kernel_rfl) ?_
      simp only [List.take_succ_cons, List.take_zero, List.drop_succ_cons, List.drop_zero]
      refine rf_val (c.v (.slice (some ⟨q, 0, none⟩) 3 3) (.slice ta tn tc)) (by first | rfl | exact ⟨by kernel_rfl, rfl⟩) (fun zA v hT hf => exec_ldCf (HV.out v hT).1.conf (.tmp 9) rfl (by simp at hf; simp [Act.eval, hf])) ?_
      refine rf_val (s.v) (by first | rfl | exact ⟨by kernel_rfl, rfl⟩) (fun zA v hT hf => exec_ldS (p := xs) (off := 0) QS.out.2.2.2.2.1 (.tmp 10) rfl (by simp at hf; simp [Act.eval, hf]) (HV.out v hT).2.1.blk.whole) ?_
      refine rf_val (.slice (some ⟨b, off, none⟩) ma oca) (by first | rfl | exact ⟨by kernel_rfl, rfl⟩) (fun zA v hT hf => ?_) ?_
      · skip
        simp at hf
        go_simp
        try rfl
      refine rf_val (.int .i64 i) (by first | rfl | exact ⟨by kernel_rfl, rfl⟩) (fun zA v hT hf => ?_) ?_
      · skip
        simp at hf
        go_simp
        try rfl
      refine rf_val (.pointer (some ⟨b, off + i, none⟩)) (by first | rfl | exact ⟨by kernel_rfl, rfl⟩) (fun zA v hT hf => exec_atRs (cap := oca) hl (.tmp 41) (.tmp 42) rfl (by simp at hf; simp [Act.eval, hf]) (by simp at hf; simp [Act.eval, hf])) ?_
      refine rf_val (.slice (some ⟨g, 0, none⟩) 4 4) (by first | rfl | exact ⟨by kernel_rfl, rfl⟩) (fun zA v hT hf => exec_ldC (a := ⟨b, off + i, none⟩) (.tmp 43) rfl (by simp at hf; simp [Act.eval, hf]) (HV.out v hT).2.2.2.cell) ?_
      refine rf_eff (fun _ v => v = s'.v) (by first | rfl | exact ⟨by kernel_rfl, rfl⟩) (fun _ _ _ _ h => h) (fun z2 y hT hf => ?_) ?_
      · simp at hf
        go_simp
        refine (step_any c s ((HV.out y hT).1.rd.upto (by have := LX.out; omega)) QS.out.2.2.2.2.1 (rdc_of_rw1 (HV.out y hT).2.2.2 HRA.out) (HV.out y hT).1.sz).mono ?_
        rw [QS.out.1]
        rintro e y2 ⟨rfl, o⟩
        exact ⟨_, rfl, rfl, o⟩
      intro w6 hy
      simp only [FinA, Sp.R, forall_eq]
      simp only [Act.put, List.setIfInBounds_toArray, List.set_cons_succ, List.set_cons_zero]
      have H6 : Hid _ := HV.out w6 hy
      clear HV hy
      refine op_storeS (p := xs) (s := s') rfl H6.out.2.1 QS.out.2.2.2.2.2 (.tmp 10) (.tmp 45) rfl (by kernel_rfl) (by kernel_rfl) ?_
      intro w7 hb o7 hz
      have hS7 : ∀ x ∈ [xs], x = xs ∨ x = xt ∨ T ≤ x := fun x hx => Or.inl (by simpa using hx)
      have H7 : Hid (Ga w w7 p xs xt T c (.slice (some ⟨q, 0, none⟩) 3 3) (.slice ta tn tc) (.slice (some ⟨b, off, none⟩) ma oca) (.slice oab mb ocb) rA rB ∧ Sb w7 xs s' ∧ Sb w7 xt t ∧ Rw1 xs xt T b (off + i) g w7 rowA) := ⟨H6.out.1.off o7 hS7, hb, H6.out.2.2.1.only o7 (by have := LX.out; simp; omega), H6.out.2.2.2.off o7 hS7⟩
      clear hb o7 hz H6 hS7
      simp only [Act.put, List.setIfInBounds_toArray, List.set_cons_succ, List.set_cons_zero]
      refine wpList_nil ?_
      go_upto_region 12 with fail
      apply wp_region_lit
      obtain ⟨u, hu⟩ : ∃ u, w7.heap.size = u := ⟨_, rfl⟩
      refine op_val (w' := w7.alloc (.cells #[] 43)) rfl (.slice (some ⟨w7.heap.size, 0, none⟩) 0 0) (by kernel_rfl) ?_
      simp only [Act.put, List.setIfInBounds_toArray, List.set_cons_succ, List.set_cons_zero]
      rw [hu]
      have o8 : Only [] w7 (w7.alloc (.cells #[] 43)) := (Only.refl _ _).alloc _
      have OE : Own elC T (w7.alloc (.cells #[] 43)) (.slice (some ⟨u, 0, none⟩) 0 0) [] := hu ▸ Own.empty elC T w7 H7.out.1.sz
      have H8 : Hid (Ga w (w7.alloc (.cells #[] 43)) p xs xt T c (.slice (some ⟨q, 0, none⟩) 3 3) (.slice ta tn tc) (.slice (some ⟨b, off, none⟩) ma oca) (.slice oab mb ocb) rA rB ∧ Sb (w7.alloc (.cells #[] 43)) xs s' ∧ Sb (w7.alloc (.cells #[] 43)) xt t ∧ Rw1 xs xt T b (off + i) g (w7.alloc (.cells #[] 43)) rowA ∧ Own elC T (w7.alloc (.cells #[] 43)) (.slice (some ⟨u, 0, none⟩) 0 0) []) := ⟨H7.out.1.then o8, H7.out.2.1.only o8 (by simp), H7.out.2.2.1.only o8 (by simp), H7.out.2.2.2.then o8, OE⟩
      clear H7 o8 OE hu
      generalize w7.alloc (.cells #[] 43) = w8 at *
      refine op_val (w' := w8) rfl (.slice (some ⟨b, off, none⟩) ma oca) (by kernel_rfl) ?_
      simp only [Act.put, List.setIfInBounds_toArray, List.set_cons_succ, List.set_cons_zero]
      refine op_val (w' := w8) rfl (.int .i64 i) (by kernel_rfl) ?_
      simp only [Act.put, List.setIfInBounds_toArray, List.set_cons_succ, List.set_cons_zero]
      refine op_val (w' := w8) rfl (.pointer (some ⟨b, off + i, none⟩)) (exec_atRs (cap := oca) hl (.tmp 47) (.tmp 48) rfl (by kernel_rfl) (by kernel_rfl)) ?_
      simp only [Act.put, List.setIfInBounds_toArray, List.set_cons_succ, List.set_cons_zero]
      refine op_val (w' := w8) rfl (.slice (some ⟨g, 0, none⟩) 4 4) (exec_ldC (a := ⟨b, off + i, none⟩) (.tmp 49) rfl (by kernel_rfl) H8.out.2.2.2.1.cell) ?_
      simp only [Act.put, List.setIfInBounds_toArray, List.set_cons_succ, List.set_cons_zero]
      have rx : Rdx elC w8 (.slice (some ⟨g, 0, none⟩) 4 4) rowA := by
        have := rdx_blk elC_ok H8.out.2.2.2.1.blk (by rw [HRA.out]; decide)
        rwa [HRA.out] at this
      refine app_g elC_ok rfl (.tmp 46) (.tmp 50) rfl (by kernel_rfl) (by kernel_rfl) H8.out.2.2.2.2 rx (by rw [HRA.out]; decide) H8.out.1.sz ?_
      intro v9 w9 A
      rw [List.nil_append] at A
      have hS9 : ∀ x ∈ (Value.slice (some ⟨u, 0, none⟩) 0 0).ownBlock.toList, x = xs ∨ x = xt ∨ T ≤ x := fun x hx => Or.inr (Or.inr (H8.out.2.2.2.2.lt x (by simpa [Option.mem_toList] using hx)).1)
      have hN9 : ∀ x ∈ (Value.slice (some ⟨u, 0, none⟩) 0 0).ownBlock.toList, T ≤ x := fun x hx => (H8.out.2.2.2.2.lt x (by simpa [Option.mem_toList] using hx)).1
      have H9 : Hid (Ga w w9 p xs xt T c (.slice (some ⟨q, 0, none⟩) 3 3) (.slice ta tn tc) (.slice (some ⟨b, off, none⟩) ma oca) (.slice oab mb ocb) rA rB ∧ Sb w9 xs s' ∧ Sb w9 xt t ∧ Rw1 xs xt T b (off + i) g w9 rowA ∧ Own elC T w9 v9 rowA) := ⟨H8.out.1.off A.only hS9, H8.out.2.1.only A.only (fun m => by have := hN9 _ m; have := LX.out; omega), H8.out.2.2.1.only A.only (fun m => by have := hN9 _ m; have := LX.out; omega), H8.out.2.2.2.1.off A.only hS9, A.row⟩
      obtain ⟨va, vc, hv9, -, -⟩ := A.row.form
      rw [HRA.out] at hv9
      subst hv9
      clear A H8 rx hS9 hN9
      simp only [Act.put, List.setIfInBounds_toArray, List.set_cons_succ, List.set_cons_zero]
      refine op_val (w' := w9) rfl (.slice va 4 vc) (by kernel_rfl) ?_
      simp only [Act.put, List.setIfInBounds_toArray, List.set_cons_succ, List.set_cons_zero]
      refine wpList_nil ?_
      go_upto_if 55 with fail
      go_cut [15] (fun v wx => ∃ (gv vc : Nat) (row : List Cl) (ys : List Value), v = .slice (some ⟨gv, 0, none⟩) 4 vc ∧ Hid (row.length = 4 ∧ Step.input row (sl : Nat) = Step.input rowA (sl : Nat) ∧ 4 ≤ vc ∧ vc ≤ 9223372036854775807 ∧ Blk wx gv (elC.flat row ++ ys) ∧ Ga w wx p xs xt T c (.slice (some ⟨q, 0, none⟩) 3 3) (.slice ta tn tc) (.slice (some ⟨b, off, none⟩) ma oca) (.slice oab mb ocb) rA rB ∧ Sb wx xs s' ∧ Sb wx xt t))
      case first =>
        by_cases hlb : i < mb
        · have z2 : (i : Int) < (mb : Int) := by omega
          obtain ⟨rowB, hrowB⟩ : ∃ row, rB[i]? = some row := ⟨_, List.getElem?_eq_getElem (by rw [HML.out.2.1]; exact hlb)⟩
          have hB4 : rowB.length = 4 := L4.out.2.1 rowB (List.mem_of_getElem? hrowB)
          obtain ⟨bb, offb, gb, hv, RB⟩ := H9.out.1.b.get H9.out.1.sz hrowB hB4
          subst hv
          have HRB : Hid (rowB.length = 4) := hB4
          have HB1 : Hid (Rw1 xs xt T bb (offb + i) gb w9 rowB) := RB
          clear hrowB hB4 RB
          go_upto_region 14 with fail
          apply wp_region_lit
          obtain ⟨u2, hu2⟩ : ∃ u, w9.heap.size = u := ⟨_, rfl⟩
          refine op_val (w' := w9.alloc (.cells #[] 43)) rfl (.slice (some ⟨w9.heap.size, 0, none⟩) 0 0) (by kernel_rfl) ?_
          simp only [Act.put, List.setIfInBounds_toArray, List.set_cons_succ, List.set_cons_zero]
          rw [hu2]
          have o10 : Only [] w9 (w9.alloc (.cells #[] 43)) := (Only.refl _ _).alloc _
          have OE : Own elC T (w9.alloc (.cells #[] 43)) (.slice (some ⟨u2, 0, none⟩) 0 0) [] := hu2 ▸ Own.empty elC T w9 H9.out.1.sz
          have H10 : Hid (Ga w (w9.alloc (.cells #[] 43)) p xs xt T c (.slice (some ⟨q, 0, none⟩) 3 3) (.slice ta tn tc) (.slice (some ⟨b, off, none⟩) ma oca) (.slice (some ⟨bb, offb, none⟩) mb ocb) rA rB ∧ Sb (w9.alloc (.cells #[] 43)) xs s' ∧ Sb (w9.alloc (.cells #[] 43)) xt t ∧ Rw1 xs xt T b (off + i) g (w9.alloc (.cells #[] 43)) rowA ∧ Rw1 xs xt T bb (offb + i) gb (w9.alloc (.cells #[] 43)) rowB ∧ Own elC T (w9.alloc (.cells #[] 43)) (.slice (some ⟨u2, 0, none⟩) 0 0) []) := ⟨H9.out.1.then o10, H9.out.2.1.only o10 (by simp), H9.out.2.2.1.only o10 (by simp), H9.out.2.2.2.1.then o10, HB1.out.then o10, OE⟩
          clear H9 HB1 o10 OE hu2
          generalize w9.alloc (.cells #[] 43) = w10 at *
          refine op_val (w' := w10) rfl (.slice (some ⟨bb, offb, none⟩) mb ocb) (by kernel_rfl) ?_
          simp only [Act.put, List.setIfInBounds_toArray, List.set_cons_succ, List.set_cons_zero]
          refine op_val (w' := w10) rfl (.int .i64 i) (by kernel_rfl) ?_
          simp only [Act.put, List.setIfInBounds_toArray, List.set_cons_succ, List.set_cons_zero]
          refine op_val (w' := w10) rfl (.pointer (some ⟨bb, offb + i, none⟩)) (exec_atRs (cap := ocb) hlb (.tmp 57) (.tmp 58) rfl (by kernel_rfl) (by kernel_rfl)) ?_
          simp only [Act.put, List.setIfInBounds_toArray, List.set_cons_succ, List.set_cons_zero]
          refine op_val (w' := w10) rfl (.slice (some ⟨gb, 0, none⟩) 4 4) (exec_ldC (a := ⟨bb, offb + i, none⟩) (.tmp 59) rfl (by kernel_rfl) H10.out.2.2.2.2.1.cell) ?_
          simp only [Act.put, List.setIfInBounds_toArray, List.set_cons_succ, List.set_cons_zero]
          have rx : Rdx elC w10 (.slice (some ⟨gb, 0, none⟩) 4 4) rowB := by
            have := rdx_blk elC_ok H10.out.2.2.2.2.1.blk (by rw [HRB.out]; decide)
            rwa [HRB.out] at this
          refine app_g elC_ok rfl (.tmp 56) (.tmp 60) rfl (by kernel_rfl) (by kernel_rfl) H10.out.2.2.2.2.2 rx (by rw [HRB.out]; decide) H10.out.1.sz ?_
          intro v11 w11 A
          rw [List.nil_append] at A
          have hS9 : ∀ x ∈ (Value.slice (some ⟨u2, 0, none⟩) 0 0).ownBlock.toList, x = xs ∨ x = xt ∨ T ≤ x := fun x hx => Or.inr (Or.inr (H10.out.2.2.2.2.2.lt x (by simpa [Option.mem_toList] using hx)).1)
          have hN9 : ∀ x ∈ (Value.slice (some ⟨u2, 0, none⟩) 0 0).ownBlock.toList, T ≤ x := fun x hx => (H10.out.2.2.2.2.2.lt x (by simpa [Option.mem_toList] using hx)).1
          obtain ⟨va2, vc2, hv11, -, -⟩ := A.row.form
          rw [HRB.out] at hv11
          subst hv11
          have H11 : Hid (Ga w w11 p xs xt T c (.slice (some ⟨q, 0, none⟩) 3 3) (.slice ta tn tc) (.slice (some ⟨b, off, none⟩) ma oca) (.slice (some ⟨bb, offb, none⟩) mb ocb) rA rB ∧ Sb w11 xs s' ∧ Sb w11 xt t ∧ Rw1 xs xt T b (off + i) g w11 rowA ∧ Own elC T w11 (.slice va2 4 vc2) rowB) := ⟨H10.out.1.off A.only hS9, H10.out.2.1.only A.only (fun m => by have := hN9 _ m; have := LX.out; omega), H10.out.2.2.1.only A.only (fun m => by have := hN9 _ m; have := LX.out; omega), H10.out.2.2.2.1.off A.only hS9, A.row⟩
          clear A H10 rx hS9 hN9
          simp only [Act.put, List.setIfInBounds_toArray, List.set_cons_succ, List.set_cons_zero]
          refine op_val (w' := w11) rfl (.slice va2 4 vc2) (by kernel_rfl) ?_
          simp only [Act.put, List.setIfInBounds_toArray, List.set_cons_succ, List.set_cons_zero]
          refine wpList_nil ?_
          obtain ⟨ca, hca⟩ : ∃ ca, rowA[sl]? = some ca := ⟨_, List.getElem?_eq_getElem (by rw [HRA.out]; exact hsl4)⟩
          have HCA : Hid (rowA[sl]? = some ca) := hca
          clear hca
          obtain ⟨gv, cap, ys, hv, hgT, hblk, hcap, hcm⟩ : ∃ gv cap ys, (Value.slice va2 4 vc2) = .slice (some ⟨gv, 0, none⟩) 4 cap ∧ T ≤ gv ∧ Blk w11 gv (elC.flat rowB ++ ys) ∧ 4 ≤ cap ∧ cap ≤ 9223372036854775807 := by
            obtain ⟨gv, cap, cs, h1, h2, h3, h4, h5, h6, h7⟩ := H11.out.2.2.2.2.blk (i := 0) (by rw [HRB.out]; decide)
            rw [HRB.out] at h1 h4 h7
            refine ⟨gv, cap, cs.drop (4 * elC.c), h1, h2, ?_, h4, by unfold maxLen at h5; omega⟩
            rw [← h7, List.take_append_drop]; exact h3
          injection hv with e1 _ e3
          subst e1
          have HB5 : Hid (T ≤ gv ∧ Blk w11 gv (elC.flat rowB ++ ys) ∧ 4 ≤ vc2 ∧ vc2 ≤ 9223372036854775807) := ⟨hgT, hblk, by omega, by omega⟩
          clear hgT hblk hcap hcm e3
          go_upto_region 15 with fail
          apply wp_region_lit
          refine op_val (w' := w11) rfl (.slice (some ⟨gv, 0, none⟩) 4 vc2) (by kernel_rfl) ?_
          simp only [Act.put, List.setIfInBounds_toArray, List.set_cons_succ, List.set_cons_zero]
          refine op_val (w' := w11) rfl (.int .i64 sl) (by kernel_rfl) ?_
          simp only [Act.put, List.setIfInBounds_toArray, List.set_cons_succ, List.set_cons_zero]
          refine op_val (w' := w11) rfl (.slice (some ⟨b, off, none⟩) ma oca) (by kernel_rfl) ?_
          simp only [Act.put, List.setIfInBounds_toArray, List.set_cons_succ, List.set_cons_zero]
          refine op_val (w' := w11) rfl (.int .i64 i) (by kernel_rfl) ?_
          simp only [Act.put, List.setIfInBounds_toArray, List.set_cons_succ, List.set_cons_zero]
          refine op_val (w' := w11) rfl (.pointer (some ⟨b, off + i, none⟩)) (exec_atRs (cap := oca) hl (.tmp 64) (.tmp 65) rfl (by kernel_rfl) (by kernel_rfl)) ?_
          simp only [Act.put, List.setIfInBounds_toArray, List.set_cons_succ, List.set_cons_zero]
          refine op_val (w' := w11) rfl (.slice (some ⟨g, 0, none⟩) 4 4) (exec_ldC (a := ⟨b, off + i, none⟩) (.tmp 66) rfl (by kernel_rfl) H11.out.2.2.2.1.cell) ?_
          simp only [Act.put, List.setIfInBounds_toArray, List.set_cons_succ, List.set_cons_zero]
          refine op_val (w' := w11) rfl (.int .i64 sl) (by kernel_rfl) ?_
          simp only [Act.put, List.setIfInBounds_toArray, List.set_cons_succ, List.set_cons_zero]
          refine op_val (w' := w11) rfl (.pointer (some ⟨g, 0 + sl * 4, none⟩)) (exec_atC (cap := 4) hsl4 (.tmp 67) (.tmp 68) rfl (by kernel_rfl) (by kernel_rfl)) ?_
          simp only [Act.put, List.setIfInBounds_toArray, List.set_cons_succ, List.set_cons_zero]
          refine opg_loads (by kernel_rfl) (cs := ca.cells) (g := g) (off := 0 + sl * 4) 43 (.tmp 69) rfl (by kernel_rfl) Try.underlying43 info_cl (flat_cell (ys := []) (by rw [List.append_nil]; exact H11.out.2.2.2.1.blk) HCA.out) ?_
          simp only [Act.put, List.setIfInBounds_toArray, List.set_cons_succ, List.set_cons_zero]
          refine op_val (w' := w11) rfl (.pointer (some ⟨gv, 0 + sl * 4, none⟩)) (exec_atC (cap := vc2) hsl4 (.tmp 62) (.tmp 63) rfl (by kernel_rfl) (by kernel_rfl)) ?_
          simp only [Act.put, List.setIfInBounds_toArray, List.set_cons_succ, List.set_cons_zero]
          rw [Nat.zero_add]
          refine op_storeC (g := gv) (i := sl) (xs := rowB) (ys := ys) rfl HB5.out.2.1 (by rw [HRB.out]; exact hsl4) ca (.tmp 71) (.tmp 70) rfl (by kernel_rfl) (by kernel_rfl) ?_
          intro w12 hb12 o12 hz12
          have hS12 : ∀ x ∈ [gv], x = xs ∨ x = xt ∨ T ≤ x := fun x hx => by have h2 : x = gv := (by simpa using hx); have := HB5.out.1; omega
          have H12 : Hid (Ga w w12 p xs xt T c (.slice (some ⟨q, 0, none⟩) 3 3) (.slice ta tn tc) (.slice (some ⟨b, off, none⟩) ma oca) (.slice (some ⟨bb, offb, none⟩) mb ocb) rA rB ∧ Sb w12 xs s' ∧ Sb w12 xt t ∧ Blk w12 gv (elC.flat (rowB.set sl ca) ++ ys)) := ⟨H11.out.1.off o12 hS12, H11.out.2.1.only o12 (by have := LX.out; have := HB5.out.1; simp; omega), H11.out.2.2.1.only o12 (by have := LX.out; have := HB5.out.1; simp; omega), hb12⟩
          have IN : Hid (Step.input (rowB.set sl ca) (sl : Nat) = Step.input rowA (sl : Nat) ∧ (rowB.set sl ca).length = 4) := ⟨input_set (by rw [HRB.out]; exact hsl4) HCA.out, by rw [List.length_set]; exact HRB.out⟩
          clear H11 hb12 o12 hz12 hS12
          simp only [Act.put, List.setIfInBounds_toArray, List.set_cons_succ, List.set_cons_zero]
          refine wpList_nil ?_
          go_wp2_with fail
          go_meet
          exact ⟨gv, vc2, rowB.set sl ca, ys, rfl, IN.out.2, IN.out.1, HB5.out.2.2.1, HB5.out.2.2.2, H12.out.2.2.2, H12.out.1, H12.out.2.1, H12.out.2.2.1⟩
        · have z2 : ¬ (i : Int) < (mb : Int) := by omega
          obtain ⟨gv, cap, ys, hv, hgT, hblk, hcap, hcm⟩ : ∃ gv cap ys, (Value.slice va 4 vc) = .slice (some ⟨gv, 0, none⟩) 4 cap ∧ T ≤ gv ∧ Blk w9 gv (elC.flat rowA ++ ys) ∧ 4 ≤ cap ∧ cap ≤ 9223372036854775807 := by
            obtain ⟨gv, cap, cs, h1, h2, h3, h4, h5, h6, h7⟩ := H9.out.2.2.2.2.blk (i := 0) (by rw [HRA.out]; decide)
            rw [HRA.out] at h1 h4 h7
            refine ⟨gv, cap, cs.drop (4 * elC.c), h1, h2, ?_, h4, by unfold maxLen at h5; omega⟩
            rw [← h7, List.take_append_drop]; exact h3
          injection hv with e1 _ e3
          subst e1
          have HB5 : Hid (T ≤ gv ∧ Blk w9 gv (elC.flat rowA ++ ys) ∧ 4 ≤ vc ∧ vc ≤ 9223372036854775807) := ⟨hgT, hblk, by omega, by omega⟩
          clear hgT hblk hcap hcm e3
          go_wp2_with fail
          go_meet
          exact ⟨gv, vc, rowA, ys, rfl, HRA.out, rfl, HB5.out.2.2.1, HB5.out.2.2.2, HB5.out.2.1, H9.out.1, H9.out.2.1, H9.out.2.2.1⟩
      case rest =>
        clear H9
        obtain ⟨gv, vc, row2, ys, rfl, H12⟩ := hcut
        have IN : Hid (Step.input row2 (sl : Nat) = Step.input rowA (sl : Nat) ∧ row2.length = 4 ∧ 4 ≤ vc ∧ vc ≤ 9223372036854775807) := ⟨H12.out.2.1, H12.out.1, H12.out.2.2.1, H12.out.2.2.2.1⟩
        have H12 : Hid (Ga w wc p xs xt T c (.slice (some ⟨q, 0, none⟩) 3 3) (.slice ta tn tc) (.slice (some ⟨b, off, none⟩) ma oca) (.slice oab mb ocb) rA rB ∧ Sb wc xs s' ∧ Sb wc xt t ∧ Blk wc gv (elC.flat row2 ++ ys)) := ⟨H12.out.2.2.2.2.2.1, H12.out.2.2.2.2.2.2.1, H12.out.2.2.2.2.2.2.2, H12.out.2.2.2.2.1⟩
        obtain ⟨t', ht'⟩ : ∃ t', Step.step c t row2 = t' := ⟨_, rfl⟩
        have QU : Hid (Step.step c t row2 = t' ∧ Step.Quiet c t' ∧ t'.d = t.d ∧ t'.bs.getD sl Body.zero = Step.ownN (t.bs.getD sl Body.zero) (Step.input row2 (sl : Nat)) ∧ Step.Wf t') := by
          obtain ⟨h1, h2, h3⟩ := Step.quiet_step QT.out.1 row2
          rw [ht'] at h1 h2 h3
          exact ⟨ht', h1, h2, h3 sl hsl4, ⟨h1.ok.b.len, h1.ok.s.len⟩⟩
        clear ht'
        go_upto_region 16 with fail
        apply wp_region_lit
        refine opg_loadC (p := p) (by kernel_rfl) (.tmp 9) rfl (by kernel_rfl) H12.out.1.conf.blk.whole ?_
        simp only [Act.put, List.setIfInBounds_toArray, List.set_cons_succ, List.set_cons_zero]
        refine opg_loadS (p := xt) (off := 0) (by kernel_rfl) QT.out.2.2.2 (.tmp 11) rfl (by kernel_rfl) H12.out.2.2.1.blk.whole ?_
        simp only [Act.put, List.setIfInBounds_toArray, List.set_cons_succ, List.set_cons_zero]
        refine op_val (w' := wc) rfl (.slice (some ⟨gv, 0, none⟩) 4 vc) (by kernel_rfl) ?_
        simp only [Act.put, List.setIfInBounds_toArray, List.set_cons_succ, List.set_cons_zero]
        refine op_call (F := 12) (args := #[c.v (.slice (some ⟨q, 0, none⟩) 3 3) (.slice ta tn tc), t.v, .slice (some ⟨gv, 0, none⟩) 4 vc]) (w1 := wc) rfl (by kernel_rfl) ?_
        have RC : Hid (RdC wc.heap.size wc (.slice (some ⟨gv, 0, none⟩) 4 vc) row2) := by
          have := rdc_blk (cap := vc) (B := wc.heap.size) (xs := row2) (ys := ys) H12.out.2.2.2 (by rw [IN.out.2.1]; exact IN.out.2.2.1) IN.out.2.2.2 H12.out.2.2.2.lt
          rwa [IN.out.2.1] at this
        refine (step_any c t (H12.out.1.rd.upto (by have := LX.out; have := H12.out.1.sz; omega)) QT.out.2.2.2 RC.out (Nat.le_refl _)).mono ?_
        rw [QU.out.1]
        rintro e w13 ⟨rfl, o⟩
        refine ⟨_, rfl, ?_⟩
        simp only [Act.put, List.setIfInBounds_toArray, List.set_cons_succ, List.set_cons_zero]
        refine op_storeS (p := xt) (s := t') rfl (H12.out.2.2.1.only o (by simp)) QU.out.2.2.2.2 (.tmp 11) (.tmp 75) rfl (by kernel_rfl) (by kernel_rfl) ?_
        intro w14 hb14 o14 hz14
        have H14 : Hid (Ga w w14 p xs xt T c (.slice (some ⟨q, 0, none⟩) 3 3) (.slice ta tn tc) (.slice (some ⟨b, off, none⟩) ma oca) (.slice oab mb ocb) rA rB ∧ Sb w14 xs s' ∧ Sb w14 xt t') := by
          obtain ⟨k1, k2, k3, k4⟩ := H12.out
          exact ⟨(k1.then o).off o14 (fun x hx => Or.inr (Or.inl (by simpa using hx))), (k2.only o (by simp)).only o14 (by have := LX.out; simp; omega), hb14⟩
        clear H12 o hb14 o14 hz14 RC
        simp only [Act.put, List.setIfInBounds_toArray, List.set_cons_succ, List.set_cons_zero]
        refine wpList_nil ?_
        have hsl16 : sl < 16 := by omega
        obtain ⟨bB, hbB⟩ : ∃ x, s'.bs.getD sl Body.zero = x := ⟨_, rfl⟩
        obtain ⟨dd, hdd⟩ : ∃ x, s'.d = x := ⟨_, rfl⟩
        have HB : Hid (s'.bs.getD sl Body.zero = bB ∧ t'.bs.getD sl Body.zero = bB ∧ bB.f = 0 ∧ s'.d = dd ∧ t'.d = dd) := by
          refine ⟨hbB, ?_, ?_, hdd, ?_⟩
          · rw [QU.out.2.2.2.1, IN.out.1, ← QT.out.2.2.1, ← QS.out.2.2.2.1, hbB]
          · rw [← hbB]; exact QS.out.2.1.f sl hsl4
          · rw [QU.out.2.2.1, ← QT.out.2.1, ← QS.out.2.2.1, hdd]
        clear hbB hdd
        go_upto_region 17 with fail
        have HV : Hid (∀ y, Only [] w14.drew y → Ga w y p xs xt T c (.slice (some ⟨q, 0, none⟩) 3 3) (.slice ta tn tc) (.slice (some ⟨b, off, none⟩) ma oca) (.slice oab mb ocb) rA rB ∧ Sb y xs s' ∧ Sb y xt t') := fun y hy => by
          have o := (only_drew w14).trans hy
          exact ⟨H14.out.1.then o, H14.out.2.1.only o (by simp), H14.out.2.2.only o (by simp)⟩
        clear H14
        refine wp_region_free 24 (Only []) (Only.refl _) (Only.trans) [(3, .int .i64 sl), (10, .pointer (some ⟨xs, 0, none⟩)), (11, .pointer (some ⟨xt, 0, none⟩))] (by intro p hp; simp only [List.mem_cons, List.not_mem_nil, or_false] at hp; rcases hp with rfl | rfl | rfl <;> rfl) (by kernel_rfl) (by kernel_rfl) (by decide) (by kernel_rfl) (by kernel_rfl) ?_
        simp only [List.take_succ_cons, List.take_zero, List.drop_succ_cons, List.drop_zero]
        refine rf_val (.int .i64 sl) (by first | rfl | exact ⟨by kernel_rfl, rfl⟩) (fun zA v hT hf => ?_) ?_
        · skip
          simp at hf
          go_simp
          try rfl
        refine rf_val (.pointer (some ⟨xs, 2, none⟩)) (by first | rfl | exact ⟨by kernel_rfl, rfl⟩) (fun zA v hT hf => ?_) ?_
        · skip
          simp at hf
          go_simp
          try rfl
        refine rf_val (.pointer (some ⟨xs, 2 + sl * 12, none⟩)) (by first | rfl | exact ⟨by kernel_rfl, rfl⟩) (fun zA v hT hf => exec_at hsl16 (.tmp 77) (.tmp 76) rfl (by simp at hf; simp [Act.eval, hf]) (by simp at hf; simp [Act.eval, hf])) ?_
        refine rf_val (bB.v) (by first | rfl | exact ⟨by kernel_rfl, rfl⟩) (fun zA v hT hf => exec_loads (cs := bB.cells) (g := xs) (off := 2 + sl * 12) 33 (.tmp 78) rfl (by simp at hf; simp [Act.eval, hf]) Try.underlying33 info_bd (by rw [← HB.out.1]; exact (HV.out v hT).2.1.body hsl16)) ?_
        refine rf_val (.int .i64 sl) (by first | rfl | exact ⟨by kernel_rfl, rfl⟩) (fun zA v hT hf => ?_) ?_
        · skip
          simp at hf
          go_simp
          try rfl
        refine rf_val (.pointer (some ⟨xt, 2, none⟩)) (by first | rfl | exact ⟨by kernel_rfl, rfl⟩) (fun zA v hT hf => ?_) ?_
        · skip
          simp at hf
          go_simp
          try rfl
        refine rf_val (.pointer (some ⟨xt, 2 + sl * 12, none⟩)) (by first | rfl | exact ⟨by kernel_rfl, rfl⟩) (fun zA v hT hf => exec_at hsl16 (.tmp 81) (.tmp 80) rfl (by simp at hf; simp [Act.eval, hf]) (by simp at hf; simp [Act.eval, hf])) ?_
        refine rf_val (bB.v) (by first | rfl | exact ⟨by kernel_rfl, rfl⟩) (fun zA v hT hf => exec_loads (cs := bB.cells) (g := xt) (off := 2 + sl * 12) 33 (.tmp 82) rfl (by simp at hf; simp [Act.eval, hf]) Try.underlying33 info_bd (by rw [← HB.out.2.1]; exact (HV.out v hT).2.2.body hsl16)) ?_
        refine rf_val (.bool false) (by first | rfl | exact ⟨by kernel_rfl, rfl⟩) (fun zA v hT hf => exec_neB bB (.tmp 79) (.tmp 83) _ rfl (by simp at hf; simp [Act.eval, hf]) (by simp at hf; simp [Act.eval, hf])) ?_
        refine rf_val (.bool false) (by first | rfl | exact ⟨by kernel_rfl, rfl⟩) (fun zA v hT hf => ?_) ?_
        · skip
          simp at hf
          go_simp
          try rfl
        refine rf_val (.int .i64 sl) (by first | rfl | exact ⟨by kernel_rfl, rfl⟩) (fun zA v hT hf => ?_) ?_
        · skip
          simp at hf
          go_simp
          try rfl
        refine rf_val (.pointer (some ⟨xs, 2, none⟩)) (by first | rfl | exact ⟨by kernel_rfl, rfl⟩) (fun zA v hT hf => ?_) ?_
        · skip
          simp at hf
          go_simp
          try rfl
        refine rf_val (.pointer (some ⟨xs, 2 + sl * 12, none⟩)) (by first | rfl | exact ⟨by kernel_rfl, rfl⟩) (fun zA v hT hf => exec_at hsl16 (.tmp 87) (.tmp 86) rfl (by simp at hf; simp [Act.eval, hf]) (by simp at hf; simp [Act.eval, hf])) ?_
        refine rf_val (.pointer (some ⟨xs, 2 + sl * 12 + 11, none⟩)) (by first | rfl | exact ⟨by kernel_rfl, rfl⟩) (fun zA v hT hf => ?_) ?_
        · skip
          simp at hf
          go_simp
          try rfl
        refine rf_val (.int .i64 0) (by first | rfl | exact ⟨by kernel_rfl, rfl⟩) (fun zA v hT hf => exec_int (a := ⟨xs, 2 + sl * 12 + 11, none⟩) (.tmp 89) rfl (by simp at hf; simp [Act.eval, hf]) ((HV.out v hT).2.1.body hsl16 11 _ (by rw [HB.out.1, ← HB.out.2.2.1]; rfl))) ?_
        refine rf_val (.bool false) (by first | rfl | exact ⟨by kernel_rfl, rfl⟩) (fun zA v hT hf => ?_) ?_
        · skip
          simp at hf
          go_simp
          try rfl
        refine rf_val (.bool false) (by first | rfl | exact ⟨by kernel_rfl, rfl⟩) (fun zA v hT hf => ?_) ?_
        · skip
          simp at hf
          go_simp
          try rfl
        refine rf_val (.bool false) (by first | rfl | exact ⟨by kernel_rfl, rfl⟩) (fun zA v hT hf => ?_) ?_
        · skip
          simp at hf
          go_simp
          try rfl
        refine rf_val (.pointer (some ⟨xs, 1, none⟩)) (by first | rfl | exact ⟨by kernel_rfl, rfl⟩) (fun zA v hT hf => ?_) ?_
        · skip
          simp at hf
          go_simp
          try rfl
        refine rf_val (.int .u64 dd) (by first | rfl | exact ⟨by kernel_rfl, rfl⟩) (fun zA v hT hf => exec_u64 (a := ⟨xs, 1, none⟩) (.tmp 94) rfl (by simp at hf; simp [Act.eval, hf]) (((HV.out v hT).2.1.blk.cell 1).trans (by rw [← HB.out.2.2.2.1]; rfl))) ?_
        refine rf_val (.pointer (some ⟨xt, 1, none⟩)) (by first | rfl | exact ⟨by kernel_rfl, rfl⟩) (fun zA v hT hf => ?_) ?_
        · skip
          simp at hf
          go_simp
          try rfl
        refine rf_val (.int .u64 dd) (by first | rfl | exact ⟨by kernel_rfl, rfl⟩) (fun zA v hT hf => exec_u64 (a := ⟨xt, 1, none⟩) (.tmp 96) rfl (by simp at hf; simp [Act.eval, hf]) (((HV.out v hT).2.2.blk.cell 1).trans (by rw [← HB.out.2.2.2.2]; rfl))) ?_
        refine rf_val (.bool false) (by first | rfl | exact ⟨by kernel_rfl, rfl⟩) (fun zA v hT hf => ?_) ?_
        · skip
          simp at hf
          go_simp
          try rfl
        refine rf_val (.bool false) (by first | rfl | exact ⟨by kernel_rfl, rfl⟩) (fun zA v hT hf => ?_) ?_
        · skip
          simp at hf
          go_simp
          try rfl
        intro w17 hy
        simp only [FinA, Sp.R, forall_eq]
        simp only [Act.put, List.setIfInBounds_toArray, List.set_cons_succ, List.set_cons_zero]
        have H17 : Hid _ := HV.out w17 hy
        clear HV hy
        try refine wpList_nil ?_
        go_wp2_with fail
        go_roundg (ma + 1 - (i + 1))
        case measure => omega
        case rel => exact ⟨i + 1, by go_num, by omega, by omega, s', t', H17.out.1, H17.out.2.1, H17.out.2.2, QS.out.2.1, QU.out.2.1, by rw [HB.out.2.2.2.1, HB.out.2.2.2.2], by rw [HB.out.1, HB.out.2.1]⟩
    · have z1 : ¬ (i : Int) < (ma : Int) := by omega
      have H9 : Hid (Only [] w wr) := HH.out.1.only
      clear HH
      go_upto_region 20 with fail
      apply wp_region_lit
      refine op_call (F := 15) (args := #[]) (w1 := wr) rfl (by kernel_rfl) ?_
      refine (known_any wr).mono ?_
      rintro e W1 ⟨rfl, o⟩
      refine ⟨_, rfl, ?_⟩
      have HE : Hid (Only [] w W1) := H9.out.trans o
      clear H9 o
      simp only [Act.put, List.setIfInBounds_toArray, List.set_cons_succ, List.set_cons_zero]
      refine op_val (w' := W1) rfl (.bool true) (by kernel_rfl) ?_
      simp only [Act.put, List.setIfInBounds_toArray, List.set_cons_succ, List.set_cons_zero]
      refine wpList_nil ?_
      go_wp2_with fail
      go_ret
      exact ⟨rfl, HE.out.below (Nat.le_of_eq HQ.out.symm) (by simp)⟩
set_option maxRecDepth 100000 in
theorem lifted (os : Os) (started : os.Started) (H : Type) (enc : TypeId × Value → H) :
    ReturnsInHanded {} Try.checked os 6 .any (Rows.stepApartSpec.pre6 enc Try.prog Try.f6 Rows.stepApartRow.domain false) (Rows.stepApartSpec.post enc Try.prog Try.f6 false true false false) := by
  refine returnsInHanded_of_change (C := Try.checked) own started (by kernel_rfl) Try.func6
    (ChangeSpec.witness6 (enc := enc) (C := Try.checked) false ⟨#[], #[.int .i64 0, .slice none 0 0, .slice none 0 0, .int .i64 0], []⟩ 8 (by kernel_rfl) (by kernel_rfl) (by kernel_rfl) (by kernel_rfl)) ?_
  intro W base args ds gs before hval0 hW hcnd _
  have hval : ∀ (j : Nat) t v, Try.f6.params[j]? = some t → args[j]? = some v → Value.okWide Try.prog W .any base t v := hval0
  have hW' := hW
  obtain ⟨p, q, hA0, hV, rfl, hfz, hnd⟩ := hW
  have hA : DataW.TrodAll enc Try.prog W 0 (fun _ => true) true Try.f6.params.toList args.toList ds p := hA0
  rw [Try.params6] at hA hval
  obtain ⟨v0, vs0, d0, ds0, p0, q0, hargs, rfl, rfl, h0, r0⟩ := trodAll_cons hA
  obtain ⟨v1, vs1, d1, ds1, p1, q1, rfl, rfl, rfl, h1, r1⟩ := trodAll_cons r0
  obtain ⟨v2, vs2, d2, ds2, p2, q2, rfl, rfl, rfl, h2, r2⟩ := trodAll_cons r1
  obtain ⟨v3, vs3, d3, ds3, p3, q3, rfl, rfl, rfl, h3, r3⟩ := trodAll_cons r2
  obtain ⟨rfl, rfl, rfl⟩ := trodAll_nil r3
  obtain rfl : args = #[v0, v1, v2, v3] := by cases args; simp_all
  obtain ⟨rfl, rfl⟩ := trodVars_none hV
  obtain ⟨a0, rfl, rfl, rfl, w0⟩ := open_int Try.underlying3 (hval 0 3 v0 rfl rfl) h0
  have k1 := h1
  have lt1 : ∀ x ∈ p1, x.block < W.heap.size := by obtain ⟨m, hm⟩ := k1; exact DataW.trod_lt m _ _ _ hm
  obtain ⟨e1, len1, cap1, rfl⟩ := okWide_slice Try.underlying54 (hval 1 54 v1 rfl rfl)
  obtain ⟨a1, w1⟩ := came_sl (opens_slice Try.underlying54 (by kernel_rfl) (by decide) opens_ints) h1
  have k2 := h2
  have lt2 : ∀ x ∈ p2, x.block < W.heap.size := by obtain ⟨m, hm⟩ := k2; exact DataW.trod_lt m _ _ _ hm
  obtain ⟨e2, len2, cap2, rfl⟩ := okWide_slice Try.underlying54 (hval 2 54 v2 rfl rfl)
  obtain ⟨a2, w2⟩ := came_sl (opens_slice Try.underlying54 (by kernel_rfl) (by decide) opens_ints) h2
  obtain ⟨a3, rfl, rfl, rfl, w3⟩ := open_int Try.underlying3 (hval 3 3 v3 rfl rfl) h3
  clear hA0 hval0
  refine (walk a0 _ a1 _ a2 a3 W w0 w1 w2 w3).mono fun e W' ⟨he, bel⟩ => ?_
  subst he
  exact ⟨_, rfl, _, _, _, [], _, [], hW', trodAll_mk1 (shut_bool Try.underlying4 _), (trodAll_cons_mk (shut_int Try.underlying3 w0) (trodAll_cons_mk (Below.trod laidOut (by kernel_rfl) (of_decide_eq_true (by kernel_rfl)) k1 bel lt1) (trodAll_cons_mk (Below.trod laidOut (by kernel_rfl) (of_decide_eq_true (by kernel_rfl)) k2 bel lt2) (trodAll_cons_mk (shut_int Try.underlying3 w3) trodAll_mk0)))), rfl, bel.frame _, fun h => by cases h⟩

theorem over : Rows.stepApartRow.holds Try.pinned (OpenSpec.ofChange Rows.stepApartSpec) :=
  OpenClaim.holds_of_wide 6 Try.f6 rfl rfl rfl rfl rfl rfl rfl ⟨rfl, rfl, rfl, rfl, rfl⟩ rfl rfl rfl rfl rfl (by kernel_rfl) Try.func6 (by kernel_rfl)
    (of_decide_eq_true (by kernel_rfl)) (by unfold Func.isWrapper; first | (rw [if_pos (by decide +kernel)]; kernel_rfl) | (rw [if_neg (by decide +kernel)]; exact ⟨rfl, rfl⟩))
    (fun os started H enc _ => lifted os started H enc)

/-- THE STATEMENT -/
theorem proved : Rows.StepApartSaid := over
end Go.Proofs.Ytngbannidbijmaa.stepApart

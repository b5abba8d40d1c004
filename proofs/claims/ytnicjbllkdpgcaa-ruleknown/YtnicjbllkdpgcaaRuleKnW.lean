/- RuleKnown: the walk. Made by tools/ruleknw.py. -/
import Derived.Test.YtnicjbllkdpgcaaRunDraw
import Derived.Test.YtnicjbllkdpgcaaRuleRt
import Derived.Test.YtnicjbllkdpgcaaRuleFa
import Derived.Test.YtnicjbllkdpgcaaOpG
namespace Go.Proofs.Ytnicjbllkdpgcaa.ruleKnown
open Go.RowKit
set_option linter.unusedVariables false

def LA : List Op3 := [⟨1, 0, 7⟩, ⟨2, 1, 0⟩, ⟨5, 1, 1⟩, ⟨4, 0, 1⟩, ⟨1, 2, -5⟩, ⟨6, 0, 2⟩, ⟨7, 3, 6⟩, ⟨8, 2, 3⟩, ⟨12, 0, 3⟩, ⟨9, 0, 99⟩, ⟨13, 0, 0⟩, ⟨99, 0, 0⟩]
def EA : Ev := ⟨⟨1, 0, 2048, 2048, -64, 0, 0, 8, 49, -5, -64, 0⟩, 3, -64, 7, 5, 2, [⟨2, 0, 2048, 2048, 8, -64, 0, 0, 0, 0, 0, 0⟩]⟩
theorem kA : Rule.run LA E0 = (EA, 0, 0, true) := by kernel_rfl
def LB : List Op3 := [⟨1, 0, 1000000⟩, ⟨3, 0, 0⟩, ⟨8, 0, 0⟩, ⟨10, 0, 4⟩]
def EB : Ev := ⟨⟨1, 0, 4095, 2048, 0, 0, 0, 1000000, 0, 0, 0, 0⟩, 3, -64, 7, 5, 2, []⟩
theorem kB : Rule.run LB E0 = (EB, 0, 0, true) := by kernel_rfl
def LC : List Op3 := [⟨1, 0, 7⟩, ⟨11, 0, 0⟩]
def EC : Ev := (Rule.run LC E0).1
theorem kC : Rule.run LC E0 = (EC, 0, 0, true) := by kernel_rfl
theorem kD : Rule.run [⟨99, 0, 0⟩] Ev.zero = (Ev.zero, 0, 0, false) := by kernel_rfl
theorem kC1 : (EC.d != 5) = true := by kernel_rfl
theorem kC2 : decide (0 ≤ EC.b.m0) = true := by kernel_rfl
theorem kC3 : decide (EC.b.m0 < 7) = true := by kernel_rfl
/-- what a call of env comes to -/
abbrev lsE0 : Ls := ⟨[], [], fun v _ => v = E0.v (.slice none 0 0), fun _ _ _ => True, fun _ _ => []⟩
theorem loc_E0 : LocL lsE0 := fun _ _ _ _ _ _ _ _ => trivial
theorem post_E0 {ds : List Value} {S : List Nat} {w w' : World} (o : Only [] w w') : postL lsE0 ds S w (E0.v (.slice none 0 0)) w' := ⟨rfl, trivial, o.weaken (by simp), fun g hg => by cases hg⟩
/-- what the law has laid -/
structure Know (w W : World) (p1 pa qa pb qb pc qc pd qd : Nat) (va vb vc vd : Value) : Prop where
  set : Three W p1 (.int .i64 1) (.int .i64 0) (.int .i64 7)
  ea : Eb W pa EA va
  fa : Two W qa (.int .i64 0) (.int .i64 0)
  ra : SR 0 W va EA.sh
  eb : Eb W pb EB vb
  ec : Eb W pc EC vc
  ed : Eb W pd Ev.zero vd
  fd : Two W qd (.int .i64 0) (.int .i64 0)
  rd : SR 0 W vd Ev.zero.sh
  only : Only [] w W
theorem Know.then {w W W' : World} {p1 pa qa pb qb pc qc pd qd : Nat} {va vb vc vd : Value} (h : Know w W p1 pa qa pb qb pc qc pd qd va vb vc vd) (o : Only [] W W') : Know w W' p1 pa qa pb qb pc qc pd qd va vb vc vd :=
  ⟨h.set.only o (by simp), h.ea.only o (by simp), h.fa.only o (by simp), h.ra.only o (by simp), h.eb.only o (by simp), h.ec.only o (by simp), h.ed.only o (by simp), h.fd.only o (by simp), h.rd.only o (by simp), h.only.trans o⟩
set_option maxRecDepth 100000 in
set_option maxHeartbeats 8000000 in
theorem known12_any (w : World) : Calls Try.prog 3 #[] w fun e w' => e = .returned (.bool true) ∧ Only [] w w' := by
  have hnot : ∀ (x : Bool) (w : World), (Op.unary .not (.bool x)).run Try.prog w = .ok (.bool (!x)) w := fun _ _ => rfl
  have H1 : Hid (Three (w.alloc (.cells #[.int .i64 1, .int .i64 0, .int .i64 7] 23)) w.heap.size (.int .i64 1) (.int .i64 0) (.int .i64 7) ∧ Only [] w (w.alloc (.cells #[.int .i64 1, .int .i64 0, .int .i64 7] 23))) := ⟨Three.new _ _ _ _ _, (Only.refl [] _).alloc _⟩
  go_enter Try.func3, Try.ntmps3
  go_upto_region 2 with fail
  change Code.wp _ _ _ _ (w.alloc (.cells #[.int .i64 1, .int .i64 0, .int .i64 7] 23))
  generalize w.alloc (.cells #[.int .i64 1, .int .i64 0, .int .i64 7] 23) = w1 at *
  obtain ⟨p1, hp1⟩ : ∃ p1, w.heap.size = p1 := ⟨_, rfl⟩
  simp only [hp1] at H1 ⊢
  clear hp1
  have FA : Hid (∀ y, Only [] w1.drew y → Three y p1 (.int .i64 1) (.int .i64 0) (.int .i64 7) ∧ Only [] w y) := fun y hy => by
    have o := (only_drew w1).trans hy
    exact ⟨H1.out.1.only o (by simp), H1.out.2.trans o⟩
  refine wp_region_lin 23 [(1, .pointer (some ⟨p1, 0, none⟩))] (by intro p hp; simp only [List.mem_cons, List.not_mem_nil, or_false] at hp; rcases hp with rfl; rfl) (by kernel_rfl) (by kernel_rfl) (by decide) (by kernel_rfl) (by kernel_rfl) ?_
  simp only [List.take_succ_cons, List.take_zero, List.drop_succ_cons, List.drop_zero]
  refine rl_val (.agg #[.int .i64 1, .int .i64 0, .int .i64 7]) rfl (fun f z y hO hf => ?_) ?_
  · have f0 := (FA.out y hO).1.cell0
    have f1 := (FA.out y hO).1.cell1
    have f2 := (FA.out y hO).1.cell2
    simp at hf
    go_simp
  refine rl_val (.agg #[.int .i64 2, .int .i64 1, .int .i64 0]) rfl (fun f z y hO hf => by kernel_rfl) ?_
  refine rl_val (.agg #[.int .i64 5, .int .i64 1, .int .i64 1]) rfl (fun f z y hO hf => by kernel_rfl) ?_
  refine rl_val (.agg #[.int .i64 4, .int .i64 0, .int .i64 1]) rfl (fun f z y hO hf => by kernel_rfl) ?_
  refine rl_val (.agg #[.int .i64 1, .int .i64 2, .int .i64 (-5)]) rfl (fun f z y hO hf => by kernel_rfl) ?_
  refine rl_val (.agg #[.int .i64 6, .int .i64 0, .int .i64 2]) rfl (fun f z y hO hf => by kernel_rfl) ?_
  refine rl_val (.agg #[.int .i64 7, .int .i64 3, .int .i64 6]) rfl (fun f z y hO hf => by kernel_rfl) ?_
  refine rl_val (.agg #[.int .i64 8, .int .i64 2, .int .i64 3]) rfl (fun f z y hO hf => by kernel_rfl) ?_
  refine rl_val (.agg #[.int .i64 12, .int .i64 0, .int .i64 3]) rfl (fun f z y hO hf => by kernel_rfl) ?_
  refine rl_val (.agg #[.int .i64 9, .int .i64 0, .int .i64 99]) rfl (fun f z y hO hf => by kernel_rfl) ?_
  refine rl_val (.agg #[.int .i64 13, .int .i64 0, .int .i64 0]) rfl (fun f z y hO hf => by kernel_rfl) ?_
  refine rl_val (.agg #[.int .i64 99, .int .i64 0, .int .i64 0]) rfl (fun f z y hO hf => by kernel_rfl) ?_
  refine rl_eff (lsOps LA) rfl rfl List.nodup_nil rfl (loc_ops _) (fun f z y hO hf hc => effL_of (v := .slice (some ⟨y.heap.size, 0, none⟩) 12 12) (w' := y.alloc (.cells (flatO LA).toArray 23)) (by simp at hf; go_simp; rfl) (post_ops (l := LA) (by unfold maxLen; decide))) ?_
  refine rl_eff lsE0 rfl rfl List.nodup_nil rfl loc_E0 (fun f z y hO hf hc => ?_) ?_
  · refine effL_call (F := 8) (args := #[]) (w := y) (by kernel_rfl) ?_
    refine (env_any _).mono ?_
    rintro x y2 ⟨rfl, o⟩
    exact ⟨_, rfl, post_E0 o⟩
  refine rl_eff (lsTup [12] w1.heap.size (EA, (0 : Int), (0 : Int), true)) rfl (by kernel_rfl) (by simp) rfl (loc_tup _ _ _) (fun f z y hO hf hc => ?_) ?_
  · have h49 : z.eval (.tmp 30) = E0.v (.slice none 0 0) := by simp at hf; simp [Act.eval, hf]
    refine effL_call (exec_run (v := z.tmps.getD 29 undef) (.tmp 29) (.tmp 30) rfl rfl h49) ?_
    refine (kA ▸ rule_run (B := 0) (l := LA) E0 (SR.nil 0 y) (by decide) (by decide) (RdP.rdo hc.1 (Nat.le_refl _))).mono ?_
    rintro x y2 ⟨⟨v, rfl, hv⟩, o⟩
    exact ⟨_, rfl, post_tup hO.size hv o⟩
  refine rl_eff (lsTup [14] w1.heap.size (EA, (0 : Int), (0 : Int), true)) rfl (by kernel_rfl) (by simp) rfl (loc_tup _ _ _) (fun f z y hO hf hc => effL_of (exec_move (.tmp 31) rfl rfl) (post_move (v := z.tmps.getD 31 undef) (by simp at hf; simpa using hf.2.2) hc.1 hc.2.1 (fun g hg => List.mem_flatMap.2 ⟨14, by simp, hg⟩))) ?_
  refine rl_eff (lsEnv [15] w1.heap.size (EA, (0 : Int), (0 : Int), true)) rfl (by kernel_rfl) (by simp) rfl (loc_env _ _ _) (fun f z y hO hf hc => eff_ext (v := z.tmps.getD 16 undef) (.tmp 16) rfl rfl hc.1 hc.2.1 (fun g hg => List.mem_flatMap.2 ⟨15, by simp, hg⟩)) ?_
  refine rl_val (faultV (EA, (0 : Int), (0 : Int), true).2.1 (EA, (0 : Int), (0 : Int), true).2.2.1) rfl (fun f z y hO hf => ?_) ?_
  · have h40 : ∃ a n c, z.tmps.getD 16 undef = tupR (EA, (0 : Int), (0 : Int), true) (.slice a n c) := by simp at hf; simpa using hf.2.2
    obtain ⟨a, n, c, h40⟩ := h40
    exact exec_ext (.tmp 16) 1 rfl h40 rfl
  refine rl_val (.bool (EA, (0 : Int), (0 : Int), true).2.2.2) rfl (fun f z y hO hf => ?_) ?_
  · have h40 : ∃ a n c, z.tmps.getD 16 undef = tupR (EA, (0 : Int), (0 : Int), true) (.slice a n c) := by simp at hf; simpa using hf.2.2
    obtain ⟨a, n, c, h40⟩ := h40
    exact exec_ext (.tmp 16) 2 rfl h40 rfl
  refine rl_eff (lsE w1.heap.size) rfl rfl List.nodup_nil rfl (loc_e _) (fun f z y hO hf hc => effL_of (v := .pointer (some ⟨y.heap.size, 0, none⟩)) (w' := y.alloc (.cells (Ev.zero.cells (.slice none 0 0)).toArray 32)) (by kernel_rfl) (post_e hO.size)) ?_
  refine rl_eff (lsF w1.heap.size) rfl rfl List.nodup_nil rfl (loc_f _) (fun f z y hO hf hc => effL_of (v := .pointer (some ⟨y.heap.size, 0, none⟩)) (w' := y.alloc (.cells #[.int .i64 0, .int .i64 0] 34)) (by kernel_rfl) (post_f hO.size)) ?_
  refine rl_eff (lsStE 19 16 w1.heap.size (EA, (0 : Int), (0 : Int), true)) rfl (by kernel_rfl) (by simp) (by kernel_rfl) (loc_ste _ _ _ _) (fun f z y hO hf hc => post_ste (v1 := z.tmps.getD 2 undef) (v2 := z.tmps.getD 32 undef) (.tmp 2) (.tmp 32) rfl rfl rfl (by simp at hf; simp [hf]) (by simp at hf; simp [hf]) hc.1 hc.2.2.2.1 (fun g hg => hc.2.2.1 16 (by simp) g hg) (fun g hg => List.mem_flatMap.2 (hg.elim (fun h => ⟨19, by simp, h⟩) (fun h => ⟨16, by simp, h⟩)))) ?_
  refine rl_eff (lsStF 20 w1.heap.size (EA, (0 : Int), (0 : Int), true).2.1 (EA, (0 : Int), (0 : Int), true).2.2.1) rfl (by kernel_rfl) (by simp) (by kernel_rfl) (loc_stf _ _ _ _) (fun f z y hO hf hc => post_stf (v1 := z.tmps.getD 3 undef) (.tmp 3) (.tmp 33) rfl rfl (by simp at hf; simp [Act.eval, hf]) (by simp at hf; simp [hf]) hc.1 (fun g hg => List.mem_flatMap.2 ⟨20, by simp, hg⟩)) ?_
  intro f w2 hO hF
  simp at hF
  obtain ⟨⟨qa, h20, -, k20⟩, ⟨pa, va, na, ca, ⟨h19, h16⟩, -, k19, k16⟩, -, -, h18, h17, -, ⟨_, _, _, h15⟩, ⟨_, _, _, h14⟩, h13, h11, h10, h9, h8, h7, h6, h5, h4, h3, h2, h1, h0⟩ := hF
  have H2 : Hid (Three w2 p1 (.int .i64 1) (.int .i64 0) (.int .i64 7) ∧ Eb w2 pa EA (.slice va na ca) ∧ Two w2 qa (.int .i64 0) (.int .i64 0) ∧ SR 0 w2 (.slice va na ca) EA.sh ∧ Only [] w w2) := ⟨(FA.out w2 hO).1, k19, k20, k16.lower (Nat.zero_le _), (FA.out w2 hO).2⟩
  clear H1 FA hO k20 k19 k16
  simp only [putsL, Nat.zero_add, Nat.reduceAdd, h20, h19, h16, h18, h17, h15, h14, h13, h11, h10, h9, h8, h7, h6, h5, h4, h3, h2, h1, h0]
  clear h20 h19 h16 h18 h17 h15 h14 h13 h11 h10 h9 h8 h7 h6 h5 h4 h3 h2 h1 h0
  generalize f 12 = u0
  simp only [Act.put, List.setIfInBounds_toArray, List.set_cons_succ, List.set_cons_zero]
  refine op_val (w' := w2) rfl (.bool true) (by kernel_rfl) ?_
  simp only [Act.put, List.setIfInBounds_toArray, List.set_cons_succ, List.set_cons_zero]
  refine wpList_nil ?_
  go_upto_region 3 with fail
  apply wp_region_lit
  refine op_val (w' := w2) rfl (.agg #[.int .i64 1, .int .i64 0, .int .i64 1000000]) (by kernel_rfl) ?_
  refine op_val (w' := w2) rfl (.agg #[.int .i64 3, .int .i64 0, .int .i64 0]) (by kernel_rfl) ?_
  refine op_val (w' := w2) rfl (.agg #[.int .i64 8, .int .i64 0, .int .i64 0]) (by kernel_rfl) ?_
  refine op_val (w' := w2) rfl (.agg #[.int .i64 10, .int .i64 0, .int .i64 4]) (by kernel_rfl) ?_
  refine op_val (w' := w2.alloc (.cells (flatO LB).toArray 23)) rfl (.slice (some ⟨w2.heap.size, 0, none⟩) 4 4) (by kernel_rfl) ?_
  refine op_call (F := 8) (args := #[]) (w1 := w2.alloc (.cells (flatO LB).toArray 23)) rfl (by kernel_rfl) ?_
  refine (env_any _).mono ?_
  rintro x w3 ⟨rfl, o3⟩
  refine ⟨_, rfl, ?_⟩
  have o23 : Only [] w2 w3 := ((Only.refl [] w2).alloc _).trans o3
  refine run_seq (B := 0) (e := E0) (s := .slice none 0 0) (ov := .slice (some ⟨w2.heap.size, 0, none⟩) 4 4) (l := LB) (R := (EB, 0, 0, true)) (SR.nil 0 _) (by decide) (by decide) (rdo_new LB o3) kB rfl rfl rfl rfl rfl rfl rfl rfl rfl rfl (by kernel_rfl) (fun _ _ => by kernel_rfl) (fun _ _ _ _ => by kernel_rfl) (fun _ _ _ _ => by kernel_rfl) (fun _ _ _ _ => by kernel_rfl) rfl rfl _ _ _ _ rfl rfl rfl rfl (fun _ _ _ _ _ => by kernel_rfl) (fun _ _ _ _ _ => by kernel_rfl) (fun _ _ _ _ _ => by kernel_rfl) (fun _ _ _ _ _ => by kernel_rfl) (fun _ _ _ _ _ _ => by kernel_rfl) ?_
  intro w4 vb nb cb pb qb HS
  simp only [AR7, AR5, AR2, Act.put, List.setIfInBounds_toArray, List.set_cons_succ, List.set_cons_zero]
  refine wpList_nil ?_
  have o24 := o23.trans HS.only
  have H4 : Hid (Three w4 p1 (.int .i64 1) (.int .i64 0) (.int .i64 7) ∧ Eb w4 pa EA (.slice va na ca) ∧ Two w4 qa (.int .i64 0) (.int .i64 0) ∧ SR 0 w4 (.slice va na ca) EA.sh ∧ Only [] w w4 ∧ Eb w4 pb EB (.slice vb nb cb)) := ⟨H2.out.1.only o24 (by simp), H2.out.2.1.only o24 (by simp), H2.out.2.2.1.only o24 (by simp), H2.out.2.2.2.1.only o24 (by simp), H2.out.2.2.2.2.trans o24, HS.env⟩
  clear H2 o3 o23 o24 HS
  go_upto_region 4 with fail
  have FA : Hid (∀ y, Only [] w4.drew y → Three y p1 (.int .i64 1) (.int .i64 0) (.int .i64 7) ∧ Eb y pa EA (.slice va na ca) ∧ Two y qa (.int .i64 0) (.int .i64 0) ∧ SR 0 y (.slice va na ca) EA.sh ∧ Only [] w y ∧ Eb y pb EB (.slice vb nb cb)) := fun y hy => by
    have o := (only_drew w4).trans hy
    exact ⟨H4.out.1.only o (by simp), H4.out.2.1.only o (by simp), H4.out.2.2.1.only o (by simp), H4.out.2.2.2.1.only o (by simp), H4.out.2.2.2.2.1.trans o, H4.out.2.2.2.2.2.only o (by simp)⟩
  refine wp_region_lin 13 [(1, .pointer (some ⟨p1, 0, none⟩))] (by intro p hp; simp only [List.mem_cons, List.not_mem_nil, or_false] at hp; rcases hp with rfl; rfl) (by kernel_rfl) (by kernel_rfl) (by decide) (by kernel_rfl) (by kernel_rfl) ?_
  simp only [List.take_succ_cons, List.take_zero, List.drop_succ_cons, List.drop_zero]
  refine rl_val (.agg #[.int .i64 1, .int .i64 0, .int .i64 7]) rfl (fun f z y hO hf => ?_) ?_
  · have f0 := (FA.out y hO).1.cell0
    have f1 := (FA.out y hO).1.cell1
    have f2 := (FA.out y hO).1.cell2
    simp at hf
    go_simp
  refine rl_val (.agg #[.int .i64 11, .int .i64 0, .int .i64 0]) rfl (fun f z y hO hf => by kernel_rfl) ?_
  refine rl_eff (lsOps LC) rfl rfl List.nodup_nil rfl (loc_ops _) (fun f z y hO hf hc => effL_of (v := .slice (some ⟨y.heap.size, 0, none⟩) 2 2) (w' := y.alloc (.cells (flatO LC).toArray 23)) (by simp at hf; go_simp; rfl) (post_ops (l := LC) (by unfold maxLen; decide))) ?_
  refine rl_eff lsE0 rfl rfl List.nodup_nil rfl loc_E0 (fun f z y hO hf hc => ?_) ?_
  · refine effL_call (F := 8) (args := #[]) (w := y) (by kernel_rfl) ?_
    refine (env_any _).mono ?_
    rintro x y2 ⟨rfl, o⟩
    exact ⟨_, rfl, post_E0 o⟩
  refine rl_eff (lsTup [2] w4.heap.size (EC, (0 : Int), (0 : Int), true)) rfl (by kernel_rfl) (by simp) rfl (loc_tup _ _ _) (fun f z y hO hf hc => ?_) ?_
  · have h49 : z.eval (.tmp 50) = E0.v (.slice none 0 0) := by simp at hf; simp [Act.eval, hf]
    refine effL_call (exec_run (v := z.tmps.getD 49 undef) (.tmp 49) (.tmp 50) rfl rfl h49) ?_
    refine (kC ▸ rule_run (B := 0) (l := LC) E0 (SR.nil 0 y) (by decide) (by decide) (RdP.rdo hc.1 (Nat.le_refl _))).mono ?_
    rintro x y2 ⟨⟨v, rfl, hv⟩, o⟩
    exact ⟨_, rfl, post_tup hO.size hv o⟩
  refine rl_eff (lsTup [4] w4.heap.size (EC, (0 : Int), (0 : Int), true)) rfl (by kernel_rfl) (by simp) rfl (loc_tup _ _ _) (fun f z y hO hf hc => effL_of (exec_move (.tmp 51) rfl rfl) (post_move (v := z.tmps.getD 51 undef) (by simp at hf; simpa using hf.2.2) hc.1 hc.2.1 (fun g hg => List.mem_flatMap.2 ⟨4, by simp, hg⟩))) ?_
  refine rl_eff (lsEnv [5] w4.heap.size (EC, (0 : Int), (0 : Int), true)) rfl (by kernel_rfl) (by simp) rfl (loc_env _ _ _) (fun f z y hO hf hc => eff_ext (v := z.tmps.getD 46 undef) (.tmp 46) rfl rfl hc.1 hc.2.1 (fun g hg => List.mem_flatMap.2 ⟨5, by simp, hg⟩)) ?_
  refine rl_val (faultV (EC, (0 : Int), (0 : Int), true).2.1 (EC, (0 : Int), (0 : Int), true).2.2.1) rfl (fun f z y hO hf => ?_) ?_
  · have h40 : ∃ a n c, z.tmps.getD 46 undef = tupR (EC, (0 : Int), (0 : Int), true) (.slice a n c) := by simp at hf; simpa using hf.2.2
    obtain ⟨a, n, c, h40⟩ := h40
    exact exec_ext (.tmp 46) 1 rfl h40 rfl
  refine rl_val (.bool (EC, (0 : Int), (0 : Int), true).2.2.2) rfl (fun f z y hO hf => ?_) ?_
  · have h40 : ∃ a n c, z.tmps.getD 46 undef = tupR (EC, (0 : Int), (0 : Int), true) (.slice a n c) := by simp at hf; simpa using hf.2.2
    obtain ⟨a, n, c, h40⟩ := h40
    exact exec_ext (.tmp 46) 2 rfl h40 rfl
  refine rl_eff (lsE w4.heap.size) rfl rfl List.nodup_nil rfl (loc_e _) (fun f z y hO hf hc => effL_of (v := .pointer (some ⟨y.heap.size, 0, none⟩)) (w' := y.alloc (.cells (Ev.zero.cells (.slice none 0 0)).toArray 32)) (by kernel_rfl) (post_e hO.size)) ?_
  refine rl_eff (lsF w4.heap.size) rfl rfl List.nodup_nil rfl (loc_f _) (fun f z y hO hf hc => effL_of (v := .pointer (some ⟨y.heap.size, 0, none⟩)) (w' := y.alloc (.cells #[.int .i64 0, .int .i64 0] 34)) (by kernel_rfl) (post_f hO.size)) ?_
  refine rl_eff (lsStE 9 6 w4.heap.size (EC, (0 : Int), (0 : Int), true)) rfl (by kernel_rfl) (by simp) (by kernel_rfl) (loc_ste _ _ _ _) (fun f z y hO hf hc => post_ste (v1 := z.tmps.getD 8 undef) (v2 := z.tmps.getD 52 undef) (.tmp 8) (.tmp 52) rfl rfl rfl (by simp at hf; simp [hf]) (by simp at hf; simp [hf]) hc.1 hc.2.2.2.1 (fun g hg => hc.2.2.1 6 (by simp) g hg) (fun g hg => List.mem_flatMap.2 (hg.elim (fun h => ⟨9, by simp, h⟩) (fun h => ⟨6, by simp, h⟩)))) ?_
  refine rl_eff (lsStF 10 w4.heap.size (EC, (0 : Int), (0 : Int), true).2.1 (EC, (0 : Int), (0 : Int), true).2.2.1) rfl (by kernel_rfl) (by simp) (by kernel_rfl) (loc_stf _ _ _ _) (fun f z y hO hf hc => post_stf (v1 := z.tmps.getD 9 undef) (.tmp 9) (.tmp 53) rfl rfl (by simp at hf; simp [Act.eval, hf]) (by simp at hf; simp [hf]) hc.1 (fun g hg => List.mem_flatMap.2 ⟨10, by simp, hg⟩)) ?_
  intro f w5 hO hF
  simp at hF
  obtain ⟨⟨qc, h20, -, k20⟩, ⟨pc, vc, nc, cc, ⟨h19, h16⟩, -, k19, k16⟩, -, -, h18, h17, -, ⟨_, _, _, h15⟩, ⟨_, _, _, h14⟩, h13, h1, h0⟩ := hF
  have H5 : Hid ((Three w5 p1 (.int .i64 1) (.int .i64 0) (.int .i64 7) ∧ Eb w5 pa EA (.slice va na ca) ∧ Two w5 qa (.int .i64 0) (.int .i64 0) ∧ SR 0 w5 (.slice va na ca) EA.sh ∧ Only [] w w5 ∧ Eb w5 pb EB (.slice vb nb cb)) ∧ Eb w5 pc EC (.slice vc nc cc)) := ⟨FA.out w5 hO, k19⟩
  clear H4 FA hO k20 k19 k16
  simp only [putsL, Nat.zero_add, Nat.reduceAdd, h20, h19, h16, h18, h17, h15, h14, h13, h1, h0]
  clear h20 h19 h16 h18 h17 h15 h14 h13 h1 h0
  generalize f 2 = u0
  simp only [Act.put, List.setIfInBounds_toArray, List.set_cons_succ, List.set_cons_zero]
  refine op_val (w' := w5) rfl (.bool true) (by kernel_rfl) ?_
  simp only [Act.put, List.setIfInBounds_toArray, List.set_cons_succ, List.set_cons_zero]
  refine wpList_nil ?_
  go_upto_region 5 with fail
  apply wp_region_lit
  refine op_val (w' := w5) rfl (.agg #[.int .i64 99, .int .i64 0, .int .i64 0]) (by kernel_rfl) ?_
  refine op_val (w' := w5.alloc (.cells (flatO [⟨99, 0, 0⟩]).toArray 23)) rfl (.slice (some ⟨w5.heap.size, 0, none⟩) 1 1) (by kernel_rfl) ?_
  refine op_val (w' := w5.alloc (.cells (flatO [⟨99, 0, 0⟩]).toArray 23)) rfl (Ev.zero.v (.slice none 0 0)) (by kernel_rfl) ?_
  refine run_seq (B := 0) (e := Ev.zero) (s := .slice none 0 0) (ov := .slice (some ⟨w5.heap.size, 0, none⟩) 1 1) (l := [⟨99, 0, 0⟩]) (R := (Ev.zero, 0, 0, false)) (SR.nil 0 _) (by decide) (by decide) (rdo_new [⟨99, 0, 0⟩] (Only.refl [] _)) kD rfl rfl rfl rfl rfl rfl rfl rfl rfl rfl (by kernel_rfl) (fun _ _ => by kernel_rfl) (fun _ _ _ _ => by kernel_rfl) (fun _ _ _ _ => by kernel_rfl) (fun _ _ _ _ => by kernel_rfl) rfl rfl _ _ _ _ rfl rfl rfl rfl (fun _ _ _ _ _ => by kernel_rfl) (fun _ _ _ _ _ => by kernel_rfl) (fun _ _ _ _ _ => by kernel_rfl) (fun _ _ _ _ _ => by kernel_rfl) (fun _ _ _ _ _ _ => by kernel_rfl) ?_
  intro w6 vd nd cd pd qd HS
  simp only [AR7, AR5, AR2, Act.put, List.setIfInBounds_toArray, List.set_cons_succ, List.set_cons_zero]
  refine wpList_nil ?_
  have o56 : Only [] w5 w6 := ((Only.refl [] w5).alloc _).trans HS.only
  have H6 : Hid (Know w w6 p1 pa qa pb qb pc qc pd qd (.slice va na ca) (.slice vb nb cb) (.slice vc nc cc) (.slice vd nd cd)) := by
    obtain ⟨⟨k1, k2, k3, k4, k5, k6⟩, k7⟩ := H5.out
    exact ⟨k1.only o56 (by simp), k2.only o56 (by simp), k3.only o56 (by simp), k4.only o56 (by simp), k6.only o56 (by simp), k7.only o56 (by simp), HS.env, HS.flt, HS.row.lower (Nat.zero_le _), k5.trans o56⟩
  clear H5 HS o56
  go_upto_region 7 with fail
  have H7 : Hid (Know w (w6.alloc (.cells #[.int .i64 12, .int .i64 0, .int .i64 0] 23)) p1 pa qa pb qb pc qc pd qd (.slice va na ca) (.slice vb nb cb) (.slice vc nc cc) (.slice vd nd cd) ∧ Three (w6.alloc (.cells #[.int .i64 12, .int .i64 0, .int .i64 0] 23)) w6.heap.size (.int .i64 12) (.int .i64 0) (.int .i64 0)) := ⟨H6.out.then ((Only.refl [] _).alloc _), Three.new _ _ _ _ _⟩
  clear H6
  change Code.wp _ _ _ _ (w6.alloc (.cells #[.int .i64 12, .int .i64 0, .int .i64 0] 23))
  generalize w6.alloc (.cells #[.int .i64 12, .int .i64 0, .int .i64 0] 23) = w7 at *
  generalize w6.heap.size = pf at *
  apply wp_region_lit
  refine opg_call (F := 9) (args := #[]) (w1 := w7) (by kernel_rfl) (by kernel_rfl) ?_
  refine (known_any _).mono ?_
  rintro x w8 ⟨rfl, o8⟩
  refine ⟨_, rfl, ?_⟩
  simp only [Act.put, List.setIfInBounds_toArray, List.set_cons_succ, List.set_cons_zero]
  have H8 : Hid (Know w w8 p1 pa qa pb qb pc qc pd qd (.slice va na ca) (.slice vb nb cb) (.slice vc nc cc) (.slice vd nd cd) ∧ Three w8 pf (.int .i64 12) (.int .i64 0) (.int .i64 0)) := ⟨H7.out.1.then o8, H7.out.2.only o8 (by simp)⟩
  clear H7 o8
  obtain ⟨g, hva, -, hg⟩ := H8.out.1.ra.at_ 0 (by decide)
  subst hva
  have a7 : w8.cell? ⟨pa, 7, none⟩ = some (.int .i64 8) := H8.out.1.ea.blk.cell 7
  have a8 : w8.cell? ⟨pa, 8, none⟩ = some (.int .i64 49) := H8.out.1.ea.blk.cell 8
  have a9 : w8.cell? ⟨pa, 9, none⟩ = some (.int .i64 (-5)) := H8.out.1.ea.blk.cell 9
  have a10 : w8.cell? ⟨pa, 10, none⟩ = some (.int .i64 (-64)) := H8.out.1.ea.blk.cell 10
  have a4 : w8.cell? ⟨pa, 4, none⟩ = some (.int .i64 (-64)) := H8.out.1.ea.blk.cell 4
  have hna : na = 1 := by
    obtain ⟨a, c, e, -⟩ := H8.out.1.ra.form
    injection e
  subst hna
  have s4 : w8.cell? ⟨g, 4, none⟩ = some (.int .i64 8) := hg 4 _ rfl
  have s5 : w8.cell? ⟨g, 5, none⟩ = some (.int .i64 (-64)) := hg 5 _ rfl
  clear hg
  refine opg_val (w' := w8) (by kernel_rfl) (.bool true) (by kernel_rfl) ?_
  simp only [Act.put, List.setIfInBounds_toArray, List.set_cons_succ, List.set_cons_zero]
  refine opg_val (w' := w8) (by kernel_rfl) (.bool true) (by kernel_rfl) ?_
  simp only [Act.put, List.setIfInBounds_toArray, List.set_cons_succ, List.set_cons_zero]
  refine opg_val (w' := w8) (by kernel_rfl) (.bool true) (by kernel_rfl) ?_
  simp only [Act.put, List.setIfInBounds_toArray, List.set_cons_succ, List.set_cons_zero]
  refine opg_val (w' := w8) (by kernel_rfl) (.bool true) (by kernel_rfl) ?_
  simp only [Act.put, List.setIfInBounds_toArray, List.set_cons_succ, List.set_cons_zero]
  refine opg_two (p := qa) (by kernel_rfl) (.tmp 3) rfl (by kernel_rfl) H8.out.1.fa ?_
  simp only [Act.put, List.setIfInBounds_toArray, List.set_cons_succ, List.set_cons_zero]
  refine opg_val (w' := w8) (by kernel_rfl) (.agg #[.int .i64 0, .int .i64 0]) (by kernel_rfl) ?_
  simp only [Act.put, List.setIfInBounds_toArray, List.set_cons_succ, List.set_cons_zero]
  refine opg_val (w' := w8) (by kernel_rfl) (.bool true) (by kernel_rfl) ?_
  simp only [Act.put, List.setIfInBounds_toArray, List.set_cons_succ, List.set_cons_zero]
  refine opg_val (w' := w8) (by kernel_rfl) (.bool true) (by kernel_rfl) ?_
  simp only [Act.put, List.setIfInBounds_toArray, List.set_cons_succ, List.set_cons_zero]
  refine opg_val (w' := w8) (by kernel_rfl) (.bool true) (by kernel_rfl) ?_
  simp only [Act.put, List.setIfInBounds_toArray, List.set_cons_succ, List.set_cons_zero]
  refine opg_val (w' := w8) (by kernel_rfl) (.pointer (some ⟨pa, 0, none⟩)) (by kernel_rfl) ?_
  simp only [Act.put, List.setIfInBounds_toArray, List.set_cons_succ, List.set_cons_zero]
  refine opg_val (w' := w8) (by kernel_rfl) (.pointer (some ⟨pa, 7, none⟩)) (by kernel_rfl) ?_
  simp only [Act.put, List.setIfInBounds_toArray, List.set_cons_succ, List.set_cons_zero]
  refine opg_val (w' := w8) (by kernel_rfl) (.agg #[.int .i64 8, .int .i64 49, .int .i64 (-5), .int .i64 (-64)]) (by simp only [execOp]; go_simp) ?_
  simp only [Act.put, List.setIfInBounds_toArray, List.set_cons_succ, List.set_cons_zero]
  refine opg_val (w' := w8) (by kernel_rfl) (.agg #[.int .i64 8, .int .i64 49, .int .i64 (-5), .int .i64 (-64)]) (by kernel_rfl) ?_
  simp only [Act.put, List.setIfInBounds_toArray, List.set_cons_succ, List.set_cons_zero]
  refine opg_val (w' := w8) (by kernel_rfl) (.bool true) (by kernel_rfl) ?_
  simp only [Act.put, List.setIfInBounds_toArray, List.set_cons_succ, List.set_cons_zero]
  refine opg_val (w' := w8) (by kernel_rfl) (.bool true) (by kernel_rfl) ?_
  simp only [Act.put, List.setIfInBounds_toArray, List.set_cons_succ, List.set_cons_zero]
  refine opg_val (w' := w8) (by kernel_rfl) (.bool true) (by kernel_rfl) ?_
  simp only [Act.put, List.setIfInBounds_toArray, List.set_cons_succ, List.set_cons_zero]
  refine opg_val (w' := w8) (by kernel_rfl) (.pointer (some ⟨pa, 0, none⟩)) (by kernel_rfl) ?_
  simp only [Act.put, List.setIfInBounds_toArray, List.set_cons_succ, List.set_cons_zero]
  refine opg_val (w' := w8) (by kernel_rfl) (.pointer (some ⟨pa, 4, none⟩)) (by kernel_rfl) ?_
  simp only [Act.put, List.setIfInBounds_toArray, List.set_cons_succ, List.set_cons_zero]
  refine opg_val (w' := w8) (by kernel_rfl) (.int .i64 (-64)) (by (have hcell : w8.cell? ⟨pa, 4, none⟩ = some (.int .i64 (-64)) := H8.out.1.ea.blk.cell 4; go_simp)) ?_
  simp only [Act.put, List.setIfInBounds_toArray, List.set_cons_succ, List.set_cons_zero]
  refine opg_val (w' := w8) (by kernel_rfl) (.bool true) (by kernel_rfl) ?_
  simp only [Act.put, List.setIfInBounds_toArray, List.set_cons_succ, List.set_cons_zero]
  refine opg_val (w' := w8) (by kernel_rfl) (.bool true) (by kernel_rfl) ?_
  simp only [Act.put, List.setIfInBounds_toArray, List.set_cons_succ, List.set_cons_zero]
  refine opg_val (w' := w8) (by kernel_rfl) (.bool true) (by kernel_rfl) ?_
  simp only [Act.put, List.setIfInBounds_toArray, List.set_cons_succ, List.set_cons_zero]
  refine opg_val (w' := w8) (by kernel_rfl) (.pointer (some ⟨pa, 17, none⟩)) (by kernel_rfl) ?_
  simp only [Act.put, List.setIfInBounds_toArray, List.set_cons_succ, List.set_cons_zero]
  refine opg_val (w' := w8) (by kernel_rfl) (.slice (some ⟨g, 0, none⟩) 1 ca) (by (have hcell : w8.cell? ⟨pa, 17, none⟩ = some (.slice (some ⟨g, 0, none⟩) 1 ca) := H8.out.1.ea.blk.cell 17; go_simp)) ?_
  simp only [Act.put, List.setIfInBounds_toArray, List.set_cons_succ, List.set_cons_zero]
  refine opg_val (w' := w8) (by kernel_rfl) (.int .i64 1) (by kernel_rfl) ?_
  simp only [Act.put, List.setIfInBounds_toArray, List.set_cons_succ, List.set_cons_zero]
  refine opg_val (w' := w8) (by kernel_rfl) (.bool true) (by kernel_rfl) ?_
  simp only [Act.put, List.setIfInBounds_toArray, List.set_cons_succ, List.set_cons_zero]
  refine opg_val (w' := w8) (by kernel_rfl) (.bool true) (by kernel_rfl) ?_
  simp only [Act.put, List.setIfInBounds_toArray, List.set_cons_succ, List.set_cons_zero]
  refine opg_val (w' := w8) (by kernel_rfl) (.bool true) (by kernel_rfl) ?_
  simp only [Act.put, List.setIfInBounds_toArray, List.set_cons_succ, List.set_cons_zero]
  refine opg_val (w' := w8) (by kernel_rfl) (.pointer (some ⟨pa, 17, none⟩)) (by kernel_rfl) ?_
  simp only [Act.put, List.setIfInBounds_toArray, List.set_cons_succ, List.set_cons_zero]
  refine opg_val (w' := w8) (by kernel_rfl) (.slice (some ⟨g, 0, none⟩) 1 ca) (by (have hcell : w8.cell? ⟨pa, 17, none⟩ = some (.slice (some ⟨g, 0, none⟩) 1 ca) := H8.out.1.ea.blk.cell 17; go_simp)) ?_
  simp only [Act.put, List.setIfInBounds_toArray, List.set_cons_succ, List.set_cons_zero]
  refine opg_val (w' := w8) (by kernel_rfl) (.pointer (some ⟨g, 0, none⟩)) (by kernel_rfl) ?_
  simp only [Act.put, List.setIfInBounds_toArray, List.set_cons_succ, List.set_cons_zero]
  refine opg_val (w' := w8) (by kernel_rfl) (.pointer (some ⟨g, 4, none⟩)) (by kernel_rfl) ?_
  simp only [Act.put, List.setIfInBounds_toArray, List.set_cons_succ, List.set_cons_zero]
  refine opg_val (w' := w8) (by kernel_rfl) (.int .i64 8) (by (have hcell : w8.cell? ⟨g, 4, none⟩ = some (.int .i64 8) := s4; go_simp)) ?_
  simp only [Act.put, List.setIfInBounds_toArray, List.set_cons_succ, List.set_cons_zero]
  refine opg_val (w' := w8) (by kernel_rfl) (.bool true) (by kernel_rfl) ?_
  simp only [Act.put, List.setIfInBounds_toArray, List.set_cons_succ, List.set_cons_zero]
  refine opg_val (w' := w8) (by kernel_rfl) (.bool true) (by kernel_rfl) ?_
  simp only [Act.put, List.setIfInBounds_toArray, List.set_cons_succ, List.set_cons_zero]
  refine opg_val (w' := w8) (by kernel_rfl) (.bool true) (by kernel_rfl) ?_
  simp only [Act.put, List.setIfInBounds_toArray, List.set_cons_succ, List.set_cons_zero]
  refine opg_val (w' := w8) (by kernel_rfl) (.pointer (some ⟨pa, 17, none⟩)) (by kernel_rfl) ?_
  simp only [Act.put, List.setIfInBounds_toArray, List.set_cons_succ, List.set_cons_zero]
  refine opg_val (w' := w8) (by kernel_rfl) (.slice (some ⟨g, 0, none⟩) 1 ca) (by (have hcell : w8.cell? ⟨pa, 17, none⟩ = some (.slice (some ⟨g, 0, none⟩) 1 ca) := H8.out.1.ea.blk.cell 17; go_simp)) ?_
  simp only [Act.put, List.setIfInBounds_toArray, List.set_cons_succ, List.set_cons_zero]
  refine opg_val (w' := w8) (by kernel_rfl) (.pointer (some ⟨g, 0, none⟩)) (by kernel_rfl) ?_
  simp only [Act.put, List.setIfInBounds_toArray, List.set_cons_succ, List.set_cons_zero]
  refine opg_val (w' := w8) (by kernel_rfl) (.pointer (some ⟨g, 5, none⟩)) (by kernel_rfl) ?_
  simp only [Act.put, List.setIfInBounds_toArray, List.set_cons_succ, List.set_cons_zero]
  refine opg_val (w' := w8) (by kernel_rfl) (.int .i64 (-64)) (by (have hcell : w8.cell? ⟨g, 5, none⟩ = some (.int .i64 (-64)) := s5; go_simp)) ?_
  simp only [Act.put, List.setIfInBounds_toArray, List.set_cons_succ, List.set_cons_zero]
  refine opg_val (w' := w8) (by kernel_rfl) (.bool true) (by kernel_rfl) ?_
  simp only [Act.put, List.setIfInBounds_toArray, List.set_cons_succ, List.set_cons_zero]
  refine opg_val (w' := w8) (by kernel_rfl) (.bool true) (by kernel_rfl) ?_
  simp only [Act.put, List.setIfInBounds_toArray, List.set_cons_succ, List.set_cons_zero]
  refine opg_val (w' := w8) (by kernel_rfl) (.bool true) (by kernel_rfl) ?_
  simp only [Act.put, List.setIfInBounds_toArray, List.set_cons_succ, List.set_cons_zero]
  refine opg_val (w' := w8) (by kernel_rfl) (.bool true) (by kernel_rfl) ?_
  simp only [Act.put, List.setIfInBounds_toArray, List.set_cons_succ, List.set_cons_zero]
  refine opg_val (w' := w8) (by kernel_rfl) (.bool true) (by kernel_rfl) ?_
  simp only [Act.put, List.setIfInBounds_toArray, List.set_cons_succ, List.set_cons_zero]
  refine opg_val (w' := w8) (by kernel_rfl) (.bool true) (by kernel_rfl) ?_
  simp only [Act.put, List.setIfInBounds_toArray, List.set_cons_succ, List.set_cons_zero]
  refine opg_val (w' := w8) (by kernel_rfl) (.pointer (some ⟨pb, 0, none⟩)) (by kernel_rfl) ?_
  simp only [Act.put, List.setIfInBounds_toArray, List.set_cons_succ, List.set_cons_zero]
  refine opg_val (w' := w8) (by kernel_rfl) (.pointer (some ⟨pb, 7, none⟩)) (by kernel_rfl) ?_
  simp only [Act.put, List.setIfInBounds_toArray, List.set_cons_succ, List.set_cons_zero]
  refine opg_val (w' := w8) (by kernel_rfl) (.pointer (some ⟨pb, 7, none⟩)) (by kernel_rfl) ?_
  simp only [Act.put, List.setIfInBounds_toArray, List.set_cons_succ, List.set_cons_zero]
  refine opg_val (w' := w8) (by kernel_rfl) (.int .i64 1000000) (by (have hcell : w8.cell? ⟨pb, 7, none⟩ = some (.int .i64 1000000) := H8.out.1.eb.blk.cell 7; go_simp)) ?_
  simp only [Act.put, List.setIfInBounds_toArray, List.set_cons_succ, List.set_cons_zero]
  refine opg_val (w' := w8) (by kernel_rfl) (.bool true) (by kernel_rfl) ?_
  simp only [Act.put, List.setIfInBounds_toArray, List.set_cons_succ, List.set_cons_zero]
  refine opg_val (w' := w8) (by kernel_rfl) (.bool true) (by kernel_rfl) ?_
  simp only [Act.put, List.setIfInBounds_toArray, List.set_cons_succ, List.set_cons_zero]
  refine opg_val (w' := w8) (by kernel_rfl) (.bool true) (by kernel_rfl) ?_
  simp only [Act.put, List.setIfInBounds_toArray, List.set_cons_succ, List.set_cons_zero]
  refine opg_val (w' := w8) (by kernel_rfl) (.pointer (some ⟨pb, 0, none⟩)) (by kernel_rfl) ?_
  simp only [Act.put, List.setIfInBounds_toArray, List.set_cons_succ, List.set_cons_zero]
  refine opg_val (w' := w8) (by kernel_rfl) (.pointer (some ⟨pb, 2, none⟩)) (by kernel_rfl) ?_
  simp only [Act.put, List.setIfInBounds_toArray, List.set_cons_succ, List.set_cons_zero]
  refine opg_val (w' := w8) (by kernel_rfl) (.int .i64 4095) (by (have hcell : w8.cell? ⟨pb, 2, none⟩ = some (.int .i64 4095) := H8.out.1.eb.blk.cell 2; go_simp)) ?_
  simp only [Act.put, List.setIfInBounds_toArray, List.set_cons_succ, List.set_cons_zero]
  refine opg_val (w' := w8) (by kernel_rfl) (.bool true) (by kernel_rfl) ?_
  simp only [Act.put, List.setIfInBounds_toArray, List.set_cons_succ, List.set_cons_zero]
  refine opg_val (w' := w8) (by kernel_rfl) (.bool true) (by kernel_rfl) ?_
  simp only [Act.put, List.setIfInBounds_toArray, List.set_cons_succ, List.set_cons_zero]
  refine opg_val (w' := w8) (by kernel_rfl) (.bool true) (by kernel_rfl) ?_
  simp only [Act.put, List.setIfInBounds_toArray, List.set_cons_succ, List.set_cons_zero]
  refine opg_val (w' := w8) (by kernel_rfl) (.bool true) (by kernel_rfl) ?_
  simp only [Act.put, List.setIfInBounds_toArray, List.set_cons_succ, List.set_cons_zero]
  refine opg_val (w' := w8) (by kernel_rfl) (.bool true) (by kernel_rfl) ?_
  simp only [Act.put, List.setIfInBounds_toArray, List.set_cons_succ, List.set_cons_zero]
  refine opg_val (w' := w8) (by kernel_rfl) (.bool true) (by kernel_rfl) ?_
  simp only [Act.put, List.setIfInBounds_toArray, List.set_cons_succ, List.set_cons_zero]
  refine opg_val (w' := w8) (by kernel_rfl) (.pointer (some ⟨pc, 15, none⟩)) (by kernel_rfl) ?_
  simp only [Act.put, List.setIfInBounds_toArray, List.set_cons_succ, List.set_cons_zero]
  refine opg_val (w' := w8) (by kernel_rfl) (.int .u64 EC.d) (by (have hcell : w8.cell? ⟨pc, 15, none⟩ = some (.int .u64 EC.d) := H8.out.1.ec.blk.cell 15; go_simp)) ?_
  simp only [Act.put, List.setIfInBounds_toArray, List.set_cons_succ, List.set_cons_zero]
  refine opg_val (w' := w8) (by kernel_rfl) (.bool true) (by kernel_rfl) ?_
  simp only [Act.put, List.setIfInBounds_toArray, List.set_cons_succ, List.set_cons_zero]
  refine opg_val (w' := w8) (by kernel_rfl) (.bool true) (by kernel_rfl) ?_
  simp only [Act.put, List.setIfInBounds_toArray, List.set_cons_succ, List.set_cons_zero]
  refine opg_val (w' := w8) (by kernel_rfl) (.bool true) (by kernel_rfl) ?_
  simp only [Act.put, List.setIfInBounds_toArray, List.set_cons_succ, List.set_cons_zero]
  refine opg_val (w' := w8) (by kernel_rfl) (.pointer (some ⟨pc, 0, none⟩)) (by kernel_rfl) ?_
  simp only [Act.put, List.setIfInBounds_toArray, List.set_cons_succ, List.set_cons_zero]
  refine opg_val (w' := w8) (by kernel_rfl) (.pointer (some ⟨pc, 7, none⟩)) (by kernel_rfl) ?_
  simp only [Act.put, List.setIfInBounds_toArray, List.set_cons_succ, List.set_cons_zero]
  refine opg_val (w' := w8) (by kernel_rfl) (.pointer (some ⟨pc, 7, none⟩)) (by kernel_rfl) ?_
  simp only [Act.put, List.setIfInBounds_toArray, List.set_cons_succ, List.set_cons_zero]
  refine opg_val (w' := w8) (by kernel_rfl) (.int .i64 EC.b.m0) (by (have hcell : w8.cell? ⟨pc, 7, none⟩ = some (.int .i64 EC.b.m0) := H8.out.1.ec.blk.cell 7; go_simp)) ?_
  simp only [Act.put, List.setIfInBounds_toArray, List.set_cons_succ, List.set_cons_zero]
  refine opg_val (w' := w8) (by kernel_rfl) (.bool true) (by kernel_rfl) ?_
  simp only [Act.put, List.setIfInBounds_toArray, List.set_cons_succ, List.set_cons_zero]
  refine opg_val (w' := w8) (by kernel_rfl) (.bool true) (by kernel_rfl) ?_
  simp only [Act.put, List.setIfInBounds_toArray, List.set_cons_succ, List.set_cons_zero]
  refine opg_val (w' := w8) (by kernel_rfl) (.bool true) (by kernel_rfl) ?_
  simp only [Act.put, List.setIfInBounds_toArray, List.set_cons_succ, List.set_cons_zero]
  refine opg_val (w' := w8) (by kernel_rfl) (.pointer (some ⟨pc, 0, none⟩)) (by kernel_rfl) ?_
  simp only [Act.put, List.setIfInBounds_toArray, List.set_cons_succ, List.set_cons_zero]
  refine opg_val (w' := w8) (by kernel_rfl) (.pointer (some ⟨pc, 7, none⟩)) (by kernel_rfl) ?_
  simp only [Act.put, List.setIfInBounds_toArray, List.set_cons_succ, List.set_cons_zero]
  refine opg_val (w' := w8) (by kernel_rfl) (.pointer (some ⟨pc, 7, none⟩)) (by kernel_rfl) ?_
  simp only [Act.put, List.setIfInBounds_toArray, List.set_cons_succ, List.set_cons_zero]
  refine opg_val (w' := w8) (by kernel_rfl) (.int .i64 EC.b.m0) (by (have hcell : w8.cell? ⟨pc, 7, none⟩ = some (.int .i64 EC.b.m0) := H8.out.1.ec.blk.cell 7; go_simp)) ?_
  simp only [Act.put, List.setIfInBounds_toArray, List.set_cons_succ, List.set_cons_zero]
  refine opg_val (w' := w8) (by kernel_rfl) (.bool true) (by kernel_rfl) ?_
  simp only [Act.put, List.setIfInBounds_toArray, List.set_cons_succ, List.set_cons_zero]
  refine opg_val (w' := w8) (by kernel_rfl) (.bool true) (by kernel_rfl) ?_
  simp only [Act.put, List.setIfInBounds_toArray, List.set_cons_succ, List.set_cons_zero]
  refine opg_val (w' := w8) (by kernel_rfl) (.bool true) (by kernel_rfl) ?_
  simp only [Act.put, List.setIfInBounds_toArray, List.set_cons_succ, List.set_cons_zero]
  refine opg_val (w' := w8) (by kernel_rfl) (.bool false) (by kernel_rfl) ?_
  simp only [Act.put, List.setIfInBounds_toArray, List.set_cons_succ, List.set_cons_zero]
  refine opg_val (w' := w8) (by kernel_rfl) (.bool true) (by kernel_rfl) ?_
  simp only [Act.put, List.setIfInBounds_toArray, List.set_cons_succ, List.set_cons_zero]
  refine opg_val (w' := w8) (by kernel_rfl) (.bool true) (by kernel_rfl) ?_
  simp only [Act.put, List.setIfInBounds_toArray, List.set_cons_succ, List.set_cons_zero]
  refine opg_val (w' := w8) (by kernel_rfl) (.bool true) (by kernel_rfl) ?_
  simp only [Act.put, List.setIfInBounds_toArray, List.set_cons_succ, List.set_cons_zero]
  refine opg_two (p := qd) (by kernel_rfl) (.tmp 12) rfl (by kernel_rfl) H8.out.1.fd ?_
  simp only [Act.put, List.setIfInBounds_toArray, List.set_cons_succ, List.set_cons_zero]
  refine opg_val (w' := w8) (by kernel_rfl) (.agg #[.int .i64 0, .int .i64 0]) (by kernel_rfl) ?_
  simp only [Act.put, List.setIfInBounds_toArray, List.set_cons_succ, List.set_cons_zero]
  refine opg_val (w' := w8) (by kernel_rfl) (.bool true) (by kernel_rfl) ?_
  simp only [Act.put, List.setIfInBounds_toArray, List.set_cons_succ, List.set_cons_zero]
  refine opg_val (w' := w8) (by kernel_rfl) (.bool true) (by kernel_rfl) ?_
  simp only [Act.put, List.setIfInBounds_toArray, List.set_cons_succ, List.set_cons_zero]
  refine opg_val (w' := w8) (by kernel_rfl) (.bool true) (by kernel_rfl) ?_
  simp only [Act.put, List.setIfInBounds_toArray, List.set_cons_succ, List.set_cons_zero]
  refine opg_env (p := pd) (by kernel_rfl) (.tmp 11) rfl (by kernel_rfl) H8.out.1.ed ?_
  simp only [Act.put, List.setIfInBounds_toArray, List.set_cons_succ, List.set_cons_zero]
  refine opg_val (w' := w8) (by kernel_rfl) (Ev.zero.v (.slice none 0 0)) (by kernel_rfl) ?_
  simp only [Act.put, List.setIfInBounds_toArray, List.set_cons_succ, List.set_cons_zero]
  refine opg_call (F := 10) (args := #[Ev.zero.v (.slice vd nd cd), Ev.zero.v (.slice none 0 0)]) (w1 := w8) (by kernel_rfl) (by kernel_rfl) ?_
  refine (same_any (B1 := 0) (B2 := 0) Ev.zero Ev.zero H8.out.1.rd (SR.nil 0 _) (by decide) (by decide)).mono ?_
  rintro x w9 ⟨rfl, o⟩
  refine ⟨_, rfl, ?_⟩
  rw [Ev.same_self]
  simp only [Act.put, List.setIfInBounds_toArray, List.set_cons_succ, List.set_cons_zero]
  have H9 : Hid (Know w w9 p1 pa qa pb qb pc qc pd qd (.slice (some ⟨g, 0, none⟩) 1 ca) (.slice vb nb cb) (.slice vc nc cc) (.slice vd nd cd) ∧ Three w9 pf (.int .i64 12) (.int .i64 0) (.int .i64 0)) := ⟨H8.out.1.then o, H8.out.2.only o (by simp)⟩
  clear H8 o
  refine opg_val (w' := w9) (by kernel_rfl) (.bool true) (by kernel_rfl) ?_
  simp only [Act.put, List.setIfInBounds_toArray, List.set_cons_succ, List.set_cons_zero]
  refine opg_val (w' := w9) (by kernel_rfl) (.bool true) (by kernel_rfl) ?_
  simp only [Act.put, List.setIfInBounds_toArray, List.set_cons_succ, List.set_cons_zero]
  refine opg_three (p := p1) (by kernel_rfl) (.tmp 1) rfl (by kernel_rfl) H9.out.1.set ?_
  simp only [Act.put, List.setIfInBounds_toArray, List.set_cons_succ, List.set_cons_zero]
  refine opg_val (w' := w9) (by kernel_rfl) (.agg #[.int .i64 0, .int .i64 0, .int .i64 0]) (by kernel_rfl) ?_
  simp only [Act.put, List.setIfInBounds_toArray, List.set_cons_succ, List.set_cons_zero]
  refine opg_val (w' := w9.alloc (.cells (flatO [⟨1, 0, 7⟩, ⟨0, 0, 0⟩]).toArray 23)) (by kernel_rfl) (.slice (some ⟨w9.heap.size, 0, none⟩) 2 2) (by kernel_rfl) ?_
  simp only [Act.put, List.setIfInBounds_toArray, List.set_cons_succ, List.set_cons_zero]
  refine opg_call (F := 11) (args := #[.int .i64 4, .int .i64 1, .slice (some ⟨w9.heap.size, 0, none⟩) 2 2]) (w1 := (w9.alloc (.cells (flatO [⟨1, 0, 7⟩, ⟨0, 0, 0⟩]).toArray 23))) (by kernel_rfl) (by kernel_rfl) ?_
  refine (faults_any (c := 4) (a := 1) (l := [⟨1, 0, 7⟩, ⟨0, 0, 0⟩]) (rdo_new [⟨1, 0, 7⟩, ⟨0, 0, 0⟩] (Only.refl [] _)) (by decide) (by kernel_rfl)).mono ?_
  rintro x w10 ⟨rfl, o⟩
  refine ⟨_, rfl, ?_⟩
  simp only [Act.put, List.setIfInBounds_toArray, List.set_cons_succ, List.set_cons_zero]
  have o' : Only [] w9 w10 := ((Only.refl [] _).alloc _).trans o
  clear o
  have H10 : Hid (Know w w10 p1 pa qa pb qb pc qc pd qd (.slice (some ⟨g, 0, none⟩) 1 ca) (.slice vb nb cb) (.slice vc nc cc) (.slice vd nd cd) ∧ Three w10 pf (.int .i64 12) (.int .i64 0) (.int .i64 0)) := ⟨H9.out.1.then o', H9.out.2.only o' (by simp)⟩
  clear H9 o'
  refine opg_val (w' := w10) (by kernel_rfl) (.bool true) (by kernel_rfl) ?_
  simp only [Act.put, List.setIfInBounds_toArray, List.set_cons_succ, List.set_cons_zero]
  refine opg_val (w' := w10) (by kernel_rfl) (.bool true) (by kernel_rfl) ?_
  simp only [Act.put, List.setIfInBounds_toArray, List.set_cons_succ, List.set_cons_zero]
  refine opg_val (w' := w10) (by kernel_rfl) (.agg #[.int .i64 1, .int .i64 4, .int .i64 0]) (by kernel_rfl) ?_
  simp only [Act.put, List.setIfInBounds_toArray, List.set_cons_succ, List.set_cons_zero]
  refine opg_val (w' := w10.alloc (.cells (flatO [⟨1, 4, 0⟩]).toArray 23)) (by kernel_rfl) (.slice (some ⟨w10.heap.size, 0, none⟩) 1 1) (by kernel_rfl) ?_
  simp only [Act.put, List.setIfInBounds_toArray, List.set_cons_succ, List.set_cons_zero]
  refine opg_call (F := 11) (args := #[.int .i64 2, .int .i64 0, .slice (some ⟨w10.heap.size, 0, none⟩) 1 1]) (w1 := (w10.alloc (.cells (flatO [⟨1, 4, 0⟩]).toArray 23))) (by kernel_rfl) (by kernel_rfl) ?_
  refine (faults_any (c := 2) (a := 0) (l := [⟨1, 4, 0⟩]) (rdo_new [⟨1, 4, 0⟩] (Only.refl [] _)) (by decide) (by kernel_rfl)).mono ?_
  rintro x w11 ⟨rfl, o⟩
  refine ⟨_, rfl, ?_⟩
  simp only [Act.put, List.setIfInBounds_toArray, List.set_cons_succ, List.set_cons_zero]
  have o' : Only [] w10 w11 := ((Only.refl [] _).alloc _).trans o
  clear o
  have H11 : Hid (Know w w11 p1 pa qa pb qb pc qc pd qd (.slice (some ⟨g, 0, none⟩) 1 ca) (.slice vb nb cb) (.slice vc nc cc) (.slice vd nd cd) ∧ Three w11 pf (.int .i64 12) (.int .i64 0) (.int .i64 0)) := ⟨H10.out.1.then o', H10.out.2.only o' (by simp)⟩
  clear H10 o'
  refine opg_val (w' := w11) (by kernel_rfl) (.bool true) (by kernel_rfl) ?_
  simp only [Act.put, List.setIfInBounds_toArray, List.set_cons_succ, List.set_cons_zero]
  refine opg_val (w' := w11) (by kernel_rfl) (.bool true) (by kernel_rfl) ?_
  simp only [Act.put, List.setIfInBounds_toArray, List.set_cons_succ, List.set_cons_zero]
  refine opg_val (w' := w11) (by kernel_rfl) (.agg #[.int .i64 8, .int .i64 99, .int .i64 (-1)]) (by kernel_rfl) ?_
  simp only [Act.put, List.setIfInBounds_toArray, List.set_cons_succ, List.set_cons_zero]
  refine opg_val (w' := w11.alloc (.cells (flatO [⟨8, 99, -1⟩]).toArray 23)) (by kernel_rfl) (.slice (some ⟨w11.heap.size, 0, none⟩) 1 1) (by kernel_rfl) ?_
  simp only [Act.put, List.setIfInBounds_toArray, List.set_cons_succ, List.set_cons_zero]
  refine opg_call (F := 11) (args := #[.int .i64 2, .int .i64 0, .slice (some ⟨w11.heap.size, 0, none⟩) 1 1]) (w1 := (w11.alloc (.cells (flatO [⟨8, 99, -1⟩]).toArray 23))) (by kernel_rfl) (by kernel_rfl) ?_
  refine (faults_any (c := 2) (a := 0) (l := [⟨8, 99, -1⟩]) (rdo_new [⟨8, 99, -1⟩] (Only.refl [] _)) (by decide) (by kernel_rfl)).mono ?_
  rintro x w12 ⟨rfl, o⟩
  refine ⟨_, rfl, ?_⟩
  simp only [Act.put, List.setIfInBounds_toArray, List.set_cons_succ, List.set_cons_zero]
  have o' : Only [] w11 w12 := ((Only.refl [] _).alloc _).trans o
  clear o
  have H12 : Hid (Know w w12 p1 pa qa pb qb pc qc pd qd (.slice (some ⟨g, 0, none⟩) 1 ca) (.slice vb nb cb) (.slice vc nc cc) (.slice vd nd cd) ∧ Three w12 pf (.int .i64 12) (.int .i64 0) (.int .i64 0)) := ⟨H11.out.1.then o', H11.out.2.only o' (by simp)⟩
  clear H11 o'
  refine opg_val (w' := w12) (by kernel_rfl) (.bool true) (by kernel_rfl) ?_
  simp only [Act.put, List.setIfInBounds_toArray, List.set_cons_succ, List.set_cons_zero]
  refine opg_val (w' := w12) (by kernel_rfl) (.bool true) (by kernel_rfl) ?_
  simp only [Act.put, List.setIfInBounds_toArray, List.set_cons_succ, List.set_cons_zero]
  refine opg_val (w' := w12) (by kernel_rfl) (.agg #[.int .i64 8, .int .i64 4, .int .i64 0]) (by kernel_rfl) ?_
  simp only [Act.put, List.setIfInBounds_toArray, List.set_cons_succ, List.set_cons_zero]
  refine opg_val (w' := w12.alloc (.cells (flatO [⟨8, 4, 0⟩]).toArray 23)) (by kernel_rfl) (.slice (some ⟨w12.heap.size, 0, none⟩) 1 1) (by kernel_rfl) ?_
  simp only [Act.put, List.setIfInBounds_toArray, List.set_cons_succ, List.set_cons_zero]
  refine opg_call (F := 11) (args := #[.int .i64 3, .int .i64 0, .slice (some ⟨w12.heap.size, 0, none⟩) 1 1]) (w1 := (w12.alloc (.cells (flatO [⟨8, 4, 0⟩]).toArray 23))) (by kernel_rfl) (by kernel_rfl) ?_
  refine (faults_any (c := 3) (a := 0) (l := [⟨8, 4, 0⟩]) (rdo_new [⟨8, 4, 0⟩] (Only.refl [] _)) (by decide) (by kernel_rfl)).mono ?_
  rintro x w13 ⟨rfl, o⟩
  refine ⟨_, rfl, ?_⟩
  simp only [Act.put, List.setIfInBounds_toArray, List.set_cons_succ, List.set_cons_zero]
  have o' : Only [] w12 w13 := ((Only.refl [] _).alloc _).trans o
  clear o
  have H13 : Hid (Know w w13 p1 pa qa pb qb pc qc pd qd (.slice (some ⟨g, 0, none⟩) 1 ca) (.slice vb nb cb) (.slice vc nc cc) (.slice vd nd cd) ∧ Three w13 pf (.int .i64 12) (.int .i64 0) (.int .i64 0)) := ⟨H12.out.1.then o', H12.out.2.only o' (by simp)⟩
  clear H12 o'
  refine opg_val (w' := w13) (by kernel_rfl) (.bool true) (by kernel_rfl) ?_
  simp only [Act.put, List.setIfInBounds_toArray, List.set_cons_succ, List.set_cons_zero]
  refine opg_val (w' := w13) (by kernel_rfl) (.bool true) (by kernel_rfl) ?_
  simp only [Act.put, List.setIfInBounds_toArray, List.set_cons_succ, List.set_cons_zero]
  refine opg_val (w' := w13) (by kernel_rfl) (.agg #[.int .i64 7, .int .i64 0, .int .i64 8]) (by kernel_rfl) ?_
  simp only [Act.put, List.setIfInBounds_toArray, List.set_cons_succ, List.set_cons_zero]
  refine opg_val (w' := w13.alloc (.cells (flatO [⟨7, 0, 8⟩]).toArray 23)) (by kernel_rfl) (.slice (some ⟨w13.heap.size, 0, none⟩) 1 1) (by kernel_rfl) ?_
  simp only [Act.put, List.setIfInBounds_toArray, List.set_cons_succ, List.set_cons_zero]
  refine opg_call (F := 11) (args := #[.int .i64 3, .int .i64 0, .slice (some ⟨w13.heap.size, 0, none⟩) 1 1]) (w1 := (w13.alloc (.cells (flatO [⟨7, 0, 8⟩]).toArray 23))) (by kernel_rfl) (by kernel_rfl) ?_
  refine (faults_any (c := 3) (a := 0) (l := [⟨7, 0, 8⟩]) (rdo_new [⟨7, 0, 8⟩] (Only.refl [] _)) (by decide) (by kernel_rfl)).mono ?_
  rintro x w14 ⟨rfl, o⟩
  refine ⟨_, rfl, ?_⟩
  simp only [Act.put, List.setIfInBounds_toArray, List.set_cons_succ, List.set_cons_zero]
  have o' : Only [] w13 w14 := ((Only.refl [] _).alloc _).trans o
  clear o
  have H14 : Hid (Know w w14 p1 pa qa pb qb pc qc pd qd (.slice (some ⟨g, 0, none⟩) 1 ca) (.slice vb nb cb) (.slice vc nc cc) (.slice vd nd cd) ∧ Three w14 pf (.int .i64 12) (.int .i64 0) (.int .i64 0)) := ⟨H13.out.1.then o', H13.out.2.only o' (by simp)⟩
  clear H13 o'
  refine opg_val (w' := w14) (by kernel_rfl) (.bool true) (by kernel_rfl) ?_
  simp only [Act.put, List.setIfInBounds_toArray, List.set_cons_succ, List.set_cons_zero]
  refine opg_val (w' := w14) (by kernel_rfl) (.bool true) (by kernel_rfl) ?_
  simp only [Act.put, List.setIfInBounds_toArray, List.set_cons_succ, List.set_cons_zero]
  refine opg_val (w' := w14) (by kernel_rfl) (.agg #[.int .i64 11, .int .i64 0, .int .i64 0]) (by kernel_rfl) ?_
  simp only [Act.put, List.setIfInBounds_toArray, List.set_cons_succ, List.set_cons_zero]
  refine opg_val (w' := w14.alloc (.cells (flatO [⟨11, 0, 0⟩]).toArray 23)) (by kernel_rfl) (.slice (some ⟨w14.heap.size, 0, none⟩) 1 1) (by kernel_rfl) ?_
  simp only [Act.put, List.setIfInBounds_toArray, List.set_cons_succ, List.set_cons_zero]
  refine opg_call (F := 11) (args := #[.int .i64 6, .int .i64 0, .slice (some ⟨w14.heap.size, 0, none⟩) 1 1]) (w1 := (w14.alloc (.cells (flatO [⟨11, 0, 0⟩]).toArray 23))) (by kernel_rfl) (by kernel_rfl) ?_
  refine (faults_any (c := 6) (a := 0) (l := [⟨11, 0, 0⟩]) (rdo_new [⟨11, 0, 0⟩] (Only.refl [] _)) (by decide) (by kernel_rfl)).mono ?_
  rintro x w15 ⟨rfl, o⟩
  refine ⟨_, rfl, ?_⟩
  simp only [Act.put, List.setIfInBounds_toArray, List.set_cons_succ, List.set_cons_zero]
  have o' : Only [] w14 w15 := ((Only.refl [] _).alloc _).trans o
  clear o
  have H15 : Hid (Know w w15 p1 pa qa pb qb pc qc pd qd (.slice (some ⟨g, 0, none⟩) 1 ca) (.slice vb nb cb) (.slice vc nc cc) (.slice vd nd cd) ∧ Three w15 pf (.int .i64 12) (.int .i64 0) (.int .i64 0)) := ⟨H14.out.1.then o', H14.out.2.only o' (by simp)⟩
  clear H14 o'
  refine opg_val (w' := w15) (by kernel_rfl) (.bool true) (by kernel_rfl) ?_
  simp only [Act.put, List.setIfInBounds_toArray, List.set_cons_succ, List.set_cons_zero]
  refine opg_val (w' := w15) (by kernel_rfl) (.bool true) (by kernel_rfl) ?_
  simp only [Act.put, List.setIfInBounds_toArray, List.set_cons_succ, List.set_cons_zero]
  refine opg_three (p := pf) (by kernel_rfl) (.tmp 14) rfl (by kernel_rfl) H15.out.2 ?_
  simp only [Act.put, List.setIfInBounds_toArray, List.set_cons_succ, List.set_cons_zero]
  refine opg_three (p := pf) (by kernel_rfl) (.tmp 14) rfl (by kernel_rfl) H15.out.2 ?_
  simp only [Act.put, List.setIfInBounds_toArray, List.set_cons_succ, List.set_cons_zero]
  refine opg_three (p := pf) (by kernel_rfl) (.tmp 14) rfl (by kernel_rfl) H15.out.2 ?_
  simp only [Act.put, List.setIfInBounds_toArray, List.set_cons_succ, List.set_cons_zero]
  refine opg_val (w' := w15.alloc (.cells (flatO [⟨12, 0, 0⟩, ⟨12, 0, 0⟩, ⟨12, 0, 0⟩]).toArray 23)) (by kernel_rfl) (.slice (some ⟨w15.heap.size, 0, none⟩) 3 3) (by kernel_rfl) ?_
  simp only [Act.put, List.setIfInBounds_toArray, List.set_cons_succ, List.set_cons_zero]
  refine opg_call (F := 11) (args := #[.int .i64 7, .int .i64 2, .slice (some ⟨w15.heap.size, 0, none⟩) 3 3]) (w1 := (w15.alloc (.cells (flatO [⟨12, 0, 0⟩, ⟨12, 0, 0⟩, ⟨12, 0, 0⟩]).toArray 23))) (by kernel_rfl) (by kernel_rfl) ?_
  refine (faults_any (c := 7) (a := 2) (l := [⟨12, 0, 0⟩, ⟨12, 0, 0⟩, ⟨12, 0, 0⟩]) (rdo_new [⟨12, 0, 0⟩, ⟨12, 0, 0⟩, ⟨12, 0, 0⟩] (Only.refl [] _)) (by decide) (by kernel_rfl)).mono ?_
  rintro x w16 ⟨rfl, o⟩
  refine ⟨_, rfl, ?_⟩
  simp only [Act.put, List.setIfInBounds_toArray, List.set_cons_succ, List.set_cons_zero]
  have o' : Only [] w15 w16 := ((Only.refl [] _).alloc _).trans o
  clear o
  have H16 : Hid (Know w w16 p1 pa qa pb qb pc qc pd qd (.slice (some ⟨g, 0, none⟩) 1 ca) (.slice vb nb cb) (.slice vc nc cc) (.slice vd nd cd) ∧ Three w16 pf (.int .i64 12) (.int .i64 0) (.int .i64 0)) := ⟨H15.out.1.then o', H15.out.2.only o' (by simp)⟩
  clear H15 o'
  refine opg_val (w' := w16) (by kernel_rfl) (.bool true) (by kernel_rfl) ?_
  simp only [Act.put, List.setIfInBounds_toArray, List.set_cons_succ, List.set_cons_zero]
  refine opg_val (w' := w16) (by kernel_rfl) (.bool true) (by kernel_rfl) ?_
  simp only [Act.put, List.setIfInBounds_toArray, List.set_cons_succ, List.set_cons_zero]
  refine opg_val (w' := w16) (by kernel_rfl) (.agg #[.int .i64 10, .int .i64 0, .int .i64 2]) (by kernel_rfl) ?_
  simp only [Act.put, List.setIfInBounds_toArray, List.set_cons_succ, List.set_cons_zero]
  refine opg_val (w' := w16.alloc (.cells (flatO [⟨10, 0, 2⟩]).toArray 23)) (by kernel_rfl) (.slice (some ⟨w16.heap.size, 0, none⟩) 1 1) (by kernel_rfl) ?_
  simp only [Act.put, List.setIfInBounds_toArray, List.set_cons_succ, List.set_cons_zero]
  refine opg_call (F := 11) (args := #[.int .i64 4, .int .i64 0, .slice (some ⟨w16.heap.size, 0, none⟩) 1 1]) (w1 := (w16.alloc (.cells (flatO [⟨10, 0, 2⟩]).toArray 23))) (by kernel_rfl) (by kernel_rfl) ?_
  refine (faults_any (c := 4) (a := 0) (l := [⟨10, 0, 2⟩]) (rdo_new [⟨10, 0, 2⟩] (Only.refl [] _)) (by decide) (by kernel_rfl)).mono ?_
  rintro x w17 ⟨rfl, o⟩
  refine ⟨_, rfl, ?_⟩
  simp only [Act.put, List.setIfInBounds_toArray, List.set_cons_succ, List.set_cons_zero]
  have o' : Only [] w16 w17 := ((Only.refl [] _).alloc _).trans o
  clear o
  have H17 : Hid (Know w w17 p1 pa qa pb qb pc qc pd qd (.slice (some ⟨g, 0, none⟩) 1 ca) (.slice vb nb cb) (.slice vc nc cc) (.slice vd nd cd) ∧ Three w17 pf (.int .i64 12) (.int .i64 0) (.int .i64 0)) := ⟨H16.out.1.then o', H16.out.2.only o' (by simp)⟩
  clear H16 o'
  refine opg_val (w' := w17) (by kernel_rfl) (.bool true) (by kernel_rfl) ?_
  simp only [Act.put, List.setIfInBounds_toArray, List.set_cons_succ, List.set_cons_zero]
  refine opg_val (w' := w17) (by kernel_rfl) (.bool true) (by kernel_rfl) ?_
  simp only [Act.put, List.setIfInBounds_toArray, List.set_cons_succ, List.set_cons_zero]
  refine opg_val (w' := w17) (by kernel_rfl) (.agg #[.int .i64 9, .int .i64 0, .int .i64 (-1)]) (by kernel_rfl) ?_
  simp only [Act.put, List.setIfInBounds_toArray, List.set_cons_succ, List.set_cons_zero]
  refine opg_val (w' := w17.alloc (.cells (flatO [⟨9, 0, -1⟩]).toArray 23)) (by kernel_rfl) (.slice (some ⟨w17.heap.size, 0, none⟩) 1 1) (by kernel_rfl) ?_
  simp only [Act.put, List.setIfInBounds_toArray, List.set_cons_succ, List.set_cons_zero]
  refine opg_call (F := 11) (args := #[.int .i64 4, .int .i64 0, .slice (some ⟨w17.heap.size, 0, none⟩) 1 1]) (w1 := (w17.alloc (.cells (flatO [⟨9, 0, -1⟩]).toArray 23))) (by kernel_rfl) (by kernel_rfl) ?_
  refine (faults_any (c := 4) (a := 0) (l := [⟨9, 0, -1⟩]) (rdo_new [⟨9, 0, -1⟩] (Only.refl [] _)) (by decide) (by kernel_rfl)).mono ?_
  rintro x w18 ⟨rfl, o⟩
  refine ⟨_, rfl, ?_⟩
  simp only [Act.put, List.setIfInBounds_toArray, List.set_cons_succ, List.set_cons_zero]
  have o' : Only [] w17 w18 := ((Only.refl [] _).alloc _).trans o
  clear o
  have H18 : Hid (Know w w18 p1 pa qa pb qb pc qc pd qd (.slice (some ⟨g, 0, none⟩) 1 ca) (.slice vb nb cb) (.slice vc nc cc) (.slice vd nd cd) ∧ Three w18 pf (.int .i64 12) (.int .i64 0) (.int .i64 0)) := ⟨H17.out.1.then o', H17.out.2.only o' (by simp)⟩
  clear H17 o'
  refine opg_val (w' := w18) (by kernel_rfl) (.bool true) (by kernel_rfl) ?_
  simp only [Act.put, List.setIfInBounds_toArray, List.set_cons_succ, List.set_cons_zero]
  refine opg_val (w' := w18) (by kernel_rfl) (.bool true) (by kernel_rfl) ?_
  simp only [Act.put, List.setIfInBounds_toArray, List.set_cons_succ, List.set_cons_zero]
  refine opg_val (w' := w18) (by kernel_rfl) (.agg #[.int .i64 10, .int .i64 0, .int .i64 0]) (by kernel_rfl) ?_
  simp only [Act.put, List.setIfInBounds_toArray, List.set_cons_succ, List.set_cons_zero]
  refine opg_val (w' := w18.alloc (.cells (flatO [⟨10, 0, 0⟩]).toArray 23)) (by kernel_rfl) (.slice (some ⟨w18.heap.size, 0, none⟩) 1 1) (by kernel_rfl) ?_
  simp only [Act.put, List.setIfInBounds_toArray, List.set_cons_succ, List.set_cons_zero]
  refine opg_call (F := 11) (args := #[.int .i64 5, .int .i64 0, .slice (some ⟨w18.heap.size, 0, none⟩) 1 1]) (w1 := (w18.alloc (.cells (flatO [⟨10, 0, 0⟩]).toArray 23))) (by kernel_rfl) (by kernel_rfl) ?_
  refine (faults_any (c := 5) (a := 0) (l := [⟨10, 0, 0⟩]) (rdo_new [⟨10, 0, 0⟩] (Only.refl [] _)) (by decide) (by kernel_rfl)).mono ?_
  rintro x w19 ⟨rfl, o⟩
  refine ⟨_, rfl, ?_⟩
  simp only [Act.put, List.setIfInBounds_toArray, List.set_cons_succ, List.set_cons_zero]
  have o' : Only [] w18 w19 := ((Only.refl [] _).alloc _).trans o
  clear o
  have H19 : Hid (Know w w19 p1 pa qa pb qb pc qc pd qd (.slice (some ⟨g, 0, none⟩) 1 ca) (.slice vb nb cb) (.slice vc nc cc) (.slice vd nd cd) ∧ Three w19 pf (.int .i64 12) (.int .i64 0) (.int .i64 0)) := ⟨H18.out.1.then o', H18.out.2.only o' (by simp)⟩
  clear H18 o'
  refine opg_val (w' := w19) (by kernel_rfl) (.bool true) (by kernel_rfl) ?_
  simp only [Act.put, List.setIfInBounds_toArray, List.set_cons_succ, List.set_cons_zero]
  refine opg_val (w' := w19) (by kernel_rfl) (.bool true) (by kernel_rfl) ?_
  simp only [Act.put, List.setIfInBounds_toArray, List.set_cons_succ, List.set_cons_zero]
  refine opg_three (p := p1) (by kernel_rfl) (.tmp 1) rfl (by kernel_rfl) H19.out.1.set ?_
  simp only [Act.put, List.setIfInBounds_toArray, List.set_cons_succ, List.set_cons_zero]
  refine opg_val (w' := w19.alloc (.cells (flatO [⟨1, 0, 7⟩]).toArray 23)) (by kernel_rfl) (.slice (some ⟨w19.heap.size, 0, none⟩) 1 1) (by kernel_rfl) ?_
  simp only [Act.put, List.setIfInBounds_toArray, List.set_cons_succ, List.set_cons_zero]
  refine opg_call (F := 12) (args := #[.slice (some ⟨w19.heap.size, 0, none⟩) 1 1]) (w1 := (w19.alloc (.cells (flatO [⟨1, 0, 7⟩]).toArray 23))) (by kernel_rfl) (by kernel_rfl) ?_
  refine (right_any' (l := [⟨1, 0, 7⟩]) (rdo_new [⟨1, 0, 7⟩] (Only.refl [] _)) (by decide)).mono ?_
  rintro x w20 ⟨rfl, o⟩
  rw [show Rule.right [⟨1, 0, 7⟩] = true from by kernel_rfl]
  refine ⟨_, rfl, ?_⟩
  simp only [Act.put, List.setIfInBounds_toArray, List.set_cons_succ, List.set_cons_zero]
  have o' : Only [] w19 w20 := ((Only.refl [] _).alloc _).trans o
  clear o
  have H20 : Hid (Know w w20 p1 pa qa pb qb pc qc pd qd (.slice (some ⟨g, 0, none⟩) 1 ca) (.slice vb nb cb) (.slice vc nc cc) (.slice vd nd cd) ∧ Three w20 pf (.int .i64 12) (.int .i64 0) (.int .i64 0)) := ⟨H19.out.1.then o', H19.out.2.only o' (by simp)⟩
  clear H19 o'
  refine opg_val (w' := w20) (by kernel_rfl) (.bool true) (by kernel_rfl) ?_
  simp only [Act.put, List.setIfInBounds_toArray, List.set_cons_succ, List.set_cons_zero]
  refine opg_val (w' := w20) (by kernel_rfl) (.bool true) (by kernel_rfl) ?_
  simp only [Act.put, List.setIfInBounds_toArray, List.set_cons_succ, List.set_cons_zero]
  refine opg_val (w' := w20) (by kernel_rfl) (.agg #[.int .i64 99, .int .i64 0, .int .i64 0]) (by kernel_rfl) ?_
  simp only [Act.put, List.setIfInBounds_toArray, List.set_cons_succ, List.set_cons_zero]
  refine opg_val (w' := w20.alloc (.cells (flatO [⟨99, 0, 0⟩]).toArray 23)) (by kernel_rfl) (.slice (some ⟨w20.heap.size, 0, none⟩) 1 1) (by kernel_rfl) ?_
  simp only [Act.put, List.setIfInBounds_toArray, List.set_cons_succ, List.set_cons_zero]
  refine opg_call (F := 12) (args := #[.slice (some ⟨w20.heap.size, 0, none⟩) 1 1]) (w1 := (w20.alloc (.cells (flatO [⟨99, 0, 0⟩]).toArray 23))) (by kernel_rfl) (by kernel_rfl) ?_
  refine (right_any' (l := [⟨99, 0, 0⟩]) (rdo_new [⟨99, 0, 0⟩] (Only.refl [] _)) (by decide)).mono ?_
  rintro x w21 ⟨rfl, o⟩
  rw [show Rule.right [⟨99, 0, 0⟩] = false from by kernel_rfl]
  refine ⟨_, rfl, ?_⟩
  simp only [Act.put, List.setIfInBounds_toArray, List.set_cons_succ, List.set_cons_zero]
  have o' : Only [] w20 w21 := ((Only.refl [] _).alloc _).trans o
  clear o
  have H21 : Hid (Know w w21 p1 pa qa pb qb pc qc pd qd (.slice (some ⟨g, 0, none⟩) 1 ca) (.slice vb nb cb) (.slice vc nc cc) (.slice vd nd cd) ∧ Three w21 pf (.int .i64 12) (.int .i64 0) (.int .i64 0)) := ⟨H20.out.1.then o', H20.out.2.only o' (by simp)⟩
  clear H20 o'
  refine opg_val (w' := w21) (by kernel_rfl) (.bool true) (by kernel_rfl) ?_
  simp only [Act.put, List.setIfInBounds_toArray, List.set_cons_succ, List.set_cons_zero]
  refine opg_val (w' := w21) (by kernel_rfl) (.bool true) (by kernel_rfl) ?_
  simp only [Act.put, List.setIfInBounds_toArray, List.set_cons_succ, List.set_cons_zero]
  refine opg_val (w' := w21) (by kernel_rfl) (.bool true) (by kernel_rfl) ?_
  simp only [Act.put, List.setIfInBounds_toArray, List.set_cons_succ, List.set_cons_zero]
  refine opg_val (w' := w21.alloc (.cells (flatO (List.replicate 17 ⟨0, 0, 0⟩)).toArray 23)) (by kernel_rfl) (.slice (some ⟨w21.heap.size, 0, none⟩) 17 17) (by kernel_rfl) ?_
  simp only [Act.put, List.setIfInBounds_toArray, List.set_cons_succ, List.set_cons_zero]
  refine opg_call (F := 12) (args := #[.slice (some ⟨w21.heap.size, 0, none⟩) 17 17]) (w1 := (w21.alloc (.cells (flatO (List.replicate 17 ⟨0, 0, 0⟩)).toArray 23))) (by kernel_rfl) (by kernel_rfl) ?_
  refine (right_any' (l := (List.replicate 17 ⟨0, 0, 0⟩)) (rdo_new (List.replicate 17 ⟨0, 0, 0⟩) (Only.refl [] _)) (by decide)).mono ?_
  rintro x w22 ⟨rfl, o⟩
  rw [show Rule.right (List.replicate 17 ⟨0, 0, 0⟩) = false from by kernel_rfl]
  refine ⟨_, rfl, ?_⟩
  simp only [Act.put, List.setIfInBounds_toArray, List.set_cons_succ, List.set_cons_zero]
  have o' : Only [] w21 w22 := ((Only.refl [] _).alloc _).trans o
  clear o
  have H22 : Hid (Know w w22 p1 pa qa pb qb pc qc pd qd (.slice (some ⟨g, 0, none⟩) 1 ca) (.slice vb nb cb) (.slice vc nc cc) (.slice vd nd cd) ∧ Three w22 pf (.int .i64 12) (.int .i64 0) (.int .i64 0)) := ⟨H21.out.1.then o', H21.out.2.only o' (by simp)⟩
  clear H21 o'
  refine opg_val (w' := w22) (by kernel_rfl) (.bool true) (by kernel_rfl) ?_
  simp only [Act.put, List.setIfInBounds_toArray, List.set_cons_succ, List.set_cons_zero]
  refine opg_val (w' := w22) (by kernel_rfl) (.bool true) (by kernel_rfl) ?_
  simp only [Act.put, List.setIfInBounds_toArray, List.set_cons_succ, List.set_cons_zero]
  refine opg_val (w' := w22) (by kernel_rfl) (.bool true) (by kernel_rfl) ?_
  simp only [Act.put, List.setIfInBounds_toArray, List.set_cons_zero]
  refine wpList_nil ?_
  go_wp2_with fail
  go_ret
  exact ⟨rfl, H22.out.1.only⟩
end Go.Proofs.Ytnicjbllkdpgcaa.ruleKnown

/- RuleStops: the walk. -/
import Derived.Test.YtnicjbllkdpgcaaRunDraw
import Derived.Test.YtnicjbllkdpgcaaRuleStr
import Derived.Test.YtnicjbllkdpgcaaEnvOf
namespace Go.Proofs.Ytnicjbllkdpgcaa.ruleStops
open Go.RowKit
set_option linter.unusedVariables false

theorem run_len (l : List Op3) (e : Ev) : (Rule.run l e).1.sh.length ≤ e.sh.length + 64 := by
  have h := go_inv l 64 0 e (by omega) (by omega)
  unfold Rule.run
  by_cases hs : Body.some e.b = true
  · rw [if_pos hs]
    cases hg : Rule.go l 64 0 e with
    | fault c a => simp
    | done e' =>
      rw [hg] at h
      obtain ⟨ll, h1, h2, _⟩ := (show Keeps 64 e e' from h).sh
      simp only [h1, List.length_append]
      omega
  · rw [if_neg hs]; simp
/-- one run, with what stands behind a Stop and without; both lists at once, and in two runs -/
theorem stops_cases (p q : List Op3) (s : Op3) (e : Ev) (hp : ∀ o ∈ p, Straight o) (hq : ∀ o ∈ q, Straight o) (lp : p.length ≤ 7) (lq : q.length ≤ 7) (h13 : s.c = 13) :
    Rule.run ((p ++ [s]) ++ q) e = Rule.run p e ∧
    (((Rule.run p e).2.2.2 = false ∧ (Rule.run (p ++ q) e).2.2.2 = false) ∨
     ((Rule.run p e).2.2.2 = true ∧ (((Rule.run (p ++ q) e).2.2.2 = false ∧ (Rule.run q (Rule.run p e).1).2.2.2 = false) ∨
       ((Rule.run (p ++ q) e).2.2.2 = true ∧ (Rule.run q (Rule.run p e).1).2.2.2 = true ∧ (Rule.run (p ++ q) e).1 = (Rule.run q (Rule.run p e).1).1)))) := by
  by_cases hs : Body.some e.b = true
  rotate_left
  · have hf : Body.some e.b = false := by simpa using hs
    rw [run_bad hf, run_bad hf, run_bad hf]
    exact ⟨rfl, Or.inl ⟨rfl, rfl⟩⟩
  have g1 := go_run p e hp (by omega)
  have g2 := go_stop p q s e hp (by omega) h13
  have g3 := go_both p q e hp hq (by omega)
  have inv := go_inv p 64 0 e (by omega) (by omega)
  rw [List.append_assoc, List.singleton_append]
  cases hl : Rule.lin p 0 e with
  | fault c a =>
    rw [hl] at g1 g2 g3
    rw [run_fault hs g1, run_fault hs g2, run_fault hs g3]
    exact ⟨rfl, Or.inl ⟨rfl, rfl⟩⟩
  | done e1 =>
    rw [hl] at g1 g2 g3
    rw [run_done hs g1, run_done hs g2]
    refine ⟨rfl, Or.inr ⟨rfl, ?_⟩⟩
    rw [g1] at inv
    have hs1 := (show Keeps 64 e e1 from inv).ok hs
    have g4 := go_run q e1 hq (by omega)
    rcases lin_at q p.length 0 e1 with ⟨c, a, b, k1, k2⟩ | ⟨e2, k1, k2⟩
    · simp only [k1] at g3
      rw [k2] at g4
      rw [run_fault hs g3, run_fault hs1 g4]
      exact Or.inl ⟨rfl, rfl⟩
    · simp only [k1] at g3
      rw [k2] at g4
      rw [run_done hs g3, run_done hs1 g4]
      exact Or.inr ⟨rfl, rfl, rfl⟩
theorem came_on {w w' : World} {s : Value} {n : Nat} {f : Nat → Nat → Int} (h : CameR 3 w s n f) (o : Only [] w w') : CameR 3 w' s n f := by
  obtain ⟨a, cap, rfl, h1, h2, h3⟩ := h
  refine ⟨a, cap, rfl, h1, h2, ?_⟩
  rcases h3 with h3 | ⟨b, off, rfl, hb, hc⟩
  · exact Or.inl h3
  · exact Or.inr ⟨b, off, rfl, Nat.lt_of_lt_of_le hb o.size, fun i j hi hj => ⟨(o.cell hb (by simp)).trans (hc i j hi hj).1, (hc i j hi hj).2⟩⟩
theorem camei_on {w w' : World} {s : Value} {ms : List Int} (h : CameI .i64 w s ms) (o : Only [] w w') : CameI .i64 w' s ms := by
  obtain ⟨ma, mcap, g1, g2, g3, g4, g5⟩ := h
  refine ⟨ma, mcap, g1, g2, g3, g4, ?_⟩
  rcases g5 with g5 | ⟨b, off, g5, g6, g7⟩
  · exact Or.inl g5
  · exact Or.inr ⟨b, off, g5, Nat.lt_of_lt_of_le g6 o.size, fun i hi => (o.cell g6 (by simp)).trans (g7 i hi)⟩
/-- what the law has laid -/
structure Lay (w W : World) (q : Nat) (r : Re) (pv qv : Value) (pl ql : List Op3) : Prop where
  raw : Blk W q r.cells
  one : SO 0 W pv pl
  two : SO 0 W qv ql
  only : Only [] w W
theorem Lay.then {w W W' : World} {q : Nat} {r : Re} {pv qv : Value} {pl ql : List Op3} (h : Lay w W q r pv qv pl ql) (o : Only [] W W') : Lay w W' q r pv qv pl ql :=
  ⟨h.raw.only o (by simp), h.one.only o (by simp), h.two.only o (by simp), h.only.trans o⟩
set_option maxRecDepth 100000 in
set_option maxHeartbeats 4000000 in
theorem stops_any {s0 s1 : Value} {n0 n1 : Nat} {a0 a1 : Nat → Nat → Int} (r : Re) (ms : List Int) (w : World) (h0 : CameR 3 w s0 n0 a0) (h1 : CameR 3 w s1 n1 a1) (h2 : CameI .i64 w r.m ms) :
    Calls Try.prog 6 #[s0, s1, r.v] w fun e w' => e = .returned (.bool true) ∧ Only [] w w' := by
  have hnot : ∀ (x : Bool) (w : World), (Op.unary .not (.bool x)).run Try.prog w = .ok (.bool (!x)) w := fun _ _ => rfl
  have H0 : Hid (Blk (w.alloc (.cells r.cells.toArray 46)) w.heap.size r.cells ∧ Only [] w (w.alloc (.cells r.cells.toArray 46))) := ⟨Blk.new w _ _, (Only.refl [] _).alloc _⟩
  have C0 : Hid _ := h0
  have C1 : Hid _ := h1
  have CM : Hid _ := h2
  obtain ⟨d0, cap0, rfl, m0, -⟩ := ruleTotal.came_at h0
  obtain ⟨d1, cap1, rfl, m1, -⟩ := ruleTotal.came_at h1
  clear h0 h1 h2
  go_enter Try.func6, Try.ntmps6
  go_upto_region 1 with fail
  change Code.wp _ _ _ _ (w.alloc (.cells r.cells.toArray 46))
  generalize w.alloc (.cells r.cells.toArray 46) = W at *
  obtain ⟨q, hq⟩ : ∃ q, w.heap.size = q := ⟨_, rfl⟩
  simp only [hq] at H0 ⊢
  clear hq
  go_wp2_with fail
  refine (known_any _).mono ?_
  rintro x w1 ⟨rfl, o1⟩
  have H1 : Hid (Blk w1 q r.cells ∧ Only [] w w1) := ⟨H0.out.1.only o1 (by simp), H0.out.2.trans o1⟩
  clear H0 o1
  go_wp2_with fail
  refine (straight_any w1 (came_on C0.out H1.out.2)).mono ?_
  rintro x w2 ⟨pv, pl, rfl, hpl, hP⟩
  have H2 : Hid (Blk w2 q r.cells ∧ Only [] w w2 ∧ SO 0 w2 pv pl) := ⟨H1.out.1.only hP.only (by simp), H1.out.2.trans hP.only, hP.row.lower (by omega)⟩
  have SP : Hid (∀ o ∈ pl, Straight o) := hP.all
  clear H1 hP
  go_wp2_with fail
  refine (straight_any w2 (came_on C1.out H2.out.2.1)).mono ?_
  rintro x w3 ⟨qv, ql, rfl, hql, hQ⟩
  have H3 : Hid (Lay w w3 q r pv qv pl ql) := ⟨H2.out.1.only hQ.only (by simp), H2.out.2.2.only hQ.only (by simp), hQ.row.lower (by omega), H2.out.2.1.trans hQ.only⟩
  have SQ : Hid (∀ o ∈ ql, Straight o) := hQ.all
  clear H2 hQ
  obtain ⟨pa, pc, hpv, -⟩ := H3.out.one.form
  obtain ⟨qa, qc, hqv, -⟩ := H3.out.two.form
  obtain ⟨Np, hNp⟩ : ∃ n, pl.length = n := ⟨_, rfl⟩
  obtain ⟨Nq, hNq⟩ : ∃ n, ql.length = n := ⟨_, rfl⟩
  have HNP : Hid _ := hNp
  have HNQ : Hid _ := hNq
  rw [hNp] at hpv hpl
  rw [hNq] at hqv hql
  subst hpv hqv
  clear hNp hNq
  go_upto_region 6 with fail
  apply wp_region_lit
  refine op_loads rfl (cs := r.cells) 46 _ rfl rfl Try.underlying46 (by kernel_rfl) H3.out.raw.whole ?_
  refine op_call (F := 14) (args := #[r.v]) (w1 := w3) rfl (by kernel_rfl) ?_
  refine (envOf_any r ms w3 (camei_on CM.out H3.out.only)).mono ?_
  rintro x w4 ⟨⟨e, rfl, he1, he2, he3⟩, o4⟩
  refine ⟨_, rfl, ?_⟩
  have H4 : Hid (Lay w w4 q r (.slice pa Np pc) (.slice qa Nq qc) pl ql) := H3.out.then o4
  clear o4 H3
  refine op_val (w' := w4.alloc (.cells (Ev.zero.cells (.slice none 0 0)).toArray 32)) rfl (.pointer (some ⟨w4.heap.size, 0, none⟩)) (by kernel_rfl) ?_
  refine op_storeE (p := w4.heap.size) (e := e) (s := .slice none 0 0) rfl _ _ rfl rfl rfl (Eb.new Ev.zero _ _ _) rfl ?_
  intro w5 hb o5 hz5
  have o45 : Only [] w4 w5 := ((Only.refl [] w4).alloc _).then o5 (fun u hu hl => by have h2 : u = w4.heap.size := (by simpa using hu); omega)
  have H5 : Hid (Lay w w5 q r (.slice pa Np pc) (.slice qa Nq qc) pl ql ∧ Eb w5 w4.heap.size e (.slice none 0 0)) := ⟨H4.out.then o45, hb⟩
  clear o45 hb o5 hz5 H4
  generalize w4.heap.size = p at *
  refine wpList_nil ?_
  go_upto_region 7 with fail
  apply wp_region_lit
  refine op_val (w' := w5) rfl (.slice pa Np pc) (by kernel_rfl) ?_
  refine op_env rfl _ rfl rfl H5.out.2 ?_
  obtain ⟨R1, hR1⟩ : ∃ R, Rule.run pl e = R := ⟨_, rfl⟩
  have HR1 : Hid _ := hR1
  refine run_seq (B := 0) (e := e) (s := .slice none 0 0) (ov := .slice pa Np pc) (l := pl) (R := R1) (he3 ▸ SR.nil 0 _) (by rw [he3]; simp) (by rw [HNP.out]; omega) (H5.out.1.one.rd.rdo (Nat.le_refl _)) hR1 rfl rfl rfl rfl rfl rfl rfl rfl rfl rfl (by kernel_rfl) (fun _ _ => by kernel_rfl) (fun _ _ _ _ => by kernel_rfl) (fun _ _ _ _ => by kernel_rfl) (fun _ _ _ _ => by kernel_rfl) rfl rfl _ _ _ _ rfl rfl rfl rfl (fun _ _ _ _ _ => by kernel_rfl) (fun _ _ _ _ _ => by kernel_rfl) (fun _ _ _ _ _ => by kernel_rfl) (fun _ _ _ _ _ => by kernel_rfl) (fun _ _ _ _ _ _ => by kernel_rfl) ?_
  intro w6 va vn vc p2 q2 HS
  simp only [AR7, AR5, AR2, Act.put, List.setIfInBounds_toArray, List.set_cons_succ, List.set_cons_zero]
  refine wpList_nil ?_
  have H6 : Hid (Lay w w6 q r (.slice pa Np pc) (.slice qa Nq qc) pl ql ∧ Eb w6 p e (.slice none 0 0) ∧ RunD w5 w6 p2 q2 (.slice va vn vc) R1) := ⟨H5.out.1.then HS.only, H5.out.2.only HS.only (by simp), HS.d⟩
  clear H5 hR1 HS
  go_upto_region 8 with fail
  have FA : Hid (∀ y, Only [] w6.drew y → Lay w y q r (.slice pa Np pc) (.slice qa Nq qc) pl ql ∧ Eb y p e (.slice none 0 0) ∧ RunD w5 y p2 q2 (.slice va vn vc) R1) := fun y hy => by
    have o := (only_drew w6).trans hy
    exact ⟨H6.out.1.then o, H6.out.2.1.only o (by simp), H6.out.2.2.then o⟩
  refine wp_region_lin 18 [(8, .slice pa Np pc), (9, .slice qa Nq qc), (10, .pointer (some ⟨p, 0, none⟩))] (by intro p hp; simp only [List.mem_cons, List.not_mem_nil, or_false] at hp; rcases hp with rfl | rfl | rfl <;> rfl) (by kernel_rfl) (by kernel_rfl) (by decide) (by kernel_rfl) (by kernel_rfl) ?_
  simp only [List.take_succ_cons, List.take_zero, List.drop_succ_cons, List.drop_zero]
  refine rl_eff (lsRow [] []) rfl rfl List.nodup_nil rfl (loc_row _ _) (fun f z y hO hf hc => effL_of (v := .slice (some ⟨y.heap.size, 0, none⟩) 0 0) (w' := y.alloc (.cells #[] 23)) (by kernel_rfl) post_empty) ?_
  refine rl_val (.slice pa Np pc) rfl (fun f z y hO hf => ?_) ?_
  · simp at hf
    go_simp
  refine rl_eff (lsRow [0] ([] ++ pl)) rfl (by kernel_rfl) (by simp) rfl (loc_row _ _) (fun f z y hO hf hc => eff_app (v := z.tmps.getD 41 undef) (.tmp 41) (.tmp 42) rfl rfl (by simp at hf; simp [Act.eval, hf]) hc.1 (FA.out y hO).1.one.rd (by simp; rw [HNP.out]; omega) (fun g hg => List.mem_flatMap.2 ⟨0, by simp, by simpa using hg⟩)) ?_
  refine rl_val (.agg #[.int .i64 13, .int .i64 0, .int .i64 0]) rfl (fun f z y hO hf => by kernel_rfl) ?_
  refine rl_eff (lsOps [(⟨13, 0, 0⟩ : Op3)]) rfl rfl List.nodup_nil rfl (loc_ops _) (fun f z y hO hf hc => effL_of (v := .slice (some ⟨y.heap.size, 0, none⟩) 1 1) (w' := y.alloc (.cells (flatO [(⟨13, 0, 0⟩ : Op3)]).toArray 23)) (by simp at hf; go_simp; rfl) (post_ops (l := [(⟨13, 0, 0⟩ : Op3)]) (by unfold maxLen; simp))) ?_
  refine rl_eff (lsRow [2, 4] (([] ++ pl) ++ [(⟨13, 0, 0⟩ : Op3)])) rfl (by kernel_rfl) (by simp) rfl (loc_row _ _) (fun f z y hO hf hc => eff_app (v := z.tmps.getD 43 undef) (.tmp 43) (.tmp 45) rfl rfl rfl hc.1 hc.2.2.2.1 (by simp; rw [HNP.out]; omega) (fun g hg => List.mem_flatMap.2 ⟨2, by simp, by simpa using hg⟩)) ?_
  refine rl_val (.slice qa Nq qc) rfl (fun f z y hO hf => ?_) ?_
  · simp at hf
    go_simp
  refine rl_eff (lsRow [5] ((([] ++ pl) ++ [(⟨13, 0, 0⟩ : Op3)]) ++ ql)) rfl (by kernel_rfl) (by simp) rfl (loc_row _ _) (fun f z y hO hf hc => eff_app (v := z.tmps.getD 46 undef) (.tmp 46) (.tmp 47) rfl rfl (by simp at hf; simp [Act.eval, hf]) hc.1 (FA.out y hO).1.two.rd (by simp; rw [HNP.out, HNQ.out]; omega) (fun g hg => List.mem_flatMap.2 ⟨5, by simp, by simpa using hg⟩)) ?_
  refine rl_val (e.v (.slice none 0 0)) rfl (fun f z y hO hf => ?_) ?_
  · have e10 : z.eval (.tmp 10) = .pointer (some ⟨p, 0, none⟩) := by simp at hf; simp [Act.eval, hf]
    exact exec_loads (cs := e.cells (.slice none 0 0)) 32 (.tmp 10) rfl e10 Try.underlying32 info_env (FA.out y hO).2.1.cell
  obtain ⟨R2, hR2⟩ : ∃ R, Rule.run (([] ++ pl) ++ [(⟨13, 0, 0⟩ : Op3)] ++ ql) e = R := ⟨_, rfl⟩
  have HR2 : Hid _ := hR2
  clear hR2
  refine rl_eff (lsTup [7] w6.heap.size R2) rfl (by kernel_rfl) (by simp) rfl (loc_tup _ _ _) (fun f z y hO hf hc => ?_) ?_
  · have h49 : z.eval (.tmp 49) = e.v (.slice none 0 0) := by simp at hf; simp [Act.eval, hf]
    refine effL_call (exec_run (v := z.tmps.getD 48 undef) (.tmp 48) (.tmp 49) rfl rfl h49) ?_
    refine (HR2.out ▸ rule_run (B := 0) (l := ([] ++ pl) ++ [(⟨13, 0, 0⟩ : Op3)] ++ ql) e (he3 ▸ SR.nil 0 y) (by rw [he3]; simp) (by simp; rw [HNP.out, HNQ.out]; omega) (RdP.rdo (SO.rd hc.1) (Nat.le_refl _))).mono ?_
    rintro x y2 ⟨⟨v, rfl, hv⟩, o⟩
    exact ⟨_, rfl, post_tup hO.size hv o⟩
  refine rl_eff (lsTup [9] w6.heap.size R2) rfl (by kernel_rfl) (by simp) rfl (loc_tup _ _ _) (fun f z y hO hf hc => effL_of (exec_move (.tmp 50) rfl rfl) (post_move (v := z.tmps.getD 50 undef) (by simp at hf; simpa using hf.2.2) hc.1 hc.2.1 (fun g hg => List.mem_flatMap.2 ⟨9, by simp, hg⟩))) ?_
  refine rl_eff (lsEnv [10] w6.heap.size R2) rfl (by kernel_rfl) (by simp) rfl (loc_env _ _ _) (fun f z y hO hf hc => eff_ext (v := z.tmps.getD 40 undef) (.tmp 40) rfl rfl hc.1 hc.2.1 (fun g hg => List.mem_flatMap.2 ⟨10, by simp, hg⟩)) ?_
  refine rl_val (faultV R2.2.1 R2.2.2.1) rfl (fun f z y hO hf => ?_) ?_
  · have h40 : ∃ a n c, z.tmps.getD 40 undef = tupR R2 (.slice a n c) := by simp at hf; simpa using hf.2.2
    obtain ⟨a, n, c, h40⟩ := h40
    exact exec_ext (.tmp 40) 1 rfl h40 rfl
  refine rl_val (.bool R2.2.2.2) rfl (fun f z y hO hf => ?_) ?_
  · have h40 : ∃ a n c, z.tmps.getD 40 undef = tupR R2 (.slice a n c) := by simp at hf; simpa using hf.2.2
    obtain ⟨a, n, c, h40⟩ := h40
    exact exec_ext (.tmp 40) 2 rfl h40 rfl
  refine rl_eff (lsE w6.heap.size) rfl rfl List.nodup_nil rfl (loc_e _) (fun f z y hO hf hc => effL_of (v := .pointer (some ⟨y.heap.size, 0, none⟩)) (w' := y.alloc (.cells (Ev.zero.cells (.slice none 0 0)).toArray 32)) (by kernel_rfl) (post_e hO.size)) ?_
  refine rl_eff (lsF w6.heap.size) rfl rfl List.nodup_nil rfl (loc_f _) (fun f z y hO hf hc => effL_of (v := .pointer (some ⟨y.heap.size, 0, none⟩)) (w' := y.alloc (.cells #[.int .i64 0, .int .i64 0] 34)) (by kernel_rfl) (post_f hO.size)) ?_
  refine rl_eff (lsStE 14 11 w6.heap.size R2) rfl (by kernel_rfl) (by simp) (by kernel_rfl) (loc_ste _ _ _ _) (fun f z y hO hf hc => post_ste (v1 := z.tmps.getD 14 undef) (v2 := z.tmps.getD 51 undef) (.tmp 14) (.tmp 51) rfl rfl rfl (by simp at hf; simp [hf]) (by simp at hf; simp [hf]) hc.1 hc.2.2.2.1 (fun g hg => hc.2.2.1 11 (by simp) g hg) (fun g hg => List.mem_flatMap.2 (hg.elim (fun h => ⟨14, by simp, h⟩) (fun h => ⟨11, by simp, h⟩)))) ?_
  refine rl_eff (lsStF 15 w6.heap.size R2.2.1 R2.2.2.1) rfl (by kernel_rfl) (by simp) (by kernel_rfl) (loc_stf _ _ _ _) (fun f z y hO hf hc => post_stf (v1 := z.tmps.getD 15 undef) (.tmp 15) (.tmp 52) rfl rfl (by simp at hf; simp [Act.eval, hf]) (by simp at hf; simp [hf]) hc.1 (fun g hg => List.mem_flatMap.2 ⟨15, by simp, hg⟩)) ?_
  intro f w7 hO hF
  simp at hF
  obtain ⟨⟨q3, h15, -, k15⟩, ⟨p3, va3, vn3, vc3, ⟨h14, h11⟩, -, k14, k11⟩, -, -, h13, h12, -, ⟨_, _, _, h10⟩, ⟨_, _, _, h9⟩, h8, h6, h3, h1⟩ := hF
  have hsc := stops_cases pl ql ⟨13, 0, 0⟩ e SP.out SQ.out (by rw [HNP.out]; exact hpl) (by rw [HNQ.out]; exact hql) rfl
  have hRR : R2 = R1 := by rw [← HR1.out, ← HR2.out]; exact hsc.1
  subst hRR
  have HC : Hid _ := hsc.2
  clear hsc
  have o67 : Only [] w6 w7 := (only_drew w6).trans hO
  have H7 : Hid (Lay w w7 q r (.slice pa Np pc) (.slice qa Nq qc) pl ql ∧ Eb w7 p e (.slice none 0 0) ∧ RunD w5 w7 p2 q2 (.slice va vn vc) R2 ∧ RunD w6 w7 p3 q3 (.slice va3 vn3 vc3) R2) := ⟨(FA.out w7 hO).1, (FA.out w7 hO).2.1, (FA.out w7 hO).2.2, k14, k15, k11, o67⟩
  clear H6 FA hO o67 k15 k14 k11
  simp only [putsL, Nat.zero_add, Nat.reduceAdd, h15, h14, h11, h13, h12, h10, h9, h8, h6, h3, h1]
  clear h15 h14 h11 h13 h12 h10 h9 h8 h6 h3 h1
  generalize f 0 = u0
  generalize f 2 = u0
  generalize f 4 = u0
  generalize f 5 = u0
  generalize f 7 = u0
  simp only [Act.put, List.setIfInBounds_toArray, List.set_cons_succ, List.set_cons_zero]
  refine op_val (w' := w7) rfl (.bool R2.2.2.2) (by kernel_rfl) ?_
  simp only [Act.put, List.setIfInBounds_toArray, List.set_cons_succ, List.set_cons_zero]
  refine wpList_nil ?_
  obtain ⟨x, c, a, b⟩ := R2
  have f0 : w7.cell? ⟨q2, 0, none⟩ = some (.int .i64 c) := H7.out.2.2.1.flt.cell0
  have f1 : w7.cell? ⟨q2, 1, none⟩ = some (.int .i64 a) := H7.out.2.2.1.flt.cell1
  have g0 : w7.cell? ⟨q3, 0, none⟩ = some (.int .i64 c) := H7.out.2.2.2.flt.cell0
  have g1 : w7.cell? ⟨q3, 1, none⟩ = some (.int .i64 a) := H7.out.2.2.2.flt.cell1
  have nf : ∀ w, (binOp .neq 34 (.agg #[.int .i64 c, .int .i64 a]) (.agg #[.int .i64 c, .int .i64 a])).run Try.prog w = .ok (.bool false) w := fun w => by
    have := neq_flt c a c a w
    simpa using this
  have lx : x.sh.length ≤ 64 := by
    have := run_len pl e
    rw [HR1.out, he3] at this
    simpa using this
  have HE1 : Hid (Eb w7 p2 x (.slice va vn vc)) := H7.out.2.2.1.env
  have HE2 : Hid (Eb w7 p3 x (.slice va3 vn3 vc3)) := H7.out.2.2.2.env
  go_wp2_with (first | refine opg_env (by kernel_rfl) _ rfl rfl HE1.out ?_ | refine opg_env (by kernel_rfl) _ rfl rfl HE2.out ?_)
  refine (same_any x x H7.out.2.2.1.row H7.out.2.2.2.row (by omega) (by omega)).mono ?_
  rintro y w8 ⟨rfl, o8⟩
  rw [Ev.same_self]
  have H8 : Hid (Lay w w8 q r (.slice pa Np pc) (.slice qa Nq qc) pl ql ∧ Eb w8 p e (.slice none 0 0) ∧ RunD w5 w8 p2 q2 (.slice va vn vc) (x, c, a, b)) := ⟨H7.out.1.then o8, H7.out.2.1.only o8 (by simp), H7.out.2.2.1.then o8⟩
  clear H7 HE1 HE2 o8 f0 f1 g0 g1 nf
  go_upto_region 11 with fail
  have FA : Hid (∀ y, Only [] w8.drew y → Lay w y q r (.slice pa Np pc) (.slice qa Nq qc) pl ql ∧ Eb y p e (.slice none 0 0) ∧ RunD w5 y p2 q2 (.slice va vn vc) (x, c, a, b)) := fun y hy => by
    have o := (only_drew w8).trans hy
    exact ⟨H8.out.1.then o, H8.out.2.1.only o (by simp), H8.out.2.2.then o⟩
  obtain ⟨R3, hR3⟩ : ∃ R, Rule.run (([] ++ pl) ++ ql) e = R := ⟨_, rfl⟩
  have HR3 : Hid _ := hR3
  clear hR3
  refine wp_region_lin 15 [(8, .slice pa Np pc), (9, .slice qa Nq qc), (10, .pointer (some ⟨p, 0, none⟩))] (by intro p hp; simp only [List.mem_cons, List.not_mem_nil, or_false] at hp; rcases hp with rfl | rfl | rfl <;> rfl) (by kernel_rfl) (by kernel_rfl) (by decide) (by kernel_rfl) (by kernel_rfl) ?_
  simp only [List.take_succ_cons, List.take_zero, List.drop_succ_cons, List.drop_zero]
  refine rl_eff (lsRow [] []) rfl rfl List.nodup_nil rfl (loc_row _ _) (fun f z y hO hf hc => effL_of (v := .slice (some ⟨y.heap.size, 0, none⟩) 0 0) (w' := y.alloc (.cells #[] 23)) (by kernel_rfl) post_empty) ?_
  refine rl_val (.slice pa Np pc) rfl (fun f z y hO hf => ?_) ?_
  · simp at hf
    go_simp
  refine rl_eff (lsRow [0] ([] ++ pl)) rfl (by kernel_rfl) (by simp) rfl (loc_row _ _) (fun f z y hO hf hc => eff_app (v := z.tmps.getD 69 undef) (.tmp 69) (.tmp 70) rfl rfl (by simp at hf; simp [Act.eval, hf]) hc.1 (FA.out y hO).1.one.rd (by simp; rw [HNP.out]; omega) (fun g hg => List.mem_flatMap.2 ⟨0, by simp, by simpa using hg⟩)) ?_
  refine rl_val (.slice qa Nq qc) rfl (fun f z y hO hf => ?_) ?_
  · simp at hf
    go_simp
  refine rl_eff (lsRow [2] (([] ++ pl) ++ ql)) rfl (by kernel_rfl) (by simp) rfl (loc_row _ _) (fun f z y hO hf hc => eff_app (v := z.tmps.getD 71 undef) (.tmp 71) (.tmp 72) rfl rfl (by simp at hf; simp [Act.eval, hf]) hc.1 (FA.out y hO).1.two.rd (by simp; rw [HNP.out, HNQ.out]; omega) (fun g hg => List.mem_flatMap.2 ⟨2, by simp, by simpa using hg⟩)) ?_
  refine rl_val (e.v (.slice none 0 0)) rfl (fun f z y hO hf => ?_) ?_
  · have e10 : z.eval (.tmp 10) = .pointer (some ⟨p, 0, none⟩) := by simp at hf; simp [Act.eval, hf]
    exact exec_loads (cs := e.cells (.slice none 0 0)) 32 (.tmp 10) rfl e10 Try.underlying32 info_env (FA.out y hO).2.1.cell
  refine rl_eff (lsTup [4] w8.heap.size R3) rfl (by kernel_rfl) (by simp) rfl (loc_tup _ _ _) (fun f z y hO hf hc => ?_) ?_
  · have h49 : z.eval (.tmp 74) = e.v (.slice none 0 0) := by simp at hf; simp [Act.eval, hf]
    refine effL_call (exec_run (v := z.tmps.getD 73 undef) (.tmp 73) (.tmp 74) rfl rfl h49) ?_
    refine (HR3.out ▸ rule_run (B := 0) (l := ([] ++ pl) ++ ql) e (he3 ▸ SR.nil 0 y) (by rw [he3]; simp) (by simp; rw [HNP.out, HNQ.out]; omega) (RdP.rdo (SO.rd hc.1) (Nat.le_refl _))).mono ?_
    rintro x y2 ⟨⟨v, rfl, hv⟩, o⟩
    exact ⟨_, rfl, post_tup hO.size hv o⟩
  refine rl_eff (lsTup [6] w8.heap.size R3) rfl (by kernel_rfl) (by simp) rfl (loc_tup _ _ _) (fun f z y hO hf hc => effL_of (exec_move (.tmp 75) rfl rfl) (post_move (v := z.tmps.getD 75 undef) (by simp at hf; simpa using hf.2.2) hc.1 hc.2.1 (fun g hg => List.mem_flatMap.2 ⟨6, by simp, hg⟩))) ?_
  refine rl_eff (lsEnv [7] w8.heap.size R3) rfl (by kernel_rfl) (by simp) rfl (loc_env _ _ _) (fun f z y hO hf hc => eff_ext (v := z.tmps.getD 68 undef) (.tmp 68) rfl rfl hc.1 hc.2.1 (fun g hg => List.mem_flatMap.2 ⟨7, by simp, hg⟩)) ?_
  refine rl_val (faultV R3.2.1 R3.2.2.1) rfl (fun f z y hO hf => ?_) ?_
  · have h40 : ∃ a n c, z.tmps.getD 68 undef = tupR R3 (.slice a n c) := by simp at hf; simpa using hf.2.2
    obtain ⟨a, n, c, h40⟩ := h40
    exact exec_ext (.tmp 68) 1 rfl h40 rfl
  refine rl_val (.bool R3.2.2.2) rfl (fun f z y hO hf => ?_) ?_
  · have h40 : ∃ a n c, z.tmps.getD 68 undef = tupR R3 (.slice a n c) := by simp at hf; simpa using hf.2.2
    obtain ⟨a, n, c, h40⟩ := h40
    exact exec_ext (.tmp 68) 2 rfl h40 rfl
  refine rl_eff (lsE w8.heap.size) rfl rfl List.nodup_nil rfl (loc_e _) (fun f z y hO hf hc => effL_of (v := .pointer (some ⟨y.heap.size, 0, none⟩)) (w' := y.alloc (.cells (Ev.zero.cells (.slice none 0 0)).toArray 32)) (by kernel_rfl) (post_e hO.size)) ?_
  refine rl_eff (lsF w8.heap.size) rfl rfl List.nodup_nil rfl (loc_f _) (fun f z y hO hf hc => effL_of (v := .pointer (some ⟨y.heap.size, 0, none⟩)) (w' := y.alloc (.cells #[.int .i64 0, .int .i64 0] 34)) (by kernel_rfl) (post_f hO.size)) ?_
  refine rl_eff (lsStE 11 8 w8.heap.size R3) rfl (by kernel_rfl) (by simp) (by kernel_rfl) (loc_ste _ _ _ _) (fun f z y hO hf hc => post_ste (v1 := z.tmps.getD 17 undef) (v2 := z.tmps.getD 76 undef) (.tmp 17) (.tmp 76) rfl rfl rfl (by simp at hf; simp [hf]) (by simp at hf; simp [hf]) hc.1 hc.2.2.2.1 (fun g hg => hc.2.2.1 8 (by simp) g hg) (fun g hg => List.mem_flatMap.2 (hg.elim (fun h => ⟨11, by simp, h⟩) (fun h => ⟨8, by simp, h⟩)))) ?_
  refine rl_eff (lsStF 12 w8.heap.size R3.2.1 R3.2.2.1) rfl (by kernel_rfl) (by simp) (by kernel_rfl) (loc_stf _ _ _ _) (fun f z y hO hf hc => post_stf (v1 := z.tmps.getD 18 undef) (.tmp 18) (.tmp 77) rfl rfl (by simp at hf; simp [Act.eval, hf]) (by simp at hf; simp [hf]) hc.1 (fun g hg => List.mem_flatMap.2 ⟨12, by simp, hg⟩)) ?_
  intro f w9 hO hF
  simp at hF
  obtain ⟨⟨q4, h15, -, k15⟩, ⟨p4, va4, vn4, vc4, ⟨h14, h11⟩, -, k14, k11⟩, -, -, h13, h12, -, ⟨_, _, _, h10⟩, ⟨_, _, _, h9⟩, h8, h6, h1⟩ := hF
  have o89 : Only [] w8 w9 := (only_drew w8).trans hO
  have H9 : Hid (Lay w w9 q r (.slice pa Np pc) (.slice qa Nq qc) pl ql ∧ RunD w5 w9 p2 q2 (.slice va vn vc) (x, c, a, b) ∧ RunD w8 w9 p4 q4 (.slice va4 vn4 vc4) R3) := ⟨(FA.out w9 hO).1, (FA.out w9 hO).2.2, k14, k15, k11, o89⟩
  clear H8 FA hO o89 k15 k14 k11
  simp only [putsL, Nat.zero_add, Nat.reduceAdd, h15, h14, h11, h13, h12, h10, h9, h8, h6, h1]
  clear h15 h14 h11 h13 h12 h10 h9 h8 h6 h1
  generalize f 0 = u0
  generalize f 2 = u0
  generalize f 4 = u0
  simp only [Act.put, List.setIfInBounds_toArray, List.set_cons_succ, List.set_cons_zero]
  refine op_val (w' := w9) rfl (.bool R3.2.2.2) (by kernel_rfl) ?_
  simp only [Act.put, List.setIfInBounds_toArray, List.set_cons_succ, List.set_cons_zero]
  refine wpList_nil ?_
  go_upto_region 12 with fail
  apply wp_region_lit
  refine op_val (w' := w9) rfl (.slice qa Nq qc) (by kernel_rfl) ?_
  have HE1 : Hid (Eb w9 p2 x (.slice va vn vc)) := H9.out.2.1.env
  have HX : Hid (SR w5.heap.size w9 (.slice va vn vc) x.sh) := H9.out.2.1.row
  refine op_env (e := x) (s := .slice va vn vc) rfl _ rfl rfl HE1.out ?_
  obtain ⟨R4, hR4⟩ : ∃ R, Rule.run ql x = R := ⟨_, rfl⟩
  have HR4 : Hid _ := hR4
  refine run_seq (B := w5.heap.size) (e := x) (s := .slice va vn vc) (ov := .slice qa Nq qc) (l := ql) (R := R4) HX.out (by omega) (by rw [HNQ.out]; omega) (H9.out.1.two.rd.rdo (Nat.le_refl _)) hR4 rfl rfl rfl rfl rfl rfl rfl rfl rfl rfl (by kernel_rfl) (fun _ _ => by kernel_rfl) (fun _ _ _ _ => by kernel_rfl) (fun _ _ _ _ => by kernel_rfl) (fun _ _ _ _ => by kernel_rfl) rfl rfl _ _ _ _ rfl rfl rfl rfl (fun _ _ _ _ _ => by kernel_rfl) (fun _ _ _ _ _ => by kernel_rfl) (fun _ _ _ _ _ => by kernel_rfl) (fun _ _ _ _ _ => by kernel_rfl) (fun _ _ _ _ _ _ => by kernel_rfl) ?_
  intro w10 va5 vn5 vc5 p5 q5 HS
  simp only [AR7, AR5, AR2, Act.put, List.setIfInBounds_toArray, List.set_cons_succ, List.set_cons_zero]
  refine wpList_nil ?_
  have H10 : Hid (Only [] w w10 ∧ RunD w8 w10 p4 q4 (.slice va4 vn4 vc4) R3 ∧ RunD w9 w10 p5 q5 (.slice va5 vn5 vc5) R4) := ⟨H9.out.1.only.trans HS.only, H9.out.2.2.then HS.only, HS.d⟩
  clear H9 HE1 HX HS hR4
  have l3 : R3.1.sh.length ≤ 64 := by
    have := run_len (([] ++ pl) ++ ql) e
    rw [HR3.out, he3] at this
    simpa using this
  have l4 : R4.1.sh.length ≤ 128 := by
    have := run_len ql x
    rw [HR4.out] at this
    omega
  have HC2 : Hid ((b = false ∧ R3.2.2.2 = false) ∨ (b = true ∧ ((R3.2.2.2 = false ∧ R4.2.2.2 = false) ∨ (R3.2.2.2 = true ∧ R4.2.2.2 = true ∧ R3.1 = R4.1)))) := by
    have h := HC.out
    rw [HR1.out] at h
    have e3 : Rule.run (pl ++ ql) e = R3 := HR3.out
    rw [e3, HR4.out] at h
    exact h
  clear HR1 HR2 HR3 HR4 HC
  obtain ⟨y, c3, a3, b3⟩ := R3
  obtain ⟨z, c4, a4, b4⟩ := R4
  rcases HC2.out with ⟨hb, hb3⟩ | ⟨hb, ⟨hb3, hb4⟩ | ⟨hb3, hb4, hyz⟩⟩
  · simp only at hb3
    subst hb hb3
    clear HC2
    go_wp2_with fail
    go_ret
    exact ⟨rfl, H10.out.1⟩
  · simp only at hb3 hb4
    subst hb hb3 hb4
    clear HC2
    go_wp2_with fail
    go_ret
    exact ⟨rfl, H10.out.1⟩
  · simp only at hb3 hb4 hyz l3 l4
    subst hb hb3 hb4 hyz
    clear HC2
    have HE4 : Hid (Eb w10 p4 y (.slice va4 vn4 vc4)) := H10.out.2.1.env
    have HE5 : Hid (Eb w10 p5 y (.slice va5 vn5 vc5)) := H10.out.2.2.env
    go_wp2_with (first | refine opg_env (by kernel_rfl) _ rfl rfl HE4.out ?_ | refine opg_env (by kernel_rfl) _ rfl rfl HE5.out ?_)
    refine (same_any y y H10.out.2.1.row H10.out.2.2.row (by omega) (by omega)).mono ?_
    rintro x w11 ⟨rfl, o11⟩
    rw [Ev.same_self]
    go_wp2_with fail
    go_ret
    exact ⟨rfl, H10.out.1.trans o11⟩
end Go.Proofs.Ytnicjbllkdpgcaa.ruleStops

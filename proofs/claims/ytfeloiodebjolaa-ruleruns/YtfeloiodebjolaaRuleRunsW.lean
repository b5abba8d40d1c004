/- RuleRuns: the walk. -/
import Derived.Test.YtfeloiodebjolaaRuleL
import Derived.Test.YtfeloiodebjolaaSeqRun
import Derived.Test.YtfeloiodebjolaaRuleG
import Derived.Test.YtfeloiodebjolaaHandOp
import Derived.Test.YtfeloiodebjolaaFrame3
import Derived.Test.YtfeloiodebjolaaEnvOf
import Derived.Test.YtfeloiodebjolaaRuleRt
import Derived.Test.YtfeloiodebjolaaRefRG
import Derived.Test.YtfeloiodebjolaaRuleRunsP
namespace Go.Proofs.Ytfeloiodebjolaa.ruleRuns
open Go.RowKit
set_option linter.unusedVariables false
set_option linter.unusedSimpArgs false

/-- what the law has laid: the raw environment, its ops -/
structure Tot (w W : World) (q : Nat) (r : Re) (v : Value) (l : List Op3) : Prop where
  raw : Blk W q r.cells
  row : SO (q + 1) W v l
  only : Only [] w W
  base : w.heap.size = q
theorem Tot.then {w W W' : World} {q : Nat} {r : Re} {v : Value} {l : List Op3} (h : Tot w W q r v l) (o : Only [] W W') : Tot w W' q r v l :=
  ⟨h.raw.only o (by simp), h.row.only o (by simp), h.only.trans o, h.base⟩
theorem Tot.app {w W W' : World} {q : Nat} {r : Re} {v v' : Value} {l l' : List Op3} (h : Tot w W q r v l) (a : AppO (q + 1) W v W' v' l') : Tot w W' q r v' l' := by
  have hl := h.row.lt
  have hb := h.base
  have hn : q ∉ v.ownBlock.toList := fun m => by have := hl q (by simpa [Option.mem_toList] using m); omega
  exact ⟨h.raw.only a.only hn, a.row, h.only.then a.only (fun x hx hlt => by have := hl x (by simpa [Option.mem_toList] using hx); omega), h.base⟩
/-- .. and its environment -/
structure TotE (w W : World) (q p : Nat) (r : Re) (v : Value) (l : List Op3) (e : Ev) : Prop where
  t : Tot w W q r v l
  env : Eb W p e (.slice none 0 0)
theorem TotE.then {w W W' : World} {q p : Nat} {r : Re} {v : Value} {l : List Op3} {e : Ev} (h : TotE w W q p r v l e) (o : Only [] W W') : TotE w W' q p r v l e :=
  ⟨h.t.then o, h.env.only o (by simp)⟩
/-- what came in, told at a place -/
theorem came_at {w : World} {s : Value} {n : Nat} {f : Nat → Nat → Int} (h : CameR 3 w s n f) : ∃ a cap, s = .slice a n cap ∧ n ≤ 9223372036854775807 ∧ ∀ i, i < n → ∃ b off, a = some ⟨b, off, none⟩ ∧ b < w.heap.size ∧ ∀ j, j < 3 → w.cell? ⟨b, off + (i * 3 + j), none⟩ = some (.int .i64 (f i j)) := by
  obtain ⟨a, cap, rfl, h1, h2, h3⟩ := h
  refine ⟨a, cap, rfl, by unfold maxLen at h2; omega, fun i hi => ?_⟩
  rcases h3 with h3 | ⟨b, off, rfl, hb, hc⟩
  · omega
  · exact ⟨b, off, rfl, hb, fun j hj => (hc i j hi hj).1⟩
set_option maxRecDepth 100000 in
set_option maxHeartbeats 8000000 in
theorem runs_any {s0 : Value} {n0 : Nat} {a0 : Nat → Nat → Int} (r : Re) (ms : List Int) (w : World) (h0 : CameR 3 w s0 n0 a0) (h2 : CameI .i64 w r.m ms) :
    Calls Try.prog 3 #[s0, r.v] w fun e w' => e = .returned (.bool true) ∧ Only [] w w' := by
  have hnot : ∀ (x : Bool) (w : World), (Op.unary .not (.bool x)).run Try.prog w = .ok (.bool (!x)) w := fun _ _ => rfl
  obtain ⟨d0, cap0, rfl, m0, c0⟩ := came_at h0
  have C0 : Hid _ := c0
  have CM : Hid _ := h2
  have H0 : Hid (Tot w (w.alloc (.cells r.cells.toArray 26)) w.heap.size r (.slice none 0 0) []) := ⟨Blk.new w _ _, SO.nil _ _, (Only.refl [] _).alloc _, rfl⟩
  clear c0 h0 h2
  go_enter Try.func3, Try.ntmps3
  go_upto_block 0 with fail
  change Code.wp _ _ _ _ (w.alloc (.cells r.cells.toArray 26))
  generalize w.alloc (.cells r.cells.toArray 26) = W at *
  obtain ⟨q, hq⟩ : ∃ q, w.heap.size = q := ⟨_, rfl⟩
  simp only [hq] at H0 ⊢
  have HQ : Hid _ := hq
  clear hq
  go_cut [5] (fun vo wx => ∃ l : List Op3, l.length ≤ 20 ∧ Hid (Tot w wx q r vo l))
  case first =>
    go_wp2_with fail
    go_loopg [5, 6] 21 (fun gk vo vi wr => ∃ (i : Nat) (l : List Op3), vi = .int .i64 i ∧ l.length = i ∧ i ≤ 20 ∧ i ≤ n0 ∧ 21 - i ≤ gk ∧ Hid (Tot w wr q r vo l))
    case atStart => exact ⟨0, [], rfl, rfl, by omega, by omega, by omega, H0.out⟩
    case round =>
      clear H0
      obtain ⟨i, l, rfl, hl, hi, hin, hg, HT⟩ := hrel
      by_cases h1 : i < n0
      · by_cases h2 : i < 20
        · have z0 : (0 : Int) ≤ (i : Int) := by omega
          have z1 : (i : Int) < (n0 : Int) := by omega
          have z2 : (i : Int) < 20 := by omega
          obtain ⟨bb, off, hd, hbb, hc⟩ := C0.out i h1
          subst hd
          have e0 : wr.cell? ⟨bb, off + i * 3, none⟩ = some (.int .i64 (a0 i 0)) := (HT.out.only.cell hbb (by simp)).trans (hc 0 (by omega))
          have e1 : wr.cell? ⟨bb, off + i * 3 + 1, none⟩ = some (.int .i64 (a0 i 1)) := (HT.out.only.cell hbb (by simp)).trans (by have := hc 1 (by omega); rwa [show off + (i * 3 + 1) = off + i * 3 + 1 by omega] at this)
          have e2 : wr.cell? ⟨bb, off + i * 3 + 2, none⟩ = some (.int .i64 (a0 i 2)) := (HT.out.only.cell hbb (by simp)).trans (by have := hc 2 (by omega); rwa [show off + (i * 3 + 2) = off + i * 3 + 2 by omega] at this)
          clear hc
          obtain ⟨va, vc, hvo, hvl⟩ := HT.out.row.form
          rw [hl] at hvo
          subst hvo
          go_wp2_with fail
          refine (hop_any _ _ _ _).mono ?_
          rintro x wy ⟨⟨o, rfl⟩, oy⟩
          have H3 : Hid (Tot w wy q r (.slice va i vc) l) := HT.out.then oy
          clear oy HT e0 e1 e2
          have H4 : Hid (Tot w (wy.alloc (.cells #[.int .i64 o.c, .int .i64 o.a, .int .i64 o.b] 29)) q r (.slice va i vc) l ∧ RdP (wy.alloc (.cells #[.int .i64 o.c, .int .i64 o.a, .int .i64 o.b] 29)) (.slice (some ⟨wy.heap.size, 0, none⟩) 1 1) [o] ∧ q + 1 ≤ (wy.alloc (.cells #[.int .i64 o.c, .int .i64 o.a, .int .i64 o.b] 29)).heap.size) := ⟨H3.out.then ((Only.refl [] _).alloc _), rdp_new wy [o] (by unfold maxLen; simp), by have := H3.out.raw.lt; simp; omega⟩
          go_wp2_with (at_builtin; refine app_o rfl _ _ rfl rfl rfl H4.out.1.row H4.out.2.1 (by simp; omega) H4.out.2.2 ?_)
          intro v' w' A
          have H5 : Hid (Tot w w' q r v' (l ++ [o])) := H4.out.1.app A
          clear A H4 H3
          go_wp2_with fail
          go_roundg (21 - (i + 1))
          case measure => omega
          case rel => exact ⟨i + 1, l ++ [o], by go_num, by simp [hl], by omega, by omega, by omega, H5.out⟩
        · have z1 : (i : Int) < (n0 : Int) := by omega
          have z2 : ¬ (i : Int) < 20 := by omega
          go_wp2_with fail
          go_meet
          exact ⟨l, by omega, HT.out⟩
      · have z1 : ¬ (i : Int) < (n0 : Int) := by omega
        go_wp2_with fail
        go_meet
        exact ⟨l, by omega, HT.out⟩
  case rest =>
    obtain ⟨l, hl, HT⟩ := hcut
    clear H0 C0
    go_upto_region 6 with fail
    apply wp_region_lit
    refine op_loads rfl (cs := r.cells) 26 _ rfl rfl Try.underlying26 (by kernel_rfl) HT.out.raw.whole ?_
    refine op_call (F := 5) (args := #[r.v]) (w1 := wc) rfl (by kernel_rfl) ?_
    have hme : CameI .i64 wc r.m ms := by
      obtain ⟨ma, mcap, g1, g2, g3, g4, g5⟩ := CM.out
      refine ⟨ma, mcap, g1, g2, g3, g4, ?_⟩
      rcases g5 with g5 | ⟨b, off, g5, g6, g7⟩
      · exact Or.inl g5
      · exact Or.inr ⟨b, off, g5, Nat.lt_of_lt_of_le g6 HT.out.only.size, fun i hi => (HT.out.only.cell g6 (by simp)).trans (g7 i hi)⟩
    refine (envOf_any r ms wc hme).mono ?_
    rintro x w1 ⟨⟨e, rfl, he1, he2, he3⟩, o1⟩
    refine ⟨_, rfl, ?_⟩
    obtain ⟨oa, oc, hov, hol⟩ := HT.out.row.form
    obtain ⟨N, hN⟩ : ∃ N, l.length = N := ⟨_, rfl⟩
    have HN : Hid _ := hN
    rw [hN] at hov hol hl
    subst hov
    have H1 : Hid (Tot w w1 q r (.slice oa N oc) l) := HT.out.then o1
    clear o1 HT hme hN
    refine op_val (w' := w1.alloc (.cells (Ev.zero.cells (.slice none 0 0)).toArray 39)) rfl (.pointer (some ⟨w1.heap.size, 0, none⟩)) (by kernel_rfl) ?_
    refine op_storeE (p := w1.heap.size) (e := e) (s := .slice none 0 0) rfl _ _ rfl rfl rfl (Eb.new Ev.zero _ _ _) rfl ?_
    intro w3 hb o3 hz3
    have o13 : Only [] w1 w3 := ((Only.refl [] w1).alloc _).then o3 (fun u hu hl => by have h2 : u = w1.heap.size := (by simpa using hu); omega)
    have H3 : Hid (TotE w w3 q w1.heap.size r (.slice oa N oc) l e) := ⟨H1.out.then o13, hb⟩
    clear o13 hb o3 hz3 H1
    generalize w1.heap.size = p at *
    refine wpList_nil ?_
    go_upto_region 7 with fail
    apply wp_region_lit
    refine op_val (w' := w3) rfl (.slice oa N oc) (by kernel_rfl) ?_
    refine op_env rfl _ rfl rfl H3.out.env ?_
    obtain ⟨R, hR⟩ : ∃ R, Rule.run l e = R := ⟨_, rfl⟩
    have HRR : Hid _ := hR
    refine run_seq (B := 0) (e := e) (s := .slice none 0 0) (ov := .slice oa N oc) (l := l) (R := R) (he3 ▸ SR.nil 0 _) (by rw [he3]; simp) (by rw [HN.out]; omega) (H3.out.t.row.rd.rdo (Nat.le_refl _)) hR rfl rfl rfl rfl rfl rfl rfl rfl rfl rfl (by kernel_rfl) (fun _ _ => by kernel_rfl) (fun _ _ _ _ => by kernel_rfl) (fun _ _ _ _ => by kernel_rfl) (fun _ _ _ _ => by kernel_rfl) rfl rfl _ _ _ _ rfl rfl rfl rfl (fun _ _ _ _ _ => by kernel_rfl) (fun _ _ _ _ _ => by kernel_rfl) (fun _ _ _ _ _ => by kernel_rfl) (fun _ _ _ _ _ => by kernel_rfl) (fun _ _ _ _ _ _ => by kernel_rfl) ?_
    intro w6 va vn vc p2 q2 HS
    simp only [AR7, AR5, AR2, Act.put, List.setIfInBounds_toArray, List.set_cons_succ, List.set_cons_zero]
    refine wpList_nil ?_
    have H6 : Hid (TotE w w6 q p r (.slice oa N oc) l e) := H3.out.then HS.only
    have HS6 : Hid _ := HS
    clear H3 hR HS
    obtain ⟨e', c, a, ok⟩ := R
    have HL : Hid (e'.sh.length ≤ 1000000) := run_len he3 HRR.out
    go_upto_region 8 with fail
    apply wp_region_lit
    refine op_val (w' := w6) rfl (.slice oa N oc) (by kernel_rfl) ?_
    simp only [Act.put, List.setIfInBounds_toArray, List.set_cons_succ, List.set_cons_zero]
    refine op_val (w' := w6) rfl (.pointer (some ⟨p, 0, none⟩)) (by kernel_rfl) ?_
    simp only [Act.put, List.setIfInBounds_toArray, List.set_cons_succ, List.set_cons_zero]
    refine opg_body (p := p) (by kernel_rfl) (.tmp 44) rfl (by kernel_rfl) H6.out.env ?_
    simp only [Act.put, List.setIfInBounds_toArray, List.set_cons_succ, List.set_cons_zero]
    refine op_val (w' := w6) rfl (.pointer (some ⟨p, 12, none⟩)) (by kernel_rfl) ?_
    simp only [Act.put, List.setIfInBounds_toArray, List.set_cons_succ, List.set_cons_zero]
    refine opg_input (p := p) (by kernel_rfl) (.tmp 46) rfl (by kernel_rfl) H6.out.env ?_
    simp only [Act.put, List.setIfInBounds_toArray, List.set_cons_succ, List.set_cons_zero]
    refine op_val (w' := w6) rfl (.pointer (some ⟨p, 15, none⟩)) (by kernel_rfl) ?_
    simp only [Act.put, List.setIfInBounds_toArray, List.set_cons_succ, List.set_cons_zero]
    refine op_val (w' := w6) rfl (.int .u64 e.d) (by have hcell : w6.cell? ⟨p, 15, none⟩ = some (.int .u64 e.d) := H6.out.env.blk.cell 15; go_simp) ?_
    simp only [Act.put, List.setIfInBounds_toArray, List.set_cons_succ, List.set_cons_zero]
    refine op_val (w' := w6) rfl (.pointer (some ⟨p, 16, none⟩)) (by kernel_rfl) ?_
    simp only [Act.put, List.setIfInBounds_toArray, List.set_cons_succ, List.set_cons_zero]
    refine op_val (w' := w6) rfl (.int .i64 e.room) (by have hcell : w6.cell? ⟨p, 16, none⟩ = some (.int .i64 e.room) := H6.out.env.blk.cell 16; go_simp) ?_
    simp only [Act.put, List.setIfInBounds_toArray, List.set_cons_succ, List.set_cons_zero]
    refine op_val (w' := w6) rfl (e.v (.slice none 0 0)) (by kernel_rfl) ?_
    simp only [Act.put, List.setIfInBounds_toArray, List.set_cons_succ, List.set_cons_zero]
    refine op_call (F := 7) (args := #[.slice oa N oc, e.v (.slice none 0 0)]) (w1 := w6) rfl (by kernel_rfl) ?_
    refine (rrun_any e he1 he3 (H6.out.t.row.rd.rdo (Nat.le_refl _)) (by rw [HN.out]; omega)).mono ?_
    rw [HRR.out]
    rintro x w7 ⟨⟨rv, rfl, hrs⟩, o7⟩
    have hrs : SR 0 w7 rv e'.sh := hrs
    refine ⟨_, rfl, ?_⟩
    obtain ⟨ra, rn, rc, rfl⟩ := hrs.form2
    have H7 : Hid (TotE w w7 q p r (.slice oa N oc) l e ∧ RunSeq w3 w7 p2 q2 (.slice va vn vc) (e', c, a, ok) ∧ SR 0 w7 (.slice ra rn rc) e'.sh) := ⟨H6.out.then o7, HS6.out.then o7, hrs⟩
    clear H6 HS6 o7 hrs
    simp only [Act.put, List.setIfInBounds_toArray, List.set_cons_succ, List.set_cons_zero]
    refine op_val (w' := w7) rfl (.tuple #[e'.v (.slice ra rn rc), .int .i64 c, .int .i64 a, .bool ok]) (by kernel_rfl) ?_
    simp only [Act.put, List.setIfInBounds_toArray, List.set_cons_succ, List.set_cons_zero]
    refine op_val (w' := w7) rfl (e'.v (.slice ra rn rc)) (by kernel_rfl) ?_
    simp only [Act.put, List.setIfInBounds_toArray, List.set_cons_succ, List.set_cons_zero]
    refine op_val (w' := w7) rfl (.int .i64 c) (by kernel_rfl) ?_
    simp only [Act.put, List.setIfInBounds_toArray, List.set_cons_succ, List.set_cons_zero]
    refine op_val (w' := w7) rfl (.int .i64 a) (by kernel_rfl) ?_
    simp only [Act.put, List.setIfInBounds_toArray, List.set_cons_succ, List.set_cons_zero]
    refine op_val (w' := w7) rfl (.bool ok) (by kernel_rfl) ?_
    simp only [Act.put, List.setIfInBounds_toArray, List.set_cons_succ, List.set_cons_zero]
    refine op_val (w' := w7.alloc (.cells (Ev.zero.cells (.slice none 0 0)).toArray 45)) rfl (.pointer (some ⟨w7.heap.size, 0, none⟩)) (by kernel_rfl) ?_
    simp only [Act.put, List.setIfInBounds_toArray, List.set_cons_succ, List.set_cons_zero]
    refine op_storeR (p := w7.heap.size) (e := e') (s := .slice ra rn rc) rfl _ _ rfl rfl rfl (Eb.new Ev.zero _ _ _) rfl ?_
    intro w8 hb o8 hz8
    have o78 : Only [] w7 w8 := ((Only.refl [] w7).alloc _).then o8 (fun u hu hl => by have h2 : u = w7.heap.size := (by simpa using hu); omega)
    have H8 : Hid (TotE w w8 q p r (.slice oa N oc) l e ∧ RunSeq w3 w8 p2 q2 (.slice va vn vc) (e', c, a, ok) ∧ SR 0 w8 (.slice ra rn rc) e'.sh ∧ Eb w8 w7.heap.size e' (.slice ra rn rc)) := ⟨H7.out.1.then o78, H7.out.2.1.then o78, H7.out.2.2.only o78 (by simp), hb⟩
    clear o78 hb o8 hz8 H7
    generalize w7.heap.size = p3 at *
    simp only [Act.put, List.setIfInBounds_toArray, List.set_cons_succ, List.set_cons_zero]
    refine op_val (w' := w8) rfl (.int .i64 c) (by kernel_rfl) ?_
    simp only [Act.put, List.setIfInBounds_toArray, List.set_cons_succ, List.set_cons_zero]
    refine op_val (w' := w8) rfl (.int .i64 a) (by kernel_rfl) ?_
    simp only [Act.put, List.setIfInBounds_toArray, List.set_cons_succ, List.set_cons_zero]
    refine op_val (w' := w8) rfl (.bool ok) (by kernel_rfl) ?_
    simp only [Act.put, List.setIfInBounds_toArray, List.set_cons_succ, List.set_cons_zero]
    refine wpList_nil ?_
    go_upto_region 9 with fail
    apply wp_region_lit
    refine op_call (F := 8) (args := #[]) (w1 := w8) rfl (by kernel_rfl) ?_
    refine (known_any _).mono ?_
    rintro x w9 ⟨rfl, o9⟩
    refine ⟨_, rfl, ?_⟩
    have H9 : Hid (TotE w w9 q p r (.slice oa N oc) l e ∧ RunSeq w3 w9 p2 q2 (.slice va vn vc) (e', c, a, ok) ∧ SR 0 w9 (.slice ra rn rc) e'.sh ∧ Eb w9 p3 e' (.slice ra rn rc)) := ⟨H8.out.1.then o9, H8.out.2.1.then o9, H8.out.2.2.1.only o9 (by simp), H8.out.2.2.2.only o9 (by simp)⟩
    clear H8 o9
    simp only [Act.put, List.setIfInBounds_toArray, List.set_cons_succ, List.set_cons_zero]
    refine opg_val (w' := w9) (by kernel_rfl) (.bool true) (by kernel_rfl) ?_
    simp only [Act.put, List.setIfInBounds_toArray, List.set_cons_succ, List.set_cons_zero]
    refine opg_val (w' := w9) (by kernel_rfl) (.bool ok) (by kernel_rfl) ?_
    simp only [Act.put, List.setIfInBounds_toArray, List.set_cons_succ, List.set_cons_zero]
    refine opg_val (w' := w9) (by kernel_rfl) (.bool ok) (by kernel_rfl) ?_
    simp only [Act.put, List.setIfInBounds_toArray, List.set_cons_succ, List.set_cons_zero]
    refine opg_val (w' := w9) (by kernel_rfl) (.bool true) (by cases ok <;> kernel_rfl) ?_
    simp only [Act.put, List.setIfInBounds_toArray, List.set_cons_succ, List.set_cons_zero]
    refine opg_val (w' := w9) (by kernel_rfl) (.bool true) (by kernel_rfl) ?_
    simp only [Act.put, List.setIfInBounds_toArray, List.set_cons_succ, List.set_cons_zero]
    refine opg_val (w' := w9) (by kernel_rfl) (.bool true) (by kernel_rfl) ?_
    simp only [Act.put, List.setIfInBounds_toArray, List.set_cons_succ, List.set_cons_zero]
    refine opg_val (w' := w9) (by kernel_rfl) (.pointer (some ⟨q2, 0, none⟩)) (by kernel_rfl) ?_
    simp only [Act.put, List.setIfInBounds_toArray, List.set_cons_succ, List.set_cons_zero]
    refine opg_val (w' := w9) (by kernel_rfl) (.int .i64 c) (by have hcell : w9.cell? ⟨q2, 0, none⟩ = some (.int .i64 c) := H9.out.2.1.flt.cell0; go_simp) ?_
    simp only [Act.put, List.setIfInBounds_toArray, List.set_cons_succ, List.set_cons_zero]
    refine opg_val (w' := w9) (by kernel_rfl) (.int .i64 c) (by kernel_rfl) ?_
    simp only [Act.put, List.setIfInBounds_toArray, List.set_cons_succ, List.set_cons_zero]
    refine opg_val (w' := w9) (by kernel_rfl) (.bool true) (eq_int (k := .i64) (n := c) _ _ rfl rfl rfl) ?_
    simp only [Act.put, List.setIfInBounds_toArray, List.set_cons_succ, List.set_cons_zero]
    refine opg_val (w' := w9) (by kernel_rfl) (.bool true) (by kernel_rfl) ?_
    simp only [Act.put, List.setIfInBounds_toArray, List.set_cons_succ, List.set_cons_zero]
    refine opg_val (w' := w9) (by kernel_rfl) (.bool true) (by kernel_rfl) ?_
    simp only [Act.put, List.setIfInBounds_toArray, List.set_cons_succ, List.set_cons_zero]
    refine opg_val (w' := w9) (by kernel_rfl) (.pointer (some ⟨q2, 1, none⟩)) (by kernel_rfl) ?_
    simp only [Act.put, List.setIfInBounds_toArray, List.set_cons_succ, List.set_cons_zero]
    refine opg_val (w' := w9) (by kernel_rfl) (.int .i64 a) (by have hcell : w9.cell? ⟨q2, 1, none⟩ = some (.int .i64 a) := H9.out.2.1.flt.cell1; go_simp) ?_
    simp only [Act.put, List.setIfInBounds_toArray, List.set_cons_succ, List.set_cons_zero]
    refine opg_val (w' := w9) (by kernel_rfl) (.int .i64 a) (by kernel_rfl) ?_
    simp only [Act.put, List.setIfInBounds_toArray, List.set_cons_succ, List.set_cons_zero]
    refine opg_val (w' := w9) (by kernel_rfl) (.bool true) (eq_int (k := .i64) (n := a) _ _ rfl rfl rfl) ?_
    simp only [Act.put, List.setIfInBounds_toArray, List.set_cons_succ, List.set_cons_zero]
    refine opg_val (w' := w9) (by kernel_rfl) (.bool true) (by kernel_rfl) ?_
    simp only [Act.put, List.setIfInBounds_toArray, List.set_cons_succ, List.set_cons_zero]
    refine opg_val (w' := w9) (by kernel_rfl) (.bool true) (by kernel_rfl) ?_
    simp only [Act.put, List.setIfInBounds_toArray, List.set_cons_succ, List.set_cons_zero]
    refine opg_env (p := p2) (by kernel_rfl) (.tmp 8) rfl (by kernel_rfl) H9.out.2.1.env ?_
    simp only [Act.put, List.setIfInBounds_toArray, List.set_cons_succ, List.set_cons_zero]
    refine opg_val (w' := w9) (by kernel_rfl) (.pointer (some ⟨p3, 0, none⟩)) (by kernel_rfl) ?_
    simp only [Act.put, List.setIfInBounds_toArray, List.set_cons_succ, List.set_cons_zero]
    refine opg_body (p := p3) (by kernel_rfl) (.tmp 78) rfl (by kernel_rfl) H9.out.2.2.2 ?_
    simp only [Act.put, List.setIfInBounds_toArray, List.set_cons_succ, List.set_cons_zero]
    refine opg_val (w' := w9) (by kernel_rfl) (.pointer (some ⟨p3, 12, none⟩)) (by kernel_rfl) ?_
    simp only [Act.put, List.setIfInBounds_toArray, List.set_cons_succ, List.set_cons_zero]
    refine opg_input (p := p3) (by kernel_rfl) (.tmp 80) rfl (by kernel_rfl) H9.out.2.2.2 ?_
    simp only [Act.put, List.setIfInBounds_toArray, List.set_cons_succ, List.set_cons_zero]
    refine opg_val (w' := w9) (by kernel_rfl) (.pointer (some ⟨p3, 15, none⟩)) (by kernel_rfl) ?_
    simp only [Act.put, List.setIfInBounds_toArray, List.set_cons_succ, List.set_cons_zero]
    refine opg_val (w' := w9) (by kernel_rfl) (.int .u64 e'.d) (by have hcell : w9.cell? ⟨p3, 15, none⟩ = some (.int .u64 e'.d) := H9.out.2.2.2.blk.cell 15; go_simp) ?_
    simp only [Act.put, List.setIfInBounds_toArray, List.set_cons_succ, List.set_cons_zero]
    refine opg_val (w' := w9) (by kernel_rfl) (.pointer (some ⟨p3, 16, none⟩)) (by kernel_rfl) ?_
    simp only [Act.put, List.setIfInBounds_toArray, List.set_cons_succ, List.set_cons_zero]
    refine opg_val (w' := w9) (by kernel_rfl) (.int .i64 e'.room) (by have hcell : w9.cell? ⟨p3, 16, none⟩ = some (.int .i64 e'.room) := H9.out.2.2.2.blk.cell 16; go_simp) ?_
    simp only [Act.put, List.setIfInBounds_toArray, List.set_cons_succ, List.set_cons_zero]
    refine opg_val (w' := w9) (by kernel_rfl) (.pointer (some ⟨p3, 17, none⟩)) (by kernel_rfl) ?_
    simp only [Act.put, List.setIfInBounds_toArray, List.set_cons_succ, List.set_cons_zero]
    refine opg_val (w' := w9) (by kernel_rfl) (.slice ra rn rc) (by have hcell : w9.cell? ⟨p3, 17, none⟩ = some (.slice ra rn rc) := H9.out.2.2.2.blk.cell 17; go_simp) ?_
    simp only [Act.put, List.setIfInBounds_toArray, List.set_cons_succ, List.set_cons_zero]
    refine opg_val (w' := w9) (by kernel_rfl) (e'.v (.slice ra rn rc)) (by kernel_rfl) ?_
    simp only [Act.put, List.setIfInBounds_toArray, List.set_cons_succ, List.set_cons_zero]
    refine opg_call (F := 9) (args := #[e'.v (.slice va vn vc), e'.v (.slice ra rn rc)]) (w1 := w9) (by kernel_rfl) (by kernel_rfl) ?_
    have hlen : e'.sh.length ≤ 1000000 := HL.out
    refine (same_any e' e' H9.out.2.1.row H9.out.2.2.1 hlen hlen).mono ?_
    rintro x w10 ⟨rfl, o10⟩
    rw [Ev.same_self]
    refine ⟨_, rfl, ?_⟩
    have H10 : Hid (Tot w w10 q r (.slice oa N oc) l) := (H9.out.1.then o10).t
    clear H9 o10
    simp only [Act.put, List.setIfInBounds_toArray, List.set_cons_succ, List.set_cons_zero]
    refine opg_val (w' := w10) (by kernel_rfl) (.bool true) (by kernel_rfl) ?_
    simp only [Act.put, List.setIfInBounds_toArray, List.set_cons_succ, List.set_cons_zero]
    refine opg_val (w' := w10) (by kernel_rfl) (.bool true) (by kernel_rfl) ?_
    simp only [Act.put, List.setIfInBounds_toArray, List.set_cons_succ, List.set_cons_zero]
    refine opg_val (w' := w10) (by kernel_rfl) (.slice oa N oc) (by kernel_rfl) ?_
    simp only [Act.put, List.setIfInBounds_toArray, List.set_cons_succ, List.set_cons_zero]
    refine opg_call (F := 10) (args := #[.slice oa N oc]) (w1 := w10) (by kernel_rfl) (by kernel_rfl) ?_
    refine (right_any' (H10.out.row.rd.rdo (Nat.le_refl _)) (by rw [HN.out]; omega)).mono ?_
    rintro x w11 ⟨rfl, o11⟩
    refine ⟨_, rfl, ?_⟩
    have H11 : Hid (Tot w w11 q r (.slice oa N oc) l) := H10.out.then o11
    clear H10 o11
    simp only [Act.put, List.setIfInBounds_toArray, List.set_cons_succ, List.set_cons_zero]
    refine opg_val (w' := w11) (by kernel_rfl) (.slice oa N oc) (by kernel_rfl) ?_
    simp only [Act.put, List.setIfInBounds_toArray, List.set_cons_succ, List.set_cons_zero]
    refine opg_call (F := 11) (args := #[.slice oa N oc]) (w1 := w11) (by kernel_rfl) (by kernel_rfl) ?_
    refine (rrule_any (H11.out.row.rd.rdo (Nat.le_refl _)) (by rw [HN.out]; omega)).mono ?_
    rintro x w12 ⟨rfl, o12⟩
    refine ⟨_, rfl, ?_⟩
    have H12 : Hid (Tot w w12 q r (.slice oa N oc) l) := H11.out.then o12
    clear H11 o12
    generalize Rule.right l = rr
    simp only [Act.put, List.setIfInBounds_toArray, List.set_cons_succ, List.set_cons_zero]
    refine opg_val (w' := w12) (by kernel_rfl) (.bool true) (by cases rr <;> kernel_rfl) ?_
    simp only [Act.put, List.setIfInBounds_toArray, List.set_cons_succ, List.set_cons_zero]
    refine opg_val (w' := w12) (by kernel_rfl) (.bool true) (by kernel_rfl) ?_
    simp only [Act.put, List.setIfInBounds_toArray, List.set_cons_succ, List.set_cons_zero]
    refine opg_val (w' := w12) (by kernel_rfl) (.bool true) (by kernel_rfl) ?_
    simp only [Act.put, List.setIfInBounds_toArray, List.set_cons_succ, List.set_cons_zero]
    refine wpList_nil ?_
    go_wp2_with fail
    go_ret
    exact ⟨rfl, H12.out.only⟩
end Go.Proofs.Ytfeloiodebjolaa.ruleRuns

/- RuleTotal: the walk. -/
import Derived.Test.YtnicjbllkdpgcaaSeqRun
import Derived.Test.YtnicjbllkdpgcaaRuleG
import Derived.Test.YtnicjbllkdpgcaaHandOp
import Derived.Test.YtnicjbllkdpgcaaFrame3
import Derived.Test.YtnicjbllkdpgcaaEnvOf
namespace Go.Proofs.Ytnicjbllkdpgcaa.ruleTotal
open Go.RowKit
set_option linter.unusedVariables false

/-- what the law has laid: the raw environment, its ops -/
structure Tot (w W : World) (q : Nat) (r : Re) (v : Value) (l : List Op3) : Prop where
  raw : Blk W q r.cells
  row : SO (q + 1) W v l
  only : Only [] w W
  base : w.heap.size = q
theorem Tot.then {w W W' : World} {q : Nat} {r : Re} {v : Value} {l : List Op3} (h : Tot w W q r v l) (o : Only [] W W') : Tot w W' q r v l :=
  ⟨h.raw.only o (by simp), h.row.only o (by simp), h.only.trans o, h.base⟩
theorem Tot.app {w W W' : World} {q : Nat} {r : Re} {v v' : Value} {l l' : List Op3} (h : Tot w W q r v l) (a : AppO (q + 1) W v W' v' l') : Tot w W' q r v' l' := by
  have hl := h.row.lt
  have hb := h.base
  have hn : q ∉ v.ownBlock.toList := fun m => by have := hl q (by simpa [Option.mem_toList] using m); omega
  exact ⟨h.raw.only a.only hn, a.row, h.only.then a.only (fun x hx hlt => by have := hl x (by simpa [Option.mem_toList] using hx); omega), h.base⟩
/-- .. and its environment -/
structure TotE (w W : World) (q p : Nat) (r : Re) (v : Value) (l : List Op3) (e : Ev) : Prop where
  t : Tot w W q r v l
  env : Eb W p e (.slice none 0 0)
theorem TotE.then {w W W' : World} {q p : Nat} {r : Re} {v : Value} {l : List Op3} {e : Ev} (h : TotE w W q p r v l e) (o : Only [] W W') : TotE w W' q p r v l e :=
  ⟨h.t.then o, h.env.only o (by simp)⟩
/-- a run on a body that is one, either way -/
theorem run_cases (l : List Op3) (e : Ev) (hs : Body.some e.b = true) : (∃ c a, Rule.run l e = (e, c, a, false) ∧ 1 ≤ c ∧ c ≤ 7 ∧ 0 ≤ a ∧ a < l.length) ∨ ∃ e', Rule.run l e = (e', 0, 0, true) ∧ Keeps 64 e e' := by
  have h := go_inv l 64 0 e (by omega) (by omega)
  cases hg : Rule.go l 64 0 e with
  | fault c a => rw [hg] at h; exact Or.inl ⟨c, a, run_fault hs hg, h⟩
  | done e' => rw [hg] at h; exact Or.inr ⟨e', run_done hs hg, h⟩
/-- what came in, told at a place -/
theorem came_at {w : World} {s : Value} {n : Nat} {f : Nat → Nat → Int} (h : CameR 3 w s n f) : ∃ a cap, s = .slice a n cap ∧ n ≤ 9223372036854775807 ∧ ∀ i, i < n → ∃ b off, a = some ⟨b, off, none⟩ ∧ b < w.heap.size ∧ ∀ j, j < 3 → w.cell? ⟨b, off + (i * 3 + j), none⟩ = some (.int .i64 (f i j)) := by
  obtain ⟨a, cap, rfl, h1, h2, h3⟩ := h
  refine ⟨a, cap, rfl, by unfold maxLen at h2; omega, fun i hi => ?_⟩
  rcases h3 with h3 | ⟨b, off, rfl, hb, hc⟩
  · omega
  · exact ⟨b, off, rfl, hb, fun j hj => (hc i j hi hj).1⟩
set_option maxRecDepth 100000 in
set_option maxHeartbeats 4000000 in
theorem total_any {s0 s1 : Value} {n0 n1 : Nat} {a0 a1 : Nat → Nat → Int} (r : Re) (ms : List Int) (w : World) (h0 : CameR 3 w s0 n0 a0) (h1 : CameR 3 w s1 n1 a1) (h2 : CameI .i64 w r.m ms) :
    Calls Try.prog 5 #[s0, s1, r.v] w fun e w' => e = .returned (.bool true) ∧ Only [] w w' := by
  have hnot : ∀ (x : Bool) (w : World), (Op.unary .not (.bool x)).run Try.prog w = .ok (.bool (!x)) w := fun _ _ => rfl
  obtain ⟨d0, cap0, rfl, m0, c0⟩ := came_at h0
  obtain ⟨d1, cap1, rfl, m1, c1⟩ := came_at h1
  have C0 : Hid _ := c0
  have C1 : Hid _ := c1
  have CM : Hid _ := h2
  have H0 : Hid (Tot w (w.alloc (.cells r.cells.toArray 46)) w.heap.size r (.slice none 0 0) []) := ⟨Blk.new w _ _, SO.nil _ _, (Only.refl [] _).alloc _, rfl⟩
  clear c0 c1 h0 h1 h2
  go_enter Try.func5, Try.ntmps5
  go_upto_block 0 with fail
  change Code.wp _ _ _ _ (w.alloc (.cells r.cells.toArray 46))
  generalize w.alloc (.cells r.cells.toArray 46) = W at *
  obtain ⟨q, hq⟩ : ∃ q, w.heap.size = q := ⟨_, rfl⟩
  simp only [hq] at H0 ⊢
  have HQ : Hid _ := hq
  clear hq
  go_cut [7] (fun vo wx => ∃ l : List Op3, l.length ≤ 16 ∧ Hid (Tot w wx q r vo l))
  case first =>
    go_wp2_with fail
    go_loopg [7, 8] 17 (fun gk vo vi wr => ∃ (i : Nat) (l : List Op3), vi = .int .i64 i ∧ l.length = i ∧ i ≤ 16 ∧ i ≤ n0 ∧ 17 - i ≤ gk ∧ Hid (Tot w wr q r vo l))
    case atStart => exact ⟨0, [], rfl, rfl, by omega, by omega, by omega, H0.out⟩
    case round =>
      clear H0
      obtain ⟨i, l, rfl, hl, hi, hin, hg, HT⟩ := hrel
      by_cases h1 : i < n0
      · by_cases h2 : i < 16
        · have z0 : (0 : Int) ≤ (i : Int) := by omega
          have z1 : (i : Int) < (n0 : Int) := by omega
          have z2 : (i : Int) < 16 := by omega
          obtain ⟨bb, off, hd, hbb, hc⟩ := C0.out i h1
          subst hd
          have e0 : wr.cell? ⟨bb, off + i * 3, none⟩ = some (.int .i64 (a0 i 0)) := (HT.out.only.cell hbb (by simp)).trans (hc 0 (by omega))
          have e1 : wr.cell? ⟨bb, off + i * 3 + 1, none⟩ = some (.int .i64 (a0 i 1)) := (HT.out.only.cell hbb (by simp)).trans (by have := hc 1 (by omega); rwa [show off + (i * 3 + 1) = off + i * 3 + 1 by omega] at this)
          have e2 : wr.cell? ⟨bb, off + i * 3 + 2, none⟩ = some (.int .i64 (a0 i 2)) := (HT.out.only.cell hbb (by simp)).trans (by have := hc 2 (by omega); rwa [show off + (i * 3 + 2) = off + i * 3 + 2 by omega] at this)
          clear hc
          obtain ⟨va, vc, hvo, hvl⟩ := HT.out.row.form
          rw [hl] at hvo
          subst hvo
          go_wp2_with fail
          refine (hop_any _ _ _ _).mono ?_
          rintro x wy ⟨⟨o, rfl⟩, oy⟩
          have H3 : Hid (Tot w wy q r (.slice va i vc) l) := HT.out.then oy
          clear oy HT e0 e1 e2
          have H4 : Hid (Tot w (wy.alloc (.cells #[.int .i64 o.c, .int .i64 o.a, .int .i64 o.b] 23)) q r (.slice va i vc) l ∧ RdP (wy.alloc (.cells #[.int .i64 o.c, .int .i64 o.a, .int .i64 o.b] 23)) (.slice (some ⟨wy.heap.size, 0, none⟩) 1 1) [o] ∧ q + 1 ≤ (wy.alloc (.cells #[.int .i64 o.c, .int .i64 o.a, .int .i64 o.b] 23)).heap.size) := ⟨H3.out.then ((Only.refl [] _).alloc _), rdp_new wy [o] (by unfold maxLen; simp), by have := H3.out.raw.lt; simp; omega⟩
          go_wp2_with (at_builtin; refine app_o rfl _ _ rfl rfl rfl H4.out.1.row H4.out.2.1 (by simp; omega) H4.out.2.2 ?_)
          intro v' w' A
          have H5 : Hid (Tot w w' q r v' (l ++ [o])) := H4.out.1.app A
          clear A H4 H3
          go_wp2_with fail
          go_roundg (17 - (i + 1))
          case measure => omega
          case rel => exact ⟨i + 1, l ++ [o], by go_num, by simp [hl], by omega, by omega, by omega, H5.out⟩
        · have z1 : (i : Int) < (n0 : Int) := by omega
          have z2 : ¬ (i : Int) < 16 := by omega
          go_wp2_with fail
          go_meet
          exact ⟨l, by omega, HT.out⟩
      · have z1 : ¬ (i : Int) < (n0 : Int) := by omega
        go_wp2_with fail
        go_meet
        exact ⟨l, by omega, HT.out⟩
  case rest =>
    obtain ⟨l0, hl0, HT0⟩ := hcut
    clear H0
    go_upto_block 2 with fail
    go_cut [7] (fun vo wx => ∃ l : List Op3, l.length ≤ 20 ∧ Hid (Tot w wx q r vo l))
    case first =>
      go_wp2_with fail
      go_loopg [7, 9] 5 (fun gk vo vi wr => ∃ (i : Nat) (l : List Op3), vi = .int .i64 i ∧ l.length ≤ 16 + i ∧ i ≤ 4 ∧ i ≤ n1 ∧ 5 - i ≤ gk ∧ Hid (Tot w wr q r vo l))
      case atStart => exact ⟨0, l0, rfl, by omega, by omega, by omega, by omega, HT0.out⟩
      case round =>
        clear HT0 hl0
        obtain ⟨i, l, rfl, hl, hi, hin, hg, HT⟩ := hrel
        by_cases h1 : i < n1
        · by_cases h2 : i < 4
          · have z0 : (0 : Int) ≤ (i : Int) := by omega
            have z1 : (i : Int) < (n1 : Int) := by omega
            have z2 : (i : Int) < 4 := by omega
            obtain ⟨bb, off, hd, hbb, hc⟩ := C1.out i h1
            subst hd
            have e0 : wr.cell? ⟨bb, off + i * 3, none⟩ = some (.int .i64 (a1 i 0)) := (HT.out.only.cell hbb (by simp)).trans (hc 0 (by omega))
            have e1 : wr.cell? ⟨bb, off + i * 3 + 1, none⟩ = some (.int .i64 (a1 i 1)) := (HT.out.only.cell hbb (by simp)).trans (by have := hc 1 (by omega); rwa [show off + (i * 3 + 1) = off + i * 3 + 1 by omega] at this)
            have e2 : wr.cell? ⟨bb, off + i * 3 + 2, none⟩ = some (.int .i64 (a1 i 2)) := (HT.out.only.cell hbb (by simp)).trans (by have := hc 2 (by omega); rwa [show off + (i * 3 + 2) = off + i * 3 + 2 by omega] at this)
            clear hc
            generalize a1 i 0 = oc at e0
            generalize a1 i 1 = oa at e1
            generalize a1 i 2 = ob at e2
            obtain ⟨va, vc, hvo, hvl⟩ := HT.out.row.form
            obtain ⟨N, hN⟩ : ∃ N, l.length = N := ⟨_, rfl⟩
            rw [hN] at hvo hvl hl
            subst hvo
            have H4 : Hid (Tot w (wr.alloc (.cells #[.int .i64 oc, .int .i64 oa, .int .i64 ob] 23)) q r (.slice va N vc) l ∧ RdP (wr.alloc (.cells #[.int .i64 oc, .int .i64 oa, .int .i64 ob] 23)) (.slice (some ⟨wr.heap.size, 0, none⟩) 1 1) [⟨oc, oa, ob⟩] ∧ q + 1 ≤ (wr.alloc (.cells #[.int .i64 oc, .int .i64 oa, .int .i64 ob] 23)).heap.size) := ⟨HT.out.then ((Only.refl [] _).alloc _), rdp_new wr [⟨oc, oa, ob⟩] (by unfold maxLen; simp), by have := HT.out.raw.lt; simp; omega⟩
            go_wp2_with (at_builtin; refine app_o rfl _ _ rfl rfl rfl H4.out.1.row H4.out.2.1 (by simp; omega) H4.out.2.2 ?_)
            intro v' w' A
            have H5 : Hid (Tot w w' q r v' (l ++ [⟨oc, oa, ob⟩])) := H4.out.1.app A
            clear A H4 HT e0 e1 e2
            go_wp2_with fail
            go_roundg (5 - (i + 1))
            case measure => omega
            case rel => exact ⟨i + 1, l ++ [(⟨oc, oa, ob⟩ : Op3)], by go_num, by simp; omega, by omega, by omega, by omega, H5.out⟩
          · have z1 : (i : Int) < (n1 : Int) := by omega
            have z2 : ¬ (i : Int) < 4 := by omega
            go_wp2_with fail
            go_meet
            exact ⟨l, by omega, HT.out⟩
        · have z1 : ¬ (i : Int) < (n1 : Int) := by omega
          go_wp2_with fail
          go_meet
          exact ⟨l, by omega, HT.out⟩
    case rest =>
      obtain ⟨l, hl, HT⟩ := hcut
      clear HT0 C0 C1 hl0 l0
      go_upto_region 10 with fail
      apply wp_region_lit
      refine op_loads rfl (cs := r.cells) 46 _ rfl rfl Try.underlying46 (by kernel_rfl) HT.out.raw.whole ?_
      refine op_call (F := 14) (args := #[r.v]) (w1 := wc) rfl (by kernel_rfl) ?_
      have hme : CameI .i64 wc r.m ms := by
        obtain ⟨ma, mcap, g1, g2, g3, g4, g5⟩ := CM.out
        refine ⟨ma, mcap, g1, g2, g3, g4, ?_⟩
        rcases g5 with g5 | ⟨b, off, g5, g6, g7⟩
        · exact Or.inl g5
        · exact Or.inr ⟨b, off, g5, Nat.lt_of_lt_of_le g6 HT.out.only.size, fun i hi => (HT.out.only.cell g6 (by simp)).trans (g7 i hi)⟩
      refine (envOf_any r ms wc hme).mono ?_
      rintro x w1 ⟨⟨e, rfl, he1, he2, he3⟩, o1⟩
      refine ⟨_, rfl, ?_⟩
      obtain ⟨oa, oc, hov, hol⟩ := HT.out.row.form
      obtain ⟨N, hN⟩ : ∃ N, l.length = N := ⟨_, rfl⟩
      have HN : Hid _ := hN
      rw [hN] at hov hol hl
      subst hov
      have H1 : Hid (Tot w w1 q r (.slice oa N oc) l) := HT.out.then o1
      clear o1 HT hme hN
      refine op_val (w' := w1.alloc (.cells (Ev.zero.cells (.slice none 0 0)).toArray 32)) rfl (.pointer (some ⟨w1.heap.size, 0, none⟩)) (by kernel_rfl) ?_
      refine op_storeE (p := w1.heap.size) (e := e) (s := .slice none 0 0) rfl _ _ rfl rfl rfl (Eb.new Ev.zero _ _ _) rfl ?_
      intro w3 hb o3 hz3
      have o13 : Only [] w1 w3 := ((Only.refl [] w1).alloc _).then o3 (fun u hu hl => by have h2 : u = w1.heap.size := (by simpa using hu); omega)
      have H3 : Hid (TotE w w3 q w1.heap.size r (.slice oa N oc) l e) := ⟨H1.out.then o13, hb⟩
      clear o13 hb o3 hz3 H1
      generalize w1.heap.size = p at *
      refine wpList_nil ?_
      have hbz : (e.b == Body.zero) = false := by
        simp only [beq_eq_false_iff_ne]
        intro h
        rw [h] at he1
        exact absurd he1 (by decide)
      go_wp2_with fail
      refine (known_any _).mono ?_
      rintro x w4 ⟨rfl, o4⟩
      have H4 : Hid (TotE w w4 q p r (.slice oa N oc) l e) := H3.out.then o4
      clear H3 o4
      go_wp2_with (refine opg_body (by kernel_rfl) _ rfl rfl H4.out.env ?_)
      refine (right_any _ _).mono ?_
      rintro x w5 ⟨rfl, o5⟩
      rw [hbz, Bool.false_or]
      have H5 : Hid (TotE w w5 q p r (.slice oa N oc) l e) := H4.out.then o5
      clear H4 o5
      obtain ⟨sb, hsb⟩ : ∃ sb, Body.some e.b = sb := ⟨_, rfl⟩
      rw [hsb]
      cases sb
      · go_wp2_with fail
        refine (known_any _).mono ?_
        rintro x w6 ⟨rfl, o6⟩
        go_wp2_with fail
        go_ret
        exact ⟨rfl, (H5.out.then o6).t.only⟩
      go_upto_region 13 with fail
      apply wp_region_lit
      refine op_val (w' := w5) rfl (.slice oa N oc) (by kernel_rfl) ?_
      refine op_env rfl _ rfl rfl H5.out.env ?_
      obtain ⟨R, hR⟩ : ∃ R, Rule.run l e = R := ⟨_, rfl⟩
      have HRR : Hid _ := hR
      refine run_seq (B := 0) (e := e) (s := .slice none 0 0) (ov := .slice oa N oc) (l := l) (R := R) (he3 ▸ SR.nil 0 _) (by rw [he3]; simp) (by rw [HN.out]; omega) (H5.out.t.row.rd.rdo (Nat.le_refl _)) hR rfl rfl rfl rfl rfl rfl rfl rfl rfl rfl (by kernel_rfl) (fun _ _ => by kernel_rfl) (fun _ _ _ _ => by kernel_rfl) (fun _ _ _ _ => by kernel_rfl) (fun _ _ _ _ => by kernel_rfl) rfl rfl _ _ _ _ rfl rfl rfl rfl (fun _ _ _ _ _ => by kernel_rfl) (fun _ _ _ _ _ => by kernel_rfl) (fun _ _ _ _ _ => by kernel_rfl) (fun _ _ _ _ _ => by kernel_rfl) (fun _ _ _ _ _ _ => by kernel_rfl) ?_
      intro w6 va vn vc p2 q2 HS
      simp only [AR7, AR5, AR2, Act.put, List.setIfInBounds_toArray, List.set_cons_succ, List.set_cons_zero]
      refine wpList_nil ?_
      have H6 : Hid (TotE w w6 q p r (.slice oa N oc) l e) := H5.out.then HS.only
      have HS6 : Hid _ := HS
      clear H5 hR HS
      rcases run_cases l e hsb with ⟨c, a, hc, r1, r2, r3, r4⟩ | ⟨e', hc, hk⟩
      · rw [HRR.out] at hc
        subst hc
        rw [HN.out] at r4
        have f0 := HS6.out.flt.cell0
        have f1 := HS6.out.flt.cell1
        go_wp2_with (first | refine opg_env (by kernel_rfl) _ rfl rfl HS6.out.env ?_ | refine opg_env (by kernel_rfl) _ rfl rfl H6.out.env ?_)
        refine (same_any (B1 := w5.heap.size) (B2 := 0) e e HS6.out.row (he3 ▸ SR.nil 0 _) (by rw [he3]; simp) (by rw [he3]; simp)).mono ?_
        rintro x w7 ⟨rfl, o7⟩
        rw [Ev.same_self]
        go_wp2_with fail
        go_ret
        exact ⟨rfl, H6.out.t.only.trans o7⟩
      · rw [HRR.out] at hc
        subst hc
        obtain ⟨va', vc', hv, hvl⟩ := HS6.out.row.form
        injection hv with hv1 hv2 hv3
        subst hv1 hv3
        obtain ⟨n, hn⟩ : ∃ n, e'.sh.length = n := ⟨_, rfl⟩
        have HNN : Hid (e'.sh.length = n) := hn
        have hvn : vn = n := hv2.trans hn
        subst hvn
        have hvl2 : vn ≤ 9223372036854775807 := by have := hvl; rw [hv2]; exact this
        clear hv2 hvl
        obtain ⟨ll, hsh, -, hall, hroom⟩ := hk.sh
        rw [he3, List.nil_append] at hsh
        have HA : Hid (∀ s ∈ e'.sh, s.k = 2 ∧ s.o = e.b.o ∧ Body.some s = true) := fun s hs => by
          rw [hsh] at hs
          obtain ⟨g1, g2, g3⟩ := hall s hs
          exact ⟨g1, g2, g3 hsb⟩
        have zr : ¬ e.room < (vn : Int) := by
          rcases hroom with hroom | hroom
          · rw [hsh, hroom] at hn; simp at hn; omega
          · rw [hn] at hroom; omega
        clear hall hroom hsh hn
        have nf : ∀ w, (binOp .neq 34 (.agg #[.int .i64 0, .int .i64 0]) (.agg #[.int .i64 0, .int .i64 0])).run Try.prog w = .ok (.bool false) w := fun w => neq_flt 0 0 0 0 w
        have ni : ∀ w, (binOp .neq 28 (.agg #[.int .i64 e.t, .int .i64 e.ix, .int .i64 e.iy]) (.agg #[.int .i64 e.t, .int .i64 e.ix, .int .i64 e.iy])).run Try.prog w = .ok (.bool false) w := fun w => by
          have := neq_in e.t e.ix e.iy e.t e.ix e.iy w
          simpa using this
        have hok := hk.ok hsb
        have HK : Hid _ := hk
        clear hk
        have f0 : w6.cell? ⟨q2, 0, none⟩ = some (.int .i64 0) := HS6.out.flt.cell0
        have f1 : w6.cell? ⟨q2, 1, none⟩ = some (.int .i64 0) := HS6.out.flt.cell1
        have HE6 : Hid (Eb w6 p2 e' (.slice va vn vc)) := HS6.out.env
        go_upto_region 16 with fail
        apply wp_region_lit
        refine op_loads (cs := [.int .i64 0, .int .i64 0]) (g := q2) (off := 0) rfl 34 (.tmp 12) rfl (by kernel_rfl) Try.underlying34 (by kernel_rfl) (fun j v hj => by
          match j, hj with
          | 0, hj => injection hj with hj; subst hj; exact f0
          | 1, hj => injection hj with hj; subst hj; exact f1) ?_
        refine op_val (w' := w6) rfl (.agg #[.int .i64 0, .int .i64 0]) (by kernel_rfl) ?_
        refine op_val (w' := w6) rfl (.bool false) (by kernel_rfl) ?_
        refine op_val (w' := w6) rfl (.bool false) (by kernel_rfl) ?_
        simp only [Act.put, List.setIfInBounds_toArray, List.set_cons_succ, List.set_cons_zero]
        refine opg_val (w' := w6) (by kernel_rfl) (.pointer (some ⟨p2, 0, none⟩)) (by kernel_rfl) ?_
        simp only [Act.put, List.setIfInBounds_toArray, List.set_cons_succ, List.set_cons_zero]
        refine opg_body (p := p2) (by kernel_rfl) (.tmp 99) rfl (by kernel_rfl) HE6.out ?_
        simp only [Act.put, List.setIfInBounds_toArray, List.set_cons_succ, List.set_cons_zero]
        go_wp2_with fail
        refine (right_any _ _).mono ?_
        rintro x w7 ⟨rfl, o7⟩
        rw [hok, Bool.or_true]
        have H7 : Hid (TotE w w7 q p r (.slice oa N oc) l e) := H6.out.then o7
        have HS7 : Hid (RunSeq w5 w7 p2 q2 (.slice va vn vc) (e', 0, 0, true)) := HS6.out.then o7
        clear H6 HS6 HE6 o7 f0 f1 nf
        have g0 : w7.cell? ⟨p2, 0, none⟩ = some (.int .i64 e.b.k) := by rw [← HK.out.k]; exact HS7.out.env.blk.cell 0
        have g1 : w7.cell? ⟨p2, 1, none⟩ = some (.int .i64 e.b.o) := by rw [← HK.out.o]; exact HS7.out.env.blk.cell 1
        have g6 : w7.cell? ⟨p2, 6, none⟩ = some (.int .i64 e.b.age) := by rw [← HK.out.age]; exact HS7.out.env.blk.cell 6
        have g11 : w7.cell? ⟨p2, 11, none⟩ = some (.int .i64 e.b.f) := by rw [← HK.out.f]; exact HS7.out.env.blk.cell 11
        have g12 : w7.cell? ⟨p2, 12, none⟩ = some (.int .i64 e.t) := by rw [← HK.out.t]; exact HS7.out.env.blk.cell 12
        have g13 : w7.cell? ⟨p2, 13, none⟩ = some (.int .i64 e.ix) := by rw [← HK.out.ix]; exact HS7.out.env.blk.cell 13
        have g14 : w7.cell? ⟨p2, 14, none⟩ = some (.int .i64 e.iy) := by rw [← HK.out.iy]; exact HS7.out.env.blk.cell 14
        have g16 : w7.cell? ⟨p2, 16, none⟩ = some (.int .i64 e.room) := by rw [← HK.out.room]; exact HS7.out.env.blk.cell 16
        have g17 : w7.cell? ⟨p2, 17, none⟩ = some (.slice va vn vc) := HS7.out.env.blk.cell 17
        have p0 : w7.cell? ⟨p, 0, none⟩ = some (.int .i64 e.b.k) := H7.out.env.blk.cell 0
        have p1 : w7.cell? ⟨p, 1, none⟩ = some (.int .i64 e.b.o) := H7.out.env.blk.cell 1
        have p6 : w7.cell? ⟨p, 6, none⟩ = some (.int .i64 e.b.age) := H7.out.env.blk.cell 6
        have p11 : w7.cell? ⟨p, 11, none⟩ = some (.int .i64 e.b.f) := H7.out.env.blk.cell 11
        have p12 : w7.cell? ⟨p, 12, none⟩ = some (.int .i64 e.t) := H7.out.env.blk.cell 12
        have p13 : w7.cell? ⟨p, 13, none⟩ = some (.int .i64 e.ix) := H7.out.env.blk.cell 13
        have p14 : w7.cell? ⟨p, 14, none⟩ = some (.int .i64 e.iy) := H7.out.env.blk.cell 14
        have p16 : w7.cell? ⟨p, 16, none⟩ = some (.int .i64 e.room) := H7.out.env.blk.cell 16
        go_wp2_with fail
        go_loopg [165] (vn + 1) (fun gk vi wr => ∃ i : Nat, vi = .int .i64 i ∧ i ≤ vn ∧ vn + 1 - i ≤ gk ∧ Hid (TotE w wr q p r (.slice oa N oc) l e ∧ RunSeq w5 wr p2 q2 (.slice va vn vc) (e', 0, 0, true)))
        case atStart => exact ⟨0, rfl, by omega, by omega, H7.out, HS7.out⟩
        case round =>
          clear g0 g1 g6 g11 g12 g13 g14 g16 g17 p0 p1 p6 p11 p12 p13 p14 p16 H7 HS7 ni zr HRR HK HN CM HQ
          obtain ⟨i, rfl, hin, hg, HH⟩ := hrel
          by_cases hlt : i < vn
          rotate_left
          · have z1 : ¬ (i : Int) < (vn : Int) := by omega
            go_wp2_with fail
            go_ret
            exact ⟨rfl, HH.out.1.t.only⟩
          have z0 : (0 : Int) ≤ (i : Int) := by omega
          have z1 : (i : Int) < (vn : Int) := by omega
          obtain ⟨g, hva, -⟩ := HH.out.2.row.at_ i (by rw [HNN.out]; exact hlt)
          subst hva
          obtain ⟨b, hb⟩ : ∃ b, e'.sh.getD i Body.zero = b := ⟨_, rfl⟩
          have HB : Hid (b.k = 2 ∧ b.o = e.b.o ∧ Body.some b = true) := by
            rw [← hb]
            refine HA.out _ ?_
            have : i < e'.sh.length := by rw [HNN.out]; exact hlt
            simp [List.getD_eq_getElem?_getD, this]
          have FA : Hid (∀ z, Only [] wr.drew z → (TotE w z q p r (.slice oa N oc) l e ∧ RunSeq w5 z p2 q2 (.slice (some ⟨g, 0, none⟩) vn vc) (e', 0, 0, true)) ∧ (∀ j v, b.cells[j]? = some v → z.cell? ⟨g, i * 12 + j, none⟩ = some v)) := by
            show ∀ z, _ → _
            intro z hz
            have o := (only_drew wr).trans hz
            have hh := HH.out.2.then o
            refine ⟨⟨HH.out.1.then o, hh⟩, ?_⟩
            obtain ⟨g', e1, _, hc⟩ := hh.row.at_ i (by rw [HNN.out]; exact hlt)
            injection e1 with e1; injection e1 with e1; subst e1; rw [hb] at hc; exact hc
          clear HH hb
          have hbk := HB.out.1
          have hbo := HB.out.2.1
          have hbs := HB.out.2.2
          have ib : (Try.prog.info? 26).map (·.size) = some 12 := by kernel_rfl
          go_wp2_with fail
          refine wp_region_free 26 (Only []) (Only.refl _) Only.trans [(10, .pointer (some ⟨p, 0, none⟩)), (11, .pointer (some ⟨p2, 0, none⟩)), (14, .int .i64 i)] (by intro p hp; simp only [List.mem_cons, List.not_mem_nil, or_false] at hp; rcases hp with rfl | rfl | rfl <;> rfl) (by kernel_rfl) (by kernel_rfl) (by decide) (by kernel_rfl) (by kernel_rfl) ?_
          simp only [List.take_succ_cons, List.take_zero, List.drop_succ_cons, List.drop_zero]
          iterate 4 (
            apply rf_val
            · first | rfl | exact ⟨by kernel_rfl, rfl⟩
            · intro z v hT hf
              have c17 : v.cell? ⟨p2, 17, none⟩ = some (.slice (some ⟨g, 0, none⟩) vn vc) := (FA.out v hT).1.2.env.blk.cell 17
              simp at hf
              go_simp
              try rfl)
          refine rf_val b.v (by first | rfl | exact ⟨by kernel_rfl, rfl⟩) (fun z v hT hf => ?_) ?_
          · have e50 : z.eval (.tmp 171) = .pointer (some ⟨g, i * 12, none⟩) := by simp at hf; simpa [Act.eval] using hf.2
            exact exec_loads 26 (.tmp 171) rfl e50 Try.underlying26 ib (FA.out v hT).2
          refine rf_eff (fun _ v => v = .bool true) (by first | rfl | exact ⟨by kernel_rfl, rfl⟩) (fun _ _ _ _ h => h) (fun z v hT hf => ?_) ?_
          · simp at hf
            go_simp
            refine (right_any _ _).mono ?_
            rintro x y2 ⟨rfl, o⟩
            rw [hbs, Bool.or_true]
            exact ⟨_, rfl, rfl, o⟩
          iterate 20 (
            apply rf_val
            · first | rfl | exact ⟨by kernel_rfl, rfl⟩
            · intro z v hT hf
              have c17 : v.cell? ⟨p2, 17, none⟩ = some (.slice (some ⟨g, 0, none⟩) vn vc) := (FA.out v hT).1.2.env.blk.cell 17
              have b0 : v.cell? ⟨g, i * 12, none⟩ = some (.int .i64 2) := by have := (FA.out v hT).2 0 _ rfl; rwa [hbk] at this
              have b1 : v.cell? ⟨g, i * 12 + 1, none⟩ = some (.int .i64 e.b.o) := by have := (FA.out v hT).2 1 _ rfl; rwa [hbo] at this
              have p1 : v.cell? ⟨p, 1, none⟩ = some (.int .i64 e.b.o) := (FA.out v hT).1.1.env.blk.cell 1
              simp at hf
              go_simp
              try rfl)
          intro w8 hy
          simp only [FinA, Sp.R, forall_eq]
          simp only [Act.put, List.setIfInBounds_toArray, List.set_cons_succ, List.set_cons_zero]
          have H8 : Hid (TotE w w8 q p r (.slice oa N oc) l e ∧ RunSeq w5 w8 p2 q2 (.slice (some ⟨g, 0, none⟩) vn vc) (e', 0, 0, true)) := (FA.out w8 hy).1
          clear hy FA HB hbk hbo hbs
          go_wp2_with fail
          go_roundg (vn - i)
          case measure => omega
          case rel => exact ⟨i + 1, by go_num, by omega, by omega, H8.out⟩
end Go.Proofs.Ytnicjbllkdpgcaa.ruleTotal

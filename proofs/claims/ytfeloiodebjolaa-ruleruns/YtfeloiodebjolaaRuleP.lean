/- Package rule: Run, of a body that may be. -/
import Derived.Test.YtfeloiodebjolaaRuleO
namespace Go.Proofs.Ytfeloiodebjolaa
open Go.RowKit
set_option linter.unusedVariables false

def Mch.zero : Mch := ⟨.slice none 0 0, Body.zero, 0, 0, 0, 0, 0, .slice none 0 0, 0, 0⟩
def Mch.of (ov : Value) (e : Ev) (v : Value) : Mch := ⟨ov, e.b, e.t, e.ix, e.iy, e.d, e.room, v, 0, 0⟩
theorem Mch.one (m : Mch) (h1 : m.ops.oneCell' = true) (h2 : m.sh.oneCell' = true) : ∀ v ∈ m.cells, v.oneCell' = true := by
  intro v hv
  simp only [Mch.cells, List.mem_cons, List.not_mem_nil, or_false] at hv
  rcases hv with rfl | rfl | rfl | rfl | rfl | rfl | rfl | rfl | rfl | rfl | rfl | rfl | rfl | rfl | rfl | rfl | rfl | rfl | rfl | rfl | rfl
  all_goals first | rfl | exact h1 | exact h2
theorem info_mch : (Try.prog.info? 58).map (·.size) = some 21 := by kernel_rfl
theorem Mb.env {w : World} {p : Nat} {m : Mch} (h : Mb w p m) (sh : List Bd) : ∀ j v, ((m.e sh).cells m.sh)[j]? = some v → w.cell? ⟨p, 1 + j, none⟩ = some v :=
  Blk.part (xs := [m.ops]) (ys := [.int .i64 m.at_, .int .i64 m.done]) (by have := h.blk; exact this)

set_option maxRecDepth 100000 in
set_option maxHeartbeats 4000000 in
theorem ran_good {B : Nat} {w : World} (e : Ev) {s ov : Value} {l : List Op3} (hs : SR B w s e.sh) (hl : e.sh.length ≤ 900000) (hn : l.length ≤ 1000000) (ho : RdO w.heap.size w ov l) (hb : Body.some e.b = true) : Calls Try.prog 6 #[ov, e.v s] w (RanPost w (Rule.run l e)) := by
  have hnot : ∀ (x : Bool) (w : World), (Op.unary .not (.bool x)).run Try.prog w = .ok (.bool (!x)) w := fun _ _ => rfl
  have hmf : ∀ (fn : Fn) (first cap : Array Value) (w : World), (Instr.makeFunc fn first cap).run Try.prog w = .ok (.func fn first cap) w := fun _ _ _ _ => rfl
  have H0 : Hid (Ran B w (((w.alloc (.cells (e.cells s).toArray 39)).alloc (.cells (Ev.zero.cells (.slice none 0 0)).toArray 39)).alloc (.cells #[.int .i64 0, .int .i64 0] 42)) w.heap.size e s ov l) := ran_start hs ho
  obtain ⟨R, hR⟩ : ∃ R, Rule.run l e = R := ⟨_, rfl⟩
  have HR : Hid _ := hR
  rw [hR]
  obtain ⟨oa, ocap, hov, -⟩ := ho
  subst hov
  clear hs hR
  have k0 : (e.b.k == 0) = false := by
    have := ((Body.some_iff _).1 hb).k
    simp; omega
  obtain ⟨n, hnn⟩ : ∃ n, l.length = n := ⟨_, rfl⟩
  have HN : Hid _ := hnn
  rw [hnn] at hn
  simp only [hnn] at H0 ⊢
  clear hnn
  go_enter Try.func6, Try.ntmps6
  go_wp2_with fail
  change Calls _ _ _ (((w.alloc (.cells (e.cells s).toArray 39)).alloc (.cells (Ev.zero.cells (.slice none 0 0)).toArray 39)).alloc (.cells #[.int .i64 0, .int .i64 0] 42)) _
  generalize (((w.alloc (.cells (e.cells s).toArray 39)).alloc (.cells (Ev.zero.cells (.slice none 0 0)).toArray 39)).alloc (.cells #[.int .i64 0, .int .i64 0] 42)) = W at *
  generalize hq : w.heap.size = q at *
  refine (right_any e.b _).mono ?_
  rintro x w1 ⟨rfl, o1⟩
  have H1 : Hid (Ran B w w1 q e s (.slice oa n ocap) l) := H0.out.then o1
  clear o1 H0
  have c0 : w1.cell? ⟨q, 0, none⟩ = some (.int .i64 e.b.k) := H1.out.env.blk.cell 0
  rw [hb, Bool.or_true]
  go_upto_region 3 with fail
  apply wp_region_lit
  refine op_val (w' := w1) rfl (.slice oa n ocap) (by kernel_rfl) ?_
  refine op_loads rfl (cs := e.cells s) 39 _ rfl rfl Try.underlying39 info_env H1.out.env.cell ?_
  refine op_call (F := 16) (args := #[e.v s]) (w1 := w1) rfl (by kernel_rfl) ?_
  refine (apart_any e H1.out.row (by omega)).mono ?_
  rintro x w2 ⟨⟨v, rfl, hv⟩, o2⟩
  refine ⟨_, rfl, ?_⟩
  have H2 : Hid (Ran B w w2 q e s (.slice oa n ocap) l ∧ SR w1.heap.size w2 v e.sh) := ⟨H1.out.then o2, hv⟩
  have hz1 := H1.out.sz
  obtain ⟨va, vn, vc, rfl⟩ := hv.form2
  clear hv o2 c0 H1
  refine op_val (w' := w2) rfl (.agg (Mch.of (.slice oa n ocap) e (.slice va vn vc)).cells.toArray) (by kernel_rfl) ?_
  refine op_val (w' := w2.alloc (.cells Mch.zero.cells.toArray 58)) rfl (.pointer (some ⟨w2.heap.size, 0, none⟩)) (by kernel_rfl) ?_
  have hM : Mb (w2.alloc (.cells Mch.zero.cells.toArray 58)) w2.heap.size Mch.zero := ⟨Blk.new _ _ _⟩
  have H3 : Hid (Ran B w (w2.alloc (.cells Mch.zero.cells.toArray 58)) q e s (.slice oa n ocap) l ∧ SR w1.heap.size (w2.alloc (.cells Mch.zero.cells.toArray 58)) (.slice va vn vc) e.sh) := ⟨H2.out.1.then ((Only.refl _ _).alloc _), H2.out.2.only ((Only.refl [] _).alloc _) (by simp)⟩
  have hp0 := H2.out.1.sz
  have hlt := H2.out.2.lt
  generalize w2.alloc (.cells Mch.zero.cells.toArray 58) = w3 at *
  generalize hpp : w2.heap.size = p at *
  refine op_store (vs := (Mch.of (.slice oa n ocap) e (.slice va vn vc)).cells) rfl 58 _ _ rfl 0 rfl rfl hM.blk info_mch (by simp [Mch.cells]) (Mch.one _ rfl rfl) ?_
  intro w4 hb4 o4 hz4
  replace hb4 : Blk w4 p (Mch.of (.slice oa n ocap) e (.slice va vn vc)).cells := by simpa [Mch.cells, Mch.of, Mch.zero] using hb4
  have hlow : ∀ g, (Value.slice va vn vc).ownBlock = some g → q + 3 ≤ g ∧ g < p := fun g hg => by have := hlt g hg; omega
  have SP : ∀ g, (Value.slice va vn vc).ownBlock = some g → g ∉ [p] := fun g hg hm => by have := hlow g hg; have h2 : g = p := (by simpa using hm); omega
  have R4 : Ran B w w4 q e s (.slice oa n ocap) l := H3.out.1.off o4 (fun k hk => by rw [(by simpa using hk : k = p)]; exact hp0)
  have H4 : Hid (St q p w4 (Mch.of (.slice oa n ocap) e (.slice va vn vc)) e.sh l.length ∧ RdO q w4 (.slice oa n ocap) l ∧ Ran B w w4 q e s (.slice oa n ocap) l ∧ p < w4.heap.size) :=
    ⟨⟨⟨hb4⟩, (H3.out.2.only o4 SP).lower (by omega), fun h => by have := (hlow p h).2; omega, by omega, by omega, hb, ⟨oa, ocap, by rw [HN.out]; rfl⟩, by rw [HN.out]; exact hn, Int.le_refl _, by show (0 : Int) ≤ _; omega⟩, hq ▸ R4.ops, R4, Blk.lt hb4⟩
  clear hb4 o4 hz4 H3 H2 hM SP R4 hlt
  refine wpList_nil ?_
  go_wp2_with fail
  refine catch_m 18 _ (p :: (Value.slice va vn vc).ownBlock.toList) _ ?_ ?_ (by simp [go_sem]) ?_
  · intro hm
    rcases List.mem_cons.1 hm with h | h
    · have := H4.out.2.2.2; omega
    · have := (hlow w4.heap.size (by simpa [Option.mem_toList] using h)).2; have := H4.out.2.2.2; omega
  · intro hm
    rcases List.mem_cons.1 hm with h | h
    · have := H4.out.2.2.2; omega
    · have := (hlow (w4.heap.size + 1) (by simpa [Option.mem_toList] using h)).2; have := H4.out.2.2.2; omega
  have ic := inCatch_only w4
  refine (run_any (H4.out.1.only ic) (H4.out.2.1.only ic (by simp)) rfl (by omega)).mono ?_
  rintro x w5 hx
  have er : (Mch.of (.slice oa n ocap) e (.slice va vn vc)).e e.sh = e := rfl
  have ea : (Mch.of (.slice oa n ocap) e (.slice va vn vc)).at_ = 0 := rfl
  rw [er, ea] at hx
  have OFF : ∀ k ∈ p :: (Value.slice va vn vc).ownBlock.toList, q + 3 ≤ k := by
    intro k hk
    rcases List.mem_cons.1 hk with h | h
    · omega
    · have h2 : (Value.slice va vn vc).ownBlock = some k := by simpa [Option.mem_toList] using h
      exact (hlow k h2).1
  have sz4 := H4.out.2.2.2
  have ics := inCatch_size w4
  cases hgo : Rule.go l 64 0 e with
  | fault c a =>
    rw [hgo] at hx
    obtain ⟨rfl, o5⟩ := hx
    refine ⟨o5, _, .thrown c a [] (by simp), fun w6 o6 => ?_⟩
    have R6 : Hid (Ran B w w6 q e s (.slice oa n ocap) l) := ((H4.out.2.2.1.then ic).off o5 OFF).off o6 (by simp; omega)
    have hR : R = (e, c, a, false) := by rw [← HR.out]; exact run_fault hb hgo
    subst hR
    clear o5 o6 OFF ic H4 hgo hlow HR
    go_wp2_with fail
    have R7 : Hid (Ran B w (w6.alloc (.cells #[.int .i64 c, .int .i64 a] 42)) q e s (.slice oa n ocap) l ∧ Two (w6.alloc (.cells #[.int .i64 c, .int .i64 a] 42)) w6.heap.size (.int .i64 c) (.int .i64 a)) := ⟨R6.out.then ((Only.refl _ _).alloc _), Two.new _ _ _ _⟩
    have sz6 := R6.out.sz
    clear R6
    generalize w6.alloc (.cells #[.int .i64 c, .int .i64 a] 42) = w7 at *
    generalize w6.heap.size = t at *
    have FA : Hid (∀ y, Only [q + 1] w7.drew y → Eb y q e s ∧ SR B y s e.sh ∧ Two y t (.int .i64 c) (.int .i64 a) ∧ Two y (q + 1 + 1) (.int .i64 0) (.int .i64 0)) := by
      show ∀ y, _ → _
      intro y hy
      have oo : Only [q + 1] w7 y := ((only_drew w7).weaken (by simp)).trans hy
      exact ⟨R7.out.1.env.only oo (by simp), R7.out.1.row.only oo (fun g hg hm => by have := R7.out.1.old g hg; have h2 : g = q + 1 := (by simpa using hm); omega), R7.out.2.only oo (by simp; omega), R7.out.1.flt.only oo (by simp)⟩
    refine wp_region_tail (fun _ _ => False) (fun _ _ _ _ h => h.elim) 4 (Only [q + 1]) (Only.refl _) Only.trans [(3, .pointer (some ⟨q, 0, none⟩)), (4, .pointer (some ⟨q + 1, 0, none⟩)), (8, .pointer (some ⟨t, 0, none⟩))] (by intro p hp; simp only [List.mem_cons, List.not_mem_nil, or_false] at hp; rcases hp with rfl | rfl | rfl <;> rfl) (by kernel_rfl) (by kernel_rfl) (by decide) (by kernel_rfl) (by kernel_rfl) (fun y => Eb y (q + 1) Ev.zero (.slice none 0 0)) (R7.out.1.res.only (only_drew _) (by simp)) ?_
    simp only [List.take_succ_cons, List.take_zero, List.drop_succ_cons, List.drop_zero]
    refine rb_val (.agg (e.cells s).toArray) (by first | rfl | exact ⟨by kernel_rfl, rfl⟩) (fun z y hT hf => ?_) ?_
    · have e3 : z.eval (.tmp 3) = .pointer (some ⟨q, 0, none⟩) := by simp at hf; simpa [Act.eval] using hf.1
      exact exec_loads 39 (.tmp 3) rfl e3 Try.underlying39 info_env (FA.out y hT).1.cell
    refine rb_call (fun y v0 => ∃ v, v0 = e.v v ∧ SR (q + 3) y v e.sh) (fun y => Eb y (q + 1) Ev.zero (.slice none 0 0)) (by first | rfl | exact ⟨by kernel_rfl, rfl⟩) (by kernel_rfl) (fun y y2 v hT h => ?_) (fun z y hJ hT hf => ?_) ?_
    · obtain ⟨v, rfl, h⟩ := h
      exact ⟨v, rfl, h.only hT (fun g hg hm => by have := (h.lt g hg).1; have h2 : g = q + 1 := (by simpa using hm); omega)⟩
    · have hsz : q + 3 ≤ y.heap.size := by have := (FA.out y hT).2.2.1.lt; omega
      simp at hf
      go_simp
      refine (apart_any e (FA.out y hT).2.1 (by omega)).mono ?_
      rintro x y2 ⟨⟨v, rfl, hv⟩, o2⟩
      exact ⟨_, rfl, ⟨v, rfl, hv.lower hsz⟩, hJ.only o2 (by simp), o2.weaken (by simp)⟩
    apply rb_val
    · first | rfl | exact ⟨by kernel_rfl, rfl⟩
    · intro z y hT hf
      have f0 := (FA.out y hT).2.2.1.cell0
      have f1 := (FA.out y hT).2.2.1.cell1
      simp at hf
      go_simp
      try rfl
    refine rb_call (fun _ v => v = undef) (fun y => ∃ v, Eb y (q + 1) e v ∧ SR (q + 3) y v e.sh) (by first | rfl | exact ⟨by kernel_rfl, rfl⟩) (by kernel_rfl) (fun _ _ _ _ h => h) (fun z y hJ hT hf => ?_) ?_
    · have e4 : z.eval (.tmp 4) = .pointer (some ⟨q + 1, 0, none⟩) := by simp at hf; simpa [Act.eval] using hf.1.2.1
      have e34 : ∃ v, z.eval (.tmp 34) = e.v v ∧ SR (q + 3) y v e.sh := by simp at hf; simpa [Act.eval] using hf.2.1
      obtain ⟨v, hv, hsv⟩ := e34
      obtain ⟨sa, sn, sc, rfl⟩ := hsv.form2
      exact effOk_storeE (.tmp 4) (.tmp 34) rfl e4 hv hJ rfl fun y2 k1 k2 => ⟨rfl, ⟨_, k1, hsv.only k2 (fun g hg hm => by have := (hsv.lt g hg).1; have h2 : g = q + 1 := (by simpa using hm); omega)⟩, k2⟩
    intro w8 hJ hy
    simp only [FinA, Sp.R, forall_eq]
    intro v0 _ _
    simp only [Act.put, List.setIfInBounds_toArray, List.set_cons_succ, List.set_cons_zero]
    obtain ⟨v, hev, hsv⟩ := hJ
    have H8 : Hid (Eb w8 (q + 1) e v ∧ SR (q + 3) w8 v e.sh ∧ Two w8 (q + 1 + 1) (.int .i64 0) (.int .i64 0) ∧ Only [] w w8) := ⟨hev, hsv, (FA.out w8 hy).2.2.2, R7.out.1.only.then (((only_drew w7).weaken (by simp)).trans hy) (fun x hx hlt => by have := (by simpa using hx : x = q + 1); have := R7.out.1.base; omega)⟩
    clear hev hsv hy FA R7
    have f0 := H8.out.2.2.1.cell0
    have f1 := H8.out.2.2.1.cell1
    have fz := H8.out.2.2.1.frozen
    go_wp2_with fail
    have oS : Only [q + 1 + 1] w8 ((w8.setCell ⟨q + 1 + 1, 0, none⟩ (.int .i64 c)).setCell ⟨q + 1 + 1, 1, none⟩ (.int .i64 a)) := ((Only.refl _ _).setCell (by simp) _).setCell (by simp) _
    refine bodyPost_ret (res_run (H8.out.1.only oS (by simp)) ((H8.out.2.2.1.set0 (.int .i64 c)).set1 (.int .i64 a)) rfl rfl rfl) rfl ⟨⟨_, rfl, (H8.out.2.1.only oS (fun g hg hm => by have := (H8.out.2.1.lt g hg).1; have h2 : g = q + 1 + 1 := (by simpa using hm); omega)).lower (by omega)⟩, H8.out.2.2.2.then oS fun x hx hlt => ?_⟩
    have h2 : x = q + 1 + 1 := by simpa using hx
    omega
  | done e' =>
    rw [hgo] at hx
    obtain ⟨rfl, m', hm, he, hsr, hown, mv⟩ := hx
    refine ⟨mv.only, _, .none _, fun w6 o6 => ?_⟩
    have R6 : Hid (Ran B w w6 q e s (.slice oa n ocap) l) := ((H4.out.2.2.1.then ic).off mv.only OFF).off o6 (by simp; omega)
    have hgo2 : ∀ g, m'.sh.ownBlock = some g → g ≠ w4.heap.size ∧ g ≠ w4.heap.size + 1 ∧ q + 3 ≤ g := by
      intro g hg
      rcases mv.row g hg with h | h
      · have := hlow g h; omega
      · omega
    have M6 : Hid (Mb w6 p m' ∧ SR q w6 m'.sh e'.sh) := ⟨hm.only o6 (by simp; omega), hsr.only o6 (fun g hg hmm => by have := hgo2 g hg; simp at hmm; omega)⟩
    have hR : R = (e', 0, 0, true) := by rw [← HR.out]; exact run_done hb hgo
    subst hR
    obtain ⟨sa, sn, sc, hms⟩ := hsr.form2
    have hge : ∀ g, m'.sh.ownBlock = some g → q + 3 ≤ g := fun g hg => (hgo2 g hg).2.2
    clear mv o6 OFF ic H4 hgo hlow HR hm hsr hgo2
    go_upto_region 7 with fail
    have o7 : Only [] w6 (w6.alloc (.cells #[.int .i64 0, .int .i64 0] 42)) := (Only.refl [] _).alloc _
    have H7 : Hid (Ran B w (w6.alloc (.cells #[.int .i64 0, .int .i64 0] 42)) q e s (.slice oa n ocap) l ∧ Mb (w6.alloc (.cells #[.int .i64 0, .int .i64 0] 42)) p m' ∧ SR q (w6.alloc (.cells #[.int .i64 0, .int .i64 0] 42)) m'.sh e'.sh) := ⟨R6.out.then o7, M6.out.1.only o7 (by simp), M6.out.2.only o7 (by simp)⟩
    clear o7 R6 M6
    generalize w6.alloc (.cells #[.int .i64 0, .int .i64 0] 42) = w7 at *
    apply wp_region_lit
    refine op_val (w' := w7) rfl (.pointer (some ⟨p, 1, none⟩)) (by kernel_rfl) ?_
    refine op_loads rfl (cs := (m'.e e'.sh).cells m'.sh) 39 _ rfl rfl Try.underlying39 info_env (H7.out.2.1.env e'.sh) ?_
    refine op_val (w' := w7) rfl (.agg #[.int .i64 0, .int .i64 0]) (by kernel_rfl) ?_
    refine op_storeE (e := m'.e e'.sh) (s := m'.sh) rfl _ _ rfl rfl rfl H7.out.1.res (by rw [hms]; rfl) ?_
    intro w8 hb8 o8 hz8
    rw [he] at hb8
    have H8 : Hid (Eb w8 (q + 1) e' m'.sh ∧ SR q w8 m'.sh e'.sh ∧ Two w8 (q + 1 + 1) (.int .i64 0) (.int .i64 0) ∧ Only [] w w8) := by
      refine ⟨hb8, H7.out.2.2.only o8 (fun g hg hm => by have := hge g hg; have h2 : g = q + 1 := (by simpa using hm); omega), H7.out.1.flt.only o8 (by simp), H7.out.1.only.then o8 fun x hx hlt => ?_⟩
      have h2 : x = q + 1 := by simpa using hx
      omega
    clear hb8 o8 H7
    have f0 := H8.out.2.2.1.cell0
    have f1 := H8.out.2.2.1.cell1
    have fz := H8.out.2.2.1.frozen
    go_wp2_with fail
    have oS : Only [q + 1 + 1] w8 ((w8.setCell ⟨q + 1 + 1, 0, none⟩ (.int .i64 0)).setCell ⟨q + 1 + 1, 1, none⟩ (.int .i64 0)) := ((Only.refl _ _).setCell (by simp) _).setCell (by simp) _
    refine bodyPost_ret (res_run (H8.out.1.only oS (by simp)) ((H8.out.2.2.1.set0 (.int .i64 0)).set1 (.int .i64 0)) rfl rfl rfl) rfl ⟨⟨_, rfl, (H8.out.2.1.only oS (fun g hg hm => by have := hge g hg; have h2 : g = q + 1 + 1 := (by simpa using hm); omega)).lower (by omega)⟩, H8.out.2.2.2.then oS fun x hx hlt => ?_⟩
    have h2 : x = q + 1 + 1 := by simpa using hx
    omega
/-- RUN -/
theorem rule_run {B : Nat} {w : World} (e : Ev) {s ov : Value} {l : List Op3} (hs : SR B w s e.sh) (hl : e.sh.length ≤ 900000) (hn : l.length ≤ 1000000) (ho : RdO w.heap.size w ov l) : Calls Try.prog 6 #[ov, e.v s] w (RanPost w (Rule.run l e)) := by
  cases hb : Body.some e.b
  · exact ran_bad e hs hl ho hb
  · exact ran_good e hs hl hn ho hb
end Go.Proofs.Ytfeloiodebjolaa

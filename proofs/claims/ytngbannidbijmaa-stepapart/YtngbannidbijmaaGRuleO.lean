/- Package rule: Run. Package rule: Run, of a body that may be. Package rule: two Envs held against each other, as the law does. -/
import Derived.Test.YtngbannidbijmaaGRuleN0
import Derived.Test.YtngbannidbijmaaTrapM
import Derived.Test.YtngbannidbijmaaBodyW
namespace Go.Proofs.Ytngbannidbijmaa
open Go.RowKit
set_option linter.unusedVariables false

/-- what Run answers: what e is then, the fault, whether all was done -/
def Rule.run (l : List Op3) (e : Ev) : Ev × Int × Int × Bool :=
  if Body.some e.b = true then (match Rule.go l 64 0 e with
    | .fault c a => (e, c, a, false)
    | .done e' => (e', 0, 0, true)) else (e, 0, 0, false)
theorem run_bad {l : List Op3} {e : Ev} (h : Body.some e.b = false) : Rule.run l e = (e, 0, 0, false) := by simp [Rule.run, h]
theorem run_fault {l : List Op3} {e : Ev} {c a : Int} (h : Body.some e.b = true) (g : Rule.go l 64 0 e = .fault c a) : Rule.run l e = (e, c, a, false) := by simp [Rule.run, h, g]
theorem run_done {l : List Op3} {e e' : Ev} (h : Body.some e.b = true) (g : Rule.go l 64 0 e = .done e') : Rule.run l e = (e', 0, 0, true) := by simp [Rule.run, h, g]
/-- what a Run leaves -/
def RanPost (w : World) (r : Ev × Int × Int × Bool) (x : Ending) (w' : World) : Prop :=
  (∃ v, x = .returned (.tuple #[r.1.v v, faultV r.2.1 r.2.2.1, .bool r.2.2.2]) ∧ SR w.heap.size w' v r.1.sh) ∧ Only [] w w'
/-- what Run has laid -/
structure Ran (B : Nat) (w W : World) (q : Nat) (e : Ev) (s ov : Value) (l : List Op3) : Prop where
  env : Eb W q e s
  res : Eb W (q + 1) Ev.zero (.slice none 0 0)
  flt : Two W (q + 1 + 1) (.int .i64 0) (.int .i64 0)
  row : SR B W s e.sh
  ops : RdO w.heap.size W ov l
  only : Only [] w W
  base : w.heap.size = q
  sz : q + 3 ≤ W.heap.size
  old : ∀ g, s.ownBlock = some g → g < q
theorem Ran.then {B q : Nat} {w W W' : World} {e : Ev} {s ov : Value} {l : List Op3} (h : Ran B w W q e s ov l) (o : Only [] W W') : Ran B w W' q e s ov l :=
  ⟨h.env.only o (by simp), h.res.only o (by simp), h.flt.only o (by simp), h.row.only o (by simp), h.ops.only o (by simp), h.only.trans o, h.base, Nat.le_trans h.sz o.size, h.old⟩
/-- .. what lies behind has turned -/
theorem Ran.off {B q : Nat} {w W W' : World} {e : Ev} {s ov : Value} {l : List Op3} {S : List Nat} (h : Ran B w W q e s ov l) (o : Only S W W') (hS : ∀ k ∈ S, q + 3 ≤ k) : Ran B w W' q e s ov l :=
  ⟨h.env.only o (fun m => by have := hS _ m; omega), h.res.only o (fun m => by have := hS _ m; omega), h.flt.only o (fun m => by have := hS _ m; omega), h.row.only o (fun g hg m => by have := hS _ m; have := h.old g hg; omega), h.ops.only o (fun g m => by have := hS _ m; have := h.base; omega), h.only.then o (fun x m hl => by have := hS _ m; have := h.base; omega), h.base, Nat.le_trans h.sz o.size, h.old⟩
theorem ran_start {B : Nat} {w : World} {e : Ev} {s ov : Value} {l : List Op3} (hs : SR B w s e.sh) (ho : RdO w.heap.size w ov l) :
    Ran B w (((w.alloc (.cells (e.cells s).toArray 108)).alloc (.cells (Ev.zero.cells (.slice none 0 0)).toArray 108)).alloc (.cells #[.int .i64 0, .int .i64 0] 110)) w.heap.size e s ov l := by
  have o3 : Only [] w (((w.alloc (.cells (e.cells s).toArray 108)).alloc (.cells (Ev.zero.cells (.slice none 0 0)).toArray 108)).alloc (.cells #[.int .i64 0, .int .i64 0] 110)) := (((Only.refl [] w).alloc _).alloc _).alloc _
  refine ⟨?_, ?_, ?_, hs.only o3 (by simp), ho.only o3 (by simp), o3, rfl, by simp, fun g hg => (hs.lt g hg).2⟩
  · exact ((Eb.new e s w _).only ((Only.refl [] _).alloc _) (by simp)).only ((Only.refl [] _).alloc _) (by simp)
  · exact (Eb.newAt Ev.zero _ (by simp) _).only ((Only.refl [] _).alloc _) (by simp)
  · have := Two.new ((w.alloc (.cells (e.cells s).toArray 108)).alloc (.cells (Ev.zero.cells (.slice none 0 0)).toArray 108)) (.int .i64 0) (.int .i64 0) 110
    simpa using this

theorem res_run {W : World} {p q : Nat} {e : Ev} {s : Value} {c a : Int} {b : Bool} {tm : Array Value} (h : Eb W p e s) (g : Two W q (.int .i64 c) (.int .i64 a)) (hp : tm.getD 4 undef = .pointer (some ⟨p, 0, none⟩)) (hq : tm.getD 5 undef = .pointer (some ⟨q, 0, none⟩)) (hb : tm.getD 6 undef = .bool b) :
    (results Try.f73 tm).run Try.prog W = .ok (.tuple #[e.v s, faultV c a, .bool b]) W := by
  obtain ⟨t, ht⟩ := h.blk
  obtain ⟨t2, ht2⟩ := g
  have r1 := run_loadVar_row (P := Try.prog) W p t 108 (e.cells s).toArray (0, 0) _ ht Try.underlying108 rfl (by kernel_rfl)
  have r2 := run_loadVar_row (P := Try.prog) W q t2 110 #[.int .i64 c, .int .i64 a] (0, 0) _ ht2 Try.underlying110 rfl (by kernel_rfl)
  have hp' : tm[4]?.getD undef = .pointer (some ⟨p, 0, none⟩) := by simpa using hp
  have hq' : tm[5]?.getD undef = .pointer (some ⟨q, 0, none⟩) := by simpa using hq
  have hb' : tm[6]?.getD undef = .bool b := by simpa using hb
  simp [results, Try.results73, hp', hq', hb', asAddr, r1, r2]
  exact ⟨rfl, rfl⟩

set_option maxRecDepth 100000 in
set_option maxHeartbeats 4000000 in
theorem ran_bad {B : Nat} {w : World} (e : Ev) {s ov : Value} {l : List Op3} (hs : SR B w s e.sh) (hl : e.sh.length ≤ 900000) (ho : RdO w.heap.size w ov l) (hb : Body.some e.b = false) : Calls Try.prog 73 #[ov, e.v s] w (RanPost w (Rule.run l e)) := by
  rw [run_bad hb]
  have hnot : ∀ (x : Bool) (w : World), (Op.unary .not (.bool x)).run Try.prog w = .ok (.bool (!x)) w := fun _ _ => rfl
  have H0 : Hid (Ran B w (((w.alloc (.cells (e.cells s).toArray 108)).alloc (.cells (Ev.zero.cells (.slice none 0 0)).toArray 108)).alloc (.cells #[.int .i64 0, .int .i64 0] 110)) w.heap.size e s ov l) := ran_start hs ho
  clear hs ho
  go_enter Try.func73, Try.ntmps73
  go_wp2_with fail
  change Calls _ _ _ (((w.alloc (.cells (e.cells s).toArray 108)).alloc (.cells (Ev.zero.cells (.slice none 0 0)).toArray 108)).alloc (.cells #[.int .i64 0, .int .i64 0] 110)) _
  generalize (((w.alloc (.cells (e.cells s).toArray 108)).alloc (.cells (Ev.zero.cells (.slice none 0 0)).toArray 108)).alloc (.cells #[.int .i64 0, .int .i64 0] 110)) = W at *
  generalize hq : w.heap.size = q at *
  refine (right_any e.b _).mono ?_
  rintro x w1 ⟨rfl, o1⟩
  have H1 : Hid (Ran B w w1 q e s ov l) := H0.out.then o1
  clear o1 H0
  have c0 : w1.cell? ⟨q, 0, none⟩ = some (.int .i64 e.b.k) := H1.out.env.blk.cell 0
  cases hz : (e.b == Body.zero)
  · rw [hb]
    go_upto_region 2 with fail
    apply wp_region_lit
    refine op_loads rfl (cs := e.cells s) 108 _ rfl rfl Try.underlying108 info_env H1.out.env.cell ?_
    refine op_call (F := 85) (args := #[e.v s]) (w1 := w1) rfl (by kernel_rfl) ?_
    refine (apart_any e H1.out.row (by omega)).mono ?_
    rintro x w2 ⟨⟨v, rfl, hv⟩, o2⟩
    refine ⟨_, rfl, ?_⟩
    have H2 : Hid (Ran B w w2 q e s ov l ∧ SR w1.heap.size w2 v e.sh) := ⟨H1.out.then o2, hv⟩
    have hz1 := H1.out.sz
    obtain ⟨va, vn, vc, rfl⟩ := hv.form2
    clear hv o2 c0 H1
    refine op_val (w' := w2) rfl (.agg #[.int .i64 0, .int .i64 0]) (by kernel_rfl) ?_
    refine op_storeE rfl _ _ rfl rfl rfl H2.out.1.res rfl ?_
    intro w3 hb3 o3 hz3
    have H3 : Hid (Eb w3 (q + 1) e (.slice va vn vc) ∧ Two w3 (q + 1 + 1) (.int .i64 0) (.int .i64 0) ∧ SR w1.heap.size w3 (.slice va vn vc) e.sh ∧ Only [] w w3) := by
      refine ⟨hb3, H2.out.1.flt.only o3 (by simp), H2.out.2.only o3 (fun g hg hm => by have := (H2.out.2.lt g hg).1; have h2 : g = q + 1 := (by simpa using hm); omega), H2.out.1.only.then o3 fun x hx hlt => ?_⟩
      have h2 : x = q + 1 := by simpa using hx
      omega
    clear hb3 o3 H2
    have f0 := H3.out.2.1.cell0
    have f1 := H3.out.2.1.cell1
    have fz := H3.out.2.1.frozen
    go_wp2_with fail
    have oS : Only [q + 1 + 1] w3 ((w3.setCell ⟨q + 1 + 1, 0, none⟩ (.int .i64 0)).setCell ⟨q + 1 + 1, 1, none⟩ (.int .i64 0)) := ((Only.refl _ _).setCell (by simp) _).setCell (by simp) _
    refine bodyPost_ret (res_run (H3.out.1.only oS (by simp)) ((H3.out.2.1.set0 (.int .i64 0)).set1 (.int .i64 0)) rfl rfl rfl) rfl ⟨⟨_, rfl, (H3.out.2.2.1.only oS (fun g hg hm => by have := (H3.out.2.2.1.lt g hg).1; have h2 : g = q + 1 + 1 := (by simpa using hm); omega)).lower (by omega)⟩, H3.out.2.2.2.then oS fun x hx hlt => ?_⟩
    have h2 : x = q + 1 + 1 := by simpa using hx
    omega
  · have hk : e.b.k = 0 := by have : e.b = Body.zero := by simpa using hz
                              rw [this]; rfl
    rw [hk] at c0
    go_upto_region 2 with fail
    apply wp_region_lit
    refine op_loads rfl (cs := e.cells s) 108 _ rfl rfl Try.underlying108 info_env H1.out.env.cell ?_
    refine op_call (F := 85) (args := #[e.v s]) (w1 := w1) rfl (by kernel_rfl) ?_
    refine (apart_any e H1.out.row (by omega)).mono ?_
    rintro x w2 ⟨⟨v, rfl, hv⟩, o2⟩
    refine ⟨_, rfl, ?_⟩
    have H2 : Hid (Ran B w w2 q e s ov l ∧ SR w1.heap.size w2 v e.sh) := ⟨H1.out.then o2, hv⟩
    have hz1 := H1.out.sz
    obtain ⟨va, vn, vc, rfl⟩ := hv.form2
    clear hv o2 c0 H1
    refine op_val (w' := w2) rfl (.agg #[.int .i64 0, .int .i64 0]) (by kernel_rfl) ?_
    refine op_storeE rfl _ _ rfl rfl rfl H2.out.1.res rfl ?_
    intro w3 hb3 o3 hz3
    have H3 : Hid (Eb w3 (q + 1) e (.slice va vn vc) ∧ Two w3 (q + 1 + 1) (.int .i64 0) (.int .i64 0) ∧ SR w1.heap.size w3 (.slice va vn vc) e.sh ∧ Only [] w w3) := by
      refine ⟨hb3, H2.out.1.flt.only o3 (by simp), H2.out.2.only o3 (fun g hg hm => by have := (H2.out.2.lt g hg).1; have h2 : g = q + 1 := (by simpa using hm); omega), H2.out.1.only.then o3 fun x hx hlt => ?_⟩
      have h2 : x = q + 1 := by simpa using hx
      omega
    clear hb3 o3 H2
    have f0 := H3.out.2.1.cell0
    have f1 := H3.out.2.1.cell1
    have fz := H3.out.2.1.frozen
    go_wp2_with fail
    have oS : Only [q + 1 + 1] w3 ((w3.setCell ⟨q + 1 + 1, 0, none⟩ (.int .i64 0)).setCell ⟨q + 1 + 1, 1, none⟩ (.int .i64 0)) := ((Only.refl _ _).setCell (by simp) _).setCell (by simp) _
    refine bodyPost_ret (res_run (H3.out.1.only oS (by simp)) ((H3.out.2.1.set0 (.int .i64 0)).set1 (.int .i64 0)) rfl rfl rfl) rfl ⟨⟨_, rfl, (H3.out.2.2.1.only oS (fun g hg hm => by have := (H3.out.2.2.1.lt g hg).1; have h2 : g = q + 1 + 1 := (by simpa using hm); omega)).lower (by omega)⟩, H3.out.2.2.2.then oS fun x hx hlt => ?_⟩
    have h2 : x = q + 1 + 1 := by simpa using hx
    omega
end Go.Proofs.Ytngbannidbijmaa
namespace Go.Proofs.Ytngbannidbijmaa
open Go.RowKit
set_option linter.unusedVariables false

def Mch.zero : Mch := ⟨.slice none 0 0, Body.zero, 0, 0, 0, 0, 0, .slice none 0 0, 0, 0⟩
def Mch.of (ov : Value) (e : Ev) (v : Value) : Mch := ⟨ov, e.b, e.t, e.ix, e.iy, e.d, e.room, v, 0, 0⟩
theorem Mch.one (m : Mch) (h1 : m.ops.oneCell' = true) (h2 : m.sh.oneCell' = true) : ∀ v ∈ m.cells, v.oneCell' = true := by
  intro v hv
  simp only [Mch.cells, List.mem_cons, List.not_mem_nil, or_false] at hv
  rcases hv with rfl | rfl | rfl | rfl | rfl | rfl | rfl | rfl | rfl | rfl | rfl | rfl | rfl | rfl | rfl | rfl | rfl | rfl | rfl | rfl | rfl
  all_goals first | rfl | exact h1 | exact h2
theorem info_mch : (Try.prog.info? 123).map (·.size) = some 21 := by kernel_rfl
theorem Mb.env {w : World} {p : Nat} {m : Mch} (h : Mb w p m) (sh : List Bd) : ∀ j v, ((m.e sh).cells m.sh)[j]? = some v → w.cell? ⟨p, 1 + j, none⟩ = some v :=
  Blk.part (xs := [m.ops]) (ys := [.int .i64 m.at_, .int .i64 m.done]) (by have := h.blk; exact this)

set_option maxRecDepth 100000 in
set_option maxHeartbeats 4000000 in
theorem ran_good {B : Nat} {w : World} (e : Ev) {s ov : Value} {l : List Op3} (hs : SR B w s e.sh) (hl : e.sh.length ≤ 900000) (hn : l.length ≤ 1000000) (ho : RdO w.heap.size w ov l) (hb : Body.some e.b = true) : Calls Try.prog 73 #[ov, e.v s] w (RanPost w (Rule.run l e)) := by
  have hnot : ∀ (x : Bool) (w : World), (Op.unary .not (.bool x)).run Try.prog w = .ok (.bool (!x)) w := fun _ _ => rfl
  have hmf : ∀ (fn : Fn) (first cap : Array Value) (w : World), (Instr.makeFunc fn first cap).run Try.prog w = .ok (.func fn first cap) w := fun _ _ _ _ => rfl
  have H0 : Hid (Ran B w (((w.alloc (.cells (e.cells s).toArray 108)).alloc (.cells (Ev.zero.cells (.slice none 0 0)).toArray 108)).alloc (.cells #[.int .i64 0, .int .i64 0] 110)) w.heap.size e s ov l) := ran_start hs ho
  obtain ⟨R, hR⟩ : ∃ R, Rule.run l e = R := ⟨_, rfl⟩
  have HR : Hid _ := hR
  rw [hR]
  obtain ⟨oa, ocap, hov, -⟩ := ho
  subst hov
  clear hs hR
  have k0 : (e.b.k == 0) = false := by
    have := ((Body.some_iff _).1 hb).k
    simp; omega
  obtain ⟨n, hnn⟩ : ∃ n, l.length = n := ⟨_, rfl⟩
  have HN : Hid _ := hnn
  rw [hnn] at hn
  simp only [hnn] at H0 ⊢
  clear hnn
  go_enter Try.func73, Try.ntmps73
  go_wp2_with fail
  change Calls _ _ _ (((w.alloc (.cells (e.cells s).toArray 108)).alloc (.cells (Ev.zero.cells (.slice none 0 0)).toArray 108)).alloc (.cells #[.int .i64 0, .int .i64 0] 110)) _
  generalize (((w.alloc (.cells (e.cells s).toArray 108)).alloc (.cells (Ev.zero.cells (.slice none 0 0)).toArray 108)).alloc (.cells #[.int .i64 0, .int .i64 0] 110)) = W at *
  generalize hq : w.heap.size = q at *
  refine (right_any e.b _).mono ?_
  rintro x w1 ⟨rfl, o1⟩
  have H1 : Hid (Ran B w w1 q e s (.slice oa n ocap) l) := H0.out.then o1
  clear o1 H0
  have c0 : w1.cell? ⟨q, 0, none⟩ = some (.int .i64 e.b.k) := H1.out.env.blk.cell 0
  rw [hb, Bool.or_true]
  go_upto_region 3 with fail
  apply wp_region_lit
  refine op_val (w' := w1) rfl (.slice oa n ocap) (by kernel_rfl) ?_
  refine op_loads rfl (cs := e.cells s) 108 _ rfl rfl Try.underlying108 info_env H1.out.env.cell ?_
  refine op_call (F := 85) (args := #[e.v s]) (w1 := w1) rfl (by kernel_rfl) ?_
  refine (apart_any e H1.out.row (by omega)).mono ?_
  rintro x w2 ⟨⟨v, rfl, hv⟩, o2⟩
  refine ⟨_, rfl, ?_⟩
  have H2 : Hid (Ran B w w2 q e s (.slice oa n ocap) l ∧ SR w1.heap.size w2 v e.sh) := ⟨H1.out.then o2, hv⟩
  have hz1 := H1.out.sz
  obtain ⟨va, vn, vc, rfl⟩ := hv.form2
  clear hv o2 c0 H1
  refine op_val (w' := w2) rfl (.agg (Mch.of (.slice oa n ocap) e (.slice va vn vc)).cells.toArray) (by kernel_rfl) ?_
  refine op_val (w' := w2.alloc (.cells Mch.zero.cells.toArray 123)) rfl (.pointer (some ⟨w2.heap.size, 0, none⟩)) (by kernel_rfl) ?_
  have hM : Mb (w2.alloc (.cells Mch.zero.cells.toArray 123)) w2.heap.size Mch.zero := ⟨Blk.new _ _ _⟩
  have H3 : Hid (Ran B w (w2.alloc (.cells Mch.zero.cells.toArray 123)) q e s (.slice oa n ocap) l ∧ SR w1.heap.size (w2.alloc (.cells Mch.zero.cells.toArray 123)) (.slice va vn vc) e.sh) := ⟨H2.out.1.then ((Only.refl _ _).alloc _), H2.out.2.only ((Only.refl [] _).alloc _) (by simp)⟩
  have hp0 := H2.out.1.sz
  have hlt := H2.out.2.lt
  generalize w2.alloc (.cells Mch.zero.cells.toArray 123) = w3 at *
  generalize hpp : w2.heap.size = p at *
  refine op_store (vs := (Mch.of (.slice oa n ocap) e (.slice va vn vc)).cells) rfl 123 _ _ rfl 0 rfl rfl hM.blk info_mch (by simp [Mch.cells]) (Mch.one _ rfl rfl) ?_
  intro w4 hb4 o4 hz4
  replace hb4 : Blk w4 p (Mch.of (.slice oa n ocap) e (.slice va vn vc)).cells := by simpa [Mch.cells, Mch.of, Mch.zero] using hb4
  have hlow : ∀ g, (Value.slice va vn vc).ownBlock = some g → q + 3 ≤ g ∧ g < p := fun g hg => by have := hlt g hg; omega
  have SP : ∀ g, (Value.slice va vn vc).ownBlock = some g → g ∉ [p] := fun g hg hm => by have := hlow g hg; have h2 : g = p := (by simpa using hm); omega
  have R4 : Ran B w w4 q e s (.slice oa n ocap) l := H3.out.1.off o4 (fun k hk => by rw [(by simpa using hk : k = p)]; exact hp0)
  have H4 : Hid (St q p w4 (Mch.of (.slice oa n ocap) e (.slice va vn vc)) e.sh l.length ∧ RdO q w4 (.slice oa n ocap) l ∧ Ran B w w4 q e s (.slice oa n ocap) l ∧ p < w4.heap.size) :=
    ⟨⟨⟨hb4⟩, (H3.out.2.only o4 SP).lower (by omega), fun h => by have := (hlow p h).2; omega, by omega, by omega, hb, ⟨oa, ocap, by rw [HN.out]; rfl⟩, by rw [HN.out]; exact hn, Int.le_refl _, by show (0 : Int) ≤ _; omega⟩, hq ▸ R4.ops, R4, Blk.lt hb4⟩
  clear hb4 o4 hz4 H3 H2 hM SP R4 hlt
  refine wpList_nil ?_
  go_wp2_with fail
  refine catch_m 87 _ (p :: (Value.slice va vn vc).ownBlock.toList) _ ?_ ?_ (by simp [go_sem]) ?_
  · intro hm
    rcases List.mem_cons.1 hm with h | h
    · have := H4.out.2.2.2; omega
    · have := (hlow w4.heap.size (by simpa [Option.mem_toList] using h)).2; have := H4.out.2.2.2; omega
  · intro hm
    rcases List.mem_cons.1 hm with h | h
    · have := H4.out.2.2.2; omega
    · have := (hlow (w4.heap.size + 1) (by simpa [Option.mem_toList] using h)).2; have := H4.out.2.2.2; omega
  have ic := inCatch_only w4
  refine (run_any (H4.out.1.only ic) (H4.out.2.1.only ic (by simp)) rfl (by omega)).mono ?_
  rintro x w5 hx
  have er : (Mch.of (.slice oa n ocap) e (.slice va vn vc)).e e.sh = e := rfl
  have ea : (Mch.of (.slice oa n ocap) e (.slice va vn vc)).at_ = 0 := rfl
  rw [er, ea] at hx
  have OFF : ∀ k ∈ p :: (Value.slice va vn vc).ownBlock.toList, q + 3 ≤ k := by
    intro k hk
    rcases List.mem_cons.1 hk with h | h
    · omega
    · have h2 : (Value.slice va vn vc).ownBlock = some k := by simpa [Option.mem_toList] using h
      exact (hlow k h2).1
  have sz4 := H4.out.2.2.2
  have ics := inCatch_size w4
  cases hgo : Rule.go l 64 0 e with
  | fault c a =>
    rw [hgo] at hx
    obtain ⟨rfl, o5⟩ := hx
    refine ⟨o5, _, .thrown c a [] (by simp), fun w6 o6 => ?_⟩
    have R6 : Hid (Ran B w w6 q e s (.slice oa n ocap) l) := ((H4.out.2.2.1.then ic).off o5 OFF).off o6 (by simp; omega)
    have hR : R = (e, c, a, false) := by rw [← HR.out]; exact run_fault hb hgo
    subst hR
    clear o5 o6 OFF ic H4 hgo hlow HR
    go_wp2_with fail
    have R7 : Hid (Ran B w (w6.alloc (.cells #[.int .i64 c, .int .i64 a] 110)) q e s (.slice oa n ocap) l ∧ Two (w6.alloc (.cells #[.int .i64 c, .int .i64 a] 110)) w6.heap.size (.int .i64 c) (.int .i64 a)) := ⟨R6.out.then ((Only.refl _ _).alloc _), Two.new _ _ _ _⟩
    have sz6 := R6.out.sz
    clear R6
    generalize w6.alloc (.cells #[.int .i64 c, .int .i64 a] 110) = w7 at *
    generalize w6.heap.size = t at *
    have FA : Hid (∀ y, Only [q + 1] w7.drew y → Eb y q e s ∧ SR B y s e.sh ∧ Two y t (.int .i64 c) (.int .i64 a) ∧ Two y (q + 1 + 1) (.int .i64 0) (.int .i64 0)) := by
      show ∀ y, _ → _
      intro y hy
      have oo : Only [q + 1] w7 y := ((only_drew w7).weaken (by simp)).trans hy
      exact ⟨R7.out.1.env.only oo (by simp), R7.out.1.row.only oo (fun g hg hm => by have := R7.out.1.old g hg; have h2 : g = q + 1 := (by simpa using hm); omega), R7.out.2.only oo (by simp; omega), R7.out.1.flt.only oo (by simp)⟩
    refine wp_region_tail (fun _ _ => False) (fun _ _ _ _ h => h.elim) 4 (Only [q + 1]) (Only.refl _) Only.trans [(3, .pointer (some ⟨q, 0, none⟩)), (4, .pointer (some ⟨q + 1, 0, none⟩)), (8, .pointer (some ⟨t, 0, none⟩))] (by intro p hp; simp only [List.mem_cons, List.not_mem_nil, or_false] at hp; rcases hp with rfl | rfl | rfl <;> rfl) (by kernel_rfl) (by kernel_rfl) (by decide) (by kernel_rfl) (by kernel_rfl) (fun y => Eb y (q + 1) Ev.zero (.slice none 0 0)) (R7.out.1.res.only (only_drew _) (by simp)) ?_
    simp only [List.take_succ_cons, List.take_zero, List.drop_succ_cons, List.drop_zero]
    refine rb_val (.agg (e.cells s).toArray) (by first | rfl | exact ⟨by kernel_rfl, rfl⟩) (fun z y hT hf => ?_) ?_
    · have e3 : z.eval (.tmp 3) = .pointer (some ⟨q, 0, none⟩) := by simp at hf; simpa [Act.eval] using hf.1
      exact exec_loads 108 (.tmp 3) rfl e3 Try.underlying108 info_env (FA.out y hT).1.cell
    refine rb_call (fun y v0 => ∃ v, v0 = e.v v ∧ SR (q + 3) y v e.sh) (fun y => Eb y (q + 1) Ev.zero (.slice none 0 0)) (by first | rfl | exact ⟨by kernel_rfl, rfl⟩) (by kernel_rfl) (fun y y2 v hT h => ?_) (fun z y hJ hT hf => ?_) ?_
    · obtain ⟨v, rfl, h⟩ := h
      exact ⟨v, rfl, h.only hT (fun g hg hm => by have := (h.lt g hg).1; have h2 : g = q + 1 := (by simpa using hm); omega)⟩
    · have hsz : q + 3 ≤ y.heap.size := by have := (FA.out y hT).2.2.1.lt; omega
      simp at hf
      go_simp
      refine (apart_any e (FA.out y hT).2.1 (by omega)).mono ?_
      rintro x y2 ⟨⟨v, rfl, hv⟩, o2⟩
      exact ⟨_, rfl, ⟨v, rfl, hv.lower hsz⟩, hJ.only o2 (by simp), o2.weaken (by simp)⟩
    apply rb_val
    · first | rfl | exact ⟨by kernel_rfl, rfl⟩
    · intro z y hT hf
      have f0 := (FA.out y hT).2.2.1.cell0
      have f1 := (FA.out y hT).2.2.1.cell1
      simp at hf
      go_simp
      try rfl
    refine rb_call (fun _ v => v = undef) (fun y => ∃ v, Eb y (q + 1) e v ∧ SR (q + 3) y v e.sh) (by first | rfl | exact ⟨by kernel_rfl, rfl⟩) (by kernel_rfl) (fun _ _ _ _ h => h) (fun z y hJ hT hf => ?_) ?_
    · have e4 : z.eval (.tmp 4) = .pointer (some ⟨q + 1, 0, none⟩) := by simp at hf; simpa [Act.eval] using hf.1.2.1
      have e34 : ∃ v, z.eval (.tmp 34) = e.v v ∧ SR (q + 3) y v e.sh := by simp at hf; simpa [Act.eval] using hf.2.1
      obtain ⟨v, hv, hsv⟩ := e34
      obtain ⟨sa, sn, sc, rfl⟩ := hsv.form2
      exact effOk_storeE (.tmp 4) (.tmp 34) rfl e4 hv hJ rfl fun y2 k1 k2 => ⟨rfl, ⟨_, k1, hsv.only k2 (fun g hg hm => by have := (hsv.lt g hg).1; have h2 : g = q + 1 := (by simpa using hm); omega)⟩, k2⟩
    intro w8 hJ hy
    simp only [FinA, Sp.R, forall_eq]
    intro v0 _ _
    simp only [Act.put, List.setIfInBounds_toArray, List.set_cons_succ, List.set_cons_zero]
    obtain ⟨v, hev, hsv⟩ := hJ
    have H8 : Hid (Eb w8 (q + 1) e v ∧ SR (q + 3) w8 v e.sh ∧ Two w8 (q + 1 + 1) (.int .i64 0) (.int .i64 0) ∧ Only [] w w8) := ⟨hev, hsv, (FA.out w8 hy).2.2.2, R7.out.1.only.then (((only_drew w7).weaken (by simp)).trans hy) (fun x hx hlt => by have := (by simpa using hx : x = q + 1); have := R7.out.1.base; omega)⟩
    clear hev hsv hy FA R7
    have f0 := H8.out.2.2.1.cell0
    have f1 := H8.out.2.2.1.cell1
    have fz := H8.out.2.2.1.frozen
    go_wp2_with fail
    have oS : Only [q + 1 + 1] w8 ((w8.setCell ⟨q + 1 + 1, 0, none⟩ (.int .i64 c)).setCell ⟨q + 1 + 1, 1, none⟩ (.int .i64 a)) := ((Only.refl _ _).setCell (by simp) _).setCell (by simp) _
    refine bodyPost_ret (res_run (H8.out.1.only oS (by simp)) ((H8.out.2.2.1.set0 (.int .i64 c)).set1 (.int .i64 a)) rfl rfl rfl) rfl ⟨⟨_, rfl, (H8.out.2.1.only oS (fun g hg hm => by have := (H8.out.2.1.lt g hg).1; have h2 : g = q + 1 + 1 := (by simpa using hm); omega)).lower (by omega)⟩, H8.out.2.2.2.then oS fun x hx hlt => ?_⟩
    have h2 : x = q + 1 + 1 := by simpa using hx
    omega
  | done e' =>
    rw [hgo] at hx
    obtain ⟨rfl, m', hm, he, hsr, hown, mv⟩ := hx
    refine ⟨mv.only, _, .none _, fun w6 o6 => ?_⟩
    have R6 : Hid (Ran B w w6 q e s (.slice oa n ocap) l) := ((H4.out.2.2.1.then ic).off mv.only OFF).off o6 (by simp; omega)
    have hgo2 : ∀ g, m'.sh.ownBlock = some g → g ≠ w4.heap.size ∧ g ≠ w4.heap.size + 1 ∧ q + 3 ≤ g := by
      intro g hg
      rcases mv.row g hg with h | h
      · have := hlow g h; omega
      · omega
    have M6 : Hid (Mb w6 p m' ∧ SR q w6 m'.sh e'.sh) := ⟨hm.only o6 (by simp; omega), hsr.only o6 (fun g hg hmm => by have := hgo2 g hg; simp at hmm; omega)⟩
    have hR : R = (e', 0, 0, true) := by rw [← HR.out]; exact run_done hb hgo
    subst hR
    obtain ⟨sa, sn, sc, hms⟩ := hsr.form2
    have hge : ∀ g, m'.sh.ownBlock = some g → q + 3 ≤ g := fun g hg => (hgo2 g hg).2.2
    clear mv o6 OFF ic H4 hgo hlow HR hm hsr hgo2
    go_upto_region 7 with fail
    have o7 : Only [] w6 (w6.alloc (.cells #[.int .i64 0, .int .i64 0] 110)) := (Only.refl [] _).alloc _
    have H7 : Hid (Ran B w (w6.alloc (.cells #[.int .i64 0, .int .i64 0] 110)) q e s (.slice oa n ocap) l ∧ Mb (w6.alloc (.cells #[.int .i64 0, .int .i64 0] 110)) p m' ∧ SR q (w6.alloc (.cells #[.int .i64 0, .int .i64 0] 110)) m'.sh e'.sh) := ⟨R6.out.then o7, M6.out.1.only o7 (by simp), M6.out.2.only o7 (by simp)⟩
    clear o7 R6 M6
    generalize w6.alloc (.cells #[.int .i64 0, .int .i64 0] 110) = w7 at *
    apply wp_region_lit
    refine op_val (w' := w7) rfl (.pointer (some ⟨p, 1, none⟩)) (by kernel_rfl) ?_
    refine op_loads rfl (cs := (m'.e e'.sh).cells m'.sh) 108 _ rfl rfl Try.underlying108 info_env (H7.out.2.1.env e'.sh) ?_
    refine op_val (w' := w7) rfl (.agg #[.int .i64 0, .int .i64 0]) (by kernel_rfl) ?_
    refine op_storeE (e := m'.e e'.sh) (s := m'.sh) rfl _ _ rfl rfl rfl H7.out.1.res (by rw [hms]; rfl) ?_
    intro w8 hb8 o8 hz8
    rw [he] at hb8
    have H8 : Hid (Eb w8 (q + 1) e' m'.sh ∧ SR q w8 m'.sh e'.sh ∧ Two w8 (q + 1 + 1) (.int .i64 0) (.int .i64 0) ∧ Only [] w w8) := by
      refine ⟨hb8, H7.out.2.2.only o8 (fun g hg hm => by have := hge g hg; have h2 : g = q + 1 := (by simpa using hm); omega), H7.out.1.flt.only o8 (by simp), H7.out.1.only.then o8 fun x hx hlt => ?_⟩
      have h2 : x = q + 1 := by simpa using hx
      omega
    clear hb8 o8 H7
    have f0 := H8.out.2.2.1.cell0
    have f1 := H8.out.2.2.1.cell1
    have fz := H8.out.2.2.1.frozen
    go_wp2_with fail
    have oS : Only [q + 1 + 1] w8 ((w8.setCell ⟨q + 1 + 1, 0, none⟩ (.int .i64 0)).setCell ⟨q + 1 + 1, 1, none⟩ (.int .i64 0)) := ((Only.refl _ _).setCell (by simp) _).setCell (by simp) _
    refine bodyPost_ret (res_run (H8.out.1.only oS (by simp)) ((H8.out.2.2.1.set0 (.int .i64 0)).set1 (.int .i64 0)) rfl rfl rfl) rfl ⟨⟨_, rfl, (H8.out.2.1.only oS (fun g hg hm => by have := hge g hg; have h2 : g = q + 1 + 1 := (by simpa using hm); omega)).lower (by omega)⟩, H8.out.2.2.2.then oS fun x hx hlt => ?_⟩
    have h2 : x = q + 1 + 1 := by simpa using hx
    omega
/-- RUN -/
theorem rule_run {B : Nat} {w : World} (e : Ev) {s ov : Value} {l : List Op3} (hs : SR B w s e.sh) (hl : e.sh.length ≤ 900000) (hn : l.length ≤ 1000000) (ho : RdO w.heap.size w ov l) : Calls Try.prog 73 #[ov, e.v s] w (RanPost w (Rule.run l e)) := by
  cases hb : Body.some e.b
  · exact ran_bad e hs hl ho hb
  · exact ran_good e hs hl hn ho hb
end Go.Proofs.Ytngbannidbijmaa
namespace Go.Proofs.Ytngbannidbijmaa
open Go.RowKit
set_option linter.unusedVariables false

theorem neq_bd (a b : Bd) (w : World) : (binOp .neq 33 a.v b.v).run Try.prog w = .ok (.bool (a != b)) w := by
  simp only [binOp, Op.equal, Op.maxDepth, Sem.run_bind, eq_in w 9997 a b, Result.andThen_ok, Sem.run_pure]
  rfl
set_option maxRecDepth 100000 in
theorem neq_in (a b c a' b' c' : Int) (w : World) : (binOp .neq 41 (.agg #[.int .i64 a, .int .i64 b, .int .i64 c]) (.agg #[.int .i64 a', .int .i64 b', .int .i64 c'])).run Try.prog w = .ok (.bool (!(a == a' && (b == b' && c == c')))) w := by
  have hu := Try.underlying41
  have hs : Try.prog.stoodInHeld 41 = false := by kernel_rfl
  have q : ∀ a b : Int, (Op.equalIn 9999 3 (.int .i64 a) (.int .i64 b)).run Try.prog w = .ok (a == b) w := fun a b => run_equalIn_int w 9998 3 .i64 .i64 a b Try.underlying3
  have key : (Op.equalIn 10000 41 (.agg #[.int .i64 a, .int .i64 b, .int .i64 c]) (.agg #[.int .i64 a', .int .i64 b', .int .i64 c'])).run Try.prog w = .ok (a == a' && (b == b' && (c == c' && true))) w := by
    rw [run_equalIn_struct w 9999 41 _ _ (by simp only [Program.fieldsOf, hu]) hs]
    simp only [Program.fieldsOf, hu]
    exact eqFields_cons w _ _ _ _ _ (by decide) _ _ _ _ rfl rfl (q _ _) <| eqFields_cons w _ _ _ _ _ (by decide) _ _ _ _ rfl rfl (q _ _) <| eqFields_cons w _ _ _ _ _ (by decide) _ _ _ _ rfl rfl (q _ _) <| eqFields_nil w _ _ _
  simp only [binOp, Op.equal, Op.maxDepth, Sem.run_bind, key, Result.andThen_ok, Sem.run_pure, Bool.and_true]
/-- the body at a place -/
theorem SR.at_ {B : Nat} {w : World} {a : Option Addr} {n cap : Nat} {xs : List Bd} (h : SR B w (.slice a n cap) xs) (i : Nat) (hi : i < xs.length) : ∃ g, a = some ⟨g, 0, none⟩ ∧ g < w.heap.size ∧ ∀ j v, ((xs.getD i Body.zero).cells)[j]? = some v → w.cell? ⟨g, i * 12 + j, none⟩ = some v := by
  rcases h.2 with ⟨_, h0⟩ | ⟨g, cap', cur, e, h1, h2, h3, h4, h5, h6⟩
  · omega
  · injection e with e1 e2 e3
    refine ⟨g, e1, (Array.getElem?_eq_some_iff.1 h2).1, fun j v hj => ?_⟩
    have hjl : j < 12 := by have := (List.getElem?_eq_some_iff.1 hj).1; simpa [Bd.cells] using this
    have hc := World.ownsRow.cells h (g := g) (by rw [e1]; rfl) (i * 12 + j) v ?_
    · rwa [Addr.add_lit, Nat.zero_add] at hc
    · have key : ∀ (ys : List Bd) (i : Nat), i < ys.length → (flatB ys)[i * 12 + j]? = ((ys.getD i Body.zero).cells)[j]? := by
        intro ys
        induction ys with
        | nil => intro i hi; simp at hi
        | cons y ys ih =>
          intro i hi
          rw [flatB, List.flatMap_cons]
          change (y.cells ++ flatB ys)[_]? = _
          cases i with
          | zero => rw [List.getElem?_append_left (by simp [Bd.cells]; omega)]; simp
          | succ i =>
            rw [List.getElem?_append_right (by simp [Bd.cells]; omega), show (i + 1) * 12 + j - y.cells.length = i * 12 + j by simp [Bd.cells]; omega, ih i (by simpa using hi)]
            simp
      rw [key xs i hi]; exact hj
end Go.Proofs.Ytngbannidbijmaa

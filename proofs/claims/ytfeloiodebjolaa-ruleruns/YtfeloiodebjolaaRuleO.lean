/- Package rule: Run. -/
import Derived.Test.YtfeloiodebjolaaRuleN
import Derived.Test.YtfeloiodebjolaaTrapM
import Derived.Test.YtfeloiodebjolaaBodyW
namespace Go.Proofs.Ytfeloiodebjolaa
open Go.RowKit
set_option linter.unusedVariables false

/-- what Run answers: what e is then, the fault, whether all was done -/
def Rule.run (l : List Op3) (e : Ev) : Ev × Int × Int × Bool :=
  if Body.some e.b = true then (match Rule.go l 64 0 e with
    | .fault c a => (e, c, a, false)
    | .done e' => (e', 0, 0, true)) else (e, 0, 0, false)
theorem run_bad {l : List Op3} {e : Ev} (h : Body.some e.b = false) : Rule.run l e = (e, 0, 0, false) := by simp [Rule.run, h]
theorem run_fault {l : List Op3} {e : Ev} {c a : Int} (h : Body.some e.b = true) (g : Rule.go l 64 0 e = .fault c a) : Rule.run l e = (e, c, a, false) := by simp [Rule.run, h, g]
theorem run_done {l : List Op3} {e e' : Ev} (h : Body.some e.b = true) (g : Rule.go l 64 0 e = .done e') : Rule.run l e = (e', 0, 0, true) := by simp [Rule.run, h, g]
/-- what a Run leaves -/
def RanPost (w : World) (r : Ev × Int × Int × Bool) (x : Ending) (w' : World) : Prop :=
  (∃ v, x = .returned (.tuple #[r.1.v v, faultV r.2.1 r.2.2.1, .bool r.2.2.2]) ∧ SR w.heap.size w' v r.1.sh) ∧ Only [] w w'
/-- what Run has laid -/
structure Ran (B : Nat) (w W : World) (q : Nat) (e : Ev) (s ov : Value) (l : List Op3) : Prop where
  env : Eb W q e s
  res : Eb W (q + 1) Ev.zero (.slice none 0 0)
  flt : Two W (q + 1 + 1) (.int .i64 0) (.int .i64 0)
  row : SR B W s e.sh
  ops : RdO w.heap.size W ov l
  only : Only [] w W
  base : w.heap.size = q
  sz : q + 3 ≤ W.heap.size
  old : ∀ g, s.ownBlock = some g → g < q
theorem Ran.then {B q : Nat} {w W W' : World} {e : Ev} {s ov : Value} {l : List Op3} (h : Ran B w W q e s ov l) (o : Only [] W W') : Ran B w W' q e s ov l :=
  ⟨h.env.only o (by simp), h.res.only o (by simp), h.flt.only o (by simp), h.row.only o (by simp), h.ops.only o (by simp), h.only.trans o, h.base, Nat.le_trans h.sz o.size, h.old⟩
/-- .. what lies behind has turned -/
theorem Ran.off {B q : Nat} {w W W' : World} {e : Ev} {s ov : Value} {l : List Op3} {S : List Nat} (h : Ran B w W q e s ov l) (o : Only S W W') (hS : ∀ k ∈ S, q + 3 ≤ k) : Ran B w W' q e s ov l :=
  ⟨h.env.only o (fun m => by have := hS _ m; omega), h.res.only o (fun m => by have := hS _ m; omega), h.flt.only o (fun m => by have := hS _ m; omega), h.row.only o (fun g hg m => by have := hS _ m; have := h.old g hg; omega), h.ops.only o (fun g m => by have := hS _ m; have := h.base; omega), h.only.then o (fun x m hl => by have := hS _ m; have := h.base; omega), h.base, Nat.le_trans h.sz o.size, h.old⟩
theorem ran_start {B : Nat} {w : World} {e : Ev} {s ov : Value} {l : List Op3} (hs : SR B w s e.sh) (ho : RdO w.heap.size w ov l) :
    Ran B w (((w.alloc (.cells (e.cells s).toArray 39)).alloc (.cells (Ev.zero.cells (.slice none 0 0)).toArray 39)).alloc (.cells #[.int .i64 0, .int .i64 0] 42)) w.heap.size e s ov l := by
  have o3 : Only [] w (((w.alloc (.cells (e.cells s).toArray 39)).alloc (.cells (Ev.zero.cells (.slice none 0 0)).toArray 39)).alloc (.cells #[.int .i64 0, .int .i64 0] 42)) := (((Only.refl [] w).alloc _).alloc _).alloc _
  refine ⟨?_, ?_, ?_, hs.only o3 (by simp), ho.only o3 (by simp), o3, rfl, by simp, fun g hg => (hs.lt g hg).2⟩
  · exact ((Eb.new e s w _).only ((Only.refl [] _).alloc _) (by simp)).only ((Only.refl [] _).alloc _) (by simp)
  · exact (Eb.newAt Ev.zero _ (by simp) _).only ((Only.refl [] _).alloc _) (by simp)
  · have := Two.new ((w.alloc (.cells (e.cells s).toArray 39)).alloc (.cells (Ev.zero.cells (.slice none 0 0)).toArray 39)) (.int .i64 0) (.int .i64 0) 42
    simpa using this

theorem res_run {W : World} {p q : Nat} {e : Ev} {s : Value} {c a : Int} {b : Bool} {tm : Array Value} (h : Eb W p e s) (g : Two W q (.int .i64 c) (.int .i64 a)) (hp : tm.getD 4 undef = .pointer (some ⟨p, 0, none⟩)) (hq : tm.getD 5 undef = .pointer (some ⟨q, 0, none⟩)) (hb : tm.getD 6 undef = .bool b) :
    (results Try.f6 tm).run Try.prog W = .ok (.tuple #[e.v s, faultV c a, .bool b]) W := by
  obtain ⟨t, ht⟩ := h.blk
  obtain ⟨t2, ht2⟩ := g
  have r1 := run_loadVar_row (P := Try.prog) W p t 39 (e.cells s).toArray (0, 0) _ ht Try.underlying39 rfl (by kernel_rfl)
  have r2 := run_loadVar_row (P := Try.prog) W q t2 42 #[.int .i64 c, .int .i64 a] (0, 0) _ ht2 Try.underlying42 rfl (by kernel_rfl)
  have hp' : tm[4]?.getD undef = .pointer (some ⟨p, 0, none⟩) := by simpa using hp
  have hq' : tm[5]?.getD undef = .pointer (some ⟨q, 0, none⟩) := by simpa using hq
  have hb' : tm[6]?.getD undef = .bool b := by simpa using hb
  simp [results, Try.results6, hp', hq', hb', asAddr, r1, r2]
  exact ⟨rfl, rfl⟩

set_option maxRecDepth 100000 in
set_option maxHeartbeats 4000000 in
theorem ran_bad {B : Nat} {w : World} (e : Ev) {s ov : Value} {l : List Op3} (hs : SR B w s e.sh) (hl : e.sh.length ≤ 900000) (ho : RdO w.heap.size w ov l) (hb : Body.some e.b = false) : Calls Try.prog 6 #[ov, e.v s] w (RanPost w (Rule.run l e)) := by
  rw [run_bad hb]
  have hnot : ∀ (x : Bool) (w : World), (Op.unary .not (.bool x)).run Try.prog w = .ok (.bool (!x)) w := fun _ _ => rfl
  have H0 : Hid (Ran B w (((w.alloc (.cells (e.cells s).toArray 39)).alloc (.cells (Ev.zero.cells (.slice none 0 0)).toArray 39)).alloc (.cells #[.int .i64 0, .int .i64 0] 42)) w.heap.size e s ov l) := ran_start hs ho
  clear hs ho
  go_enter Try.func6, Try.ntmps6
  go_wp2_with fail
  change Calls _ _ _ (((w.alloc (.cells (e.cells s).toArray 39)).alloc (.cells (Ev.zero.cells (.slice none 0 0)).toArray 39)).alloc (.cells #[.int .i64 0, .int .i64 0] 42)) _
  generalize (((w.alloc (.cells (e.cells s).toArray 39)).alloc (.cells (Ev.zero.cells (.slice none 0 0)).toArray 39)).alloc (.cells #[.int .i64 0, .int .i64 0] 42)) = W at *
  generalize hq : w.heap.size = q at *
  refine (right_any e.b _).mono ?_
  rintro x w1 ⟨rfl, o1⟩
  have H1 : Hid (Ran B w w1 q e s ov l) := H0.out.then o1
  clear o1 H0
  have c0 : w1.cell? ⟨q, 0, none⟩ = some (.int .i64 e.b.k) := H1.out.env.blk.cell 0
  cases hz : (e.b == Body.zero)
  · rw [hb]
    go_upto_region 2 with fail
    apply wp_region_lit
    refine op_loads rfl (cs := e.cells s) 39 _ rfl rfl Try.underlying39 info_env H1.out.env.cell ?_
    refine op_call (F := 16) (args := #[e.v s]) (w1 := w1) rfl (by kernel_rfl) ?_
    refine (apart_any e H1.out.row (by omega)).mono ?_
    rintro x w2 ⟨⟨v, rfl, hv⟩, o2⟩
    refine ⟨_, rfl, ?_⟩
    have H2 : Hid (Ran B w w2 q e s ov l ∧ SR w1.heap.size w2 v e.sh) := ⟨H1.out.then o2, hv⟩
    have hz1 := H1.out.sz
    obtain ⟨va, vn, vc, rfl⟩ := hv.form2
    clear hv o2 c0 H1
    refine op_val (w' := w2) rfl (.agg #[.int .i64 0, .int .i64 0]) (by kernel_rfl) ?_
    refine op_storeE rfl _ _ rfl rfl rfl H2.out.1.res rfl ?_
    intro w3 hb3 o3 hz3
    have H3 : Hid (Eb w3 (q + 1) e (.slice va vn vc) ∧ Two w3 (q + 1 + 1) (.int .i64 0) (.int .i64 0) ∧ SR w1.heap.size w3 (.slice va vn vc) e.sh ∧ Only [] w w3) := by
      refine ⟨hb3, H2.out.1.flt.only o3 (by simp), H2.out.2.only o3 (fun g hg hm => by have := (H2.out.2.lt g hg).1; have h2 : g = q + 1 := (by simpa using hm); omega), H2.out.1.only.then o3 fun x hx hlt => ?_⟩
      have h2 : x = q + 1 := by simpa using hx
      omega
    clear hb3 o3 H2
    have f0 := H3.out.2.1.cell0
    have f1 := H3.out.2.1.cell1
    have fz := H3.out.2.1.frozen
    go_wp2_with fail
    have oS : Only [q + 1 + 1] w3 ((w3.setCell ⟨q + 1 + 1, 0, none⟩ (.int .i64 0)).setCell ⟨q + 1 + 1, 1, none⟩ (.int .i64 0)) := ((Only.refl _ _).setCell (by simp) _).setCell (by simp) _
    refine bodyPost_ret (res_run (H3.out.1.only oS (by simp)) ((H3.out.2.1.set0 (.int .i64 0)).set1 (.int .i64 0)) rfl rfl rfl) rfl ⟨⟨_, rfl, (H3.out.2.2.1.only oS (fun g hg hm => by have := (H3.out.2.2.1.lt g hg).1; have h2 : g = q + 1 + 1 := (by simpa using hm); omega)).lower (by omega)⟩, H3.out.2.2.2.then oS fun x hx hlt => ?_⟩
    have h2 : x = q + 1 + 1 := by simpa using hx
    omega
  · have hk : e.b.k = 0 := by have : e.b = Body.zero := by simpa using hz
                              rw [this]; rfl
    rw [hk] at c0
    go_upto_region 2 with fail
    apply wp_region_lit
    refine op_loads rfl (cs := e.cells s) 39 _ rfl rfl Try.underlying39 info_env H1.out.env.cell ?_
    refine op_call (F := 16) (args := #[e.v s]) (w1 := w1) rfl (by kernel_rfl) ?_
    refine (apart_any e H1.out.row (by omega)).mono ?_
    rintro x w2 ⟨⟨v, rfl, hv⟩, o2⟩
    refine ⟨_, rfl, ?_⟩
    have H2 : Hid (Ran B w w2 q e s ov l ∧ SR w1.heap.size w2 v e.sh) := ⟨H1.out.then o2, hv⟩
    have hz1 := H1.out.sz
    obtain ⟨va, vn, vc, rfl⟩ := hv.form2
    clear hv o2 c0 H1
    refine op_val (w' := w2) rfl (.agg #[.int .i64 0, .int .i64 0]) (by kernel_rfl) ?_
    refine op_storeE rfl _ _ rfl rfl rfl H2.out.1.res rfl ?_
    intro w3 hb3 o3 hz3
    have H3 : Hid (Eb w3 (q + 1) e (.slice va vn vc) ∧ Two w3 (q + 1 + 1) (.int .i64 0) (.int .i64 0) ∧ SR w1.heap.size w3 (.slice va vn vc) e.sh ∧ Only [] w w3) := by
      refine ⟨hb3, H2.out.1.flt.only o3 (by simp), H2.out.2.only o3 (fun g hg hm => by have := (H2.out.2.lt g hg).1; have h2 : g = q + 1 := (by simpa using hm); omega), H2.out.1.only.then o3 fun x hx hlt => ?_⟩
      have h2 : x = q + 1 := by simpa using hx
      omega
    clear hb3 o3 H2
    have f0 := H3.out.2.1.cell0
    have f1 := H3.out.2.1.cell1
    have fz := H3.out.2.1.frozen
    go_wp2_with fail
    have oS : Only [q + 1 + 1] w3 ((w3.setCell ⟨q + 1 + 1, 0, none⟩ (.int .i64 0)).setCell ⟨q + 1 + 1, 1, none⟩ (.int .i64 0)) := ((Only.refl _ _).setCell (by simp) _).setCell (by simp) _
    refine bodyPost_ret (res_run (H3.out.1.only oS (by simp)) ((H3.out.2.1.set0 (.int .i64 0)).set1 (.int .i64 0)) rfl rfl rfl) rfl ⟨⟨_, rfl, (H3.out.2.2.1.only oS (fun g hg hm => by have := (H3.out.2.2.1.lt g hg).1; have h2 : g = q + 1 + 1 := (by simpa using hm); omega)).lower (by omega)⟩, H3.out.2.2.2.then oS fun x hx hlt => ?_⟩
    have h2 : x = q + 1 + 1 := by simpa using hx
    omega
end Go.Proofs.Ytfeloiodebjolaa

/- Package rule: the law's known. -/
import Derived.Test.YtfeloiodebjolaaRuleK
import Derived.Test.YtfeloiodebjolaaM23
namespace Go.Proofs.Ytfeloiodebjolaa
open Go.RowKit
set_option linter.unusedVariables false
def E1 : Ev := { E0 with b := { E0.b with m1 := 10 } }
theorem k_1 : Rule.run [⟨6, 0, 0⟩] E0 = (E0, 1, 0, false) := by kernel_rfl
theorem k_2 : Rule.run [⟨1, 1, 5⟩, ⟨3, 1, 1⟩] E0 = (E1, 0, 0, true) := by kernel_rfl
/-- Run of ops just laid, of the law's env -/
theorem run_lit {w W : World} (l : List Op3) (o : Only [] (w.alloc (.cells (flatO l).toArray 29)) W) (hn : l.length ≤ 1000000) {R : Ev × Int × Int × Bool} (h : Rule.run l E0 = R) : Calls Try.prog 6 #[.slice (some ⟨w.heap.size, 0, none⟩) l.length l.length, E0.v (.slice none 0 0)] W (RanPost W R) :=
  h ▸ rule_run (B := 0) E0 (SR.nil 0 W) (by decide) hn (rdo_new l o)
set_option maxRecDepth 100000 in
set_option maxHeartbeats 2000000 in
theorem known_any (w : World) : Calls Try.prog 8 #[] w fun e w' => e = .returned (.bool true) ∧ Only [] w w' := by
  have hnot : ∀ (x : Bool) (w : World), (Op.unary .not (.bool x)).run Try.prog w = .ok (.bool (!x)) w := fun _ _ => rfl
  have qf := eq_flt
  go_enter Try.func8, Try.ntmps8
  go_upto_region 1 with fail
  apply wp_region_lit
  refine op_val (w' := w) rfl (.agg #[.int .i64 6, .int .i64 0, .int .i64 0]) (by kernel_rfl) ?_
  refine op_val (w' := w.alloc (.cells (flatO [⟨6, 0, 0⟩]).toArray 29)) rfl (.slice (some ⟨w.heap.size, 0, none⟩) 1 1) (by kernel_rfl) ?_
  refine op_call (F := 26) (args := #[]) (w1 := w.alloc (.cells (flatO [⟨6, 0, 0⟩]).toArray 29)) rfl (by kernel_rfl) ?_
  refine (env_any _).mono ?_
  rintro x w2 ⟨rfl, o2⟩
  refine ⟨_, rfl, ?_⟩
  refine op_call (F := 6) (args := #[.slice (some ⟨w.heap.size, 0, none⟩) 1 1, E0.v (.slice none 0 0)]) (w1 := w2) rfl (by kernel_rfl) ?_
  refine (run_lit [⟨6, 0, 0⟩] o2 (by decide) k_1).mono ?_
  rintro x w3 ⟨⟨v, rfl, hv⟩, o3⟩
  refine ⟨_, rfl, ?_⟩
  obtain ⟨va, vn, vc, rfl⟩ := hv.form2
  have O3 : Hid (Only [] w w3) := (((Only.refl [] w).alloc _).trans o2).trans o3
  clear o2 o3 hv
  refine op_val (w' := w3) rfl (.tuple #[E0.v (.slice va vn vc), .agg #[.int .i64 1, .int .i64 0], .bool false]) (by kernel_rfl) ?_
  refine op_val (w' := w3) rfl (E0.v (.slice va vn vc)) (by kernel_rfl) ?_
  refine op_val (w' := w3) rfl (.agg #[.int .i64 1, .int .i64 0]) (by kernel_rfl) ?_
  refine op_val (w' := w3) rfl (.bool false) (by kernel_rfl) ?_
  refine op_val (w' := w3.alloc (.cells (Ev.zero.cells (.slice none 0 0)).toArray 39)) rfl (.pointer (some ⟨w3.heap.size, 0, none⟩)) (by kernel_rfl) ?_
  have H4 : Hid (Eb (w3.alloc (.cells (Ev.zero.cells (.slice none 0 0)).toArray 39)) w3.heap.size Ev.zero (.slice none 0 0) ∧ Only [] w (w3.alloc (.cells (Ev.zero.cells (.slice none 0 0)).toArray 39)) ∧ w.heap.size ≤ w3.heap.size) := ⟨Eb.new _ _ _ _, O3.out.alloc _, O3.out.size⟩
  clear O3
  generalize w3.alloc (.cells (Ev.zero.cells (.slice none 0 0)).toArray 39) = w4 at *
  generalize w3.heap.size = p1 at *
  refine op_val (w' := w4.alloc (.cells #[.int .i64 0, .int .i64 0] 42)) rfl (.pointer (some ⟨w4.heap.size, 0, none⟩)) (by kernel_rfl) ?_
  have o5 : Only [] w4 (w4.alloc (.cells #[.int .i64 0, .int .i64 0] 42)) := (Only.refl [] _).alloc _
  have H5 : Hid (Eb (w4.alloc (.cells #[.int .i64 0, .int .i64 0] 42)) p1 Ev.zero (.slice none 0 0) ∧ Two (w4.alloc (.cells #[.int .i64 0, .int .i64 0] 42)) w4.heap.size (.int .i64 0) (.int .i64 0) ∧ Only [] w (w4.alloc (.cells #[.int .i64 0, .int .i64 0] 42)) ∧ w.heap.size ≤ p1 ∧ p1 < w4.heap.size) := ⟨H4.out.1.only o5 (by simp), Two.new _ _ _ _, H4.out.2.1.trans o5, H4.out.2.2, H4.out.1.lt⟩
  clear H4 o5
  generalize w4.alloc (.cells #[.int .i64 0, .int .i64 0] 42) = w5 at *
  generalize w4.heap.size = p2 at *
  refine op_storeE (p := p1) (e := E0) (s := .slice va vn vc) rfl (.tmp 1) (.tmp 12) rfl (by kernel_rfl) (by kernel_rfl) H5.out.1 rfl ?_
  intro w6 hb o6 hz
  have H6 : Hid (Two w6 p2 (.int .i64 0) (.int .i64 0) ∧ Only [] w w6 ∧ w.heap.size ≤ p2) := ⟨H5.out.2.1.only o6 (by simp; have := H5.out.2.2.2.2; omega), H5.out.2.2.1.then o6 (fun x hx hl => by have h2 : x = p1 := (by simpa using hx); have := H5.out.2.2.2.1; omega), by have := H5.out.2.2.2; omega⟩
  clear H5 hb o6 hz
  have f0 := H6.out.1.cell0
  have f1 := H6.out.1.cell1
  have fz := H6.out.1.frozen
  go_upto_region 2 with fail
  have o7 : Only [p2] w6 ((w6.setCell ⟨p2, 0, none⟩ (.int .i64 1)).setCell ⟨p2, 1, none⟩ (.int .i64 0)) := ((Only.refl _ _).setCell (by simp) _).setCell (by simp) _
  have H7 : Hid (Two ((w6.setCell ⟨p2, 0, none⟩ (.int .i64 1)).setCell ⟨p2, 1, none⟩ (.int .i64 0)) p2 (.int .i64 1) (.int .i64 0) ∧ Only [] w ((w6.setCell ⟨p2, 0, none⟩ (.int .i64 1)).setCell ⟨p2, 1, none⟩ (.int .i64 0))) := ⟨(H6.out.1.set0 _).set1 _, H6.out.2.1.then o7 (fun x hx hl => by have h2 : x = p2 := (by simpa using hx); have := H6.out.2.2; omega)⟩
  clear H6 f0 f1 fz o7
  generalize (w6.setCell ⟨p2, 0, none⟩ (.int .i64 1)).setCell ⟨p2, 1, none⟩ (.int .i64 0) = w7 at *
  apply wp_region_lit
  refine op_val (w' := w7) rfl (.agg #[.int .i64 1, .int .i64 1, .int .i64 5]) (by kernel_rfl) ?_
  refine op_val (w' := w7) rfl (.agg #[.int .i64 3, .int .i64 1, .int .i64 1]) (by kernel_rfl) ?_
  refine op_val (w' := w7.alloc (.cells (flatO [⟨1, 1, 5⟩, ⟨3, 1, 1⟩]).toArray 29)) rfl (.slice (some ⟨w7.heap.size, 0, none⟩) 2 2) (by kernel_rfl) ?_
  refine op_call (F := 26) (args := #[]) (w1 := w7.alloc (.cells (flatO [⟨1, 1, 5⟩, ⟨3, 1, 1⟩]).toArray 29)) rfl (by kernel_rfl) ?_
  refine (env_any _).mono ?_
  rintro x w8 ⟨rfl, o8⟩
  refine ⟨_, rfl, ?_⟩
  refine op_call (F := 6) (args := #[.slice (some ⟨w7.heap.size, 0, none⟩) 2 2, E0.v (.slice none 0 0)]) (w1 := w8) rfl (by kernel_rfl) ?_
  refine (run_lit [⟨1, 1, 5⟩, ⟨3, 1, 1⟩] o8 (by decide) k_2).mono ?_
  rintro x w9 ⟨⟨v, rfl, hv⟩, o9⟩
  refine ⟨_, rfl, ?_⟩
  obtain ⟨vb, vm, vd, rfl⟩ := hv.form2
  have o79 : Only [] w7 w9 := (((Only.refl [] w7).alloc _).trans o8).trans o9
  have H9 : Hid (Two w9 p2 (.int .i64 1) (.int .i64 0) ∧ Only [] w w9) := ⟨H7.out.1.only o79 (by simp), H7.out.2.trans o79⟩
  clear o8 o9 hv o79 H7
  refine op_val (w' := w9) rfl (.tuple #[E1.v (.slice vb vm vd), .agg #[.int .i64 0, .int .i64 0], .bool true]) (by kernel_rfl) ?_
  refine op_val (w' := w9) rfl (E1.v (.slice vb vm vd)) (by kernel_rfl) ?_
  refine op_val (w' := w9) rfl (.agg #[.int .i64 0, .int .i64 0]) (by kernel_rfl) ?_
  refine op_val (w' := w9) rfl (.bool true) (by kernel_rfl) ?_
  refine op_val (w' := w9.alloc (.cells (Ev.zero.cells (.slice none 0 0)).toArray 39)) rfl (.pointer (some ⟨w9.heap.size, 0, none⟩)) (by kernel_rfl) ?_
  have o10 : Only [] w9 (w9.alloc (.cells (Ev.zero.cells (.slice none 0 0)).toArray 39)) := (Only.refl [] _).alloc _
  have HA : Hid (Eb (w9.alloc (.cells (Ev.zero.cells (.slice none 0 0)).toArray 39)) w9.heap.size Ev.zero (.slice none 0 0) ∧ Two (w9.alloc (.cells (Ev.zero.cells (.slice none 0 0)).toArray 39)) p2 (.int .i64 1) (.int .i64 0) ∧ Only [] w (w9.alloc (.cells (Ev.zero.cells (.slice none 0 0)).toArray 39)) ∧ w.heap.size ≤ w9.heap.size ∧ p2 < w9.heap.size) := ⟨Eb.new _ _ _ _, H9.out.1.only o10 (by simp), H9.out.2.trans o10, H9.out.2.size, H9.out.1.lt⟩
  clear H9 o10
  generalize w9.alloc (.cells (Ev.zero.cells (.slice none 0 0)).toArray 39) = wa at *
  generalize w9.heap.size = p3 at *
  refine op_val (w' := wa.alloc (.cells #[.int .i64 0, .int .i64 0] 42)) rfl (.pointer (some ⟨wa.heap.size, 0, none⟩)) (by kernel_rfl) ?_
  have ob : Only [] wa (wa.alloc (.cells #[.int .i64 0, .int .i64 0] 42)) := (Only.refl [] _).alloc _
  have HB : Hid (Eb (wa.alloc (.cells #[.int .i64 0, .int .i64 0] 42)) p3 Ev.zero (.slice none 0 0) ∧ Two (wa.alloc (.cells #[.int .i64 0, .int .i64 0] 42)) p2 (.int .i64 1) (.int .i64 0) ∧ Two (wa.alloc (.cells #[.int .i64 0, .int .i64 0] 42)) wa.heap.size (.int .i64 0) (.int .i64 0) ∧ Only [] w (wa.alloc (.cells #[.int .i64 0, .int .i64 0] 42)) ∧ w.heap.size ≤ p3 ∧ p2 < p3 ∧ p3 < wa.heap.size) := ⟨HA.out.1.only ob (by simp), HA.out.2.1.only ob (by simp), Two.new _ _ _ _, HA.out.2.2.1.trans ob, HA.out.2.2.2.1, HA.out.2.2.2.2, HA.out.1.lt⟩
  clear HA ob
  generalize wa.alloc (.cells #[.int .i64 0, .int .i64 0] 42) = wb at *
  generalize wa.heap.size = p4 at *
  refine op_storeE (p := p3) (e := E1) (s := .slice vb vm vd) rfl (.tmp 4) (.tmp 21) rfl (by kernel_rfl) (by kernel_rfl) HB.out.1 rfl ?_
  intro wc hc oc hz2
  have HC : Hid (Eb wc p3 E1 (.slice vb vm vd) ∧ Two wc p2 (.int .i64 1) (.int .i64 0) ∧ Two wc p4 (.int .i64 0) (.int .i64 0) ∧ Only [] w wc ∧ w.heap.size ≤ p4 ∧ p2 < p3 ∧ p3 < p4) := by
    obtain ⟨h1, h2, h3, h4, h5, h6, h7⟩ := HB.out
    exact ⟨hc, h2.only oc (by simp; omega), h3.only oc (by simp; omega), h4.then oc (fun x hx hl => by have h2 : x = p3 := (by simpa using hx); omega), by omega, h6, h7⟩
  clear HB hc oc hz2
  have f0 := HC.out.2.2.1.cell0
  have f1 := HC.out.2.2.1.cell1
  have fz := HC.out.2.2.1.frozen
  have g0 := HC.out.2.1.cell0
  have g1 := HC.out.2.1.cell1
  have c8 : wc.cell? ⟨p3, 8, none⟩ = some (.int .i64 10) := HC.out.1.blk.cell 8
  obtain ⟨-, -, -, -, -, l1, l2⟩ := HC.out
  have ix := fun w => idx1 p3 w
  go_wp2_with fail
  go_ret
  have oS : Only [p4] wc ((wc.setCell ⟨p4, 0, none⟩ (.int .i64 0)).setCell ⟨p4, 1, none⟩ (.int .i64 0)) := ((Only.refl _ _).setCell (by simp) _).setCell (by simp) _
  exact ⟨rfl, HC.out.2.2.2.1.then oS fun x hx hl => by have h2 : x = p4 := (by simpa using hx); have := HC.out.2.2.2.2.1; omega⟩
end Go.Proofs.Ytfeloiodebjolaa

/- Package rule: the law's faults. -/
import Derived.Test.YtnicjbllkdpgcaaSeqRun
namespace Go.Proofs.Ytnicjbllkdpgcaa
open Go.RowKit
set_option linter.unusedVariables false
set_option maxRecDepth 100000 in
set_option maxHeartbeats 2000000 in
theorem faults_any {c a : Int} {w : World} {ov : Value} {l : List Op3} (h : RdO w.heap.size w ov l) (hn : l.length ≤ 1000000) (hr : Rule.run l E0 = (E0, c, a, false)) : Calls Try.prog 11 #[.int .i64 c, .int .i64 a, ov] w fun e w' => e = .returned (.bool true) ∧ Only [] w w' := by
  have hnot : ∀ (x : Bool) (w : World), (Op.unary .not (.bool x)).run Try.prog w = .ok (.bool (!x)) w := fun _ _ => rfl
  obtain ⟨oa, oc, e, -⟩ := id h
  obtain ⟨n, hN⟩ : ∃ n, l.length = n := ⟨_, rfl⟩
  have HN : Hid _ := hN
  rw [hN] at hn e
  subst e
  have H0 : Hid (RdO w.heap.size w (.slice oa n oc) l) := h
  have HR : Hid _ := hr
  clear hN h hr
  go_enter Try.func11, Try.ntmps11
  go_upto_region 1 with fail
  apply wp_region_lit
  refine op_call (F := 8) (args := #[]) (w1 := w) rfl (by kernel_rfl) ?_
  refine (env_any _).mono ?_
  rintro x w1 ⟨rfl, o1⟩
  refine ⟨_, rfl, ?_⟩
  refine op_val (w' := w1.alloc (.cells (Ev.zero.cells (.slice none 0 0)).toArray 32)) rfl (.pointer (some ⟨w1.heap.size, 0, none⟩)) (by kernel_rfl) ?_
  refine op_storeE (p := w1.heap.size) (e := E0) (s := .slice none 0 0) rfl _ _ rfl rfl rfl (Eb.new Ev.zero _ _ _) rfl ?_
  intro w3 hb o3 hz3
  have o13 : Only [] w1 w3 := ((Only.refl [] w1).alloc _).then o3 (fun u hu hl => by have h2 : u = w1.heap.size := (by simpa using hu); omega)
  have o03 := o1.trans o13
  have H3 : Hid (RdO w3.heap.size w3 (.slice oa n oc) l ∧ Eb w3 w1.heap.size E0 (.slice none 0 0) ∧ Only [] w w3) := by
    refine ⟨?_, hb, o03⟩
    have h := H0.out.only o03 (by simp)
    obtain ⟨x1, x2, x3, x4, x5⟩ := h
    refine ⟨x1, x2, x3, x4, ?_⟩
    rcases x5 with x5 | ⟨b, off, y1, y2, y3, y4⟩
    · exact Or.inl x5
    · exact Or.inr ⟨b, off, y1, y3, y3, y4⟩
  clear o13 hb o3 hz3 o1 o03 H0
  generalize w1.heap.size = p at *
  refine wpList_nil ?_
  go_upto_region 2 with fail
  apply wp_region_lit
  refine op_val (w' := w3) rfl (.slice oa n oc) (by kernel_rfl) ?_
  refine op_env rfl _ rfl rfl H3.out.2.1 ?_
  refine run_seq (B := 0) (e := E0) (s := .slice none 0 0) (ov := .slice oa n oc) (l := l) (R := (E0, c, a, false)) (SR.nil 0 _) (by decide) (by rw [HN.out]; omega) H3.out.1 HR.out rfl rfl rfl rfl rfl rfl rfl rfl rfl rfl (by kernel_rfl) (fun _ _ => by kernel_rfl) (fun _ _ _ _ => by kernel_rfl) (fun _ _ _ _ => by kernel_rfl) (fun _ _ _ _ => by kernel_rfl) rfl rfl _ _ _ _ rfl rfl rfl rfl (fun _ _ _ _ _ => by kernel_rfl) (fun _ _ _ _ _ => by kernel_rfl) (fun _ _ _ _ _ => by kernel_rfl) (fun _ _ _ _ _ => by kernel_rfl) (fun _ _ _ _ _ _ => by kernel_rfl) ?_
  intro w6 va vn vc p2 q2 HS
  simp only [AR7, AR5, AR2, Act.put, List.setIfInBounds_toArray, List.set_cons_succ, List.set_cons_zero]
  refine wpList_nil ?_
  have H6 : Hid (Eb w6 p2 E0 (.slice va vn vc) ∧ Eb w6 p E0 (.slice none 0 0) ∧ Only [] w w6 ∧ SR w3.heap.size w6 (.slice va vn vc) E0.sh) := ⟨HS.env, H3.out.2.1.only HS.only (by simp), H3.out.2.2.trans HS.only, HS.row⟩
  have f0 : w6.cell? ⟨q2, 0, none⟩ = some (.int .i64 c) := HS.flt.cell0
  have f1 : w6.cell? ⟨q2, 1, none⟩ = some (.int .i64 a) := HS.flt.cell1
  have qf : ∀ w, (binOp .eql 34 (.agg #[.int .i64 c, .int .i64 a]) (.agg #[.int .i64 c, .int .i64 a])).run Try.prog w = .ok (.bool true) w := fun w => by
    have := eq_flt c a c a w
    simpa using this
  clear H3 HS
  go_wp2_with (first | refine opg_env (by kernel_rfl) _ rfl rfl H6.out.1 ?_ | refine opg_env (by kernel_rfl) _ rfl rfl H6.out.2.1 ?_)
  refine (same_any (B1 := w3.heap.size) (B2 := 0) E0 E0 H6.out.2.2.2 (SR.nil 0 _) (by decide) (by decide)).mono ?_
  rintro x w7 ⟨rfl, o7⟩
  rw [Ev.same_self]
  go_wp2_with fail
  go_ret
  exact ⟨rfl, H6.out.2.2.1.trans o7⟩
end Go.Proofs.Ytnicjbllkdpgcaa

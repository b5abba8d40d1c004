/- Package rule: the law's env. -/
import Derived.Test.YtfeloiodebjolaaRuleS
import Derived.Test.YtfeloiodebjolaaM23
namespace Go.Proofs.Ytfeloiodebjolaa
open Go.RowKit
set_option linter.unusedVariables false

/-- the law's env -/
def E0 : Ev := ⟨⟨1, 0, 2048, 2048, 0, 0, 0, 0, 0, 0, 0, 0⟩, 3, -64, 7, 5, 2, []⟩
set_option maxRecDepth 100000 in
theorem env_any (w : World) : Calls Try.prog 26 #[] w fun e w' => e = .returned (E0.v (.slice none 0 0)) ∧ Only [] w w' := by
  have bk : Body.born 0 1 = ⟨1, 0, 2048, 2048, 0, 0, 0, 0, 0, 0, 0, 0⟩ := by decide
  have H0 : Hid (Eb (w.alloc (.cells (Ev.zero.cells (.slice none 0 0)).toArray 39)) w.heap.size Ev.zero (.slice none 0 0) ∧ Only [] w (w.alloc (.cells (Ev.zero.cells (.slice none 0 0)).toArray 39))) := ⟨Eb.new _ _ _ _, (Only.refl _ _).alloc _⟩
  go_enter Try.func26, Try.ntmps26
  go_upto_region 1 with fail
  change Code.wp _ _ _ _ (w.alloc (.cells (Ev.zero.cells (.slice none 0 0)).toArray 39))
  generalize w.alloc (.cells (Ev.zero.cells (.slice none 0 0)).toArray 39) = w1 at *
  obtain ⟨q, hq⟩ : ∃ q, w.heap.size = q := ⟨_, rfl⟩
  simp only [hq] at H0 ⊢
  apply wp_region_lit
  refine op_call (F := 13) (args := #[.int .i64 0, .int .i64 1]) (w1 := w1) rfl (by kernel_rfl) ?_
  refine (born_any _ _ _).mono ?_
  rintro x w2 ⟨rfl, o2⟩
  refine ⟨_, rfl, ?_⟩
  rw [bk]
  have H2 : Hid (Eb w2 q Ev.zero (.slice none 0 0) ∧ Only [] w w2) := ⟨H0.out.1.only o2 (by simp), H0.out.2.trans o2⟩
  clear o2 H0
  refine op_val (w' := w2) rfl (.agg #[.int .i64 3, .int .i64 (-64), .int .i64 7]) (by kernel_rfl) ?_
  refine op_val (w' := w2) rfl (E0.v (.slice none 0 0)) (by kernel_rfl) ?_
  refine op_storeE (e := E0) (s := .slice none 0 0) rfl _ _ rfl rfl rfl H2.out.1 rfl ?_
  intro w3 hb o3 hz
  refine wpList_nil ?_
  have H3 : Hid (Eb w3 q E0 (.slice none 0 0) ∧ Only [] w w3) := ⟨hb, H2.out.2.then o3 fun x hx hl => by have h2 : x = q := (by simpa using hx); omega⟩
  clear hb o3 H2
  go_wp2_with fail
  exact bodyPost_ret (res_env H3.out.1 Try.results26 rfl) rfl ⟨rfl, H3.out.2⟩
end Go.Proofs.Ytfeloiodebjolaa

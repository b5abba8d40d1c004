/- Package rule: the law's env and known. -/
import Derived.Test.YtfeloiodebjolaaRuleS
namespace Go.Proofs.Ytfeloiodebjolaa
open Go.RowKit
set_option linter.unusedVariables false

def flatO (l : List Op3) : List Value := l.flatMap Op3.cells
theorem flatO_get (l : List Op3) : ∀ i j, i < l.length → j < 3 → (flatO l)[i * 3 + j]? = ((l.getD i ⟨0, 0, 0⟩).cells)[j]? := by
  induction l with
  | nil => intro i j hi; simp at hi
  | cons y ys ih =>
    intro i j hi hj
    rw [flatO, List.flatMap_cons]
    change (y.cells ++ flatO ys)[_]? = _
    cases i with
    | zero => rw [List.getElem?_append_left (by simp [Op3.cells]; omega)]; simp
    | succ i =>
      rw [List.getElem?_append_right (by simp [Op3.cells]; omega), show (i + 1) * 3 + j - y.cells.length = i * 3 + j by simp [Op3.cells]; omega, ih i j (by simpa using hi) hj]
      simp
theorem RdO.of_blk {B b : Nat} {w : World} {l : List Op3} (h : Blk w b (flatO l)) (hb : b < B) {cap : Nat} (hc : l.length ≤ cap) : RdO B w (.slice (some ⟨b, 0, none⟩) l.length cap) l := by
  refine ⟨_, cap, rfl, hc, Or.inr ⟨b, 0, rfl, hb, h.lt, fun i hi => ?_⟩⟩
  refine ⟨?_, ?_, ?_⟩
  · rw [Nat.zero_add, h.cell, show i * 3 = i * 3 + 0 by omega, flatO_get l i 0 hi (by omega)]; rfl
  · rw [Nat.zero_add, h.cell, flatO_get l i 1 hi (by omega)]; rfl
  · rw [Nat.zero_add, h.cell, flatO_get l i 2 hi (by omega)]; rfl
theorem rdo_new {w W : World} (l : List Op3) (o : Only [] (w.alloc (.cells (flatO l).toArray 29)) W) : RdO W.heap.size W (.slice (some ⟨w.heap.size, 0, none⟩) l.length l.length) l :=
  RdO.of_blk ((Blk.new w (flatO l).toArray _).only o (by simp)) (by have := o.size; simp at this; omega) (Nat.le_refl _)

/-- the law's env -/
def E0 : Ev := ⟨⟨1, 0, 2048, 2048, 0, 0, 0, 0, 0, 0, 0, 0⟩, 3, -64, 7, 5, 2, []⟩
set_option maxRecDepth 100000 in
theorem env_any (w : World) : Calls Try.prog 26 #[] w fun e w' => e = .returned (E0.v (.slice none 0 0)) ∧ Only [] w w' := by
  have bk : Body.born 0 1 = ⟨1, 0, 2048, 2048, 0, 0, 0, 0, 0, 0, 0, 0⟩ := by decide
  have H0 : Hid (Eb (w.alloc (.cells (Ev.zero.cells (.slice none 0 0)).toArray 39)) w.heap.size Ev.zero (.slice none 0 0) ∧ Only [] w (w.alloc (.cells (Ev.zero.cells (.slice none 0 0)).toArray 39))) := ⟨Eb.new _ _ _ _, (Only.refl _ _).alloc _⟩
  go_enter Try.func26, Try.ntmps26
  go_upto_region 1 with fail
  change Code.wp _ _ _ _ (w.alloc (.cells (Ev.zero.cells (.slice none 0 0)).toArray 39))
  generalize w.alloc (.cells (Ev.zero.cells (.slice none 0 0)).toArray 39) = w1 at *
  obtain ⟨q, hq⟩ : ∃ q, w.heap.size = q := ⟨_, rfl⟩
  simp only [hq] at H0 ⊢
  apply wp_region_lit
  refine op_call (F := 13) (args := #[.int .i64 0, .int .i64 1]) (w1 := w1) rfl (by kernel_rfl) ?_
  refine (born_any _ _ _).mono ?_
  rintro x w2 ⟨rfl, o2⟩
  refine ⟨_, rfl, ?_⟩
  rw [bk]
  have H2 : Hid (Eb w2 q Ev.zero (.slice none 0 0) ∧ Only [] w w2) := ⟨H0.out.1.only o2 (by simp), H0.out.2.trans o2⟩
  clear o2 H0
  refine op_val (w' := w2) rfl (.agg #[.int .i64 3, .int .i64 (-64), .int .i64 7]) (by kernel_rfl) ?_
  refine op_val (w' := w2) rfl (E0.v (.slice none 0 0)) (by kernel_rfl) ?_
  refine op_storeE (e := E0) (s := .slice none 0 0) rfl _ _ rfl rfl rfl H2.out.1 rfl ?_
  intro w3 hb o3 hz
  refine wpList_nil ?_
  have H3 : Hid (Eb w3 q E0 (.slice none 0 0) ∧ Only [] w w3) := ⟨hb, H2.out.2.then o3 fun x hx hl => by have h2 : x = q := (by simpa using hx); omega⟩
  clear hb o3 H2
  go_wp2_with fail
  exact bodyPost_ret (res_env H3.out.1 Try.results26 rfl) rfl ⟨rfl, H3.out.2⟩
end Go.Proofs.Ytfeloiodebjolaa

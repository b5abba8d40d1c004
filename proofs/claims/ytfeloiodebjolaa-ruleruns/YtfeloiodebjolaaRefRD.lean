/- The reference of chapter 11: field. -/
import Derived.Test.YtfeloiodebjolaaRefRB
namespace Go.Proofs.Ytfeloiodebjolaa
open Go.RowKit
set_option linter.unusedVariables false

set_option maxRecDepth 100000 in
set_option maxHeartbeats 2000000 in
theorem rfield_any (e : Ev) (s : Value) (n : Int) (h0 : 0 ≤ n) (h7 : n ≤ 7) (w : World) : Calls Try.prog 21 #[e.v s, .int .i64 n] w fun x w' => x = .returned (.int .i64 (Rule.field e n)) ∧ Only [] w w' := by
  have H0 : Hid (Eb (w.alloc (.cells (e.cells s).toArray 45)) w.heap.size e s ∧ Only [] w (w.alloc (.cells (e.cells s).toArray 45))) := ⟨Eb.new e s _ _, (Only.refl [] _).alloc _⟩
  go_enter Try.func21, Try.ntmps21
  go_upto_region 1 with fail
  change Code.wp _ _ _ _ (w.alloc (.cells (e.cells s).toArray 45))
  generalize w.alloc (.cells (e.cells s).toArray 45) = W at *
  obtain ⟨q, hq⟩ : ∃ q, w.heap.size = q := ⟨_, rfl⟩
  simp only [hq] at H0 ⊢
  clear hq
  obtain ⟨c0, c1, c2, c3, c4, c5, c6, c7, c8, c9, c10, c11, c12, c13, c14, c15, c16, c17⟩ := H0.out.1.all
  go_upto_region 2 with fail
  change Code.wp _ _ _ _ (W.alloc (.cells e.b.cells.toArray 34))
  clear c0 c1 c2 c3 c4 c5 c6 c7 c8 c9 c10 c11 c12 c13 c14 c15 c16 c17
  have H1 : Hid (Eb (W.alloc (.cells e.b.cells.toArray 34)) q e s ∧ Bl (W.alloc (.cells e.b.cells.toArray 34)) W.heap.size e.b ∧ Only [] w (W.alloc (.cells e.b.cells.toArray 34))) := ⟨H0.out.1.only ((Only.refl [] _).alloc _) (by simp), Bl.new _ _ _, H0.out.2.alloc _⟩
  clear H0
  generalize W.alloc (.cells e.b.cells.toArray 34) = W1 at *
  generalize W.heap.size = p at *
  have c12 : W1.cell? ⟨q, 12, none⟩ = some (.int .i64 e.t) := H1.out.1.blk.cell 12
  have c13 : W1.cell? ⟨q, 13, none⟩ = some (.int .i64 e.ix) := H1.out.1.blk.cell 13
  have c14 : W1.cell? ⟨q, 14, none⟩ = some (.int .i64 e.iy) := H1.out.1.blk.cell 14
  obtain ⟨b0, b1, b2, b3, b4, b5, b6, b7, b8, b9, b10, b11⟩ := H1.out.2.1.all
  have h8 : n = 0 ∨ n = 1 ∨ n = 2 ∨ n = 3 ∨ n = 4 ∨ n = 5 ∨ n = 6 ∨ n = 7 := by omega
  clear h0 h7
  rcases h8 with rfl | rfl | rfl | rfl | rfl | rfl | rfl | rfl
  all_goals
    have ix0 : ∀ (a b c d e f g h : Int) (w : World), (Instr.index 80 (.agg #[.int .i64 a, .int .i64 b, .int .i64 c, .int .i64 d, .int .i64 e, .int .i64 f, .int .i64 g, .int .i64 h]) (.int .i64 0)).run Try.prog w = .ok (.int .i64 a) w := fun _ _ _ _ _ _ _ _ _ => rfl
    have ix1 : ∀ (a b c d e f g h : Int) (w : World), (Instr.index 80 (.agg #[.int .i64 a, .int .i64 b, .int .i64 c, .int .i64 d, .int .i64 e, .int .i64 f, .int .i64 g, .int .i64 h]) (.int .i64 1)).run Try.prog w = .ok (.int .i64 b) w := fun _ _ _ _ _ _ _ _ _ => rfl
    have ix2 : ∀ (a b c d e f g h : Int) (w : World), (Instr.index 80 (.agg #[.int .i64 a, .int .i64 b, .int .i64 c, .int .i64 d, .int .i64 e, .int .i64 f, .int .i64 g, .int .i64 h]) (.int .i64 2)).run Try.prog w = .ok (.int .i64 c) w := fun _ _ _ _ _ _ _ _ _ => rfl
    have ix3 : ∀ (a b c d e f g h : Int) (w : World), (Instr.index 80 (.agg #[.int .i64 a, .int .i64 b, .int .i64 c, .int .i64 d, .int .i64 e, .int .i64 f, .int .i64 g, .int .i64 h]) (.int .i64 3)).run Try.prog w = .ok (.int .i64 d) w := fun _ _ _ _ _ _ _ _ _ => rfl
    have ix4 : ∀ (a b c d e f g h : Int) (w : World), (Instr.index 80 (.agg #[.int .i64 a, .int .i64 b, .int .i64 c, .int .i64 d, .int .i64 e, .int .i64 f, .int .i64 g, .int .i64 h]) (.int .i64 4)).run Try.prog w = .ok (.int .i64 e) w := fun _ _ _ _ _ _ _ _ _ => rfl
    have ix5 : ∀ (a b c d e f g h : Int) (w : World), (Instr.index 80 (.agg #[.int .i64 a, .int .i64 b, .int .i64 c, .int .i64 d, .int .i64 e, .int .i64 f, .int .i64 g, .int .i64 h]) (.int .i64 5)).run Try.prog w = .ok (.int .i64 f) w := fun _ _ _ _ _ _ _ _ _ => rfl
    have ix6 : ∀ (a b c d e f g h : Int) (w : World), (Instr.index 80 (.agg #[.int .i64 a, .int .i64 b, .int .i64 c, .int .i64 d, .int .i64 e, .int .i64 f, .int .i64 g, .int .i64 h]) (.int .i64 6)).run Try.prog w = .ok (.int .i64 g) w := fun _ _ _ _ _ _ _ _ _ => rfl
    have ix7 : ∀ (a b c d e f g h : Int) (w : World), (Instr.index 80 (.agg #[.int .i64 a, .int .i64 b, .int .i64 c, .int .i64 d, .int .i64 e, .int .i64 f, .int .i64 g, .int .i64 h]) (.int .i64 7)).run Try.prog w = .ok (.int .i64 h) w := fun _ _ _ _ _ _ _ _ _ => rfl
    go_wp2_with fail
    go_ret
    exact ⟨rfl, H1.out.2.2⟩
end Go.Proofs.Ytfeloiodebjolaa

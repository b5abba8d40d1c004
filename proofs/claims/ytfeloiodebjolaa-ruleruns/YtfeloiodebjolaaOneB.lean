/- A slice of one body, just laid. -/
import Derived.Test.YtfeloiodebjolaaBodyRow
namespace Go.Proofs.Ytfeloiodebjolaa
open Go.RowKit
set_option maxRecDepth 100000 in
set_option maxHeartbeats 400000 in
theorem exec_oneB {w : World} {o : Oper} {act : Act} (b : Bd) (x : Operand) (ho : o.op = .buildSlice 37 1 #[(0, x)]) (hx : act.eval x = b.v) : (execOp act.eval o).run Try.prog w = .ok (.value (.slice (some ⟨w.heap.size, 0, none⟩) 1 1)) (w.alloc (.cells #[.int .i64 b.k, .int .i64 b.o, .int .i64 b.x, .int .i64 b.y, .int .i64 b.vx, .int .i64 b.vy, .int .i64 b.age, .int .i64 b.m0, .int .i64 b.m1, .int .i64 b.m2, .int .i64 b.m3, .int .i64 b.f] 34)) := by
  obtain ⟨b0, b1, b2, b3, b4, b5, b6, b7, b8, b9, b10, b11⟩ := b
  simp only [execOp, ho, List.map_toArray, List.map_cons, List.map_nil, hx]
  go_simp
end Go.Proofs.Ytfeloiodebjolaa

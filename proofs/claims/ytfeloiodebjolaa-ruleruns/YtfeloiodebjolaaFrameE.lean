/- The raw environment of the law of chapter 12, that came in by value. -/
import Derived.Test.YtfeloiodebjolaaFrame
import Derived.Test.YtfeloiodebjolaaFrameC
import Derived.ChangeSame
namespace Go.Proofs.Ytfeloiodebjolaa
open Go.ChangeShapes Go.WideShapes Go.ChangeAt Go.RowKit Go.Deep
set_option linter.unusedVariables false

/-- eight numbers, and a slice of some -/
structure Re where
  x : Int
  y : Int
  vx : Int
  bt : Int
  sx : Int
  room : Int
  m : Value
  d : Int
  bend : Int
abbrev Re.v (r : Re) : Value := .agg #[.int .i64 r.x, .int .i64 r.y, .int .i64 r.vx, .int .i64 r.bt, .int .i64 r.sx, .int .i64 r.room, r.m, .int .u64 r.d, .int .i64 r.bend]
def Re.cells (r : Re) : List Value := [.int .i64 r.x, .int .i64 r.y, .int .i64 r.vx, .int .i64 r.bt, .int .i64 r.sx, .int .i64 r.room, r.m, .int .u64 r.d, .int .i64 r.bend]
theorem nine {α : Type} {cs : List α} (h : cs.length = 9) : ∃ c0 c1 c2 c3 c4 c5 c6 c7 c8, cs = [c0, c1, c2, c3, c4, c5, c6, c7, c8] := by
  match cs, h with
  | [c0, c1, c2, c3, c4, c5, c6, c7, c8], _ => exact ⟨c0, c1, c2, c3, c4, c5, c6, c7, c8, rfl⟩
section
variable {H : Type} {enc : TypeId × Value → H} {w : World} {base : Nat}
theorem came_re {v : Value} {d : DataW H} {p : List MemPlace} (hv : ∃ cs, v = .agg cs)
    (h : DataW.Trod enc Try.prog w base (fun _ => true) true 26 v d p) : ∃ (r : Re) (ms : List Int), v = r.v ∧ CameI .i64 w r.m ms := by
  obtain ⟨⟨cs⟩, rfl⟩ := hv
  obtain ⟨fuel, hf⟩ := h
  obtain ⟨xs, n, _, _, hl, hlen, hfs⟩ := DataW.trod_struct Try.underlying26 hf
  have hl9 : cs.length = 9 := hl.trans (by kernel_rfl)
  obtain ⟨c0, c1, c2, c3, c4, c5, c6, c7, c8, rfl⟩ := nine hl9
  have ci : Try.prog.cellsOf 3 = 1 := by kernel_rfl
  have cu : Try.prog.cellsOf 24 = 1 := by kernel_rfl
  have cl : Try.prog.cellsOf 23 = 1 := by kernel_rfl
  have g0 := hfs 0 _ rfl
  have g1 := hfs 1 _ rfl
  have g2 := hfs 2 _ rfl
  have g3 := hfs 3 _ rfl
  have g4 := hfs 4 _ rfl
  have g5 := hfs 5 _ rfl
  have g6 := hfs 6 _ rfl
  have g7 := hfs 7 _ rfl
  have g8 := hfs 8 _ rfl
  simp [ci, cu, cl, Value.cells] at g0 g1 g2 g3 g4 g5 g6 g7 g8
  obtain ⟨y0, y1, y2, y3, y4, y5, y6, y7, y8, rfl⟩ := nine (hlen.trans rfl)
  simp at g0 g1 g2 g3 g4 g5 g6 g7 g8
  obtain ⟨z0, k0, _, _⟩ := DataW.trod_int Try.underlying3 g0
  obtain ⟨z1, k1, _, _⟩ := DataW.trod_int Try.underlying3 g1
  obtain ⟨z2, k2, _, _⟩ := DataW.trod_int Try.underlying3 g2
  obtain ⟨z3, k3, _, _⟩ := DataW.trod_int Try.underlying3 g3
  obtain ⟨z4, k4, _, _⟩ := DataW.trod_int Try.underlying3 g4
  obtain ⟨z5, k5, _, _⟩ := DataW.trod_int Try.underlying3 g5
  obtain ⟨z7, k7, _, _⟩ := DataW.trod_int Try.underlying24 g7
  obtain ⟨z8, k8, _, _⟩ := DataW.trod_int Try.underlying3 g8
  simp only [List.cons.injEq, and_true] at k0 k1 k2 k3 k4 k5 k7 k8
  have hsl : ∃ a len cap, c6 = .slice a len cap := by
    rcases open_ints Try.underlying23 Try.underlying3 (by kernel_rfl) g6 with ⟨hcs, _⟩ | ⟨x, l, c, zs, hcs, _⟩
    · simp only [List.cons.injEq, and_true] at hcs
      exact ⟨_, _, _, hcs⟩
    · simp only [List.cons.injEq, and_true] at hcs
      exact ⟨_, _, _, hcs⟩
  obtain ⟨a, len, cap, rfl⟩ := hsl
  obtain ⟨ms, hm⟩ := came_i (w := w) (base := base) (enc := enc) (d := y6.1) (p := y6.2) Try.underlying23 Try.underlying3 (by kernel_rfl) ⟨n, by simpa [Value.cells] using g6⟩
  subst k0 k1 k2 k3 k4 k5 k7 k8
  exact ⟨⟨z0, z1, z2, z3, z4, z5, _, z7, z8⟩, ms, rfl, hm⟩
end
end Go.Proofs.Ytfeloiodebjolaa

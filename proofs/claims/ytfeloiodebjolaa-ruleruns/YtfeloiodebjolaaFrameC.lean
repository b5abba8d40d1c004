/- A struct of ten whole numbers that came in by value. -/
import Derived.Test.YtfeloiodebjolaaFrame
import Derived.Test.YtfeloiodebjolaaM0
import Derived.Lib.Hide
namespace Go.Proofs.Ytfeloiodebjolaa
open Go.ChangeShapes Go.WideShapes Go.RowKit

/-- ten numbers -/
structure Rw where
  c0 : Int
  c1 : Int
  c2 : Int
  c3 : Int
  c4 : Int
  c5 : Int
  c6 : Int
  c7 : Int
  c8 : Int
  c9 : Int
abbrev Rw.v (r : Rw) : Value := .agg #[.int .i64 r.c0, .int .i64 r.c1, .int .i64 r.c2, .int .i64 r.c3, .int .i64 r.c4, .int .i64 r.c5, .int .i64 r.c6, .int .i64 r.c7, .int .i64 r.c8, .int .i64 r.c9]
def Rw.cells (r : Rw) : List Value := [.int .i64 r.c0, .int .i64 r.c1, .int .i64 r.c2, .int .i64 r.c3, .int .i64 r.c4, .int .i64 r.c5, .int .i64 r.c6, .int .i64 r.c7, .int .i64 r.c8, .int .i64 r.c9]
/-- they lie in a block -/
structure Rl (w : World) (p : Nat) (r : Rw) : Prop where
  blk : Blk w p r.cells
theorem Rl.all {w : World} {p : Nat} {r : Rw} (h : Rl w p r) : w.cell? ⟨p, 0, none⟩ = some (.int .i64 r.c0) ∧ w.cell? ⟨p, 1, none⟩ = some (.int .i64 r.c1) ∧ w.cell? ⟨p, 2, none⟩ = some (.int .i64 r.c2) ∧ w.cell? ⟨p, 3, none⟩ = some (.int .i64 r.c3) ∧ w.cell? ⟨p, 4, none⟩ = some (.int .i64 r.c4) ∧ w.cell? ⟨p, 5, none⟩ = some (.int .i64 r.c5) ∧ w.cell? ⟨p, 6, none⟩ = some (.int .i64 r.c6) ∧ w.cell? ⟨p, 7, none⟩ = some (.int .i64 r.c7) ∧ w.cell? ⟨p, 8, none⟩ = some (.int .i64 r.c8) ∧ w.cell? ⟨p, 9, none⟩ = some (.int .i64 r.c9) := by
  have := fun i => h.blk.cell i
  exact ⟨this 0, this 1, this 2, this 3, this 4, this 5, this 6, this 7, this 8, this 9⟩
theorem Rl.lt {w : World} {p : Nat} {r : Rw} (h : Rl w p r) : p < w.heap.size := h.blk.lt
theorem Rl.only {w w' : World} {p : Nat} {r : Rw} {S : List Nat} (h : Rl w p r) (o : Only S w w') (hn : p ∉ S) : Rl w' p r := ⟨h.blk.only o hn⟩
theorem Rl.new (r : Rw) (w : World) (t : TypeId) : Rl (w.alloc (.cells #[.int .i64 r.c0, .int .i64 r.c1, .int .i64 r.c2, .int .i64 r.c3, .int .i64 r.c4, .int .i64 r.c5, .int .i64 r.c6, .int .i64 r.c7, .int .i64 r.c8, .int .i64 r.c9] t)) w.heap.size r := ⟨Blk.new w _ _⟩

theorem ten {α : Type} {cs : Array α} (h : cs.size = 10) : ∃ c0 c1 c2 c3 c4 c5 c6 c7 c8 c9, cs = #[c0, c1, c2, c3, c4, c5, c6, c7, c8, c9] := by
  obtain ⟨l⟩ := cs
  match l, h with
  | [c0, c1, c2, c3, c4, c5, c6, c7, c8, c9], _ => exact ⟨c0, c1, c2, c3, c4, c5, c6, c7, c8, c9, rfl⟩
theorem cell_int {w : World} {base : Nat} {u : TypeId} {v : Value} (hu : Try.prog.underlying u = some (.int .i64)) (h : Cell.okWide Try.prog w .any base u v) : ∃ n, v = Value.int .i64 n := by
  simp only [Cell.okWide, hu] at h
  cases v <;> simp_all [Cell.ok]
theorem came_ten {w : World} {base : Nat} {t e : TypeId} {fs : Array Field} {v : Value} (ht : Try.prog.underlying t = some (.struct fs)) (hc : Try.prog.cellsOf t = 10) (hts : Try.prog.cellTypes Try.prog.depth t = some (List.replicate 10 e)) (he : Try.prog.underlying e = some (.int .i64))
    (h : Value.okWide Try.prog w .any base t v) : ∃ r : Rw, v = r.v := by
  simp only [Value.okWide, ht] at h
  obtain ⟨cs, rfl, hs, ts, hts2, _, hk⟩ := h
  rw [hts] at hts2
  cases hts2
  obtain ⟨c0, c1, c2, c3, c4, c5, c6, c7, c8, c9, rfl⟩ := ten (hs.trans hc)
  have key : ∀ i v, (#[c0, c1, c2, c3, c4, c5, c6, c7, c8, c9] : Array Value)[i]? = some v → ∃ n, v = Value.int .i64 n := fun i v hi => by
    obtain ⟨u, hu, hw⟩ := hk i v hi
    have hm := List.mem_of_getElem? hu
    rw [List.mem_replicate] at hm
    rw [hm.2] at hw
    exact cell_int he hw
  obtain ⟨n0, rfl⟩ := key 0 _ rfl
  obtain ⟨n1, rfl⟩ := key 1 _ rfl
  obtain ⟨n2, rfl⟩ := key 2 _ rfl
  obtain ⟨n3, rfl⟩ := key 3 _ rfl
  obtain ⟨n4, rfl⟩ := key 4 _ rfl
  obtain ⟨n5, rfl⟩ := key 5 _ rfl
  obtain ⟨n6, rfl⟩ := key 6 _ rfl
  obtain ⟨n7, rfl⟩ := key 7 _ rfl
  obtain ⟨n8, rfl⟩ := key 8 _ rfl
  obtain ⟨n9, rfl⟩ := key 9 _ rfl
  exact ⟨⟨n0, n1, n2, n3, n4, n5, n6, n7, n8, n9⟩, rfl⟩
end Go.Proofs.Ytfeloiodebjolaa

/- Two Writers beside each other. -/
import Derived.Test.YtaamobhlbahnhaaBitsK
namespace Go.Proofs.Ytaamobhlbahnhaa
open Go.RowKit Bit

theorem wf_u64 {n : Int} (h : (Lit.int .u64 n).wf = true) : 0 ≤ n ∧ n < 18446744073709551616 := by
  have e1 : IntKind.u64.min = 0 := by decide
  have e2 : IntKind.u64.max = 18446744073709551615 := by decide
  simp [Lit.wf, e1, e2] at h
  omega
theorem wf_i64 {n : Int} (h : (Lit.int .i64 n).wf = true) : -9223372036854775808 ≤ n ∧ n ≤ 9223372036854775807 := by
  have e1 : IntKind.i64.min = -9223372036854775808 := by decide
  have e2 : IntKind.i64.max = 9223372036854775807 := by decide
  simp [Lit.wf, e1, e2] at h
  omega
theorem wf_u8 {n : Int} (h : (Lit.int .u8 n).wf = true) : 0 ≤ n ∧ n < 256 := by
  have e1 : IntKind.u8.min = 0 := by decide
  have e2 : IntKind.u8.max = 255 := by decide
  simp [Lit.wf, e1, e2] at h
  omega

structure TwoWr (w0 : World) (ba bb : Nat) (w : World) (sa sb : Value) (la lb : List Bool) : Prop where
  wa : Wr w0.heap.size w ba sa la
  wb : Wr w0.heap.size w bb sb lb
  na : sa.ownBlock ≠ some bb
  nb : sb.ownBlock ≠ some ba
  ab : ∀ g, sa.ownBlock = some g → sb.ownBlock ≠ some g
  ne : ba ≠ bb
  oa : w0.heap.size ≤ ba
  ob : w0.heap.size ≤ bb
  only : Only [] w0 w
theorem TwoWr.swap {w0 : World} {ba bb : Nat} {w : World} {sa sb : Value} {la lb : List Bool} (h : TwoWr w0 ba bb w sa sb la lb) : TwoWr w0 bb ba w sb sa lb la :=
  ⟨h.wb, h.wa, h.nb, h.na, fun g hg e => h.ab g e hg, fun e => h.ne e.symm, h.ob, h.oa, h.only⟩
theorem TwoWr.keep {w0 : World} {ba bb : Nat} {w w' : World} {sa sb : Value} {la lb : List Bool} (h : TwoWr w0 ba bb w sa sb la lb) (o : Only [] w w') : TwoWr w0 ba bb w' sa sb la lb :=
  ⟨h.wa.only o (by simp) (by simp), h.wb.only o (by simp) (by simp), h.na, h.nb, h.ab, h.ne, h.oa, h.ob, h.only.trans o⟩
theorem TwoWr.put {w0 : World} {ba bb : Nat} {w w' : World} {sa sa' sb : Value} {la la' lb : List Bool} (h : TwoWr w0 ba bb w sa sb la lb) (k : Wr w0.heap.size w' ba sa' la') (m : Moved ba w w' sa sa') : TwoWr w0 ba bb w' sa' sb la' lb := by
  have lb := h.wb.two.lt
  refine ⟨k, ?_, m.ne lb h.na, h.nb, fun g hg e => ?_, h.ne, h.oa, h.ob, m.own h.only h.oa h.wa.from⟩
  · refine h.wb.only m.only ?_ fun g hg => ?_
    · simp [Option.mem_toList]; exact ⟨fun e => h.ne e.symm, fun e => h.na e⟩
    · simp [Option.mem_toList]; exact ⟨fun e => h.nb (e ▸ hg), fun e => h.ab g e hg⟩
  · rcases m.row g hg with c | c
    · exact h.ab g c e
    · have := h.wb.lt g e; omega
theorem TwoWr.start {w0 w1 w2 : World} (h1 : Wr w0.heap.size w1 w0.heap.size (.slice none 0 0) []) (o1 : Only [] w0 w1) (s1 : w1.heap.size = w0.heap.size + 1) (h2 : Wr w1.heap.size w2 w1.heap.size (.slice none 0 0) []) (o2 : Only [] w1 w2) :
    TwoWr w0 w0.heap.size w1.heap.size w2 (.slice none 0 0) (.slice none 0 0) [] [] :=
  ⟨h1.only o2 (by simp) (by simp), ⟨h2.two, World.ownsRow_nil _ _ _ _, h2.apart⟩, by simp [Value.ownBlock], by simp [Value.ownBlock], by simp [Value.ownBlock], by omega, Nat.le_refl _, by omega, o1.trans o2⟩
end Go.Proofs.Ytaamobhlbahnhaa

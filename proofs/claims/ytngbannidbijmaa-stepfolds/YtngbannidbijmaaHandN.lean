/- What came in of the hand's raw types. -/
import Derived.Test.YtngbannidbijmaaFrameN
import Derived.Test.YtngbannidbijmaaM50
namespace Go.Proofs.Ytngbannidbijmaa
open Go.ChangeShapes Go.WideShapes Go.ChangeAt Go.RowKit Go.Deep
set_option linter.unusedVariables false

theorem wf_i64 {n : Int} (h : (Lit.int .i64 n).wf = true) : I64 n := by
  simp [Lit.wf, IntKind.min, IntKind.max, IntKind.bits, IntKind.signed] at h
  unfold I64; omega
theorem opens_ints : Opens 26 1 rInts := opens_slice Try.underlying26 (by kernel_rfl) (by decide) (opens_int Try.underlying3)
/-- a raw op -/
theorem three_of {α : Type} {cs : List α} (h : cs.length = 3) : ∃ a b c, cs = [a, b, c] := by
  match cs, h with
  | [a, b, c], _ => exact ⟨a, b, c, rfl⟩
theorem opens_rop : Opens 99 3 rOp := fun {H enc w base n cs x} hl h => by
  obtain ⟨a, b, c, rfl⟩ := three_of hl
  obtain ⟨x0, h0⟩ := open_field Try.underlying99 h (R := rInt .i64) 0 _ rfl (by kernel_rfl) (opens_int Try.underlying3) (by simp)
  obtain ⟨x1, h1⟩ := open_field Try.underlying99 h (R := rInt .i64) 1 _ rfl (by kernel_rfl) (opens_int Try.underlying3) (by simp)
  obtain ⟨x2, h2⟩ := open_field Try.underlying99 h (R := rInt .i64) 2 _ rfl (by kernel_rfl) (opens_int Try.underlying3) (by simp)
  have e0 := h0.1
  have e1 := h1.1
  have e2 := h2.1
  simp at e0 e1 e2
  exact ⟨⟨x0, x1, x2⟩, by simp [rOp, Op3.cells, e0, e1, e2]⟩
/-- a raw config -/
def rCfg : Rdr (Rcf × List Op3) := fun B w cs x => ∃ lv, cs = x.1.cells lv ∧ RdG 3 rOp B w lv x.2 ∧ x.1.Ok
theorem eight_of {α : Type} {cs : List α} (h : cs.length = 8) : ∃ a b c d e f g i, cs = [a, b, c, d, e, f, g, i] := by
  match cs, h with
  | [a, b, c, d, e, f, g, i], _ => exact ⟨a, b, c, d, e, f, g, i, rfl⟩
theorem opens_cfg : Opens 53 8 rCfg := fun {H enc w base n cs x} hl h => by
  obtain ⟨v0, v1, v2, v3, v4, v5, v6, v7, rfl⟩ := eight_of hl
  obtain ⟨x0, h0⟩ := open_field Try.underlying53 h (R := rInt .i64) 0 _ rfl (by kernel_rfl) (opens_int Try.underlying3) (by simp)
  obtain ⟨x1, h1⟩ := open_field Try.underlying53 h (R := rInt .i64) 1 _ rfl (by kernel_rfl) (opens_int Try.underlying3) (by simp)
  obtain ⟨x2, h2⟩ := open_field Try.underlying53 h (R := rInt .i64) 2 _ rfl (by kernel_rfl) (opens_int Try.underlying3) (by simp)
  obtain ⟨x3, h3⟩ := open_field Try.underlying53 h (R := rInt .i64) 3 _ rfl (by kernel_rfl) (opens_int Try.underlying3) (by simp)
  obtain ⟨x4, h4⟩ := open_field Try.underlying53 h (R := rInt .i64) 4 _ rfl (by kernel_rfl) (opens_int Try.underlying3) (by simp)
  obtain ⟨x5, h5⟩ := open_field Try.underlying53 h (R := rInt .i64) 5 _ rfl (by kernel_rfl) (opens_int Try.underlying3) (by simp)
  obtain ⟨x6, h6⟩ := open_field Try.underlying53 h (R := rInt .i64) 6 _ rfl (by kernel_rfl) (opens_int Try.underlying3) (by simp)
  obtain ⟨x7, h7⟩ := open_field Try.underlying53 h (R := rSlice 3 rOp) 7 _ rfl (by kernel_rfl) (opens_slice Try.underlying51 (by kernel_rfl) (by decide) opens_rop) (by simp)
  have e0 := h0.1
  have e1 := h1.1
  have e2 := h2.1
  have e3 := h3.1
  have e4 := h4.1
  have e5 := h5.1
  have e6 := h6.1
  obtain ⟨lv, e7, h7⟩ := h7
  simp at e0 e1 e2 e3 e4 e5 e6 e7
  exact ⟨(⟨x0, x1, x2, x3, x4, x5, x6⟩, x7), lv, by simp [Rcf.cells, e0, e1, e2, e3, e4, e5, e6, e7], h7, wf_i64 h0.2, wf_i64 h5.2, wf_i64 h6.2⟩
/-- cells of a row -/
def rCell : Rdr Cl := fun _ _ cs c => cs = c.cells
theorem rCell_st : Stable rCell := ⟨fun h _ _ => h, fun h _ => h⟩
theorem opens_inp : Opens 41 3 (fun _ _ cs (i : Inp) => cs = i.cells) := fun {H enc w base n cs x} hl h => by
  obtain ⟨a, b, c, rfl⟩ := three_of hl
  obtain ⟨x0, h0⟩ := open_field Try.underlying41 h (R := rInt .i64) 0 _ rfl (by kernel_rfl) (opens_int Try.underlying3) (by simp)
  obtain ⟨x1, h1⟩ := open_field Try.underlying41 h (R := rInt .i64) 1 _ rfl (by kernel_rfl) (opens_int Try.underlying3) (by simp)
  obtain ⟨x2, h2⟩ := open_field Try.underlying41 h (R := rInt .i64) 2 _ rfl (by kernel_rfl) (opens_int Try.underlying3) (by simp)
  have e0 := h0.1
  have e1 := h1.1
  have e2 := h2.1
  simp at e0 e1 e2
  exact ⟨⟨x0, x1, x2⟩, by simp [Inp.cells, e0, e1, e2]⟩
theorem four_of {α : Type} {cs : List α} (h : cs.length = 4) : ∃ a b c d, cs = [a, b, c, d] := by
  match cs, h with
  | [a, b, c, d], _ => exact ⟨a, b, c, d, rfl⟩
theorem opens_cell : Opens 43 4 rCell := fun {H enc w base n cs x} hl h => by
  obtain ⟨a, b, c, d, rfl⟩ := four_of hl
  obtain ⟨x0, h0⟩ := open_field Try.underlying43 h (R := rBool) 0 _ rfl (by kernel_rfl) (opens_bool Try.underlying4) (by simp)
  obtain ⟨x1, h1⟩ := open_field Try.underlying43 h (R := fun _ _ cs (i : Inp) => cs = i.cells) 1 _ rfl (by kernel_rfl) opens_inp (by simp)
  have e0 : _ = _ := h0
  have e1 := h1
  simp [Inp.cells] at e0 e1
  exact ⟨⟨x0, x1⟩, by simp [rCell, Cl.cells, e0, e1]⟩
theorem rdc_of {B : Nat} {w : World} {v : Value} {l : List Cl} (h : RdG 4 rCell B w v l) : RdC B w v l := by
  obtain ⟨a, cap, rfl, h1, h2, h⟩ := h
  refine ⟨a, cap, rfl, h1, h2, ?_⟩
  rcases h with h | ⟨b, off, rfl, hB, hb, hc⟩
  · exact Or.inl h
  · refine Or.inr ⟨b, off, rfl, hB, hb, fun i hi j v hj => ?_⟩
    obtain ⟨cs, rfl, _, q⟩ := hc i _ (List.getElem?_eq_getElem hi)
    have hj4 : j < 4 := by have := (List.getElem?_eq_some_iff.1 hj).1; simpa [Cl.cells] using this
    have e : l.getD i ⟨false, ⟨0, 0, 0⟩⟩ = l[i] := by simp [List.getD_eq_getElem?_getD, hi]
    rw [e] at hj
    rw [Nat.add_assoc, q j hj4, hj]
end Go.Proofs.Ytngbannidbijmaa

/- What a law's walk is told of a string, and of a slice of bools, that came in. -/
import Derived.Test.YtakcajmkgdoofaaFrame
import Derived.ChangeMaps5
import Derived.Deep.Grids
namespace Go.Proofs.Ytakcajmkgdoofaa
open Go.ChangeShapes Go.WideShapes Go.ChangeAt Go.RowKit Go.Deep

/-- bools that came in -/
def CameB (w : World) (v : Value) (zs : List Bool) : Prop :=
  ∃ a cap, v = .slice a zs.length cap ∧ zs.length ≤ cap ∧ cap ≤ maxLen ∧
    (zs = [] ∨ ∃ b off, a = some ⟨b, off, none⟩ ∧ b < w.heap.size ∧ ∀ i, i < zs.length → w.cell? ⟨b, off + i, none⟩ = some (.bool (zs.getD i false)))

section
variable {H : Type} {enc : TypeId × Value → H} {w : World} {base : Nat}
theorem came_b {t e : TypeId} {a : Option Addr} {len cap : Nat} {d : DataW H} {p : List MemPlace} (ht : Try.prog.underlying t = some (.slice e)) (he : Try.prog.underlying e = some .bool) (hc : Try.prog.cellsOf e = 1)
    (h : DataW.Trod enc Try.prog w base (fun _ => true) true t (.slice a len cap) d p) : ∃ zs, CameB w (.slice a len cap) zs := by
  obtain ⟨fuel, hf⟩ := h
  rcases open_bools ht he hc hf with ⟨hcs, _⟩ | ⟨x, l, c, Y, hcs, _, hl, hm, _, hcell⟩
  · simp [Value.cells] at hcs
    obtain ⟨rfl, rfl, rfl⟩ := hcs
    exact ⟨[], none, 0, rfl, Nat.le_refl _, Nat.zero_le _, Or.inl rfl⟩
  · simp [Value.cells] at hcs
    obtain ⟨rfl, rfl, rfl⟩ := hcs
    have hlen : ((List.range len).map Y).length = len := by simp
    refine ⟨(List.range len).map Y, some x, cap, by rw [hlen], by rw [hlen]; exact hl, hm, ?_⟩
    by_cases h0 : len = 0
    · left; rw [h0]; rfl
    · right
      obtain ⟨b, off, spot⟩ := x
      have hspot : spot = none := by simpa [Addr.add] using World.cell?_spot (hcell 0 (by omega))
      subst hspot
      have c0 := hcell
      simp only [Go.WideShapes.add_plain] at c0
      refine ⟨b, off, rfl, lt_of_cell (c0 0 (by omega)), fun i hi => ?_⟩
      rw [hlen] at hi
      rw [c0 i (by omega)]
      simp [List.getD_eq_getElem?_getD, hi]
end
end Go.Proofs.Ytakcajmkgdoofaa

/- What a law's walk is told of how long a slice of numbers is that came in: the form's own reach. -/
import Derived.Test.YtcfekpedaiemiaaFrame
import Derived.SizedLaws
namespace Go.Proofs.Ytcfekpedaiemiaa
open Go.ChangeShapes Go.WideShapes Go.ChangeAt Go.RowKit Go.Deep

section
variable {H : Type} {enc : TypeId × Value → H} {w : World} {base : Nat}
theorem came_is {t e : TypeId} {k : IntKind} {a : Option Addr} {len cap : Nat} {d : DataW H} {p : List MemPlace} (ht : Try.prog.underlying t = some (.slice e)) (he : Try.prog.underlying e = some (.int k)) (hc : Try.prog.cellsOf e = 1)
    (h : DataW.Trod enc Try.prog w base (fun _ => true) true t (.slice a len cap) d p) : ∃ zs, CameI k w (.slice a len cap) zs ∧ (zs = [] ∨ ∃ es sp, d = .slice es sp ∧ zs.length ≤ es.length + sp.length) := by
  have h0 := h
  obtain ⟨zs, hz⟩ := came_i ht he hc h0
  refine ⟨zs, hz, ?_⟩
  have hlen : zs.length = len := by obtain ⟨a', cap', e, _⟩ := hz; injection e with e1 e2 e3; exact e2.symm
  obtain ⟨fuel, hf⟩ := h
  rcases open_ints ht he hc hf with ⟨hcs, _⟩ | ⟨x, l, c, ys, hcs, _, hl, hm, hy, hx, _, _⟩
  · simp [Value.cells] at hcs
    left
    exact List.length_eq_zero_iff.1 (by omega)
  · simp [Value.cells] at hcs
    obtain ⟨_, rfl, rfl⟩ := hcs
    simp only [if_true] at hy
    injection hx with hx1 hx2
    refine Or.inr ⟨_, _, hx1, ?_⟩
    simp [lits]
    omega
end
end Go.Proofs.Ytcfekpedaiemiaa

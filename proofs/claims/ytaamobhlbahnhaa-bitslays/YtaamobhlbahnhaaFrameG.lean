/- What a law's walk is told of a slice of structs that came in: of each one its cells, of which E holds. -/
import Derived.Test.YtaamobhlbahnhaaFrame
import Derived.Deep.Strs
namespace Go.Proofs.Ytaamobhlbahnhaa
open Go.ChangeShapes Go.WideShapes Go.ChangeAt Go.RowKit Go.Deep

/-- n structs of c cells each that came in; F i: the cells of the i-th -/
def CameG (c : Nat) (E : List Value → Prop) (w : World) (v : Value) (n : Nat) (F : Nat → List Value) : Prop :=
  ∃ a cap, v = .slice a n cap ∧ n ≤ cap ∧ cap ≤ maxLen ∧
    (n = 0 ∨ ∃ b off, a = some ⟨b, off, none⟩ ∧ b < w.heap.size ∧ ∀ i, i < n → E (F i) ∧ (F i).length = c ∧ ∀ j, j < c → w.cell? ⟨b, off + (i * c + j), none⟩ = (F i)[j]?)

section
variable {H : Type} {enc : TypeId × Value → H} {w : World} {base : Nat}
theorem came_g {t e : TypeId} {c : Nat} {E : List Value → Prop} {a : Option Addr} {len cap : Nat} {d : DataW H} {p : List MemPlace} (ht : Try.prog.underlying t = some (.slice e)) (hc : Try.prog.cellsOf e = c) (hc0 : 0 < c)
    (hel : ∀ n cs x, cs.length = c → DataW.trod enc Try.prog w base (fun _ => true) true n e cs = some x → E cs)
    (h : DataW.Trod enc Try.prog w base (fun _ => true) true t (.slice a len cap) d p) : ∃ F, CameG c E w (.slice a len cap) len F := by
  obtain ⟨fuel, hf⟩ := h
  rcases open_slice ht hf with ⟨hcs, _⟩ | ⟨x, l, cp, m, n, D, Pl, hcs, _, hl, hm, hz, _, hcell⟩
  · simp [Value.cells] at hcs
    obtain ⟨rfl, rfl, rfl⟩ := hcs
    exact ⟨fun _ => [], none, 0, rfl, Nat.le_refl _, Nat.zero_le _, Or.inl rfl⟩
  · simp [Value.cells] at hcs
    obtain ⟨rfl, rfl, rfl⟩ := hcs
    simp only [if_true] at hz
    have key : ∀ i, i < len → ∃ cs : List Value, E cs ∧ cs.length = c ∧ ∀ j, j < c → w.cell? (x.add (i * c + j)) = cs[j]? := fun i hi => by
      obtain ⟨cs', h1, h2⟩ := hcell i (by omega)
      rw [hc] at h1
      obtain ⟨_, hlen, hcl⟩ := World.cells?_some h1
      refine ⟨cs', hel n cs' _ hlen h2, hlen, fun j hj => ?_⟩
      have := hcl j hj
      rw [add_add] at this
      exact this
    obtain ⟨F, hF⟩ := choose_lt (α := List Value) key
    refine ⟨F, some x, cap, rfl, hl, hm, ?_⟩
    by_cases h0 : len = 0
    · exact Or.inl h0
    · right
      obtain ⟨b, off, spot⟩ := x
      have h00 := (hF 0 (by omega)).2.2 0 hc0
      have hl0 := (hF 0 (by omega)).2.1
      rw [List.getElem?_eq_getElem (by omega)] at h00
      have hspot : spot = none := by simpa [Addr.add] using World.cell?_spot h00
      subst hspot
      have c0 := fun i hi => (hF i hi).2.2
      simp only [Go.WideShapes.add_plain] at c0 h00
      exact ⟨b, off, rfl, lt_of_cell h00, fun i hi => ⟨(hF i hi).1, (hF i hi).2.1, fun j hj => c0 i hi j hj⟩⟩
end
end Go.Proofs.Ytaamobhlbahnhaa

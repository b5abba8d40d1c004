/- What a law's walk is told of a slice of structs of three numbers that came in. -/
import Derived.Test.YtfeloiodebjolaaFrame
import Derived.Deep.Strs
namespace Go.Proofs.Ytfeloiodebjolaa
open Go.ChangeShapes Go.WideShapes Go.ChangeAt Go.RowKit Go.Deep

/-- rows of c numbers each that came in: n of them; f i j: the j-th number of the i-th -/
def CameR (c : Nat) (w : World) (v : Value) (n : Nat) (f : Nat → Nat → Int) : Prop :=
  ∃ a cap, v = .slice a n cap ∧ n ≤ cap ∧ cap ≤ maxLen ∧
    (n = 0 ∨ ∃ b off, a = some ⟨b, off, none⟩ ∧ b < w.heap.size ∧ ∀ i j, i < n → j < c → w.cell? ⟨b, off + (i * c + j), none⟩ = some (.int .i64 (f i j)) ∧ (Lit.int .i64 (f i j)).wf = true)

section
variable {H : Type} {enc : TypeId × Value → H} {w : World} {base : Nat}
theorem came_r {t e : TypeId} {c : Nat} {a : Option Addr} {len cap : Nat} {d : DataW H} {p : List MemPlace} (ht : Try.prog.underlying t = some (.slice e)) (hc : Try.prog.cellsOf e = c) (hc0 : 0 < c)
    (hel : ∀ n cs x, DataW.trod enc Try.prog w base (fun _ => true) true n e cs = some x → ∀ j, j < c → ∃ z, cs[j]? = some (.int .i64 z) ∧ (Lit.int .i64 z).wf = true)
    (h : DataW.Trod enc Try.prog w base (fun _ => true) true t (.slice a len cap) d p) : ∃ f, CameR c w (.slice a len cap) len f := by
  obtain ⟨fuel, hf⟩ := h
  rcases open_slice ht hf with ⟨hcs, _⟩ | ⟨x, l, cp, m, n, D, Pl, hcs, _, hl, hm, hz, _, hcell⟩
  · simp [Value.cells] at hcs
    obtain ⟨rfl, rfl, rfl⟩ := hcs
    exact ⟨fun _ _ => 0, none, 0, rfl, Nat.le_refl _, Nat.zero_le _, Or.inl rfl⟩
  · simp [Value.cells] at hcs
    obtain ⟨rfl, rfl, rfl⟩ := hcs
    simp only [if_true] at hz
    have key : ∀ i, i < len → ∃ g : Nat → Int, ∀ j, j < c → w.cell? (x.add (i * c + j)) = some (.int .i64 (g j)) ∧ (Lit.int .i64 (g j)).wf = true := fun i hi => by
      obtain ⟨cs', h1, h2⟩ := hcell i (by omega)
      rw [hc] at h1
      obtain ⟨_, hlen, hcl⟩ := World.cells?_some h1
      have hj : ∀ j, j < c → ∃ z : Int, w.cell? (x.add (i * c + j)) = some (.int .i64 z) ∧ (Lit.int .i64 z).wf = true := fun j hj => by
        obtain ⟨z, hz1, hz2⟩ := hel n cs' _ h2 j hj
        have := hcl j hj
        rw [add_add, hz1] at this
        exact ⟨z, this, hz2⟩
      exact choose_lt hj
    obtain ⟨f, hf⟩ := choose_lt (α := Nat → Int) key
    refine ⟨f, some x, cap, rfl, hl, hm, ?_⟩
    by_cases h0 : len = 0
    · exact Or.inl h0
    · right
      obtain ⟨b, off, spot⟩ := x
      have hspot : spot = none := by simpa [Addr.add] using World.cell?_spot (hf 0 (by omega) 0 hc0).1
      subst hspot
      have c0 := fun i j hi hj => (hf i hi j hj).1
      simp only [Go.WideShapes.add_plain] at c0
      exact ⟨b, off, rfl, lt_of_cell (c0 0 0 (by omega) hc0), fun i j hi hj => ⟨c0 i j hi hj, (hf i hi j hj).2⟩⟩

theorem el_int3 {e : TypeId} {f0 f1 f2 : Field} (he : Try.prog.underlying e = some (.struct #[f0, f1, f2])) (hc : Try.prog.cellsOf e = 3) (o0 : f0.offset = 0) (o1 : f1.offset = 1) (o2 : f2.offset = 2)
    (t0 : Try.prog.underlying f0.type = some (.int .i64)) (t1 : Try.prog.underlying f1.type = some (.int .i64)) (t2 : Try.prog.underlying f2.type = some (.int .i64))
    (c0 : Try.prog.cellsOf f0.type = 1) (c1 : Try.prog.cellsOf f1.type = 1) (c2 : Try.prog.cellsOf f2.type = 1) :
    ∀ n cs x, DataW.trod enc Try.prog w base (fun _ => true) true n e cs = some x → ∀ j, j < 3 → ∃ z, cs[j]? = some (.int .i64 z) ∧ (Lit.int .i64 z).wf = true := by
  intro n cs x h j hj
  obtain ⟨y0, y1, y2, m, _, hl, g0, g1, g2⟩ := trod_struct3 he h
  rw [hc] at hl
  match cs, hl with
  | [v0, v1, v2], _ =>
    simp [o0, o1, o2, c0, c1, c2] at g0 g1 g2
    obtain ⟨z0, k0, _, w0⟩ := DataW.trod_int t0 g0
    obtain ⟨z1, k1, _, w1⟩ := DataW.trod_int t1 g1
    obtain ⟨z2, k2, _, w2⟩ := DataW.trod_int t2 g2
    simp only [List.cons.injEq, and_true] at k0 k1 k2
    match j, hj with
    | 0, _ => exact ⟨z0, by simp [k0], w0⟩
    | 1, _ => exact ⟨z1, by simp [k1], w1⟩
    | 2, _ => exact ⟨z2, by simp [k2], w2⟩
end
end Go.Proofs.Ytfeloiodebjolaa

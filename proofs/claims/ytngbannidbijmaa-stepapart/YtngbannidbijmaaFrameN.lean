/- What a law's walk is told of what came in, however nested. -/
import Derived.Test.YtngbannidbijmaaFrame
import Derived.Test.YtngbannidbijmaaCame
import Derived.Deep.Strs
import Derived.ChangeArms
namespace Go.Proofs.Ytngbannidbijmaa
open Go.ChangeShapes Go.WideShapes Go.ChangeAt Go.RowKit Go.Deep

/-- what came in of the type reads so -/
def Opens (t : TypeId) (c : Nat) {α : Type} (R : Rdr α) : Prop := ∀ {H : Type} {enc : TypeId × Value → H} {w : World} {base n : Nat} {cs : List Value} {x : DataW H × List MemPlace}, cs.length = c → DataW.trod enc Try.prog w base (fun _ => true) true n t cs = some x → ∃ a, R w.heap.size w cs a
theorem opens_int {t : TypeId} {k : IntKind} (ht : Try.prog.underlying t = some (.int k)) : Opens t 1 (rInt k) := fun _ h => by
  obtain ⟨z, h1, _, h3⟩ := DataW.trod_int ht h
  exact ⟨z, h1, h3⟩
theorem opens_bool {t : TypeId} (ht : Try.prog.underlying t = some .bool) : Opens t 1 rBool := fun _ h => by
  obtain ⟨z, h1, _⟩ := DataW.trod_bool ht h
  exact ⟨z, h1⟩
theorem opens_float {t : TypeId} (ht : Try.prog.underlying t = some (.float .f64)) : Opens t 1 rFloat := fun _ h => by
  obtain ⟨b, h1, h2⟩ := trod_float ht h
  exact ⟨b, h1, by simpa [Lit.wf] using h2⟩
theorem opens_slice {α : Type} {t e : TypeId} {c : Nat} {R : Rdr α} (ht : Try.prog.underlying t = some (.slice e)) (hc : Try.prog.cellsOf e = c) (hc0 : 0 < c) (op : Opens e c R) : Opens t 1 (rSlice c R) := fun {H enc w base n cs x} _ hf => by
  rcases open_slice ht hf with ⟨hcs, _⟩ | ⟨a, len, cap, m, n', D, Pl, hcs, _, hl, hm, hz, _, hcell⟩
  · exact ⟨[], _, hcs, RdG.nil⟩
  · simp only [if_true] at hz
    have key : ∀ i, i < len → ∃ y : α × List Value, R w.heap.size w y.2 y.1 ∧ y.2.length = c ∧ ∀ j, j < c → w.cell? (a.add (i * c + j)) = y.2[j]? := fun i hi => by
      obtain ⟨cs', h1, h2⟩ := hcell i (by omega)
      rw [hc] at h1
      obtain ⟨_, hlen, hcl⟩ := World.cells?_some h1
      obtain ⟨y, hy⟩ := op hlen h2
      refine ⟨(y, cs'), hy, hlen, fun j hj => ?_⟩
      have := hcl j hj
      rw [add_add] at this
      exact this
    by_cases h0 : len = 0
    · subst h0
      exact ⟨[], _, hcs, some a, cap, rfl, Nat.zero_le _, by unfold maxLen at hm; omega, Or.inl rfl⟩
    · obtain ⟨y0, _⟩ := key 0 (by omega)
      have : Nonempty (α × List Value) := ⟨y0⟩
      have : Inhabited (α × List Value) := ⟨y0⟩
      obtain ⟨F, hF⟩ := choose_lt (α := α × List Value) key
      have hlen : ((List.range len).map fun i => (F i).1).length = len := by simp
      refine ⟨(List.range len).map fun i => (F i).1, _, hcs, some a, cap, by rw [hlen], by rw [hlen]; exact hl, by unfold maxLen at hm; omega, Or.inr ?_⟩
      obtain ⟨b, off, spot⟩ := a
      have h00 := (hF 0 (by omega)).2.2 0 hc0
      have hl0 := (hF 0 (by omega)).2.1
      rw [List.getElem?_eq_getElem (by omega)] at h00
      have hspot : spot = none := by simpa [Addr.add] using World.cell?_spot h00
      subst hspot
      simp only [Go.WideShapes.add_plain] at h00
      refine ⟨b, off, rfl, lt_of_cell h00, lt_of_cell h00, fun i z hz => ?_⟩
      have hi : i < len := by have := (List.getElem?_eq_some_iff.1 hz).1; rw [hlen] at this; exact this
      rw [List.getElem?_map, List.getElem?_range hi] at hz
      simp at hz
      subst hz
      obtain ⟨k1, k2, k3⟩ := hF i hi
      refine ⟨(F i).2, k1, k2, fun j hj => ?_⟩
      have := k3 j hj
      simpa only [Go.WideShapes.add_plain] using this
/-- a field of a struct -/
theorem open_field {α : Type} {H : Type} {enc : TypeId × Value → H} {w : World} {base n : Nat} {t : TypeId} {cs : List Value} {x : DataW H × List MemPlace} {fs : Array Field} (ht : Try.prog.underlying t = some (.struct fs)) (h : DataW.trod enc Try.prog w base (fun _ => true) true n t cs = some x)
    {c : Nat} {R : Rdr α} (i : Nat) (f : Field) (hf : fs[i]? = some f) (hc : Try.prog.cellsOf f.type = c) (op : Opens f.type c R) (hl : f.offset + c ≤ cs.length) : ∃ a, R w.heap.size w ((cs.drop f.offset).take c) a := by
  obtain ⟨xs, n', _, _, h1, h2, h3⟩ := DataW.trod_struct ht h
  have hi : i < xs.length := by rw [h2]; exact (Array.getElem?_eq_some_iff.1 hf).1
  have := h3 i f hf
  rw [List.getElem?_eq_getElem hi, hc] at this
  exact op (by rw [List.length_take, List.length_drop]; omega) this
/-- .. of a parameter -/
theorem came_sl {α : Type} {t : TypeId} {c : Nat} {R : Rdr α} (op : Opens t 1 (rSlice c R)) {H : Type} {enc : TypeId × Value → H} {w : World} {a : Option Addr} {len cap : Nat} {d : DataW H} {p : List MemPlace}
    (h : DataW.Trod enc Try.prog w 0 (fun _ => true) true t (.slice a len cap) d p) : ∃ xs, RdG c R w.heap.size w (.slice a len cap) xs := by
  obtain ⟨n, h⟩ := h
  obtain ⟨xs, v, hv, k⟩ := op (by rfl) h
  simp [Value.cells] at hv
  subst hv
  exact ⟨xs, k⟩
set_option maxRecDepth 100000 in
theorem came_st {α : Type} {t : TypeId} {c : Nat} {R : Rdr α} {fs : Array Field} (op : Opens t c R) (ht : Try.prog.underlying t = some (.struct fs)) (hc : Try.prog.cellsOf t = c) {H : Type} {enc : TypeId × Value → H} {w : World} {base : Nat} {v : Value} {d : DataW H} {p : List MemPlace}
    (hv : Value.okWide Try.prog w .any base t v) (h : DataW.Trod enc Try.prog w 0 (fun _ => true) true t v d p) : ∃ cs xs, v = .agg cs.toArray ∧ R w.heap.size w cs xs := by
  simp only [Value.okWide, ht] at hv
  obtain ⟨cs, rfl, hs, _⟩ := hv
  obtain ⟨n, h⟩ := h
  obtain ⟨xs, k⟩ := op (cs := cs.toList) (by simp [hs, hc]) h
  exact ⟨cs.toList, xs, by simp, k⟩
end Go.Proofs.Ytngbannidbijmaa

/- Slices of whatever may be read, nested: what of them stays. -/
import Derived.Test.YtngbannidbijmaaGOnly
namespace Go.Proofs.Ytngbannidbijmaa
open Go.RowKit
set_option linter.unusedVariables false

/-- how an element of some cells is read -/
abbrev Rdr (α : Type) := Nat → World → List Value → α → Prop
structure Stable {α : Type} (R : Rdr α) : Prop where
  only : ∀ {B : Nat} {w w' : World} {cs : List Value} {x : α} {S : List Nat}, R B w cs x → Only S w w' → (∀ g ∈ S, B ≤ g) → R B w' cs x
  lower : ∀ {B B' : Nat} {w : World} {cs : List Value} {x : α}, R B w cs x → B ≤ B' → R B' w cs x
/-- a slice of elements of c cells each, that lies below B -/
def RdG {α : Type} (c : Nat) (R : Rdr α) (B : Nat) (w : World) (v : Value) (xs : List α) : Prop :=
  ∃ a cap, v = .slice a xs.length cap ∧ xs.length ≤ cap ∧ cap ≤ 9223372036854775807 ∧
    (xs = [] ∨ ∃ b off, a = some ⟨b, off, none⟩ ∧ b < B ∧ b < w.heap.size ∧ ∀ i x, xs[i]? = some x → ∃ cs, R B w cs x ∧ cs.length = c ∧ ∀ j, j < c → w.cell? ⟨b, off + (i * c + j), none⟩ = cs[j]?)
section
variable {α : Type} {c : Nat} {R : Rdr α} {B B' : Nat} {w w' : World} {v : Value} {xs : List α}
theorem RdG.only (h : RdG c R B w v xs) (st : Stable R) {S : List Nat} (o : Only S w w') (hS : ∀ g ∈ S, B ≤ g) : RdG c R B w' v xs := by
  obtain ⟨a, cap, rfl, h1, h2, h⟩ := h
  refine ⟨a, cap, rfl, h1, h2, ?_⟩
  rcases h with h | ⟨b, off, rfl, hB, hb, hc⟩
  · exact Or.inl h
  · have hn : b ∉ S := fun hm => by have := hS b hm; omega
    refine Or.inr ⟨b, off, rfl, hB, Nat.lt_of_lt_of_le hb o.size, fun i x hx => ?_⟩
    obtain ⟨cs, k1, k2, k3⟩ := hc i x hx
    exact ⟨cs, st.only k1 o hS, k2, fun j hj => (o.cell (p := ⟨b, off + (i * c + j), none⟩) hb hn).trans (k3 j hj)⟩
theorem RdG.lower (h : RdG c R B w v xs) (st : Stable R) (hb : B ≤ B') : RdG c R B' w v xs := by
  obtain ⟨a, cap, rfl, h1, h2, h⟩ := h
  refine ⟨a, cap, rfl, h1, h2, ?_⟩
  rcases h with h | ⟨b, off, rfl, hB, hl, hc⟩
  · exact Or.inl h
  · refine Or.inr ⟨b, off, rfl, Nat.lt_of_lt_of_le hB hb, hl, fun i x hx => ?_⟩
    obtain ⟨cs, k1, k2, k3⟩ := hc i x hx
    exact ⟨cs, st.lower k1 hb, k2, k3⟩
theorem RdG.form (h : RdG c R B w v xs) : ∃ a cap, v = .slice a xs.length cap ∧ xs.length ≤ cap ∧ cap ≤ 9223372036854775807 := by
  obtain ⟨a, cap, h, h1, h2, _⟩ := h
  exact ⟨a, cap, h, h1, h2⟩
theorem RdG.nil : RdG c R B w (.slice none 0 0) ([] : List α) := ⟨none, 0, rfl, Nat.le_refl _, by omega, Or.inl rfl⟩
/-- one of them -/
theorem RdG.get (h : RdG c R B w v xs) {i : Nat} {x : α} (hx : xs[i]? = some x) : ∃ b off cap, v = .slice (some ⟨b, off, none⟩) xs.length cap ∧ b < B ∧ b < w.heap.size ∧ ∃ cs, R B w cs x ∧ cs.length = c ∧ ∀ j, j < c → w.cell? ⟨b, off + (i * c + j), none⟩ = cs[j]? := by
  obtain ⟨a, cap, rfl, _, _, h⟩ := h
  rcases h with rfl | ⟨b, off, rfl, hB, hb, hc⟩
  · simp at hx
  · exact ⟨b, off, cap, rfl, hB, hb, hc i x hx⟩
/-- a part of them: from k on, n -/
theorem RdG.part (h : RdG c R B w v xs) {a : Option Addr} {len cap : Nat} (hv : v = .slice a len cap) {k n : Nat} (hkn : k + n ≤ xs.length) : RdG c R B w (.slice (a.map fun p => ⟨p.block, p.off + k * c, p.spot⟩) n (cap - k)) ((xs.drop k).take n) := by
  obtain ⟨a', cap', rfl, h1, h2, h⟩ := h
  injection hv with e1 e2 e3
  subst e1 e2 e3
  have hl : ((xs.drop k).take n).length = n := by rw [List.length_take, List.length_drop]; omega
  refine ⟨_, cap' - k, by rw [hl], by rw [hl]; omega, by omega, ?_⟩
  rcases h with rfl | ⟨b, off, rfl, hB, hb, hc⟩
  · left; simp
  · right
    refine ⟨b, off + k * c, rfl, hB, hb, fun i x hx => ?_⟩
    have hi : i < n := by have := (List.getElem?_eq_some_iff.1 hx).1; rw [hl] at this; exact this
    rw [List.getElem?_take_of_lt hi, List.getElem?_drop] at hx
    obtain ⟨cs, k1, k2, k3⟩ := hc (k + i) x hx
    refine ⟨cs, k1, k2, fun j hj => ?_⟩
    rw [← k3 j hj, show off + k * c + (i * c + j) = off + ((k + i) * c + j) by rw [Nat.add_mul]; omega]
end
/-- a whole number -/
def rInt (k : IntKind) : Rdr Int := fun _ _ cs n => cs = [.int k n] ∧ (Lit.int k n).wf = true
def rFloat : Rdr Nat := fun _ _ cs n => cs = [.float .f64 n] ∧ n < 2 ^ 64
def rBool : Rdr Bool := fun _ _ cs n => cs = [.bool n]
/-- a slice, as an element -/
def rSlice {α : Type} (c : Nat) (R : Rdr α) : Rdr (List α) := fun B w cs xs => ∃ v, cs = [v] ∧ RdG c R B w v xs
theorem rInt_st (k : IntKind) : Stable (rInt k) := ⟨fun h _ _ => h, fun h _ => h⟩
theorem rFloat_st : Stable rFloat := ⟨fun h _ _ => h, fun h _ => h⟩
theorem rBool_st : Stable rBool := ⟨fun h _ _ => h, fun h _ => h⟩
theorem rSlice_st {α : Type} {c : Nat} {R : Rdr α} (st : Stable R) : Stable (rSlice c R) :=
  ⟨fun ⟨v, h, k⟩ o hS => ⟨v, h, k.only st o hS⟩, fun ⟨v, h, k⟩ hb => ⟨v, h, k.lower st hb⟩⟩
end Go.Proofs.Ytngbannidbijmaa

/- Worlds of which only some blocks have turned. -/
import Derived.WalkKit
import Derived.ProofKit
import Derived.Below
namespace Go.Proofs.Ytnicjbllkdpgcaa
open Go.RowKit

/-- of what was there only the blocks of S may have turned -/
structure Only (S : List Nat) (w w' : World) : Prop where
  os : w'.os = w.os
  tape : w'.tape = w.tape
  output : w'.output = w.output
  size : w.heap.size ≤ w'.heap.size
  block : ∀ k, k < w.heap.size → k ∉ S → w'.heap[k]? = w.heap[k]?

section
variable {S : List Nat} {a b c w w' : World}
theorem Only.refl (S : List Nat) (w : World) : Only S w w := ⟨rfl, rfl, rfl, Nat.le_refl _, fun _ _ _ => rfl⟩
theorem Only.trans (h : Only S a b) (k : Only S b c) : Only S a c :=
  ⟨k.os.trans h.os, k.tape.trans h.tape, k.output.trans h.output, Nat.le_trans h.size k.size, fun i hi hn => (k.block i (Nat.lt_of_lt_of_le hi h.size) hn).trans (h.block i hi hn)⟩
theorem Only.weaken {S' : List Nat} (h : Only S a b) (hs : ∀ k ∈ S, k < a.heap.size → k ∈ S') : Only S' a b :=
  ⟨h.os, h.tape, h.output, h.size, fun k hk hn => h.block k hk fun m => hn (hs k m hk)⟩
/-- two ways one behind the other: what the second turned of its own does not count -/
theorem Only.then {S' : List Nat} (h : Only S a b) (k : Only S' b c) (hs : ∀ x ∈ S', x < a.heap.size → x ∈ S) : Only S a c :=
  ⟨k.os.trans h.os, k.tape.trans h.tape, k.output.trans h.output, Nat.le_trans h.size k.size, fun i hi hn => (k.block i (Nat.lt_of_lt_of_le hi h.size) fun m => hn (hs i m hi)).trans (h.block i hi hn)⟩
theorem Only.drew (h : Only S a w) : Only S a w.drew := ⟨h.os, h.tape, h.output, h.size, h.block⟩
theorem Only.alloc (h : Only S a w) (o : Obj) : Only S a (w.alloc o) :=
  h.trans ⟨rfl, rfl, rfl, by simp, fun k hk _ => Below.heap_alloc _ _ _ hk⟩
theorem Only.setCell (h : Only S a w) {p : Addr} (hp : p.block ∈ S ∨ a.heap.size ≤ p.block) (u : Value) : Only S a (w.setCell p u) :=
  ⟨h.os, h.tape, h.output, by simpa [World.setCell] using h.size, fun k hk hn => by
    rw [Below.heap_setCell _ _ _ _ (fun e => by rcases hp with hp | hp; exact hn (e ▸ hp); omega)]; exact h.block k hk hn⟩
theorem Only.cell (h : Only S w w') {p : Addr} (hp : p.block < w.heap.size) (hn : p.block ∉ S) : w'.cell? p = w.cell? p := World.cell?_of_block (w := w) (h.block p.block hp hn)
theorem Only.frozen (h : Only S w w') {p : Addr} (hp : p.block < w.heap.size) (hn : p.block ∉ S) : w'.frozen? p = w.frozen? p := World.frozen?_of_block (w := w) (h.block p.block hp hn)
theorem Only.below {B : Nat} (h : Only S w w') (hB : B ≤ w.heap.size) (hs : ∀ k ∈ S, B ≤ k) : Below B w w' :=
  ⟨h.os, h.tape, h.output, h.size, fun k hk => h.block k (Nat.lt_of_lt_of_le hk hB) fun m => by have := hs k m; omega⟩

/-- one variable of the call's own: a block with one value in it -/
def Var (w : World) (b : Nat) (v : Value) : Prop := ∃ t, w.heap[b]? = some (.cells #[v] t (0, 0))
theorem Var.cell {v : Value} {k : Nat} (h : Var w k v) : w.cell? ⟨k, 0, none⟩ = some v := by
  obtain ⟨t, h⟩ := h; simp [World.cell?, h]
theorem Var.frozen {v : Value} {k : Nat} (h : Var w k v) : w.frozen? ⟨k, 0, none⟩ = false := by
  obtain ⟨t, h⟩ := h; simp [World.frozen?, h]
theorem Var.lt {v : Value} {k : Nat} (h : Var w k v) : k < w.heap.size := by
  obtain ⟨t, h⟩ := h
  rcases Nat.lt_or_ge k w.heap.size with g | g
  · exact g
  · rw [Array.getElem?_eq_none g] at h; cases h
theorem Var.only {v : Value} {k : Nat} (h : Var w k v) (o : Only S w w') (hn : k ∉ S) : Var w' k v := by
  have := h.lt
  obtain ⟨t, h⟩ := h
  exact ⟨t, by rw [o.block k this hn, h]⟩
theorem Var.alloc {v : Value} {k : Nat} (h : Var w k v) (o : Obj) : Var (w.alloc o) k v := by
  have := h.lt
  obtain ⟨t, h⟩ := h
  exact ⟨t, by rw [Below.heap_alloc _ _ _ this, h]⟩
theorem Var.other {v : Value} {k : Nat} (h : Var w k v) {p : Addr} (hn : k ≠ p.block) (u : Value) : Var (w.setCell p u) k v := by
  obtain ⟨t, h⟩ := h
  exact ⟨t, by rw [Below.heap_setCell _ _ _ _ hn, h]⟩
theorem Var.set {v : Value} {k : Nat} (h : Var w k v) (u : Value) : Var (w.setCell ⟨k, 0, none⟩ u) k u := by
  obtain ⟨t, h⟩ := h
  exact ⟨t, by simp [World.setCell, Array.getElem?_modify, h]⟩
theorem Var.new (w : World) (v : Value) (t : TypeId) : Var (w.alloc (.cells #[v] t)) w.heap.size v :=
  ⟨t, by show (w.heap.push _)[w.heap.size]? = _; simp⟩
theorem Var.drew {v : Value} {k : Nat} (h : Var w k v) : Var w.drew k v := h
theorem Var.newAt {w : World} {M : Nat} (h : w.heap.size = M) (v : Value) (t : TypeId) : Var (w.alloc (.cells #[v] t)) M v := h ▸ Var.new w v t
/-- a variable of two cells -/
def Two (w : World) (b : Nat) (x y : Value) : Prop := ∃ t, w.heap[b]? = some (.cells #[x, y] t (0, 0))
theorem Two.cell0 {x y : Value} {k : Nat} (h : Two w k x y) : w.cell? ⟨k, 0, none⟩ = some x := by
  obtain ⟨t, h⟩ := h; simp [World.cell?, h]
theorem Two.cell1 {x y : Value} {k : Nat} (h : Two w k x y) : w.cell? ⟨k, 1, none⟩ = some y := by
  obtain ⟨t, h⟩ := h; simp [World.cell?, h]
theorem Two.frozen {x y : Value} {k : Nat} (h : Two w k x y) (i : Nat) : w.frozen? ⟨k, i, none⟩ = false := by
  obtain ⟨t, h⟩ := h; simp [World.frozen?, h]
theorem Two.lt {x y : Value} {k : Nat} (h : Two w k x y) : k < w.heap.size := by
  obtain ⟨t, h⟩ := h
  rcases Nat.lt_or_ge k w.heap.size with g | g
  · exact g
  · rw [Array.getElem?_eq_none g] at h; cases h
theorem Two.only {x y : Value} {k : Nat} (h : Two w k x y) (o : Only S w w') (hn : k ∉ S) : Two w' k x y := by
  have := h.lt
  obtain ⟨t, h⟩ := h
  exact ⟨t, by rw [o.block k this hn, h]⟩
theorem Two.alloc {x y : Value} {k : Nat} (h : Two w k x y) (o : Obj) : Two (w.alloc o) k x y := by
  have := h.lt
  obtain ⟨t, h⟩ := h
  exact ⟨t, by rw [Below.heap_alloc _ _ _ this, h]⟩
theorem Two.other {x y : Value} {k : Nat} (h : Two w k x y) {p : Addr} (hn : k ≠ p.block) (u : Value) : Two (w.setCell p u) k x y := by
  obtain ⟨t, h⟩ := h
  exact ⟨t, by rw [Below.heap_setCell _ _ _ _ hn, h]⟩
theorem Two.set0 {x y : Value} {k : Nat} (h : Two w k x y) (u : Value) : Two (w.setCell ⟨k, 0, none⟩ u) k u y := by
  obtain ⟨t, h⟩ := h
  exact ⟨t, by simp [World.setCell, Array.getElem?_modify, h]⟩
theorem Two.set1 {x y : Value} {k : Nat} (h : Two w k x y) (u : Value) : Two (w.setCell ⟨k, 1, none⟩ u) k x u := by
  obtain ⟨t, h⟩ := h
  exact ⟨t, by simp [World.setCell, Array.getElem?_modify, h]⟩
/-- a variable of three cells -/
def Three (w : World) (b : Nat) (x y z : Value) : Prop := ∃ t, w.heap[b]? = some (.cells #[x, y, z] t (0, 0))
theorem Three.cell0 {x y z : Value} {k : Nat} (h : Three w k x y z) : w.cell? ⟨k, 0, none⟩ = some x := by
  obtain ⟨t, h⟩ := h; simp [World.cell?, h]
theorem Three.cell1 {x y z : Value} {k : Nat} (h : Three w k x y z) : w.cell? ⟨k, 1, none⟩ = some y := by
  obtain ⟨t, h⟩ := h; simp [World.cell?, h]
theorem Three.cell2 {x y z : Value} {k : Nat} (h : Three w k x y z) : w.cell? ⟨k, 2, none⟩ = some z := by
  obtain ⟨t, h⟩ := h; simp [World.cell?, h]
theorem Three.lt {x y z : Value} {k : Nat} (h : Three w k x y z) : k < w.heap.size := by
  obtain ⟨t, h⟩ := h
  rcases Nat.lt_or_ge k w.heap.size with g | g
  · exact g
  · rw [Array.getElem?_eq_none g] at h; cases h
theorem Three.only {x y z : Value} {k : Nat} (h : Three w k x y z) (o : Only S w w') (hn : k ∉ S) : Three w' k x y z := by
  have := h.lt
  obtain ⟨t, h⟩ := h
  exact ⟨t, by rw [o.block k this hn, h]⟩
theorem Three.new (w : World) (x y z : Value) (t : TypeId) : Three (w.alloc (.cells #[x, y, z] t)) w.heap.size x y z :=
  ⟨t, by show (w.heap.push _)[w.heap.size]? = _; simp⟩
theorem Two.new (w : World) (x y : Value) (t : TypeId) : Two (w.alloc (.cells #[x, y] t)) w.heap.size x y :=
  ⟨t, by show (w.heap.push _)[w.heap.size]? = _; simp⟩
end
end Go.Proofs.Ytnicjbllkdpgcaa

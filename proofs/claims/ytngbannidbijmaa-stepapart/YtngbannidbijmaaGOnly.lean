/- Worlds of which only some blocks have turned. Rows that the call made, and variables that lead to them: what stays as it was when something else turns. A block of the call's own, whatever its cells. -/
import Derived.WalkKit
import Derived.ProofKit
import Derived.Below
import Derived.Deep.AppendLies
import Derived.Deep.Quiet
import Derived.Test.YtngbannidbijmaaRows
import Derived.Deep.WholeRow
import Derived.Laws.CopyRow
namespace Go.Proofs.Ytngbannidbijmaa
open Go.RowKit

/-- of what was there only the blocks of S may have turned -/
structure Only (S : List Nat) (w w' : World) : Prop where
  os : w'.os = w.os
  tape : w'.tape = w.tape
  output : w'.output = w.output
  size : w.heap.size ≤ w'.heap.size
  block : ∀ k, k < w.heap.size → k ∉ S → w'.heap[k]? = w.heap[k]?

section
variable {S : List Nat} {a b c w w' : World}
theorem Only.refl (S : List Nat) (w : World) : Only S w w := ⟨rfl, rfl, rfl, Nat.le_refl _, fun _ _ _ => rfl⟩
theorem Only.trans (h : Only S a b) (k : Only S b c) : Only S a c :=
  ⟨k.os.trans h.os, k.tape.trans h.tape, k.output.trans h.output, Nat.le_trans h.size k.size, fun i hi hn => (k.block i (Nat.lt_of_lt_of_le hi h.size) hn).trans (h.block i hi hn)⟩
theorem Only.weaken {S' : List Nat} (h : Only S a b) (hs : ∀ k ∈ S, k < a.heap.size → k ∈ S') : Only S' a b :=
  ⟨h.os, h.tape, h.output, h.size, fun k hk hn => h.block k hk fun m => hn (hs k m hk)⟩
/-- two ways one behind the other: what the second turned of its own does not count -/
theorem Only.then {S' : List Nat} (h : Only S a b) (k : Only S' b c) (hs : ∀ x ∈ S', x < a.heap.size → x ∈ S) : Only S a c :=
  ⟨k.os.trans h.os, k.tape.trans h.tape, k.output.trans h.output, Nat.le_trans h.size k.size, fun i hi hn => (k.block i (Nat.lt_of_lt_of_le hi h.size) fun m => hn (hs i m hi)).trans (h.block i hi hn)⟩
theorem Only.drew (h : Only S a w) : Only S a w.drew := ⟨h.os, h.tape, h.output, h.size, h.block⟩
theorem Only.alloc (h : Only S a w) (o : Obj) : Only S a (w.alloc o) :=
  h.trans ⟨rfl, rfl, rfl, by simp, fun k hk _ => Below.heap_alloc _ _ _ hk⟩
theorem Only.setCell (h : Only S a w) {p : Addr} (hp : p.block ∈ S ∨ a.heap.size ≤ p.block) (u : Value) : Only S a (w.setCell p u) :=
  ⟨h.os, h.tape, h.output, by simpa [World.setCell] using h.size, fun k hk hn => by
    rw [Below.heap_setCell _ _ _ _ (fun e => by rcases hp with hp | hp; exact hn (e ▸ hp); omega)]; exact h.block k hk hn⟩
theorem Only.cell (h : Only S w w') {p : Addr} (hp : p.block < w.heap.size) (hn : p.block ∉ S) : w'.cell? p = w.cell? p := World.cell?_of_block (w := w) (h.block p.block hp hn)
theorem Only.frozen (h : Only S w w') {p : Addr} (hp : p.block < w.heap.size) (hn : p.block ∉ S) : w'.frozen? p = w.frozen? p := World.frozen?_of_block (w := w) (h.block p.block hp hn)
theorem Only.below {B : Nat} (h : Only S w w') (hB : B ≤ w.heap.size) (hs : ∀ k ∈ S, B ≤ k) : Below B w w' :=
  ⟨h.os, h.tape, h.output, h.size, fun k hk => h.block k (Nat.lt_of_lt_of_le hk hB) fun m => by have := hs k m; omega⟩

/-- one variable of the call's own: a block with one value in it -/
def Var (w : World) (b : Nat) (v : Value) : Prop := ∃ t, w.heap[b]? = some (.cells #[v] t (0, 0))
theorem Var.cell {v : Value} {k : Nat} (h : Var w k v) : w.cell? ⟨k, 0, none⟩ = some v := by
  obtain ⟨t, h⟩ := h; simp [World.cell?, h]
theorem Var.frozen {v : Value} {k : Nat} (h : Var w k v) : w.frozen? ⟨k, 0, none⟩ = false := by
  obtain ⟨t, h⟩ := h; simp [World.frozen?, h]
theorem Var.lt {v : Value} {k : Nat} (h : Var w k v) : k < w.heap.size := by
  obtain ⟨t, h⟩ := h
  rcases Nat.lt_or_ge k w.heap.size with g | g
  · exact g
  · rw [Array.getElem?_eq_none g] at h; cases h
theorem Var.only {v : Value} {k : Nat} (h : Var w k v) (o : Only S w w') (hn : k ∉ S) : Var w' k v := by
  have := h.lt
  obtain ⟨t, h⟩ := h
  exact ⟨t, by rw [o.block k this hn, h]⟩
theorem Var.alloc {v : Value} {k : Nat} (h : Var w k v) (o : Obj) : Var (w.alloc o) k v := by
  have := h.lt
  obtain ⟨t, h⟩ := h
  exact ⟨t, by rw [Below.heap_alloc _ _ _ this, h]⟩
theorem Var.other {v : Value} {k : Nat} (h : Var w k v) {p : Addr} (hn : k ≠ p.block) (u : Value) : Var (w.setCell p u) k v := by
  obtain ⟨t, h⟩ := h
  exact ⟨t, by rw [Below.heap_setCell _ _ _ _ hn, h]⟩
theorem Var.set {v : Value} {k : Nat} (h : Var w k v) (u : Value) : Var (w.setCell ⟨k, 0, none⟩ u) k u := by
  obtain ⟨t, h⟩ := h
  exact ⟨t, by simp [World.setCell, Array.getElem?_modify, h]⟩
theorem Var.new (w : World) (v : Value) (t : TypeId) : Var (w.alloc (.cells #[v] t)) w.heap.size v :=
  ⟨t, by show (w.heap.push _)[w.heap.size]? = _; simp⟩
theorem Var.drew {v : Value} {k : Nat} (h : Var w k v) : Var w.drew k v := h
theorem Var.newAt {w : World} {M : Nat} (h : w.heap.size = M) (v : Value) (t : TypeId) : Var (w.alloc (.cells #[v] t)) M v := h ▸ Var.new w v t
/-- a variable of two cells -/
def Two (w : World) (b : Nat) (x y : Value) : Prop := ∃ t, w.heap[b]? = some (.cells #[x, y] t (0, 0))
theorem Two.cell0 {x y : Value} {k : Nat} (h : Two w k x y) : w.cell? ⟨k, 0, none⟩ = some x := by
  obtain ⟨t, h⟩ := h; simp [World.cell?, h]
theorem Two.cell1 {x y : Value} {k : Nat} (h : Two w k x y) : w.cell? ⟨k, 1, none⟩ = some y := by
  obtain ⟨t, h⟩ := h; simp [World.cell?, h]
theorem Two.frozen {x y : Value} {k : Nat} (h : Two w k x y) (i : Nat) : w.frozen? ⟨k, i, none⟩ = false := by
  obtain ⟨t, h⟩ := h; simp [World.frozen?, h]
theorem Two.lt {x y : Value} {k : Nat} (h : Two w k x y) : k < w.heap.size := by
  obtain ⟨t, h⟩ := h
  rcases Nat.lt_or_ge k w.heap.size with g | g
  · exact g
  · rw [Array.getElem?_eq_none g] at h; cases h
theorem Two.only {x y : Value} {k : Nat} (h : Two w k x y) (o : Only S w w') (hn : k ∉ S) : Two w' k x y := by
  have := h.lt
  obtain ⟨t, h⟩ := h
  exact ⟨t, by rw [o.block k this hn, h]⟩
theorem Two.alloc {x y : Value} {k : Nat} (h : Two w k x y) (o : Obj) : Two (w.alloc o) k x y := by
  have := h.lt
  obtain ⟨t, h⟩ := h
  exact ⟨t, by rw [Below.heap_alloc _ _ _ this, h]⟩
theorem Two.other {x y : Value} {k : Nat} (h : Two w k x y) {p : Addr} (hn : k ≠ p.block) (u : Value) : Two (w.setCell p u) k x y := by
  obtain ⟨t, h⟩ := h
  exact ⟨t, by rw [Below.heap_setCell _ _ _ _ hn, h]⟩
theorem Two.set0 {x y : Value} {k : Nat} (h : Two w k x y) (u : Value) : Two (w.setCell ⟨k, 0, none⟩ u) k u y := by
  obtain ⟨t, h⟩ := h
  exact ⟨t, by simp [World.setCell, Array.getElem?_modify, h]⟩
theorem Two.set1 {x y : Value} {k : Nat} (h : Two w k x y) (u : Value) : Two (w.setCell ⟨k, 1, none⟩ u) k x u := by
  obtain ⟨t, h⟩ := h
  exact ⟨t, by simp [World.setCell, Array.getElem?_modify, h]⟩
/-- a variable of three cells -/
def Three (w : World) (b : Nat) (x y z : Value) : Prop := ∃ t, w.heap[b]? = some (.cells #[x, y, z] t (0, 0))
theorem Three.cell0 {x y z : Value} {k : Nat} (h : Three w k x y z) : w.cell? ⟨k, 0, none⟩ = some x := by
  obtain ⟨t, h⟩ := h; simp [World.cell?, h]
theorem Three.cell1 {x y z : Value} {k : Nat} (h : Three w k x y z) : w.cell? ⟨k, 1, none⟩ = some y := by
  obtain ⟨t, h⟩ := h; simp [World.cell?, h]
theorem Three.cell2 {x y z : Value} {k : Nat} (h : Three w k x y z) : w.cell? ⟨k, 2, none⟩ = some z := by
  obtain ⟨t, h⟩ := h; simp [World.cell?, h]
theorem Three.lt {x y z : Value} {k : Nat} (h : Three w k x y z) : k < w.heap.size := by
  obtain ⟨t, h⟩ := h
  rcases Nat.lt_or_ge k w.heap.size with g | g
  · exact g
  · rw [Array.getElem?_eq_none g] at h; cases h
theorem Three.only {x y z : Value} {k : Nat} (h : Three w k x y z) (o : Only S w w') (hn : k ∉ S) : Three w' k x y z := by
  have := h.lt
  obtain ⟨t, h⟩ := h
  exact ⟨t, by rw [o.block k this hn, h]⟩
theorem Three.new (w : World) (x y z : Value) (t : TypeId) : Three (w.alloc (.cells #[x, y, z] t)) w.heap.size x y z :=
  ⟨t, by show (w.heap.push _)[w.heap.size]? = _; simp⟩
theorem Two.new (w : World) (x y : Value) (t : TypeId) : Two (w.alloc (.cells #[x, y] t)) w.heap.size x y :=
  ⟨t, by show (w.heap.push _)[w.heap.size]? = _; simp⟩
end
end Go.Proofs.Ytngbannidbijmaa
namespace Go.Proofs.Ytngbannidbijmaa
open Go.RowKit

theorem own_only {B : Nat} {e : TypeId} {z : Nat} {w w' : World} {v : Value} {n : Nat} {xs : List Value} {S : List Nat} (h : w.ownsRow B e z v n xs) (o : Only S w w') (hS : ∀ g, v.ownBlock = some g → g ∉ S) : w'.ownsRow B e z v n xs := by
  obtain ⟨h1, h2⟩ := h
  refine ⟨h1, ?_⟩
  rcases h2 with h2 | ⟨g, cap, cur, hv, hg, hh, r⟩
  · exact Or.inl h2
  · refine Or.inr ⟨g, cap, cur, hv, hg, ?_, r⟩
    have hl : g < w.heap.size := by
      rcases Nat.lt_or_ge g w.heap.size with k | k
      · exact k
      · rw [Array.getElem?_eq_none k] at hh; cases hh
    rw [o.block g hl (hS g (by rw [hv]; rfl))]; exact hh
theorem grown_only {w w' : World} {row : Option Nat} (h : w.grownBy w' row) : Only row.toList w w' :=
  ⟨h.os, h.tape, h.output, h.size, fun k hk hn => h.block k hk fun e => hn (by rw [← e]; simp)⟩
theorem only_drewN (w : World) (n : Nat) : Only [] w (w.drewN n) := ⟨rfl, rfl, rfl, Nat.le_refl _, fun _ _ _ => rfl⟩
theorem only_drew (w : World) : Only [] w w.drew := ⟨rfl, rfl, rfl, Nat.le_refl _, fun _ _ _ => rfl⟩

/-- what may have turned between two moments: the block b, the row to which it leads; the row may lie anew -/
structure Moved (b : Nat) (w w' : World) (fv fv' : Value) : Prop where
  only : Only (b :: fv.ownBlock.toList) w w'
  row : ∀ g, fv'.ownBlock = some g → fv.ownBlock = some g ∨ w.heap.size ≤ g
theorem Moved.refl (b : Nat) (w : World) (fv : Value) : Moved b w w fv fv := ⟨Only.refl _ _, fun _ h => Or.inl h⟩
theorem Moved.trans {b : Nat} {w1 w2 w3 : World} {v1 v2 v3 : Value} (h : Moved b w1 w2 v1 v2) (k : Moved b w2 w3 v2 v3) : Moved b w1 w3 v1 v3 := by
  refine ⟨h.only.then k.only fun x hx hl => ?_, fun g hg => ?_⟩
  · rcases List.mem_cons.1 hx with rfl | hx
    · simp
    · have hx' : v2.ownBlock = some x := by simpa [Option.mem_toList] using hx
      rcases h.row x hx' with e | e
      · rw [e]; simp
      · omega
  · rcases k.row g hg with e | e
    · exact h.row g e
    · exact Or.inr (Nat.le_trans h.only.size e)
/-- a step in which nothing of the two has turned but the block itself, and new memory -/
theorem Moved.of_only {b : Nat} {w w' : World} {fv : Value} (o : Only [b] w w') : Moved b w w' fv fv := ⟨o.weaken (by simp), fun _ h => Or.inl h⟩
theorem Moved.more {b : Nat} {w w1 w2 : World} {fv fv' : Value} {S : List Nat} (h : Moved b w w1 fv fv') (o : Only S w1 w2) (hS : ∀ k ∈ S, w.heap.size ≤ k) : Moved b w w2 fv fv' :=
  ⟨h.only.then o fun x hx hl => by have := hS x hx; omega, h.row⟩
theorem Moved.ne {b x : Nat} {w w' : World} {fv fv' : Value} (h : Moved b w w' fv fv') (hx : x < w.heap.size) (hn : fv.ownBlock ≠ some x) : fv'.ownBlock ≠ some x := fun e => by
  rcases h.row x e with k | k
  · exact hn k
  · omega
/-- what turned is of the call's own: nothing more has turned of what was there at first -/
theorem Moved.own {S : List Nat} {b : Nat} {w0 w1 w2 : World} {v v' : Value} (m : Moved b w1 w2 v v') (o : Only S w0 w1) (hb : w0.heap.size ≤ b) (hv : ∀ g, v.ownBlock = some g → w0.heap.size ≤ g) : Only S w0 w2 :=
  o.then m.only fun x hx hl => by
    rcases List.mem_cons.1 hx with rfl | hx
    · omega
    · have := hv x (by simpa [Option.mem_toList] using hx); omega
end Go.Proofs.Ytngbannidbijmaa
namespace Go.Proofs.Ytngbannidbijmaa
open Go.RowKit
/-- a block with these cells -/
def Blk (w : World) (b : Nat) (cs : List Value) : Prop := ∃ t, w.heap[b]? = some (.cells cs.toArray t (0, 0))
section
variable {S : List Nat} {w w' : World} {b : Nat} {cs : List Value}
theorem Blk.cell (h : Blk w b cs) (i : Nat) : w.cell? ⟨b, i, none⟩ = cs[i]? := by
  obtain ⟨t, h⟩ := h; simp [World.cell?, h]
theorem Blk.frozen (h : Blk w b cs) (i : Nat) : w.frozen? ⟨b, i, none⟩ = false := by
  obtain ⟨t, h⟩ := h; simp [World.frozen?, h]
theorem Blk.lt (h : Blk w b cs) : b < w.heap.size := by
  obtain ⟨t, h⟩ := h
  rcases Nat.lt_or_ge b w.heap.size with g | g
  · exact g
  · rw [Array.getElem?_eq_none g] at h; cases h
theorem Blk.only (h : Blk w b cs) (o : Only S w w') (hn : b ∉ S) : Blk w' b cs := by
  have := h.lt
  obtain ⟨t, h⟩ := h
  exact ⟨t, by rw [o.block b this hn, h]⟩
theorem Blk.set (h : Blk w b cs) (i : Nat) (u : Value) : Blk (w.setCell ⟨b, i, none⟩ u) b (cs.set i u) := by
  obtain ⟨t, h⟩ := h
  exact ⟨t, by simp [World.setCell, Array.getElem?_modify, h]⟩
theorem Blk.new (w : World) (c : Array Value) (t : TypeId) : Blk (w.alloc (.cells c t)) w.heap.size c.toList :=
  ⟨t, by show (w.heap.push _)[w.heap.size]? = _; simp⟩
/-- all its cells as one value -/
theorem Blk.load (h : Blk w b cs) (ty : TypeId) (n : Nat) (e : TypeId) (hu : Try.prog.underlying ty = some (.array n e)) (hi : (Try.prog.info? ty).map (·.size) = some cs.length) :
    (Instr.loadAt ty (.pointer (some ⟨b, 0, none⟩))).run Try.prog w = .ok (.agg cs.toArray) w := by
  obtain ⟨t, h⟩ := h
  simp only [Instr.loadAt, Instr.sureAddr, Sem.run_bind, Sem.run_pure, Result.andThen]
  exact run_loadVar_row w b t ty cs.toArray (0, 0) _ h hu rfl (by simpa using hi)
/-- some of its cells, at once -/
theorem Blk.store {ty : TypeId} {vs : List Value} (o : Nat) (h : Blk w b cs) (hi : (Try.prog.info? ty).map (·.size) = some vs.length) (hl : o + vs.length ≤ cs.length) (h1 : ∀ v ∈ vs, v.oneCell' = true) :
    ∃ w', (Instr.storeAt ty (.pointer (some ⟨b, o, none⟩)) (.agg vs.toArray)).run Try.prog w = .ok () w' ∧ Blk w' b (cs.take o ++ vs ++ cs.drop (o + vs.length)) ∧ Only [b] w w' ∧ w'.heap.size = w.heap.size := by
  obtain ⟨t, h⟩ := h
  have hs := run_storeCells_at (P := Try.prog) b o t vs 0 cs.toArray w h (by simpa using hl) h1
  refine ⟨w.setRow b (cs.take o ++ vs ++ cs.drop (o + vs.length)).toArray, ?_, ⟨t, setRow_heap w b _ _ t (0, 0) h⟩, ⟨rfl, rfl, rfl, ?_, ?_⟩, ?_⟩
  · simp only [Instr.storeAt, Instr.sureAddr, Sem.run_bind, Sem.run_pure, Result.andThen]
    cases hq : Try.prog.info? ty with
    | none => simp [hq] at hi
    | some i =>
      have hz : vs.length = i.size := by simp [hq] at hi; omega
      simpa [storeVar, sizeOf, typeInfo, hq, Value.cells, hz] using hs
  · simp [World.setRow]
  · intro k hk hn
    exact setRow_other w b k _ (by simpa using hn)
  · simp [World.setRow]
end
/-- one operation, its answer known -/
theorem op_val {w w' : World} {ops : Array Oper} {rest : List Oper} {o : Oper} {act : Act} {Q : Exit → Act → World → Prop} (hgd : o.guard = none) (v : Value) (h0 : (execOp act.eval o).run Try.prog w = .ok (.value v) w') (h : wpList Try.prog ops Q rest (act.put o.dst v) w') : wpList Try.prog ops Q (o :: rest) act w := by
  refine wpList_plain hgd fun K hK => ?_
  unfold Oper.wp
  rw [h0]
  exact hK _ _ h
/-- all of a block, read at once -/
theorem op_load {w : World} {b : Nat} {cs : List Value} {ops : Array Oper} {rest : List Oper} {o : Oper} {act : Act} {Q : Exit → Act → World → Prop} (hgd : o.guard = none) (ty : TypeId) (x : Operand) (ho : o.op = .load ty x) (hx : act.eval x = .pointer (some ⟨b, 0, none⟩)) (hB : Blk w b cs)
    (n : Nat) (e : TypeId) (hu : Try.prog.underlying ty = some (.array n e)) (hi : (Try.prog.info? ty).map (·.size) = some cs.length) (h : wpList Try.prog ops Q rest (act.put o.dst (.agg cs.toArray)) w) : wpList Try.prog ops Q (o :: rest) act w := by
  refine op_val hgd (.agg cs.toArray) ?_ h
  simp only [execOp, ho, hx, Sem.run_bind, hB.load ty n e hu hi, Result.andThen_ok, Sem.run_pure]
/-- some cells of a block, written at once -/
theorem op_store {w : World} {b : Nat} {cs vs : List Value} {ops : Array Oper} {rest : List Oper} {o : Oper} {act : Act} {Q : Exit → Act → World → Prop} (hgd : o.guard = none) (ty : TypeId) (x y : Operand) (ho : o.op = .store ty x y) (k : Nat) (hx : act.eval x = .pointer (some ⟨b, k, none⟩)) (hy : act.eval y = .agg vs.toArray) (hB : Blk w b cs)
    (hi : (Try.prog.info? ty).map (·.size) = some vs.length) (hl : k + vs.length ≤ cs.length) (h1 : ∀ v ∈ vs, v.oneCell' = true)
    (h : ∀ w', Blk w' b (cs.take k ++ vs ++ cs.drop (k + vs.length)) → Only [b] w w' → w'.heap.size = w.heap.size → wpList Try.prog ops Q rest (act.put o.dst undef) w') : wpList Try.prog ops Q (o :: rest) act w := by
  obtain ⟨w', hs, k1, k2, k3⟩ := hB.store (ty := ty) k hi hl h1
  refine wpList_plain hgd fun K hK => ?_
  unfold Oper.wp
  simp only [execOp, ho, hx, hy, Sem.run_bind, hs, Result.andThen_ok, Sem.run_pure]
  exact hK _ _ (h w' k1 k2 k3)
end Go.Proofs.Ytngbannidbijmaa

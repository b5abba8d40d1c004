/- TrapPlays: what the acts say, and what lies in memory while they are played. -/
import Derived.Test.YtakcajmkgdoofaaTrapK
import Derived.Test.YtakcajmkgdoofaaPick
import Derived.Test.YtakcajmkgdoofaaFrame3
import Derived.Deep.AppendLies
import Derived.Deep.Quiet
namespace Go.Proofs.Ytakcajmkgdoofaa.trapPlays
open Go.RowKit

/-! ### the acts: X i 0 what, X i 1 the code, X i 2 the place -/
def kind (X : Nat → Nat → Int) (i : Nat) : Int := X i 0 % 8
theorem kind_bd (X : Nat → Nat → Int) (i : Nat) : 0 ≤ kind X i ∧ kind X i < 8 := by unfold kind; omega
/-- it throws -/
def thr (X : Nat → Nat → Int) (i : Nat) : Prop := kind X i = 2 ∨ (3 ≤ kind X i ∧ kind X i < 5 ∧ (X i 1).tmod 2 ≠ 0)
instance (X : Nat → Nat → Int) (i : Nat) : Decidable (thr X i) := by unfold thr; infer_instance
def step (X : Nat → Nat → Int) (i : Nat) (s : Nat × Nat × List (Int × Int)) : Nat × Nat × List (Int × Int) :=
  if kind X i = 0 then (min 6 (s.1 + 1), s.2.1, s.2.2)
  else if kind X i = 1 then (s.1 - 1, s.2.1, s.2.2)
  else if thr X i then (s.1 - 1, s.2.1, s.2.2 ++ [(X i 1, X i 2)])
  else if 5 ≤ kind X i then (s.1, s.2.1 + 1, s.2.2) else s
def ref (X : Nat → Nat → Int) : Nat → Nat × Nat × List (Int × Int)
  | 0 => (0, 0, [])
  | i + 1 => step X i (ref X i)
def dep (X : Nat → Nat → Int) (i : Nat) : Nat := (ref X i).1
def cnt (X : Nat → Nat → Int) (i : Nat) : Nat := (ref X i).2.1
def flt (X : Nat → Nat → Int) (i : Nat) : List (Int × Int) := (ref X i).2.2
section
variable (X : Nat → Nat → Int) (i : Nat)
theorem bounds : dep X i ≤ 6 ∧ cnt X i ≤ i ∧ (flt X i).length ≤ i := by
  induction i with
  | zero => simp [dep, cnt, flt, ref]
  | succ i ih =>
    unfold dep cnt flt at *
    rw [ref, step]
    split
    · exact ⟨by simp only; omega, by simp only; omega, by simp only; omega⟩
    · split
      · exact ⟨by simp only; omega, by simp only; omega, by simp only; omega⟩
      · split
        · exact ⟨by simp only; omega, by simp only; omega, by simp only [List.length_append, List.length_singleton]; omega⟩
        · split
          · exact ⟨by simp only; omega, by simp only; omega, by simp only; omega⟩
          · exact ⟨by omega, by omega, by omega⟩
theorem at_0 (h : kind X i = 0) : dep X (i + 1) = min 6 (dep X i + 1) ∧ cnt X (i + 1) = cnt X i ∧ flt X (i + 1) = flt X i := by
  unfold dep cnt flt; rw [ref, step, if_pos h]; exact ⟨rfl, rfl, rfl⟩
theorem at_1 (h : kind X i = 1) : dep X (i + 1) = dep X i - 1 ∧ cnt X (i + 1) = cnt X i ∧ flt X (i + 1) = flt X i := by
  unfold dep cnt flt; rw [ref, step, if_neg (by omega), if_pos h]; exact ⟨rfl, rfl, rfl⟩
theorem at_t (h : thr X i) : dep X (i + 1) = dep X i - 1 ∧ cnt X (i + 1) = cnt X i ∧ flt X (i + 1) = flt X i ++ [(X i 1, X i 2)] := by
  have h0 : ¬ kind X i = 0 := fun e => by rcases h with h | h <;> omega
  have h1 : ¬ kind X i = 1 := fun e => by rcases h with h | h <;> omega
  unfold dep cnt flt; rw [ref, step, if_neg h0, if_neg h1, if_pos h]; exact ⟨rfl, rfl, rfl⟩
theorem at_5 (h : 5 ≤ kind X i) : dep X (i + 1) = dep X i ∧ cnt X (i + 1) = cnt X i + 1 ∧ flt X (i + 1) = flt X i := by
  have ht : ¬ thr X i := fun e => by rcases e with e | e <;> omega
  unfold dep cnt flt; rw [ref, step, if_neg (by omega), if_neg (by omega), if_neg ht, if_pos h]; exact ⟨rfl, rfl, rfl⟩
theorem at_n (h1 : 3 ≤ kind X i) (h2 : kind X i < 5) (h3 : (X i 1).tmod 2 = 0) : dep X (i + 1) = dep X i ∧ cnt X (i + 1) = cnt X i ∧ flt X (i + 1) = flt X i := by
  have ht : ¬ thr X i := fun e => by rcases e with e | e; omega; exact e.2.2 h3
  unfold dep cnt flt; rw [ref, step, if_neg (by omega), if_neg (by omega), if_neg ht, if_neg (by omega)]; exact ⟨rfl, rfl, rfl⟩
end

/-! ### what lies in memory -/
def flat (fs : List (Int × Int)) : List Value := fs.flatMap fun p => [.int .i64 p.1, .int .i64 p.2]
theorem flat_app (fs : List (Int × Int)) (p : Int × Int) : flat (fs ++ [p]) = flat fs ++ [.int .i64 p.1, .int .i64 p.2] := by simp [flat]
theorem flat_len (fs : List (Int × Int)) : (flat fs).length = fs.length * 2 := by
  induction fs with
  | nil => rfl
  | cons p fs ih => simp only [flat, List.flatMap_cons, List.length_append, List.length_cons, List.length_nil] at *; omega
theorem flat_0 (fs : List (Int × Int)) (k : Nat) (h : k < fs.length) : (flat fs)[k * 2]? = some (.int .i64 (fs.getD k (0, 0)).1) := by
  induction fs generalizing k with
  | nil => simp at h
  | cons p fs ih =>
    cases k with
    | zero => simp [flat]
    | succ k =>
      have := ih k (by simpa using h)
      rw [show (k + 1) * 2 = k * 2 + 2 by omega]
      simpa [flat] using this
theorem flat_1 (fs : List (Int × Int)) (k : Nat) (h : k < fs.length) : (flat fs)[k * 2 + 1]? = some (.int .i64 (fs.getD k (0, 0)).2) := by
  induction fs generalizing k with
  | nil => simp at h
  | cons p fs ih =>
    cases k with
    | zero => simp [flat]
    | succ k =>
      have := ih k (by simpa using h)
      rw [show (k + 1) * 2 + 1 = k * 2 + 1 + 2 by omega]
      simpa [flat] using this

/-- the faults in their row -/
def FR (B : Nat) (w : World) (v : Value) (fs : List (Int × Int)) : Prop := w.ownsRow B 24 2 v fs.length (flat fs)
/-- a row as a slice -/
theorem own_slice {B : Nat} {w : World} {v : Value} {fs : List (Int × Int)} (h : w.ownsRow B 24 2 v fs.length (flat fs)) :
    ∃ a cap, v = .slice a fs.length cap ∧ ∀ k, k < fs.length → ∃ g, a = some ⟨g, 0, none⟩ ∧ g < w.heap.size ∧ w.cell? ⟨g, k * 2, none⟩ = some (.int .i64 (fs.getD k (0, 0)).1) ∧ w.cell? ⟨g, k * 2 + 1, none⟩ = some (.int .i64 (fs.getD k (0, 0)).2) := by
  have h2 := h.2
  rcases h2 with ⟨rfl, h0⟩ | ⟨g, cap, cur, rfl, hg, hh, r⟩
  · exact ⟨none, 0, by rw [h0], fun k hk => by omega⟩
  · refine ⟨some ⟨g, 0, none⟩, cap, rfl, fun k hk => ⟨g, rfl, (h.lt g rfl).2, ?_, ?_⟩⟩
    · rw [World.ownsRow.cellAt h (k * 2) (by omega), flat_0 fs k hk]
    · rw [World.ownsRow.cellAt h (k * 2 + 1) (by omega), flat_1 fs k hk]
theorem own_only {B : Nat} {e : TypeId} {z : Nat} {w w' : World} {v : Value} {n : Nat} {xs : List Value} {S : List Nat} (h : w.ownsRow B e z v n xs) (o : Only S w w') (hS : ∀ g, v.ownBlock = some g → g ∉ S) : w'.ownsRow B e z v n xs := by
  obtain ⟨h1, h2⟩ := h
  refine ⟨h1, ?_⟩
  rcases h2 with h2 | ⟨g, cap, cur, hv, hg, hh, r⟩
  · exact Or.inl h2
  · refine Or.inr ⟨g, cap, cur, hv, hg, ?_, r⟩
    have hl : g < w.heap.size := by
      rcases Nat.lt_or_ge g w.heap.size with k | k
      · exact k
      · rw [Array.getElem?_eq_none k] at hh; cases hh
    rw [o.block g hl (hS g (by rw [hv]; rfl))]; exact hh
theorem FR.only {B : Nat} {w w' : World} {v : Value} {fs : List (Int × Int)} {S : List Nat} (h : FR B w v fs) (o : Only S w w') (hS : ∀ g, v.ownBlock = some g → g ∉ S) : FR B w' v fs := own_only h o hS
theorem grown_only {w w' : World} {row : Option Nat} (h : w.grownBy w' row) : Only row.toList w w' :=
  ⟨h.os, h.tape, h.output, h.size, fun k hk hn => h.block k hk fun e => hn (by rw [← e]; simp)⟩

/-- the play: the acts, where it is, what was counted, the faults -/
def Play (w : World) (b : Nat) (sl : Value) (i c : Nat) (fv : Value) : Prop := ∃ t, w.heap[b]? = some (.cells #[sl, .int .i64 i, .int .i64 c, fv] t (0, 0))
section
variable {w w' : World} {b : Nat} {sl fv : Value} {i c : Nat}
theorem Play.lt (h : Play w b sl i c fv) : b < w.heap.size := by
  obtain ⟨t, h⟩ := h
  rcases Nat.lt_or_ge b w.heap.size with g | g
  · exact g
  · rw [Array.getElem?_eq_none g] at h; cases h
theorem Play.cell0 (h : Play w b sl i c fv) : w.cell? ⟨b, 0, none⟩ = some sl := by obtain ⟨t, h⟩ := h; simp [World.cell?, h]
theorem Play.cell1 (h : Play w b sl i c fv) : w.cell? ⟨b, 1, none⟩ = some (.int .i64 i) := by obtain ⟨t, h⟩ := h; simp [World.cell?, h]
theorem Play.cell2 (h : Play w b sl i c fv) : w.cell? ⟨b, 2, none⟩ = some (.int .i64 c) := by obtain ⟨t, h⟩ := h; simp [World.cell?, h]
theorem Play.cell3 (h : Play w b sl i c fv) : w.cell? ⟨b, 3, none⟩ = some fv := by obtain ⟨t, h⟩ := h; simp [World.cell?, h]
theorem Play.frozen (h : Play w b sl i c fv) (k : Nat) : w.frozen? ⟨b, k, none⟩ = false := by obtain ⟨t, h⟩ := h; simp [World.frozen?, h]
theorem Play.only {S : List Nat} (h : Play w b sl i c fv) (o : Only S w w') (hn : b ∉ S) : Play w' b sl i c fv := by
  have := h.lt
  obtain ⟨t, h⟩ := h
  exact ⟨t, by rw [o.block b this hn, h]⟩
theorem Play.new (w : World) (sl : Value) (t : TypeId) : Play (w.alloc (.cells #[sl, .int .i64 0, .int .i64 0, .slice none 0 0] t)) w.heap.size sl 0 0 (.slice none 0 0) :=
  ⟨t, by show (w.heap.push _)[w.heap.size]? = _; simp⟩
theorem Play.set1 (h : Play w b sl i c fv) (j : Nat) : Play (w.setCell ⟨b, 1, none⟩ (.int .i64 j)) b sl j c fv := by
  obtain ⟨t, h⟩ := h
  exact ⟨t, by simp [World.setCell, Array.getElem?_modify, h]⟩
theorem Play.set2 (h : Play w b sl i c fv) (j : Nat) : Play (w.setCell ⟨b, 2, none⟩ (.int .i64 j)) b sl i j fv := by
  obtain ⟨t, h⟩ := h
  exact ⟨t, by simp [World.setCell, Array.getElem?_modify, h]⟩
theorem Play.set3 (h : Play w b sl i c fv) (v : Value) : Play (w.setCell ⟨b, 3, none⟩ v) b sl i c v := by
  obtain ⟨t, h⟩ := h
  exact ⟨t, by simp [World.setCell, Array.getElem?_modify, h]⟩
end

/-- what may have turned between two moments: the play, the row of the faults; the row may lie anew -/
structure Moved (b : Nat) (w w' : World) (fv fv' : Value) : Prop where
  only : Only (b :: fv.ownBlock.toList) w w'
  row : ∀ g, fv'.ownBlock = some g → fv.ownBlock = some g ∨ w.heap.size ≤ g
theorem Moved.refl (b : Nat) (w : World) (fv : Value) : Moved b w w fv fv := ⟨Only.refl _ _, fun _ h => Or.inl h⟩
theorem Moved.trans {b : Nat} {w1 w2 w3 : World} {v1 v2 v3 : Value} (h : Moved b w1 w2 v1 v2) (k : Moved b w2 w3 v2 v3) : Moved b w1 w3 v1 v3 := by
  refine ⟨h.only.then k.only fun x hx hl => ?_, fun g hg => ?_⟩
  · rcases List.mem_cons.1 hx with rfl | hx
    · simp
    · have hx' : v2.ownBlock = some x := by simpa [Option.mem_toList] using hx
      rcases h.row x hx' with e | e
      · rw [e]; simp
      · omega
  · rcases k.row g hg with e | e
    · exact h.row g e
    · exact Or.inr (Nat.le_trans h.only.size e)
/-- a step in which nothing of the two has turned but the play itself, and new memory -/
theorem Moved.of_only {b : Nat} {w w' : World} {fv : Value} (o : Only [b] w w') : Moved b w w' fv fv := ⟨o.weaken (by simp), fun _ h => Or.inl h⟩
theorem Moved.more {b : Nat} {w w1 w2 : World} {fv fv' : Value} {S : List Nat} (h : Moved b w w1 fv fv') (o : Only S w1 w2) (hS : ∀ k ∈ S, w.heap.size ≤ k) : Moved b w w2 fv fv' :=
  ⟨h.only.then o fun x hx hl => by have := hS x hx; omega, h.row⟩
theorem Moved.ne {b x : Nat} {w w' : World} {fv fv' : Value} (h : Moved b w w' fv fv') (hx : x < w.heap.size) (hn : fv.ownBlock ≠ some x) : fv'.ownBlock ≠ some x := fun e => by
  rcases h.row x e with k | k
  · exact hn k
  · omega
theorem only_drewN (w : World) (n : Nat) : Only [] w (w.drewN n) := ⟨rfl, rfl, rfl, Nat.le_refl _, fun _ _ _ => rfl⟩
theorem only_drew (w : World) : Only [] w w.drew := ⟨rfl, rfl, rfl, Nat.le_refl _, fun _ _ _ => rfl⟩
end Go.Proofs.Ytakcajmkgdoofaa.trapPlays

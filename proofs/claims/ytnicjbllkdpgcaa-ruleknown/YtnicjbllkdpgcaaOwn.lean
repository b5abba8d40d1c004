/- Rows that the call made, and variables that lead to them: what stays as it was when something else turns. -/
import Derived.Test.YtnicjbllkdpgcaaOnly
import Derived.Deep.AppendLies
import Derived.Deep.Quiet
namespace Go.Proofs.Ytnicjbllkdpgcaa
open Go.RowKit

theorem own_only {B : Nat} {e : TypeId} {z : Nat} {w w' : World} {v : Value} {n : Nat} {xs : List Value} {S : List Nat} (h : w.ownsRow B e z v n xs) (o : Only S w w') (hS : ∀ g, v.ownBlock = some g → g ∉ S) : w'.ownsRow B e z v n xs := by
  obtain ⟨h1, h2⟩ := h
  refine ⟨h1, ?_⟩
  rcases h2 with h2 | ⟨g, cap, cur, hv, hg, hh, r⟩
  · exact Or.inl h2
  · refine Or.inr ⟨g, cap, cur, hv, hg, ?_, r⟩
    have hl : g < w.heap.size := by
      rcases Nat.lt_or_ge g w.heap.size with k | k
      · exact k
      · rw [Array.getElem?_eq_none k] at hh; cases hh
    rw [o.block g hl (hS g (by rw [hv]; rfl))]; exact hh
theorem grown_only {w w' : World} {row : Option Nat} (h : w.grownBy w' row) : Only row.toList w w' :=
  ⟨h.os, h.tape, h.output, h.size, fun k hk hn => h.block k hk fun e => hn (by rw [← e]; simp)⟩
theorem only_drewN (w : World) (n : Nat) : Only [] w (w.drewN n) := ⟨rfl, rfl, rfl, Nat.le_refl _, fun _ _ _ => rfl⟩
theorem only_drew (w : World) : Only [] w w.drew := ⟨rfl, rfl, rfl, Nat.le_refl _, fun _ _ _ => rfl⟩

/-- what may have turned between two moments: the block b, the row to which it leads; the row may lie anew -/
structure Moved (b : Nat) (w w' : World) (fv fv' : Value) : Prop where
  only : Only (b :: fv.ownBlock.toList) w w'
  row : ∀ g, fv'.ownBlock = some g → fv.ownBlock = some g ∨ w.heap.size ≤ g
theorem Moved.refl (b : Nat) (w : World) (fv : Value) : Moved b w w fv fv := ⟨Only.refl _ _, fun _ h => Or.inl h⟩
theorem Moved.trans {b : Nat} {w1 w2 w3 : World} {v1 v2 v3 : Value} (h : Moved b w1 w2 v1 v2) (k : Moved b w2 w3 v2 v3) : Moved b w1 w3 v1 v3 := by
  refine ⟨h.only.then k.only fun x hx hl => ?_, fun g hg => ?_⟩
  · rcases List.mem_cons.1 hx with rfl | hx
    · simp
    · have hx' : v2.ownBlock = some x := by simpa [Option.mem_toList] using hx
      rcases h.row x hx' with e | e
      · rw [e]; simp
      · omega
  · rcases k.row g hg with e | e
    · exact h.row g e
    · exact Or.inr (Nat.le_trans h.only.size e)
/-- a step in which nothing of the two has turned but the block itself, and new memory -/
theorem Moved.of_only {b : Nat} {w w' : World} {fv : Value} (o : Only [b] w w') : Moved b w w' fv fv := ⟨o.weaken (by simp), fun _ h => Or.inl h⟩
theorem Moved.more {b : Nat} {w w1 w2 : World} {fv fv' : Value} {S : List Nat} (h : Moved b w w1 fv fv') (o : Only S w1 w2) (hS : ∀ k ∈ S, w.heap.size ≤ k) : Moved b w w2 fv fv' :=
  ⟨h.only.then o fun x hx hl => by have := hS x hx; omega, h.row⟩
theorem Moved.ne {b x : Nat} {w w' : World} {fv fv' : Value} (h : Moved b w w' fv fv') (hx : x < w.heap.size) (hn : fv.ownBlock ≠ some x) : fv'.ownBlock ≠ some x := fun e => by
  rcases h.row x e with k | k
  · exact hn k
  · omega
/-- what turned is of the call's own: nothing more has turned of what was there at first -/
theorem Moved.own {S : List Nat} {b : Nat} {w0 w1 w2 : World} {v v' : Value} (m : Moved b w1 w2 v v') (o : Only S w0 w1) (hb : w0.heap.size ≤ b) (hv : ∀ g, v.ownBlock = some g → w0.heap.size ≤ g) : Only S w0 w2 :=
  o.then m.only fun x hx hl => by
    rcases List.mem_cons.1 hx with rfl | hx
    · omega
    · have := hv x (by simpa [Option.mem_toList] using hx); omega
end Go.Proofs.Ytnicjbllkdpgcaa

/- Where those who are born stand. -/
import Derived.Test.YtngbannidbijmaaBodyP
namespace Go.Proofs.Ytngbannidbijmaa
open Go.RowKit
abbrev plr (i X : Int) : Bd := ⟨1, i, X, 2048, 0, 0, 0, 0, 0, 0, 0, 0⟩
/-- where the i-th of n begins -/
def at_ (i n : Nat) : Int := (2 * (i : Int) + 1) * 4096 / (2 * (n : Int))
theorem within_in (n lo hi : Int) (h1 : lo ≤ n) (h2 : n ≤ hi) : Body.within n lo hi = n := by
  unfold Body.within; rw [if_pos h2]; split <;> omega
theorem born_plr (i n : Nat) (h : i < n) (h8 : n ≤ 8) : Body.born i n = plr i (at_ i n) := by
  have e1 : Body.within (n : Int) 1 8 = n := within_in _ _ _ (by omega) (by omega)
  have e2 : Body.within (i : Int) 0 ((n : Int) - 1) = i := within_in _ _ _ (by omega) (by omega)
  have e : Body.born i n = { Body.zero with k := 1, o := Body.within i 0 (Body.within n 1 8 - 1), x := (2 * Body.within i 0 (Body.within n 1 8 - 1) + 1) * 4096 / (2 * Body.within n 1 8), y := 2048 } := rfl
  rw [e1, e2] at e
  exact e
theorem at_spec (i n : Nat) (h : i < n) (h8 : n ≤ 8) : 0 ≤ at_ i n ∧ at_ i n ≤ 4095 ∧ at_ i n * (n : Int) / 4096 = i := by
  have hn : n = 1 ∨ n = 2 ∨ n = 3 ∨ n = 4 ∨ n = 5 ∨ n = 6 ∨ n = 7 ∨ n = 8 := by omega
  unfold at_
  rcases hn with rfl | rfl | rfl | rfl | rfl | rfl | rfl | rfl <;> refine ⟨?_, ?_, ?_⟩ <;> omega
theorem some_plr (i X : Int) (h1 : 0 ≤ i) (h2 : i ≤ 7) (h3 : 0 ≤ X) (h4 : X ≤ 4095) : Body.some (plr i X) = true := by
  refine (Body.some_iff _).2 ⟨Or.inl rfl, ⟨h1, h2⟩, ⟨h3, h4⟩, ?_, ?_, ?_, ?_, ?_, ?_, ?_, ?_, ?_⟩ <;> (dsimp only; decide)
end Go.Proofs.Ytngbannidbijmaa

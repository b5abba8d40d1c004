/- Package step: First is right; what Fold leads to. -/
import Derived.Test.YtngbannidbijmaaGStepM
import Derived.Test.YtngbannidbijmaaStepS
namespace Go.Proofs.Ytngbannidbijmaa
open Go.RowKit
set_option linter.unusedVariables false

namespace Step
theorem borns_at (pl : Int) (k : Nat) (hk : k < 16) : ∀ n, n ≤ 16 → (borns pl n).getD k Body.zero = if k < n ∧ (k : Int) < pl then Body.born k pl else Body.zero := by
  intro n
  induction n with
  | zero =>
    intro _
    rw [if_neg (by omega)]
    simp only [borns, List.getD_eq_getElem?_getD, List.getElem?_replicate, hk, if_true, Option.getD_some]
  | succ n ih =>
    intro hn
    unfold borns
    by_cases h : (n : Int) < pl
    · rw [if_pos h, getD_set, borns_len, ih (by omega)]
      by_cases e : k = n
      · subst e; rw [if_pos ⟨rfl, by omega⟩, if_pos ⟨by omega, h⟩]
      · rw [if_neg (by omega)]
        by_cases g : k < n ∧ (k : Int) < pl
        · rw [if_pos g, if_pos ⟨by omega, g.2⟩]
        · rw [if_neg g, if_neg (by omega)]
    · rw [if_neg h, ih (by omega)]
      by_cases g : k < n ∧ (k : Int) < pl
      · rw [if_pos g, if_pos ⟨by omega, g.2⟩]
      · rw [if_neg g, if_neg (by omega)]
theorem born_f {k : Nat} {pl : Int} (h1 : (k : Int) < pl) (h8 : pl ≤ 8) : Stand pl k (Body.born k pl) := by
  have := born_ok (pl := pl) (k := k) (f := (Body.born k pl).f) h1 h8 (by
    obtain ⟨n, rfl⟩ : ∃ n : Nat, pl = n := ⟨pl.toNat, by omega⟩
    rw [born_plr k n (by omega) (by omega)]
    show 0 ≤ (0 : Int) ∧ (0 : Int) ≤ 65535; omega)
  exact this
theorem first_ok {c : Cf} (h : legal c = true) : Ok c (first c) := by
  have P := legal_pl h
  unfold first
  rw [if_pos h]
  refine ⟨h, P, by show 0 ≤ (0 : Int) ∧ (0 : Int) ≤ 600; omega, ⟨borns_len _ _, fun k hk => ?_⟩, ⟨rfl, fun k hk => ?_⟩⟩
  · rw [borns_at c.pl k hk 16 (Nat.le_refl _)]
    by_cases g : (k : Int) < c.pl
    · rw [if_pos ⟨hk, g⟩]; exact born_f g P.2
    · rw [if_neg (by omega)]; exact stand_zero g
  · have : (List.replicate 8 (0 : Int)).getD k 0 = 0 := by
      simp only [List.getD_eq_getElem?_getD, List.getElem?_replicate, hk, if_true, Option.getD_some]
    rw [this]; exact ⟨by omega, Or.inr rfl⟩
theorem first_fr (c : Cf) : (first c).fr = 0 := by
  unfold first; split <;> rfl
theorem fold_ok {c : Cf} (rows : List (List Cl)) : ∀ {s : Gs}, Ok c s → Ok c (fold c s rows) ∧ (s.fr + rows.length ≤ 600 → (fold c s rows).fr = s.fr + rows.length) := by
  induction rows with
  | nil => intro s h; exact ⟨h, fun _ => by simp [fold]⟩
  | cons r rs ih =>
    intro s h
    obtain ⟨h1, h2⟩ := h.step r
    obtain ⟨k1, k2⟩ := ih h1
    refine ⟨k1, fun hl => ?_⟩
    rw [List.length_cons] at hl ⊢
    show (fold c (step c s r) rs).fr = _
    rw [h2] at k2
    rw [k2 (by split <;> omega)]
    rw [if_pos (by omega)]
    omega
theorem fold_app (c : Cf) (s : Gs) (a b : List (List Cl)) : fold c s (a ++ b) = fold c (fold c s a) b := by simp [fold, List.foldl_append]
theorem fold_parts (c : Cf) (s : Gs) (rows : List (List Cl)) (k : Nat) : fold c (fold c s (rows.take k)) (rows.drop k) = fold c s rows := by
  rw [← fold_app, List.take_append_drop]
end Step
end Go.Proofs.Ytngbannidbijmaa

/- The reference's Window: as plain data, in memory; Note and Bits; that it answers as package window does. -/
import Derived.Test.YtfikpkoocbiinaaRefSeq
import Derived.Test.YtfikpkoocbiinaaBlk
import Derived.Test.YtfikpkoocbiinaaWinBits
import Derived.Deep.LoopGhost
import Derived.Deep.DeepCutAuto
import Derived.Deep.CutBlock
namespace Go.Proofs.Ytfikpkoocbiinaa
open Go.RowKit

namespace Win
structure R where
  any : Bool
  last : Int
  inn : List Bool
def R.none : R := ⟨false, 0, List.replicate 65 false⟩
def shift (l : List Bool) (d k : Nat) : List Bool := (List.range 65).map fun j => decide (j = 0) || (decide (d ≤ j ∧ j < k) && l.getD (j - d) false)
theorem shift_len (l : List Bool) (d k : Nat) : (shift l d k).length = 65 := by simp [shift]
def R.note (r : R) (n : Int) : R × Int :=
  if r.any = false then (⟨true, norm n, r.inn.set 0 true⟩, 1) else
  if 0 < ahead n r.last then (⟨true, norm n, shift r.inn (ahead n r.last).toNat 65⟩, 1) else
  if 64 < (- ahead n r.last).toNat then (r, 3) else
  if r.inn.getD (- ahead n r.last).toNat false = true then (r, 2) else
  (⟨r.any, r.last, r.inn.set (- ahead n r.last).toNat true⟩, 1)
/-- they tell the same -/
structure Same (s : S) (r : R) : Prop where
  any : s.any = r.any
  last : s.last = r.last
  len : r.inn.length = 65
  lt : s.bits < 2 ^ 64
  zero : r.inn.getD 0 false = r.any
  bit : ∀ j, j < 64 → r.inn.getD (j + 1) false = s.bits.testBit j
theorem Same.none : Same Win.none R.none := ⟨rfl, rfl, rfl, by decide, rfl, fun j hj => by
  simp only [R.none, Win.none, Nat.zero_testBit]
  rw [List.getD_eq_getElem?_getD, List.getElem?_replicate]
  split <;> rfl⟩
theorem getD_set (l : List Bool) (i j : Nat) (x : Bool) (h : i < l.length) : (l.set i x).getD j false = if i = j then x else l.getD j false := by
  rw [List.getD_eq_getElem?_getD, List.getElem?_set]
  split
  · rfl
  · rw [List.getD_eq_getElem?_getD]
theorem shift_get (l : List Bool) (d k j : Nat) (h : j < 65) : (shift l d k).getD j false = (decide (j = 0) || (decide (d ≤ j ∧ j < k) && l.getD (j - d) false)) := by
  unfold shift
  rw [List.getD_eq_getElem?_getD, List.getElem?_map, List.getElem?_range h]; rfl
theorem Same.note {s : S} {r : R} (h : Same s r) (n : Int) : Same (s.note n).1 (r.note n).1 ∧ (s.note n).2 = (r.note n).2 := by
  obtain ⟨h1, h2, h3, h4, h5, h6⟩ := h
  unfold S.note R.note
  rw [h1, h2]
  have rg := ahead_rng n r.last
  by_cases ha : r.any = false
  · rw [if_pos ha, if_pos ha]
    refine ⟨⟨rfl, rfl, by simpa using h3, h4, ?_, fun j hj => ?_⟩, rfl⟩
    · rw [getD_set _ _ _ _ (by omega), if_pos rfl]
    · rw [getD_set _ _ _ _ (by omega), if_neg (by omega)]; exact h6 j hj
  rw [if_neg ha, if_neg ha]
  by_cases hd : 0 < ahead n r.last
  · rw [if_pos hd, if_pos hd]
    obtain ⟨d, ed⟩ : ∃ d, (ahead n r.last).toNat = d := ⟨_, rfl⟩
    rw [ed]
    refine ⟨⟨rfl, rfl, shift_len _ _ _, Nat.or_lt_two_pow (Nat.mod_lt _ (by decide)) (bit_lt d), ?_, fun j hj => ?_⟩, rfl⟩
    · rw [shift_get _ _ _ _ (by omega)]; rfl
    · rw [shift_get _ _ _ _ (by omega), newer_test _ _ _ (by omega) hj, decide_eq_false (show ¬ j + 1 = 0 by omega), Bool.false_or]
      by_cases g : d ≤ j
      · rw [decide_eq_true (show d ≤ j + 1 ∧ j + 1 < 65 by omega), decide_eq_true g, decide_eq_false (show ¬ j = d - 1 by omega), Bool.true_and, Bool.true_and, Bool.or_false, show j + 1 - d = (j - d) + 1 by omega, h6 _ (by omega)]
      · rw [decide_eq_false g, Bool.false_and, Bool.false_or]
        by_cases g2 : j = d - 1
        · rw [decide_eq_true (show d ≤ j + 1 ∧ j + 1 < 65 by omega), decide_eq_true g2, Bool.true_and, show j + 1 - d = 0 by omega, h5]
          simpa using ha
        · rw [decide_eq_false (show ¬ (d ≤ j + 1 ∧ j + 1 < 65) by omega), decide_eq_false g2, Bool.false_and]
  · rw [if_neg hd, if_neg hd]
    obtain ⟨d, ed⟩ : ∃ d, (- ahead n r.last).toNat = d := ⟨_, rfl⟩
    rw [ed]
    unfold S.fill
    by_cases g : 64 < d
    · rw [if_pos g, if_pos g]; exact ⟨⟨h1, h2, h3, h4, h5, h6⟩, rfl⟩
    rw [if_neg g, if_neg g]
    by_cases g0 : d = 0
    · rw [if_pos (Or.inl g0), g0, h5, if_pos (by simpa using ha)]; exact ⟨⟨h1, h2, h3, h4, h5, h6⟩, rfl⟩
    have e6 := h6 (d - 1) (by omega)
    rw [show d - 1 + 1 = d by omega] at e6
    rw [e6]
    have ab := and_bit (x := s.bits) (b := d) (by omega) (by omega)
    by_cases gb : s.bits.testBit (d - 1) = true
    · rw [if_pos gb, if_pos (Or.inr fun c => by rw [ab, gb] at c; cases c)]; exact ⟨⟨h1, h2, h3, h4, h5, h6⟩, rfl⟩
    · have gb : s.bits.testBit (d - 1) = false := by simpa using gb
      rw [if_neg (show ¬ (d = 0 ∨ s.bits &&& Win.bit d ≠ 0) from fun c => c.elim g0 fun c => c (ab.2 gb)), if_neg (by rw [gb]; decide)]
      refine ⟨⟨h1, h2, by simpa using h3, Nat.or_lt_two_pow h4 (bit_lt d), ?_, fun j hj => ?_⟩, rfl⟩
      · rw [getD_set _ _ _ _ (by omega), if_neg g0]; exact h5
      · rw [getD_set _ _ _ _ (by omega), Nat.testBit_or, bit_test _ _ (by omega), decide_eq_true (show d ≤ 64 by omega), Bool.true_and]
        by_cases e : d = j + 1
        · rw [if_pos e, decide_eq_true (by omega), Bool.or_true]
        · rw [if_neg e, decide_eq_false (by omega), Bool.or_false]; exact h6 j hj
end Win
/-- a reference Window in memory -/
def Rw (w : World) (b : Nat) (r : Win.R) : Prop := Blk w b (.bool r.any :: .int .i64 r.last :: r.inn.map .bool)
theorem Rw.only {w w' : World} {b : Nat} {r : Win.R} {L : List Nat} (h : Rw w b r) (o : Only L w w') (hb : b ∉ L) : Rw w' b r := Blk.only h o hb
theorem inn_cell {l : List Bool} {i : Nat} (h : i < l.length) : (l.map Value.bool)[i]? = some (.bool (l.getD i false)) := by
  rw [List.getElem?_map, List.getD_eq_getElem?_getD, List.getElem?_eq_getElem h]; rfl
end Go.Proofs.Ytfikpkoocbiinaa

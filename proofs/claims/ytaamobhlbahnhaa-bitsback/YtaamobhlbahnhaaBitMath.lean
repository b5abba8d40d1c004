/- Bits as lists of Bools, the highest first; bytes of them; numbers of them. Nothing of the program. -/
import Derived.WalkKit
namespace Go.Proofs.Ytaamobhlbahnhaa.Bit

/-- the lowest n bits of v, the highest of them first -/
def bitsOf (v : Nat) : Nat → List Bool
  | 0 => []
  | n + 1 => v.testBit n :: bitsOf v n
/-- the number that bits are -/
def num : List Bool → Nat
  | [] => 0
  | b :: l => b.toNat * 2 ^ l.length + num l

@[simp] theorem bitsOf_length (v n : Nat) : (bitsOf v n).length = n := by
  induction n with
  | zero => rfl
  | succ n ih => simp [bitsOf, ih]
theorem num_lt (l : List Bool) : num l < 2 ^ l.length := by
  induction l with
  | nil => simp [num]
  | cons b l ih =>
    rw [num, List.length_cons, Nat.pow_succ]
    cases b <;> simp <;> omega
theorem num_app (l m : List Bool) : num (l ++ m) = num l * 2 ^ m.length + num m := by
  induction l with
  | nil => simp [num]
  | cons b l ih => rw [List.cons_append, num, num, ih, List.length_append, Nat.pow_add, Nat.add_mul, Nat.mul_assoc]; omega
theorem testBit_toNat (v n : Nat) : (v.testBit n).toNat = v / 2 ^ n % 2 := by
  rw [Nat.testBit_eq_decide_div_mod_eq]
  rcases Nat.mod_two_eq_zero_or_one (v / 2 ^ n) with h | h <;> simp [h]
theorem num_bitsOf (v n : Nat) : num (bitsOf v n) = v % 2 ^ n := by
  induction n with
  | zero => simp [bitsOf, num, Nat.mod_one]
  | succ n ih =>
    rw [bitsOf, num, bitsOf_length, ih, testBit_toNat, Nat.pow_succ, Nat.mod_mul, Nat.mul_comm]; omega
theorem bitsOf_add (v a b : Nat) : bitsOf v (a + b) = bitsOf (v / 2 ^ b) a ++ bitsOf v b := by
  induction a with
  | zero => simp [bitsOf]
  | succ a ih =>
    rw [show a + 1 + b = (a + b) + 1 by omega, bitsOf, bitsOf, ih, List.cons_append]
    congr 1
    rw [Nat.testBit_div_two_pow, Nat.add_comm]
theorem bitsOf_mod (v n k : Nat) (h : n ≤ k) : bitsOf (v % 2 ^ k) n = bitsOf v n := by
  induction n with
  | zero => rfl
  | succ n ih =>
    rw [bitsOf, bitsOf, ih (by omega)]
    congr 1
    rw [Nat.testBit_mod_two_pow]
    simp; omega
theorem bitsOf_num (l : List Bool) : bitsOf (num l) l.length = l := by
  induction l with
  | nil => rfl
  | cons b l ih =>
    have hl := num_lt l
    rw [List.length_cons, bitsOf, num]
    have h1 : (b.toNat * 2 ^ l.length + num l) % 2 ^ l.length = num l := by
      rw [Nat.mul_comm, Nat.mul_add_mod]; exact Nat.mod_eq_of_lt hl
    have h2 : bitsOf (b.toNat * 2 ^ l.length + num l) l.length = l := by
      rw [← bitsOf_mod _ _ l.length (Nat.le_refl _), h1, ih]
    rw [h2]
    congr 1
    rw [Nat.testBit_eq_decide_div_mod_eq, Nat.mul_comm, Nat.mul_add_div (Nat.two_pow_pos _), Nat.div_eq_of_lt hl]
    cases b <;> simp
theorem bitsOf_zero (n : Nat) : bitsOf 0 n = List.replicate n false := by
  induction n with
  | zero => rfl
  | succ n ih => rw [bitsOf, ih, Nat.zero_testBit, List.replicate_succ]
theorem num_zeros (n : Nat) : num (List.replicate n false) = 0 := by rw [← bitsOf_zero, num_bitsOf, Nat.zero_mod]
theorem num_mul (v n : Nat) : bitsOf (v * 2 ^ n) n = List.replicate n false := by
  rw [← bitsOf_mod _ _ n (Nat.le_refl _), Nat.mul_mod_left, bitsOf_zero]

/-! ### bytes -/
/-- the i-th byte, with 0 bits up to a whole one -/
def byteAt (l : List Bool) (i : Nat) : Nat := num ((l.drop (8 * i)).take 8) * 2 ^ (8 - ((l.drop (8 * i)).take 8).length)
def pack (l : List Bool) : List Nat := (List.range ((l.length + 7) / 8)).map (byteAt l)
theorem pack_length (l : List Bool) : (pack l).length = (l.length + 7) / 8 := by simp [pack]
theorem byteAt_lt (l : List Bool) (i : Nat) : byteAt l i < 256 := by
  unfold byteAt
  have h1 := num_lt ((l.drop (8 * i)).take 8)
  have h2 : ((l.drop (8 * i)).take 8).length ≤ 8 := by rw [List.length_take]; omega
  generalize (l.drop (8 * i)).take 8 = m at *
  have h3 : 2 ^ m.length * 2 ^ (8 - m.length) = 256 := by rw [← Nat.pow_add, show m.length + (8 - m.length) = 8 by omega]
  have h4 : num m * 2 ^ (8 - m.length) < 2 ^ m.length * 2 ^ (8 - m.length) := Nat.mul_lt_mul_of_pos_right h1 (Nat.two_pow_pos _)
  omega
theorem pack_lt (l : List Bool) : ∀ x ∈ pack l, x < 256 := by
  intro x hx
  obtain ⟨i, _, rfl⟩ := List.mem_map.1 hx
  exact byteAt_lt l i
theorem pack_get (l : List Bool) (i : Nat) (h : i < (l.length + 7) / 8) : (pack l)[i]? = some (byteAt l i) := by
  simp [pack, h]
theorem byteAt_far (l : List Bool) (i : Nat) (h : l.length ≤ 8 * i) : byteAt l i = 0 := by
  unfold byteAt; rw [List.drop_eq_nil_of_le h]; simp [num]
theorem byteAt_ahead (l m : List Bool) (i : Nat) (h : 8 * i + 8 ≤ l.length) : byteAt (l ++ m) i = byteAt l i := by
  unfold byteAt
  rw [List.drop_append_of_le_length (by omega), List.take_append_of_le_length (by rw [List.length_drop]; omega)]
/-- one byte takes m more bits, for which it has room -/
theorem byteAt_more (l m : List Bool) (h : l.length % 8 + m.length ≤ 8) :
    byteAt (l ++ m) (l.length / 8) = byteAt l (l.length / 8) + num m * 2 ^ (8 - l.length % 8 - m.length) ∧
    byteAt l (l.length / 8) ||| num m * 2 ^ (8 - l.length % 8 - m.length) = byteAt l (l.length / 8) + num m * 2 ^ (8 - l.length % 8 - m.length) := by
  unfold byteAt
  have e1 : (l ++ m).drop (8 * (l.length / 8)) = l.drop (8 * (l.length / 8)) ++ m := List.drop_append_of_le_length (by omega)
  have e2 : (l.drop (8 * (l.length / 8))).length = l.length % 8 := by rw [List.length_drop]; omega
  rw [e1]
  generalize l.drop (8 * (l.length / 8)) = d at *
  rw [List.take_of_length_le (by rw [List.length_append]; omega), List.take_of_length_le (by omega), List.length_append, e2, num_app]
  have p1 : 2 ^ (8 - l.length % 8) = 2 ^ m.length * 2 ^ (8 - l.length % 8 - m.length) := by rw [← Nat.pow_add]; congr 1; omega
  refine ⟨?_, ?_⟩
  · rw [Nat.add_mul, Nat.mul_assoc, show 8 - (l.length % 8 + m.length) = 8 - l.length % 8 - m.length by omega, ← p1]
  · have : num m * 2 ^ (8 - l.length % 8 - m.length) < 2 ^ (8 - l.length % 8) := by
      rw [p1]; exact Nat.mul_lt_mul_of_pos_right (num_lt m) (Nat.two_pow_pos _)
    rw [Nat.mul_comm (num d), Nat.two_pow_add_eq_or_of_lt this]
/-- the row to which a byte was appended, where a new one begins -/
def begun (l : List Bool) : List Nat := if l.length % 8 = 0 then pack l ++ [0] else pack l
theorem begun_length (l : List Bool) : (begun l).length = l.length / 8 + 1 := by
  unfold begun
  split
  · simp [pack_length]; omega
  · simp [pack_length]; omega
theorem begun_last (l : List Bool) : (begun l)[l.length / 8]? = some (byteAt l (l.length / 8)) := by
  unfold begun
  split
  · rw [byteAt_far l _ (by omega), List.getElem?_append_right (by simp [pack_length]; omega)]
    simp [pack_length]
    rw [List.getElem?_eq_some_iff]
    exact ⟨by simp; omega, by simp⟩
  · exact pack_get l _ (by omega)
theorem pack_more (l m : List Bool) (h0 : 0 < m.length) (h : l.length % 8 + m.length ≤ 8) :
    (begun l).set (l.length / 8) (byteAt l (l.length / 8) + num m * 2 ^ (8 - l.length % 8 - m.length)) = pack (l ++ m) := by
  apply List.ext_getElem?
  intro i
  rw [List.getElem?_set, begun_length]
  split
  · rename_i e; subst e
    rw [if_pos (by omega), pack_get _ _ (by rw [List.length_append]; omega), (byteAt_more l m h).1]
  · rename_i hne
    by_cases hi : i < l.length / 8
    · rw [pack_get _ _ (by rw [List.length_append]; omega), byteAt_ahead _ _ _ (by omega)]
      unfold begun
      split
      · rw [List.getElem?_append_left (by simp [pack_length]; omega), pack_get _ _ (by omega)]
      · rw [pack_get _ _ (by omega)]
    · rw [List.getElem?_eq_none (by rw [begun_length]; omega), List.getElem?_eq_none (by simp [pack_length]; omega)]

/-! ### the way back -/
def bitsB (bs : List Nat) : List Bool := bs.flatMap (bitsOf · 8)
@[simp] theorem bitsB_length (bs : List Nat) : (bitsB bs).length = 8 * bs.length := by
  induction bs with
  | nil => rfl
  | cons b bs ih => rw [bitsB, List.flatMap_cons, List.length_append, bitsOf_length, List.length_cons]; unfold bitsB at ih; omega
theorem bitsB_drop (bs : List Nat) (i : Nat) (h : i < bs.length) : (bitsB bs).drop (8 * i) = bitsOf (bs.getD i 0) 8 ++ bitsB (bs.drop (i + 1)) := by
  induction bs generalizing i with
  | nil => simp at h
  | cons b bs ih =>
    cases i with
    | zero => simp [bitsB]
    | succ i =>
      have := ih i (by simpa using h)
      rw [bitsB, List.flatMap_cons, show 8 * (i + 1) = 8 + 8 * i by omega, ← List.drop_drop, List.drop_left' (by simp)]
      simpa [bitsB] using this
theorem bitsOf_drop (v n q : Nat) (h : q ≤ n) : (bitsOf v n).drop q = bitsOf v (n - q) := by
  rw [show n = q + (n - q) by omega, bitsOf_add, List.drop_left' (by simp), show q + (n - q) - q = n - q by omega]
theorem bitsOf_take (v n k : Nat) (h : k ≤ n) : (bitsOf v n).take k = bitsOf (v / 2 ^ (n - k)) k := by
  rw [show n = k + (n - k) by omega, bitsOf_add, List.take_left' (by simp), show k + (n - k) - k = n - k by omega]
/-- what stands within one byte -/
theorem bitsB_part (bs : List Nat) (p k : Nat) (hp : p / 8 < bs.length) (h : p % 8 + k ≤ 8) :
    ((bitsB bs).drop p).take k = bitsOf (bs.getD (p / 8) 0 / 2 ^ (8 - p % 8 - k)) k := by
  have e : (bitsB bs).drop p = ((bitsB bs).drop (8 * (p / 8))).drop (p % 8) := by rw [List.drop_drop]; congr 1; omega
  rw [e, bitsB_drop bs _ hp, List.drop_append_of_le_length (by simp; omega), List.take_append_of_le_length (by simp; omega), bitsOf_drop _ _ _ (by omega), bitsOf_take _ _ _ (by omega)]
theorem pack_8 (l : List Bool) (h : 8 ≤ l.length) : pack l = num (l.take 8) :: pack (l.drop 8) := by
  have e : (l.length + 7) / 8 = ((l.drop 8).length + 7) / 8 + 1 := by rw [List.length_drop]; omega
  unfold pack
  rw [e, List.range_succ_eq_map, List.map_cons, List.map_map]
  congr 1
  · unfold byteAt; simp; rw [Nat.min_eq_left h]; simp
  · apply List.map_congr_left
    intro i _
    simp only [Function.comp, byteAt, List.drop_drop, Nat.succ_eq_add_one, Nat.mul_add, Nat.mul_one]
    rw [Nat.add_comm (8 * i) 8]
theorem bits_pack (l : List Bool) : bitsB (pack l) = l ++ List.replicate (8 * ((l.length + 7) / 8) - l.length) false := by
  induction hn : l.length using Nat.strongRecOn generalizing l with
  | ind n ih =>
    subst hn
    by_cases h : 8 ≤ l.length
    · have h1 := ih (l.drop 8).length (by rw [List.length_drop]; omega) (l.drop 8) rfl
      rw [pack_8 l h, bitsB, List.flatMap_cons]
      have h2 : bitsOf (num (l.take 8)) 8 = l.take 8 := by
        have := bitsOf_num (l.take 8)
        rwa [List.length_take, Nat.min_eq_left h] at this
      unfold bitsB at h1
      rw [h2, h1, ← List.append_assoc, List.take_append_drop, List.length_drop]
      congr 2; omega
    · by_cases h0 : l.length = 0
      · have : l = [] := List.length_eq_zero_iff.1 h0
        subst this; rfl
      · have e : (l.length + 7) / 8 = 1 := by omega
        have hp : pack l = [num l * 2 ^ (8 - l.length)] := by
          unfold pack
          rw [e]
          simp [byteAt, List.take_of_length_le (show l.length ≤ 8 by omega)]
        rw [hp, e]
        show bitsOf (num l * 2 ^ (8 - l.length)) 8 ++ [] = _
        rw [List.append_nil]
        have h3 := bitsOf_add (num l * 2 ^ (8 - l.length)) l.length (8 - l.length)
        rw [show l.length + (8 - l.length) = 8 by omega, Nat.mul_div_cancel _ (Nat.two_pow_pos _), bitsOf_num, num_mul] at h3
        rw [h3]

/-- n bits as a signed number -/
def sgn (n x : Nat) : Int := if n = 0 then 0 else if x < 2 ^ (n - 1) then x else (x : Int) - 2 ^ n
theorem sgn_back (k : Nat) (y : Int) (hk : 0 < k) (h1 : -2 ^ (k - 1) ≤ y) (h2 : y < 2 ^ (k - 1)) : sgn k (y % 2 ^ k).toNat = y := by
  unfold sgn
  rw [if_neg (by omega)]
  obtain ⟨j, rfl⟩ : ∃ j, k = j + 1 := ⟨k - 1, by omega⟩
  simp only [Nat.add_sub_cancel] at *
  have p : (2 : Int) ^ (j + 1) = 2 * 2 ^ j := by rw [Int.pow_succ]; omega
  have q : (0 : Int) < 2 ^ j := by
    have := Nat.two_pow_pos j
    have h : ((2 ^ j : Nat) : Int) = 2 ^ j := by simp
    omega
  have h : ((2 ^ j : Nat) : Int) = 2 ^ j := by simp
  rw [p]
  generalize (2 : Int) ^ j = t at *
  by_cases hy : 0 ≤ y
  · rw [Int.emod_eq_of_lt hy (by omega), if_pos (by omega)]; omega
  · have e : y % (2 * t) = y + 2 * t := by
      rw [← Int.add_emod_right, Int.emod_eq_of_lt (by omega) (by omega)]
    rw [e, if_neg (by omega)]; omega
end Go.Proofs.Ytaamobhlbahnhaa.Bit

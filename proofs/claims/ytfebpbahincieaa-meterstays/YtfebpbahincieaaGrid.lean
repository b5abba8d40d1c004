/- How far a rounded number lies off what it was: at most a step of 2^-40, as long as it is at most 4096. And sums with an infinity. No program is spoken of here. -/
import Derived.Test.YtfebpbahincieaaStick
namespace Fl

def gridE : Nat := 1034
def G : Nat := 2 ^ gridE
theorem G_pos : 0 < G := Nat.two_pow_pos gridE
theorem U_G : U = 1099511627776 * G := by
  obtain ⟨K, hK, hU⟩ := U_ex
  obtain ⟨J, hJ, hG⟩ : ∃ J : Nat, J = 1034 ∧ G = 2 ^ J := ⟨gridE, rfl, rfl⟩
  rw [hU, hG, show K = 40 + J by omega, Nat.pow_add]

/-- a number that is no more than another one is finite, if that is -/
theorem fin_le {x y : Nat} (hx : nn x) (h0 : 0 ≤ V x) (hy : fin y) (h : V x ≤ V y) : fin x := by
  rcases Nat.lt_or_eq_of_le hx with h1 | h1
  · exact h1
  · exfalso
    have e := V_inf h1
    have := (V_lt_inf hy).2
    have i0 : (0 : Int) < (valR inf : Int) := by have := (V_lt_inf fin_0).2; rw [V_0] at this; exact this
    cases hs : sg x
    · rw [hs] at e; simp only [Bool.false_eq_true, if_false] at e; omega
    · rw [hs] at e; simp only [if_true] at e; omega

/-- steps of the grid are words -/
theorem grid_word (k : Nat) (h : k < 2 ^ 53) : ∃ w, fin w ∧ w < 2 ^ 64 ∧ V w = (k : Int) * (G : Int) := by
  obtain ⟨J, hJ, hG⟩ : ∃ J : Nat, J = 1034 ∧ G = 2 ^ J := ⟨gridE, rfl, rfl⟩
  obtain ⟨r, hr⟩ := rep k J h
  obtain ⟨M, hM, hv⟩ := valR_inf
  have hi : r < inf := by
    rw [← valR_lt_iff, hr, hv]
    have h1 : k * 2 ^ J < 2 ^ 53 * 2 ^ J := Nat.mul_lt_mul_of_pos_right h (Nat.two_pow_pos _)
    rw [← Nat.pow_add] at h1 ⊢
    have h2 : 2 ^ (53 + J) ≤ 2 ^ (52 + M) := Nat.pow_le_pow_right (by decide) (by omega)
    omega
  have hl : r < 2 ^ 63 := Nat.lt_trans hi inf_lt
  have e1 : rg r = r := Nat.mod_eq_of_lt hl
  have e2 : sg r = false := by unfold sg; rw [Nat.div_eq_of_lt hl]; rfl
  refine ⟨r, by unfold fin; rw [e1]; exact hi, by omega, ?_⟩
  unfold V; rw [e1, e2, hr, hG]; simp only [Bool.false_eq_true, if_false]; rw [Int.natCast_mul]

theorem near {N : Int} {D r : Nat} (hD : 0 < D) (R : Rounds N D r) (h0 : 0 ≤ N) (h1 : N ≤ 4096 * (U : Int) * (D : Int)) :
    0 ≤ V r ∧ V r * (D : Int) ≤ N + (G : Int) * (D : Int) ∧ N ≤ V r * (D : Int) + (G : Int) * (D : Int) ∧ fin r := by
  have hGp : (0 : Int) < (G : Int) := Int.natCast_pos.2 G_pos
  have hDp : (0 : Int) < (D : Int) := Int.natCast_pos.2 hD
  have hC : (0 : Int) < (G : Int) * (D : Int) := Int.mul_pos hGp hDp
  have eN : N = (G : Int) * (D : Int) * (N / ((G : Int) * (D : Int))) + N % ((G : Int) * (D : Int)) := (Int.mul_ediv_add_emod N _).symm
  have m0 := Int.emod_nonneg N (Int.ne_of_gt hC)
  have m1 := Int.emod_lt_of_pos N hC
  have q0 : 0 ≤ N / ((G : Int) * (D : Int)) := Int.ediv_nonneg h0 (Int.le_of_lt hC)
  generalize hq : N / ((G : Int) * (D : Int)) = q at *
  have q1 : q ≤ 4503599627370496 := by
    rw [U_G] at h1
    have e : 4096 * ((1099511627776 * G : Nat) : Int) * (D : Int) = 4503599627370496 * ((G : Int) * (D : Int)) := by
      rw [Int.natCast_mul, ← Int.mul_assoc, Int.mul_assoc]; rfl
    rw [e] at h1
    rw [← hq]
    exact Int.ediv_le_of_le_mul hC h1
  obtain ⟨a, fa, la, va⟩ := grid_word q.toNat (by omega)
  obtain ⟨b, fb, lb, vb⟩ := grid_word (q.toNat + 1) (by omega)
  have ca : ((q.toNat : Nat) : Int) = q := Int.toNat_of_nonneg q0
  have cb : ((q.toNat + 1 : Nat) : Int) = q + 1 := by omega
  rw [ca] at va
  rw [cb] at vb
  have e1 : V a * (D : Int) = (G : Int) * (D : Int) * q := by rw [va, Int.mul_assoc, Int.mul_comm]
  have e2 : V b * (D : Int) = (G : Int) * (D : Int) * q + (G : Int) * (D : Int) := by rw [vb, Int.mul_assoc, Int.mul_comm, Int.mul_add, Int.mul_one]
  have k1 := le_rounds hD R fa.nn la (by omega)
  have k2 := rounds_le hD R fb.nn lb (by omega)
  have g1 := Int.mul_le_mul_of_nonneg_right k1 (Int.le_of_lt hDp)
  have g2 := Int.mul_le_mul_of_nonneg_right k2 (Int.le_of_lt hDp)
  have a0 : 0 ≤ V a := by rw [va]; exact Int.mul_nonneg q0 (Int.le_of_lt hGp)
  generalize (G : Int) * (D : Int) * q = Q at *
  generalize (G : Int) * (D : Int) = C at *
  refine ⟨by omega, by omega, by omega, fin_le R.nn (by omega) fb k2⟩

/-- the same, of a product -/
theorem near_U {N : Int} {r : Nat} (R : Rounds (N * (U : Int)) U r) (h0 : 0 ≤ N) (h1 : N ≤ 4096 * (U : Int)) :
    0 ≤ V r ∧ V r ≤ N + (G : Int) ∧ N ≤ V r + (G : Int) ∧ fin r := by
  have hU := Upos
  have R' : Rounds N 1 r := rounds_congr U_pos (by decide) R (by rw [Int.natCast_one, Int.mul_one])
  have := near (by decide) R' h0 (by rw [Int.natCast_one, Int.mul_one]; exact h1)
  rw [Int.natCast_one, Int.mul_one, Int.mul_one] at this
  exact this
theorem near_1 {N : Int} {r : Nat} (R : Rounds N 1 r) (h0 : 0 ≤ N) (h1 : N ≤ 4096 * (U : Int)) :
    0 ≤ V r ∧ V r ≤ N + (G : Int) ∧ N ≤ V r + (G : Int) ∧ fin r := by
  have := near (by decide) R h0 (by rw [Int.natCast_one, Int.mul_one]; exact h1)
  rw [Int.natCast_one, Int.mul_one, Int.mul_one] at this
  exact this

/-- a whole number's word -/
theorem int_word (k : Nat) (h : k < 2 ^ 53) : ∃ w, fin w ∧ w < 2 ^ 64 ∧ V w = (k : Int) * (U : Int) := by
  obtain ⟨h1, h2, h3⟩ := ofInt_V (k : Int) (by simpa using h)
  exact ⟨_, h1, h3, h2⟩

/-- a number and +infinity -/
theorem add_pinf {a e : Nat} (ha : fin a) (he : rg e = inf) (hs : sg e = false) : ∃ r, Ieee.double.add a e = some r ∧ V r = (valR inf : Int) ∧ nn r ∧ r < 2 ^ 64 := by
  obtain ⟨m, p, h, _, _⟩ := read_fin ha
  unfold Ieee.Format.add
  rw [read_inf he, h, hs]
  unfold Ieee.Datum.sum
  refine ⟨_, rfl, ?_, ?_, ?_⟩
  · have e1 : rg (Ieee.double.write (.infinity false)) = inf := by decide +kernel
    have e2 : sg (Ieee.double.write (.infinity false)) = false := by decide +kernel
    rw [V_inf e1, e2]; rfl
  · show rg (Ieee.double.write (.infinity false)) ≤ inf
    decide +kernel
  · decide +kernel

def minw (x y : Nat) : Nat := if V x < V y then x else if V y < V x then y else if sg x then x else y
theorem V_minw (x y : Nat) : V (minw x y) = min (V x) (V y) := by
  unfold minw
  split
  · omega
  · split
    · omega
    · split <;> omega
theorem minw_or (x y : Nat) : minw x y = x ∨ minw x y = y := by
  unfold minw
  split
  · exact Or.inl rfl
  · split
    · exact Or.inr rfl
    · split
      · exact Or.inl rfl
      · exact Or.inr rfl
end Fl

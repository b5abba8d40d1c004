/- More of rounding: what is rounded the same is the same; the other sign; numbers near zero on both sides; multiples of a power of two stay such; twice as much is rounded to twice as much; rounding up to a whole number. No program is spoken of here. -/
import Derived.Test.YtfebpbahincieaaGrid
namespace Fl

theorem rounds_unique {N : Int} {D r r' : Nat} (hD : 0 < D) (h : Rounds N D r) (h' : Rounds N D r') (hs : N = 0 → sg r = sg r') : r = r' := by
  obtain ⟨l, k, e, R, s1, s2⟩ := h
  obtain ⟨l', k', e', R', s1', s2'⟩ := h'
  have hk : k = k' := rung_eq hD hD R R' rfl
  subst hk
  refine word_ext l l' ?_ (by rw [e, e'])
  rcases Int.lt_trichotomy N 0 with h | h | h
  · rw [s1 h, s1' h]
  · exact hs h
  · rw [s2 h, s2' h]

theorem rounds_neg {N : Int} {D r : Nat} (h : Rounds N D r) : Rounds (-N) D (neg r) := by
  obtain ⟨l, k, e, R, s1, s2⟩ := h
  refine ⟨neg_lt l, k, by rw [rg_neg]; exact e, by rw [Int.natAbs_neg]; exact R, ?_, ?_⟩
  · intro h; rw [sg_neg l, s2 (by omega)]; rfl
  · intro h; rw [sg_neg l, s1 (by omega)]; rfl

theorem near_abs {N : Int} {D r : Nat} (hD : 0 < D) (R : Rounds N D r) (h0 : -(4096 * (U : Int) * (D : Int)) ≤ N) (h1 : N ≤ 4096 * (U : Int) * (D : Int)) :
    V r * (D : Int) ≤ N + (G : Int) * (D : Int) ∧ N ≤ V r * (D : Int) + (G : Int) * (D : Int) ∧ fin r := by
  rcases Int.le_total 0 N with h | h
  · obtain ⟨_, h2, h3, h4⟩ := near hD R h h1
    exact ⟨h2, h3, h4⟩
  · obtain ⟨_, h2, h3, h4⟩ := near hD (rounds_neg R) (by omega) (by omega)
    rw [V_neg R.1, Int.neg_mul] at h2 h3
    exact ⟨by omega, by omega, fin_neg.1 h4⟩

/-- finite, between two that are -/
theorem fin_of {a b r : Nat} (hr : nn r) (ha : fin a) (hb : fin b) (h1 : V a ≤ V r) (h2 : V r ≤ V b) : fin r := by
  rcases Nat.lt_or_eq_of_le hr with h | h
  · exact h
  · exfalso
    have e := V_inf h
    have ia := (V_lt_inf ha).1
    have ib := (V_lt_inf hb).2
    cases hs : sg r
    · rw [hs] at e; simp only [Bool.false_eq_true, if_false] at e; omega
    · rw [hs] at e; simp only [if_true] at e; omega

theorem V_sg {x : Nat} (h : sg x = false) : 0 ≤ V x := by unfold V; rw [h]; simp
theorem V_pos {x : Nat} (h : sg x = false) : V x = (valR (rg x) : Int) := by unfold V; rw [h]; simp

/-! ### multiples of a power of two; twice as much -/
theorem valR_at (e q : Nat) (h1 : 2 ^ 52 ≤ q) (h2 : q ≤ 2 ^ 53) : valR (e * 2 ^ 52 + q) = q * 2 ^ e := by
  have hge : ¬ e * 2 ^ 52 + q < 2 ^ 52 := by omega
  unfold valR
  rw [if_neg hge]
  rcases Nat.lt_or_eq_of_le h2 with h | h
  · have a : (e * 2 ^ 52 + q) / 2 ^ 52 = e + 1 := by omega
    have b : (e * 2 ^ 52 + q) % 2 ^ 52 = q - 2 ^ 52 := by omega
    rw [a, b, Nat.add_sub_cancel, Nat.add_sub_cancel' h1]
  · have a : (e * 2 ^ 52 + q) / 2 ^ 52 = e + 2 := by omega
    have b : (e * 2 ^ 52 + q) % 2 ^ 52 = 0 := by omega
    rw [a, b, h, show e + 2 - 1 = e + 1 by omega, Nat.pow_succ 2 e, Nat.add_zero, show (2 : Nat) ^ 53 = 2 ^ 52 * 2 by decide, Nat.mul_assoc, Nat.mul_comm 2 (2 ^ e)]

theorem rne_range {n e : Nat} (h1 : n < 2 ^ (53 + e)) (h2 : 2 ^ (52 + e) ≤ n) : 2 ^ 52 ≤ rne n (2 ^ e) ∧ rne n (2 ^ e) ≤ 2 ^ 53 := by
  have p := Nat.two_pow_pos e
  rw [Nat.pow_add] at h1 h2
  constructor
  · have := rne_mono (n := 2 ^ 52 * 2 ^ e) (n' := n) p p (Nat.mul_le_mul_right _ h2)
    rwa [rne_whole _ _ p] at this
  · have := rne_mono (n := n) (n' := 2 ^ 53 * 2 ^ e) p p (Nat.mul_le_mul_right _ (Nat.le_of_lt h1))
    rwa [rne_whole _ _ p] at this

theorem rung_small {n r : Nat} (h : Rung n 1 r) (hn : n < 2 ^ 53) : valR r = n := by
  obtain ⟨w, hw⟩ := rep n 0 hn
  rw [Nat.pow_zero, Nat.mul_one] at hw
  have := rung_exact (k := w) (by decide) h (by rw [hw, Nat.mul_one])
  rw [this, hw]

theorem rung_dvd {n r k : Nat} (h : Rung n 1 r) (hd : 2 ^ k ∣ n) : 2 ^ k ∣ valR r := by
  obtain ⟨e, h1, h2, er⟩ := h
  rw [Nat.one_mul] at h1 h2 er
  rcases Nat.lt_or_ge n (2 ^ 53) with hs | hs
  · rw [rung_small ⟨e, by rw [Nat.one_mul]; exact h1, by rw [Nat.one_mul]; exact h2, by rw [Nat.one_mul]; exact er⟩ hs]; exact hd
  · have h3 : 2 ^ (52 + e) ≤ n := by
      rcases h2 with h | h
      · subst h; exact Nat.le_trans (by decide) hs
      · exact h
    obtain ⟨q1, q2⟩ := rne_range h1 h3
    rw [er, valR_at _ _ q1 q2]
    rcases Nat.le_total e k with hk | hk
    · -- exact
      obtain ⟨c, hc⟩ := hd
      have : n = c * 2 ^ (k - e) * 2 ^ e := by
        rw [hc, Nat.mul_assoc, ← Nat.pow_add, Nat.sub_add_cancel hk, Nat.mul_comm]
      rw [this, rne_whole _ _ (Nat.two_pow_pos _), Nat.mul_assoc, ← Nat.pow_add, Nat.sub_add_cancel hk]
      exact ⟨c, Nat.mul_comm _ _⟩
    · exact Nat.dvd_trans (Nat.pow_dvd_pow 2 hk) ⟨_, Nat.mul_comm _ _⟩

theorem rung_double {n r r' : Nat} (h : Rung n 1 r) (h' : Rung (2 * n) 1 r') (hn : n = 0 ∨ 2 ^ 52 ≤ n) : valR r' = 2 * valR r := by
  rcases hn with hn | hn
  · subst hn
    rw [rung_zero (by decide) h, rung_zero (by decide) h', valR_zero]
  · obtain ⟨e, h1, h2, er⟩ := h
    rw [Nat.one_mul] at h1 h2 er
    have h3 : 2 ^ (52 + e) ≤ n := by
      rcases h2 with h | h
      · subst h; exact hn
      · exact h
    have g : Rung (2 * n) 1 ((e + 1) * 2 ^ 52 + rne n (2 ^ e)) := by
      refine ⟨e + 1, ?_, Or.inr ?_, ?_⟩
      · rw [Nat.one_mul, show 53 + (e + 1) = (53 + e) + 1 by omega, Nat.pow_succ]; omega
      · rw [Nat.one_mul, show 52 + (e + 1) = (52 + e) + 1 by omega, Nat.pow_succ]; omega
      · rw [Nat.one_mul, Nat.pow_succ 2 e, Nat.mul_comm 2 n, rne_mul _ _ _ (Nat.two_pow_pos _) (by decide)]
    have := rung_eq (by decide) (by decide) h' g rfl
    obtain ⟨q1, q2⟩ := rne_range h1 h3
    rw [this, er, valR_at _ _ q1 q2, valR_at _ _ q1 q2, Nat.pow_succ 2 e, Nat.mul_comm (2 ^ e) 2, Nat.mul_left_comm]

theorem rounds_fin {N : Int} {D r : Nat} (h : Rounds N D r) (f : fin r) (hD : 0 < D) : ∃ k, Rung N.natAbs D k ∧ V r = if N < 0 then -(valR k : Int) else valR k := by
  obtain ⟨k, hk, e⟩ := h.val hD
  obtain ⟨l, k', e', R', _⟩ := h
  have : k = k' := rung_eq hD hD hk R' rfl
  subst this
  have : min k inf = k := by unfold fin at f; omega
  rw [this] at e
  exact ⟨k, hk, e⟩

/-- a multiple of 2^k stays one -/
theorem rounds_dvd {N : Int} {r k : Nat} (h : Rounds N 1 r) (f : fin r) (hd : ((2 ^ k : Nat) : Int) ∣ N) : ((2 ^ k : Nat) : Int) ∣ V r := by
  obtain ⟨j, R, e⟩ := rounds_fin h f (by decide)
  have := rung_dvd R (Int.ofNat_dvd_left.1 hd)
  rw [e]
  split
  · exact Int.dvd_neg.2 (Int.ofNat_dvd.2 this)
  · exact Int.ofNat_dvd.2 this

/-- TWICE AS MUCH IS ROUNDED TO TWICE AS MUCH, if it is no number near the least ones. -/
theorem rounds_double {N : Int} {r r' k : Nat} (hk : 52 ≤ k) (h : Rounds N 1 r) (h' : Rounds (2 * N) 1 r') (f : fin r) (f' : fin r') (hd : ((2 ^ k : Nat) : Int) ∣ N) : V r' = 2 * V r := by
  obtain ⟨j, R, e⟩ := rounds_fin h f (by decide)
  obtain ⟨j', R', e'⟩ := rounds_fin h' f' (by decide)
  have hn : N.natAbs = 0 ∨ 2 ^ 52 ≤ N.natAbs := by
    rcases Nat.eq_zero_or_pos N.natAbs with h0 | h0
    · exact Or.inl h0
    · exact Or.inr (Nat.le_trans (Nat.pow_le_pow_right (by decide) hk) (Nat.le_of_dvd h0 (Int.ofNat_dvd_left.1 hd)))
  have ea : (2 * N).natAbs = 2 * N.natAbs := by omega
  rw [ea] at R'
  have d := rung_double R R' hn
  rw [e, e', d]
  by_cases c : N < 0
  · rw [if_pos c, if_pos (show 2 * N < 0 by omega)]; omega
  · rw [if_neg c, if_neg (show ¬ 2 * N < 0 by omega)]; omega

/-! ### up to a whole number -/
def cl (n d : Nat) : Nat := n / d + (n % d != 0).toNat
theorem cl_mul (n d c : Nat) (hc : 0 < c) : cl (n * c) (d * c) = cl n d := by
  unfold cl
  rw [Nat.mul_div_mul_right _ _ hc, Nat.mul_mod_mul_right]
  congr 2
  rcases Nat.eq_zero_or_pos (n % d) with h | h
  · rw [h, Nat.zero_mul]
  · have : 0 < n % d * c := Nat.mul_pos h hc
    rw [bne_iff_ne.2 (Nat.ne_of_gt h), bne_iff_ne.2 (Nat.ne_of_gt this)]
theorem cl_le {n d k : Nat} (hd : 0 < d) : cl n d ≤ k ↔ n ≤ k * d := by
  unfold cl
  have h := Nat.div_add_mod n d
  have hm := Nat.mod_lt n hd
  generalize n / d = q at *
  generalize n % d = m at *
  rcases Nat.eq_zero_or_pos m with h0 | h0
  · subst h0
    rw [show ((0 : Nat) != 0) = false from rfl, Bool.toNat_false, Nat.add_zero]
    rw [Nat.add_zero, Nat.mul_comm] at h
    rw [← h]
    exact ⟨fun h => Nat.mul_le_mul_right _ h, fun h => Nat.le_of_mul_le_mul_right h hd⟩
  · rw [bne_iff_ne.2 (Nat.ne_of_gt h0), Bool.toNat_true]
    rw [Nat.mul_comm] at h
    constructor
    · intro hk
      have := Nat.mul_le_mul_right d hk
      rw [Nat.add_mul, Nat.one_mul] at this
      omega
    · intro hk
      apply Nat.lt_of_mul_lt_mul_right (a := d)
      omega
theorem cl_mono {n n' d : Nat} (hd : 0 < d) (h : n ≤ n') : cl n d ≤ cl n' d := by
  rw [cl_le hd]
  exact Nat.le_trans h ((cl_le hd).1 (Nat.le_refl _))

theorem cut_up (n drop : Nat) : Ieee.Toward.cut .up false n drop = cl n (2 ^ drop) := by
  unfold Ieee.Toward.cut cl
  dsimp only
  rw [Nat.one_shiftLeft]
  simp only [Bool.not_false, Bool.true_and]
  by_cases h : drop ≤ n.log2 + 2
  · rw [Nat.min_eq_left h]
  · rw [Nat.min_eq_right (by omega)]
    have hl := lt_two_pow_log2 n
    have e1 : 2 ^ (n.log2 + 1) ≤ 2 ^ (n.log2 + 2) := Nat.pow_le_pow_right (by decide) (by omega)
    have e2 : 2 ^ (n.log2 + 1) ≤ 2 ^ drop := Nat.pow_le_pow_right (by decide) (by omega)
    rw [Nat.div_eq_of_lt (by omega), Nat.div_eq_of_lt (by omega), Nat.mod_eq_of_lt (by omega), Nat.mod_eq_of_lt (by omega)]

/-- math.Ceil of what is not below 0 -/
theorem integral_up {x : Nat} (hx : fin x) (hs : sg x = false) : Ieee.double.write ((Ieee.double.read x).integral .up) = Ieee.double.nearest false (cl (valR (rg x)) U) 0 := by
  obtain ⟨m, i, ex, hi, vx⟩ := read_fin hx
  obtain ⟨K, hK, hU⟩ := U_ex
  rw [ex, hs]
  unfold Ieee.Datum.integral Ieee.Format.write
  dsimp only
  have : cl (m * 2 ^ i.toNat) (2 ^ (-i).toNat) = cl (valR (rg x)) U := by
    rw [← vx, hU]
    rw [← cl_mul (m * 2 ^ i.toNat) _ (2 ^ (K - (-i).toNat)) (Nat.two_pow_pos _)]
    rw [Nat.mul_assoc, ← Nat.pow_add, ← Nat.pow_add, show (-i).toNat + (K - (-i).toNat) = K by omega, show i.toNat + (K - (-i).toNat) = (i + 1074).toNat by omega]
  rw [cut_up, Nat.shiftLeft_eq, this]
def up (x : Nat) : Nat := Ieee.double.write ((Ieee.double.read x).integral .up)
theorem up_spec {x : Nat} (hx : fin x) (hs : sg x = false) (h : cl (valR (rg x)) U < 2 ^ 53) : fin (up x) ∧ V (up x) = (cl (valR (rg x)) U : Int) * (U : Int) ∧ (Ieee.double.read (up x)).toInt .zero = some (cl (valR (rg x)) U : Int) := by
  unfold up
  rw [integral_up hx hs]
  obtain ⟨h1, h2, h3, h4⟩ := nearest_int false _ h
  refine ⟨h1, ?_, ?_⟩
  · rw [V_pos h2, h3, Int.natCast_mul]
  · rw [toInt_zero h1, h2, h3, Nat.mul_div_cancel _ U_pos]; simp
end Fl

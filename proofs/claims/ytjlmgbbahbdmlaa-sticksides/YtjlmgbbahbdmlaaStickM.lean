/- What holds of axis, reach and mix as plain functions: bounds, sides, order, nearness. No program is spoken of here. -/
import Derived.Test.YtjlmgbbahbdmlaaStick
namespace Fl

theorem cln_V {x : Nat} (hx : nn x) : V (cln x) = max (-(U : Int)) (min (U : Int) (V x)) := by
  have hU := Upos
  unfold cln
  by_cases h : V x = 0
  · rw [if_neg (fun e => e.2 h), V_0]; omega
  · rw [if_pos ⟨hx, h⟩]
    split
    · rw [V_one]; omega
    · split
      · rw [V_mone]; omega
      · omega

theorem cln_self {x : Nat} (hx : nn x) (h1 : -(U : Int) ≤ V x) (h2 : V x ≤ (U : Int)) (hz : V x = 0 → x = 0) : cln x = x := by
  unfold cln
  by_cases h : V x = 0
  · rw [if_neg (fun e => e.2 h), hz h]
  · rw [if_pos ⟨hx, h⟩, if_neg (by omega), if_neg (by omega)]

theorem cln_cln {x : Nat} (hl : x < 2 ^ 64) : cln (cln x) = cln x := by
  obtain ⟨h1, _, h3, h4, h5⟩ := cln_spec hl
  exact cln_self h1.nn h3 h4 h5

theorem dz_dz {x : Nat} (hl : x < 2 ^ 64) : dz (dz x) = dz x := by
  obtain ⟨h1, h2, h3, h4, _⟩ := dz_spec hl
  have e : cln (dz x) = dz x := by
    refine cln_self h1.nn (by omega) h4 ?_
    intro h
    unfold dz at h ⊢
    split
    · rfl
    · rename_i hh
      rw [if_neg hh] at h
      exact (cln_spec hl).2.2.2.2 h
  have : dz (dz x) = if V (cln (dz x)) < 0 then 0 else cln (dz x) := rfl
  rw [this, e, if_neg (by omega)]

theorem amt {x : Nat} (hl : x < 2 ^ 64) : fin (rg (cln x)) ∧ V (rg (cln x)) = (V (cln x)).natAbs ∧ V (rg (cln x)) ≤ (U : Int) ∧ 0 ≤ V (rg (cln x)) := by
  obtain ⟨h1, _, h3, h4, _⟩ := cln_spec hl
  obtain ⟨r1, r2, _, _, r5⟩ := V_rg h1.nn
  refine ⟨by unfold fin; rw [r5]; exact h1, r1, by rw [r1]; omega, by rw [r1]; omega⟩

theorem reach_b {x d : Nat} (hx : x < 2 ^ 64) (hd : d < 2 ^ 64) : 0 ≤ rch (rg (cln x)) (dz d) ∧ rch (rg (cln x)) (dz d) ≤ 64 := by
  obtain ⟨a1, _, a3, _⟩ := amt hx
  obtain ⟨g1, g2, g3, _⟩ := dz_spec hd
  exact rch_bounds a1 g1 g2 g3 a3

theorem axis_b {x d : Nat} (hx : x < 2 ^ 64) (hd : d < 2 ^ 64) : -64 ≤ axis x d ∧ axis x d ≤ 64 := by
  have := reach_b hx hd
  unfold axis; split <;> omega

/-- an axis has its number's side -/
theorem axis_side {x d : Nat} (hx : x < 2 ^ 64) (hd : d < 2 ^ 64) : (V (cln x) < 0 → axis x d ≤ 0) ∧ (0 ≤ V (cln x) → 0 ≤ axis x d) := by
  have := reach_b hx hd
  unfold axis
  constructor
  · intro h; rw [if_pos h]; omega
  · intro h; rw [if_neg (by omega)]; omega

theorem axis_prod {x d e : Nat} (hx : x < 2 ^ 64) (hd : d < 2 ^ 64) (he : e < 2 ^ 64) : 0 ≤ axis x d * axis x e ∧ axis x d * axis x e ≤ 4096 := by
  have b1 := axis_b hx hd
  have b2 := axis_b hx he
  have s1 := axis_side hx hd
  have s2 := axis_side hx he
  generalize axis x d = i at *
  generalize axis x e = j at *
  rcases Int.lt_or_le (V (cln x)) 0 with h | h
  · have h1 := s1.1 h
    have h2 := s2.1 h
    have e : i * j = -i * -j := by rw [Int.neg_mul_neg]
    rw [e]
    refine ⟨Int.mul_nonneg (by omega) (by omega), ?_⟩
    have := Int.mul_le_mul (show -i ≤ 64 by omega) (show -j ≤ 64 by omega) (by omega) (by omega)
    omega
  · have h1 := s1.2 h
    have h2 := s2.2 h
    refine ⟨Int.mul_nonneg h1 h2, ?_⟩
    have := Int.mul_le_mul (show i ≤ 64 by omega) (show j ≤ 64 by omega) (by omega) (by omega)
    omega

/-- of a greater number not less -/
theorem axis_mono {x y d : Nat} (hx : x < 2 ^ 64) (hy : y < 2 ^ 64) (hd : d < 2 ^ 64) (nx : nn x) (ny : nn y) (le : V x ≤ V y) : axis x d ≤ axis y d := by
  obtain ⟨a1, a2, a3, a4⟩ := amt hx
  obtain ⟨b1, b2, b3, b4⟩ := amt hy
  obtain ⟨g1, g2, g3, g4, _⟩ := dz_spec hd
  have v1 := cln_V nx
  have v2 := cln_V ny
  have m : V (cln x) ≤ V (cln y) := by omega
  have r1 := reach_b hx hd
  have r2 := reach_b hy hd
  unfold axis
  by_cases h1 : V (cln x) < 0
  · rw [if_pos h1]
    by_cases h2 : V (cln y) < 0
    · rw [if_pos h2]
      have := rch_mono b1 a1 g1 g2 g3 a3 (by rw [a2, b2]; omega)
      omega
    · rw [if_neg h2]; omega
  · rw [if_neg h1, if_neg (by omega)]
    exact rch_mono a1 b1 g1 g2 g3 b3 (by rw [a2, b2]; omega)

/-- turned about it is turned about -/
theorem axis_neg {x d : Nat} (hx : x < 2 ^ 64) (hd : d < 2 ^ 64) : axis (neg x) d = -axis x d := by
  obtain ⟨g1, g2, g3, g4, _⟩ := dz_spec hd
  by_cases nx : nn x
  · have n2 : nn (neg x) := nn_neg.2 nx
    have v1 := cln_V nx
    have v2 := cln_V n2
    rw [V_neg hx] at v2
    have hU := Upos
    have e : V (cln (neg x)) = -V (cln x) := by omega
    obtain ⟨a1, a2, a3, a4⟩ := amt hx
    obtain ⟨b1, b2, b3, b4⟩ := amt (neg_lt hx)
    have ev : V (rg (cln (neg x))) = V (rg (cln x)) := by rw [a2, b2, e]; omega
    have er : rch (rg (cln (neg x))) (dz d) = rch (rg (cln x)) (dz d) :=
      Int.le_antisymm (rch_mono b1 a1 g1 g2 g3 a3 (by omega)) (rch_mono a1 b1 g1 g2 g3 b3 (by omega))
    unfold axis
    rw [e, er]
    rcases Int.lt_trichotomy (V (cln x)) 0 with h | h | h
    · rw [if_neg (by omega), if_pos h]; omega
    · have z : rch (rg (cln x)) (dz d) = 0 := by
        unfold rch; rw [if_pos (by rw [a2, h]; simpa using g3)]
      rw [z]; split <;> split <;> rfl
    · rw [if_pos (by omega), if_neg (by omega)]
  · have n2 : ¬ nn (neg x) := fun h => nx (nn_neg.1 h)
    have c1 : cln x = 0 := by unfold cln; rw [if_neg (fun e => nx e.1)]
    have c2 : cln (neg x) = 0 := by unfold cln; rw [if_neg (fun e => n2 e.1)]
    unfold axis
    rw [c1, c2]
    have z : rch (rg 0) (dz d) = 0 := by unfold rch; rw [if_pos (by rw [show rg 0 = 0 from rfl, V_0]; exact g3)]
    rw [z]; split <;> rfl

theorem axis_flt : ∀ k : Fin 129, axis (flt ((k : Nat) - 64 : Int)) 0 = ((k : Nat) - 64 : Int) := by decide +kernel
theorem flt_lt : ∀ k : Fin 129, flt ((k : Nat) - 64 : Int) < 18446744073709551616 := by decide +kernel

theorem axis_flt' (n : Int) (h1 : -64 ≤ n) (h2 : n ≤ 64) : axis (flt n) 0 = n ∧ flt n < 18446744073709551616 := by
  have e : ((((n + 64).toNat : Nat) : Int) - 64) = n := by omega
  have a := axis_flt ⟨(n + 64).toNat, by omega⟩
  have b := flt_lt ⟨(n + 64).toNat, by omega⟩
  dsimp only at a b
  rw [e] at a b
  exact ⟨a, b⟩

/-- within the dead zone, at the ends, between -/
theorem axis_dead {x d : Nat} (hx : x < 2 ^ 64) (h1 : V (cln x) ≤ V (dz d)) (h2 : -V (dz d) ≤ V (cln x)) : axis x d = 0 := by
  obtain ⟨a1, a2, a3, a4⟩ := amt hx
  have z : rch (rg (cln x)) (dz d) = 0 := by unfold rch; rw [if_pos (by rw [a2]; omega)]
  unfold axis; rw [z]; split <;> rfl
theorem axis_top {x d : Nat} (hx : x < 2 ^ 64) (h1 : V (dz d) < (U : Int)) (h2 : V (cln x) = (U : Int)) : axis x d = 64 := by
  obtain ⟨a1, a2, a3, a4⟩ := amt hx
  have hU := Upos
  have z : rch (rg (cln x)) (dz d) = 64 := by unfold rch; rw [if_neg (by rw [a2]; omega), if_pos (by rw [a2]; omega)]
  unfold axis; rw [z, if_neg (by omega)]
theorem axis_bot {x d : Nat} (hx : x < 2 ^ 64) (h1 : V (dz d) < (U : Int)) (h2 : V (cln x) = -(U : Int)) : axis x d = -64 := by
  obtain ⟨a1, a2, a3, a4⟩ := amt hx
  have hU := Upos
  have z : rch (rg (cln x)) (dz d) = 64 := by unfold rch; rw [if_neg (by rw [a2]; omega), if_pos (by rw [a2]; omega)]
  unfold axis; rw [z, if_pos (by omega)]

/-! ### nearness -/
theorem rne_near (n d : Nat) (hd : 0 < d) : 2 * n ≤ (2 * rne n d + 1) * d ∧ (2 * rne n d) * d ≤ 2 * n + d := by
  constructor
  · have := (rne_le_iff (n := n) (rne n d) hd).1 (Nat.le_refl _)
    rcases this with h | h <;> omega
  · rcases Nat.eq_zero_or_pos (rne n d) with h | h
    · rw [h]; omega
    · have h1 : ¬ rne n d ≤ rne n d - 1 := by omega
      rw [rne_le_iff _ hd] at h1
      have h2 : (2 * (rne n d - 1) + 1) * d ≤ 2 * n := by omega
      have e : 2 * rne n d = 2 * (rne n d - 1) + 1 + 1 := by omega
      rw [e, Nat.add_mul, Nat.one_mul]; omega

theorem flt_V : ∀ k : Fin 129, 64 * V (flt ((k : Nat) - 64 : Int)) = ((k : Nat) - 64 : Int) * (U : Int) ∧ fin (flt ((k : Nat) - 64 : Int)) := by decide +kernel
theorem flt_V' (n : Int) (h1 : -64 ≤ n) (h2 : n ≤ 64) : 64 * V (flt n) = n * (U : Int) ∧ fin (flt n) := by
  have e : ((((n + 64).toNat : Nat) : Int) - 64) = n := by omega
  have a := flt_V ⟨(n + 64).toNat, by omega⟩
  dsimp only at a
  rw [e] at a
  exact a

theorem dz_0 : dz 0 = 0 := by decide +kernel

/-- without a dead zone: the nearest of its steps -/
theorem reach_near {a : Nat} (ha : fin a) (la : a < 2 ^ 64) (h0 : 0 ≤ V a) (h1 : V a ≤ (U : Int)) : 128 * V a ≤ (2 * rch a 0 + 1) * (U : Int) ∧ 2 * rch a 0 * (U : Int) ≤ 128 * V a + (U : Int) := by
  have hU := Upos
  unfold rch
  rw [V_0]
  by_cases c1 : V a ≤ 0
  · rw [if_pos c1]; omega
  rw [if_neg c1]
  by_cases c2 : V a = (U : Int)
  · rw [if_pos c2]; omega
  rw [if_neg c2]
  have M := mid_spec ha fin_0 (by decide) (by rw [V_0]; omega) (by rw [V_0]; omega) h1
  have r1 := M.r1
  have r2 := M.r2
  have r3 := M.r3
  have r4 := M.r4
  rw [V_0] at r1 r2
  have v1 : V (subw a 0) = V a := rounds_exact (by decide) r1 ha.nn la (by omega)
  have v2 : V (subw one 0) = V one := rounds_exact (by decide) r2 fin_one.nn one_lt (by rw [V_one]; omega)
  rw [V_one] at v2
  rw [v1, v2, Int.toNat_natCast] at r3
  have v3 : V (divw (subw a 0) (subw one 0)) = V a := rounds_exact U_pos r3 ha.nn la rfl
  rw [v3] at r4
  obtain ⟨r', hr'⟩ := rep_mul (rg a) 6
  have sa : sg a = false := sg_of_pos (by omega)
  have va : V a = (valR (rg a) : Int) := by unfold V; rw [sa]; simp
  have li : r' < inf := by
    rw [← valR_lt_iff, hr']
    have := (V_lt_inf fin_s64).2
    rw [V_s64] at this
    omega
  have l63 : r' < 2 ^ 63 := Nat.lt_trans li inf_lt
  have g1 : rg r' = r' := by unfold rg; exact Nat.mod_eq_of_lt l63
  have g2 : sg r' = false := by unfold sg; rw [Nat.div_eq_of_lt l63]; rfl
  have g3 : V r' = 64 * V a := by
    unfold V; rw [g1, g2, sa, hr']; simp only [Bool.false_eq_true, if_false]; omega
  have v4 : V (scl a 0) = V r' := rounds_exact U_pos r4 (by unfold nn; rw [g1]; omega) (by omega) (by
    rw [g3, ← Int.mul_assoc, Int.mul_comm (V a) 64])
  rw [g3] at v4
  have v5 : V (scl a 0) = (valR (rg (scl a 0)) : Int) := by unfold V; rw [M.sgm]; simp
  have e : valR (rg (scl a 0)) = 64 * valR (rg a) := by omega
  have near := rne_near (64 * valR (rg a)) U U_pos
  unfold mid
  rw [e]
  generalize rne (64 * valR (rg a)) U = k at *
  have n1 : ((2 * (64 * valR (rg a)) : Nat) : Int) ≤ (((2 * k + 1) * U : Nat) : Int) := Int.ofNat_le.2 near.1
  have n2 : ((2 * k * U : Nat) : Int) ≤ ((2 * (64 * valR (rg a)) + U : Nat) : Int) := Int.ofNat_le.2 near.2
  rw [Int.natCast_mul (2 * k + 1)] at n1
  rw [Int.natCast_mul (2 * k)] at n2
  rw [va]
  constructor
  · have : ((2 * k + 1 : Nat) : Int) = 2 * (k : Int) + 1 := by omega
    rw [this] at n1; omega
  · have : ((2 * k : Nat) : Int) = 2 * (k : Int) := by omega
    rw [this] at n2; omega

theorem axis_near {x : Nat} (hx : x < 2 ^ 64) : 128 * V (cln x) ≤ (2 * axis x 0 + 1) * (U : Int) ∧ (2 * axis x 0 - 1) * (U : Int) ≤ 128 * V (cln x) := by
  obtain ⟨a1, a2, a3, a4⟩ := amt hx
  have la : rg (cln x) < 2 ^ 64 := (V_rg (cln_spec hx).1.nn).2.2.1
  have near := reach_near a1 la a4 a3
  unfold axis
  rw [dz_0]
  generalize rch (rg (cln x)) 0 = k at *
  have e1 : (2 * k + 1) * (U : Int) = 2 * (k * (U : Int)) + (U : Int) := by rw [Int.add_mul, Int.mul_assoc, Int.one_mul]
  have e2 : 2 * k * (U : Int) = 2 * (k * (U : Int)) := by rw [Int.mul_assoc]
  have e3 : (2 * -k + 1) * (U : Int) = -(2 * (k * (U : Int))) + (U : Int) := by rw [Int.add_mul, Int.mul_assoc, Int.one_mul, Int.neg_mul]; omega
  have e4 : (2 * -k - 1) * (U : Int) = -(2 * (k * (U : Int))) - (U : Int) := by rw [Int.sub_mul, Int.mul_assoc, Int.one_mul, Int.neg_mul]; omega
  have e5 : (2 * k - 1) * (U : Int) = 2 * (k * (U : Int)) - (U : Int) := by rw [Int.sub_mul, Int.mul_assoc, Int.one_mul]
  rw [e1, e2] at near
  split
  · rw [e3, e4]; omega
  · rw [e1, e5]; omega

def c128 : Nat := 4575657221408423936
def cm128 : Nat := 13799029258263199744
theorem V_c128 : 128 * V c128 = (U : Int) := by decide +kernel
theorem V_cm128 : 128 * V cm128 = -(U : Int) := by decide +kernel
theorem fin_c128 : fin c128 := by decide +kernel
theorem fin_cm128 : fin cm128 := by decide +kernel

/-- what is told back is no farther than half a step -/
theorem back_near {x : Nat} (hx : x < 2 ^ 64) : ∃ r, Ieee.double.sub (flt (axis (cln x) 0)) (cln x) = some r ∧ nn r ∧ V r ≤ V c128 ∧ V cm128 ≤ V r := by
  obtain ⟨h1, h2, h3, h4, h5⟩ := cln_spec hx
  have near := axis_near h2
  rw [cln_cln hx] at near
  have b := axis_b h2 (show 0 < 2 ^ 64 by decide)
  obtain ⟨e, f⟩ := flt_V' (axis (cln x) 0) b.1 b.2
  obtain ⟨r, er, R, _⟩ := sub_fin f h1 h2
  have hc := V_c128
  have hm := V_cm128
  have e5 : (2 * axis (cln x) 0 - 1) * (U : Int) = 2 * (axis (cln x) 0 * (U : Int)) - (U : Int) := by rw [Int.sub_mul, Int.mul_assoc, Int.one_mul]
  have e6 : (2 * axis (cln x) 0 + 1) * (U : Int) = 2 * (axis (cln x) 0 * (U : Int)) + (U : Int) := by rw [Int.add_mul, Int.mul_assoc, Int.one_mul]
  rw [e5, e6, ← e] at near
  refine ⟨r, er, R.nn, rounds_le (by decide) R fin_c128.nn (by decide +kernel) (by omega), le_rounds (by decide) R fin_cm128.nn (by decide +kernel) (by omega)⟩

end Fl

/- Sticks as plain functions on words: cleaning, reach, axis; that the reach grows with the amount. No program is spoken of here. -/
import Derived.Test.YtfebpbahincieaaFl
namespace Fl
/-! ### sticks -/
instance (x : Nat) : Decidable (nn x) := inferInstanceAs (Decidable (_ ≤ _))
instance (x : Nat) : Decidable (fin x) := inferInstanceAs (Decidable (_ < _))

def one : Nat := 4607182418800017408
def mone : Nat := 13830554455654793216
def s64 : Nat := 4634204016564240384

theorem V_one : V one = (U : Int) := by decide +kernel
theorem V_mone : V mone = -(U : Int) := by decide +kernel
theorem V_s64 : V s64 = 64 * (U : Int) := by decide +kernel
theorem fin_one : fin one := by decide +kernel
theorem fin_mone : fin mone := by decide +kernel
theorem fin_s64 : fin s64 := by decide +kernel
theorem one_lt : one < 2 ^ 64 := by decide +kernel
theorem mone_lt : mone < 2 ^ 64 := by decide +kernel
theorem s64_lt : s64 < 2 ^ 64 := by decide +kernel
theorem V_0 : V 0 = 0 := by decide +kernel
theorem fin_0 : fin 0 := by decide +kernel

def cln (x : Nat) : Nat := if nn x ∧ V x ≠ 0 then (if (U : Int) < V x then one else if V x < -(U : Int) then mone else x) else 0

theorem Upos : (0 : Int) < (U : Int) := Int.natCast_pos.2 U_pos

theorem valR_le_U_fin {x : Nat} (hx : nn x) (h1 : -(U : Int) ≤ V x) (h2 : V x ≤ (U : Int)) : fin x := by
  rcases Nat.lt_or_eq_of_le hx with h | h
  · exact h
  · exfalso
    have e := V_inf h
    have : V one < valR inf := (V_lt_inf fin_one).2
    rw [V_one] at this
    rw [e] at h1 h2
    cases hs : sg x
    · rw [hs] at h2; simp only [Bool.false_eq_true, if_false] at h2; omega
    · rw [hs] at h1; simp only [if_true] at h1; omega

theorem cln_spec {x : Nat} (hl : x < 2 ^ 64) : fin (cln x) ∧ cln x < 2 ^ 64 ∧ -(U : Int) ≤ V (cln x) ∧ V (cln x) ≤ (U : Int) ∧ (V (cln x) = 0 → cln x = 0) := by
  have hU := Upos
  unfold cln
  split
  · rename_i h
    split
    · refine ⟨fin_one, one_lt, ?_, ?_, ?_⟩ <;> rw [V_one] <;> omega
    · split
      · refine ⟨fin_mone, mone_lt, ?_, ?_, ?_⟩ <;> rw [V_mone] <;> omega
      · refine ⟨valR_le_U_fin h.1 (by omega) (by omega), hl, by omega, by omega, fun e => absurd e h.2⟩
  · refine ⟨fin_0, by decide, ?_, ?_, fun _ => rfl⟩ <;> rw [V_0] <;> omega

/-- the amount -/
theorem V_rg {x : Nat} (hx : nn x) : V (rg x) = (V x).natAbs ∧ nn (rg x) ∧ rg x < 2 ^ 64 ∧ sg (rg x) = false ∧ rg (rg x) = rg x := by
  have h : rg x < 2 ^ 63 := nn_lt hx
  have e1 : rg (rg x) = rg x := by unfold rg at *; omega
  have e2 : sg (rg x) = false := by
    unfold sg
    rw [Nat.div_eq_of_lt h]; rfl
  refine ⟨?_, by unfold nn; rw [e1]; exact hx, by omega, e2, e1⟩
  unfold V; rw [e1, e2]; simp only [Bool.false_eq_true, if_false]; split <;> omega

/-- the dead zone -/
def dz (d : Nat) : Nat := if V (cln d) < 0 then 0 else cln d
theorem dz_spec {d : Nat} (hl : d < 2 ^ 64) : fin (dz d) ∧ dz d < 2 ^ 64 ∧ 0 ≤ V (dz d) ∧ V (dz d) ≤ (U : Int) ∧ V (dz d) = max 0 (V (cln d)) := by
  obtain ⟨h1, h2, h3, h4, h5⟩ := cln_spec hl
  have hU := Upos
  unfold dz
  split
  · refine ⟨fin_0, by decide, ?_, ?_, ?_⟩ <;> rw [V_0] <;> omega
  · exact ⟨h1, h2, by omega, h4, by omega⟩

def subw (x y : Nat) : Nat := (Ieee.double.sub x y).getD 0
def divw (x y : Nat) : Nat := (Ieee.double.div x y).getD 0
def mulw (x y : Nat) : Nat := (Ieee.double.mul x y).getD 0
def addw (x y : Nat) : Nat := (Ieee.double.add x y).getD 0
/-- the part of what is beyond the dead zone, in steps of the axis -/
def scl (a d : Nat) : Nat := mulw (divw (subw a d) (subw one d)) s64
def rnd (a d : Nat) : Nat := Ieee.double.write ((Ieee.double.read (scl a d)).integral .even)
def mid (a d : Nat) : Nat := rne (valR (rg (scl a d))) U
def rch (a d : Nat) : Int := if V a ≤ V d then 0 else if V a = (U : Int) then 64 else mid a d

structure Mid (a d : Nat) : Prop where
  s1 : Ieee.double.sub a d = some (subw a d)
  s2 : Ieee.double.sub one d = some (subw one d)
  q : Ieee.double.div (subw a d) (subw one d) = some (divw (subw a d) (subw one d))
  m : Ieee.double.mul (divw (subw a d) (subw one d)) s64 = some (scl a d)
  le : mid a d ≤ 64
  int : (Ieee.double.read (rnd a d)).toInt .zero = some (mid a d : Int)
  num : ∃ neg mg p, Ieee.double.read (scl a d) = .number neg mg p
  r1 : Rounds (V a - V d) 1 (subw a d)
  r2 : Rounds ((U : Int) - V d) 1 (subw one d)
  r3 : Rounds (V (subw a d) * (U : Int)) (V (subw one d)).toNat (divw (subw a d) (subw one d))
  r4 : Rounds (V (divw (subw a d) (subw one d)) * (64 * (U : Int))) U (scl a d)
  p1 : 0 ≤ V (subw a d)
  p2 : 0 < V (subw one d)
  p3 : 0 ≤ V (divw (subw a d) (subw one d)) ∧ V (divw (subw a d) (subw one d)) ≤ (U : Int)
  p4 : 0 ≤ V (scl a d)
  sgm : sg (scl a d) = false
  finm : fin (scl a d)

theorem sg_of_pos {x : Nat} (h : 0 < V x) : sg x = false := by
  cases hs : sg x
  · rfl
  · unfold V at h; rw [hs] at h; simp at h; omega

theorem V_1 : V 1 = 1 := by decide +kernel
theorem fin_1 : fin 1 := by decide +kernel

theorem mid_spec {a d : Nat} (ha : fin a) (hd : fin d) (ld : d < 2 ^ 64) (h0 : 0 ≤ V d) (h1 : V d < V a) (h2 : V a ≤ (U : Int)) : Mid a d := by
  have hU := Upos
  obtain ⟨r1, e1, R1, _⟩ := sub_fin ha hd ld
  obtain ⟨r2, e2, R2, _⟩ := sub_fin fin_one hd ld
  rw [V_one] at R2
  have g1 : subw a d = r1 := by unfold subw; rw [e1]; rfl
  have g2 : subw one d = r2 := by unfold subw; rw [e2]; rfl
  have p1 : V 1 ≤ V r1 := le_rounds (by decide) R1 fin_1.nn (by decide) (by rw [V_1]; omega)
  have p2 : V 1 ≤ V r2 := le_rounds (by decide) R2 fin_1.nn (by decide) (by rw [V_1]; omega)
  have u1 : V r1 ≤ V one := rounds_le (by decide) R1 fin_one.nn one_lt (by rw [V_one]; omega)
  have u2 : V r2 ≤ V one := rounds_le (by decide) R2 fin_one.nn one_lt (by rw [V_one]; omega)
  have m12 : V r1 ≤ V r2 := rounds_mono (by decide) (by decide) R1 R2 (by omega)
  rw [V_1] at p1 p2
  rw [V_one] at u1 u2
  have f1 : fin r1 := valR_le_U_fin R1.nn (by omega) u1
  have f2 : fin r2 := valR_le_U_fin R2.nn (by omega) u2
  obtain ⟨q, e3, R3, s3⟩ := div_fin f1 f2 (by omega)
  have g3 : divw r1 r2 = q := by unfold divw; rw [e3]; rfl
  have hD : ((V r2).toNat : Int) = V r2 := Int.toNat_of_nonneg (by omega)
  have pq : V 0 ≤ V q := le_rounds (by omega) R3 fin_0.nn (by decide) (by rw [V_0, Int.zero_mul]; exact Int.mul_nonneg (by omega) (by omega))
  have uq : V q ≤ V one := rounds_le (by omega) R3 fin_one.nn one_lt (by
    rw [V_one, hD, Int.mul_comm (U : Int)]; exact Int.mul_le_mul_of_nonneg_right m12 (by omega))
  rw [V_0] at pq
  rw [V_one] at uq
  have fq : fin q := valR_le_U_fin R3.nn (by omega) uq
  obtain ⟨m, e4, R4, s4⟩ := mul_fin fq fin_s64
  rw [V_s64] at R4
  have g4 : mulw q s64 = m := by unfold mulw; rw [e4]; rfl
  have pm : V 0 ≤ V m := le_rounds U_pos R4 fin_0.nn (by decide) (by rw [V_0, Int.zero_mul]; exact Int.mul_nonneg pq (by omega))
  have um : V m ≤ V s64 := rounds_le U_pos R4 fin_s64.nn s64_lt (by
    rw [V_s64, Int.mul_comm (64 * (U : Int))]; exact Int.mul_le_mul_of_nonneg_right uq (by omega))
  rw [V_0] at pm
  rw [V_s64] at um
  have sq : sg q = false := by rw [s3]; exact sg_of_pos (by omega)
  have sm : sg m = false := by rw [s4, sq]; decide +kernel
  have vm : V m = (valR (rg m) : Int) := by unfold V; rw [sm]; simp
  have fm : fin m := by
    rcases Nat.lt_or_eq_of_le R4.nn with h | h
    · exact h
    · exfalso
      have e := V_inf h
      rw [sm] at e; simp only [Bool.false_eq_true, if_false] at e
      have := (V_lt_inf fin_s64).2
      rw [V_s64] at this
      omega
  have le : rne (valR (rg m)) U ≤ 64 := by
    have := rne_mono (n := valR (rg m)) (n' := 64 * U) U_pos U_pos (Nat.mul_le_mul_right _ (by omega))
    rwa [rne_whole _ _ U_pos] at this
  have hs : scl a d = m := by unfold scl; rw [g1, g2, g3, g4]
  have hmid : mid a d = rne (valR (rg m)) U := by unfold mid; rw [hs]
  have e5 := round_int fm (by omega)
  rw [sm] at e5
  simp only [Bool.false_eq_true, if_false] at e5
  obtain ⟨mg, p, er, _⟩ := read_fin fm
  exact
    { s1 := by rw [g1]; exact e1
      s2 := by rw [g2]; exact e2
      q := by rw [g1, g2, g3]; exact e3
      m := by rw [hs, g1, g2, g3]; exact e4
      le := by rw [hmid]; exact le
      int := by unfold rnd; rw [hs, hmid]; exact e5
      num := ⟨_, _, _, by rw [hs]; exact er⟩
      r1 := by rw [g1]; exact R1
      r2 := by rw [g2]; exact R2
      r3 := by rw [g1, g2, g3]; exact R3
      r4 := by rw [hs, g1, g2, g3]; exact R4
      p1 := by rw [g1]; omega
      p2 := by rw [g2]; omega
      p3 := by rw [g1, g2, g3]; exact ⟨pq, uq⟩
      p4 := by rw [hs]; exact pm
      sgm := by rw [hs]; exact sm
      finm := by rw [hs]; exact fm }

theorem rch_bounds {a d : Nat} (ha : fin a) (hd : fin d) (ld : d < 2 ^ 64) (h0 : 0 ≤ V d) (h2 : V a ≤ (U : Int)) : 0 ≤ rch a d ∧ rch a d ≤ 64 := by
  unfold rch
  split
  · omega
  · split
    · omega
    · have := (mid_spec ha hd ld h0 (by omega) h2).le
      omega

/-- OF A GREATER AMOUNT THE REACH IS NOT LESS. -/
theorem rch_mono {a b d : Nat} (ha : fin a) (hb : fin b) (hd : fin d) (ld : d < 2 ^ 64) (h0 : 0 ≤ V d) (hbU : V b ≤ (U : Int)) (hab : V a ≤ V b) : rch a d ≤ rch b d := by
  have hbd := rch_bounds hb hd ld h0 hbU
  have had := rch_bounds ha hd ld h0 (by omega)
  unfold rch at *
  by_cases c1 : V a ≤ V d
  · rw [if_pos c1]; exact hbd.1
  · rw [if_neg c1] at had ⊢
    rw [if_neg (show ¬ V b ≤ V d by omega)] at hbd ⊢
    by_cases c2 : V b = (U : Int)
    · rw [if_pos c2]; exact had.2
    · rw [if_neg c2, if_neg (show ¬ V a = (U : Int) by omega)]
      have A := mid_spec ha hd ld h0 (by omega) (by omega)
      have B := mid_spec hb hd ld h0 (by omega) hbU
      have t1 : V (subw a d) ≤ V (subw b d) := rounds_mono (by decide) (by decide) A.r1 B.r1 (by omega)
      have hU := Upos
      have hp := A.p2
      have t2 : V (divw (subw a d) (subw one d)) ≤ V (divw (subw b d) (subw one d)) := by
        refine rounds_mono (by omega) (by omega) A.r3 B.r3 ?_
        exact Int.mul_le_mul_of_nonneg_right (Int.mul_le_mul_of_nonneg_right t1 (by omega)) (by omega)
      have t3 : V (scl a d) ≤ V (scl b d) := by
        refine rounds_mono U_pos U_pos A.r4 B.r4 ?_
        exact Int.mul_le_mul_of_nonneg_right (Int.mul_le_mul_of_nonneg_right t2 (by omega)) (by omega)
      have va : V (scl a d) = (valR (rg (scl a d)) : Int) := by unfold V; rw [A.sgm]; simp
      have vb : V (scl b d) = (valR (rg (scl b d)) : Int) := by unfold V; rw [B.sgm]; simp
      have : mid a d ≤ mid b d := rne_mono U_pos U_pos (Nat.mul_le_mul_right _ (by omega))
      omega

def axis (x d : Nat) : Int := if V (cln x) < 0 then -rch (rg (cln x)) (dz d) else rch (rg (cln x)) (dz d)

def ofI (n : Int) : Nat := Ieee.double.nearest (n < 0) n.natAbs 0
def flt (n : Int) : Nat := divw (ofI (min (max n (-64)) 64)) s64
def mix (a b : Nat) : Nat := cln (addw (cln a) (cln b))

theorem mix_add {a b : Nat} (ha : a < 2 ^ 64) (hb : b < 2 ^ 64) : Ieee.double.add (cln a) (cln b) = some (addw (cln a) (cln b)) ∧ addw (cln a) (cln b) < 2 ^ 64 := by
  obtain ⟨f1, _⟩ := cln_spec ha
  obtain ⟨f2, _⟩ := cln_spec hb
  obtain ⟨r, e, R, _⟩ := add_fin f1 f2
  unfold addw; rw [e]
  exact ⟨rfl, R.1⟩
theorem mix_comm (a b : Nat) : mix a b = mix b a := by unfold mix addw; rw [add_comm]

theorem flt_div (n : Int) (h1 : -64 ≤ n) (h2 : n ≤ 64) : Ieee.double.div (ofI n) s64 = some (divw (ofI n) s64) ∧ divw (ofI n) s64 < 2 ^ 64 := by
  obtain ⟨f, _, _⟩ := ofInt_V n (by have : (64 : Nat) < 2 ^ 53 := by decide
                                    omega)
  obtain ⟨r, e, R, _⟩ := div_fin f fin_s64 (by rw [V_s64]; have := Upos; omega)
  unfold divw ofI; rw [e]
  exact ⟨rfl, R.1⟩

end Fl

/- Two Meters of which one is told twice what the other is told. No program is spoken of here. -/
import Derived.Test.YtfebpbahincieaaMetr
namespace Fl
namespace Metr

theorem dvd_less {a b : Nat} {n : Int} (h : ((2 ^ a : Nat) : Int) ∣ n) (hb : b ≤ a) : ((2 ^ b : Nat) : Int) ∣ n :=
  Int.dvd_trans (Int.ofNat_dvd.2 (Nat.pow_dvd_pow 2 hb)) h
/-- a quotient by 2^j of a multiple of 2^k -/
theorem rounds_part {N : Int} {D r j k : Nat} (hD : D = 2 ^ j) (hj : j ≤ k) (R : Rounds N D r) (hd : ((2 ^ k : Nat) : Int) ∣ N) : ∃ M : Int, N = M * (D : Int) ∧ Rounds M 1 r ∧ ((2 ^ (k - j) : Nat) : Int) ∣ M := by
  obtain ⟨c, hc⟩ := hd
  have e : 2 ^ k = 2 ^ (k - j) * 2 ^ j := by rw [← Nat.pow_add, Nat.sub_add_cancel hj]
  have p : 0 < D := by rw [hD]; exact Nat.two_pow_pos _
  refine ⟨((2 ^ (k - j) : Nat) : Int) * c, ?_, ?_, ⟨c, rfl⟩⟩
  · rw [hc, e, hD, Int.natCast_mul, Int.mul_assoc, Int.mul_comm _ c, ← Int.mul_assoc]
  · refine rounds_congr p (by decide) R ?_
    rw [hc, e, hD, Int.natCast_mul, Int.natCast_one, Int.mul_one, Int.mul_assoc, Int.mul_comm _ c, ← Int.mul_assoc]

structure Tw (i : Nat) (s t : S) : Prop where
  os : s.ok
  ot : t.ok
  cs : s.count = i
  ct : t.count = i
  m : V t.mean = 2 * V s.mean
  j : V t.jit = 2 * V s.jit
  dm : ((2 ^ (1071 - 3 * i) : Nat) : Int) ∣ V s.mean
  dj : ((2 ^ (1071 - 3 * i) : Nat) : Int) ∣ V s.jit

theorem Tw.zero : Tw 0 zero zero :=
  ⟨zero_ok, zero_ok, rfl, rfl, by show V 0 = 2 * V 0; rw [V_0]; rfl, by show V 0 = 2 * V 0; rw [V_0]; rfl, by show _ ∣ V 0; rw [V_0]; exact Int.dvd_zero _, by show _ ∣ V 0; rw [V_0]; exact Int.dvd_zero _⟩

theorem Tw.more {i : Nat} {s t : S} (h : Tw i s t) (hi : i < 60) {x y : Nat} (lx : x < 2 ^ 64) (ly : y < 2 ^ 64) (hx : sample x) (hy : sample y) (e : V y = 2 * V x) {K : Nat} (hK : 1071 ≤ K) (hd : ((2 ^ K : Nat) : Int) ∣ V x) : Tw (i + 1) (s.note x) (t.note y) := by
  have o1 := note_ok h.os lx hx
  have o2 := note_ok h.ot ly hy
  have n1 : (s.note x).count = ((i + 1 : Nat) : Int) := by rw [note_count, h.cs]; omega
  have n2 : (t.note y).count = ((i + 1 : Nat) : Int) := by rw [note_count, h.ct]; omega
  obtain ⟨k0, hk0⟩ : ∃ k0, k0 = 1071 - 3 * i := ⟨_, rfl⟩
  obtain ⟨k1, hk1⟩ : ∃ k1, k1 = 1071 - 3 * (i + 1) := ⟨_, rfl⟩
  have dm := h.dm
  have dj := h.dj
  rw [← hk0] at dm dj
  have dx : ((2 ^ k0 : Nat) : Int) ∣ V x := dvd_less hd (by omega)
  clear hd
  by_cases c : s.count = 0
  · have c' : t.count = 0 := by rw [h.ct, ← h.cs]; exact c
    rw [note_first c] at o1 n1 ⊢
    rw [note_first c'] at o2 n2 ⊢
    have v1 := (V_rg hx.1).1
    have v2 := (V_rg hy.1).1
    have p1 := hx.2.1
    refine ⟨o1, o2, n1, n2, by show V (rg y) = 2 * V (rg x); omega, h.j, ?_, ?_⟩
    · show ((2 ^ (1071 - 3 * (i + 1)) : Nat) : Int) ∣ V (rg x)
      rw [← hk1, v1]
      exact Int.dvd_natAbs.2 (dvd_less dx (by omega))
    · show ((2 ^ (1071 - 3 * (i + 1)) : Nat) : Int) ∣ V s.jit
      rw [← hk1]
      exact dvd_less dj (by omega)
  · have c' : ¬ t.count = 0 := by rw [h.ct, ← h.cs]; exact c
    rw [note_later c] at o1 n1 ⊢
    rw [note_later c'] at o2 n2 ⊢
    have F := foll h.os lx hx
    have F' := foll h.ot ly hy
    have hm := h.m
    have hj := h.j
    -- the difference
    have d1 : ((2 ^ k0 : Nat) : Int) ∣ V x - V s.mean := Int.dvd_sub dx dm
    have r1 := F'.r1
    rw [e, hm, show 2 * V x - 2 * V s.mean = 2 * (V x - V s.mean) by omega] at r1
    have D := rounds_double (k := k0) (by omega) F.r1 r1 F.f1 F'.f1 d1
    have Dd := rounds_dvd F.r1 F.f1 d1
    -- the amount less the jitter
    have d2 : ((2 ^ k0 : Nat) : Int) ∣ ((V (s.dif x)).natAbs : Int) - V s.jit := Int.dvd_sub (Int.dvd_natAbs.2 Dd) dj
    have r2 := F'.r2
    rw [D, hj, show ((2 * V (s.dif x)).natAbs : Int) - 2 * V s.jit = 2 * (((V (s.dif x)).natAbs : Int) - V s.jit) by omega] at r2
    have O := rounds_double (k := k0) (by omega) F.r2 r2 F.f2 F'.f2 d2
    have Od := rounds_dvd F.r2 F.f2 d2
    -- a quarter
    obtain ⟨M, m1, m2, m3⟩ := rounds_part (j := 2) (by decide) (by omega) F.r3 Od
    have r3 : Rounds (2 * M) 1 (t.qrt y) := rounds_congr (by decide) (by decide) F'.r3 (by rw [O, m1]; omega)
    have Q := rounds_double (k := k0 - 2) (by omega) m2 r3 F.f3 F'.f3 m3
    have Qd := dvd_less (rounds_dvd m2 F.f3 m3) (show k1 ≤ k0 - 2 by omega)
    -- the jitter
    have d4 : ((2 ^ k1 : Nat) : Int) ∣ V s.jit + V (s.qrt x) := Int.dvd_add (dvd_less dj (by omega)) Qd
    have r4 := F'.r4
    rw [hj, Q, show 2 * V s.jit + 2 * V (s.qrt x) = 2 * (V s.jit + V (s.qrt x)) by omega] at r4
    have J := rounds_double (k := k1) (by omega) F.r4 r4 F.f4 F'.f4 d4
    have Jd := rounds_dvd F.r4 F.f4 d4
    -- an eighth
    obtain ⟨P, p1, p2, p3⟩ := rounds_part (j := 3) (by decide) (by omega) F.r5 Dd
    have r5 : Rounds (2 * P) 1 (t.eig y) := rounds_congr (by decide) (by decide) F'.r5 (by rw [D, p1]; omega)
    have E := rounds_double (k := k0 - 3) (by omega) p2 r5 F.f5 F'.f5 p3
    have Ed := dvd_less (rounds_dvd p2 F.f5 p3) (show k1 ≤ k0 - 3 by omega)
    -- the mean
    have d6 : ((2 ^ k1 : Nat) : Int) ∣ V s.mean + V (s.eig x) := Int.dvd_add (dvd_less dm (by omega)) Ed
    have r6 := F'.r6
    rw [hm, E, show 2 * V s.mean + 2 * V (s.eig x) = 2 * (V s.mean + V (s.eig x)) by omega] at r6
    have A := rounds_double (k := k1) (by omega) F.r6 r6 F.f6 F'.f6 d6
    have Ad := rounds_dvd F.r6 F.f6 d6
    rw [hk1] at Ad Jd
    exact ⟨o1, o2, n1, n2, A, J, Ad, Jd⟩

/-- twice a word whose double is a word -/
theorem twice {a b : Nat} (fa : Fl.fin a) (fb : Fl.fin b) (lb : b < 2 ^ 64) (e : V b = 2 * V a) : ∃ r, Ieee.double.mul two a = some r ∧ Fl.fin r ∧ r < 2 ^ 64 ∧ V r = V b := by
  obtain ⟨r, e1, R', _⟩ := mul_fin fin_two fa
  have R : Rounds (2 * V a) 1 r := by
    refine rounds_congr U_pos (by decide) R' ?_
    rw [V_two, Int.natCast_one, Int.mul_one, Int.mul_assoc, Int.mul_assoc, Int.mul_comm (U : Int)]
  have v := rounds_exact (w := b) (by decide) R fb.nn lb (by rw [e, Int.natCast_one, Int.mul_one])
  exact ⟨r, e1, fin_of R.nn fb fb (by omega) (by omega), R.1, v⟩

/-- k / 8 -/
theorem eighth (k : Nat) (hk : k < 10000) : ∃ r, Ieee.double.div (ofI k) eight = some r ∧ Fl.fin r ∧ r < 2 ^ 64 ∧ sg r = false ∧ 8 * V r = (k : Int) * (U : Int) ∧ ∃ K, 1071 = K ∧ V r = (k : Int) * ((2 ^ K : Nat) : Int) := by
  have hU := Upos
  obtain ⟨f, v, l⟩ := ofInt_V (k : Int) (by
    have : (10000 : Nat) < 2 ^ 53 := by decide
    omega)
  obtain ⟨r, e1, R, s1⟩ := div_by (x := ofI k) (k := 8) f fin_eight (by decide) V_eight
  obtain ⟨h1, h2, h3, h4⟩ := nearest_int (decide ((k : Int) < 0)) (k : Int).natAbs (by
    have : (10000 : Nat) < 2 ^ 53 := by decide
    omega)
  have s0 : sg (ofI k) = false := by unfold ofI; rw [h2]; simp
  rw [s0] at s1
  have v' : V (ofI k) = (k : Int) * (U : Int) := v
  rw [v'] at R
  obtain ⟨E, hE, hU'⟩ := U_ex
  obtain ⟨K, hK⟩ : ∃ K, 1071 = K := ⟨_, rfl⟩
  have eU : (U : Int) = 8 * ((2 ^ K : Nat) : Int) := by
    rw [hU', show E = 3 + K by omega, Nat.pow_add, Int.natCast_mul]; rfl
  obtain ⟨w, hw⟩ := rep k K (by
    have : (10000 : Nat) < 2 ^ 53 := by decide
    omega)
  have hwl : w < inf := by
    obtain ⟨M, hM, hv⟩ := valR_inf
    rw [← valR_lt_iff, hw, hv]
    have g1 : k * 2 ^ K < 2 ^ 53 * 2 ^ K := Nat.mul_lt_mul_of_pos_right (by
      have : (10000 : Nat) < 2 ^ 53 := by decide
      omega) (Nat.two_pow_pos _)
    rw [← Nat.pow_add] at g1 ⊢
    have g2 : 2 ^ (53 + K) ≤ 2 ^ (52 + M) := Nat.pow_le_pow_right (by decide) (by omega)
    omega
  have hl : w < 2 ^ 63 := Nat.lt_trans hwl inf_lt
  have rw' : rg w = w := Nat.mod_eq_of_lt hl
  have sw : sg w = false := by unfold sg; rw [Nat.div_eq_of_lt hl]; rfl
  have fw : Fl.fin w := by unfold Fl.fin; rw [rw']; exact hwl
  have vw : V w = (k : Int) * ((2 ^ K : Nat) : Int) := by rw [V_pos sw, rw', hw, Int.natCast_mul]
  have x := rounds_exact (w := w) (by decide) R fw.nn (by omega) (by rw [vw, eU, ← Int.mul_assoc, Int.mul_assoc, Int.mul_comm (8 : Int), ← Int.mul_assoc]; rfl)
  refine ⟨r, e1, fin_of R.nn fw fw (by omega) (by omega), R.1, s1, ?_, K, hK, by rw [x, vw]⟩
  rw [x, vw, eU, Int.mul_left_comm]
end Metr
end Fl

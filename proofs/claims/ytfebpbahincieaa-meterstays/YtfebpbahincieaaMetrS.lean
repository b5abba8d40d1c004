/- Where the mean and the jitter stay. No program is spoken of here. -/
import Derived.Test.YtfebpbahincieaaMetrD
namespace Fl
namespace Metr

/-- a thousandth -/
def mill : Nat := 4562254508917369340
theorem fin_mill : Fl.fin mill := by decide +kernel
theorem V_mill : 1000000000 * (G : Int) ≤ V mill ∧ V mill ≤ 2000000000 * (G : Int) := by decide +kernel
theorem UG : (U : Int) = 1099511627776 * (G : Int) := by rw [U_G, Int.natCast_mul]; rfl

theorem near1 {N : Int} {r : Nat} (R : Rounds N 1 r) (h0 : -(4096 * (U : Int)) ≤ N) (h1 : N ≤ 4096 * (U : Int)) : V r ≤ N + (G : Int) ∧ N ≤ V r + (G : Int) ∧ Fl.fin r := by
  have := near_abs (by decide) R (by rw [Int.natCast_one, Int.mul_one]; exact h0) (by rw [Int.natCast_one, Int.mul_one]; exact h1)
  rwa [Int.natCast_one, Int.mul_one, Int.mul_one] at this

structure Inv (k : Nat) (s : S) (lo hi : Nat) : Prop where
  ok : s.ok
  cnt : s.count = k
  flo : Fl.fin lo
  llo : lo < 2 ^ 64
  fhi : Fl.fin hi
  lhi : hi < 2 ^ 64
  l0 : 0 ≤ V lo
  h1 : V hi ≤ 1000 * (U : Int)
  le : V lo ≤ V hi
  m0 : V lo ≤ V s.mean + 3 * ((k : Int) * (G : Int))
  m1 : V s.mean ≤ V hi + 3 * ((k : Int) * (G : Int))
  j1 : V s.jit ≤ V hi - V lo + 10 * ((k : Int) * (G : Int))

theorem Inv.zero : Inv 0 zero 0 0 := by
  have hU := Upos
  have e : V Metr.zero.mean = 0 := V_0
  have e' : V Metr.zero.jit = 0 := V_0
  refine ⟨zero_ok, rfl, fin_0, by decide, fin_0, by decide, ?_, ?_, Int.le_refl _, ?_, ?_, ?_⟩
  · rw [V_0]; omega
  · rw [V_0]; omega
  · rw [V_0, e]; omega
  · rw [V_0, e]; omega
  · rw [V_0, e']; omega

theorem Inv.first {s : S} {lo hi x : Nat} (h : Inv 0 s lo hi) (hz : s.jit = 0) (lx : x < 2 ^ 64) (fx : Fl.fin x) (x0 : 0 ≤ V x) (x1 : V x ≤ 1000 * (U : Int)) : Inv 1 (s.note x) x x := by
  have hU := Upos
  have hG : (0 : Int) < (G : Int) := Int.natCast_pos.2 G_pos
  have o := note_ok h.ok lx ⟨fx.nn, x0, by omega⟩
  have n := note_count (s := s) x
  have c : s.count = 0 := h.cnt
  rw [note_first c] at o n ⊢
  have v := (V_rg fx.nn).1
  refine ⟨o, by show (1 : Int) = _; rfl, fx, lx, fx, lx, x0, x1, Int.le_refl _, ?_, ?_, ?_⟩
  · show V x ≤ V (rg x) + _; omega
  · show V (rg x) ≤ V x + _; omega
  · show V s.jit ≤ _; rw [hz, V_0]; omega

theorem Inv.more {k : Nat} {s : S} {lo hi x lo' hi' : Nat} (h : Inv k s lo hi) (hk : 1 ≤ k) (hk2 : k ≤ 60) (lx : x < 2 ^ 64) (fx : Fl.fin x) (x0 : 0 ≤ V x) (x1 : V x ≤ 1000 * (U : Int))
    (a : lo' = lo ∨ lo' = x) (a1 : V lo' ≤ V lo) (a2 : V lo' ≤ V x) (b : hi' = hi ∨ hi' = x) (b1 : V hi ≤ V hi') (b2 : V x ≤ V hi') : Inv (k + 1) (s.note x) lo' hi' := by
  have hU := Upos
  have hG : (0 : Int) < (G : Int) := Int.natCast_pos.2 G_pos
  have uG := UG
  have sx : sample x := ⟨fx.nn, x0, by omega⟩
  have o := note_ok h.ok lx sx
  have n := note_count (s := s) x
  have c : s.count ≠ 0 := by rw [h.cnt]; omega
  have F := foll h.ok lx sx
  have s0 := V_sg h.ok.sm
  have j0 := V_sg h.ok.sj
  rw [note_later c] at o n ⊢
  have eg : ((k + 1 : Nat) : Int) * (G : Int) = (k : Int) * (G : Int) + (G : Int) := by rw [Int.natCast_add, Int.add_mul, Int.natCast_one, Int.one_mul]
  have g0 : 0 ≤ (k : Int) * (G : Int) := Int.mul_nonneg (by omega) (by omega)
  have g1 : (k : Int) * (G : Int) ≤ 60 * (G : Int) := Int.mul_le_mul_of_nonneg_right (by omega) (by omega)
  have m0 := h.m0
  have m1 := h.m1
  have j1 := h.j1
  have l0 := h.l0
  have h1 := h.h1
  have le := h.le
  have fl' : Fl.fin lo' ∧ lo' < 2 ^ 64 ∧ 0 ≤ V lo' := by
    rcases a with e | e
    · rw [e]; exact ⟨h.flo, h.llo, h.l0⟩
    · rw [e]; exact ⟨fx, lx, x0⟩
  have fh' : Fl.fin hi' ∧ hi' < 2 ^ 64 ∧ V hi' ≤ 1000 * (U : Int) := by
    rcases b with e | e
    · rw [e]; exact ⟨h.fhi, h.lhi, h.h1⟩
    · rw [e]; exact ⟨fx, lx, x1⟩
  have ph := fh'.2.2
  have pl := fl'.2.2
  generalize (k : Int) * (G : Int) = g at *
  obtain ⟨u1, u2, _⟩ := near1 F.r1 (by omega) (by omega)
  obtain ⟨v1, v2, _⟩ := near1 F.r2 (by omega) (by omega)
  obtain ⟨w1, w2, _⟩ := near_abs (by decide) F.r3 (by omega) (by omega)
  obtain ⟨y1, y2, _⟩ := near1 F.r4 (by omega) (by omega)
  obtain ⟨p1, p2, _⟩ := near_abs (by decide) F.r5 (by omega) (by omega)
  obtain ⟨q1, q2, _⟩ := near1 F.r6 (by omega) (by omega)
  refine ⟨o, by show s.count + 1 = _; rw [h.cnt]; rfl, fl'.1, fl'.2.1, fh'.1, fh'.2.1, fl'.2.2, fh'.2.2, by omega, ?_, ?_, ?_⟩
  · rw [eg]; show V lo' ≤ V (s.mean' x) + _; omega
  · rw [eg]; show V (s.mean' x) ≤ _; omega
  · rw [eg]; show V (s.jit' x) ≤ _; omega

/-- what the law asks of them -/
structure Tests (s : S) (lo hi t1 t2 t3 t4 : Nat) : Prop where
  e1 : Ieee.double.sub lo mill = some t1
  e2 : Ieee.double.add hi mill = some t2
  e3 : Ieee.double.sub hi lo = some t3
  e4 : Ieee.double.add t3 mill = some t4
  n1 : Fl.nn t1
  n2 : Fl.nn t2
  n4 : Fl.nn t4
  c1 : V t1 ≤ V s.mean
  c2 : V s.mean ≤ V t2
  c3 : 0 ≤ V s.jit
  c4 : V s.jit ≤ V t4
theorem Inv.tests {k : Nat} {s : S} {lo hi : Nat} (h : Inv k s lo hi) (hk : k ≤ 60) : ∃ t1 t2 t3 t4, Tests s lo hi t1 t2 t3 t4 := by
  have hU := Upos
  have hG : (0 : Int) < (G : Int) := Int.natCast_pos.2 G_pos
  have uG := UG
  have g1 : (k : Int) * (G : Int) ≤ 60 * (G : Int) := Int.mul_le_mul_of_nonneg_right (by omega) (by omega)
  have m0 := h.m0
  have m1 := h.m1
  have j1 := h.j1
  have l0 := h.l0
  have h1 := h.h1
  have le := h.le
  have c := V_mill
  generalize (k : Int) * (G : Int) = g at *
  obtain ⟨t1, e1, R1, _⟩ := sub_fin h.flo fin_mill (show mill < 2 ^ 64 by decide)
  obtain ⟨t2, e2, R2, _⟩ := add_fin h.fhi fin_mill
  obtain ⟨t3, e3, R3, _⟩ := sub_fin h.fhi h.flo h.llo
  obtain ⟨a1, a2, a3⟩ := near1 R1 (by omega) (by omega)
  obtain ⟨b1, b2, b3⟩ := near1 R2 (by omega) (by omega)
  obtain ⟨d1, d2, d3⟩ := near1 R3 (by omega) (by omega)
  obtain ⟨t4, e4, R4, _⟩ := add_fin d3 fin_mill
  obtain ⟨f1, f2, f3⟩ := near1 R4 (by omega) (by omega)
  exact ⟨t1, t2, t3, t4, e1, e2, e3, e4, a3.nn, b3.nn, f3.nn, by omega, by omega, V_sg h.ok.sj, by omega⟩

/-! ### the same one again and again -/
theorem word_zero {x : Nat} (lx : x < 2 ^ 64) (h : V x = 0) (s : sg x = false) : x = 0 := by
  have := V_pos s
  have r : rg x = 0 := valR_inj (by rw [valR_zero]; omega)
  have := word_self lx
  rw [s, r] at this
  exact this.symm
theorem again {k : Int} {x : Nat} (hk : 1 ≤ k) (lx : x < 2 ^ 64) (fx : Fl.fin x) (sx : sg x = false) : (S.mk k x 0).note x = ⟨k + 1, x, 0⟩ := by
  rw [note_later (show k ≠ 0 by omega)]
  obtain ⟨d, e1, R1, z1⟩ := sub_fin fx fx lx
  have d0 : (S.mk k x 0).dif x = 0 := by
    have g : (S.mk k x 0).dif x = d := by unfold S.dif subw; rw [e1]; rfl
    rw [g]
    refine word_zero R1.1 ?_ ?_
    · have := rounds_exact (w := 0) (by decide) R1 fin_0.nn (by decide) (by rw [V_0]; omega)
      rw [this, V_0]
    · rw [z1 (by omega), sx]; rfl
  have j : (S.mk k x 0).jit' x = 0 := by unfold S.jit' S.qrt S.off; rw [d0]; show addw 0 (divw (subw (rg 0) 0) four) = 0; decide +kernel
  have ee : (S.mk k x 0).eig x = 0 := by unfold S.eig; rw [d0]; decide +kernel
  have m : (S.mk k x 0).mean' x = x := by
    unfold S.mean'
    rw [ee]
    obtain ⟨r, e, R, z⟩ := add_fin fx fin_0
    show addw x 0 = x
    unfold addw
    rw [e]
    show r = x
    rw [V_0, Int.add_zero] at R z
    exact rounds_unique (by decide) R (rounds_self fx.nn lx) (fun h => by rw [z h, sx]; rfl)
  rw [j, m]
theorem once {x : Nat} (lx : x < 2 ^ 64) (sx : sg x = false) : zero.note x = ⟨1, x, 0⟩ := by
  rw [note_first rfl]
  have := word_self lx
  rw [sx] at this
  show S.mk 1 (rg x) 0 = _
  have e : rg x = x := this
  rw [e]
/-- k / 16 -/
theorem sixteenth (k : Nat) (hk : k < 4000) : ∃ r, Ieee.double.div (ofI k) 4625196817309499392 = some r ∧ Fl.fin r ∧ r < 2 ^ 64 ∧ sg r = false ∧ sample r := by
  have hU := Upos
  obtain ⟨f, v, l⟩ := ofInt_V (k : Int) (by
    have : (10000 : Nat) < 2 ^ 53 := by decide
    omega)
  have f16 : Fl.fin 4625196817309499392 := by decide +kernel
  have v16 : V 4625196817309499392 = 16 * (U : Int) := by decide +kernel
  obtain ⟨r, e1, R, s1⟩ := div_by (x := ofI k) (k := 16) f f16 (by decide) v16
  obtain ⟨h1, h2, h3, h4⟩ := nearest_int (decide ((k : Int) < 0)) (k : Int).natAbs (by
    have : (10000 : Nat) < 2 ^ 53 := by decide
    omega)
  have s0 : sg (ofI k) = false := by unfold ofI; rw [h2]; simp
  rw [s0] at s1
  have v' : V (ofI k) = (k : Int) * (U : Int) := v
  rw [v'] at R
  have kU : (k : Int) * (U : Int) ≤ 4000 * (U : Int) := Int.mul_le_mul_of_nonneg_right (by omega) (by omega)
  have up := rounds_le (w := mil) (by decide) R fin_mil.nn mil_lt (by rw [V_mil]; omega)
  have fr : Fl.fin r := fin_le R.nn (V_sg s1) fin_mil up
  rw [V_mil] at up
  exact ⟨r, e1, fr, R.1, s1, R.nn, V_sg s1, up⟩
end Metr
end Fl

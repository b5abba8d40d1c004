/- Package meter: a Meter as plain data. No program is spoken of here. -/
import Derived.Test.YtfebpbahincieaaFlR
namespace Fl
namespace Metr

def two : Nat := 4611686018427387904
def four : Nat := 4616189618054758400
def eight : Nat := 4620693217682128896
def mil : Nat := 4696837146684686336
theorem V_two : V two = 2 * (U : Int) := by decide +kernel
theorem V_four : V four = 4 * (U : Int) := by decide +kernel
theorem V_eight : V eight = 8 * (U : Int) := by decide +kernel
theorem V_mil : V mil = 1000000 * (U : Int) := by decide +kernel
theorem fin_two : fin two := by decide +kernel
theorem fin_four : fin four := by decide +kernel
theorem fin_eight : fin eight := by decide +kernel
theorem fin_mil : fin mil := by decide +kernel
theorem mil_lt : mil < 2 ^ 64 := by decide

def sample (x : Nat) : Prop := nn x ∧ 0 ≤ V x ∧ V x ≤ 1000000 * (U : Int)
instance (x : Nat) : Decidable (sample x) := inferInstanceAs (Decidable (_ ∧ _))
theorem sample.fin {x : Nat} (h : sample x) : fin x := fin_le h.1 h.2.1 fin_mil (by rw [V_mil]; exact h.2.2)

structure S where
  count : Int
  mean : Nat
  jit : Nat
deriving DecidableEq

def S.dif (s : S) (x : Nat) : Nat := subw x s.mean
def S.off (s : S) (x : Nat) : Nat := subw (rg (s.dif x)) s.jit
def S.qrt (s : S) (x : Nat) : Nat := divw (s.off x) four
def S.jit' (s : S) (x : Nat) : Nat := addw s.jit (s.qrt x)
def S.eig (s : S) (x : Nat) : Nat := divw (s.dif x) eight
def S.mean' (s : S) (x : Nat) : Nat := addw s.mean (s.eig x)
/-- a sample is noted -/
def S.note (s : S) (x : Nat) : S := if s.count = 0 then ⟨1, rg x, s.jit⟩ else ⟨s.count + 1, s.mean' x, s.jit' x⟩
def S.told (s : S) (x : Nat) : S := if sample x then s.note x else s
def zero : S := ⟨0, 0, 0⟩

structure S.ok (s : S) : Prop where
  fm : Fl.fin s.mean
  lm : s.mean < 2 ^ 64
  sm : sg s.mean = false
  m1 : V s.mean ≤ 2097152 * (U : Int)
  fj : Fl.fin s.jit
  lj : s.jit < 2 ^ 64
  sj : sg s.jit = false
  j1 : V s.jit ≤ 4194304 * (U : Int)
  c0 : 0 ≤ s.count

theorem zero_ok : zero.ok := by
  have hU := Upos
  exact ⟨fin_0, by decide, by decide, by show V 0 ≤ _; rw [V_0]; omega, fin_0, by decide, by decide, by show V 0 ≤ _; rw [V_0]; omega, by decide⟩

/-- a quotient by 2, 4, 8 .. -/
theorem div_by {x y k : Nat} (hx : fin x) (hy : fin y) (hk : 0 < k) (e : V y = (k : Int) * (U : Int)) : ∃ r, Ieee.double.div x y = some r ∧ Rounds (V x) k r ∧ sg r = sg x := by
  have hU := Upos
  have hp : 0 < V y := by rw [e]; exact Int.mul_pos (by omega) hU
  obtain ⟨r, h1, R, s⟩ := div_fin hx hy hp
  refine ⟨r, h1, ?_, s⟩
  have hD : (((V y).toNat : Nat) : Int) = V y := Int.toNat_of_nonneg (by omega)
  refine rounds_congr (by omega) hk R ?_
  rw [hD, e, Int.mul_assoc, Int.mul_comm (U : Int)]

structure Foll (s : S) (x : Nat) : Prop where
  e1 : Ieee.double.sub x s.mean = some (s.dif x)
  r1 : Rounds (V x - V s.mean) 1 (s.dif x)
  f1 : Fl.fin (s.dif x)
  d0 : -V s.mean ≤ V (s.dif x)
  d1 : V (s.dif x) ≤ V x
  e2 : Ieee.double.sub (rg (s.dif x)) s.jit = some (s.off x)
  r2 : Rounds (((V (s.dif x)).natAbs : Int) - V s.jit) 1 (s.off x)
  f2 : Fl.fin (s.off x)
  e3 : Ieee.double.div (s.off x) four = some (s.qrt x)
  r3 : Rounds (V (s.off x)) 4 (s.qrt x)
  f3 : Fl.fin (s.qrt x)
  e4 : Ieee.double.add s.jit (s.qrt x) = some (s.jit' x)
  r4 : Rounds (V s.jit + V (s.qrt x)) 1 (s.jit' x)
  f4 : Fl.fin (s.jit' x)
  s4 : sg (s.jit' x) = false
  j1 : V (s.jit' x) ≤ 4194304 * (U : Int)
  e5 : Ieee.double.div (s.dif x) eight = some (s.eig x)
  r5 : Rounds (V (s.dif x)) 8 (s.eig x)
  f5 : Fl.fin (s.eig x)
  e6 : Ieee.double.add s.mean (s.eig x) = some (s.mean' x)
  r6 : Rounds (V s.mean + V (s.eig x)) 1 (s.mean' x)
  f6 : Fl.fin (s.mean' x)
  s6 : sg (s.mean' x) = false
  m1 : V (s.mean' x) ≤ 2097152 * (U : Int)

theorem foll {s : S} (h : s.ok) {x : Nat} (lx : x < 2 ^ 64) (hx : sample x) : Foll s x := by
  have hU := Upos
  have m0 := V_sg h.sm
  have j0 := V_sg h.sj
  have m1 := h.m1
  have j1 := h.j1
  obtain ⟨_, x0, x1⟩ := hx
  have fx : Fl.fin x := sample.fin ⟨by assumption, x0, x1⟩
  have fnm : Fl.fin (neg s.mean) := fin_neg.2 h.fm
  have fnj : Fl.fin (neg s.jit) := fin_neg.2 h.fj
  have vnm := V_neg h.lm
  have vnj := V_neg h.lj
  have lnm := neg_lt h.lm
  have lnj := neg_lt h.lj
  -- the difference
  obtain ⟨d, e1, R1, _⟩ := sub_fin fx h.fm h.lm
  have g1 : s.dif x = d := by unfold S.dif subw; rw [e1]; rfl
  have d0 := le_rounds (w := neg s.mean) (by decide) R1 fnm.nn lnm (by rw [Int.natCast_one, Int.mul_one, vnm]; omega)
  have d1 := rounds_le (w := x) (by decide) R1 fx.nn lx (by rw [Int.natCast_one, Int.mul_one]; omega)
  have f1 : Fl.fin d := fin_of R1.nn fnm fx d0 d1
  rw [vnm] at d0
  obtain ⟨va, na, la, sa, _⟩ := V_rg R1.nn
  have fa : Fl.fin (rg d) := by unfold Fl.fin rg; rw [Nat.mod_mod]; exact f1
  -- the amount less the jitter
  obtain ⟨o, e2, R2, _⟩ := sub_fin fa h.fj h.lj
  have g2 : s.off x = o := by unfold S.off; rw [g1]; unfold subw; rw [e2]; rfl
  rw [va] at R2
  have o0 := le_rounds (w := neg s.jit) (by decide) R2 fnj.nn lnj (by rw [Int.natCast_one, Int.mul_one, vnj]; omega)
  have o1 := rounds_le (w := rg d) (by decide) R2 fa.nn la (by rw [Int.natCast_one, Int.mul_one, va]; omega)
  have f2 : Fl.fin o := fin_of R2.nn fnj fa o0 o1
  -- a quarter
  obtain ⟨q, e3, R3, _⟩ := div_by (k := 4) f2 fin_four (by decide) V_four
  have g3 : s.qrt x = q := by unfold S.qrt; rw [g2]; unfold divw; rw [e3]; rfl
  rw [vnj] at o0
  rw [va] at o1
  have q0 := le_rounds (w := neg s.jit) (by decide) R3 fnj.nn lnj (by rw [vnj]; omega)
  have q1 := rounds_le (w := rg d) (by decide) R3 fa.nn la (by rw [va]; omega)
  have f3 : Fl.fin q := fin_of R3.nn fnj fa q0 q1
  rw [vnj] at q0
  rw [va] at q1
  have q2 : ((V d).natAbs : Int) ≤ V s.jit → V q ≤ 0 := fun hle => by
    have a := rounds_le (w := 0) (by decide) R2 fin_0.nn (by decide) (by rw [V_0]; omega)
    rw [V_0] at a
    have b := rounds_le (w := 0) (by decide) R3 fin_0.nn (by decide) (by rw [V_0]; omega)
    rwa [V_0] at b
  -- the jitter
  obtain ⟨j, e4, R4, z4⟩ := add_fin h.fj f3
  have g4 : s.jit' x = j := by unfold S.jit'; rw [g3]; unfold addw; rw [e4]; rfl
  have s4 : sg j = false := by
    rcases Int.lt_or_eq_of_le (show 0 ≤ V s.jit + V q by omega) with hp | hp
    · obtain ⟨_, _, _, _, _, s2⟩ := R4; exact s2 hp
    · rw [z4 hp.symm, h.sj]; rfl
  obtain ⟨wj, fwj, lwj, vwj⟩ := int_word 4194304 (by decide)
  have j2 := rounds_le (w := wj) (by decide) R4 fwj.nn lwj (by
    rw [vwj, Int.natCast_one, Int.mul_one]
    rcases Int.lt_or_le (V s.jit) ((V d).natAbs : Int) with c | c
    · omega
    · have := q2 c; omega)
  have f4 : Fl.fin j := fin_le R4.nn (V_sg s4) fwj j2
  -- an eighth
  obtain ⟨p, e5, R5, _⟩ := div_by (k := 8) f1 fin_eight (by decide) V_eight
  have g5 : s.eig x = p := by unfold S.eig; rw [g1]; unfold divw; rw [e5]; rfl
  have p0 := le_rounds (w := neg s.mean) (by decide) R5 fnm.nn lnm (by rw [vnm]; omega)
  have p1 := rounds_le (w := x) (by decide) R5 fx.nn lx (by omega)
  have f5 : Fl.fin p := fin_of R5.nn fnm fx p0 p1
  rw [vnm] at p0
  have p2 : V x ≤ V s.mean → V p ≤ 0 := fun hle => by
    have a := rounds_le (w := 0) (by decide) R1 fin_0.nn (by decide) (by rw [V_0]; omega)
    rw [V_0] at a
    have b := rounds_le (w := 0) (by decide) R5 fin_0.nn (by decide) (by rw [V_0]; omega)
    rwa [V_0] at b
  -- the mean
  obtain ⟨m, e6, R6, z6⟩ := add_fin h.fm f5
  have g6 : s.mean' x = m := by unfold S.mean'; rw [g5]; unfold addw; rw [e6]; rfl
  have s6 : sg m = false := by
    rcases Int.lt_or_eq_of_le (show 0 ≤ V s.mean + V p by omega) with hp | hp
    · obtain ⟨_, _, _, _, _, s2⟩ := R6; exact s2 hp
    · rw [z6 hp.symm, h.sm]; rfl
  obtain ⟨wm, fwm, lwm, vwm⟩ := int_word 2097152 (by decide)
  have m2 := rounds_le (w := wm) (by decide) R6 fwm.nn lwm (by
    rw [vwm, Int.natCast_one, Int.mul_one]
    rcases Int.lt_or_le (V s.mean) (V x) with c | c
    · omega
    · have := p2 c; omega)
  have f6 : Fl.fin m := fin_le R6.nn (V_sg s6) fwm m2
  rw [vwj] at j2
  rw [vwm] at m2
  exact ⟨by rw [g1]; exact e1, by rw [g1]; exact R1, by rw [g1]; exact f1, by rw [g1]; exact d0, by rw [g1]; exact d1,
    by rw [g1, g2]; exact e2, by rw [g1, g2]; exact R2, by rw [g2]; exact f2, by rw [g2, g3]; exact e3, by rw [g2, g3]; exact R3, by rw [g3]; exact f3,
    by rw [g3, g4]; exact e4, by rw [g3, g4]; exact R4, by rw [g4]; exact f4, by rw [g4]; exact s4, by rw [g4]; exact j2,
    by rw [g1, g5]; exact e5, by rw [g1, g5]; exact R5, by rw [g5]; exact f5, by rw [g5, g6]; exact e6, by rw [g5, g6]; exact R6, by rw [g6]; exact f6, by rw [g6]; exact s6, by rw [g6]; exact m2⟩

theorem note_first {s : S} (h : s.count = 0) (x : Nat) : s.note x = ⟨1, rg x, s.jit⟩ := if_pos h
theorem note_later {s : S} (h : s.count ≠ 0) (x : Nat) : s.note x = ⟨s.count + 1, s.mean' x, s.jit' x⟩ := if_neg h
theorem note_count {s : S} (x : Nat) : (s.note x).count = s.count + 1 := by
  unfold S.note; split
  · rename_i h; simp [h]
  · rfl

theorem note_ok {s : S} (h : s.ok) {x : Nat} (lx : x < 2 ^ 64) (hx : sample x) : (s.note x).ok := by
  have hU := Upos
  have c0 := h.c0
  by_cases c : s.count = 0
  · rw [note_first c]
    obtain ⟨va, na, la, sa, _⟩ := V_rg hx.1
    have := hx.2.1
    have := hx.2.2
    have fa : Fl.fin (rg x) := by have f := hx.fin; unfold Fl.fin rg at *; rw [Nat.mod_mod]; exact f
    exact ⟨fa, la, sa, by show V (rg x) ≤ _; rw [va]; omega, h.fj, h.lj, h.sj, h.j1, by show (0 : Int) ≤ 1; decide⟩
  · rw [note_later c]
    have F := foll h lx hx
    exact ⟨F.f6, F.r6.1, F.s6, F.m1, F.f4, F.r4.1, F.s4, F.j1, by show 0 ≤ s.count + 1; omega⟩
theorem told_ok {s : S} (h : s.ok) {x : Nat} (lx : x < 2 ^ 64) : (s.told x).ok := by
  unfold S.told; split
  · exact note_ok h lx (by assumption)
  · exact h

/-! ### Lead -/
def S.half (s : S) : Nat := divw s.mean two
def S.twi (s : S) : Nat := mulw two s.jit
def S.all (s : S) : Nat := addw s.half s.twi
def S.per (s : S) (p : Int) : Nat := divw s.all (ofI p)
def S.frames (s : S) (p : Int) : Nat := cl (valR (rg (s.per p))) U
def clamp (p : Int) : Int := min (max p 1) 8
def S.lead (s : S) (p : Int) : Int := min ((s.frames (clamp p) : Int) + 1) 16

structure Lead (s : S) (p : Int) : Prop where
  e1 : Ieee.double.div s.mean two = some s.half
  e2 : Ieee.double.mul two s.jit = some s.twi
  e3 : Ieee.double.add s.half s.twi = some s.all
  e4 : Ieee.double.div s.all (ofI p) = some (s.per p)
  r4 : Rounds (V s.all) p.toNat (s.per p)
  a0 : 0 ≤ V s.all
  f4 : Fl.fin (s.per p)
  s4 : sg (s.per p) = false
  le : s.frames p ≤ 16777216
  num : ∃ neg mg q, Ieee.double.read (s.per p) = .number neg mg q
  int : (Ieee.double.read (up (s.per p))).toInt .zero = some (s.frames p : Int)
  fu : Fl.fin (up (s.per p))
  vu : V (up (s.per p)) = (s.frames p : Int) * (U : Int)

theorem lead_spec {s : S} (h : s.ok) {p : Int} (h1 : 1 ≤ p) (h2 : p ≤ 8) : Lead s p := by
  have hU := Upos
  have m0 := V_sg h.sm
  have j0 := V_sg h.sj
  have m1 := h.m1
  have j1 := h.j1
  obtain ⟨a, e1, R1, s1⟩ := div_by (k := 2) h.fm fin_two (by decide) V_two
  have g1 : s.half = a := by unfold S.half divw; rw [e1]; rfl
  rw [h.sm] at s1
  have a0 := V_sg s1
  have a1 := rounds_le (w := s.mean) (by decide) R1 h.fm.nn h.lm (by omega)
  have f1 : Fl.fin a := fin_le R1.nn a0 h.fm a1
  obtain ⟨b, e2, R2', s2⟩ := mul_fin fin_two h.fj
  have g2 : s.twi = b := by unfold S.twi mulw; rw [e2]; rfl
  have s2' : sg b = false := by rw [s2, h.sj]; decide
  have R2 : Rounds (2 * V s.jit) 1 b := by
    refine rounds_congr U_pos (by decide) R2' ?_
    rw [V_two, Int.natCast_one, Int.mul_one, Int.mul_assoc, Int.mul_assoc, Int.mul_comm (U : Int)]
  have b0 := V_sg s2'
  obtain ⟨wb, fwb, lwb, vwb⟩ := int_word 8388608 (by decide)
  have b1 := rounds_le (w := wb) (by decide) R2 fwb.nn lwb (by rw [vwb, Int.natCast_one, Int.mul_one]; omega)
  have f2 : Fl.fin b := fin_le R2.nn b0 fwb b1
  rw [vwb] at b1
  obtain ⟨c, e3, R3, z3⟩ := add_fin f1 f2
  have g3 : s.all = c := by unfold S.all; rw [g1, g2]; unfold addw; rw [e3]; rfl
  have s3 : sg c = false := by
    rcases Int.lt_or_eq_of_le (show 0 ≤ V a + V b by omega) with hp | hp
    · obtain ⟨_, _, _, _, _, s2⟩ := R3; exact s2 hp
    · rw [z3 hp.symm, s1]; rfl
  have c0 := V_sg s3
  obtain ⟨wc, fwc, lwc, vwc⟩ := int_word 16777216 (by decide)
  have c1 := rounds_le (w := wc) (by decide) R3 fwc.nn lwc (by rw [vwc, Int.natCast_one, Int.mul_one]; omega)
  have f3 : Fl.fin c := fin_le R3.nn c0 fwc c1
  obtain ⟨fi, vi, li⟩ := ofInt_V p (by
    have : (8 : Nat) < 2 ^ 53 := by decide
    omega)
  have hp : ((p.toNat : Nat) : Int) = p := Int.toNat_of_nonneg (by omega)
  obtain ⟨q, e4, R4, s4⟩ := div_by (x := c) (y := ofI p) (k := p.toNat) f3 fi (by omega) (by rw [hp]; exact vi)
  have g4 : s.per p = q := by unfold S.per; rw [g3]; unfold divw; rw [e4]; rfl
  rw [s3] at s4
  have q0 := V_sg s4
  have q1 := rounds_le (w := wc) (by omega) R4 fwc.nn lwc (by
    rw [hp]
    have := Int.mul_le_mul_of_nonneg_left h1 (show 0 ≤ V wc by omega)
    omega)
  have f4 : Fl.fin q := fin_le R4.nn q0 fwc q1
  rw [vwc] at q1
  have vq := V_pos s4
  have le : cl (valR (rg q)) U ≤ 16777216 := by rw [cl_le U_pos]; omega
  obtain ⟨u1, u2, u3⟩ := up_spec f4 s4 (Nat.lt_of_le_of_lt le (by decide))
  obtain ⟨mg, pl, er, _⟩ := read_fin f4
  have gf : s.frames p = cl (valR (rg q)) U := by unfold S.frames; rw [g4]
  exact ⟨by rw [g1]; exact e1, by rw [g2]; exact e2, by rw [g1, g2, g3]; exact e3, by rw [g3, g4]; exact e4, by rw [g3, g4]; exact R4, by rw [g3]; exact c0, by rw [g4]; exact f4, by rw [g4]; exact s4, by rw [gf]; exact le, ⟨_, _, _, by rw [g4]; exact er⟩, by rw [g4, gf]; exact u3, by rw [g4]; exact u1, by rw [g4, gf]; exact u2⟩

theorem lead_1 (s : S) (p : Int) : 1 ≤ s.lead p ∧ s.lead p ≤ 16 := by unfold S.lead; omega
/-- of a longer period not more -/
theorem lead_mono {s : S} (h : s.ok) {p : Int} (h1 : 1 ≤ p) (h2 : p ≤ 7) : s.lead (p + 1) ≤ s.lead p := by
  have A := lead_spec h (p := p) h1 (by omega)
  have B := lead_spec h (p := p + 1) (by omega) (by omega)
  have m : V (s.per (p + 1)) ≤ V (s.per p) := by
    refine rounds_mono (by omega) (by omega) B.r4 A.r4 ?_
    exact Int.mul_le_mul_of_nonneg_left (by omega) A.a0
  have v1 := V_pos A.s4
  have v2 := V_pos B.s4
  have : s.frames (p + 1) ≤ s.frames p := cl_mono U_pos (by omega)
  unfold S.lead
  rw [show clamp p = p by unfold clamp; omega, show clamp (p + 1) = p + 1 by unfold clamp; omega]
  omega

/-! ### the same, as the document's text has it -/
/-- a -0 is told as a 0 -/
theorem rg_zero {x : Nat} (lx : x < 2 ^ 64) (hx : sample x) : (rg x = x) ∨ (x = 9223372036854775808 ∧ rg x = 0) := by
  cases hs : sg x
  · left
    have := word_self lx
    rw [hs] at this
    exact this
  · right
    have v : V x = -(valR (rg x) : Int) := by unfold V; rw [hs]; rfl
    have z : valR (rg x) = 0 := by have := hx.2.1; omega
    have r : rg x = 0 := valR_inj (by rw [z, valR_zero])
    refine ⟨?_, r⟩
    have := word_self lx
    rw [hs, r] at this
    exact this.symm
theorem note_rg {s : S} (h : s.ok) {x : Nat} (lx : x < 2 ^ 64) (hx : sample x) : s.note (rg x) = s.note x := by
  rcases rg_zero lx hx with e | ⟨e, r⟩
  · rw [e]
  · unfold S.note
    split
    · rw [r]; rfl
    · rw [r]
      subst e
      have F := foll h lx hx
      have F0 := foll h (x := 0) (by decide) ⟨fin_0.nn, by rw [V_0]; omega, by rw [V_0]; have := Upos; omega⟩
      have v0 : V 9223372036854775808 = 0 := by decide +kernel
      have R1 := F.r1
      have R0 := F0.r1
      rw [v0] at R1
      rw [V_0] at R0
      by_cases z : V s.mean = 0
      · -- the mean is a 0, too
        have zm : s.mean = 0 := by
          have := V_pos h.sm
          have r : rg s.mean = 0 := valR_inj (by rw [valR_zero]; omega)
          have := word_self h.lm
          rw [h.sm, r] at this
          exact this.symm
        have d : s.dif 0 = 0 := by unfold S.dif; rw [zm]; decide +kernel
        have d' : s.dif 9223372036854775808 = 9223372036854775808 := by unfold S.dif; rw [zm]; decide +kernel
        have o : s.off 0 = s.off 9223372036854775808 := by unfold S.off; rw [d, d']; rfl
        have j : s.jit' 0 = s.jit' 9223372036854775808 := by unfold S.jit' S.qrt; rw [o]
        have m : s.mean' 0 = s.mean' 9223372036854775808 := by unfold S.mean' S.eig; rw [d, d', zm]; decide +kernel
        rw [j, m]
      · have d : s.dif 0 = s.dif 9223372036854775808 := rounds_unique (by decide) R0 R1 (fun h => by omega)
        have o : s.off 0 = s.off 9223372036854775808 := by unfold S.off; rw [d]
        have j : s.jit' 0 = s.jit' 9223372036854775808 := by unfold S.jit' S.qrt; rw [o]
        have m : s.mean' 0 = s.mean' 9223372036854775808 := by unfold S.mean' S.eig; rw [d]
        rw [j, m]
/-- of what is no -0 the difference is none -/
theorem dif_sg {s : S} (h : s.ok) {x : Nat} (hs : sg x = false) (fx : Fl.fin x) (hv : V (s.dif x) = 0) : sg (s.dif x) = false := by
  obtain ⟨d, e1, R1, z⟩ := sub_fin fx h.fm h.lm
  have g1 : s.dif x = d := by unfold S.dif subw; rw [e1]; rfl
  rw [g1] at hv ⊢
  rcases Int.lt_trichotomy (V x - V s.mean) 0 with c | c | c
  · exfalso
    have := rounds_le (w := 9223372036854775809) (by decide) R1 (show Fl.nn 9223372036854775809 by decide +kernel) (by decide) (by
      have : V 9223372036854775809 = -1 := by decide +kernel
      rw [this]; omega)
    have v : V 9223372036854775809 = -1 := by decide +kernel
    omega
  · rw [z c, hs]; rfl
  · obtain ⟨_, _, _, _, _, s2⟩ := R1; exact s2 c
end Metr
end Fl

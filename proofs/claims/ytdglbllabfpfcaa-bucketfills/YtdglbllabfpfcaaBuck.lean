/- Package bucket: a Bucket as plain data. No program is spoken of here. -/
import Derived.Test.YtdglbllabfpfcaaGrid
namespace Fl
namespace Buck

structure S where
  rate : Nat
  depth : Nat
  level : Nat
  last : Int
deriving DecidableEq

def part (s : S) (t : Int) : Nat := mulw s.rate (ofI (t - s.last))
def more (s : S) (t : Int) : Nat := addw s.level (part s t)
def S.fill (s : S) (t : Int) : S := if t ≤ s.last then s else ⟨s.rate, s.depth, minw (more s t) s.depth, t⟩
/-- one is taken, if there is one -/
def S.one (s : S) : S × Bool := if V s.level < (U : Int) then (s, false) else (⟨s.rate, s.depth, subw s.level Fl.one, s.last⟩, true)
def S.take (s : S) (t : Int) : S × Bool := (s.fill (min t 1000000)).one

def right (r d : Nat) : Prop := (fin r ∧ 0 ≤ V r) ∧ (nn d ∧ (U : Int) ≤ V d ∧ V d ≤ 1000 * (U : Int))
instance (r d : Nat) : Decidable (right r d) := inferInstanceAs (Decidable (_ ∧ _))

structure S.ok (s : S) : Prop where
  fr : fin s.rate
  lr : s.rate < 2 ^ 64
  pr : 0 ≤ V s.rate
  fd : fin s.depth
  ld : s.depth < 2 ^ 64
  d1 : (U : Int) ≤ V s.depth
  d2 : V s.depth ≤ 1000 * (U : Int)
  fl : fin s.level
  ll : s.level < 2 ^ 64
  pl : 0 ≤ V s.level
  le : V s.level ≤ V s.depth
  l0 : 0 ≤ s.last
  l1 : s.last ≤ 1000000

def new (r d : Nat) : S := ⟨r, d, d, 0⟩
theorem V_thousand : V 4652007308841189376 = 1000 * (U : Int) := by decide +kernel
theorem fin_thousand : fin 4652007308841189376 := by decide +kernel
theorem new_ok {r d : Nat} (lr : r < 2 ^ 64) (ld : d < 2 ^ 64) (h : right r d) : (new r d).ok := by
  have hU := Upos
  obtain ⟨⟨h1, h2⟩, h3, h4, h5⟩ := h
  have fd : fin d := fin_le h3 (by omega) fin_thousand (by rw [V_thousand]; exact h5)
  exact ⟨h1, lr, h2, fd, ld, h4, h5, fd, ld, by simp only [new]; omega, by simp only [new]; omega, by simp [new], by simp [new]⟩

structure Fill (s : S) (t : Int) : Prop where
  ml : Ieee.double.mul s.rate (ofI (t - s.last)) = some (part s t)
  ad : Ieee.double.add s.level (part s t) = some (more s t)
  rp : Rounds (V s.rate * (t - s.last) * (U : Int)) U (part s t)
  nm : nn (more s t)
  lm : more s t < 2 ^ 64
  ge : V s.level ≤ V (more s t)
  gp : V (part s t) ≤ V (more s t)
  rm : fin (part s t) → Rounds (V s.level + V (part s t)) 1 (more s t)
  pp : 0 ≤ V (part s t)

theorem fill_spec {s : S} (h : s.ok) {t : Int} (h1 : s.last < t) (h2 : t ≤ 1000000) : Fill s t := by
  have hU := Upos
  have l0 := h.l0
  obtain ⟨fi, vi, li⟩ := ofInt_V (t - s.last) (by
    have : (1000000 : Nat) < 2 ^ 53 := by decide
    omega)
  obtain ⟨p, e1, R1, _⟩ := mul_fin (x := s.rate) (y := ofI (t - s.last)) h.fr fi
  have g1 : part s t = p := by unfold part mulw; rw [e1]; rfl
  have vi' : V (ofI (t - s.last)) = (t - s.last) * (U : Int) := vi
  rw [vi', ← Int.mul_assoc] at R1
  have pn : 0 ≤ V s.rate * (t - s.last) := Int.mul_nonneg h.pr (by omega)
  have pp : 0 ≤ V p := by
    have := le_rounds (w := 0) U_pos R1 fin_0.nn (by decide) (by rw [V_0, Int.zero_mul]; exact Int.mul_nonneg pn (by omega))
    rwa [V_0] at this
  have pl := h.pl
  rcases Nat.lt_or_eq_of_le R1.nn with fp | fp
  · obtain ⟨m, e2, R2, _⟩ := add_fin h.fl (show fin p from fp)
    have g2 : more s t = m := by unfold more addw; rw [g1, e2]; rfl
    have k1 := le_rounds (w := s.level) (by decide) R2 h.fl.nn h.ll (by rw [Int.natCast_one, Int.mul_one]; omega)
    have k2 := le_rounds (w := p) (by decide) R2 R1.nn R1.1 (by rw [Int.natCast_one, Int.mul_one]; omega)
    exact ⟨by rw [g1]; exact e1, by rw [g1, g2]; exact e2, by rw [g1]; exact R1, by rw [g2]; exact R2.nn, by rw [g2]; exact R2.1, by rw [g2]; exact k1, by rw [g1, g2]; exact k2, fun _ => by rw [g1, g2]; exact R2, by rw [g1]; exact pp⟩
  · have sp : sg p = false := by
      have e := V_inf fp
      cases hs : sg p
      · rfl
      · exfalso
        rw [hs] at e; simp only [if_true] at e
        have i0 := (V_lt_inf fin_0).2
        rw [V_0] at i0
        omega
    obtain ⟨m, e2, vm, nm, lm⟩ := add_pinf h.fl fp sp
    have g2 : more s t = m := by unfold more addw; rw [g1, e2]; rfl
    have vp : V p = (valR inf : Int) := by rw [V_inf fp, sp]; rfl
    refine ⟨by rw [g1]; exact e1, by rw [g1, g2]; exact e2, by rw [g1]; exact R1, by rw [g2]; exact nm, by rw [g2]; exact lm, ?_, ?_, fun h => ?_, by rw [g1]; exact pp⟩
    · rw [g2, vm]; exact Int.le_of_lt (V_lt_inf h.fl).2
    · rw [g1, g2, vm, vp]; exact Int.le_refl _
    · exfalso; rw [g1] at h; unfold fin at h; omega

theorem fill_no {s : S} {t : Int} (h : t ≤ s.last) : s.fill t = s := if_pos h
theorem fill_yes {s : S} {t : Int} (h : s.last < t) : s.fill t = ⟨s.rate, s.depth, minw (more s t) s.depth, t⟩ := if_neg (by omega)

theorem fill_ok {s : S} (h : s.ok) {t : Int} (h2 : t ≤ 1000000) : (s.fill t).ok := by
  have hU := Upos
  rcases Int.lt_or_le s.last t with h1 | h1
  · rw [fill_yes h1]
    have F := fill_spec h h1 h2
    have v := V_minw (more s t) s.depth
    have g := F.ge
    have d1 := h.d1
    have pl := h.pl
    have le := h.le
    have l0 := h.l0
    have nmin : nn (minw (more s t) s.depth) ∧ minw (more s t) s.depth < 2 ^ 64 := by
      rcases minw_or (more s t) s.depth with e | e <;> rw [e]
      · exact ⟨F.nm, F.lm⟩
      · exact ⟨h.fd.nn, h.ld⟩
    have fm : fin (minw (more s t) s.depth) := fin_le nmin.1 (by omega) h.fd (by omega)
    exact ⟨h.fr, h.lr, h.pr, h.fd, h.ld, h.d1, h.d2, fm, nmin.2, by simp only; omega, by simp only; omega, by simp only; omega, by simp only; exact h2⟩
  · rw [fill_no h1]; exact h

theorem sub_one {s : S} (h : s.ok) (h1 : (U : Int) ≤ V s.level) : Ieee.double.sub s.level Fl.one = some (subw s.level Fl.one) ∧ Rounds (V s.level - (U : Int)) 1 (subw s.level Fl.one) ∧ 0 ≤ V (subw s.level Fl.one) ∧ V (subw s.level Fl.one) ≤ V s.level := by
  have hU := Upos
  obtain ⟨r, e, R, _⟩ := sub_fin h.fl fin_one one_lt
  rw [V_one] at R
  have g : subw s.level Fl.one = r := by unfold subw; rw [e]; rfl
  rw [g]
  have k1 := le_rounds (w := 0) (by decide) R fin_0.nn (by decide) (by rw [V_0, Int.zero_mul]; omega)
  have k2 := rounds_le (w := s.level) (by decide) R h.fl.nn h.ll (by rw [Int.natCast_one, Int.mul_one]; omega)
  rw [V_0] at k1
  exact ⟨e, R, k1, k2⟩
theorem one_no {s : S} (h : V s.level < (U : Int)) : s.one = (s, false) := if_pos h
theorem one_yes {s : S} (h : (U : Int) ≤ V s.level) : s.one = (⟨s.rate, s.depth, subw s.level Fl.one, s.last⟩, true) := if_neg (by omega)
theorem one_ok {s : S} (h : s.ok) : s.one.1.ok := by
  rcases Int.lt_or_le (V s.level) (U : Int) with h1 | h1
  · rw [one_no h1]; exact h
  · rw [one_yes h1]
    obtain ⟨_, R, k1, k2⟩ := sub_one h h1
    have le := h.le
    exact ⟨h.fr, h.lr, h.pr, h.fd, h.ld, h.d1, h.d2, fin_le R.nn k1 h.fl k2, R.1, k1, by simp only; omega, h.l0, h.l1⟩
theorem take_ok {s : S} (h : s.ok) (t : Int) : (s.take t).1.ok := one_ok (fill_ok h (by omega))

theorem one_last (s : S) : s.one.1.last = s.last ∧ s.one.1.rate = s.rate ∧ s.one.1.depth = s.depth := by
  unfold S.one; split <;> exact ⟨rfl, rfl, rfl⟩
theorem fill_last (s : S) (t : Int) : (s.fill t).last = max s.last t ∧ (s.fill t).rate = s.rate ∧ (s.fill t).depth = s.depth := by
  unfold S.fill; split
  · exact ⟨by omega, rfl, rfl⟩
  · exact ⟨by simp only; omega, rfl, rfl⟩
theorem take_last (s : S) (t : Int) (h : t ≤ 1000000) : (s.take t).1.last = max s.last t ∧ (s.take t).1.rate = s.rate ∧ (s.take t).1.depth = s.depth := by
  unfold S.take
  rw [Int.min_eq_left h]
  obtain ⟨a1, a2, a3⟩ := one_last (s.fill t)
  obtain ⟨b1, b2, b3⟩ := fill_last s t
  exact ⟨a1.trans b1, a2.trans b2, a3.trans b3⟩

/-- a level grows by no more than the rate says, with what is rounded -/
theorem fill_up {s : S} (h : s.ok) {t : Int} (h1 : s.last ≤ t) (h2 : t ≤ 1000000) (h3 : V s.rate * (t - s.last) ≤ 2000 * (U : Int)) :
    V (s.fill t).level ≤ V s.level + V s.rate * (t - s.last) + 2 * (G : Int) ∧ V s.level ≤ V (s.fill t).level := by
  have hU := Upos
  have hG : (0 : Int) < (G : Int) := Int.natCast_pos.2 G_pos
  have eG : (U : Int) = 1099511627776 * (G : Int) := by rw [U_G, Int.natCast_mul]; rfl
  rcases Int.lt_or_eq_of_le h1 with h4 | h4
  · rw [fill_yes h4]
    have F := fill_spec h h4 h2
    have pn : 0 ≤ V s.rate * (t - s.last) := Int.mul_nonneg h.pr (by omega)
    obtain ⟨p0, p1, _, fp⟩ := near_U F.rp pn (by omega)
    have le := h.le
    have d2 := h.d2
    have pl := h.pl
    obtain ⟨_, m1, _, _⟩ := near_1 (F.rm fp) (by omega) (by omega)
    have v := V_minw (more s t) s.depth
    have g := F.ge
    exact ⟨by simp only; omega, by simp only; omega⟩
  · rw [fill_no (by omega), h4, Int.sub_self, Int.mul_zero]; omega
theorem take_up {s : S} (h : s.ok) {t : Int} (h1 : s.last ≤ t) (h2 : t ≤ 1000000) (h3 : V s.rate * (t - s.last) ≤ 2000 * (U : Int)) :
    V (s.take t).1.level + (if (s.take t).2 then (U : Int) else 0) ≤ V s.level + V s.rate * (t - s.last) + 3 * (G : Int) := by
  have hG : (0 : Int) < (G : Int) := Int.natCast_pos.2 G_pos
  obtain ⟨a, b⟩ := fill_up h h1 h2 h3
  have f := fill_ok h h2
  unfold S.take
  rw [Int.min_eq_left h2]
  generalize s.fill t = q at *
  rcases Int.lt_or_le (V q.level) (U : Int) with h4 | h4
  · rw [one_no h4]; simp only [Bool.false_eq_true, if_false]; omega
  · rw [one_yes h4]
    obtain ⟨_, R, k1, k2⟩ := sub_one f h4
    have le := f.le
    have d2 := f.d2
    obtain ⟨_, m1, _, _⟩ := near_1 R (by omega) (by omega)
    simp only [if_true]; omega
/-- without a rate there is no more than there was -/
theorem fill_zero {s : S} (h : s.ok) {t : Int} (h2 : t ≤ 1000000) (h3 : V s.rate = 0) : V (s.fill t).level = V s.level := by
  have hU := Upos
  rcases Int.lt_or_le s.last t with h4 | h4
  · rw [fill_yes h4]
    have F := fill_spec h h4 h2
    have rp := F.rp
    rw [h3, Int.zero_mul, Int.zero_mul] at rp
    have p0 := rounds_exact (w := 0) U_pos rp fin_0.nn (by decide) (by rw [V_0, Int.zero_mul])
    rw [V_0] at p0
    have fp : fin (part s t) := fin_le rp.nn (by omega) fin_0 (by rw [V_0]; omega)
    have m := rounds_exact (w := s.level) (by decide) (F.rm fp) h.fl.nn h.ll (by rw [p0, Int.natCast_one, Int.mul_one, Int.add_zero])
    have v := V_minw (more s t) s.depth
    have le := h.le
    simp only; omega
  · rw [fill_no h4]
/-- left alone as long as it takes it is full -/
theorem fill_full {s : S} (h : s.ok) {t : Int} (h1 : s.last < t) (h2 : t ≤ 1000000) (h3 : V s.depth ≤ V s.rate * (t - s.last)) : V (s.fill t).level = V s.depth := by
  have hU := Upos
  rw [fill_yes h1]
  have F := fill_spec h h1 h2
  have k := le_rounds (w := s.depth) U_pos F.rp h.fd.nn h.ld (Int.mul_le_mul_of_nonneg_right h3 (by omega))
  have g := F.gp
  have v := V_minw (more s t) s.depth
  simp only; omega
theorem one_whole {s : S} (h : s.ok) {k : Nat} (hk : k < 2000) (e : V s.level = ((k + 1 : Nat) : Int) * (U : Int)) : s.one.2 = true ∧ V s.one.1.level = (k : Int) * (U : Int) := by
  have hU := Upos
  have e' : V s.level = (k : Int) * (U : Int) + (U : Int) := by rw [e, Int.natCast_add, Int.natCast_one, Int.add_mul, Int.one_mul]
  have p := Int.mul_nonneg (Int.natCast_nonneg k) (Int.le_of_lt hU)
  have h1 : (U : Int) ≤ V s.level := by omega
  rw [one_yes h1]
  obtain ⟨_, R, _, _⟩ := sub_one h h1
  obtain ⟨w, fw, lw, vw⟩ := int_word k (Nat.lt_trans hk (by decide))
  refine ⟨rfl, ?_⟩
  have := rounds_exact (w := w) (by decide) R fw.nn lw (by rw [Int.natCast_one, Int.mul_one]; omega)
  simp only; omega
theorem one_none {s : S} (e : V s.level = 0) : s.one = (s, false) := one_no (by have := Upos; omega)
end Buck
end Fl

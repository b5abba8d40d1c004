/- Binary floats of 64 bits over the core Ieee: what a word is worth, in least steps; rounding is monotone; sums, products, quotients, whole numbers. No program is spoken of here. -/
import Ieee.Arith
import Derived.Laws.FloatBits
namespace Fl

/-- The nearest whole number to n / d, of two as near the even one. -/
def rne (n d : Nat) : Nat := n / d + (decide (d < 2 * (n % d)) || (decide (d = 2 * (n % d)) && n / d % 2 == 1)).toNat

theorem rne_le_iff {n d : Nat} (k : Nat) (hd : 0 < d) :
    rne n d ≤ k ↔ 2 * n < (2 * k + 1) * d ∨ (2 * n = (2 * k + 1) * d ∧ k % 2 = 0) := by
  have hn : d * (n / d) + n % d = n := Nat.div_add_mod n d
  have hr : n % d < d := Nat.mod_lt _ hd
  unfold rne
  generalize n / d = q at *
  generalize n % d = r at *
  have e : (2 * k + 1) * d = 2 * (d * k) + d := by rw [Nat.add_mul, Nat.mul_assoc, Nat.mul_comm k d]; omega
  rw [e]
  rcases Nat.lt_trichotomy q k with h | h | h
  · have : d * q + d ≤ d * k := by rw [← Nat.mul_succ]; exact Nat.mul_le_mul_left d h
    have hb : (decide (d < 2 * r) || (decide (d = 2 * r) && q % 2 == 1)).toNat ≤ 1 := Bool.toNat_le _
    constructor <;> intro _ <;> omega
  · subst h
    by_cases h1 : d < 2 * r
    · simp only [h1, decide_true, Bool.true_or, Bool.toNat_true]
      omega
    · by_cases h2 : d = 2 * r
      · by_cases h3 : q % 2 = 1
        · have g1 : decide (d < 2 * r) = false := decide_eq_false h1
          have g2 : decide (d = 2 * r) = true := decide_eq_true h2
          have g3 : (q % 2 == 1) = true := by simp [h3]
          simp only [g1, g2, g3, Bool.and_true, Bool.or_true, Bool.toNat_true]
          omega
        · have h4 : (q % 2 == 1) = false := by simp [h3]
          simp only [h1, h4, decide_false, Bool.and_false, Bool.or_self, Bool.toNat_false]
          omega
      · simp only [h1, h2, decide_false, Bool.false_and, Bool.or_self, Bool.toNat_false]
        omega
  · have : d * k + d ≤ d * q := by rw [← Nat.mul_succ]; exact Nat.mul_le_mul_left d h
    constructor <;> intro _ <;> omega

theorem rne_mono {n d n' d' : Nat} (hd : 0 < d) (hd' : 0 < d') (h : n * d' ≤ n' * d) : rne n d ≤ rne n' d' := by
  rw [rne_le_iff _ hd]
  have h2 := (rne_le_iff (n := n') (rne n' d') hd').1 (Nat.le_refl _)
  generalize rne n' d' = k at *
  generalize 2 * k + 1 = c at *
  -- 2 n d' ≤ 2 n' d ≤ c d' d
  have a1 : (2 * n) * d' ≤ (2 * n') * d := by rw [Nat.mul_assoc, Nat.mul_assoc]; omega
  rcases h2 with h2 | ⟨h2, hk⟩
  · left
    have a2 : (2 * n') * d < c * d' * d := Nat.mul_lt_mul_of_pos_right h2 hd
    have a3 : c * d' * d = c * d * d' := by rw [Nat.mul_assoc, Nat.mul_comm d' d, ← Nat.mul_assoc]
    rw [a3] at a2
    exact Nat.lt_of_mul_lt_mul_right (Nat.lt_of_le_of_lt a1 a2)
  · have a2 : (2 * n') * d = c * d' * d := by rw [h2]
    have a3 : c * d' * d = c * d * d' := by rw [Nat.mul_assoc, Nat.mul_comm d' d, ← Nat.mul_assoc]
    rw [a2, a3] at a1
    have a4 : 2 * n ≤ c * d := Nat.le_of_mul_le_mul_right a1 hd'
    omega

theorem rne_mul (n d c : Nat) (hd : 0 < d) (hc : 0 < c) : rne (n * c) (d * c) = rne n d := by
  have hdc : 0 < d * c := Nat.mul_pos hd hc
  apply Nat.le_antisymm
  · exact rne_mono hdc hd (by rw [Nat.mul_assoc, Nat.mul_comm c d]; exact Nat.le_refl _)
  · exact rne_mono hd hdc (by rw [Nat.mul_assoc, Nat.mul_comm c d]; exact Nat.le_refl _)

theorem rne_whole (k d : Nat) (hd : 0 < d) : rne (k * d) d = k := by
  have h := rne_mul k 1 d (by decide) hd
  rw [Nat.one_mul] at h
  rw [h]; unfold rne; rw [Nat.mod_one, Nat.div_one]; simp

theorem lt_two_pow_log2 (n : Nat) : n < 2 ^ (n.log2 + 1) := by
  by_cases h : n = 0
  · subst h; exact Nat.two_pow_pos _
  · exact (Nat.log2_lt h).1 (Nat.lt_succ_self _)

/-- The cut of the core is that rounding. -/
theorem cut_even (neg : Bool) (n drop : Nat) : Ieee.Toward.cut .even neg n drop = rne n (2 ^ drop) := by
  unfold Ieee.Toward.cut
  dsimp only
  rw [Nat.one_shiftLeft]
  by_cases h : drop ≤ n.log2 + 2
  · rw [Nat.min_eq_left h]; unfold rne; congr 2
  · have h : n.log2 + 2 < drop := by omega
    rw [Nat.min_eq_right (by omega)]
    have hl := lt_two_pow_log2 n
    have e1 : 2 ^ (n.log2 + 2) = 2 * 2 ^ (n.log2 + 1) := by rw [Nat.pow_succ 2 (n.log2 + 1)]; omega
    have e2 : 2 ^ (n.log2 + 2) ≤ 2 ^ drop := Nat.pow_le_pow_right (by decide) (by omega)
    have s1 : n < 2 ^ (n.log2 + 2) := by omega
    have s2 : n < 2 ^ drop := by omega
    unfold rne
    rw [Nat.div_eq_of_lt s1, Nat.mod_eq_of_lt s1, Nat.div_eq_of_lt s2, Nat.mod_eq_of_lt s2]
    have t1 : decide (2 ^ (n.log2 + 2) < 2 * n) = false := by simp; omega
    have t2 : decide (2 ^ drop < 2 * n) = false := by simp; omega
    simp [t1, t2]

/-- The rung to which n / d least steps are rounded. -/
def Rung (n d r : Nat) : Prop :=
  ∃ e, n < d * 2 ^ (53 + e) ∧ (e = 0 ∨ d * 2 ^ (52 + e) ≤ n) ∧ r = e * 2 ^ 52 + rne n (d * 2 ^ e)

theorem rung_mono {n d r n' d' r' : Nat} (hd : 0 < d) (hd' : 0 < d') (h : Rung n d r) (h' : Rung n' d' r') (le : n * d' ≤ n' * d) : r ≤ r' := by
  obtain ⟨e, h1, h2, rfl⟩ := h
  obtain ⟨e', h1', h2', rfl⟩ := h'
  have p : ∀ k, 0 < 2 ^ k := fun k => Nat.two_pow_pos k
  rcases Nat.lt_trichotomy e e' with hl | hl | hl
  · -- rne n (d 2^e) ≤ 2^53, rne n' .. ≥ 2^52
    have b1 : rne n (d * 2 ^ e) ≤ 2 ^ 53 := by
      rw [rne_le_iff _ (Nat.mul_pos hd (p e))]
      left
      have : d * 2 ^ (53 + e) = 2 ^ 53 * (d * 2 ^ e) := by rw [Nat.pow_add, ← Nat.mul_assoc, Nat.mul_comm d, Nat.mul_assoc]
      rw [this] at h1
      rw [Nat.add_mul, Nat.mul_assoc]
      have := Nat.mul_pos hd (p e)
      omega
    have b2 : 2 ^ 52 ≤ rne n' (d' * 2 ^ e') := by
      have h3 : d' * 2 ^ (52 + e') ≤ n' := h2'.resolve_left (by omega)
      have : d' * 2 ^ (52 + e') = 2 ^ 52 * (d' * 2 ^ e') := by rw [Nat.pow_add, ← Nat.mul_assoc, Nat.mul_comm d', Nat.mul_assoc]
      rw [this] at h3
      have h4 := rne_whole (2 ^ 52) (d' * 2 ^ e') (Nat.mul_pos hd' (p e'))
      rw [← h4]
      exact rne_mono (Nat.mul_pos hd' (p e')) (Nat.mul_pos hd' (p e')) (Nat.mul_le_mul_right _ h3)
    have : (e + 1) * 2 ^ 52 ≤ e' * 2 ^ 52 := Nat.mul_le_mul_right _ hl
    have e53 : (2:Nat) ^ 53 = 2 * 2 ^ 52 := by decide
    generalize rne n (d * 2 ^ e) = a at *
    generalize rne n' (d' * 2 ^ e') = b at *
    omega
  · subst hl
    have : rne n (d * 2 ^ e) ≤ rne n' (d' * 2 ^ e) := by
      apply rne_mono (Nat.mul_pos hd (p e)) (Nat.mul_pos hd' (p e))
      rw [← Nat.mul_assoc, ← Nat.mul_assoc]
      exact Nat.mul_le_mul_right _ le
    omega
  · exfalso
    have h3 : d * 2 ^ (52 + e) ≤ n := h2.resolve_left (by omega)
    -- n' < d' 2^(53+e') ≤ d' 2^(52+e)
    have h4 : d' * 2 ^ (53 + e') ≤ d' * 2 ^ (52 + e) := Nat.mul_le_mul_left _ (Nat.pow_le_pow_right (by decide) (by omega))
    have h5 : n' < d' * 2 ^ (52 + e) := Nat.lt_of_lt_of_le h1' h4
    have h6 : n' * d < d' * 2 ^ (52 + e) * d := Nat.mul_lt_mul_of_pos_right h5 hd
    have h7 : d * 2 ^ (52 + e) * d' ≤ n * d' := Nat.mul_le_mul_right _ h3
    have h8 : d' * 2 ^ (52 + e) * d = d * 2 ^ (52 + e) * d' := by rw [Nat.mul_comm d' , Nat.mul_assoc, Nat.mul_comm d' d, ← Nat.mul_assoc, Nat.mul_comm d]
    omega

theorem rung_eq {n d r n' d' r' : Nat} (hd : 0 < d) (hd' : 0 < d') (h : Rung n d r) (h' : Rung n' d' r') (e : n * d' = n' * d) : r = r' :=
  Nat.le_antisymm (rung_mono hd hd' h h' (by omega)) (rung_mono hd' hd h' h (by omega))

/-- How many least steps a rung is worth. -/
def valR (r : Nat) : Nat := if r < 2 ^ 52 then r else (2 ^ 52 + r % 2 ^ 52) * 2 ^ (r / 2 ^ 52 - 1)

theorem rung_val (r : Nat) : Rung (valR r) 1 r := by
  unfold valR
  by_cases h : r < 2 ^ 52
  · rw [if_pos h]
    refine ⟨0, ?_, Or.inl rfl, ?_⟩
    · rw [Nat.one_mul]; exact Nat.lt_trans h (by decide)
    · have := rne_whole r 1 (by decide); simp at this; simp [this]
  · rw [if_neg h]
    have hq : 1 ≤ r / 2 ^ 52 := by omega
    have hm : r % 2 ^ 52 < 2 ^ 52 := Nat.mod_lt _ (by decide)
    have hr : 2 ^ 52 * (r / 2 ^ 52) + r % 2 ^ 52 = r := Nat.div_add_mod _ _
    generalize r / 2 ^ 52 = q at *
    generalize r % 2 ^ 52 = m at *
    refine ⟨q - 1, ?_, ?_, ?_⟩
    · rw [Nat.one_mul, Nat.pow_add]
      exact Nat.mul_lt_mul_of_pos_right (by omega) (Nat.two_pow_pos _)
    · right
      rw [Nat.one_mul, Nat.pow_add]
      exact Nat.mul_le_mul_right _ (by omega)
    · rw [Nat.one_mul, rne_whole _ _ (Nat.two_pow_pos _)]
      omega

theorem valR_mono {r r' : Nat} (h : r ≤ r') : valR r ≤ valR r' := by
  rcases Nat.lt_or_ge (valR r') (valR r) with hl | hl
  · have := rung_mono (by decide) (by decide) (rung_val r') (rung_val r) (by simpa using Nat.le_of_lt hl)
    have : r = r' := by omega
    subst this; omega
  · exact hl

theorem valR_le_iff {r r' : Nat} : valR r ≤ valR r' ↔ r ≤ r' :=
  ⟨fun h => rung_mono (by decide) (by decide) (rung_val r) (rung_val r') (by simpa using h), valR_mono⟩

theorem valR_inj {r r' : Nat} (h : valR r = valR r') : r = r' :=
  Nat.le_antisymm (valR_le_iff.1 (by omega)) (valR_le_iff.1 (by omega))

theorem valR_lt_iff {r r' : Nat} : valR r < valR r' ↔ r < r' := by
  rw [← Nat.not_le, ← Nat.not_le, valR_le_iff]

theorem valR_zero : valR 0 = 0 := rfl

/-- What is rounded stays beneath a rung beneath which it was. -/
theorem rung_le {n d r k : Nat} (hd : 0 < d) (h : Rung n d r) (le : n ≤ valR k * d) : r ≤ k :=
  rung_mono hd (by decide) h (rung_val k) (by simpa using le)
theorem le_rung {n d r k : Nat} (hd : 0 < d) (h : Rung n d r) (le : valR k * d ≤ n) : k ≤ r :=
  rung_mono (by decide) hd (rung_val k) h (by simpa using le)
theorem rung_exact {n d r k : Nat} (hd : 0 < d) (h : Rung n d r) (e : n = valR k * d) : r = k :=
  Nat.le_antisymm (rung_le hd h (by omega)) (le_rung hd h (by omega))

/-- The core's nearest word. -/
theorem nearest_rung (neg : Bool) (mag : Nat) (place : Int) :
    ∃ r, Ieee.double.nearest neg mag place = Ieee.double.word neg (min r Ieee.double.infRung) ∧
      Rung (mag * 2 ^ (place + 1074).toNat) (2 ^ (-1074 - place).toNat) r := by
  unfold Ieee.Format.nearest
  have hlp : Ieee.double.leastPlace = -1074 := by decide
  have hfb : (Ieee.double.fractionBits : Nat) = 52 := rfl
  have hbn : Ieee.double.binade = 2 ^ 52 := rfl
  by_cases h0 : mag = 0
  · subst h0
    refine ⟨0, by simp, 0, ?_, Or.inl rfl, ?_⟩
    · rw [Nat.zero_mul]; exact Nat.mul_pos (Nat.two_pow_pos _) (Nat.two_pow_pos _)
    · simp [rne]
  rw [if_neg h0]
  dsimp only
  rw [cut_even, hlp, hfb, hbn]
  have l1 := Nat.log2_self_le h0
  have l2 := lt_two_pow_log2 mag
  generalize mag.log2 = L at *
  generalize ha : (place + 1074).toNat = a
  generalize hb : (-1074 - place).toNat = b
  generalize hE : (max (place + (L:Int) - (52:Nat)) (-1074) - -1074).toNat = e
  generalize hx : (place - max (place + (L:Int) - (52:Nat)) (-1074)).toNat = x
  generalize hy : (max (place + (L:Int) - (52:Nat)) (-1074) - place).toNat = y
  have hxy : x + (b + e) = a + y := by omega
  rw [Nat.shiftLeft_eq]
  refine ⟨_, rfl, e, ?_, ?_, ?_⟩
  · -- mag 2^a < 2^b 2^(53+e)
    have : mag * 2 ^ a < 2 ^ (L + 1) * 2 ^ a := Nat.mul_lt_mul_of_pos_right l2 (Nat.two_pow_pos _)
    rw [← Nat.pow_add] at this ⊢
    exact Nat.lt_of_lt_of_le this (Nat.pow_le_pow_right (by decide) (by omega))
  · rcases Nat.eq_zero_or_pos e with h | h
    · exact Or.inl h
    · right
      have : 2 ^ L * 2 ^ a ≤ mag * 2 ^ a := Nat.mul_le_mul_right _ l1
      rw [← Nat.pow_add] at this ⊢
      exact Nat.le_trans (Nat.pow_le_pow_right (by decide) (by omega)) this
  · congr 1
    rw [← Nat.pow_add]
    have p : ∀ k, 0 < 2 ^ k := fun k => Nat.two_pow_pos k
    apply Nat.le_antisymm
    · apply rne_mono (p _) (p _); rw [Nat.mul_assoc, Nat.mul_assoc, ← Nat.pow_add, ← Nat.pow_add, hxy]; exact Nat.le_refl _
    · apply rne_mono (p _) (p _); rw [Nat.mul_assoc, Nat.mul_assoc, ← Nat.pow_add, ← Nat.pow_add, hxy]; exact Nat.le_refl _

end Fl
namespace Fl
/-! Words of the format double: what they are worth, in least steps (2 ^ -1074). -/

def rg (x : Nat) : Nat := x % 2 ^ 63
def sg (x : Nat) : Bool := x / 2 ^ 63 % 2 == 1
def inf : Nat := 2047 * 2 ^ 52
def V (x : Nat) : Int := if sg x then -(valR (rg x) : Int) else valR (rg x)
/-- no NaN -/
def nn (x : Nat) : Prop := rg x ≤ inf
/-- a number -/
def fin (x : Nat) : Prop := rg x < inf

theorem infRung_eq : Ieee.double.infRung = inf := by decide
theorem fin.nn {x : Nat} (h : fin x) : nn x := Nat.le_of_lt h

theorem rg_word (neg : Bool) {k : Nat} (h : k < 2 ^ 63) : rg (Ieee.double.word neg k) = k := by
  unfold rg Ieee.Format.word
  have : Ieee.double.signWeight = 2 ^ 63 := rfl
  rw [this]
  split <;> omega
theorem sg_word (neg : Bool) {k : Nat} (h : k < 2 ^ 63) : sg (Ieee.double.word neg k) = neg := by
  unfold sg Ieee.Format.word
  have : Ieee.double.signWeight = 2 ^ 63 := rfl
  rw [this]
  cases neg
  · simp only [Bool.false_eq_true, if_false, beq_eq_false_iff_ne]; omega
  · simp only [if_true, beq_iff_eq]; omega
theorem word_lt (neg : Bool) {k : Nat} (h : k < 2 ^ 63) : Ieee.double.word neg k < 2 ^ 64 := by
  unfold Ieee.Format.word
  have : Ieee.double.signWeight = 2 ^ 63 := rfl
  rw [this]
  split <;> omega
theorem word_self {x : Nat} (h : x < 2 ^ 64) : Ieee.double.word (sg x) (rg x) = x := by
  unfold Ieee.Format.word sg rg
  have : Ieee.double.signWeight = 2 ^ 63 := rfl
  rw [this]
  by_cases hs : x / 2 ^ 63 % 2 = 1
  · have : (x / 2 ^ 63 % 2 == 1) = true := by simp [hs]
    rw [this, if_pos rfl]; omega
  · have : (x / 2 ^ 63 % 2 == 1) = false := by simp [hs]
    rw [this]; simp only [Bool.false_eq_true, if_false]; omega
theorem word_ext {x y : Nat} (hx : x < 2 ^ 64) (hy : y < 2 ^ 64) (hs : sg x = sg y) (hr : rg x = rg y) : x = y := by
  rw [← word_self hx, ← word_self hy, hs, hr]

theorem inf_lt : inf < 2 ^ 63 := by decide

/-- What the core reads in a word that is a number. -/
theorem read_fin {x : Nat} (h : fin x) : ∃ m p, Ieee.double.read x = .number (sg x) m p ∧ -1074 ≤ p ∧ m * 2 ^ (p + 1074).toNat = valR (rg x) := by
  have e : Ieee.double.read x =
    if rg x < 2 ^ 52 then .number (sg x) (rg x) (-1074)
    else if rg x < Ieee.double.infRung then .number (sg x) (2 ^ 52 + rg x % 2 ^ 52) (-1074 + (rg x / 2 ^ 52 - 1 : Nat))
    else if rg x = Ieee.double.infRung then .infinity (sg x) else .nan (sg x) (rg x - Ieee.double.infRung) := rfl
  rw [e, infRung_eq]
  unfold valR
  by_cases h1 : rg x < 2 ^ 52
  · rw [if_pos h1, if_pos h1]
    exact ⟨_, _, rfl, by decide, by simp⟩
  · rw [if_neg h1, if_pos (show rg x < inf from h), if_neg h1]
    refine ⟨_, _, rfl, by omega, ?_⟩
    congr 2
    omega
theorem read_inf {x : Nat} (h : rg x = inf) : Ieee.double.read x = .infinity (sg x) := by
  have e : Ieee.double.read x =
    if rg x < 2 ^ 52 then .number (sg x) (rg x) (-1074)
    else if rg x < Ieee.double.infRung then .number (sg x) (2 ^ 52 + rg x % 2 ^ 52) (-1074 + (rg x / 2 ^ 52 - 1 : Nat))
    else if rg x = Ieee.double.infRung then .infinity (sg x) else .nan (sg x) (rg x - Ieee.double.infRung) := rfl
  rw [e, infRung_eq, h]
  rw [if_neg (by decide), if_neg (by decide), if_pos rfl]
theorem read_nan {x : Nat} (h : ¬ nn x) : ∃ k, Ieee.double.read x = .nan (sg x) k := by
  have e : Ieee.double.read x =
    if rg x < 2 ^ 52 then .number (sg x) (rg x) (-1074)
    else if rg x < Ieee.double.infRung then .number (sg x) (2 ^ 52 + rg x % 2 ^ 52) (-1074 + (rg x / 2 ^ 52 - 1 : Nat))
    else if rg x = Ieee.double.infRung then .infinity (sg x) else .nan (sg x) (rg x - Ieee.double.infRung) := rfl
  rw [e, infRung_eq]
  have h : inf < rg x := Nat.lt_of_not_le h
  have : 2 ^ 52 ≤ inf := by decide
  rw [if_neg (by omega), if_neg (by omega), if_neg (by omega)]
  exact ⟨_, rfl⟩

theorem signed_eq (s : Bool) (m u : Nat) : Ieee.signed s m u = if s then -((m * 2 ^ u : Nat) : Int) else ((m * 2 ^ u : Nat) : Int) := by
  unfold Ieee.signed; rw [Nat.shiftLeft_eq]

theorem signed_scale (s : Bool) (m u v : Nat) : Ieee.signed s m (u + v) = Ieee.signed s m u * ((2 ^ v : Nat) : Int) := by
  rw [signed_eq, signed_eq, Nat.pow_add, ← Nat.mul_assoc]
  cases s
  · simp only [Bool.false_eq_true, if_false]; exact Int.natCast_mul _ _
  · simp only [if_true]; rw [Int.neg_mul]; congr 1

theorem V_signed {x m : Nat} {p : Int} (e : m * 2 ^ (p + 1074).toNat = valR (rg x)) : V x = Ieee.signed (sg x) m (p + 1074).toNat := by
  rw [signed_eq, e]; rfl

theorem compare_scale (a b : Int) (k : Nat) (hk : 0 < k) : compare (a * (k : Int)) (b * (k : Int)) = compare a b := by
  have hk' : (0 : Int) < k := by omega
  rcases Int.lt_trichotomy a b with h | h | h
  · rw [Int.compare_eq_lt.2 h, Int.compare_eq_lt.2 (Int.mul_lt_mul_of_pos_right h hk')]
  · subst h; simp
  · rw [Int.compare_eq_gt.2 h, Int.compare_eq_gt.2 (Int.mul_lt_mul_of_pos_right h hk')]

theorem V_lt_inf {x : Nat} (h : fin x) : -(valR inf : Int) < V x ∧ V x < valR inf := by
  have := valR_lt_iff.2 h
  unfold V; split <;> omega
theorem V_inf {x : Nat} (h : rg x = inf) : V x = if sg x then -(valR inf : Int) else valR inf := by
  unfold V; rw [h]

/-- THE ORDER OF WORDS: the order of what they are worth (an infinity: the next rung). -/
theorem order_nn {x y : Nat} (hx : nn x) (hy : nn y) : Ieee.double.order x y = some (compare (V x) (V y)) := by
  unfold Ieee.Format.order
  have hI : (0 : Int) < valR inf := by
    have : valR 0 < valR inf := valR_lt_iff.2 (by decide)
    rw [valR_zero] at this; omega
  rcases Nat.lt_or_eq_of_le hx with fx | ix <;> rcases Nat.lt_or_eq_of_le hy with fy | iy
  · obtain ⟨m, i, ex, hi, vx⟩ := read_fin fx
    obtain ⟨n, j, ey, hj, vy⟩ := read_fin fy
    rw [ex, ey]
    unfold Ieee.Datum.order
    dsimp only
    congr 1
    rw [V_signed vx, V_signed vy]
    have a1 : (i + 1074).toNat = (i - min i j).toNat + (min i j + 1074).toNat := by omega
    have a2 : (j + 1074).toNat = (j - min i j).toNat + (min i j + 1074).toNat := by omega
    rw [a1, a2, signed_scale, signed_scale (sg y), compare_scale _ _ _ (Nat.two_pow_pos _)]
  · obtain ⟨m, i, ex, hi, vx⟩ := read_fin fx
    rw [ex, read_inf iy, V_inf iy]
    unfold Ieee.Datum.order
    dsimp only
    have := V_lt_inf fx
    cases sg y
    · simp only [Bool.false_eq_true, if_false]; rw [Int.compare_eq_lt.2 (by omega)]
    · simp only [if_true]; rw [Int.compare_eq_gt.2 (by omega)]
  · obtain ⟨n, j, ey, hj, vy⟩ := read_fin fy
    rw [ey, read_inf ix, V_inf ix]
    unfold Ieee.Datum.order
    dsimp only
    have := V_lt_inf fy
    cases sg x
    · simp only [Bool.false_eq_true, if_false]; rw [Int.compare_eq_gt.2 (by omega)]
    · simp only [if_true]; rw [Int.compare_eq_lt.2 (by omega)]
  · rw [read_inf ix, read_inf iy, V_inf ix, V_inf iy]
    unfold Ieee.Datum.order
    dsimp only
    cases sg x <;> cases sg y
    · simp
    · simp only [Bool.false_eq_true, if_false, if_true]; rw [Int.compare_eq_gt.2 (by omega)]; rfl
    · simp only [Bool.false_eq_true, if_false, if_true]; rw [Int.compare_eq_lt.2 (by omega)]; rfl
    · simp

theorem order_nan_left {x : Nat} (y : Nat) (hx : ¬ nn x) : Ieee.double.order x y = none := by
  obtain ⟨k, e⟩ := read_nan hx
  unfold Ieee.Format.order; rw [e]; unfold Ieee.Datum.order; rfl
theorem order_nan_right (x : Nat) {y : Nat} (hy : ¬ nn y) : Ieee.double.order x y = none := by
  obtain ⟨k, e⟩ := read_nan hy
  unfold Ieee.Format.order; rw [e]; unfold Ieee.Datum.order; cases Ieee.double.read x <;> rfl

/-- r is the word to which N / D least steps are rounded (of a zero the sign is not said). -/
def Rounds (N : Int) (D r : Nat) : Prop :=
  r < 2 ^ 64 ∧ ∃ k, rg r = min k inf ∧ Rung N.natAbs D k ∧ (N < 0 → sg r = true) ∧ (0 < N → sg r = false)

theorem Rounds.nn {N : Int} {D r : Nat} (h : Rounds N D r) : nn r := by
  obtain ⟨_, k, e, _⟩ := h
  unfold Fl.nn; omega

theorem rung_zero {d k : Nat} (hd : 0 < d) (h : Rung 0 d k) : k = 0 := by
  have := rung_le (k := 0) hd h (by simp); omega

theorem Rounds.val {N : Int} {D r : Nat} (hD : 0 < D) (h : Rounds N D r) : ∃ k, Rung N.natAbs D k ∧ V r = if N < 0 then -(valR (min k inf) : Int) else valR (min k inf) := by
  obtain ⟨_, k, e, hk, s1, s2⟩ := h
  refine ⟨k, hk, ?_⟩
  unfold V; rw [e]
  rcases Int.lt_trichotomy N 0 with hN | hN | hN
  · rw [s1 hN, if_pos hN]; rfl
  · subst hN
    have : k = 0 := rung_zero hD hk
    subst this
    simp [valR_zero]
  · rw [s2 hN, if_neg (show ¬ N < 0 by omega)]; rfl

/-- ROUNDING IS MONOTONE. -/
theorem rounds_mono {N N' : Int} {D D' r r' : Nat} (hD : 0 < D) (hD' : 0 < D') (h : Rounds N D r) (h' : Rounds N' D' r') (le : N * (D' : Int) ≤ N' * (D : Int)) : V r ≤ V r' := by
  obtain ⟨k, hk, e⟩ := h.val hD
  obtain ⟨k', hk', e'⟩ := h'.val hD'
  rw [e, e']
  have pD : (0 : Int) < D := by omega
  have pD' : (0 : Int) < D' := by omega
  by_cases hN : N < 0
  · rw [if_pos hN]
    by_cases hN' : N' < 0
    · rw [if_pos hN']
      have : k' ≤ k := by
        refine rung_mono hD' hD hk' hk ?_
        have a1 : (N'.natAbs : Int) = -N' := by omega
        have a2 : (N.natAbs : Int) = -N := by omega
        have : ((N'.natAbs * D : Nat) : Int) ≤ ((N.natAbs * D' : Nat) : Int) := by
          rw [Int.natCast_mul, Int.natCast_mul, a1, a2, Int.neg_mul, Int.neg_mul]; omega
        omega
      have := valR_mono (show min k' inf ≤ min k inf by omega)
      omega
    · rw [if_neg hN']; omega
  · rw [if_neg hN]
    have hN' : ¬ N' < 0 := by
      intro h2
      have := Int.mul_neg_of_neg_of_pos h2 pD
      have := Int.mul_nonneg (show 0 ≤ N by omega) (show (0:Int) ≤ D' by omega)
      omega
    rw [if_neg hN']
    have : k ≤ k' := by
      refine rung_mono hD hD' hk hk' ?_
      have a1 : (N'.natAbs : Int) = N' := by omega
      have a2 : (N.natAbs : Int) = N := by omega
      have : ((N.natAbs * D' : Nat) : Int) ≤ ((N'.natAbs * D : Nat) : Int) := by
        rw [Int.natCast_mul, Int.natCast_mul, a1, a2]; exact le
      omega
    have := valR_mono (show min k inf ≤ min k' inf by omega)
    omega

theorem nn_lt {x : Nat} (h : nn x) : rg x < 2 ^ 63 := Nat.lt_of_le_of_lt h inf_lt

/-- A word is what it is worth, rounded. -/
theorem rounds_self {x : Nat} (hx : nn x) (hl : x < 2 ^ 64) : Rounds (V x) 1 x := by
  have hv : (V x).natAbs = valR (rg x) := by unfold V; split <;> omega
  refine ⟨hl, rg x, (Nat.min_eq_left hx).symm, by rw [hv]; exact rung_val _, ?_, ?_⟩
  · intro h; unfold V at h; cases hs : sg x
    · rw [hs] at h; simp at h; omega
    · rfl
  · intro h; unfold V at h; cases hs : sg x
    · rfl
    · rw [hs] at h; simp at h; omega

theorem rounds_le {N : Int} {D r w : Nat} (hD : 0 < D) (h : Rounds N D r) (hw : nn w) (hl : w < 2 ^ 64) (le : N ≤ V w * (D : Int)) : V r ≤ V w :=
  rounds_mono hD (by decide) h (rounds_self hw hl) (by simpa using le)
theorem le_rounds {N : Int} {D r w : Nat} (hD : 0 < D) (h : Rounds N D r) (hw : nn w) (hl : w < 2 ^ 64) (le : V w * (D : Int) ≤ N) : V w ≤ V r :=
  rounds_mono (by decide) hD (rounds_self hw hl) h (by simpa using le)
theorem rounds_exact {N : Int} {D r w : Nat} (hD : 0 < D) (h : Rounds N D r) (hw : nn w) (hl : w < 2 ^ 64) (e : N = V w * (D : Int)) : V r = V w :=
  Int.le_antisymm (rounds_le hD h hw hl (by omega)) (le_rounds hD h hw hl (by omega))

/-- The core's nearest word of a signed number. -/
theorem nearest_rounds (N : Int) (neg : Bool) (mag : Nat) (place : Int) (a b : Nat) (ha : a = (place + 1074).toNat) (hb : b = (-1074 - place).toNat)
    (hm : N.natAbs = mag * 2 ^ a) (hs1 : N < 0 → neg = true) (hs2 : 0 < N → neg = false) :
    Rounds N (2 ^ b) (Ieee.double.nearest neg mag place) ∧ sg (Ieee.double.nearest neg mag place) = neg := by
  obtain ⟨r, e, hr⟩ := nearest_rung neg mag place
  rw [e, infRung_eq]
  have hl : min r inf < 2 ^ 63 := Nat.lt_of_le_of_lt (Nat.min_le_right _ _) inf_lt
  refine ⟨⟨word_lt _ hl, r, rg_word _ hl, ?_, ?_, ?_⟩, sg_word _ hl⟩
  · rw [hm, ha, hb]; exact hr
  · intro h; rw [sg_word _ hl]; exact hs1 h
  · intro h; rw [sg_word _ hl]; exact hs2 h

/-- SUM: of two numbers. -/
theorem add_fin {x y : Nat} (hx : fin x) (hy : fin y) : ∃ r, Ieee.double.add x y = some r ∧ Rounds (V x + V y) 1 r ∧ (V x + V y = 0 → sg r = (sg x && sg y)) := by
  obtain ⟨m, i, ex, hi, vx⟩ := read_fin hx
  obtain ⟨n, j, ey, hj, vy⟩ := read_fin hy
  unfold Ieee.Format.add
  rw [ex, ey]
  unfold Ieee.Datum.sum
  dsimp only [Option.map_some]
  refine ⟨_, rfl, ?_⟩
  unfold Ieee.Format.write
  dsimp only
  rw [V_signed vx, V_signed vy]
  have a1 : (i + 1074).toNat = (i - min i j).toNat + (min i j + 1074).toNat := by omega
  have a2 : (j + 1074).toNat = (j - min i j).toNat + (min i j + 1074).toNat := by omega
  rw [a1, a2, signed_scale, signed_scale (sg y), ← Int.add_mul]
  generalize Ieee.signed (sg x) m (i - min i j).toNat + Ieee.signed (sg y) n (j - min i j).toNat = T
  have hp : (0 : Int) < ((2 ^ (min i j + 1074).toNat : Nat) : Int) := Int.natCast_pos.2 (Nat.two_pow_pos _)
  have hb : (-1074 - min i j).toNat = 0 := by omega
  have key := nearest_rounds (T * ((2 ^ (min i j + 1074).toNat : Nat) : Int)) (if T = 0 then sg x && sg y else decide (T < 0)) T.natAbs (min i j) _ 0 rfl hb.symm
    (by rw [Int.natAbs_mul, Int.natAbs_natCast]) ?_ ?_
  · refine ⟨key.1, fun h => ?_⟩
    have : T = 0 := by
      rcases Int.lt_trichotomy T 0 with h1 | h1 | h1
      · have := Int.mul_neg_of_neg_of_pos h1 hp; omega
      · exact h1
      · have := Int.mul_pos h1 hp; omega
    have k2 := key.2
    rw [if_pos this] at k2
    rw [if_pos this]
    exact k2
  · intro h
    have h1 : T < 0 := by
      rcases Int.lt_trichotomy T 0 with h1 | h1 | h1
      · exact h1
      · subst h1; simp at h
      · have := Int.mul_pos h1 hp; omega
    rw [if_neg (by omega)]; exact decide_eq_true h1
  · intro h
    have h1 : 0 < T := by
      rcases Int.lt_trichotomy T 0 with h1 | h1 | h1
      · have := Int.mul_neg_of_neg_of_pos h1 hp; omega
      · subst h1; simp at h
      · exact h1
    rw [if_neg (by omega)]; exact decide_eq_false (by omega)

end Fl
namespace Fl

/-- One, in least steps. -/
def lowest : Nat := 1074
def U : Nat := 2 ^ lowest
theorem U_ex : ∃ K : Nat, K = 1074 ∧ U = 2 ^ K := ⟨lowest, rfl, rfl⟩
theorem U_pos : 0 < U := Nat.two_pow_pos lowest

theorem rung_total (n d : Nat) (hd : 0 < d) : ∃ r, Rung n d r := by
  -- the least e with n < d 2^(53+e)
  have ex : ∀ k e, n < d * 2 ^ (53 + (e + k)) → (e = 0 ∨ d * 2 ^ (52 + e) ≤ n) → ∃ e, n < d * 2 ^ (53 + e) ∧ (e = 0 ∨ d * 2 ^ (52 + e) ≤ n) := by
    intro k
    induction k with
    | zero => intro e h1 h2; exact ⟨e, h1, h2⟩
    | succ k ih =>
      intro e h1 h2
      by_cases h : n < d * 2 ^ (53 + e)
      · exact ⟨e, h, h2⟩
      · refine ih (e + 1) ?_ (Or.inr ?_)
        · rw [show e + 1 + k = e + (k + 1) by omega]; exact h1
        · rw [show 52 + (e + 1) = 53 + e by omega]; omega
  have h0 : n < d * 2 ^ (53 + (0 + n)) := by
    have : n < 2 ^ n := Nat.lt_two_pow_self
    have h1 : 2 ^ n ≤ 2 ^ (53 + (0 + n)) := Nat.pow_le_pow_right (by decide) (by omega)
    have h2 : 1 * 2 ^ (53 + (0 + n)) ≤ d * 2 ^ (53 + (0 + n)) := Nat.mul_le_mul_right _ hd
    omega
  obtain ⟨e, h1, h2⟩ := ex n 0 h0 (Or.inl rfl)
  exact ⟨_, e, h1, h2, rfl⟩

theorem rung_congr {n d r n' d' : Nat} (hd : 0 < d) (hd' : 0 < d') (h : Rung n d r) (e : n * d' = n' * d) : Rung n' d' r := by
  obtain ⟨r', h'⟩ := rung_total n' d' hd'
  rw [rung_eq hd hd' h h' e]; exact h'

theorem rounds_congr {N N' : Int} {D D' r : Nat} (hD : 0 < D) (hD' : 0 < D') (h : Rounds N D r) (e : N * (D' : Int) = N' * (D : Int)) : Rounds N' D' r := by
  obtain ⟨hl, k, h1, h2, h3, h4⟩ := h
  have pD : (0 : Int) < D := by omega
  have pD' : (0 : Int) < D' := by omega
  refine ⟨hl, k, h1, rung_congr hD hD' h2 ?_, ?_, ?_⟩
  · have := congrArg Int.natAbs e
    simpa [Int.natAbs_mul] using this
  · intro h
    apply h3
    have h5 : N * (D' : Int) < 0 := by rw [e]; exact Int.mul_neg_of_neg_of_pos h pD
    rcases Int.lt_or_le N 0 with h6 | h6
    · exact h6
    · have := Int.mul_nonneg h6 (Int.le_of_lt pD'); omega
  · intro h
    apply h4
    have h5 : 0 < N * (D' : Int) := by rw [e]; exact Int.mul_pos h pD
    rcases Int.lt_or_le 0 N with h6 | h6
    · exact h6
    · have := Int.mul_nonpos_of_nonpos_of_nonneg h6 (Int.le_of_lt pD'); omega

/-! ### products -/
theorem mul_fin {x y : Nat} (hx : fin x) (hy : fin y) : ∃ r, Ieee.double.mul x y = some r ∧ Rounds (V x * V y) U r ∧ sg r = (sg x ^^ sg y) := by
  obtain ⟨m, i, ex, hi, vx⟩ := read_fin hx
  obtain ⟨n, j, ey, hj, vy⟩ := read_fin hy
  unfold Ieee.Format.mul
  rw [ex, ey]
  unfold Ieee.Datum.product
  dsimp only [Option.map_some]
  refine ⟨_, rfl, ?_⟩
  unfold Ieee.Format.write
  dsimp only
  generalize ha : (i + j + 1074).toNat = a
  generalize hb : (-1074 - (i + j)).toNat = b
  -- the number, with its sign, at the place
  have key := nearest_rounds (if (sg x ^^ sg y) then -((m * n * 2 ^ a : Nat) : Int) else ((m * n * 2 ^ a : Nat) : Int)) (sg x ^^ sg y) (m * n) (i + j) a b ha.symm hb.symm
    (by split <;> omega) (fun h => by
      cases hs : (sg x ^^ sg y)
      · rw [hs] at h; simp only [Bool.false_eq_true, if_false] at h; omega
      · rfl) (fun h => by
      cases hs : (sg x ^^ sg y)
      · rfl
      · rw [hs] at h; simp only [if_true] at h; omega)
  refine ⟨rounds_congr (Nat.two_pow_pos _) U_pos key.1 ?_, key.2⟩
  obtain ⟨K, hK, hU⟩ := U_ex
  have e1 : m * n * 2 ^ a * U = valR (rg x) * valR (rg y) * 2 ^ b := by
    rw [← vx, ← vy, hU]
    have : (m * 2 ^ (i + 1074).toNat) * (n * 2 ^ (j + 1074).toNat) = m * n * 2 ^ ((i + 1074).toNat + (j + 1074).toNat) := by
      rw [Nat.pow_add, Nat.mul_mul_mul_comm]
    rw [this, Nat.mul_assoc (m * n), ← Nat.pow_add, Nat.mul_assoc (m * n), ← Nat.pow_add, show a + K = (i + 1074).toNat + (j + 1074).toNat + b by omega]
  have e2 : ((m * n * 2 ^ a : Nat) : Int) * ((U : Nat) : Int) = (valR (rg x) : Int) * (valR (rg y) : Int) * ((2 ^ b : Nat) : Int) := by
    rw [← Int.natCast_mul, ← Int.natCast_mul, ← Int.natCast_mul, e1]
  unfold V
  cases sg x <;> cases sg y <;> simp only [Bool.xor_false, Bool.xor_true, Bool.not_false, Bool.not_true, Bool.false_eq_true, if_true, if_false, Int.neg_mul, Int.mul_neg, Int.neg_neg] <;> omega

/-! ### quotients -/
theorem sticky_lt (A n E : Nat) (hn : 0 < n) : 2 * (A / n) + (A % n != 0).toNat < 2 * E ↔ 2 * A < 2 * E * n := by
  have h1 : n * (A / n) + A % n = A := Nat.div_add_mod A n
  have h2 : A % n < n := Nat.mod_lt _ hn
  generalize A / n = t at *
  generalize A % n = r at *
  have hs : (r != 0).toNat ≤ 1 := Bool.toNat_le _
  have e : 2 * E * n = 2 * (n * E) := by rw [Nat.mul_assoc, Nat.mul_comm E n]
  rw [e]
  rcases Nat.lt_or_ge t E with h | h
  · have : n * t + n ≤ n * E := by rw [← Nat.mul_succ]; exact Nat.mul_le_mul_left n h
    constructor <;> intro _ <;> omega
  · have : n * E ≤ n * t := Nat.mul_le_mul_left n h
    constructor <;> intro _ <;> omega
theorem sticky_eq (A n E : Nat) (hn : 0 < n) : 2 * (A / n) + (A % n != 0).toNat = 2 * E ↔ 2 * A = 2 * E * n := by
  have h1 : n * (A / n) + A % n = A := Nat.div_add_mod A n
  have h2 : A % n < n := Nat.mod_lt _ hn
  generalize A / n = t at *
  generalize A % n = r at *
  have e : 2 * E * n = 2 * (n * E) := by rw [Nat.mul_assoc, Nat.mul_comm E n]
  rw [e]
  by_cases hr : r = 0
  · subst hr
    simp only [bne_self_eq_false, Bool.toNat_false]
    constructor
    · intro h; have : t = E := by omega
      subst this; omega
    · intro h
      have : n * t = n * E := by omega
      have := Nat.eq_of_mul_eq_mul_left hn this
      omega
  · have : (r != 0).toNat = 1 := by simp [hr]
    rw [this]
    constructor
    · intro h; omega
    · intro h
      exfalso
      rcases Nat.lt_trichotomy t E with h3 | h3 | h3
      · have : n * t + n ≤ n * E := by rw [← Nat.mul_succ]; exact Nat.mul_le_mul_left n h3
        omega
      · subst h3; omega
      · have : n * E ≤ n * t := Nat.mul_le_mul_left n (Nat.le_of_lt h3)
        omega

/-- A quotient with its odd last digit is rounded as the quotient itself. -/
theorem rung_sticky {A n a b r : Nat} (hn : 0 < n) (hbig : 2 ^ 53 ≤ A / n) (h : Rung ((2 * (A / n) + (A % n != 0).toNat) * 2 ^ a) (2 ^ b) r) : Rung (2 * A * 2 ^ a) (n * 2 ^ b) r := by
  obtain ⟨e, h1, h2, rfl⟩ := h
  generalize hq : 2 * (A / n) + (A % n != 0).toNat = Q at *
  have hQ : 2 ^ 54 ≤ Q := by
    have : (2 : Nat) ^ 54 = 2 * 2 ^ 53 := by decide
    omega
  have p : ∀ k, 0 < 2 ^ k := fun k => Nat.two_pow_pos k
  have hab : a + 2 ≤ b + e := by
    have h3 : 2 ^ 54 * 2 ^ a ≤ Q * 2 ^ a := Nat.mul_le_mul_right _ hQ
    have h4 : 2 ^ (54 + a) < 2 ^ (b + (53 + e)) := by rw [Nat.pow_add, Nat.pow_add 2 b]; omega
    have := (Nat.pow_lt_pow_iff_right (a := 2) (by decide)).1 h4
    omega
  obtain ⟨z, hz⟩ : ∃ z, b + e = a + z + 2 := ⟨b + e - a - 2, by omega⟩
  -- comparisons with even numbers
  have lt : ∀ E, Q < 2 * E ↔ 2 * A < 2 * E * n := fun E => by rw [← hq]; exact sticky_lt A n E hn
  have eq : ∀ E, Q = 2 * E ↔ 2 * A = 2 * E * n := fun E => by rw [← hq]; exact sticky_eq A n E hn
  -- at 2^(2+k) for whatever
  have ltp : ∀ c k, Q * 2 ^ a < c * 2 ^ (a + k + 1) ↔ 2 * A * 2 ^ a < n * (c * 2 ^ (a + k + 1)) := by
    intro c k
    have e1 : c * 2 ^ (a + k + 1) = (2 * (c * 2 ^ k)) * 2 ^ a := by
      rw [show a + k + 1 = 1 + k + a by omega, Nat.pow_add, Nat.pow_add, Nat.pow_one, ← Nat.mul_assoc, ← Nat.mul_assoc, Nat.mul_comm c 2]; simp only [Nat.mul_assoc]
    have e2 : n * (2 * (c * 2 ^ k) * 2 ^ a) = 2 * (c * 2 ^ k) * n * 2 ^ a := by rw [← Nat.mul_assoc, Nat.mul_comm n]
    rw [e1, e2, Nat.mul_lt_mul_right (p a), lt, Nat.mul_lt_mul_right (p a)]
  have eqp : ∀ c k, Q * 2 ^ a = c * 2 ^ (a + k + 1) ↔ 2 * A * 2 ^ a = n * (c * 2 ^ (a + k + 1)) := by
    intro c k
    have e1 : c * 2 ^ (a + k + 1) = (2 * (c * 2 ^ k)) * 2 ^ a := by
      rw [show a + k + 1 = 1 + k + a by omega, Nat.pow_add, Nat.pow_add, Nat.pow_one, ← Nat.mul_assoc, ← Nat.mul_assoc, Nat.mul_comm c 2]; simp only [Nat.mul_assoc]
    have e2 : n * (2 * (c * 2 ^ k) * 2 ^ a) = 2 * (c * 2 ^ k) * n * 2 ^ a := by rw [← Nat.mul_assoc, Nat.mul_comm n]
    rw [e1, e2, Nat.mul_left_inj (Nat.ne_of_gt (p a)), eq, Nat.mul_left_inj (Nat.ne_of_gt (p a))]
  refine ⟨e, ?_, ?_, ?_⟩
  · have := (ltp 1 (z + 54)).1 (by rw [Nat.one_mul]; rw [← Nat.pow_add, show b + (53 + e) = a + (z + 54) + 1 by omega] at h1; exact h1)
    rw [Nat.mul_assoc n, ← Nat.pow_add, show b + (53 + e) = a + (z + 54) + 1 by omega]
    rw [Nat.one_mul] at this; exact this
  · rcases h2 with h2 | h2
    · exact Or.inl h2
    · right
      rw [Nat.mul_assoc n, ← Nat.pow_add, show b + (52 + e) = a + (z + 53) + 1 by omega]
      rw [← Nat.pow_add, show b + (52 + e) = a + (z + 53) + 1 by omega] at h2
      have := not_congr (ltp 1 (z + 53))
      rw [Nat.one_mul, Nat.not_lt, Nat.not_lt] at this
      exact this.1 h2
  · congr 1
    have hd1 : 0 < 2 ^ b * 2 ^ e := Nat.mul_pos (p _) (p _)
    have hd2 : 0 < n * 2 ^ b * 2 ^ e := Nat.mul_pos (Nat.mul_pos hn (p _)) (p _)
    have both : ∀ k, rne (Q * 2 ^ a) (2 ^ b * 2 ^ e) ≤ k ↔ rne (2 * A * 2 ^ a) (n * 2 ^ b * 2 ^ e) ≤ k := by
      intro k
      rw [rne_le_iff k hd1, rne_le_iff k hd2]
      have e3 : (2 * k + 1) * (2 ^ b * 2 ^ e) = 2 * ((2 * k + 1) * 2 ^ (a + z + 1)) := by
        rw [← Nat.pow_add, hz, show a + z + 2 = 1 + (a + z + 1) by omega, Nat.pow_add, Nat.pow_one, ← Nat.mul_assoc, Nat.mul_comm (2 * k + 1) 2, Nat.mul_assoc]
      have e4 : (2 * k + 1) * (n * 2 ^ b * 2 ^ e) = 2 * (n * ((2 * k + 1) * 2 ^ (a + z + 1))) := by
        rw [Nat.mul_assoc n, ← Nat.mul_assoc (2 * k + 1) n, Nat.mul_comm (2 * k + 1) n, Nat.mul_assoc n, e3, ← Nat.mul_assoc n 2, Nat.mul_comm n 2, Nat.mul_assoc 2]
      rw [e3, e4]
      have l := ltp (2 * k + 1) z
      have q := eqp (2 * k + 1) z
      constructor <;> intro h
      · rcases h with h | ⟨h, hk⟩
        · left; have := l.1 (by omega); omega
        · right; exact ⟨by have := q.1 (by omega); omega, hk⟩
      · rcases h with h | ⟨h, hk⟩
        · left; have := l.2 (by omega); omega
        · right; exact ⟨by have := q.2 (by omega); omega, hk⟩
    apply Nat.le_antisymm
    · exact (both _).2 (Nat.le_refl _)
    · exact (both _).1 (Nat.le_refl _)

/-- QUOTIENT: of two numbers, the second above 0. -/
theorem div_fin {x y : Nat} (hx : fin x) (hy : fin y) (hp : 0 < V y) : ∃ r, Ieee.double.div x y = some r ∧ Rounds (V x * ((U : Nat) : Int)) (V y).toNat r ∧ sg r = sg x := by
  have hsy : sg y = false := by
    cases h : sg y
    · rfl
    · unfold V at hp; rw [h] at hp; simp at hp; omega
  have hVy : (V y).toNat = valR (rg y) := by unfold V; rw [hsy]; simp
  have hvy0 : 0 < valR (rg y) := by rw [← hVy]; omega
  obtain ⟨m, i, ex, hi, vx⟩ := read_fin hx
  obtain ⟨n, j, ey, hj, vy⟩ := read_fin hy
  have hn : 0 < n := by
    rcases Nat.eq_zero_or_pos n with h | h
    · subst h; rw [Nat.zero_mul] at vy; omega
    · exact h
  unfold Ieee.Format.div
  rw [ex, ey]
  unfold Ieee.Datum.quotient
  dsimp only
  rw [if_neg (by omega), hsy, Bool.xor_false]
  dsimp only [Option.map_some]
  refine ⟨_, rfl, ?_⟩
  unfold Ieee.Format.write
  dsimp only
  have hfb : Ieee.double.fractionBits + 2 = 54 := rfl
  rw [hfb, Nat.shiftLeft_eq]
  generalize hM : 54 + n.log2 - m.log2 = more
  generalize ha : (i - j - (more:Nat) - 1 + 1074).toNat = a
  generalize hb : (-1074 - (i - j - (more:Nat) - 1)).toNat = b
  obtain ⟨r, e, hr⟩ := nearest_rung (sg x) (2 * (m * 2 ^ more / n) + (m * 2 ^ more % n != 0).toNat) (i - j - (more:Nat) - 1)
  rw [ha, hb] at hr
  have hl : min r inf < 2 ^ 63 := Nat.lt_of_le_of_lt (Nat.min_le_right _ _) inf_lt
  have hR : Rung (valR (rg x) * U) (valR (rg y)) r := by
    rcases Nat.eq_zero_or_pos m with hm | hm
    · subst hm
      rw [Nat.zero_mul] at vx
      rw [← vx, Nat.zero_mul]
      simp only [Nat.zero_mul, Nat.zero_div, Nat.zero_mod, bne_self_eq_false, Bool.toNat_false, Nat.mul_zero, Nat.add_zero] at hr
      exact rung_congr (Nat.two_pow_pos _) hvy0 hr (by simp)
    · have hbig : 2 ^ 53 ≤ m * 2 ^ more / n := by
        rw [Nat.le_div_iff_mul_le hn]
        have l1 := Nat.log2_self_le (Nat.ne_of_gt hm)
        have l2 := lt_two_pow_log2 n
        have : 2 ^ 53 * n ≤ 2 ^ 53 * 2 ^ (n.log2 + 1) := Nat.mul_le_mul_left _ (Nat.le_of_lt l2)
        have h3 : 2 ^ m.log2 * 2 ^ more ≤ m * 2 ^ more := Nat.mul_le_mul_right _ l1
        rw [← Nat.pow_add] at this h3
        have h4 : 2 ^ (53 + (n.log2 + 1)) ≤ 2 ^ (m.log2 + more) := Nat.pow_le_pow_right (by decide) (by omega)
        omega
      have h3 := rung_sticky hn hbig hr
      refine rung_congr (Nat.mul_pos hn (Nat.two_pow_pos _)) hvy0 h3 ?_
      obtain ⟨K, hK, hU⟩ := U_ex
      rw [← vx, ← vy, hU]
      have g1 : 2 * (m * 2 ^ more) * 2 ^ a * (n * 2 ^ (j + 1074).toNat) = m * n * 2 ^ (1 + more + a + (j + 1074).toNat) := by
        rw [Nat.pow_add, Nat.pow_add, Nat.pow_add, Nat.pow_one]; ac_rfl
      have g2 : m * 2 ^ (i + 1074).toNat * 2 ^ K * (n * 2 ^ b) = m * n * 2 ^ ((i + 1074).toNat + K + b) := by
        rw [Nat.pow_add, Nat.pow_add]; ac_rfl
      rw [g1, g2, show 1 + more + a + (j + 1074).toNat = (i + 1074).toNat + K + b by omega]
  rw [e, infRung_eq]
  refine ⟨⟨word_lt _ hl, r, rg_word _ hl, ?_, ?_, ?_⟩, sg_word _ hl⟩
  · rw [hVy]
    have : (V x * ((U : Nat) : Int)).natAbs = valR (rg x) * U := by
      rw [Int.natAbs_mul, Int.natAbs_natCast]; congr 1; unfold V; split <;> omega
    rw [this]; exact hR
  · intro h; rw [sg_word _ hl]
    unfold V at h
    cases hs : sg x
    · rw [hs] at h; simp only [Bool.false_eq_true, if_false] at h
      rw [← Int.natCast_mul] at h; omega
    · rfl
  · intro h; rw [sg_word _ hl]
    unfold V at h
    cases hs : sg x
    · rfl
    · rw [hs] at h; simp only [if_true] at h
      rw [Int.neg_mul, ← Int.natCast_mul] at h; omega

end Fl
namespace Fl
/-! ### the opposite -/
def neg (x : Nat) : Nat := x ^^^ 2 ^ 63
theorem rg_neg (x : Nat) : rg (neg x) = rg x := by
  unfold rg neg; rw [Nat.xor_mod_two_pow]; simp
theorem sg_neg {x : Nat} (h : x < 2 ^ 64) : sg (neg x) = !sg x := by
  unfold sg neg
  rw [Nat.xor_div_two_pow]
  have : x / 2 ^ 63 < 2 := by omega
  generalize x / 2 ^ 63 = q at *
  match q, this with
  | 0, _ => rfl
  | 1, _ => rfl
theorem neg_lt {x : Nat} (h : x < 2 ^ 64) : neg x < 2 ^ 64 := Nat.xor_lt_two_pow h (by decide)
theorem V_neg {x : Nat} (h : x < 2 ^ 64) : V (neg x) = -V x := by
  unfold V; rw [sg_neg h, rg_neg]; cases sg x <;> simp
theorem nn_neg {x : Nat} : nn (neg x) ↔ nn x := by unfold nn; rw [rg_neg]
theorem fin_neg {x : Nat} : fin (neg x) ↔ fin x := by unfold fin; rw [rg_neg]
theorem neg_neg {x : Nat} (h : x < 2 ^ 64) : neg (neg x) = x :=
  word_ext (neg_lt (neg_lt h)) h (by rw [sg_neg (neg_lt h), sg_neg h]; simp) (by rw [rg_neg, rg_neg])

theorem read_eq (x : Nat) : Ieee.double.read x =
    if rg x < 2 ^ 52 then .number (sg x) (rg x) (-1074)
    else if rg x < Ieee.double.infRung then .number (sg x) (2 ^ 52 + rg x % 2 ^ 52) (-1074 + (rg x / 2 ^ 52 - 1 : Nat))
    else if rg x = Ieee.double.infRung then .infinity (sg x) else .nan (sg x) (rg x - Ieee.double.infRung) := rfl

theorem read_neg {x : Nat} (h : x < 2 ^ 64) : Ieee.double.read (neg x) = (Ieee.double.read x).opposite := by
  rw [read_eq, read_eq, rg_neg, sg_neg h]
  split
  · rfl
  · split
    · rfl
    · split <;> rfl

/-! ### differences -/
theorem sub_eq_add (x : Nat) {y : Nat} (h : y < 2 ^ 64) : Ieee.double.sub x y = Ieee.double.add x (neg y) := by
  unfold Ieee.Format.sub Ieee.Format.add; rw [read_neg h]

theorem sub_fin {x y : Nat} (hx : fin x) (hy : fin y) (ly : y < 2 ^ 64) : ∃ r, Ieee.double.sub x y = some r ∧ Rounds (V x - V y) 1 r ∧ (V x - V y = 0 → sg r = (sg x && !sg y)) := by
  obtain ⟨r, e, h1, h2⟩ := add_fin hx (fin_neg.2 hy)
  rw [V_neg ly, ← Int.sub_eq_add_neg, sg_neg ly] at *
  exact ⟨r, by rw [sub_eq_add x ly]; exact e, h1, h2⟩

theorem add_comm (x y : Nat) : Ieee.double.add x y = Ieee.double.add y x := by
  unfold Ieee.Format.add
  have : ∀ a b : Ieee.Datum, a.sum b = b.sum a := by
    intro a b
    cases a <;> cases b <;> simp only [Ieee.Datum.sum]
    · rename_i s m i t n j
      rw [Int.min_comm j i, Int.add_comm (Ieee.signed t n _), Bool.and_comm t s]
    · rename_i s t
      by_cases h : s = t
      · subst h; rfl
      · rw [if_neg h, if_neg (fun e => h e.symm)]
  rw [this]

/-! ### whole numbers that are words -/
/-- what has at most 53 digits is worth a rung -/
theorem rep (m u : Nat) (h : m < 2 ^ 53) : ∃ r, valR r = m * 2 ^ u := by
  induction u generalizing m with
  | zero =>
    rcases Nat.lt_or_ge m (2 ^ 52) with h1 | h1
    · exact ⟨m, by unfold valR; rw [if_pos h1]; simp⟩
    · refine ⟨2 ^ 52 + (m - 2 ^ 52), ?_⟩
      unfold valR
      have e1 : (2 ^ 52 + (m - 2 ^ 52)) % 2 ^ 52 = m - 2 ^ 52 := by omega
      have e2 : (2 ^ 52 + (m - 2 ^ 52)) / 2 ^ 52 = 1 := by omega
      rw [if_neg (by omega), e1, e2]; omega
  | succ u ih =>
    rcases Nat.lt_or_ge m (2 ^ 52) with h1 | h1
    · obtain ⟨r, hr⟩ := ih (2 * m) (by omega)
      exact ⟨r, by rw [hr, Nat.pow_succ]; rw [Nat.mul_comm 2 m, Nat.mul_assoc, Nat.mul_comm 2]⟩
    · refine ⟨2 ^ 52 * (u + 2) + (m - 2 ^ 52), ?_⟩
      have e1 : (2 ^ 52 * (u + 2) + (m - 2 ^ 52)) % 2 ^ 52 = m - 2 ^ 52 := by omega
      have e2 : (2 ^ 52 * (u + 2) + (m - 2 ^ 52)) / 2 ^ 52 = u + 2 := by omega
      unfold valR
      rw [if_neg (by omega), e1, e2, show u + 2 - 1 = u + 1 by omega, show 2 ^ 52 + (m - 2 ^ 52) = m by omega]

/-- a rung's worth has at most 53 digits -/
theorem rep_inv (r : Nat) : ∃ m u, m < 2 ^ 53 ∧ valR r = m * 2 ^ u := by
  unfold valR
  split
  · exact ⟨r, 0, by omega, by simp⟩
  · exact ⟨_, _, by omega, rfl⟩

theorem rep_mul (r u : Nat) : ∃ r', valR r' = valR r * 2 ^ u := by
  obtain ⟨m, v, h, e⟩ := rep_inv r
  obtain ⟨r', h'⟩ := rep m (v + u) h
  exact ⟨r', by rw [h', e, Nat.pow_add, Nat.mul_assoc]⟩

theorem valR_inf : ∃ M : Nat, M = 2046 ∧ valR inf = 2 ^ 52 * 2 ^ M := by
  refine ⟨inf / 2 ^ 52 - 1, by decide, ?_⟩
  unfold valR
  rw [if_neg (by decide), show 2 ^ 52 + inf % 2 ^ 52 = 2 ^ 52 by decide]

theorem rep_int (k : Nat) (h : k < 2 ^ 53) : ∃ r, valR r = k * U ∧ r < inf := by
  obtain ⟨K, hK, hU⟩ := U_ex
  obtain ⟨r, hr⟩ := rep k K h
  refine ⟨r, by rw [hr, hU], ?_⟩
  obtain ⟨M, hM, hv⟩ := valR_inf
  rw [← valR_lt_iff, hr, hv]
  have h1 : k * 2 ^ K < 2 ^ 53 * 2 ^ K := Nat.mul_lt_mul_of_pos_right h (Nat.two_pow_pos _)
  rw [← Nat.pow_add] at h1 ⊢
  have h2 : 2 ^ (53 + K) ≤ 2 ^ (52 + M) := Nat.pow_le_pow_right (by decide) (by omega)
  omega

/-! ### to whole numbers -/
theorem cut_zero (neg : Bool) (n drop : Nat) : Ieee.Toward.cut .zero neg n drop = n / 2 ^ drop := by
  unfold Ieee.Toward.cut
  dsimp only
  rw [Nat.one_shiftLeft]
  simp only [Bool.toNat_false, Nat.add_zero]
  by_cases h : drop ≤ n.log2 + 2
  · rw [Nat.min_eq_left h]
  · rw [Nat.min_eq_right (by omega)]
    have hl := lt_two_pow_log2 n
    have e1 : 2 ^ (n.log2 + 1) ≤ 2 ^ (n.log2 + 2) := Nat.pow_le_pow_right (by decide) (by omega)
    have e2 : 2 ^ (n.log2 + 1) ≤ 2 ^ drop := Nat.pow_le_pow_right (by decide) (by omega)
    rw [Nat.div_eq_of_lt (by omega), Nat.div_eq_of_lt (by omega)]

theorem signed_zero (s : Bool) (m : Nat) : Ieee.signed s m 0 = if s then -(m : Int) else m := by
  rw [signed_eq]; simp

/-- int(x), cut towards zero. -/
theorem toInt_zero {x : Nat} (hx : fin x) : (Ieee.double.read x).toInt .zero = some (if sg x then -((valR (rg x) / U : Nat) : Int) else ((valR (rg x) / U : Nat) : Int)) := by
  obtain ⟨m, i, ex, hi, vx⟩ := read_fin hx
  obtain ⟨K, hK, hU⟩ := U_ex
  rw [ex]
  unfold Ieee.Datum.toInt Ieee.Datum.integral
  dsimp only
  rw [signed_zero, cut_zero, Nat.shiftLeft_eq]
  have : m * 2 ^ i.toNat / 2 ^ (-i).toNat = valR (rg x) / U := by
    rw [← vx, hU]
    have e1 : m * 2 ^ i.toNat / 2 ^ (-i).toNat = m * 2 ^ i.toNat * 2 ^ (K - (-i).toNat) / (2 ^ (-i).toNat * 2 ^ (K - (-i).toNat)) := (Nat.mul_div_mul_right _ _ (Nat.two_pow_pos _)).symm
    rw [e1, Nat.mul_assoc, ← Nat.pow_add, ← Nat.pow_add, show (-i).toNat + (K - (-i).toNat) = K by omega, show i.toNat + (K - (-i).toNat) = (i + 1074).toNat by omega]
  rw [this]

/-- math.RoundToEven. -/
theorem integral_even {x : Nat} (hx : fin x) : Ieee.double.write ((Ieee.double.read x).integral .even) = Ieee.double.nearest (sg x) (rne (valR (rg x)) U) 0 := by
  obtain ⟨m, i, ex, hi, vx⟩ := read_fin hx
  obtain ⟨K, hK, hU⟩ := U_ex
  rw [ex]
  unfold Ieee.Datum.integral Ieee.Format.write
  dsimp only
  have : rne (m * 2 ^ i.toNat) (2 ^ (-i).toNat) = rne (valR (rg x)) U := by
    rw [← vx, hU]
    rw [← rne_mul (m * 2 ^ i.toNat) _ (2 ^ (K - (-i).toNat)) (Nat.two_pow_pos _) (Nat.two_pow_pos _)]
    rw [Nat.mul_assoc, ← Nat.pow_add, ← Nat.pow_add, show (-i).toNat + (K - (-i).toNat) = K by omega, show i.toNat + (K - (-i).toNat) = (i + 1074).toNat by omega]
  rw [cut_even, Nat.shiftLeft_eq, this]

/-- The word of a whole number of at most 53 digits. -/
theorem nearest_int (s : Bool) (k : Nat) (h : k < 2 ^ 53) : fin (Ieee.double.nearest s k 0) ∧ sg (Ieee.double.nearest s k 0) = s ∧ valR (rg (Ieee.double.nearest s k 0)) = k * U ∧ Ieee.double.nearest s k 0 < 2 ^ 64 := by
  obtain ⟨r, e, hr⟩ := nearest_rung s k 0
  obtain ⟨w, hw, hwl⟩ := rep_int k h
  obtain ⟨K, hK, hU⟩ := U_ex
  rw [show ((0:Int) + 1074).toNat = K by omega, show (-1074 - (0:Int)).toNat = 0 by decide, ← hU, Nat.pow_zero] at hr
  have : r = w := rung_exact (by decide) hr (by rw [hw]; simp)
  subst this
  have hm : min r inf = r := Nat.min_eq_left (Nat.le_of_lt hwl)
  have hl : r < 2 ^ 63 := Nat.lt_trans hwl inf_lt
  rw [e, infRung_eq, hm]
  refine ⟨?_, sg_word _ hl, ?_, word_lt _ hl⟩
  · unfold fin; rw [rg_word _ hl]; exact hwl
  · rw [rg_word _ hl]; exact hw

/-- int(math.RoundToEven(x)) of a number below 2^53. -/
theorem round_int {x : Nat} (hx : fin x) (hs : rne (valR (rg x)) U < 2 ^ 53) :
    (Ieee.double.read (Ieee.double.write ((Ieee.double.read x).integral .even))).toInt .zero = some (if sg x then -((rne (valR (rg x)) U : Nat) : Int) else ((rne (valR (rg x)) U : Nat) : Int)) := by
  rw [integral_even hx]
  obtain ⟨h1, h2, h3, _⟩ := nearest_int (sg x) _ hs
  rw [toInt_zero h1, h2, h3, Nat.mul_div_cancel _ U_pos]

theorem ofInt_V (n : Int) (h : n.natAbs < 2 ^ 53) : fin (Ieee.double.nearest (n < 0) n.natAbs 0) ∧ V (Ieee.double.nearest (n < 0) n.natAbs 0) = n * (U : Int) ∧ Ieee.double.nearest (n < 0) n.natAbs 0 < 2 ^ 64 := by
  obtain ⟨h1, h2, h3, h4⟩ := nearest_int (n < 0) n.natAbs h
  refine ⟨h1, ?_, h4⟩
  unfold V
  rw [h2, h3]
  by_cases hn : n < 0
  · have e : decide (n < 0) = true := decide_eq_true hn
    rw [e, if_pos rfl, Int.natCast_mul, ← Int.neg_mul, show -(n.natAbs : Int) = n by omega]
  · have e : decide (n < 0) = false := decide_eq_false hn
    rw [e]; simp only [Bool.false_eq_true, if_false]; rw [Int.natCast_mul, show (n.natAbs : Int) = n by omega]

end Fl

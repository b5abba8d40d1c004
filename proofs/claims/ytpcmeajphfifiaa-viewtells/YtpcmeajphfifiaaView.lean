/- What is between two numbers, and how far a depth is, as plain functions on words. No program is spoken of here. -/
import Derived.Test.YtpcmeajphfifiaaStick
namespace Fl

/-! ### depths: a NaN is the farthest, -0 is just behind +0 -/
def key (x : Nat) : Int := if nn x then (if V x = 0 ∧ sg x = true then -1 else 2 * V x) else 2 * (valR inf : Int) + 1
def soon (a b : Nat) : Bool := decide (key b < key a)

theorem V_le_inf {x : Nat} (h : nn x) : -(valR inf : Int) ≤ V x ∧ V x ≤ (valR inf : Int) := by
  have := valR_le_iff.2 h
  unfold V; split <;> omega
theorem inf_pos : (0 : Int) < (valR inf : Int) := by
  obtain ⟨h1, h2⟩ := V_lt_inf fin_0
  rw [V_0] at h2; exact h2
theorem key_nan {x : Nat} (h : ¬ nn x) : key x = 2 * (valR inf : Int) + 1 := by unfold key; rw [if_neg h]
theorem key_nn {x : Nat} (h : nn x) : key x = (if V x = 0 ∧ sg x = true then -1 else 2 * V x) := by unfold key; rw [if_pos h]
theorem key_le (x : Nat) : key x ≤ 2 * (valR inf : Int) + 1 := by
  have hi := inf_pos
  by_cases h : nn x
  · rw [key_nn h]
    have := V_le_inf h
    split <;> omega
  · rw [key_nan h]; omega
theorem key_lt {x : Nat} (h : nn x) : key x < 2 * (valR inf : Int) + 1 := by
  have hi := inf_pos
  rw [key_nn h]
  have := V_le_inf h
  split <;> omega

theorem soon_nan_right (a : Nat) {b : Nat} (h : ¬ nn b) : soon a b = false := by
  unfold soon; rw [key_nan h]
  have := key_le a
  exact decide_eq_false (by omega)
theorem soon_nan_left {a b : Nat} (ha : ¬ nn a) (hb : nn b) : soon a b = true := by
  unfold soon; rw [key_nan ha]
  exact decide_eq_true (key_lt hb)
theorem sg_of_neg {x : Nat} (h : V x < 0) : sg x = true := by
  cases hs : sg x
  · unfold V at h; rw [hs] at h; simp at h; omega
  · rfl
theorem sg_eq_of_V {a b : Nat} (e : V a = V b) (h0 : V a ≠ 0) : sg a = sg b := by
  rcases Int.lt_trichotomy (V a) 0 with h | h | h
  · rw [sg_of_neg h, sg_of_neg (by omega)]
  · exact absurd h h0
  · rw [sg_of_pos h, sg_of_pos (by omega)]
theorem soon_eq {a b : Nat} (ha : nn a) (hb : nn b) (e : V a = V b) : soon a b = (!sg a && sg b) := by
  unfold soon
  rw [key_nn ha, key_nn hb, ← e]
  by_cases h0 : V a = 0
  · rw [h0]
    cases sg a <;> cases sg b <;> rfl
  · rw [if_neg (fun h => h0 h.1), if_neg (fun h => h0 h.1), sg_eq_of_V e h0]
    cases sg b <;> exact decide_eq_false (by omega)
theorem soon_ne {a b : Nat} (ha : nn a) (hb : nn b) (e : V a ≠ V b) : soon a b = decide (V b < V a) := by
  unfold soon
  rw [key_nn ha, key_nn hb]
  by_cases h : V b < V a
  · rw [decide_eq_true h]
    refine decide_eq_true ?_
    split <;> split <;> omega
  · rw [decide_eq_false h]
    refine decide_eq_false ?_
    split <;> split <;> omega

/-- of one key: both no number, or the same word -/
theorem key_inj {a b : Nat} (la : a < 2 ^ 64) (lb : b < 2 ^ 64) (e : key a = key b) : (¬ nn a ∧ ¬ nn b) ∨ (nn a ∧ nn b ∧ a = b) := by
  by_cases ha : nn a
  · by_cases hb : nn b
    · right
      refine ⟨ha, hb, ?_⟩
      rw [key_nn ha, key_nn hb] at e
      have hv : V a = V b := by split at e <;> split at e <;> omega
      have hs : sg a = sg b := by
        by_cases h0 : V a = 0
        · rw [← hv, h0] at e
          cases h1 : sg a <;> cases h2 : sg b <;> rw [h1, h2] at e <;> simp at e <;> rfl
        · exact sg_eq_of_V hv h0
      refine word_ext la lb hs ?_
      unfold V at hv
      rw [hs] at hv
      refine valR_inj ?_
      cases h2 : sg b <;> rw [h2] at hv <;> simp at hv <;> omega
    · exfalso
      have := key_lt ha
      rw [key_nan hb] at e; omega
  · by_cases hb : nn b
    · exfalso
      have := key_lt hb
      rw [key_nan ha] at e; omega
    · exact Or.inl ⟨ha, hb⟩

/-! ### what is between -/
def half : Nat := 4602678819172646912
def btw (a b t : Nat) : Nat :=
  if nn t ∧ 0 < V t then
    (if (U : Int) ≤ V t then b else if fin a ∧ fin b then addw a (mulw (subw b a) t) else if V t < V half then a else b)
  else a

theorem fin_of_V {x : Nat} (h : nn x) (h1 : -(valR inf : Int) < V x) (h2 : V x < (valR inf : Int)) : fin x := by
  rcases Nat.lt_or_eq_of_le h with e | e
  · exact e
  · exfalso
    rw [V_inf e] at h1 h2
    split at h1 <;> simp_all <;> omega

theorem write_inf (s : Bool) : rg (Ieee.double.write (.infinity s)) = inf ∧ Ieee.double.write (.infinity s) < 2 ^ 64 := by
  cases s <;> decide +kernel

theorem mul_inf {d t : Nat} (hd : rg d = inf) (ht : fin t) (h0 : V t ≠ 0) : ∃ r, Ieee.double.mul d t = some r ∧ rg r = inf ∧ r < 2 ^ 64 := by
  obtain ⟨m, p, e, _, hm⟩ := read_fin ht
  have hm0 : m ≠ 0 := by
    rintro rfl
    rw [Nat.zero_mul] at hm
    apply h0; unfold V; rw [← hm]; split <;> rfl
  unfold Ieee.Format.mul
  rw [read_inf hd, e]
  unfold Ieee.Datum.product
  dsimp only
  rw [if_neg hm0]
  exact ⟨_, rfl, write_inf _⟩
theorem add_inf {a e : Nat} (ha : fin a) (he : rg e = inf) : ∃ r, Ieee.double.add a e = some r ∧ rg r = inf ∧ r < 2 ^ 64 := by
  obtain ⟨m, p, h, _, _⟩ := read_fin ha
  unfold Ieee.Format.add
  rw [read_inf he, h]
  unfold Ieee.Datum.sum
  exact ⟨_, rfl, write_inf _⟩

/-- a share of a way is no longer than the way -/
theorem share {d t e : Nat} (hd : nn d) (ld : d < 2 ^ 64) (R : Rounds (V d * V t) U e) (h0 : 0 ≤ V t) (h1 : V t ≤ (U : Int)) :
    (0 ≤ V d → 0 ≤ V e ∧ V e ≤ V d) ∧ (V d ≤ 0 → V d ≤ V e ∧ V e ≤ 0) := by
  constructor
  · intro h
    have g1 : 0 ≤ V d * V t := Int.mul_nonneg h h0
    have g2 : V d * V t ≤ V d * (U : Int) := Int.mul_le_mul_of_nonneg_left h1 h
    have g3 : V 0 * ((U : Nat) : Int) ≤ V d * V t := by rw [V_0, Int.zero_mul]; exact g1
    have k1 := le_rounds (w := 0) U_pos R fin_0.nn (by decide) g3
    have k2 := rounds_le (w := d) U_pos R hd ld g2
    rw [V_0] at k1
    exact ⟨k1, k2⟩
  · intro h
    have g1 : V d * V t ≤ 0 := Int.mul_nonpos_of_nonpos_of_nonneg h h0
    have g2 : V d * (U : Int) ≤ V d * V t := by
      have := Int.mul_le_mul_of_nonneg_left h1 (show 0 ≤ -V d by omega)
      rw [Int.neg_mul, Int.neg_mul] at this; omega
    have g3 : V d * V t ≤ V 0 * ((U : Nat) : Int) := by rw [V_0, Int.zero_mul]; exact g1
    have k1 := rounds_le (w := 0) U_pos R fin_0.nn (by decide) g3
    have k2 := le_rounds (w := d) U_pos R hd ld g2
    rw [V_0] at k1
    exact ⟨k2, k1⟩

theorem V_fin_of_unit {t : Nat} (ht : nn t) (h0 : 0 < V t) (h1 : V t < (U : Int)) : fin t :=
  valR_le_U_fin ht (by have := Upos; omega) (by omega)

structure Lin (a b t : Nat) : Prop where
  sb : Ieee.double.sub b a = some (subw b a)
  ml : Ieee.double.mul (subw b a) t = some (mulw (subw b a) t)
  ad : Ieee.double.add a (mulw (subw b a) t) = some (addw a (mulw (subw b a) t))
  rs : Rounds (V b - V a) 1 (subw b a)
  lt : addw a (mulw (subw b a) t) < 2 ^ 64
  fn : Fl.fin (subw b a) → Rounds (V (subw b a) * V t) U (mulw (subw b a) t) ∧ Rounds (V a + V (mulw (subw b a) t)) 1 (addw a (mulw (subw b a) t))

theorem lin_spec {a b t : Nat} (ha : fin a) (hb : fin b) (la : a < 2 ^ 64) (ht : nn t) (h0 : 0 < V t) (h1 : V t < (U : Int)) : Lin a b t := by
  obtain ⟨d, ed, Rd, _⟩ := sub_fin hb ha la
  have ft := V_fin_of_unit ht h0 h1
  have e1 : subw b a = d := by unfold subw; rw [ed]; rfl
  rcases Nat.lt_or_eq_of_le Rd.nn with fd | fd
  · obtain ⟨e, ee, Re, _⟩ := mul_fin fd ft
    have e2 : mulw d t = e := by unfold mulw; rw [ee]; rfl
    have fe : fin e := by
      have hb := V_lt_inf fd
      have := share Rd.nn Rd.1 Re (by omega) (by omega)
      refine fin_of_V Re.nn ?_ ?_
      · rcases Int.le_total 0 (V d) with h | h
        · have := this.1 h; omega
        · have := this.2 h; omega
      · rcases Int.le_total 0 (V d) with h | h
        · have := this.1 h; omega
        · have := this.2 h; omega
    obtain ⟨r, er, Rr, _⟩ := add_fin ha fe
    have e3 : addw a e = r := by unfold addw; rw [er]; rfl
    refine ⟨by rw [e1]; exact ed, by rw [e1, e2]; exact ee, by rw [e1, e2, e3]; exact er, by rw [e1]; exact Rd, by rw [e1, e2, e3]; exact Rr.1, fun _ => ?_⟩
    rw [e1, e2, e3]; exact ⟨Re, Rr⟩
  · obtain ⟨e, ee, re, _⟩ := mul_inf fd ft (by omega)
    have e2 : mulw d t = e := by unfold mulw; rw [ee]; rfl
    obtain ⟨r, er, rr, lr⟩ := add_inf ha re
    have e3 : addw a e = r := by unfold addw; rw [er]; rfl
    refine ⟨by rw [e1]; exact ed, by rw [e1, e2]; exact ee, by rw [e1, e2, e3]; exact er, by rw [e1]; exact Rd, by rw [e1, e2, e3]; exact lr, fun h => ?_⟩
    exfalso
    rw [e1] at h
    unfold fin at h; omega

theorem btw_lt {a b t : Nat} (la : a < 2 ^ 64) (lb : b < 2 ^ 64) : btw a b t < 2 ^ 64 := by
  unfold btw
  split
  · rename_i h
    split
    · exact lb
    · split
      · rename_i h1 h2
        exact (lin_spec h2.1 h2.2 la h.1 h.2 (by omega)).lt
      · split <;> assumption
  · exact la

theorem btw_no {a b t : Nat} (h : ¬ (nn t ∧ 0 < V t)) : btw a b t = a := by unfold btw; rw [if_neg h]
theorem btw_all {a b t : Nat} (h : nn t ∧ 0 < V t) (h1 : (U : Int) ≤ V t) : btw a b t = b := by unfold btw; rw [if_pos h, if_pos h1]
theorem btw_lin {a b t : Nat} (h : nn t ∧ 0 < V t) (h1 : ¬ (U : Int) ≤ V t) (h2 : fin a ∧ fin b) : btw a b t = addw a (mulw (subw b a) t) := by unfold btw; rw [if_pos h, if_neg h1, if_pos h2]
theorem btw_low {a b t : Nat} (h : nn t ∧ 0 < V t) (h1 : ¬ (U : Int) ≤ V t) (h2 : ¬ (fin a ∧ fin b)) (h3 : V t < V half) : btw a b t = a := by unfold btw; rw [if_pos h, if_neg h1, if_neg h2, if_pos h3]
theorem btw_high {a b t : Nat} (h : nn t ∧ 0 < V t) (h1 : ¬ (U : Int) ≤ V t) (h2 : ¬ (fin a ∧ fin b)) (h3 : ¬ V t < V half) : btw a b t = b := by unfold btw; rw [if_pos h, if_neg h1, if_neg h2, if_neg h3]

/-- between two that are one there is nothing else -/
theorem btw_self {p t : Nat} (lp : p < 2 ^ 64) (hp : nn p) : nn (btw p p t) ∧ V (btw p p t) = V p := by
  by_cases h : nn t ∧ 0 < V t
  · by_cases h1 : (U : Int) ≤ V t
    · rw [btw_all h h1]; exact ⟨hp, rfl⟩
    · by_cases h2 : fin p ∧ fin p
      · rw [btw_lin h h1 h2]
        have L := lin_spec h2.1 h2.1 lp h.1 h.2 (by omega)
        have v0 : V (subw p p) = 0 := by
          have := rounds_exact (w := 0) (by decide) L.rs fin_0.nn (by decide) (by rw [V_0]; omega)
          rw [V_0] at this; exact this
        have fd : fin (subw p p) := fin_of_V L.rs.nn (by rw [v0]; have := inf_pos; omega) (by rw [v0]; have := inf_pos; omega)
        obtain ⟨R1, R2⟩ := L.fn fd
        have v1 : V (mulw (subw p p) t) = 0 := by
          have := rounds_exact (w := 0) U_pos R1 fin_0.nn (by decide) (by rw [V_0, v0, Int.zero_mul, Int.zero_mul])
          rw [V_0] at this; exact this
        rw [v1] at R2
        exact ⟨R2.nn, rounds_exact (w := p) (by decide) R2 hp lp (by omega)⟩
      · by_cases h3 : V t < V half
        · rw [btw_low h h1 h2 h3]; exact ⟨hp, rfl⟩
        · rw [btw_high h h1 h2 h3]; exact ⟨hp, rfl⟩
  · rw [btw_no h]; exact ⟨hp, rfl⟩

end Fl

/- A Window as the set of what it noted: numbers within the width, each once, in whatever order. -/
import Derived.Test.YtfikpkoocbiinaaWinBits
namespace Go.Proofs.Ytfikpkoocbiinaa
namespace Win
/-- just b + k, for each k of ks, was noted -/
def Noted (b : Int) (ks : List Nat) (s : S) : Prop := s.bits < 2 ^ 64 ∧ ((ks = [] ∧ s = none) ∨
  ∃ m, m ∈ ks ∧ (∀ k ∈ ks, k ≤ m) ∧ s.any = true ∧ s.last = norm (b + m) ∧ ∀ j, j < 64 → s.bits.testBit j = decide (j + 1 ≤ m ∧ (m - 1 - j) ∈ ks))
theorem Noted.start (b : Int) : Noted b [] none := ⟨by decide, Or.inl ⟨rfl, rfl⟩⟩
theorem Noted.more {b : Int} {ks : List Nat} {s : S} (h : Noted b ks s) (hl : ∀ k ∈ ks, k < 60) {k : Nat} (hk : k < 60) (hn : k ∉ ks) : Noted b (k :: ks) (s.note (b + k)).1 ∧ (s.note (b + k)).2 = 1 := by
  obtain ⟨h64, h⟩ := h
  rcases h with ⟨rfl, rfl⟩ | ⟨m, hm, hmax, ha, hlast, hb⟩
  · refine ⟨⟨show (0 : Nat) < 2 ^ 64 by decide, Or.inr ⟨k, by simp, by simp, rfl, rfl, fun j hj => ?_⟩⟩, rfl⟩
    show Nat.testBit 0 j = _
    rw [Nat.zero_testBit, decide_eq_false]
    simp only [List.mem_singleton]
    omega
  have hm60 := hl m hm
  have e : ahead (b + k) s.last = (k : Int) - (m : Int) := by rw [hlast]; unfold ahead norm; omega
  have hkm : k ≠ m := fun c => hn (c ▸ hm)
  unfold S.note
  rw [e, if_neg (by rw [ha]; decide)]
  by_cases g : m < k
  · rw [if_pos (by omega)]
    obtain ⟨d, ed⟩ : ∃ d, ((k : Int) - (m : Int)).toNat = d := ⟨_, rfl⟩
    have hd : d = k - m := by omega
    rw [ed]
    refine ⟨⟨Nat.or_lt_two_pow (Nat.mod_lt _ (by decide)) (bit_lt d), Or.inr ⟨k, by simp, fun x hx => ?_, rfl, rfl, fun j hj => ?_⟩⟩, rfl⟩
    · rcases List.mem_cons.1 hx with rfl | hx
      · exact Nat.le_refl _
      · have := hmax x hx; omega
    · rw [newer_test _ _ _ (by omega) hj]
      by_cases c1 : j = d - 1
      · rw [decide_eq_true c1, Bool.or_true]
        symm
        rw [decide_eq_true_iff]
        refine ⟨by omega, List.mem_cons_of_mem _ ?_⟩
        rw [show k - 1 - j = m by omega]; exact hm
      · rw [decide_eq_false c1, Bool.or_false]
        by_cases c2 : d ≤ j
        · rw [decide_eq_true c2, Bool.true_and, hb _ (by omega), decide_eq_decide]
          constructor
          · rintro ⟨h1, h2⟩
            refine ⟨by omega, List.mem_cons_of_mem _ ?_⟩
            rw [show k - 1 - j = m - 1 - (j - d) by omega]; exact h2
          · rintro ⟨h1, h2⟩
            refine ⟨by omega, ?_⟩
            rcases List.mem_cons.1 h2 with h3 | h3
            · omega
            · rw [show m - 1 - (j - d) = k - 1 - j by omega]; exact h3
        · rw [decide_eq_false c2, Bool.false_and]
          symm
          rw [decide_eq_false_iff_not]
          rintro ⟨h1, h2⟩
          rcases List.mem_cons.1 h2 with h3 | h3
          · omega
          · have := hmax _ h3; omega
  · rw [if_neg (by omega)]
    obtain ⟨d, ed⟩ : ∃ d, (-((k : Int) - (m : Int))).toNat = d := ⟨_, rfl⟩
    have hd : d = m - k := by omega
    rw [ed]
    unfold S.fill
    have ab := and_bit (x := s.bits) (b := d) (by omega) (by omega)
    have tb : s.bits.testBit (d - 1) = false := by
      rw [hb _ (by omega), decide_eq_false_iff_not]
      rintro ⟨h1, h2⟩
      rw [show m - 1 - (d - 1) = k by omega] at h2
      exact hn h2
    rw [if_neg (by omega), if_neg (show ¬ (d = 0 ∨ s.bits &&& Win.bit d ≠ 0) from fun c => c.elim (by omega) fun c => c (ab.2 tb))]
    refine ⟨⟨Nat.or_lt_two_pow h64 (bit_lt d), Or.inr ⟨m, by simp [hm], fun x hx => ?_, ha, hlast, fun j hj => ?_⟩⟩, rfl⟩
    · rcases List.mem_cons.1 hx with rfl | hx
      · omega
      · exact hmax x hx
    · show (s.bits ||| bit d).testBit j = _
      rw [Nat.testBit_or, bit_test _ _ (by omega), decide_eq_true (show d ≤ 64 by omega), Bool.true_and, hb j hj]
      by_cases c : j = d - 1
      · rw [decide_eq_true c, Bool.or_true]
        symm
        rw [decide_eq_true_iff]
        refine ⟨by omega, ?_⟩
        rw [show m - 1 - j = k by omega]; simp
      · rw [decide_eq_false c, Bool.or_false, decide_eq_decide]
        constructor
        · rintro ⟨h1, h2⟩; exact ⟨h1, List.mem_cons_of_mem _ h2⟩
        · rintro ⟨h1, h2⟩
          refine ⟨h1, ?_⟩
          rcases List.mem_cons.1 h2 with h3 | h3
          · omega
          · exact h3
/-- by which is in, alone -/
theorem Noted.congr {b : Int} {ks ls : List Nat} {s : S} (h : Noted b ks s) (e : ∀ x, x ∈ ks ↔ x ∈ ls) : Noted b ls s := by
  obtain ⟨h64, h⟩ := h
  refine ⟨h64, ?_⟩
  rcases h with ⟨rfl, rfl⟩ | ⟨m, hm, hmax, ha, hlast, hb⟩
  · left
    refine ⟨?_, rfl⟩
    cases ls with
    | nil => rfl
    | cons x l => exact absurd ((e x).2 (by simp)) (by simp)
  · right
    refine ⟨m, (e m).1 hm, fun k hk => hmax k ((e k).2 hk), ha, hlast, fun j hj => ?_⟩
    rw [hb j hj, decide_eq_decide, e]
theorem Noted.one {b : Int} {ks : List Nat} {s t : S} (h : Noted b ks s) (k : Noted b ks t) : s = t := by
  obtain ⟨h64, h⟩ := h
  obtain ⟨k64, k⟩ := k
  rcases h with ⟨rfl, rfl⟩ | ⟨m, hm, hmax, ha, hlast, hb⟩
  · rcases k with ⟨_, rfl⟩ | ⟨m', hm', _⟩
    · rfl
    · cases hm'
  · rcases k with ⟨rfl, _⟩ | ⟨m', hm', hmax', ha', hlast', hb'⟩
    · cases hm
    · obtain rfl : m = m' := Nat.le_antisymm (hmax' m hm) (hmax m' hm')
      have : s.bits = t.bits := bits_ext h64 k64 fun j hj => by rw [hb j hj, hb' j hj]
      cases s; cases t
      simp only at ha hlast ha' hlast' this
      rw [ha, ha', hlast, hlast', this]
end Win
end Go.Proofs.Ytfikpkoocbiinaa

/- The reference's Window: Bits, in a walk. -/
import Derived.Test.YtfikpkoocbiinaaRefWinW
namespace Go.Proofs.Ytfikpkoocbiinaa
open Go.RowKit
theorem half_bits (B m : Nat) : B / 2 ^ m = 2 * (B / 2 ^ (m + 1)) + (B.testBit m).toNat := by
  rw [Nat.pow_succ, ← Nat.div_div_eq_div_mul, Nat.testBit_eq_decide_div_mod_eq]
  have : B / 2 ^ m % 2 = 0 ∨ B / 2 ^ m % 2 = 1 := by omega
  rcases this with h | h
  · rw [h]; simp; omega
  · rw [h]; simp; omega
set_option maxHeartbeats 1000000 in
theorem rbits_any (b : Nat) (s : Win.S) (r : Win.R) (hs : Win.Same s r) (w : World) (h : Rw w b r) : Calls Try.prog 16 #[.pointer (some ⟨b, 0, none⟩)] w fun e w' => e = .returned (.int .u64 s.bits) ∧ w' = w := by
  have hc : Hid (∀ m, m < 64 → w.cell? ⟨b, 2 + (m + 1), none⟩ = some (.bool (s.bits.testBit m))) := fun m hm => by
    rw [Blk.cell h, Nat.add_comm, ← hs.bit m hm]
    exact inn_cell (by rw [hs.len]; omega)
  have HB : Hid _ := hs.lt
  generalize s.bits = B at *
  clear h hs
  go_enter Try.func16, Try.ntmps16
  go_wp2_with fail
  go_loopg [3, 4] 65 (fun gk vv vk wr => ∃ k : Nat, vk = .int .i64 k ∧ k ≤ 64 ∧ k < gk ∧ wr = w ∧ vv = .int .u64 ((B / 2 ^ k : Nat) : Int))
  case atStart =>
    refine ⟨64, rfl, by omega, by omega, rfl, ?_⟩
    rw [Nat.div_eq_of_lt HB.out]; rfl
  case round =>
    obtain ⟨k, rfl, hk, hg, rfl, rfl⟩ := hrel
    by_cases h0 : k = 0
    · subst h0
      go_wp2_with fail
      go_ret
      refine ⟨?_, rfl⟩
      rw [Nat.pow_zero, Nat.div_one]; rfl
    · obtain ⟨m, rfl⟩ : ∃ m, k = m + 1 := ⟨k - 1, by omega⟩
      have q := half_bits B m
      have hcell := hc.out m (by omega)
      have lt : B / 2 ^ (m + 1) < 9223372036854775808 := by
        rw [Nat.div_lt_iff_lt_mul (Nat.two_pow_pos _)]
        refine Nat.lt_of_lt_of_le HB.out ?_
        rw [Nat.pow_succ]
        have := Nat.two_pow_pos m
        omega
      generalize B / 2 ^ (m + 1) = u at *
      have wr1 : IntKind.u64.wrap ((u : Int) * 2) = (u : Int) * 2 := by simp [IntKind.wrap, IntKind.bits, IntKind.signed]; omega
      have wr2 : IntKind.u64.wrap ((u : Int) * 2 + 1) = (u : Int) * 2 + 1 := by simp [IntKind.wrap, IntKind.bits, IntKind.signed]; omega
      have z0 : (0 : Int) < (m : Int) + 1 := by omega
      have z1 : (m : Int) + 1 < 65 := by omega
      have HQ : Hid _ := q
      clear q
      cases hv : B.testBit m
      · rw [hv] at hcell HQ
        go_wp2_with fail
        go_roundg (m + 1)
        case measure => omega
        case rel =>
          refine ⟨m, rfl, by omega, by omega, rfl, ret_v ?_⟩
          rw [HQ.out]
          simp
          omega
      · rw [hv] at hcell HQ
        go_wp2_with fail
        go_roundg (m + 1)
        case measure => omega
        case rel =>
          refine ⟨m, rfl, by omega, by omega, rfl, ret_v ?_⟩
          rw [HQ.out]
          simp
          omega
end Go.Proofs.Ytfikpkoocbiinaa

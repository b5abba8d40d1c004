/- The reference's Norm and Ahead. -/
import Derived.Test.YtfikpkoocbiinaaSeqA
namespace Go.Proofs.Ytfikpkoocbiinaa
open Go.RowKit
theorem rnorm_any (n : Int) (w : World) : Calls Try.prog 21 #[.int .i64 n] w fun e w' => e = .returned (.int .i64 (norm n)) ∧ w = w' := by
  have b1 : -65536 < n.tmod 65536 ∧ n.tmod 65536 < 65536 := ⟨Int.lt_tmod_of_pos n (by decide), Int.tmod_lt_of_pos n (by decide)⟩
  obtain ⟨b1, b2⟩ := b1
  by_cases c : n.tmod 65536 < 0
  · have e : n.tmod 65536 + 65536 = norm n := by unfold norm; have := Int.tmod_def n 65536; omega
    have H : Hid _ := e
    clear e
    go_enter Try.func21, Try.ntmps21
    go_wp2
    go_ret
    exact ⟨ret_s H.out, rfl⟩
  · have e : n.tmod 65536 = norm n := by unfold norm; have := Int.tmod_def n 65536; omega
    have H : Hid _ := e
    clear e
    go_enter Try.func21, Try.ntmps21
    go_wp2
    go_ret
    exact ⟨ret_s H.out, rfl⟩
theorem rahead_any (a b : Int) (w : World) : Calls Try.prog 22 #[.int .i64 a, .int .i64 b] w fun e w' => e = .returned (.int .i64 (ahead a b)) ∧ w = w' := by
  have ra := norm_rng a
  have rb := norm_rng b
  have rd := norm_rng (norm a - norm b)
  obtain ⟨d, hd⟩ : ∃ d, d = norm (norm a - norm b) := ⟨_, rfl⟩
  have k1 : ¬ 32768 ≤ d → d = ahead a b := by rw [hd]; unfold norm ahead; omega
  have k2 : 32768 ≤ d → d - 65536 = ahead a b := by rw [hd]; unfold norm ahead; omega
  rw [← hd] at rd
  obtain ⟨ra1, ra2⟩ := ra
  obtain ⟨rb1, rb2⟩ := rb
  obtain ⟨rd1, rd2⟩ := rd
  have K1 : Hid _ := k1
  have K2 : Hid _ := k2
  have HD : Hid _ := hd
  clear k1 k2 hd
  go_enter Try.func22, Try.ntmps22
  go_wp2_with fail
  refine (rnorm_any _ _).mono ?_
  rintro e w' ⟨rfl, rfl⟩
  go_wp2_with fail
  refine (rnorm_any _ _).mono ?_
  rintro e w' ⟨rfl, rfl⟩
  go_wp2_with fail
  refine (rnorm_any _ _).mono ?_
  rintro e w' ⟨rfl, rfl⟩
  rw [← HD.out]
  clear HD ra1 ra2 rb1 rb2
  by_cases c : 32768 ≤ d
  · go_wp2_with fail
    go_ret
    exact ⟨ret_s (K2.out c), rfl⟩
  · go_wp2_with fail
    go_ret
    exact ⟨ret_s (K1.out c), rfl⟩
end Go.Proofs.Ytfikpkoocbiinaa

/- Proved: DiceRuns returns true for every input. No condition. -/
import Derived.Test.YthbgafnfbjpajaaDiceK
import Derived.Test.YthbgafnfbjpajaaPick
import Derived.Test.YthbgafnfbjpajaaOnly
import Derived.Test.YthbgafnfbjpajaaFrame
import Derived.Deep.LoopGhost
namespace Go.Proofs.Ythbgafnfbjpajaa.diceRuns
open Go.ChangeShapes Go.WideShapes Go.ChangeAt Go.RowKit
set_option linter.unusedVariables false

theorem inj1 (c d M s t : Int) (h : (s * c + d) % M = (t * c + d) % M) : ∃ q, (s - t) * c = M * q := by
  obtain ⟨q, hq⟩ := Int.dvd_of_emod_eq_zero (Int.emod_eq_emod_iff_emod_sub_eq_zero.mp h)
  clear h
  exact ⟨q, by rw [← hq, Int.sub_mul]; omega⟩
theorem inj2 (M k i q c d : Int) (h1 : d * c = M * q) (e : c * i = 1 + M * k) : d % M = 0 := by
  have h : d * (c * i) = M * q * i := by rw [← Int.mul_assoc, h1]
  rw [e, Int.mul_add, Int.mul_one] at h
  have h2 : d = M * (q * i - d * k) := by
    rw [Int.mul_sub, ← Int.mul_assoc, ← h, ← Int.mul_assoc, ← Int.mul_assoc, Int.mul_comm d M]
    omega
  exact Int.emod_eq_zero_of_dvd ⟨_, h2⟩
theorem inj3 (M s t : Int) (s0 : 0 ≤ s) (s1 : s < M) (t0 : 0 ≤ t) (t1 : t < M) (h3 : (s - t) % M = 0) : s = t := by
  have h4 := Int.emod_eq_emod_iff_emod_sub_eq_zero.mpr h3
  rw [Int.emod_eq_of_lt s0 s1, Int.emod_eq_of_lt t0 t1] at h4
  exact h4
theorem inj4 (s t : Int) (s0 : 0 ≤ s) (s1 : s ≤ 18446744073709551615) (t0 : 0 ≤ t) (t1 : t ≤ 18446744073709551615) (h : Dice.next s = Dice.next t) : s = t := by
  have s2 : s < 18446744073709551616 := by clear h; omega
  have t2 : t < 18446744073709551616 := by clear h; omega
  obtain ⟨q, hq⟩ := inj1 _ _ _ _ _ h
  exact inj3 18446744073709551616 s t s0 s2 t0 t2 (inj2 _ 4787856489426250814 13877824140714322085 q _ _ hq (by decide))
theorem inj (s t : Int) (s0 : 0 ≤ s) (s1 : s ≤ 18446744073709551615) (t0 : 0 ≤ t) (t1 : t ≤ 18446744073709551615) : (Dice.next s == Dice.next t) = (s == t) := by
  rw [Bool.eq_iff_iff, beq_iff_eq, beq_iff_eq]
  exact ⟨inj4 s t s0 s1 t0 t1, fun h => by rw [h]⟩
theorem seed_odd (z : Int) : 0 ≤ Dice.seed z ∧ Dice.seed z % 2 = 1 := by unfold Dice.seed; omega

set_option maxRecDepth 100000 in
set_option maxHeartbeats 4000000 in
theorem walk (a0 : Int) (a1 : Int) (s2 : Value) (a2 : List Int) (w : World) (w0 : (Lit.int .u64 a0).wf = true) (w1 : (Lit.int .u64 a1).wf = true) (w2 : CameI .i64 w s2 a2) :
    Calls Try.prog 5 #[.int .u64 a0, .int .u64 a1, s2] w fun e w' => e = .returned (.bool true) ∧ Below w.heap.size w w' := by
  obtain ⟨ao, cap, rfl, hcap, hcm, _, hcl⟩ := w2
  have HC : Hid (∀ i, i < a2.length → ∃ b o, ao = some ⟨b, o, none⟩ ∧ b < w.heap.size ∧ w.cell? ⟨b, o + i, none⟩ = some (.int .i64 (a2.getD i 0))) := fun i hi => by
    rcases hcl with h | ⟨b, o, h1, h2, h3⟩
    · rw [h] at hi; simp at hi
    · exact ⟨b, o, h1, h2, h3 i hi⟩
  clear hcl
  have m0 : a2.length ≤ 9223372036854775807 := by simp only [maxLen] at hcm; omega
  clear hcm
  generalize hn : a2.length = n at *
  clear hn
  have IJ : Hid ((Dice.next a0 == Dice.next a1) = (a0 == a1)) := by
    simp [Lit.wf, IntKind.min, IntKind.max, IntKind.bits, IntKind.signed] at w0 w1
    exact inj _ _ (by omega) (by omega) (by omega) (by omega)
  clear w0 w1
  go_enter Try.func5, Try.ntmps5
  go_wp2_with fail
  go_loopg [7, 8, 9] 61 (fun gk va vb vi wr => ∃ (k : Nat) (s : Int), va = .int .u64 s ∧ vb = .int .u64 s ∧ vi = .int .i64 k ∧ k ≤ 40 ∧ k ≤ n ∧ 61 - k ≤ gk ∧ Hid (Only [] w wr))
  case atStart => exact ⟨0, a0, rfl, rfl, rfl, by omega, by omega, by omega, Only.refl _ _⟩
  case round =>
    obtain ⟨k, s, rfl, rfl, rfl, hk, hkn, hg, HR⟩ := hrel
    by_cases c1 : k < n
    · by_cases c2 : k < 40
      · have z1 : (k : Int) < (n : Int) := by omega
        have z2 : (k : Int) < 40 := by omega
        obtain ⟨bb, o0, rfl, lbb, hc⟩ := HC.out k c1
        have hcell : wr.cell? ⟨bb, o0 + k, none⟩ = some (.int .i64 (a2.getD k 0)) := (HR.out.cell lbb (by simp)).trans hc
        clear hc HC
        generalize a2.getD k 0 = z at hcell
        obtain ⟨q, hq⟩ : ∃ q : Int, z % 1000 = q := ⟨_, rfl⟩
        have q0 : 0 ≤ q := by omega
        have q1 : q < 1000 := by omega
        have HQ : Hid _ := hq
        clear hq
        obtain ⟨r0, r1⟩ := roll_rng s (1 + q) (by omega)
        go_wp2_with fail
        refine (pick_any _ _ (by omega) (by omega) _).mono ?_
        rintro e w' ⟨rfl, rfl⟩
        rw [HQ.out]
        go_wp2_with fail
        refine (roll_any _ _ (by omega) _).mono ?_
        rintro e w' ⟨rfl, rfl⟩
        go_wp2_with fail
        refine (roll_any _ _ (by omega) _).mono ?_
        rintro e w' ⟨rfl, rfl⟩
        go_wp2_with fail
        go_roundg (60 - k)
        case measure => omega
        case rel => exact ⟨k + 1, _, rfl, rfl, rfl, by omega, by omega, by omega, HR.out.drew.drew⟩
      · have z1 : (k : Int) < (n : Int) := by omega
        have z2 : ¬ (k : Int) < 40 := by omega
        go_wp2_with fail
        refine (next_any _ _).mono ?_
        rintro e w' ⟨rfl, rfl⟩
        go_wp2_with fail
        refine (next_any _ _).mono ?_
        rintro e w' ⟨rfl, rfl⟩
        go_wp2_with fail
        refine (known_any _).mono ?_
        rintro e w' ⟨rfl, rfl⟩
        have ij := IJ.out
        go_wp2_with fail
        refine (seed_any _ _).mono ?_
        rintro e w' ⟨rfl, rfl⟩
        obtain ⟨g0, g1⟩ := seed_odd (wrap64 (a0 / 2))
        go_wp2_with fail
        go_ret
        exact ⟨by simp, HR.out.below (Nat.le_refl _) (by simp)⟩
    · have z1 : ¬ (k : Int) < (n : Int) := by omega
      go_wp2_with fail
      refine (next_any _ _).mono ?_
      rintro e w' ⟨rfl, rfl⟩
      go_wp2_with fail
      refine (next_any _ _).mono ?_
      rintro e w' ⟨rfl, rfl⟩
      go_wp2_with fail
      refine (known_any _).mono ?_
      rintro e w' ⟨rfl, rfl⟩
      have ij := IJ.out
      go_wp2_with fail
      refine (seed_any _ _).mono ?_
      rintro e w' ⟨rfl, rfl⟩
      obtain ⟨g0, g1⟩ := seed_odd (wrap64 (a0 / 2))
      go_wp2_with fail
      go_ret
      exact ⟨by simp, HR.out.below (Nat.le_refl _) (by simp)⟩

set_option maxRecDepth 100000 in
theorem lifted (os : Os) (started : os.Started) (H : Type) (enc : TypeId × Value → H) :
    ReturnsInHanded {} Try.checked os 5 .any (Rows.diceRunsSpec.pre6 enc Try.prog Try.f5 Rows.diceRunsRow.domain false) (Rows.diceRunsSpec.post enc Try.prog Try.f5 false true false false) := by
  refine returnsInHanded_of_change (C := Try.checked) own started (by kernel_rfl) Try.func5
    (ChangeSpec.witness6 (enc := enc) (C := Try.checked) false ⟨#[], #[.int .u64 0, .int .u64 0, .slice none 0 0], []⟩ 8 (by kernel_rfl) (by kernel_rfl) (by kernel_rfl) (by kernel_rfl)) ?_
  intro W base args ds gs before hval0 hW hcnd _
  have hval : ∀ (j : Nat) t v, Try.f5.params[j]? = some t → args[j]? = some v → Value.okWide Try.prog W .any base t v := hval0
  have hW' := hW
  obtain ⟨p, q, hA0, hV, rfl, hfz, hnd⟩ := hW
  have hA : DataW.TrodAll enc Try.prog W 0 (fun _ => true) true Try.f5.params.toList args.toList ds p := hA0
  rw [Try.params5] at hA hval
  obtain ⟨v0, vs0, d0, ds0, p0, q0, hargs, rfl, rfl, h0, r0⟩ := trodAll_cons hA
  obtain ⟨v1, vs1, d1, ds1, p1, q1, rfl, rfl, rfl, h1, r1⟩ := trodAll_cons r0
  obtain ⟨v2, vs2, d2, ds2, p2, q2, rfl, rfl, rfl, h2, r2⟩ := trodAll_cons r1
  obtain ⟨rfl, rfl, rfl⟩ := trodAll_nil r2
  obtain rfl : args = #[v0, v1, v2] := by cases args; simp_all
  obtain ⟨rfl, rfl⟩ := trodVars_none hV
  obtain ⟨a0, rfl, rfl, rfl, w0⟩ := open_int Try.underlying22 (hval 0 22 v0 rfl rfl) h0
  obtain ⟨a1, rfl, rfl, rfl, w1⟩ := open_int Try.underlying22 (hval 1 22 v1 rfl rfl) h1
  obtain ⟨e2, len2, cap2, rfl⟩ := okWide_slice Try.underlying29 (hval 2 29 v2 rfl rfl)
  have k2 := h2
  have lt2 : ∀ x ∈ p2, x.block < W.heap.size := by obtain ⟨m, hm⟩ := k2; exact DataW.trod_lt m _ _ _ hm
  obtain ⟨a2, w2⟩ := came_i Try.underlying29 Try.underlying3 (by kernel_rfl) h2
  clear hA0 hval0
  refine (walk a0 a1 _ a2 W w0 w1 w2).mono fun e W' ⟨he, bel⟩ => ?_
  subst he
  exact ⟨_, rfl, _, _, _, [], _, [], hW', trodAll_mk1 (shut_bool Try.underlying4 _), (trodAll_cons_mk (shut_int Try.underlying22 w0) (trodAll_cons_mk (shut_int Try.underlying22 w1) (trodAll_cons_mk (Below.trod laidOut (by kernel_rfl) (of_decide_eq_true (by kernel_rfl)) k2 bel lt2) trodAll_mk0))), rfl, bel.frame _, fun h => by cases h⟩

theorem over : Rows.diceRunsRow.holds Try.pinned (OpenSpec.ofChange Rows.diceRunsSpec) :=
  OpenClaim.holds_of_wide 5 Try.f5 rfl rfl rfl rfl rfl rfl rfl ⟨rfl, rfl, rfl, rfl, rfl⟩ rfl rfl rfl rfl rfl (by kernel_rfl) Try.func5 (by kernel_rfl)
    (of_decide_eq_true (by kernel_rfl)) (by unfold Func.isWrapper; first | (rw [if_pos (by decide +kernel)]; kernel_rfl) | (rw [if_neg (by decide +kernel)]; exact ⟨rfl, rfl⟩))
    (fun os started H enc _ => lifted os started H enc)

/-- THE STATEMENT -/
theorem proved : Rows.DiceRunsSaid := over
end Go.Proofs.Ythbgafnfbjpajaa.diceRuns

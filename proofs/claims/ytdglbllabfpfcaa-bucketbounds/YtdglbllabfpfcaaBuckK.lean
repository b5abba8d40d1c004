/- The chapter's example ('known'), which each statement of law 8 asks first. -/
import Derived.Test.YtdglbllabfpfcaaBuckW
namespace Go.Proofs.Ytdglbllabfpfcaa
open Go.RowKit
open Fl (V nn fin rg sg U)
namespace BuckK
def s0 : Fl.Buck.S := Fl.Buck.new 4602678819172646912 4611686018427387904
def s1 : Fl.Buck.S := (s0.take 0).1
def s2 : Fl.Buck.S := (s1.take 0).1
def s3 : Fl.Buck.S := (s2.take 0).1
def s4 : Fl.Buck.S := (s3.take 2).1
theorem r0 : Fl.Buck.right 4602678819172646912 4611686018427387904 := by decide +kernel
theorem r1 : (s0.take 0).2 = true := by decide +kernel
theorem r2 : (s1.take 0).2 = true := by decide +kernel
theorem r3 : (s2.take 0).2 = false := by decide +kernel
theorem r4 : (s3.take 2).2 = true := by decide +kernel
theorem l4 : s4.level = 0 := by decide +kernel
end BuckK
theorem known_any (w : World) : Calls Try.prog 8 #[] w fun e w' => e = .returned (.bool true) ∧ Only [] w w' := by
  have z : (FloatKind.f64.format.order 0 0 == some .eq) = true := by decide +kernel
  go_enter Try.func8, Try.ntmps8
  go_wp2_with fail
  refine (new_right _ _ (by decide) (by decide) BuckK.r0 _).mono ?_
  rintro e x0 ⟨rfl, h1, o1⟩
  obtain ⟨B, hB⟩ : ∃ B, w.heap.size = B := ⟨_, rfl⟩
  rw [hB] at h1 ⊢
  have H0 : Hid (Bk x0 B BuckK.s0 ∧ Only [] w x0) := ⟨h1, o1⟩
  clear h1 o1
  go_wp2_with fail
  refine (take_any B BuckK.s0 0 _ H0.out.1).mono ?_
  rintro e x1 ⟨rfl, h1, o1, z1⟩
  have H1 : Hid (Bk x1 B BuckK.s1 ∧ Only [] w x1) := ⟨h1, H0.out.2.then o1 (by simp; omega)⟩
  clear h1 o1 z1 H0
  rw [BuckK.r1]
  go_wp2_with fail
  refine (take_any B BuckK.s1 0 _ H1.out.1).mono ?_
  rintro e x2 ⟨rfl, h1, o1, z1⟩
  have H2 : Hid (Bk x2 B BuckK.s2 ∧ Only [] w x2) := ⟨h1, H1.out.2.then o1 (by simp; omega)⟩
  clear h1 o1 z1 H1
  rw [BuckK.r2]
  go_wp2_with fail
  refine (take_any B BuckK.s2 0 _ H2.out.1).mono ?_
  rintro e x3 ⟨rfl, h1, o1, z1⟩
  have H3 : Hid (Bk x3 B BuckK.s3 ∧ Only [] w x3) := ⟨h1, H2.out.2.then o1 (by simp; omega)⟩
  clear h1 o1 z1 H2
  rw [BuckK.r3]
  go_wp2_with fail
  refine (take_any B BuckK.s3 2 _ H3.out.1).mono ?_
  rintro e x4 ⟨rfl, h1, o1, z1⟩
  have H4 : Hid (Bk x4 B BuckK.s4 ∧ Only [] w x4) := ⟨h1, H3.out.2.then o1 (by simp; omega)⟩
  clear h1 o1 z1 H3
  rw [BuckK.r4]
  go_wp2_with fail
  refine (level_any B _ _ H4.out.1).mono ?_
  rintro e w' ⟨rfl, hw⟩
  subst hw
  rw [BuckK.l4]
  go_wp2_with fail
  go_ret
  exact ⟨rfl, H4.out.2⟩
end Go.Proofs.Ytdglbllabfpfcaa

/- The chapter's example ('known'), which each statement of law 9 asks. -/
import Derived.Test.YtfebpbahincieaaMetrN
namespace Go.Proofs.Ytfebpbahincieaa
open Go.RowKit
open Fl (V nn fin rg sg U)
namespace MetrK
def s1 : Fl.Metr.S := Fl.Metr.zero.note 4620693217682128896
def s2 : Fl.Metr.S := s1.note 4625196817309499392
theorem a1 : Fl.Metr.sample 4620693217682128896 := by decide +kernel
theorem a2 : Fl.Metr.sample 4625196817309499392 := by decide +kernel
theorem m2 : s2.mean = 4621256167635550208 := by decide +kernel
theorem j2 : s2.jit = 4611686018427387904 := by decide +kernel
theorem c2 : s2.count = 2 := by decide +kernel
end MetrK
theorem known_any (w : World) : Calls Try.prog 7 #[] w fun e w' => e = .returned (.bool true) ∧ Only [] w w' := by
  have z1 : (FloatKind.f64.format.order 4621256167635550208 4621256167635550208 == some .eq) = true := by decide +kernel
  have z2 : (FloatKind.f64.format.order 4611686018427387904 4611686018427387904 == some .eq) = true := by decide +kernel
  go_enter Try.func7, Try.ntmps7
  go_wp2_with fail
  obtain ⟨x0, e0⟩ : ∃ x0, x0 = w.alloc (.cells #[.int .i64 0, .float .f64 0, .float .f64 0] 24) := ⟨_, rfl⟩
  have H0 : Hid (Mt x0 w.heap.size Fl.Metr.zero ∧ Only [] w x0) := ⟨e0 ▸ Mt.new _ _, e0 ▸ (Only.refl _ _).alloc _⟩
  rw [← e0]
  clear e0
  obtain ⟨B, hB⟩ : ∃ B, w.heap.size = B := ⟨_, rfl⟩
  rw [hB] at H0 ⊢
  refine (note_yes B Fl.Metr.zero _ (by decide) MetrK.a1 (by decide) _ H0.out.1).mono ?_
  rintro e x1 ⟨rfl, h1, o1, _⟩
  have H1 : Hid (Mt x1 B MetrK.s1 ∧ Only [] w x1) := ⟨h1, H0.out.2.then o1 (by simp; omega)⟩
  clear h1 o1 H0
  go_wp2_with fail
  refine (note_yes B MetrK.s1 _ (by decide) MetrK.a2 (by decide +kernel) _ H1.out.1).mono ?_
  rintro e x2 ⟨rfl, h1, o1, _⟩
  have H2 : Hid (Mt x2 B MetrK.s2 ∧ Only [] w x2) := ⟨h1, H1.out.2.then o1 (by simp; omega)⟩
  clear h1 o1 H1
  go_wp2_with fail
  refine (mean_any B _ _ H2.out.1).mono ?_
  rintro e w' ⟨rfl, hw⟩
  subst hw
  rw [MetrK.m2]
  go_wp2_with fail
  refine (jit_any B _ _ H2.out.1).mono ?_
  rintro e w' ⟨rfl, hw⟩
  subst hw
  rw [MetrK.j2]
  go_wp2_with fail
  refine (count_any B _ _ H2.out.1).mono ?_
  rintro e w' ⟨rfl, hw⟩
  subst hw
  rw [MetrK.c2]
  go_wp2_with fail
  go_ret
  exact ⟨rfl, H2.out.2⟩
end Go.Proofs.Ytfebpbahincieaa

/- What is known of package window, by the law's own 'known'. -/
import Derived.Test.YtfikpkoocbiinaaWin
namespace Go.Proofs.Ytfikpkoocbiinaa
open Go.RowKit
theorem Wn.new (w : World) (t : TypeId) : Wn (w.alloc (.cells #[.bool false, .int .i64 0, .int .u64 0] t)) w.heap.size Win.none := ⟨Three.new _ _ _ _ _, by decide⟩

namespace WinK
def s1 : Win.S := (Win.none.note 5).1
def s2 : Win.S := (s1.note 7).1
def s3 : Win.S := (s2.note 6).1
def s4 : Win.S := (s3.note 5).1
theorem r1 : (Win.none.note 5).2 = 1 := by decide +kernel
theorem r2 : (s1.note 7).2 = 1 := by decide +kernel
theorem r3 : (s2.note 6).2 = 1 := by decide +kernel
theorem r4 : (s3.note 5).2 = 2 := by decide +kernel
theorem l4 : s4.last = 7 := by decide +kernel
theorem b4 : s4.bits = 3 := by decide +kernel
end WinK
theorem known_any (w : World) : Calls Try.prog 10 #[] w fun e w' => e = .returned (.bool true) ∧ Only [] w w' := by
  go_enter Try.func10, Try.ntmps10
  go_wp2_with fail
  obtain ⟨x0, e0⟩ : ∃ x0, x0 = w.alloc (.cells #[.bool false, .int .i64 0, .int .u64 0] 24) := ⟨_, rfl⟩
  have H0 : Hid (Wn x0 w.heap.size Win.none ∧ Only [] w x0) := ⟨e0 ▸ Wn.new _ _, e0 ▸ (Only.refl _ _).alloc _⟩
  rw [← e0]
  clear e0
  obtain ⟨B, hB⟩ : ∃ B, w.heap.size = B := ⟨_, rfl⟩
  rw [hB] at H0 ⊢
  refine (note_any B Win.none 5 _ H0.out.1).mono ?_
  rintro e x1 ⟨rfl, h1, o1, z1⟩
  have H1 : Hid (Wn x1 B WinK.s1 ∧ Only [] w x1) := ⟨h1, H0.out.2.then o1 (by simp; omega)⟩
  clear h1 o1 z1 H0
  rw [WinK.r1]
  go_wp2_with fail
  refine (note_any B WinK.s1 7 _ H1.out.1).mono ?_
  rintro e x2 ⟨rfl, h1, o1, z1⟩
  have H2 : Hid (Wn x2 B WinK.s2 ∧ Only [] w x2) := ⟨h1, H1.out.2.then o1 (by simp; omega)⟩
  clear h1 o1 z1 H1
  rw [WinK.r2]
  go_wp2_with fail
  refine (note_any B WinK.s2 6 _ H2.out.1).mono ?_
  rintro e x3 ⟨rfl, h1, o1, z1⟩
  have H3 : Hid (Wn x3 B WinK.s3 ∧ Only [] w x3) := ⟨h1, H2.out.2.then o1 (by simp; omega)⟩
  clear h1 o1 z1 H2
  rw [WinK.r3]
  go_wp2_with fail
  refine (note_any B WinK.s3 5 _ H3.out.1).mono ?_
  rintro e x4 ⟨rfl, h1, o1, z1⟩
  have H4 : Hid (Wn x4 B WinK.s4 ∧ Only [] w x4) := ⟨h1, H3.out.2.then o1 (by simp; omega)⟩
  clear h1 o1 z1 H3
  rw [WinK.r4]
  go_wp2_with fail
  refine (last_any B _ _ H4.out.1).mono ?_
  rintro e w' ⟨rfl, hw⟩
  subst hw
  rw [WinK.l4]
  go_wp2_with fail
  refine (bits_any B _ _ H4.out.1).mono ?_
  rintro e w' ⟨rfl, hw⟩
  subst hw
  rw [WinK.b4]
  go_wp2_with fail
  go_ret
  exact ⟨rfl, H4.out.2⟩
end Go.Proofs.Ytfikpkoocbiinaa

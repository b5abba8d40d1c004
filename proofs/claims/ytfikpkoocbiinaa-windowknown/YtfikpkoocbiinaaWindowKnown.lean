/- Proved: WindowKnown returns true. No condition. -/
import Derived.Test.YtfikpkoocbiinaaWinK
import Derived.Test.YtfikpkoocbiinaaFrame
namespace Go.Proofs.Ytfikpkoocbiinaa.windowKnown
open Go.ChangeShapes Go.WideShapes Go.ChangeAt Go.RowKit
set_option linter.unusedVariables false

def s1 : Win.S := (Win.none.note 65535).1
theorem r1 : (Win.none.note 65535).2 = 1 := by decide +kernel
def s2 : Win.S := (s1.note 63).1
theorem r2 : (s1.note 63).2 = 1 := by decide +kernel
def s3 : Win.S := (s2.note 65535).1
theorem r3 : (s2.note 65535).2 = 2 := by decide +kernel
def s4 : Win.S := (s3.note 65534).1
theorem r4 : (s3.note 65534).2 = 3 := by decide +kernel
def s5 : Win.S := (s4.note 0).1
theorem r5 : (s4.note 0).2 = 1 := by decide +kernel
def s6 : Win.S := (s5.note 64).1
theorem r6 : (s5.note 64).2 = 1 := by decide +kernel
def s7 : Win.S := (s6.note 65535).1
theorem r7 : (s6.note 65535).2 = 3 := by decide +kernel
theorem b2 : s2.bits = 9223372036854775808 := by decide +kernel
theorem y7 : s7.any = true := by decide +kernel
theorem l7 : s7.last = 64 := by decide +kernel
theorem b7 : s7.bits = 9223372036854775809 := by decide +kernel
theorem c1 : Win.covers 5 0 5 = true := by decide +kernel
theorem c2 : Win.covers 5 0 4 = false := by decide +kernel
theorem c3 : Win.covers 5 1 4 = true := by decide +kernel
theorem c4 : Win.covers 0 2 65534 = true := by decide +kernel
theorem c5 : Win.covers 5 9223372036854775808 6 = false := by decide +kernel

set_option maxRecDepth 100000 in
set_option maxHeartbeats 4000000 in
theorem walk  (w : World)  :
    Calls Try.prog 3 #[] w fun e w' => e = .returned (.bool true) ∧ Below w.heap.size w w' := by
  have hnot : ∀ (x : Bool) (w : World), (Op.unary .not (.bool x)).run Try.prog w = .ok (.bool (!x)) w := fun _ _ => rfl
  go_enter Try.func3, Try.ntmps3
  go_wp2_with fail
  obtain ⟨x0, e0⟩ : ∃ x0, x0 = w.alloc (.cells #[.bool false, .int .i64 0, .int .u64 0] 24) := ⟨_, rfl⟩
  have H0 : Hid (Wn x0 w.heap.size Win.none ∧ Only [] w x0) := ⟨e0 ▸ Wn.new _ _, e0 ▸ (Only.refl _ _).alloc _⟩
  rw [← e0]
  clear e0
  obtain ⟨B, hB⟩ : ∃ B, w.heap.size = B := ⟨_, rfl⟩
  rw [hB] at H0 ⊢
  refine (any_any B _ _ H0.out.1).mono ?_
  rintro e w' ⟨rfl, hw⟩
  subst hw
  rw [show Win.none.any = false from rfl]
  go_wp2_with fail
  refine (note_any B Win.none 65535 _ H0.out.1).mono ?_
  rintro e x1 ⟨rfl, h1, o1, z1⟩
  have H1 : Hid (Wn x1 B s1 ∧ Only [] w x1) := ⟨h1, H0.out.2.then o1 (by simp; omega)⟩
  clear h1 o1 z1 H0
  rw [r1]
  go_wp2_with fail
  refine (note_any B s1 63 _ H1.out.1).mono ?_
  rintro e x2 ⟨rfl, h1, o1, z1⟩
  have H2 : Hid (Wn x2 B s2 ∧ Only [] w x2) := ⟨h1, H1.out.2.then o1 (by simp; omega)⟩
  clear h1 o1 z1 H1
  rw [r2]
  go_wp2_with fail
  refine (bits_any B _ _ H2.out.1).mono ?_
  rintro e w' ⟨rfl, hw⟩
  subst hw
  rw [b2]
  go_wp2_with fail
  refine (note_any B s2 65535 _ H2.out.1).mono ?_
  rintro e x3 ⟨rfl, h1, o1, z1⟩
  have H3 : Hid (Wn x3 B s3 ∧ Only [] w x3) := ⟨h1, H2.out.2.then o1 (by simp; omega)⟩
  clear h1 o1 z1 H2
  rw [r3]
  go_wp2_with fail
  refine (note_any B s3 65534 _ H3.out.1).mono ?_
  rintro e x4 ⟨rfl, h1, o1, z1⟩
  have H4 : Hid (Wn x4 B s4 ∧ Only [] w x4) := ⟨h1, H3.out.2.then o1 (by simp; omega)⟩
  clear h1 o1 z1 H3
  rw [r4]
  go_wp2_with fail
  refine (note_any B s4 0 _ H4.out.1).mono ?_
  rintro e x5 ⟨rfl, h1, o1, z1⟩
  have H5 : Hid (Wn x5 B s5 ∧ Only [] w x5) := ⟨h1, H4.out.2.then o1 (by simp; omega)⟩
  clear h1 o1 z1 H4
  rw [r5]
  go_wp2_with fail
  refine (note_any B s5 64 _ H5.out.1).mono ?_
  rintro e x6 ⟨rfl, h1, o1, z1⟩
  have H6 : Hid (Wn x6 B s6 ∧ Only [] w x6) := ⟨h1, H5.out.2.then o1 (by simp; omega)⟩
  clear h1 o1 z1 H5
  rw [r6]
  go_wp2_with fail
  refine (note_any B s6 65535 _ H6.out.1).mono ?_
  rintro e x7 ⟨rfl, h1, o1, z1⟩
  have H7 : Hid (Wn x7 B s7 ∧ Only [] w x7) := ⟨h1, H6.out.2.then o1 (by simp; omega)⟩
  clear h1 o1 z1 H6
  rw [r7]
  go_wp2_with fail
  refine (known_any _).mono ?_
  rintro e x8 ⟨rfl, o8⟩
  have H8 : Hid (Wn x8 B s7 ∧ Only [] w x8) := ⟨H7.out.1.only o8 (by simp), H7.out.2.trans o8⟩
  clear o8 H7
  go_wp2_with fail
  refine (any_any B _ _ H8.out.1).mono ?_
  rintro e w' ⟨rfl, hw⟩
  subst hw
  rw [y7]
  go_wp2_with fail
  refine (last_any B _ _ H8.out.1).mono ?_
  rintro e w' ⟨rfl, hw⟩
  subst hw
  rw [l7]
  go_wp2_with fail
  refine (bits_any B _ _ H8.out.1).mono ?_
  rintro e w' ⟨rfl, hw⟩
  subst hw
  rw [b7]
  go_wp2_with fail
  refine (covers_any 5 0 (by omega) 5 _).mono ?_
  rintro e w' ⟨rfl, rfl⟩
  rw [c1]
  go_wp2_with fail
  refine (covers_any 5 0 (by omega) 4 _).mono ?_
  rintro e w' ⟨rfl, rfl⟩
  rw [c2]
  go_wp2_with fail
  refine (covers_any 5 1 (by omega) 4 _).mono ?_
  rintro e w' ⟨rfl, rfl⟩
  rw [c3]
  go_wp2_with fail
  refine (covers_any 0 2 (by omega) 65534 _).mono ?_
  rintro e w' ⟨rfl, rfl⟩
  rw [c4]
  go_wp2_with fail
  refine (covers_any 5 9223372036854775808 (by omega) 6 _).mono ?_
  rintro e w' ⟨rfl, rfl⟩
  rw [c5]
  go_wp2_with fail
  go_ret
  exact ⟨rfl, H8.out.2.below (by omega) (by simp)⟩

set_option maxRecDepth 100000 in
theorem lifted (os : Os) (started : os.Started) (H : Type) (enc : TypeId × Value → H) :
    ReturnsInHanded {} Try.checked os 3 .any (Rows.windowKnownSpec.pre6 enc Try.prog Try.f3 Rows.windowKnownRow.domain false) (Rows.windowKnownSpec.post enc Try.prog Try.f3 false true false false) := by
  refine returnsInHanded_of_change (C := Try.checked) own started (by kernel_rfl) Try.func3
    (ChangeSpec.witness6 (enc := enc) (C := Try.checked) false ⟨#[], #[], []⟩ 8 (by kernel_rfl) (by kernel_rfl) (by kernel_rfl) (by kernel_rfl)) ?_
  intro W base args ds gs before hval0 hW hcnd _
  have hval : ∀ (j : Nat) t v, Try.f3.params[j]? = some t → args[j]? = some v → Value.okWide Try.prog W .any base t v := hval0
  have hW' := hW
  obtain ⟨p, q, hA0, hV, rfl, hfz, hnd⟩ := hW
  have hA : DataW.TrodAll enc Try.prog W 0 (fun _ => true) true Try.f3.params.toList args.toList ds p := hA0
  rw [Try.params3] at hA hval
  obtain ⟨rfl, rfl, rfl⟩ := trodAll_none hA
  obtain ⟨rfl, rfl⟩ := trodVars_none hV
  clear hA0 hval0
  refine (walk  W ).mono fun e W' ⟨he, bel⟩ => ?_
  subst he
  exact ⟨_, rfl, _, _, _, [], _, [], hW', trodAll_mk1 (shut_bool Try.underlying4 _), trodAll_mk0, rfl, bel.frame _, fun h => by cases h⟩

theorem over : Rows.windowKnownRow.holds Try.pinned (OpenSpec.ofChange Rows.windowKnownSpec) :=
  OpenClaim.holds_of_wide 3 Try.f3 rfl rfl rfl rfl rfl rfl rfl ⟨rfl, rfl, rfl, rfl, rfl⟩ rfl rfl rfl rfl rfl (by kernel_rfl) Try.func3 (by kernel_rfl)
    (of_decide_eq_true (by kernel_rfl)) (by unfold Func.isWrapper; first | (rw [if_pos (by decide +kernel)]; kernel_rfl) | (rw [if_neg (by decide +kernel)]; exact ⟨rfl, rfl⟩))
    (fun os started H enc _ => lifted os started H enc)

/-- THE STATEMENT -/
theorem proved : Rows.WindowKnownSaid := over
end Go.Proofs.Ytfikpkoocbiinaa.windowKnown

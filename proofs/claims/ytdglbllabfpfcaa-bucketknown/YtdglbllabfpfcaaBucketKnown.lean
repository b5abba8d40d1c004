/- Proved: BucketKnown, a closed sentence, returns true. No condition. -/
import Derived.Test.YtdglbllabfpfcaaBuckK
import Derived.Test.YtdglbllabfpfcaaFrame
namespace Go.Proofs.Ytdglbllabfpfcaa.bucketKnown
open Go.ChangeShapes Go.WideShapes Go.ChangeAt Go.RowKit
open Fl (V nn fin rg sg U)
set_option linter.unusedVariables false

theorem b_or : bits BinOp.or IntKind.u64 (bits BinOp.andNot IntKind.u64 0 9223372036854775808) (bits BinOp.and IntKind.u64 13830554455654793216 9223372036854775808) = 9223372036854775808 := by decide +kernel
theorem copysign_0 (w : World) :
    Calls Try.prog 6 #[.float .f64 0, .float .f64 13830554455654793216] w fun e w' => e = .returned (.float .f64 9223372036854775808) ∧ w = w' := by
  have h := b_or
  go_enter Try.func6, Try.ntmps6
  go_wp2
  go_ret
  exact ⟨rfl, rfl⟩
theorem nan_any (w : World) : Calls Try.prog 12 #[] w fun e w' => e = .returned (.float .f64 9221120237041090561) ∧ w = w' := by
  go_enter Try.func12, Try.ntmps12
  go_wp2
  go_ret
  exact ⟨rfl, rfl⟩
theorem inf_any (w : World) : Calls Try.prog 13 #[.int .i64 1] w fun e w' => e = .returned (.float .f64 9218868437227405312) ∧ w = w' := by
  go_enter Try.func13, Try.ntmps13
  go_wp2
  go_ret
  exact ⟨rfl, rfl⟩
theorem refused_any (r d : Nat) (lr : r < 2 ^ 64) (ld : d < 2 ^ 64) (h : ¬ Fl.Buck.right r d) (w : World) : Calls Try.prog 11 #[.float .f64 r, .float .f64 d] w fun e w' => e = .returned (.bool true) ∧ w = w' := by
  have q := new_wrong r d lr ld h
  clear lr ld h
  go_enter Try.func11, Try.ntmps11
  go_wp2_with fail
  refine (q _).mono ?_
  rintro e w' ⟨rfl, rfl⟩
  go_wp2_with fail
  go_ret
  exact ⟨rfl, rfl⟩

def b0 : Fl.Buck.S := Fl.Buck.new 9223372036854775808 4607182418800017408
def b1 : Fl.Buck.S := (b0.take 5).1
def b2 : Fl.Buck.S := (b1.take 5000000).1
def c0 : Fl.Buck.S := Fl.Buck.new 9218868437227405311 4652007308841189376
def c1 : Fl.Buck.S := (c0.take 1).1
def c2 : Fl.Buck.S := (c1.take (-7)).1
theorem rb0 : Fl.Buck.right 9223372036854775808 4607182418800017408 := by decide +kernel
theorem rc0 : Fl.Buck.right 9218868437227405311 4652007308841189376 := by decide +kernel
theorem rb1 : (b0.take 5).2 = true := by decide +kernel
theorem rb2 : (b1.take 5000000).2 = false := by decide +kernel
theorem rc1 : (c0.take 1).2 = true := by decide +kernel
theorem rc2 : (c1.take (-7)).2 = true := by decide +kernel
theorem lc0 : c0.level = 4652007308841189376 := by decide +kernel
theorem lc2 : c2.level = 4651989716655144960 := by decide +kernel
theorem n1 : ¬ Fl.Buck.right 9221120237041090561 4617315517961601024 := by decide +kernel
theorem n2 : ¬ Fl.Buck.right 4607182418800017408 9221120237041090561 := by decide +kernel
theorem n3 : ¬ Fl.Buck.right 9218868437227405312 4617315517961601024 := by decide +kernel
theorem n4 : ¬ Fl.Buck.right 13821547256400052224 4617315517961601024 := by decide +kernel
theorem n5 : ¬ Fl.Buck.right 4607182418800017408 4602678819172646912 := by decide +kernel
theorem n6 : ¬ Fl.Buck.right 4607182418800017408 4652016104934211584 := by decide +kernel
theorem n7 : ¬ Fl.Buck.right 4607182418800017408 9218868437227405312 := by decide +kernel

/-- both Buckets in memory -/
structure Both (w x : World) (B C : Nat) (s t : Fl.Buck.S) : Prop where
  one : Bk x B s
  two : Bk x C t
  only : Only [] w x

set_option maxRecDepth 100000 in
set_option maxHeartbeats 4000000 in
theorem walk  (w : World)  :
    Calls Try.prog 3 #[] w fun e w' => e = .returned (.bool true) ∧ Below w.heap.size w w' := by
  have z1 : (FloatKind.f64.format.order 4652007308841189376 4652007308841189376 == some .eq) = true := by decide +kernel
  have z2 : (FloatKind.f64.format.order 4651989716655144960 4651989716655144960 == some .eq) = true := by decide +kernel
  go_enter Try.func3, Try.ntmps3
  go_wp2_with fail
  refine (copysign_0 _).mono ?_
  rintro e w' ⟨rfl, rfl⟩
  go_wp2_with fail
  refine (new_right _ _ (by decide) (by decide) rb0 _).mono ?_
  rintro e x0 ⟨rfl, h1, o1⟩
  obtain ⟨B, hB⟩ : ∃ B, w.heap.size = B := ⟨_, rfl⟩
  rw [hB] at h1 ⊢
  have H0 : Hid (Bk x0 B b0 ∧ Only [] w x0) := ⟨h1, o1⟩
  clear h1 o1
  go_wp2_with fail
  refine (new_right _ _ (by decide) (by decide) rc0 _).mono ?_
  rintro e x1 ⟨rfl, h1, o1⟩
  obtain ⟨C, hC⟩ : ∃ C, x0.heap.size = C := ⟨_, rfl⟩
  have BC : B < C := hC ▸ H0.out.1.lt
  have h2 := H0.out.1.only o1 (by simp)
  rw [hC] at h1 ⊢
  have H1 : Hid (Both w x1 B C b0 c0) := ⟨h2, h1, H0.out.2.trans o1⟩
  clear h1 o1 h2 hC H0
  go_wp2_with fail
  refine (known_any _).mono ?_
  rintro e x2 ⟨rfl, o1⟩
  have H2 : Hid (Both w x2 B C b0 c0) := ⟨H1.out.one.only o1 (by simp), H1.out.two.only o1 (by simp), H1.out.only.trans o1⟩
  clear o1 H1
  go_wp2_with fail
  refine (level_any C _ _ H2.out.two).mono ?_
  rintro e w' ⟨rfl, hw⟩
  subst hw
  rw [lc0]
  go_wp2_with fail
  refine (take_any B b0 5 _ H2.out.one).mono ?_
  rintro e x3 ⟨rfl, h1, o1, _⟩
  have H3 : Hid (Both w x3 B C b1 c0) := ⟨h1, H2.out.two.only o1 (by simp; omega), H2.out.only.then o1 (by simp; omega)⟩
  clear h1 o1 H2
  rw [rb1]
  go_wp2_with fail
  refine (take_any B b1 5000000 _ H3.out.one).mono ?_
  rintro e x4 ⟨rfl, h1, o1, _⟩
  have H4 : Hid (Both w x4 B C b2 c0) := ⟨h1, H3.out.two.only o1 (by simp; omega), H3.out.only.then o1 (by simp; omega)⟩
  clear h1 o1 H3
  rw [rb2]
  go_wp2_with fail
  refine (take_any C c0 1 _ H4.out.two).mono ?_
  rintro e x5 ⟨rfl, h1, o1, _⟩
  have H5 : Hid (Both w x5 B C b2 c1) := ⟨H4.out.one.only o1 (by simp; omega), h1, H4.out.only.then o1 (by simp; omega)⟩
  clear h1 o1 H4
  rw [rc1]
  go_wp2_with fail
  refine (take_any C c1 (-7) _ H5.out.two).mono ?_
  rintro e x6 ⟨rfl, h1, o1, _⟩
  have H6 : Hid (Both w x6 B C b2 c2) := ⟨H5.out.one.only o1 (by simp; omega), h1, H5.out.only.then o1 (by simp; omega)⟩
  clear h1 o1 H5
  rw [rc2]
  go_wp2_with (first
    | (go_at_call 12; refine (nan_any _).mono ?_; rintro e w' ⟨rfl, rfl⟩)
    | (go_at_call 13; refine (inf_any _).mono ?_; rintro e w' ⟨rfl, rfl⟩)
    | (go_at_call 11; refine (refused_any _ _ (by decide) (by decide) (by first | exact n1 | exact n2 | exact n3 | exact n4 | exact n5 | exact n6 | exact n7) _).mono ?_; rintro e w' ⟨rfl, rfl⟩))
  refine (level_any C _ _ H6.out.two).mono ?_
  rintro e w' ⟨rfl, hw⟩
  subst hw
  rw [lc2]
  go_wp2_with fail
  go_ret
  exact ⟨rfl, H6.out.only.below (by omega) (by simp)⟩

set_option maxRecDepth 100000 in
theorem lifted (os : Os) (started : os.Started) (H : Type) (enc : TypeId × Value → H) :
    ReturnsInHanded {} Try.checked os 3 .any (Rows.bucketKnownSpec.pre6 enc Try.prog Try.f3 Rows.bucketKnownRow.domain false) (Rows.bucketKnownSpec.post enc Try.prog Try.f3 false true false false) := by
  refine returnsInHanded_of_change (C := Try.checked) own started (by kernel_rfl) Try.func3
    (ChangeSpec.witness6 (enc := enc) (C := Try.checked) false ⟨#[], #[], []⟩ 8 (by kernel_rfl) (by kernel_rfl) (by kernel_rfl) (by kernel_rfl)) ?_
  intro W base args ds gs before hval0 hW hcnd _
  have hval : ∀ (j : Nat) t v, Try.f3.params[j]? = some t → args[j]? = some v → Value.okWide Try.prog W .any base t v := hval0
  have hW' := hW
  obtain ⟨p, q, hA0, hV, rfl, hfz, hnd⟩ := hW
  have hA : DataW.TrodAll enc Try.prog W 0 (fun _ => true) true Try.f3.params.toList args.toList ds p := hA0
  rw [Try.params3] at hA hval
  obtain ⟨rfl, rfl, rfl⟩ := trodAll_none hA
  obtain ⟨rfl, rfl⟩ := trodVars_none hV
  clear hA0 hval0
  refine (walk  W ).mono fun e W' ⟨he, bel⟩ => ?_
  subst he
  exact ⟨_, rfl, _, _, _, [], _, [], hW', trodAll_mk1 (shut_bool Try.underlying4 _), trodAll_mk0, rfl, bel.frame _, fun h => by cases h⟩

theorem over : Rows.bucketKnownRow.holds Try.pinned (OpenSpec.ofChange Rows.bucketKnownSpec) :=
  OpenClaim.holds_of_wide 3 Try.f3 rfl rfl rfl rfl rfl rfl rfl ⟨rfl, rfl, rfl, rfl, rfl⟩ rfl rfl rfl rfl rfl (by kernel_rfl) Try.func3 (by kernel_rfl)
    (of_decide_eq_true (by kernel_rfl)) (by unfold Func.isWrapper; first | (rw [if_pos (by decide +kernel)]; kernel_rfl) | (rw [if_neg (by decide +kernel)]; exact ⟨rfl, rfl⟩))
    (fun os started H enc _ => lifted os started H enc)

/-- THE STATEMENT -/
theorem proved : Rows.BucketKnownSaid := over
end Go.Proofs.Ytdglbllabfpfcaa.bucketKnown

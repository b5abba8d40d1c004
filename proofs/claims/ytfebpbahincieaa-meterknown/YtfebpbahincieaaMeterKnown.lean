/- Proved: MeterKnown, a closed sentence, returns true. No condition. -/
import Derived.Test.YtfebpbahincieaaMetrK
import Derived.Test.YtfebpbahincieaaFrame
namespace Go.Proofs.Ytfebpbahincieaa.meterKnown
open Go.ChangeShapes Go.WideShapes Go.ChangeAt Go.RowKit
open Fl (V nn fin rg sg U)
open Fl.Metr (zero)
set_option linter.unusedVariables false

theorem b_or : bits BinOp.or IntKind.u64 (bits BinOp.andNot IntKind.u64 0 9223372036854775808) (bits BinOp.and IntKind.u64 13830554455654793216 9223372036854775808) = 9223372036854775808 := by decide +kernel
theorem copysign_0 (w : World) :
    Calls Try.prog 13 #[.float .f64 0, .float .f64 13830554455654793216] w fun e w' => e = .returned (.float .f64 9223372036854775808) ∧ w = w' := by
  have h := b_or
  go_enter Try.func13, Try.ntmps13
  go_wp2
  go_ret
  exact ⟨rfl, rfl⟩
theorem nan_any (w : World) : Calls Try.prog 10 #[] w fun e w' => e = .returned (.float .f64 9221120237041090561) ∧ w = w' := by
  go_enter Try.func10, Try.ntmps10
  go_wp2
  go_ret
  exact ⟨rfl, rfl⟩
theorem inf_any (w : World) : Calls Try.prog 11 #[.int .i64 1] w fun e w' => e = .returned (.float .f64 9218868437227405312) ∧ w = w' := by
  go_enter Try.func11, Try.ntmps11
  go_wp2
  go_ret
  exact ⟨rfl, rfl⟩

theorem n1 : ¬ Fl.Metr.sample 9221120237041090561 := by decide +kernel
theorem n2 : ¬ Fl.Metr.sample 9218868437227405312 := by decide +kernel
theorem n3 : ¬ Fl.Metr.sample 13830554455654793216 := by decide +kernel
theorem n4 : ¬ Fl.Metr.sample 4696837155274620928 := by decide +kernel
theorem y1 : Fl.Metr.sample 9223372036854775808 := by decide +kernel
theorem y2 : Fl.Metr.sample 4618441417868443648 := by decide +kernel
theorem y3 : Fl.Metr.sample 4696837146684686336 := by decide +kernel
def m1 : Fl.Metr.S := zero.note 9223372036854775808
def n1s : Fl.Metr.S := zero.note 4618441417868443648
def o1s : Fl.Metr.S := zero.note 4696837146684686336
theorem l0 : zero.lead 3 = 1 := by decide +kernel
theorem c0 : zero.count = 0 := rfl
theorem mm : m1.mean = 0 := by decide +kernel
theorem mc : m1.count = 1 := by decide +kernel
theorem l1 : n1s.lead 1 = 4 := by decide +kernel
theorem l2 : n1s.lead 2 = 3 := by decide +kernel
theorem l3 : n1s.lead 0 = 4 := by decide +kernel
theorem l4 : n1s.lead 99 = 2 := by decide +kernel
theorem l5 : o1s.lead 8 = 16 := by decide +kernel

/-- the three Meters in memory -/
structure Tri (w x : World) (A B C : Nat) (r s t : Fl.Metr.S) : Prop where
  one : Mt x A r
  two : Mt x B s
  three : Mt x C t
  only : Only [] w x
theorem Tri.keep {w x y : World} {A B C : Nat} {r s t : Fl.Metr.S} (h : Tri w x A B C r s t) (o : Only [] x y) : Tri w y A B C r s t :=
  ⟨h.one.only o (by simp), h.two.only o (by simp), h.three.only o (by simp), h.only.trans o⟩

theorem tri_new (w : World) (t : TypeId) : Tri w (((w.alloc (.cells #[.int .i64 0, .float .f64 0, .float .f64 0] t)).alloc (.cells #[.int .i64 0, .float .f64 0, .float .f64 0] t)).alloc (.cells #[.int .i64 0, .float .f64 0, .float .f64 0] t)) w.heap.size (w.heap.size + 1) (w.heap.size + 1 + 1) zero zero zero := by
  obtain ⟨x0, e0⟩ : ∃ x0, x0 = w.alloc (.cells #[.int .i64 0, .float .f64 0, .float .f64 0] t) := ⟨_, rfl⟩
  have s0 : x0.heap.size = w.heap.size + 1 := by rw [e0]; simp
  have M0 : Mt x0 w.heap.size zero := e0 ▸ Mt.new _ _
  have O0 : Only [] w x0 := e0 ▸ (Only.refl _ _).alloc _
  rw [← e0]
  clear e0
  obtain ⟨x1, e1⟩ : ∃ x1, x1 = x0.alloc (.cells #[.int .i64 0, .float .f64 0, .float .f64 0] t) := ⟨_, rfl⟩
  have s1 : x1.heap.size = w.heap.size + 1 + 1 := by rw [e1, ← s0]; simp
  have M1 : Mt x1 (w.heap.size + 1) zero := by rw [← s0]; exact e1 ▸ Mt.new _ _
  have O1 : Only [] x0 x1 := e1 ▸ (Only.refl _ _).alloc _
  rw [← e1]
  clear e1
  have O2 : Only [] x1 (x1.alloc (.cells #[.int .i64 0, .float .f64 0, .float .f64 0] t)) := (Only.refl _ _).alloc _
  refine ⟨(M0.only O1 (by simp)).only O2 (by simp), M1.only O2 (by simp), ?_, (O0.trans O1).trans O2⟩
  rw [← s1]
  exact Mt.new _ _

set_option maxRecDepth 100000 in
set_option maxHeartbeats 4000000 in
theorem walk  (w : World)  :
    Calls Try.prog 3 #[] w fun e w' => e = .returned (.bool true) ∧ Below w.heap.size w w' := by
  have T0 : Hid _ := tri_new w 24
  go_enter Try.func3, Try.ntmps3
  go_wp2_with fail
  obtain ⟨A, hA⟩ : ∃ A, w.heap.size = A := ⟨_, rfl⟩
  obtain ⟨B, hB⟩ : ∃ B, A + 1 = B := ⟨_, rfl⟩
  obtain ⟨C, hC⟩ : ∃ C, B + 1 = C := ⟨_, rfl⟩
  rw [hA, hB, hC] at T0 ⊢
  generalize ((w.alloc (.cells #[.int .i64 0, .float .f64 0, .float .f64 0] 24)).alloc (.cells #[.int .i64 0, .float .f64 0, .float .f64 0] 24)).alloc (.cells #[.int .i64 0, .float .f64 0, .float .f64 0] 24) = x0 at T0 ⊢
  refine (known_any _).mono ?_
  rintro e x1 ⟨rfl, o⟩
  have T1 : Hid _ := T0.out.keep o
  clear o T0
  go_wp2_with fail
  refine (lead_any A _ 3 _ T1.out.one).mono ?_
  rintro e x2 ⟨rfl, o, _⟩
  have T2 : Hid _ := T1.out.keep o
  clear o T1
  rw [l0]
  go_wp2_with (first
    | (go_at_call 10; refine (nan_any _).mono ?_; rintro e w' ⟨rfl, rfl⟩)
    | (go_at_call 11; refine (inf_any _).mono ?_; rintro e w' ⟨rfl, rfl⟩)
    | (go_at_call 9; refine (note_no A _ (by first | exact n1 | exact n2 | exact n3 | exact n4) _).mono ?_; rintro e w' ⟨rfl, rfl⟩))
  refine (count_any A _ _ T2.out.one).mono ?_
  rintro e w' ⟨rfl, hw⟩
  subst hw
  rw [c0]
  go_wp2_with fail
  refine (copysign_0 _).mono ?_
  rintro e w' ⟨rfl, rfl⟩
  go_wp2_with fail
  refine (note_yes A _ _ (by decide) y1 (by decide) _ T2.out.one).mono ?_
  rintro e x3 ⟨rfl, h1, o, _⟩
  have T3 : Hid (Tri w x3 A B C m1 zero zero) := ⟨h1, T2.out.two.only o (by simp; omega), T2.out.three.only o (by simp; omega), T2.out.only.then o (by simp; omega)⟩
  clear h1 o T2
  go_wp2_with fail
  refine (mean_any A _ _ T3.out.one).mono ?_
  rintro e w' ⟨rfl, hw⟩
  subst hw
  rw [mm]
  go_wp2_with fail
  refine (note_yes B _ _ (by decide) y2 (by decide) _ T3.out.two).mono ?_
  rintro e x4 ⟨rfl, h1, o, _⟩
  have T4 : Hid (Tri w x4 A B C m1 n1s zero) := ⟨T3.out.one.only o (by simp; omega), h1, T3.out.three.only o (by simp; omega), T3.out.only.then o (by simp; omega)⟩
  clear h1 o T3
  go_wp2_with fail
  refine (note_yes C _ _ (by decide) y3 (by decide) _ T4.out.three).mono ?_
  rintro e x5 ⟨rfl, h1, o, _⟩
  have T5 : Hid (Tri w x5 A B C m1 n1s o1s) := ⟨T4.out.one.only o (by simp; omega), T4.out.two.only o (by simp; omega), h1, T4.out.only.then o (by simp; omega)⟩
  clear h1 o T4
  go_wp2_with fail
  refine (count_any A _ _ T5.out.one).mono ?_
  rintro e w' ⟨rfl, hw⟩
  subst hw
  rw [mc]
  go_wp2_with fail
  refine (lead_any B _ 1 _ T5.out.two).mono ?_
  rintro e y0 ⟨rfl, o, _⟩
  have T6 : Hid _ := T5.out.keep o
  clear o T5
  rw [l1]
  go_wp2_with fail
  refine (lead_any B _ 2 _ T6.out.two).mono ?_
  rintro e y1 ⟨rfl, o, _⟩
  have T7 : Hid _ := T6.out.keep o
  clear o T6
  rw [l2]
  go_wp2_with fail
  refine (lead_any B _ 0 _ T7.out.two).mono ?_
  rintro e y2 ⟨rfl, o, _⟩
  have T8 : Hid _ := T7.out.keep o
  clear o T7
  rw [l3]
  go_wp2_with fail
  refine (lead_any B _ 99 _ T8.out.two).mono ?_
  rintro e y3 ⟨rfl, o, _⟩
  have T9 : Hid _ := T8.out.keep o
  clear o T8
  rw [l4]
  go_wp2_with fail
  refine (lead_any C _ 8 _ T9.out.three).mono ?_
  rintro e y4 ⟨rfl, o, _⟩
  have T10 : Hid _ := T9.out.keep o
  clear o T9
  rw [l5]
  go_wp2_with fail
  go_ret
  exact ⟨rfl, T10.out.only.below (by omega) (by simp)⟩

set_option maxRecDepth 100000 in
theorem lifted (os : Os) (started : os.Started) (H : Type) (enc : TypeId × Value → H) :
    ReturnsInHanded {} Try.checked os 3 .any (Rows.meterKnownSpec.pre6 enc Try.prog Try.f3 Rows.meterKnownRow.domain false) (Rows.meterKnownSpec.post enc Try.prog Try.f3 false true false false) := by
  refine returnsInHanded_of_change (C := Try.checked) own started (by kernel_rfl) Try.func3
    (ChangeSpec.witness6 (enc := enc) (C := Try.checked) false ⟨#[], #[], []⟩ 8 (by kernel_rfl) (by kernel_rfl) (by kernel_rfl) (by kernel_rfl)) ?_
  intro W base args ds gs before hval0 hW hcnd _
  have hval : ∀ (j : Nat) t v, Try.f3.params[j]? = some t → args[j]? = some v → Value.okWide Try.prog W .any base t v := hval0
  have hW' := hW
  obtain ⟨p, q, hA0, hV, rfl, hfz, hnd⟩ := hW
  have hA : DataW.TrodAll enc Try.prog W 0 (fun _ => true) true Try.f3.params.toList args.toList ds p := hA0
  rw [Try.params3] at hA hval
  obtain ⟨rfl, rfl, rfl⟩ := trodAll_none hA
  obtain ⟨rfl, rfl⟩ := trodVars_none hV
  clear hA0 hval0
  refine (walk  W ).mono fun e W' ⟨he, bel⟩ => ?_
  subst he
  exact ⟨_, rfl, _, _, _, [], _, [], hW', trodAll_mk1 (shut_bool Try.underlying4 _), trodAll_mk0, rfl, bel.frame _, fun h => by cases h⟩

theorem over : Rows.meterKnownRow.holds Try.pinned (OpenSpec.ofChange Rows.meterKnownSpec) :=
  OpenClaim.holds_of_wide 3 Try.f3 rfl rfl rfl rfl rfl rfl rfl ⟨rfl, rfl, rfl, rfl, rfl⟩ rfl rfl rfl rfl rfl (by kernel_rfl) Try.func3 (by kernel_rfl)
    (of_decide_eq_true (by kernel_rfl)) (by unfold Func.isWrapper; first | (rw [if_pos (by decide +kernel)]; kernel_rfl) | (rw [if_neg (by decide +kernel)]; exact ⟨rfl, rfl⟩))
    (fun os started H enc _ => lifted os started H enc)

/-- THE STATEMENT -/
theorem proved : Rows.MeterKnownSaid := over
end Go.Proofs.Ytfebpbahincieaa.meterKnown

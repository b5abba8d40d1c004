/- Proved: StickKnown, a closed sentence, returns true. No condition. -/
import Derived.Test.YtjlmgbbahbdmlaaStickK
namespace Go.Proofs.Ytjlmgbbahbdmlaa.stickKnown
open Go.ChangeShapes Go.WideShapes Go.ChangeAt Go.RowKit
open Fl (V nn fin rg sg U)
set_option linter.unusedVariables false

theorem c1 : (((Fl.cln 9223372036854775808 : Nat) : Int) == 0) = true := by decide +kernel
theorem c2 : (FloatKind.f64.format.order (Fl.cln 9221120237041090561) 0 == some .eq) = true := by decide +kernel
theorem c3 : (FloatKind.f64.format.order (Fl.cln 9218868437227405312) 4607182418800017408 == some .eq) = true := by decide +kernel
theorem c4 : (FloatKind.f64.format.order (Fl.cln 18442240474082181120) 13830554455654793216 == some .eq) = true := by decide +kernel
theorem c5 : (FloatKind.f64.format.order (Fl.cln 4599075939470750515) 4599075939470750515 == some .eq) = true := by decide +kernel
theorem c6 : (Fl.axis 18442240474082181120 4602678819172646912 == -64) = true := by decide +kernel
theorem c7 : (Fl.axis 4611686018427387904 9221120237041090561 == 64) = true := by decide +kernel
theorem c8 : (Fl.axis 4593671619917905920 4593671619917905920 == 0) = true := by decide +kernel
theorem c9 : (Fl.axis 13830554455654793216 4607182418800017408 == 0) = true := by decide +kernel
theorem c10 : (Fl.axis 4607182418800017408 4617315517961601024 == 0) = true := by decide +kernel
theorem c11 : (Fl.axis 4575657221408423936 0 == 0) = true := by decide +kernel
theorem c12 : (Fl.axis 4582412620849479680 0 == 2) = true := by decide +kernel
theorem c13 : (Fl.axis 4602678819172646912 13837309855095848960 == 32) = true := by decide +kernel
theorem c14 : (FloatKind.f64.format.order (Fl.flt 99) 4607182418800017408 == some .eq) = true := by decide +kernel
theorem c15 : (FloatKind.f64.format.order (Fl.flt (-99)) 13830554455654793216 == some .eq) = true := by decide +kernel
theorem c16 : (((Fl.flt 0 : Nat) : Int) == 0) = true := by decide +kernel
theorem c17 : (FloatKind.f64.format.order (Fl.mix 4604930618986332160 4604930618986332160) 4607182418800017408 == some .eq) = true := by decide +kernel
theorem c18 : (FloatKind.f64.format.order (Fl.mix 9221120237041090561 13821547256400052224) 13821547256400052224 == some .eq) = true := by decide +kernel
theorem c19 : (((Fl.mix 4602678819172646912 13826050856027422720 : Nat) : Int) == 0) = true := by decide +kernel

set_option maxHeartbeats 1000000 in
theorem walk   (w : World) :
    Calls Try.prog 3 #[] w fun e w' => e = .returned (.bool true) ∧ Grown w w' := by
  have h1 := c1
  have h2 := c2
  have h3 := c3
  have h4 := c4
  have h5 := c5
  have h6 := c6
  have h7 := c7
  have h8 := c8
  have h9 := c9
  have h10 := c10
  have h11 := c11
  have h12 := c12
  have h13 := c13
  have h14 := c14
  have h15 := c15
  have h16 := c16
  have h17 := c17
  have h18 := c18
  have h19 := c19
  go_enter Try.func3, Try.ntmps3
  go_wp2_with (first
    | (go_at_call 8; refine (copysign_0 _).mono ?_; rintro e w' ⟨rfl, rfl⟩)
    | (go_at_call 9; refine (known_any _).mono ?_; rintro e w' ⟨rfl, rfl⟩)
    | (go_at_call 12; refine (nan_any _).mono ?_; rintro e w' ⟨rfl, rfl⟩)
    | (go_at_call 13; go_in)
    | (go_at_call 11; refine (clean_any _ _).mono ?_; rintro e w' ⟨rfl, rfl⟩)
    | (go_at_call 14; refine (axis_any _ _ (by decide) (by decide) _).mono ?_; rintro e w' ⟨rfl, rfl⟩)
    | (go_at_call 16; refine (mix_any _ _ (by decide) (by decide) _).mono ?_; rintro e w' ⟨rfl, rfl⟩)
    | (go_at_call 15; refine (float_any _ _).mono ?_; rintro e w' ⟨rfl, rfl⟩))
  go_ret
  exact ⟨rfl, Grown.refl _⟩

theorem own : ownKnob Try.prog.godebug = none := by kernel_rfl
set_option maxRecDepth 100000 in
theorem lifted (os : Os) (started : os.Started) (H : Type) (enc : TypeId × Value → H) :
    ReturnsInHanded {} Try.checked os 3 .any (Rows.stickKnownSpec.pre6 enc Try.prog Try.f3 Rows.stickKnownRow.domain false) (Rows.stickKnownSpec.post enc Try.prog Try.f3 false true false false) := by
  refine returnsInHanded_of_change (C := Try.checked) own started (by kernel_rfl) Try.func3
    (ChangeSpec.witness6 (enc := enc) (C := Try.checked) false ⟨#[], #[], []⟩ 8 (by kernel_rfl) (by kernel_rfl) (by kernel_rfl) (by kernel_rfl)) ?_
  intro W base args ds gs before hval0 hW hcnd _
  have hval : ∀ (j : Nat) t v, Try.f3.params[j]? = some t → args[j]? = some v → Value.okWide Try.prog W .any base t v := hval0
  have hW' := hW
  obtain ⟨p, q, hA0, hV, rfl, hfz, hnd⟩ := hW
  have hA : DataW.TrodAll enc Try.prog W 0 (fun _ => true) true Try.f3.params.toList args.toList ds p := hA0
  rw [Try.params3] at hA hval
  obtain ⟨rfl, rfl, rfl⟩ := trodAll_none hA
  obtain ⟨rfl, rfl⟩ := trodVars_none hV
  clear hA0 hval0
  simp only [List.append_nil] at hW'
  refine (walk   W).mono fun e W' ⟨he, hg⟩ => ?_
  subst he
  exact ⟨_, rfl, post_of_same (pa := []) (pv := []) hW' (fun _ _ _ => (trodAll_cons_mk (shut_bool Try.underlying4 _) trodAll_mk0)) (fun sp _ => rfl) (fun _ _ => rfl) rfl
    (hg.frame _) hg.2.1 (ok_one (by kernel_rfl) rfl (okWide_bool_mk Try.underlying4 _))⟩

theorem over : Rows.stickKnownRow.holds Try.pinned (OpenSpec.ofChange Rows.stickKnownSpec) :=
  OpenClaim.holds_of_wide 3 Try.f3 rfl rfl rfl rfl rfl rfl rfl ⟨rfl, rfl, rfl, rfl, rfl⟩ rfl rfl rfl rfl rfl (by kernel_rfl) Try.func3 (by kernel_rfl)
    (of_decide_eq_true (by kernel_rfl)) (by unfold Func.isWrapper; first | (rw [if_pos (by decide +kernel)]; kernel_rfl) | (rw [if_neg (by decide +kernel)]; exact ⟨rfl, rfl⟩))
    (fun os started H enc _ => lifted os started H enc)

/-- THE STATEMENT -/
theorem proved : Rows.StickKnownSaid := over
end Go.Proofs.Ytjlmgbbahbdmlaa.stickKnown

/- Proved: ViewKnown, a closed sentence, returns true. No condition. -/
import Derived.Test.YtpcmeajphfifiaaOrderX
import Derived.Test.YtpcmeajphfifiaaFrame
namespace Go.Proofs.Ytpcmeajphfifiaa.viewKnown
open Go.ChangeShapes Go.WideShapes Go.ChangeAt Go.RowKit
open Fl (V nn fin rg sg U IsOrd)
set_option linter.unusedVariables false

theorem c1 : (((Fl.btw 9223372036854775808 4617315517961601024 9221120237041090561 : Nat) : Int) == 9223372036854775808) = true := by decide +kernel
theorem c2 : (FloatKind.f64.format.order (Fl.btw 4607182418800017408 4617315517961601024 13835058055282163712) 4607182418800017408 == some .eq) = true := by decide +kernel
theorem c3 : (FloatKind.f64.format.order (Fl.btw 4607182418800017408 4617315517961601024 9218868437227405312) 4617315517961601024 == some .eq) = true := by decide +kernel
theorem c4 : (FloatKind.f64.format.order (Fl.btw 9218868437227405312 4617315517961601024 4598175219545276416) 9218868437227405312 == some .eq) = true := by decide +kernel
theorem c5 : (FloatKind.f64.format.order (Fl.btw 9218868437227405312 4617315517961601024 4602678819172646912) 4617315517961601024 == some .eq) = true := by decide +kernel
theorem c6 : (FloatKind.f64.format.order (Fl.btw 4613937818241073152 9221120237041090561 4600877379321698714) 4613937818241073152 == some .eq) = true := by decide +kernel
theorem c7 : Fl.soon 9221120237041090561 9218868437227405312 = true := by decide +kernel
theorem c8 : Fl.soon 9221120237041090561 9221120237041090561 = false := by decide +kernel
theorem c9 : Fl.soon 9218868437227405312 9221120237041090561 = false := by decide +kernel
theorem c10 : Fl.soon 0 9223372036854775808 = true := by decide +kernel
theorem c11 : Fl.soon 9223372036854775808 0 = false := by decide +kernel
theorem c12 : Fl.soon 4607182418800017408 4607182418800017408 = false := by decide +kernel
def d6 : List Nat := [9223372036854775808, 0, 4607182418800017408, 0, 9223372036854775808, 9221120237041090561]
theorem ord6 : IsOrd d6 [5, 2, 1, 3, 0, 4] := ⟨by decide, by decide +kernel⟩
theorem lt6 : ∀ k, d6.getD k 0 < 2 ^ 64
  | 0 => by decide
  | 1 => by decide
  | 2 => by decide
  | 3 => by decide
  | 4 => by decide
  | 5 => by decide
  | k + 6 => by show (0 : Nat) < _; decide

set_option maxHeartbeats 8000000 in
set_option maxRecDepth 100000 in
theorem walk  (w : World)  :
    Calls Try.prog 3 #[] w fun e w' => e = .returned (.bool true) ∧ Below w.heap.size w w' := by
  have h1 := c1
  have h2 := c2
  have h3 := c3
  have h4 := c4
  have h5 := c5
  have h6 := c6
  have h7 := c7
  have h8 := c8
  have h9 := c9
  have h10 := c10
  have h11 := c11
  have h12 := c12
  go_enter Try.func3, Try.ntmps3
  go_wp2_with (first
    | (go_at_call 10; refine (copysign_0 _).mono ?_; rintro e w' ⟨rfl, rfl⟩)
    | (go_at_call 11; go_in))
  refine (known_any _).mono ?_
  rintro e w1 ⟨rfl, hb⟩
  have HB : Aside (Below w.heap.size w w1) := hb
  clear hb
  go_wp2_with (first
    | (go_at_call 15; go_in)
    | (go_at_call 14; refine (between_any _ _ _ (by decide) (by decide) _).mono ?_; rintro e w' ⟨rfl, rfl⟩)
    | (go_at_call 16; refine (sooner_any _ _ (by decide) (by decide) _).mono ?_; rintro e w' ⟨rfl, rfl⟩))
  refine (order_any _ d6 _ (frow_lit w1 _ _ d6 (by decide) 6 rfl) (by decide) lt6).mono ?_
  rintro e w2 ⟨o, v, ho, rfl, hp, hb⟩
  obtain rfl := ho.unique ord6
  have HP : Aside (PRow _ w2 v [5, 2, 1, 3, 0, 4]) := hp
  have HB2 : Aside _ := hb
  have hv : ∃ g cap, v = .slice (some ⟨g, 0, none⟩) 6 cap := by obtain ⟨g, cap, h, _⟩ := hp; exact ⟨g, cap, h⟩
  obtain ⟨g, cap, rfl⟩ := hv
  clear hp hb ho
  go_wp2_with fail
  refine (same_any _ _ [5, 2, 1, 3, 0, 4] (by decide) _ (PRow.alloc HP.out _).n (nrow_lit w2 _ _ [5, 2, 1, 3, 0, 4] 6 rfl)).mono ?_
  rintro e w3 ⟨rfl, q, rfl⟩
  go_wp2_with fail
  refine (order_0 _ _ _).mono ?_
  rintro e w4 ⟨v, rfl, hp, hb⟩
  have HB3 : Aside _ := hb
  have hv : ∃ g cap, v = .slice (some ⟨g, 0, none⟩) 0 cap := by obtain ⟨g, cap, h, _⟩ := hp; exact ⟨g, cap, h⟩
  obtain ⟨g4, cap4, rfl⟩ := hv
  clear hp hb
  go_wp2
  go_ret
  refine ⟨rfl, ?_⟩
  have b1 := below_step (below_alloc HB.out _) HB2.out
  exact below_step (below_drewN (below_alloc b1 _) _) HB3.out

set_option maxRecDepth 100000 in
theorem lifted (os : Os) (started : os.Started) (H : Type) (enc : TypeId × Value → H) :
    ReturnsInHanded {} Try.checked os 3 .any (Rows.viewKnownSpec.pre6 enc Try.prog Try.f3 Rows.viewKnownRow.domain false) (Rows.viewKnownSpec.post enc Try.prog Try.f3 false true false false) := by
  refine returnsInHanded_of_change (C := Try.checked) own started (by kernel_rfl) Try.func3
    (ChangeSpec.witness6 (enc := enc) (C := Try.checked) false ⟨#[], #[], []⟩ 8 (by kernel_rfl) (by kernel_rfl) (by kernel_rfl) (by kernel_rfl)) ?_
  intro W base args ds gs before hval0 hW hcnd _
  have hval : ∀ (j : Nat) t v, Try.f3.params[j]? = some t → args[j]? = some v → Value.okWide Try.prog W .any base t v := hval0
  have hW' := hW
  obtain ⟨p, q, hA0, hV, rfl, hfz, hnd⟩ := hW
  have hA : DataW.TrodAll enc Try.prog W 0 (fun _ => true) true Try.f3.params.toList args.toList ds p := hA0
  rw [Try.params3] at hA hval
  obtain ⟨rfl, rfl, rfl⟩ := trodAll_none hA
  obtain ⟨rfl, rfl⟩ := trodVars_none hV
  clear hA0 hval0
  refine (walk  W ).mono fun e W' ⟨he, bel⟩ => ?_
  subst he
  exact ⟨_, rfl, _, _, _, [], _, [], hW', trodAll_mk1 (shut_bool Try.underlying4 _), trodAll_mk0, rfl, bel.frame _, fun h => by cases h⟩

theorem over : Rows.viewKnownRow.holds Try.pinned (OpenSpec.ofChange Rows.viewKnownSpec) :=
  OpenClaim.holds_of_wide 3 Try.f3 rfl rfl rfl rfl rfl rfl rfl ⟨rfl, rfl, rfl, rfl, rfl⟩ rfl rfl rfl rfl rfl (by kernel_rfl) Try.func3 (by kernel_rfl)
    (of_decide_eq_true (by kernel_rfl)) (by unfold Func.isWrapper; first | (rw [if_pos (by decide +kernel)]; kernel_rfl) | (rw [if_neg (by decide +kernel)]; exact ⟨rfl, rfl⟩))
    (fun os started H enc _ => lifted os started H enc)

/-- THE STATEMENT -/
theorem proved : Rows.ViewKnownSaid := over
end Go.Proofs.Ytpcmeajphfifiaa.viewKnown

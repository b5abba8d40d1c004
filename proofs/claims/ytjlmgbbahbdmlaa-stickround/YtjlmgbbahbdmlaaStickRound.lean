/- Proved: StickRound returns true for every input. No condition. -/
import Derived.Test.YtjlmgbbahbdmlaaStickK
import Derived.Test.YtjlmgbbahbdmlaaStickM
namespace Go.Proofs.Ytjlmgbbahbdmlaa.stickRound
open Go.ChangeShapes Go.WideShapes Go.ChangeAt Go.RowKit
open Fl (V nn fin rg sg U)
set_option linter.unusedVariables false

theorem lt_of_wf {x : Nat} (h : (Lit.float .f64 x).wf = true) : x < 18446744073709551616 := by
  simpa [Lit.wf] using h

theorem o_ge_t {x y : Nat} (hx : nn x) (hy : nn y) (h : V y ≤ V x) : (FloatKind.f64.format.order x y == some .gt || FloatKind.f64.format.order x y == some .eq) = true := by
  rw [o_gt hx hy, o_eq hx hy]
  rcases Int.lt_or_eq_of_le h with h | h
  · rw [decide_eq_true h]; rfl
  · rw [decide_eq_true h.symm, Bool.or_true]

set_option maxHeartbeats 1000000 in
theorem walk (a0 : Int) (a1 : Nat) (w0 : (Lit.int .i64 a0).wf = true) (w1 : (Lit.float .f64 a1).wf = true) (w : World) :
    Calls Try.prog 7 #[.int .i64 a0, .float .f64 a1] w fun e w' => e = .returned (.bool true) ∧ Grown w w' := by
  have l1 := lt_of_wf w1
  clear w0 w1
  go_enter Try.func7, Try.ntmps7
  go_wp2_with (go_at_call 9; refine (known_any _).mono ?_; rintro e w' ⟨rfl, rfl⟩)
  refine (handf_any _ _ l1 _).mono ?_
  rintro e w' ⟨y, ly, rfl, rfl⟩
  clear l1
  obtain ⟨g1, g2, g3, g4, g5⟩ := Fl.cln_spec ly
  obtain ⟨r, er, nr, b1, b2⟩ := Fl.back_near ly
  have k1 := fun w => run_float_arith (P := Try.prog) w .sub 22 .f64 _ _ _ er
  have t1 : (FloatKind.f64.format.order r 4575657221408423936 == some .lt || FloatKind.f64.format.order r 4575657221408423936 == some .eq) = true := o_le_t nr Fl.fin_c128.nn b1
  have t2 : (FloatKind.f64.format.order r 13799029258263199744 == some .gt || FloatKind.f64.format.order r 13799029258263199744 == some .eq) = true := o_ge_t nr Fl.fin_cm128.nn b2
  clear er nr b1 b2 g1 g3 g4 g5 ly
  go_wp2_with (first
    | (go_at_call 11; refine (clean_any _ _).mono ?_; rintro e w' ⟨rfl, rfl⟩)
    | (go_at_call 14; refine (axis_any _ _ g2 (by decide) _).mono ?_; rintro e w' ⟨rfl, rfl⟩)
    | (go_at_call 15; refine (float_any _ _).mono ?_; rintro e w' ⟨rfl, rfl⟩))
  go_ret
  exact ⟨rfl, Grown.refl _⟩

theorem own : ownKnob Try.prog.godebug = none := by kernel_rfl
set_option maxRecDepth 100000 in
theorem lifted (os : Os) (started : os.Started) (H : Type) (enc : TypeId × Value → H) :
    ReturnsInHanded {} Try.checked os 7 .any (Rows.stickRoundSpec.pre6 enc Try.prog Try.f7 Rows.stickRoundRow.domain false) (Rows.stickRoundSpec.post enc Try.prog Try.f7 false true false false) := by
  refine returnsInHanded_of_change (C := Try.checked) own started (by kernel_rfl) Try.func7
    (ChangeSpec.witness6 (enc := enc) (C := Try.checked) false ⟨#[], #[.int .i64 0, .float .f64 0], []⟩ 8 (by kernel_rfl) (by kernel_rfl) (by kernel_rfl) (by kernel_rfl)) ?_
  intro W base args ds gs before hval0 hW hcnd _
  have hval : ∀ (j : Nat) t v, Try.f7.params[j]? = some t → args[j]? = some v → Value.okWide Try.prog W .any base t v := hval0
  have hW' := hW
  obtain ⟨p, q, hA0, hV, rfl, hfz, hnd⟩ := hW
  have hA : DataW.TrodAll enc Try.prog W 0 (fun _ => true) true Try.f7.params.toList args.toList ds p := hA0
  rw [Try.params7] at hA hval
  obtain ⟨v0, vs0, d0, ds0, p0, q0, hargs, rfl, rfl, h0, r0⟩ := trodAll_cons hA
  obtain ⟨v1, vs1, d1, ds1, p1, q1, rfl, rfl, rfl, h1, r1⟩ := trodAll_cons r0
  obtain ⟨rfl, rfl, rfl⟩ := trodAll_nil r1
  obtain rfl : args = #[v0, v1] := by cases args; simp_all
  obtain ⟨rfl, rfl⟩ := trodVars_none hV
  obtain ⟨a0, rfl, rfl, rfl, w0⟩ := open_int Try.underlying3 (hval 0 3 v0 rfl rfl) h0
  obtain ⟨a1, rfl, rfl, rfl, w1⟩ := open_float Try.underlying22 (hval 1 22 v1 rfl rfl) h1
  clear hA0 hval0
  simp only [List.append_nil] at hW'
  refine (walk a0 a1 w0 w1 W).mono fun e W' ⟨he, hg⟩ => ?_
  subst he
  exact ⟨_, rfl, post_of_same (pa := []) (pv := []) hW' (fun _ _ _ => (trodAll_cons_mk (shut_bool Try.underlying4 _) trodAll_mk0)) (fun sp _ => (trodAll_cons_mk (shut_int Try.underlying3 w0) (trodAll_cons_mk (shut_float Try.underlying22 w1) trodAll_mk0))) (fun _ _ => rfl) rfl
    (hg.frame _) hg.2.1 (ok_one (by kernel_rfl) rfl (okWide_bool_mk Try.underlying4 _))⟩

theorem over : Rows.stickRoundRow.holds Try.pinned (OpenSpec.ofChange Rows.stickRoundSpec) :=
  OpenClaim.holds_of_wide 7 Try.f7 rfl rfl rfl rfl rfl rfl rfl ⟨rfl, rfl, rfl, rfl, rfl⟩ rfl rfl rfl rfl rfl (by kernel_rfl) Try.func7 (by kernel_rfl)
    (of_decide_eq_true (by kernel_rfl)) (by unfold Func.isWrapper; first | (rw [if_pos (by decide +kernel)]; kernel_rfl) | (rw [if_neg (by decide +kernel)]; exact ⟨rfl, rfl⟩))
    (fun os started H enc _ => lifted os started H enc)

/-- THE STATEMENT -/
theorem proved : Rows.StickRoundSaid := over
end Go.Proofs.Ytjlmgbbahbdmlaa.stickRound

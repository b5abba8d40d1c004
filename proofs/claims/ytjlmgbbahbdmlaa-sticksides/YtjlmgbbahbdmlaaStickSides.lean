/- Proved: StickSides returns true for every input. No condition. -/
import Derived.Test.YtjlmgbbahbdmlaaStickK
import Derived.Test.YtjlmgbbahbdmlaaStickM
namespace Go.Proofs.Ytjlmgbbahbdmlaa.stickSides
open Go.ChangeShapes Go.WideShapes Go.ChangeAt Go.RowKit
open Fl (V nn fin rg sg U)
set_option linter.unusedVariables false

theorem lt_of_wf {x : Nat} (h : (Lit.float .f64 x).wf = true) : x < 18446744073709551616 := by
  simpa [Lit.wf] using h

theorem hneg (b : Nat) (w : World) : (Op.unary .neg (.float .f64 b)).run Try.prog w = .ok (.float .f64 (Op.negFloat .f64 b)) w := rfl

theorem le_axis {y z d : Nat} (hy : y < 2 ^ 64) (hz : z < 2 ^ 64) (hd : d < 2 ^ 64) (h : (FloatKind.f64.format.order y z == some .lt || FloatKind.f64.format.order y z == some .eq) = true) : Fl.axis y d ≤ Fl.axis z d := by
  by_cases ny : nn y
  · by_cases nz : nn z
    · refine Fl.axis_mono hy hz hd ny nz ?_
      rcases Int.lt_or_le (V z) (V y) with hl | hl
      · rw [o_le_f ny nz hl] at h; cases h
      · exact hl
    · rw [d_fmt, Fl.order_nan_right _ nz] at h; cases h
  · rw [d_fmt, Fl.order_nan_left _ ny] at h; cases h

theorem mix_nn {y z : Nat} (hy : y < 2 ^ 64) (hz : z < 2 ^ 64) : (FloatKind.f64.format.order (Fl.mix y z) (Fl.mix z y) == some .eq) = true := by
  have h := (Fl.cln_spec (Fl.mix_add hy hz).2).1
  have e : fin (Fl.mix y z) := h
  rw [Fl.mix_comm z y, o_eq e.nn e.nn]; simp

set_option maxHeartbeats 2000000 in
theorem walk (a0 : Int) (a1 : Int) (a2 : Int) (a3 : Nat) (a4 : Nat) (a5 : Nat) (a6 : Int) (w0 : (Lit.int .i64 a0).wf = true) (w1 : (Lit.int .i64 a1).wf = true) (w2 : (Lit.int .i64 a2).wf = true) (w3 : (Lit.float .f64 a3).wf = true) (w4 : (Lit.float .f64 a4).wf = true) (w5 : (Lit.float .f64 a5).wf = true) (w6 : (Lit.int .i64 a6).wf = true) (w : World) :
    Calls Try.prog 5 #[.int .i64 a0, .int .i64 a1, .int .i64 a2, .float .f64 a3, .float .f64 a4, .float .f64 a5, .int .i64 a6] w fun e w' => e = .returned (.bool true) ∧ Grown w w' := by
  have l3 := lt_of_wf w3
  have l4 := lt_of_wf w4
  have l5 := lt_of_wf w5
  clear w0 w1 w2 w3 w4 w5 w6
  go_enter Try.func5, Try.ntmps5
  go_wp2_with fail
  refine (handf_any _ _ l3 _).mono ?_
  rintro e w' ⟨y, ly, rfl, rfl⟩
  go_wp2_with fail
  refine (handf_any _ _ l4 _).mono ?_
  rintro e w' ⟨z, lz, rfl, rfl⟩
  go_wp2_with fail
  refine (handf_any _ _ l5 _).mono ?_
  rintro e w' ⟨d, ld, rfl, rfl⟩
  clear l3 l4 l5
  have hn := hneg
  have en : Fl.axis (Op.negFloat .f64 y) d = -Fl.axis y d := Fl.axis_neg ly ld
  have ln : Op.negFloat .f64 y < 2 ^ 64 := Fl.neg_lt ly
  have b1 := (Fl.axis_b ly ld).1
  have b2 := (Fl.axis_b ly ld).2
  have b3 := (Fl.axis_b lz ld).1
  have b4 := (Fl.axis_b lz ld).2
  have b5 := (Fl.axis_prod ly lz lz).1
  have b6 := (Fl.axis_prod ly lz lz).2
  have b7 := (Fl.axis_prod ly (show 0 < 2 ^ 64 by decide) lz).1
  have b8 := (Fl.axis_prod ly (show 0 < 2 ^ 64 by decide) lz).2
  have p1 : 0 ≤ a6 % 129 := Int.emod_nonneg _ (by decide)
  have p2 : a6 % 129 < 129 := Int.emod_lt_of_pos _ (by decide)
  obtain ⟨e1, e2⟩ := Fl.axis_flt' (a6 % 129 - 64) (by omega) (by omega)
  have e3 := mix_nn ly lz
  have hc := Fl.cln_spec ly
  have e4 : (FloatKind.f64.format.order (Fl.cln (Fl.cln y)) (Fl.cln y) == some .eq) = true := by
    rw [Fl.cln_cln ly, o_eq hc.1.nn hc.1.nn]; simp
  clear hc
  cases hpq : (FloatKind.f64.format.order y z == some .lt || FloatKind.f64.format.order y z == some .eq)
  · go_wp2_with (first
      | (go_at_call 9; refine (known_any _).mono ?_; rintro e w' ⟨rfl, rfl⟩)
      | (go_at_call 11; refine (clean_any _ _).mono ?_; rintro e w' ⟨rfl, rfl⟩)
      | (go_at_call 22; refine (pick_any _ _ (by omega) (by omega) _).mono ?_; rintro e w' ⟨rfl, rfl⟩)
      | (go_at_call 14; refine (axis_any _ _ (by first | assumption | decide) (by first | assumption | decide) _).mono ?_; rintro e w' ⟨rfl, rfl⟩)
      | (go_at_call 16; refine (mix_any _ _ (by assumption) (by assumption) _).mono ?_; rintro e w' ⟨rfl, rfl⟩)
      | (go_at_call 15; refine (float_any _ _).mono ?_; rintro e w' ⟨rfl, rfl⟩))
    go_ret
    exact ⟨rfl, Grown.refl _⟩
  · have b9 := le_axis ly lz ld hpq
    go_wp2_with (first
      | (go_at_call 9; refine (known_any _).mono ?_; rintro e w' ⟨rfl, rfl⟩)
      | (go_at_call 11; refine (clean_any _ _).mono ?_; rintro e w' ⟨rfl, rfl⟩)
      | (go_at_call 22; refine (pick_any _ _ (by omega) (by omega) _).mono ?_; rintro e w' ⟨rfl, rfl⟩)
      | (go_at_call 14; refine (axis_any _ _ (by first | assumption | decide) (by first | assumption | decide) _).mono ?_; rintro e w' ⟨rfl, rfl⟩)
      | (go_at_call 16; refine (mix_any _ _ (by assumption) (by assumption) _).mono ?_; rintro e w' ⟨rfl, rfl⟩)
      | (go_at_call 15; refine (float_any _ _).mono ?_; rintro e w' ⟨rfl, rfl⟩))
    go_ret
    exact ⟨rfl, Grown.refl _⟩

theorem own : ownKnob Try.prog.godebug = none := by kernel_rfl
set_option maxRecDepth 100000 in
theorem lifted (os : Os) (started : os.Started) (H : Type) (enc : TypeId × Value → H) :
    ReturnsInHanded {} Try.checked os 5 .any (Rows.stickSidesSpec.pre6 enc Try.prog Try.f5 Rows.stickSidesRow.domain false) (Rows.stickSidesSpec.post enc Try.prog Try.f5 false true false false) := by
  refine returnsInHanded_of_change (C := Try.checked) own started (by kernel_rfl) Try.func5
    (ChangeSpec.witness6 (enc := enc) (C := Try.checked) false ⟨#[], #[.int .i64 0, .int .i64 0, .int .i64 0, .float .f64 0, .float .f64 0, .float .f64 0, .int .i64 0], []⟩ 8 (by kernel_rfl) (by kernel_rfl) (by kernel_rfl) (by kernel_rfl)) ?_
  intro W base args ds gs before hval0 hW hcnd _
  have hval : ∀ (j : Nat) t v, Try.f5.params[j]? = some t → args[j]? = some v → Value.okWide Try.prog W .any base t v := hval0
  have hW' := hW
  obtain ⟨p, q, hA0, hV, rfl, hfz, hnd⟩ := hW
  have hA : DataW.TrodAll enc Try.prog W 0 (fun _ => true) true Try.f5.params.toList args.toList ds p := hA0
  rw [Try.params5] at hA hval
  obtain ⟨v0, vs0, d0, ds0, p0, q0, hargs, rfl, rfl, h0, r0⟩ := trodAll_cons hA
  obtain ⟨v1, vs1, d1, ds1, p1, q1, rfl, rfl, rfl, h1, r1⟩ := trodAll_cons r0
  obtain ⟨v2, vs2, d2, ds2, p2, q2, rfl, rfl, rfl, h2, r2⟩ := trodAll_cons r1
  obtain ⟨v3, vs3, d3, ds3, p3, q3, rfl, rfl, rfl, h3, r3⟩ := trodAll_cons r2
  obtain ⟨v4, vs4, d4, ds4, p4, q4, rfl, rfl, rfl, h4, r4⟩ := trodAll_cons r3
  obtain ⟨v5, vs5, d5, ds5, p5, q5, rfl, rfl, rfl, h5, r5⟩ := trodAll_cons r4
  obtain ⟨v6, vs6, d6, ds6, p6, q6, rfl, rfl, rfl, h6, r6⟩ := trodAll_cons r5
  obtain ⟨rfl, rfl, rfl⟩ := trodAll_nil r6
  obtain rfl : args = #[v0, v1, v2, v3, v4, v5, v6] := by cases args; simp_all
  obtain ⟨rfl, rfl⟩ := trodVars_none hV
  obtain ⟨a0, rfl, rfl, rfl, w0⟩ := open_int Try.underlying3 (hval 0 3 v0 rfl rfl) h0
  obtain ⟨a1, rfl, rfl, rfl, w1⟩ := open_int Try.underlying3 (hval 1 3 v1 rfl rfl) h1
  obtain ⟨a2, rfl, rfl, rfl, w2⟩ := open_int Try.underlying3 (hval 2 3 v2 rfl rfl) h2
  obtain ⟨a3, rfl, rfl, rfl, w3⟩ := open_float Try.underlying22 (hval 3 22 v3 rfl rfl) h3
  obtain ⟨a4, rfl, rfl, rfl, w4⟩ := open_float Try.underlying22 (hval 4 22 v4 rfl rfl) h4
  obtain ⟨a5, rfl, rfl, rfl, w5⟩ := open_float Try.underlying22 (hval 5 22 v5 rfl rfl) h5
  obtain ⟨a6, rfl, rfl, rfl, w6⟩ := open_int Try.underlying3 (hval 6 3 v6 rfl rfl) h6
  clear hA0 hval0
  simp only [List.append_nil] at hW'
  refine (walk a0 a1 a2 a3 a4 a5 a6 w0 w1 w2 w3 w4 w5 w6 W).mono fun e W' ⟨he, hg⟩ => ?_
  subst he
  exact ⟨_, rfl, post_of_same (pa := []) (pv := []) hW' (fun _ _ _ => (trodAll_cons_mk (shut_bool Try.underlying4 _) trodAll_mk0)) (fun sp _ => (trodAll_cons_mk (shut_int Try.underlying3 w0) (trodAll_cons_mk (shut_int Try.underlying3 w1) (trodAll_cons_mk (shut_int Try.underlying3 w2) (trodAll_cons_mk (shut_float Try.underlying22 w3) (trodAll_cons_mk (shut_float Try.underlying22 w4) (trodAll_cons_mk (shut_float Try.underlying22 w5) (trodAll_cons_mk (shut_int Try.underlying3 w6) trodAll_mk0)))))))) (fun _ _ => rfl) rfl
    (hg.frame _) hg.2.1 (ok_one (by kernel_rfl) rfl (okWide_bool_mk Try.underlying4 _))⟩

theorem over : Rows.stickSidesRow.holds Try.pinned (OpenSpec.ofChange Rows.stickSidesSpec) :=
  OpenClaim.holds_of_wide 5 Try.f5 rfl rfl rfl rfl rfl rfl rfl ⟨rfl, rfl, rfl, rfl, rfl⟩ rfl rfl rfl rfl rfl (by kernel_rfl) Try.func5 (by kernel_rfl)
    (of_decide_eq_true (by kernel_rfl)) (by unfold Func.isWrapper; first | (rw [if_pos (by decide +kernel)]; kernel_rfl) | (rw [if_neg (by decide +kernel)]; exact ⟨rfl, rfl⟩))
    (fun os started H enc _ => lifted os started H enc)

/-- THE STATEMENT -/
theorem proved : Rows.StickSidesSaid := over
end Go.Proofs.Ytjlmgbbahbdmlaa.stickSides

/- Proved: StickDead returns true for every input. No condition. -/
import Derived.Test.YtjlmgbbahbdmlaaStickK
import Derived.Test.YtjlmgbbahbdmlaaStickM
namespace Go.Proofs.Ytjlmgbbahbdmlaa.stickDead
open Go.ChangeShapes Go.WideShapes Go.ChangeAt Go.RowKit
open Fl (V nn fin rg sg U)
set_option linter.unusedVariables false

theorem lt_of_wf {x : Nat} (h : (Lit.float .f64 x).wf = true) : x < 18446744073709551616 := by
  simpa [Lit.wf] using h

theorem o_ge_t {x y : Nat} (hx : nn x) (hy : nn y) (h : V y ≤ V x) : (FloatKind.f64.format.order x y == some .gt || FloatKind.f64.format.order x y == some .eq) = true := by
  rw [o_gt hx hy, o_eq hx hy]
  rcases Int.lt_or_eq_of_le h with h | h
  · rw [decide_eq_true h]; rfl
  · rw [decide_eq_true h.symm, Bool.or_true]
theorem o_ge_f {x y : Nat} (hx : nn x) (hy : nn y) (h : V x < V y) : (FloatKind.f64.format.order x y == some .gt || FloatKind.f64.format.order x y == some .eq) = false := by
  rw [o_gt hx hy, o_eq hx hy, decide_eq_false (by omega), decide_eq_false (by omega)]; rfl
theorem o_ne {x y : Nat} (hx : nn x) (hy : nn y) : (FloatKind.f64.format.order x y != some .eq) = decide (V x ≠ V y) := by
  have := o_eq hx hy
  unfold bne; rw [this]; simp

/-- the rest of the law, behind its two numbers P and D: both cleaned, D not below 0 -/
structure Rest (P D : Nat) : Prop where
  p : P < 18446744073709551616
  d : D < 18446744073709551616
  fp : fin P
  fd : fin D
  cp : Fl.cln P = P
  zd : Fl.dz D = D
  p1 : -(U : Int) ≤ V P
  p2 : V P ≤ (U : Int)
  d0 : 0 ≤ V D
  d1 : V D ≤ (U : Int)

theorem rest_of {y z : Nat} (hy : y < 2 ^ 64) (hz : z < 2 ^ 64) : Rest (Fl.cln y) (Fl.dz z) := by
  obtain ⟨h1, h2, h3, h4, h5⟩ := Fl.cln_spec hy
  obtain ⟨g1, g2, g3, g4, g5⟩ := Fl.dz_spec hz
  exact ⟨h2, g2, h1, g1, Fl.cln_cln hy, Fl.dz_dz hz, h3, h4, g3, g4⟩

theorem hneg (b : Nat) (w : World) : (Op.unary .neg (.float .f64 b)).run Try.prog w = .ok (.float .f64 (Op.negFloat .f64 b)) w := rfl

/-- the tests' answers, by where P stands to D -/
theorem still {P D : Nat} (h : Rest P D) (a : V P ≤ V D) (b : -V D ≤ V P) :
    (FloatKind.f64.format.order P D == some .lt || FloatKind.f64.format.order P D == some .eq) = true ∧
    (FloatKind.f64.format.order P (Op.negFloat .f64 D) == some .gt || FloatKind.f64.format.order P (Op.negFloat .f64 D) == some .eq) = true ∧ Fl.axis P D = 0 := by
  refine ⟨o_le_t h.fp.nn h.fd.nn a, ?_, Fl.axis_dead h.p (by rw [h.cp, h.zd]; exact a) (by rw [h.cp, h.zd]; exact b)⟩
  have e : Op.negFloat .f64 D = Fl.neg D := rfl
  rw [e]
  exact o_ge_t h.fp.nn (Fl.nn_neg.2 h.fd.nn) (by rw [Fl.V_neg h.d]; exact b)
theorem above {P D : Nat} (h : Rest P D) (a : V D < V P) : (FloatKind.f64.format.order P D == some .lt || FloatKind.f64.format.order P D == some .eq) = false := o_le_f h.fp.nn h.fd.nn a
theorem below {P D : Nat} (h : Rest P D) (a : V P < -V D) :
    (FloatKind.f64.format.order P D == some .lt || FloatKind.f64.format.order P D == some .eq) = true ∧
    (FloatKind.f64.format.order P (Op.negFloat .f64 D) == some .gt || FloatKind.f64.format.order P (Op.negFloat .f64 D) == some .eq) = false := by
  refine ⟨o_le_t h.fp.nn h.fd.nn (by have := h.d0; omega), ?_⟩
  have e : Op.negFloat .f64 D = Fl.neg D := rfl
  rw [e]
  exact o_ge_f h.fp.nn (Fl.nn_neg.2 h.fd.nn) (by rw [Fl.V_neg h.d]; exact a)

set_option maxHeartbeats 2000000 in
theorem walk (a0 : Int) (a1 : Int) (a2 : Nat) (a3 : Nat) (w0 : (Lit.int .i64 a0).wf = true) (w1 : (Lit.int .i64 a1).wf = true) (w2 : (Lit.float .f64 a2).wf = true) (w3 : (Lit.float .f64 a3).wf = true) (w : World) :
    Calls Try.prog 6 #[.int .i64 a0, .int .i64 a1, .float .f64 a2, .float .f64 a3] w fun e w' => e = .returned (.bool true) ∧ Grown w w' := by
  have l2 := lt_of_wf w2
  have l3 := lt_of_wf w3
  clear w0 w1 w2 w3
  go_enter Try.func6, Try.ntmps6
  go_wp2_with (go_at_call 9; refine (known_any _).mono ?_; rintro e w' ⟨rfl, rfl⟩)
  refine (handf_any _ _ l2 _).mono ?_
  rintro e w' ⟨y, ly, rfl, rfl⟩
  go_wp2_with (go_at_call 11; refine (clean_any _ _).mono ?_; rintro e w' ⟨rfl, rfl⟩)
  refine (handf_any _ _ l3 _).mono ?_
  rintro e w' ⟨z, lz, rfl, rfl⟩
  clear l2 l3
  have R := rest_of ly lz
  obtain ⟨g1, g2, g3, g4, g5⟩ := Fl.cln_spec lz
  have hn := hneg
  -- d, 0 in the place of one below 0
  by_cases hd : V (Fl.cln z) < 0
  · have t1 : (FloatKind.f64.format.order (Fl.cln z) 0 == some .lt) = true := by rw [o_lt g1.nn nn_c0, Fl.V_0]; exact decide_eq_true hd
    have hz : Fl.dz z = 0 := by unfold Fl.dz; rw [if_pos hd]
    rw [hz] at R
    clear g1 g2 g3 g4 g5 hd hz ly
    generalize Fl.cln y = P at *
    have q1 := R.p1
    have q2 := R.p2
    have q3 := R.d0
    have q4 := R.d1
    have hU := Fl.Upos
    have np := R.fp.nn
    have nd := R.fd.nn
    have lp := R.p
    have ld := R.d
    have cp := R.cp
    have zd := R.zd
    have zp := R.fp
    have sd := Fl.axis_side lp ld
    rcases (show (V P ≤ V 0 ∧ -V 0 ≤ V P) ∨ (V 0 < V P ∧ V P = (U : Int)) ∨ (V 0 < V P ∧ V P < (U : Int)) ∨ (V P < -V 0 ∧ V P = -(U : Int)) ∨ (V P < -V 0 ∧ -(U : Int) < V P) by omega) with h | h | h | h | h
    · obtain ⟨t2, t3, t4⟩ := still R h.1 h.2
      clear R h q1 q2 q3 q4 hU np nd zp zd cp sd
      go_wp2_with (first
        | (go_at_call 11; refine (clean_any _ _).mono ?_; rintro e w' ⟨rfl, rfl⟩)
        | (go_at_call 14; refine (axis_any _ _ lp ld _).mono ?_; rintro e w' ⟨rfl, rfl⟩))
      go_ret
      exact ⟨rfl, Grown.refl _⟩
    · have t2 := above R h.1
      have t4 : Fl.axis P 0 = 64 := Fl.axis_top lp (by rw [zd]; omega) (by rw [cp]; exact h.2)
      have t5 : (FloatKind.f64.format.order P 4607182418800017408 != some .eq) = false := by rw [o_ne np nn_c1, V_c1]; exact decide_eq_false (by omega)
      have t6 : (FloatKind.f64.format.order P 13830554455654793216 != some .eq) = true := by rw [o_ne np nn_cm, V_cm]; exact decide_eq_true (by omega)
      have t7 : (FloatKind.f64.format.order P 0 == some .gt) = true := by rw [o_gt np nn_c0, Fl.V_0]; exact decide_eq_true (by omega)
      clear R h q1 q2 q3 q4 hU np nd zp zd cp sd
      go_wp2_with (first
        | (go_at_call 11; refine (clean_any _ _).mono ?_; rintro e w' ⟨rfl, rfl⟩)
        | (go_at_call 14; refine (axis_any _ _ lp ld _).mono ?_; rintro e w' ⟨rfl, rfl⟩))
      go_ret
      exact ⟨rfl, Grown.refl _⟩
    · have t2 := above R h.1
      have t4 : 0 ≤ Fl.axis P 0 := sd.2 (by rw [cp]; omega)
      have t5 : (FloatKind.f64.format.order P 4607182418800017408 != some .eq) = true := by rw [o_ne np nn_c1, V_c1]; exact decide_eq_true (by omega)
      have t6 : (FloatKind.f64.format.order P 13830554455654793216 != some .eq) = true := by rw [o_ne np nn_cm, V_cm]; exact decide_eq_true (by omega)
      have t7 : (FloatKind.f64.format.order P 0 == some .gt) = true := by rw [o_gt np nn_c0, Fl.V_0]; exact decide_eq_true (by omega)
      clear R h q1 q2 q3 q4 hU np nd zp zd cp sd
      go_wp2_with (first
        | (go_at_call 11; refine (clean_any _ _).mono ?_; rintro e w' ⟨rfl, rfl⟩)
        | (go_at_call 14; refine (axis_any _ _ lp ld _).mono ?_; rintro e w' ⟨rfl, rfl⟩))
      go_ret
      exact ⟨rfl, Grown.refl _⟩
    · obtain ⟨t2, t3⟩ := below R h.1
      have t4 : Fl.axis P 0 = -64 := Fl.axis_bot lp (by rw [zd]; omega) (by rw [cp]; exact h.2)
      have t5 : (FloatKind.f64.format.order P 4607182418800017408 != some .eq) = true := by rw [o_ne np nn_c1, V_c1]; exact decide_eq_true (by omega)
      have t6 : (FloatKind.f64.format.order P 13830554455654793216 != some .eq) = false := by rw [o_ne np nn_cm, V_cm]; exact decide_eq_false (by omega)
      have t7 : (FloatKind.f64.format.order P 0 == some .gt) = false := by rw [o_gt np nn_c0, Fl.V_0]; exact decide_eq_false (by omega)
      have t8 : (FloatKind.f64.format.order P 0 == some .lt) = true := by rw [o_lt np nn_c0, Fl.V_0]; exact decide_eq_true (by omega)
      clear R h q1 q2 q3 q4 hU np nd zp zd cp sd
      go_wp2_with (first
        | (go_at_call 11; refine (clean_any _ _).mono ?_; rintro e w' ⟨rfl, rfl⟩)
        | (go_at_call 14; refine (axis_any _ _ lp ld _).mono ?_; rintro e w' ⟨rfl, rfl⟩))
      go_ret
      exact ⟨rfl, Grown.refl _⟩
    · obtain ⟨t2, t3⟩ := below R h.1
      have t4 : Fl.axis P 0 ≤ 0 := sd.1 (by rw [cp]; omega)
      have t5 : (FloatKind.f64.format.order P 4607182418800017408 != some .eq) = true := by rw [o_ne np nn_c1, V_c1]; exact decide_eq_true (by omega)
      have t6 : (FloatKind.f64.format.order P 13830554455654793216 != some .eq) = true := by rw [o_ne np nn_cm, V_cm]; exact decide_eq_true (by omega)
      have t7 : (FloatKind.f64.format.order P 0 == some .gt) = false := by rw [o_gt np nn_c0, Fl.V_0]; exact decide_eq_false (by omega)
      have t8 : (FloatKind.f64.format.order P 0 == some .lt) = true := by rw [o_lt np nn_c0, Fl.V_0]; exact decide_eq_true (by omega)
      clear R h q1 q2 q3 q4 hU np nd zp zd cp sd
      go_wp2_with (first
        | (go_at_call 11; refine (clean_any _ _).mono ?_; rintro e w' ⟨rfl, rfl⟩)
        | (go_at_call 14; refine (axis_any _ _ lp ld _).mono ?_; rintro e w' ⟨rfl, rfl⟩))
      go_ret
      exact ⟨rfl, Grown.refl _⟩

  · have t1 : (FloatKind.f64.format.order (Fl.cln z) 0 == some .lt) = false := by rw [o_lt g1.nn nn_c0, Fl.V_0]; exact decide_eq_false hd
    have hz : Fl.dz z = Fl.cln z := by unfold Fl.dz; rw [if_neg hd]
    rw [hz] at R
    clear g1 g2 g3 g4 g5 hd hz ly
    generalize Fl.cln y = P at *
    have q1 := R.p1
    have q2 := R.p2
    have q3 := R.d0
    have q4 := R.d1
    have hU := Fl.Upos
    have np := R.fp.nn
    have nd := R.fd.nn
    have lp := R.p
    have ld := R.d
    have cp := R.cp
    have zd := R.zd
    have zp := R.fp
    have sd := Fl.axis_side lp ld
    rcases (show (V P ≤ V (Fl.cln z) ∧ -V (Fl.cln z) ≤ V P) ∨ (V (Fl.cln z) < V P ∧ V P = (U : Int)) ∨ (V (Fl.cln z) < V P ∧ V P < (U : Int)) ∨ (V P < -V (Fl.cln z) ∧ V P = -(U : Int)) ∨ (V P < -V (Fl.cln z) ∧ -(U : Int) < V P) by omega) with h | h | h | h | h
    · obtain ⟨t2, t3, t4⟩ := still R h.1 h.2
      clear R h q1 q2 q3 q4 hU np nd zp zd cp sd
      go_wp2_with (first
        | (go_at_call 11; refine (clean_any _ _).mono ?_; rintro e w' ⟨rfl, rfl⟩)
        | (go_at_call 14; refine (axis_any _ _ lp ld _).mono ?_; rintro e w' ⟨rfl, rfl⟩))
      go_ret
      exact ⟨rfl, Grown.refl _⟩
    · have t2 := above R h.1
      have t4 : Fl.axis P (Fl.cln z) = 64 := Fl.axis_top lp (by rw [zd]; omega) (by rw [cp]; exact h.2)
      have t5 : (FloatKind.f64.format.order P 4607182418800017408 != some .eq) = false := by rw [o_ne np nn_c1, V_c1]; exact decide_eq_false (by omega)
      have t6 : (FloatKind.f64.format.order P 13830554455654793216 != some .eq) = true := by rw [o_ne np nn_cm, V_cm]; exact decide_eq_true (by omega)
      have t7 : (FloatKind.f64.format.order P 0 == some .gt) = true := by rw [o_gt np nn_c0, Fl.V_0]; exact decide_eq_true (by omega)
      clear R h q1 q2 q3 q4 hU np nd zp zd cp sd
      go_wp2_with (first
        | (go_at_call 11; refine (clean_any _ _).mono ?_; rintro e w' ⟨rfl, rfl⟩)
        | (go_at_call 14; refine (axis_any _ _ lp ld _).mono ?_; rintro e w' ⟨rfl, rfl⟩))
      go_ret
      exact ⟨rfl, Grown.refl _⟩
    · have t2 := above R h.1
      have t4 : 0 ≤ Fl.axis P (Fl.cln z) := sd.2 (by rw [cp]; omega)
      have t5 : (FloatKind.f64.format.order P 4607182418800017408 != some .eq) = true := by rw [o_ne np nn_c1, V_c1]; exact decide_eq_true (by omega)
      have t6 : (FloatKind.f64.format.order P 13830554455654793216 != some .eq) = true := by rw [o_ne np nn_cm, V_cm]; exact decide_eq_true (by omega)
      have t7 : (FloatKind.f64.format.order P 0 == some .gt) = true := by rw [o_gt np nn_c0, Fl.V_0]; exact decide_eq_true (by omega)
      clear R h q1 q2 q3 q4 hU np nd zp zd cp sd
      go_wp2_with (first
        | (go_at_call 11; refine (clean_any _ _).mono ?_; rintro e w' ⟨rfl, rfl⟩)
        | (go_at_call 14; refine (axis_any _ _ lp ld _).mono ?_; rintro e w' ⟨rfl, rfl⟩))
      go_ret
      exact ⟨rfl, Grown.refl _⟩
    · obtain ⟨t2, t3⟩ := below R h.1
      have t4 : Fl.axis P (Fl.cln z) = -64 := Fl.axis_bot lp (by rw [zd]; omega) (by rw [cp]; exact h.2)
      have t5 : (FloatKind.f64.format.order P 4607182418800017408 != some .eq) = true := by rw [o_ne np nn_c1, V_c1]; exact decide_eq_true (by omega)
      have t6 : (FloatKind.f64.format.order P 13830554455654793216 != some .eq) = false := by rw [o_ne np nn_cm, V_cm]; exact decide_eq_false (by omega)
      have t7 : (FloatKind.f64.format.order P 0 == some .gt) = false := by rw [o_gt np nn_c0, Fl.V_0]; exact decide_eq_false (by omega)
      have t8 : (FloatKind.f64.format.order P 0 == some .lt) = true := by rw [o_lt np nn_c0, Fl.V_0]; exact decide_eq_true (by omega)
      clear R h q1 q2 q3 q4 hU np nd zp zd cp sd
      go_wp2_with (first
        | (go_at_call 11; refine (clean_any _ _).mono ?_; rintro e w' ⟨rfl, rfl⟩)
        | (go_at_call 14; refine (axis_any _ _ lp ld _).mono ?_; rintro e w' ⟨rfl, rfl⟩))
      go_ret
      exact ⟨rfl, Grown.refl _⟩
    · obtain ⟨t2, t3⟩ := below R h.1
      have t4 : Fl.axis P (Fl.cln z) ≤ 0 := sd.1 (by rw [cp]; omega)
      have t5 : (FloatKind.f64.format.order P 4607182418800017408 != some .eq) = true := by rw [o_ne np nn_c1, V_c1]; exact decide_eq_true (by omega)
      have t6 : (FloatKind.f64.format.order P 13830554455654793216 != some .eq) = true := by rw [o_ne np nn_cm, V_cm]; exact decide_eq_true (by omega)
      have t7 : (FloatKind.f64.format.order P 0 == some .gt) = false := by rw [o_gt np nn_c0, Fl.V_0]; exact decide_eq_false (by omega)
      have t8 : (FloatKind.f64.format.order P 0 == some .lt) = true := by rw [o_lt np nn_c0, Fl.V_0]; exact decide_eq_true (by omega)
      clear R h q1 q2 q3 q4 hU np nd zp zd cp sd
      go_wp2_with (first
        | (go_at_call 11; refine (clean_any _ _).mono ?_; rintro e w' ⟨rfl, rfl⟩)
        | (go_at_call 14; refine (axis_any _ _ lp ld _).mono ?_; rintro e w' ⟨rfl, rfl⟩))
      go_ret
      exact ⟨rfl, Grown.refl _⟩


theorem own : ownKnob Try.prog.godebug = none := by kernel_rfl
set_option maxRecDepth 100000 in
theorem lifted (os : Os) (started : os.Started) (H : Type) (enc : TypeId × Value → H) :
    ReturnsInHanded {} Try.checked os 6 .any (Rows.stickDeadSpec.pre6 enc Try.prog Try.f6 Rows.stickDeadRow.domain false) (Rows.stickDeadSpec.post enc Try.prog Try.f6 false true false false) := by
  refine returnsInHanded_of_change (C := Try.checked) own started (by kernel_rfl) Try.func6
    (ChangeSpec.witness6 (enc := enc) (C := Try.checked) false ⟨#[], #[.int .i64 0, .int .i64 0, .float .f64 0, .float .f64 0], []⟩ 8 (by kernel_rfl) (by kernel_rfl) (by kernel_rfl) (by kernel_rfl)) ?_
  intro W base args ds gs before hval0 hW hcnd _
  have hval : ∀ (j : Nat) t v, Try.f6.params[j]? = some t → args[j]? = some v → Value.okWide Try.prog W .any base t v := hval0
  have hW' := hW
  obtain ⟨p, q, hA0, hV, rfl, hfz, hnd⟩ := hW
  have hA : DataW.TrodAll enc Try.prog W 0 (fun _ => true) true Try.f6.params.toList args.toList ds p := hA0
  rw [Try.params6] at hA hval
  obtain ⟨v0, vs0, d0, ds0, p0, q0, hargs, rfl, rfl, h0, r0⟩ := trodAll_cons hA
  obtain ⟨v1, vs1, d1, ds1, p1, q1, rfl, rfl, rfl, h1, r1⟩ := trodAll_cons r0
  obtain ⟨v2, vs2, d2, ds2, p2, q2, rfl, rfl, rfl, h2, r2⟩ := trodAll_cons r1
  obtain ⟨v3, vs3, d3, ds3, p3, q3, rfl, rfl, rfl, h3, r3⟩ := trodAll_cons r2
  obtain ⟨rfl, rfl, rfl⟩ := trodAll_nil r3
  obtain rfl : args = #[v0, v1, v2, v3] := by cases args; simp_all
  obtain ⟨rfl, rfl⟩ := trodVars_none hV
  obtain ⟨a0, rfl, rfl, rfl, w0⟩ := open_int Try.underlying3 (hval 0 3 v0 rfl rfl) h0
  obtain ⟨a1, rfl, rfl, rfl, w1⟩ := open_int Try.underlying3 (hval 1 3 v1 rfl rfl) h1
  obtain ⟨a2, rfl, rfl, rfl, w2⟩ := open_float Try.underlying22 (hval 2 22 v2 rfl rfl) h2
  obtain ⟨a3, rfl, rfl, rfl, w3⟩ := open_float Try.underlying22 (hval 3 22 v3 rfl rfl) h3
  clear hA0 hval0
  simp only [List.append_nil] at hW'
  refine (walk a0 a1 a2 a3 w0 w1 w2 w3 W).mono fun e W' ⟨he, hg⟩ => ?_
  subst he
  exact ⟨_, rfl, post_of_same (pa := []) (pv := []) hW' (fun _ _ _ => (trodAll_cons_mk (shut_bool Try.underlying4 _) trodAll_mk0)) (fun sp _ => (trodAll_cons_mk (shut_int Try.underlying3 w0) (trodAll_cons_mk (shut_int Try.underlying3 w1) (trodAll_cons_mk (shut_float Try.underlying22 w2) (trodAll_cons_mk (shut_float Try.underlying22 w3) trodAll_mk0))))) (fun _ _ => rfl) rfl
    (hg.frame _) hg.2.1 (ok_one (by kernel_rfl) rfl (okWide_bool_mk Try.underlying4 _))⟩

theorem over : Rows.stickDeadRow.holds Try.pinned (OpenSpec.ofChange Rows.stickDeadSpec) :=
  OpenClaim.holds_of_wide 6 Try.f6 rfl rfl rfl rfl rfl rfl rfl ⟨rfl, rfl, rfl, rfl, rfl⟩ rfl rfl rfl rfl rfl (by kernel_rfl) Try.func6 (by kernel_rfl)
    (of_decide_eq_true (by kernel_rfl)) (by unfold Func.isWrapper; first | (rw [if_pos (by decide +kernel)]; kernel_rfl) | (rw [if_neg (by decide +kernel)]; exact ⟨rfl, rfl⟩))
    (fun os started H enc _ => lifted os started H enc)

/-- THE STATEMENT -/
theorem proved : Rows.StickDeadSaid := over
end Go.Proofs.Ytjlmgbbahbdmlaa.stickDead

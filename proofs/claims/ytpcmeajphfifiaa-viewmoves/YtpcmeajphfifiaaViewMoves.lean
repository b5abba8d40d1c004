/- Proved: ViewMoves returns true for every input. No condition. -/
import Derived.Test.YtpcmeajphfifiaaOrderX
import Derived.Test.YtpcmeajphfifiaaFrame
namespace Go.Proofs.Ytpcmeajphfifiaa.viewMoves
open Go.ChangeShapes Go.WideShapes Go.ChangeAt Go.RowKit
open Fl (V nn fin rg sg U)
set_option linter.unusedVariables false

/-! ### what is between two whole numbers, at two shares -/
structure Mid (p q u : Nat) : Prop where
  nx : nn (Fl.btw p q u)
  up : V p ≤ V q → V p ≤ V (Fl.btw p q u) ∧ V (Fl.btw p q u) ≤ V q
  dn : V q ≤ V p → V q ≤ V (Fl.btw p q u) ∧ V (Fl.btw p q u) ≤ V p

structure Ends (p q d : Nat) : Prop where
  fp : fin p
  fq : fin q
  lp : p < 2 ^ 64
  lq : q < 2 ^ 64
  fd : fin d
  ld : d < 2 ^ 64
  vd : V d = V q - V p

theorem diff {p q d : Nat} (E : Ends p q d) : V (Fl.subw q p) = V q - V p ∧ fin (Fl.subw q p) ∧ Fl.subw q p < 2 ^ 64 := by
  obtain ⟨r, er, R, _⟩ := Fl.sub_fin E.fq E.fp E.lp
  have e1 : Fl.subw q p = r := by unfold Fl.subw; rw [er]; rfl
  rw [e1]
  have hv : V r = V d := Fl.rounds_exact (by decide) R E.fd.nn E.ld (by rw [E.vd]; omega)
  have hb := Fl.V_lt_inf E.fd
  exact ⟨by rw [hv, E.vd], Fl.fin_of_V R.nn (by omega) (by omega), R.1⟩

theorem mid {p q d u : Nat} (E : Ends p q d) (hu : nn u) : Mid p q u := by
  by_cases h : nn u ∧ 0 < V u
  · by_cases h1 : (U : Int) ≤ V u
    · have e := Fl.btw_all (a := p) (b := q) h h1
      refine ⟨by rw [e]; exact E.fq.nn, fun k => ?_, fun k => ?_⟩ <;> rw [e] <;> omega
    · have e := Fl.btw_lin h h1 ⟨E.fp, E.fq⟩
      have L := Fl.lin_spec (b := q) E.fp E.fq E.lp h.1 h.2 (by omega)
      obtain ⟨v1, f1, l1⟩ := diff E
      obtain ⟨R1, R2⟩ := L.fn f1
      have sh := Fl.share f1.nn l1 R1 (by omega) (by omega)
      rw [v1] at sh
      refine ⟨by rw [e]; exact R2.nn, fun k => ?_, fun k => ?_⟩
      · obtain ⟨s1, s2⟩ := sh.1 (by omega)
        rw [e]
        exact ⟨Fl.le_rounds (by decide) R2 E.fp.nn E.lp (by omega), Fl.rounds_le (by decide) R2 E.fq.nn E.lq (by omega)⟩
      · obtain ⟨s1, s2⟩ := sh.2 (by omega)
        rw [e]
        exact ⟨Fl.le_rounds (by decide) R2 E.fq.nn E.lq (by omega), Fl.rounds_le (by decide) R2 E.fp.nn E.lp (by omega)⟩
  · have e := Fl.btw_no (a := p) (b := q) h
    refine ⟨by rw [e]; exact E.fp.nn, fun k => ?_, fun k => ?_⟩ <;> rw [e] <;> omega

theorem moves {p q d u v : Nat} (E : Ends p q d) (hu : nn u) (hv : nn v) (le : V u ≤ V v) :
    (V p ≤ V q → V (Fl.btw p q u) ≤ V (Fl.btw p q v)) ∧ (V q ≤ V p → V (Fl.btw p q v) ≤ V (Fl.btw p q u)) := by
  have mu := mid E hu
  have mv := mid E hv
  by_cases h : nn u ∧ 0 < V u
  · by_cases h2 : (U : Int) ≤ V v
    · have e := Fl.btw_all (a := p) (b := q) (show nn v ∧ 0 < V v from ⟨hv, by have := h.2; omega⟩) h2
      rw [e]
      exact ⟨fun k => (mu.up k).2, fun k => (mu.dn k).1⟩
    · have hv0 : nn v ∧ 0 < V v := ⟨hv, by have := h.2; omega⟩
      have h1 : ¬ (U : Int) ≤ V u := by omega
      have eu := Fl.btw_lin h h1 ⟨E.fp, E.fq⟩
      have ev := Fl.btw_lin hv0 h2 ⟨E.fp, E.fq⟩
      have Lu := Fl.lin_spec (b := q) E.fp E.fq E.lp h.1 h.2 (by omega)
      have Lv := Fl.lin_spec (b := q) E.fp E.fq E.lp hv0.1 hv0.2 (by omega)
      obtain ⟨v1, f1, l1⟩ := diff E
      obtain ⟨A1, A2⟩ := Lu.fn f1
      obtain ⟨B1, B2⟩ := Lv.fn f1
      rw [eu, ev]
      refine ⟨fun k => ?_, fun k => ?_⟩
      · have m1 : V (Fl.mulw (Fl.subw q p) u) ≤ V (Fl.mulw (Fl.subw q p) v) := by
          refine Fl.rounds_mono Fl.U_pos Fl.U_pos A1 B1 ?_
          refine Int.mul_le_mul_of_nonneg_right ?_ (Int.natCast_nonneg _)
          exact Int.mul_le_mul_of_nonneg_left le (by omega)
        exact Fl.rounds_mono (by decide) (by decide) A2 B2 (by omega)
      · have m1 : V (Fl.mulw (Fl.subw q p) v) ≤ V (Fl.mulw (Fl.subw q p) u) := by
          refine Fl.rounds_mono Fl.U_pos Fl.U_pos B1 A1 ?_
          refine Int.mul_le_mul_of_nonneg_right ?_ (Int.natCast_nonneg _)
          have := Int.mul_le_mul_of_nonneg_left le (show 0 ≤ -V (Fl.subw q p) by omega)
          rw [Int.neg_mul, Int.neg_mul] at this; omega
        exact Fl.rounds_mono (by decide) (by decide) B2 A2 (by omega)
  · have e := Fl.btw_no (a := p) (b := q) (t := u) h
    rw [e]
    exact ⟨fun k => (mv.up k).1, fun k => (mv.dn k).2⟩

/-! ### the numbers of the law -/
theorem ends (A B : Int) : Ends (floatOfInt .f64 (A % 2000 - 1000)) (floatOfInt .f64 (B % 2000 - 1000)) (floatOfInt .f64 (B % 2000 - A % 2000)) := by
  have big : (2000 : Nat) < 2 ^ 53 := by decide
  obtain ⟨f1, v1, l1⟩ := Fl.ofInt_V (A % 2000 - 1000) (by omega)
  obtain ⟨f2, v2, l2⟩ := Fl.ofInt_V (B % 2000 - 1000) (by omega)
  obtain ⟨f3, v3, l3⟩ := Fl.ofInt_V (B % 2000 - A % 2000) (by omega)
  refine ⟨f1, f2, l1, l2, f3, l3, ?_⟩
  refine v3.trans ?_
  rw [show V (floatOfInt .f64 (B % 2000 - 1000)) = _ from v2, show V (floatOfInt .f64 (A % 2000 - 1000)) = _ from v1, ← Int.sub_mul]
  congr 1; omega
theorem alike {A B : Int} (h : V (floatOfInt .f64 (A % 2000 - 1000)) = V (floatOfInt .f64 (B % 2000 - 1000))) : floatOfInt .f64 (A % 2000 - 1000) = floatOfInt .f64 (B % 2000 - 1000) := by
  have big : (2000 : Nat) < 2 ^ 53 := by decide
  obtain ⟨f1, v1, l1⟩ := Fl.ofInt_V (A % 2000 - 1000) (by omega)
  obtain ⟨f2, v2, l2⟩ := Fl.ofInt_V (B % 2000 - 1000) (by omega)
  rw [show V (floatOfInt .f64 (B % 2000 - 1000)) = _ from v2, show V (floatOfInt .f64 (A % 2000 - 1000)) = _ from v1] at h
  have := Int.eq_of_mul_eq_mul_right (show (U : Int) ≠ 0 by have := Fl.Upos; omega) h
  rw [this]
theorem fin1024 : fin 4652218415073722368 := by decide +kernel
theorem V1024 : V 4652218415073722368 = 1024 * (U : Int) := by decide +kernel
theorem shareU (K : Int) : nn (Fl.divw (floatOfInt .f64 (K % 1025)) 4652218415073722368) := by
  obtain ⟨f, _, _⟩ := Fl.ofInt_V (K % 1025) (by have : (2000 : Nat) < 2 ^ 53 := by decide
                                                omega)
  obtain ⟨r, e, R, _⟩ := Fl.div_fin f fin1024 (by rw [V1024]; have := Fl.Upos; omega)
  have e' : Ieee.double.div (floatOfInt .f64 (K % 1025)) 4652218415073722368 = some r := e
  unfold Fl.divw; rw [e']; exact R.nn
theorem quo1024 (X : Int) (w : World) : (binOp .quo 22 (.float .f64 (floatOfInt .f64 (X % 1025))) (.float .f64 4652218415073722368)).run Try.prog w = .ok (.float .f64 (Fl.divw (floatOfInt .f64 (X % 1025)) 4652218415073722368)) w :=
  run_float_arith (P := Try.prog) w .quo 22 .f64 _ _ _ (quo_some _ _ (by omega) fin1024 (by rw [V1024]; have := Fl.Upos; omega)).1

/-! ### min and max of two that are one where they are as great -/
def mn (a b : Nat) : Nat := if V b < V a then b else a
def mx (a b : Nat) : Nat := if V a < V b then b else a
theorem min_f {a b : Nat} (ha : nn a) (hb : nn b) (hz : V a = V b → a = b) (ts : Array TypeId) (t : TypeId) (w : World) : (Builtin.min_ ts t #[.float .f64 a, .float .f64 b]).run Try.prog w = .ok (.float .f64 (mn a b)) w := by
  have e := Fl.order_nn ha hb
  have k : (Builtin.min2 (.float .f64 a) (.float .f64 b)).run Try.prog w = .ok (.float .f64 (mn a b)) w := by
    rcases Int.lt_trichotomy (V a) (V b) with h | h | h
    · have m : mn a b = a := by unfold mn; rw [if_neg (by omega)]
      rw [m]
      unfold Builtin.min2
      dsimp only
      rw [d_fmt, e, Int.compare_eq_lt.2 h]; rfl
    · obtain rfl := hz h
      have m : mn a a = a := by unfold mn; split <;> rfl
      have c : compare (V a) (V a) = Ordering.eq := by simp
      rw [m]
      unfold Builtin.min2
      dsimp only
      rw [d_fmt, e, c]
      dsimp only
      split <;> rfl
    · have m : mn a b = b := by unfold mn; rw [if_pos h]
      rw [m]
      unfold Builtin.min2
      dsimp only
      rw [d_fmt, e, Int.compare_eq_gt.2 h]; rfl
  unfold Builtin.min_
  simp only [List.foldlM_cons, List.foldlM_nil]
  simp [k]
theorem max_f {a b : Nat} (ha : nn a) (hb : nn b) (hz : V a = V b → a = b) (ts : Array TypeId) (t : TypeId) (w : World) : (Builtin.max_ ts t #[.float .f64 a, .float .f64 b]).run Try.prog w = .ok (.float .f64 (mx a b)) w := by
  have e := Fl.order_nn ha hb
  have k : (Builtin.max2 (.float .f64 a) (.float .f64 b)).run Try.prog w = .ok (.float .f64 (mx a b)) w := by
    rcases Int.lt_trichotomy (V a) (V b) with h | h | h
    · have m : mx a b = b := by unfold mx; rw [if_pos h]
      rw [m]
      unfold Builtin.max2
      dsimp only
      rw [d_fmt, e, Int.compare_eq_lt.2 h]; rfl
    · obtain rfl := hz h
      have m : mx a a = a := by unfold mx; split <;> rfl
      have c : compare (V a) (V a) = Ordering.eq := by simp
      rw [m]
      unfold Builtin.max2
      dsimp only
      rw [d_fmt, e, c]
      dsimp only
      split <;> rfl
    · have m : mx a b = a := by unfold mx; rw [if_neg (by omega)]
      rw [m]
      unfold Builtin.max2
      dsimp only
      rw [d_fmt, e, Int.compare_eq_gt.2 h]; rfl
  unfold Builtin.max_
  simp only [List.foldlM_cons, List.foldlM_nil]
  simp [k]
theorem mn_V {a b : Nat} (ha : nn a) (hb : nn b) : nn (mn a b) ∧ (V a ≤ V b → V (mn a b) = V a) ∧ (V b ≤ V a → V (mn a b) = V b) := by
  unfold mn; split
  · exact ⟨hb, fun _ => by omega, fun _ => rfl⟩
  · exact ⟨ha, fun _ => rfl, fun _ => by omega⟩
theorem mx_V {a b : Nat} (ha : nn a) (hb : nn b) : nn (mx a b) ∧ (V a ≤ V b → V (mx a b) = V b) ∧ (V b ≤ V a → V (mx a b) = V a) := by
  unfold mx; split
  · exact ⟨hb, fun _ => rfl, fun _ => by omega⟩
  · exact ⟨ha, fun _ => by omega, fun _ => rfl⟩

set_option maxHeartbeats 8000000 in
theorem walk (a0 : Int) (a1 : Int) (a2 : Int) (a3 : Int) (w : World) (w0 : (Lit.int .i64 a0).wf = true) (w1 : (Lit.int .i64 a1).wf = true) (w2 : (Lit.int .i64 a2).wf = true) (w3 : (Lit.int .i64 a3).wf = true) :
    Calls Try.prog 8 #[.int .i64 a0, .int .i64 a1, .int .i64 a2, .int .i64 a3] w fun e w' => e = .returned (.bool true) ∧ Below w.heap.size w w' := by
  have E := ends a0 a1
  have zz := alike (A := a0) (B := a1)
  have nu := shareU a2
  have nv := shareU a3
  have Q := quo1024
  have q2 : ∀ X : Int, 0 ≤ X % 2000 ∧ X % 2000 < 2000 := fun X => by omega
  clear w0 w1 w2 w3
  have mU := mid E nu
  have mV := mid E nv
  have mi := min_f E.fp.nn E.fq.nn zz
  have ma := max_f E.fp.nn E.fq.nn zz
  obtain ⟨n1, n2, n3⟩ := mn_V E.fp.nn E.fq.nn
  obtain ⟨m1, m2, m3⟩ := mx_V E.fp.nn E.fq.nn
  have c1 := o_lt mU.nx n1
  have c2 := o_gt mU.nx m1
  have c3 := o_gt nu nv
  have c4 := o_le E.fp.nn E.fq.nn
  have c5 := o_ge E.fp.nn E.fq.nn
  have c6 := o_le mU.nx mV.nx
  have c7 := o_ge mU.nx mV.nx
  have c8 := o_le mV.nx mU.nx
  have c9 := o_ge mV.nx mU.nx
  have mo1 := fun h => moves E nu nv h
  have mo2 := fun h => moves E nv nu h
  have lp := E.lp
  have lq := E.lq
  clear zz nu nv n1 m1
  have d1 : (FloatKind.f64.format.order (Fl.btw (floatOfInt .f64 (a0 % 2000 - 1000)) (floatOfInt .f64 (a1 % 2000 - 1000)) (Fl.divw (floatOfInt .f64 (a2 % 1025)) 4652218415073722368)) (mn (floatOfInt .f64 (a0 % 2000 - 1000)) (floatOfInt .f64 (a1 % 2000 - 1000))) == some .lt) = false := by
    rw [c1]; refine decide_eq_false ?_
    rcases Int.le_total (V (floatOfInt .f64 (a0 % 2000 - 1000))) (V (floatOfInt .f64 (a1 % 2000 - 1000))) with h | h
    · rw [n2 h]; have := (mU.up h).1; omega
    · rw [n3 h]; have := (mU.dn h).1; omega
  have d2 : (FloatKind.f64.format.order (Fl.btw (floatOfInt .f64 (a0 % 2000 - 1000)) (floatOfInt .f64 (a1 % 2000 - 1000)) (Fl.divw (floatOfInt .f64 (a2 % 1025)) 4652218415073722368)) (mx (floatOfInt .f64 (a0 % 2000 - 1000)) (floatOfInt .f64 (a1 % 2000 - 1000))) == some .gt) = false := by
    rw [c2]; refine decide_eq_false ?_
    rcases Int.le_total (V (floatOfInt .f64 (a0 % 2000 - 1000))) (V (floatOfInt .f64 (a1 % 2000 - 1000))) with h | h
    · rw [m2 h]; have := (mU.up h).2; omega
    · rw [m3 h]; have := (mU.dn h).2; omega
  clear c1 c2 n2 n3 m2 m3 mU mV E
  have M1 : Aside _ := mo1
  have M2 : Aside _ := mo2
  clear mo1 mo2
  by_cases g : V (Fl.divw (floatOfInt .f64 (a3 % 1025)) 4652218415073722368) < V (Fl.divw (floatOfInt .f64 (a2 % 1025)) 4652218415073722368)
  · rw [decide_eq_true g] at c3
    clear c6 c7
    by_cases h : V (floatOfInt .f64 (a0 % 2000 - 1000)) ≤ V (floatOfInt .f64 (a1 % 2000 - 1000))
    · rw [decide_eq_true h] at c4
      rw [decide_eq_true ((M2.out (by omega)).1 h)] at c8
      clear g h c9 M1 M2
      go_enter Try.func8, Try.ntmps8
      go_wp2_with fail
      refine (known_any _).mono ?_
      rintro e w1 ⟨rfl, hb⟩
      have HB : Aside _ := hb
      clear hb
      go_wp2_with (first
        | (go_at_call 25; refine (pick_any _ _ (by omega) (by omega) _).mono ?_; rintro e w' ⟨rfl, rfl⟩)
        | (go_at_call 14; refine (between_any _ _ _ (by assumption) (by assumption) _).mono ?_; rintro e w' ⟨rfl, rfl⟩))
      go_ret
      exact ⟨rfl, HB.out⟩
    · rw [decide_eq_false h] at c4
      have h' : V (floatOfInt .f64 (a1 % 2000 - 1000)) ≤ V (floatOfInt .f64 (a0 % 2000 - 1000)) := by omega
      rw [decide_eq_true h'] at c5
      rw [decide_eq_true ((M2.out (by omega)).2 h')] at c9
      clear g h h' c8 M1 M2
      go_enter Try.func8, Try.ntmps8
      go_wp2_with fail
      refine (known_any _).mono ?_
      rintro e w1 ⟨rfl, hb⟩
      have HB : Aside _ := hb
      clear hb
      go_wp2_with (first
        | (go_at_call 25; refine (pick_any _ _ (by omega) (by omega) _).mono ?_; rintro e w' ⟨rfl, rfl⟩)
        | (go_at_call 14; refine (between_any _ _ _ (by assumption) (by assumption) _).mono ?_; rintro e w' ⟨rfl, rfl⟩))
      go_ret
      exact ⟨rfl, HB.out⟩
  · rw [decide_eq_false g] at c3
    clear c8 c9
    by_cases h : V (floatOfInt .f64 (a0 % 2000 - 1000)) ≤ V (floatOfInt .f64 (a1 % 2000 - 1000))
    · rw [decide_eq_true h] at c4
      rw [decide_eq_true ((M1.out (by omega)).1 h)] at c6
      clear g h c7 M1 M2
      go_enter Try.func8, Try.ntmps8
      go_wp2_with fail
      refine (known_any _).mono ?_
      rintro e w1 ⟨rfl, hb⟩
      have HB : Aside _ := hb
      clear hb
      go_wp2_with (first
        | (go_at_call 25; refine (pick_any _ _ (by omega) (by omega) _).mono ?_; rintro e w' ⟨rfl, rfl⟩)
        | (go_at_call 14; refine (between_any _ _ _ (by assumption) (by assumption) _).mono ?_; rintro e w' ⟨rfl, rfl⟩))
      go_ret
      exact ⟨rfl, HB.out⟩
    · rw [decide_eq_false h] at c4
      have h' : V (floatOfInt .f64 (a1 % 2000 - 1000)) ≤ V (floatOfInt .f64 (a0 % 2000 - 1000)) := by omega
      rw [decide_eq_true h'] at c5
      rw [decide_eq_true ((M1.out (by omega)).2 h')] at c7
      clear g h h' c6 M1 M2
      go_enter Try.func8, Try.ntmps8
      go_wp2_with fail
      refine (known_any _).mono ?_
      rintro e w1 ⟨rfl, hb⟩
      have HB : Aside _ := hb
      clear hb
      go_wp2_with (first
        | (go_at_call 25; refine (pick_any _ _ (by omega) (by omega) _).mono ?_; rintro e w' ⟨rfl, rfl⟩)
        | (go_at_call 14; refine (between_any _ _ _ (by assumption) (by assumption) _).mono ?_; rintro e w' ⟨rfl, rfl⟩))
      go_ret
      exact ⟨rfl, HB.out⟩

set_option maxRecDepth 100000 in
theorem lifted (os : Os) (started : os.Started) (H : Type) (enc : TypeId × Value → H) :
    ReturnsInHanded {} Try.checked os 8 .any (Rows.viewMovesSpec.pre6 enc Try.prog Try.f8 Rows.viewMovesRow.domain false) (Rows.viewMovesSpec.post enc Try.prog Try.f8 false true false false) := by
  refine returnsInHanded_of_change (C := Try.checked) own started (by kernel_rfl) Try.func8
    (ChangeSpec.witness6 (enc := enc) (C := Try.checked) false ⟨#[], #[.int .i64 0, .int .i64 0, .int .i64 0, .int .i64 0], []⟩ 8 (by kernel_rfl) (by kernel_rfl) (by kernel_rfl) (by kernel_rfl)) ?_
  intro W base args ds gs before hval0 hW hcnd _
  have hval : ∀ (j : Nat) t v, Try.f8.params[j]? = some t → args[j]? = some v → Value.okWide Try.prog W .any base t v := hval0
  have hW' := hW
  obtain ⟨p, q, hA0, hV, rfl, hfz, hnd⟩ := hW
  have hA : DataW.TrodAll enc Try.prog W 0 (fun _ => true) true Try.f8.params.toList args.toList ds p := hA0
  rw [Try.params8] at hA hval
  obtain ⟨v0, vs0, d0, ds0, p0, q0, hargs, rfl, rfl, h0, r0⟩ := trodAll_cons hA
  obtain ⟨v1, vs1, d1, ds1, p1, q1, rfl, rfl, rfl, h1, r1⟩ := trodAll_cons r0
  obtain ⟨v2, vs2, d2, ds2, p2, q2, rfl, rfl, rfl, h2, r2⟩ := trodAll_cons r1
  obtain ⟨v3, vs3, d3, ds3, p3, q3, rfl, rfl, rfl, h3, r3⟩ := trodAll_cons r2
  obtain ⟨rfl, rfl, rfl⟩ := trodAll_nil r3
  obtain rfl : args = #[v0, v1, v2, v3] := by cases args; simp_all
  obtain ⟨rfl, rfl⟩ := trodVars_none hV
  obtain ⟨a0, rfl, rfl, rfl, w0⟩ := open_int Try.underlying3 (hval 0 3 v0 rfl rfl) h0
  obtain ⟨a1, rfl, rfl, rfl, w1⟩ := open_int Try.underlying3 (hval 1 3 v1 rfl rfl) h1
  obtain ⟨a2, rfl, rfl, rfl, w2⟩ := open_int Try.underlying3 (hval 2 3 v2 rfl rfl) h2
  obtain ⟨a3, rfl, rfl, rfl, w3⟩ := open_int Try.underlying3 (hval 3 3 v3 rfl rfl) h3
  clear hA0 hval0
  refine (walk a0 a1 a2 a3 W w0 w1 w2 w3).mono fun e W' ⟨he, bel⟩ => ?_
  subst he
  exact ⟨_, rfl, _, _, _, [], _, [], hW', trodAll_mk1 (shut_bool Try.underlying4 _), (trodAll_cons_mk (shut_int Try.underlying3 w0) (trodAll_cons_mk (shut_int Try.underlying3 w1) (trodAll_cons_mk (shut_int Try.underlying3 w2) (trodAll_cons_mk (shut_int Try.underlying3 w3) trodAll_mk0)))), rfl, bel.frame _, fun h => by cases h⟩

theorem over : Rows.viewMovesRow.holds Try.pinned (OpenSpec.ofChange Rows.viewMovesSpec) :=
  OpenClaim.holds_of_wide 8 Try.f8 rfl rfl rfl rfl rfl rfl rfl ⟨rfl, rfl, rfl, rfl, rfl⟩ rfl rfl rfl rfl rfl (by kernel_rfl) Try.func8 (by kernel_rfl)
    (of_decide_eq_true (by kernel_rfl)) (by unfold Func.isWrapper; first | (rw [if_pos (by decide +kernel)]; kernel_rfl) | (rw [if_neg (by decide +kernel)]; exact ⟨rfl, rfl⟩))
    (fun os started H enc _ => lifted os started H enc)

/-- THE STATEMENT -/
theorem proved : Rows.ViewMovesSaid := over
end Go.Proofs.Ytpcmeajphfifiaa.viewMoves

/- Contracts of Axis, Float and Mix (the program's and the reference's), of Pick and of the hand's Float. -/
import Derived.Test.YtjlmgbbahbdmlaaStickW
namespace Go.Proofs.Ytjlmgbbahbdmlaa
open Go.ChangeShapes Go.WideShapes Go.ChangeAt Go.RowKit
open Fl (V nn fin rg sg U)

theorem ret_i {a b : Int} (h : a = b) : Ending.returned (.int .i64 a) = .returned (.int .i64 b) := by rw [h]

set_option maxHeartbeats 800000 in
theorem reach_any (a d : Nat) (ha : fin a) (hd : fin d) (ld : d < 2 ^ 64) (h0 : 0 ≤ V d) (h2 : V a ≤ (U : Int)) (w : World) :
    Calls Try.prog 25 #[.float .f64 a, .float .f64 d] w fun e w' => e = .returned (.int .i64 (Fl.rch a d)) ∧ w = w' := by
  have na := ha.nn
  have nd := hd.nn
  by_cases c1 : V a ≤ V d
  · have e1 : (FloatKind.f64.format.order a d == some .lt || FloatKind.f64.format.order a d == some .eq) = true := by
      rw [o_lt na nd, o_eq na nd]
      rcases Int.lt_or_eq_of_le c1 with h | h
      · rw [decide_eq_true h]; rfl
      · rw [decide_eq_true h, Bool.or_true]
    have H : Fl.rch a d = 0 := by unfold Fl.rch; rw [if_pos c1]
    rw [H]
    clear H c1 na nd ha hd ld h0 h2
    go_enter Try.func25, Try.ntmps25
    go_wp2
    go_ret
    exact ⟨rfl, rfl⟩
  · have e1 : (FloatKind.f64.format.order a d == some .lt || FloatKind.f64.format.order a d == some .eq) = false := by
      rw [o_lt na nd, o_eq na nd, decide_eq_false (by omega), decide_eq_false (by omega)]; rfl
    by_cases c2 : V a = (U : Int)
    · have e2 : (FloatKind.f64.format.order a 4607182418800017408 == some .eq) = true := by rw [o_eq na nn_c1, V_c1]; exact decide_eq_true c2
      have H : Fl.rch a d = 64 := by unfold Fl.rch; rw [if_neg c1, if_pos c2]
      rw [H]
      clear H c1 c2 na nd ha hd ld h0 h2
      go_enter Try.func25, Try.ntmps25
      go_wp2
      go_ret
      exact ⟨rfl, rfl⟩
    · have e2 : (FloatKind.f64.format.order a 4607182418800017408 == some .eq) = false := by rw [o_eq na nn_c1, V_c1]; exact decide_eq_false c2
      have H : Fl.rch a d = Fl.mid a d := by unfold Fl.rch; rw [if_neg c1, if_neg c2]
      have M := Fl.mid_spec ha hd ld h0 (by omega) h2
      rw [H]
      have b1 := fun w => run_float_arith (P := Try.prog) w .sub 22 .f64 a d _ M.s1
      have b2 := fun w => run_float_arith (P := Try.prog) w .sub 22 .f64 4607182418800017408 d _ M.s2
      have b3 := fun w => run_float_arith (P := Try.prog) w .quo 22 .f64 _ _ _ M.q
      have b4 := fun w => run_float_arith (P := Try.prog) w .mul 22 .f64 _ 4634204016564240384 _ M.m
      have b5 := fun w => x_even (Fl.scl a d) w M.num
      have b6 := fun w => run_convert_float_int (P := Try.prog) w 22 3 .f64 .i64 (Fl.rnd a d) (Fl.mid a d) (by rw [Try.underlying22]; rfl) Try.underlying3 (by
        unfold floatToIntVal
        have e3 : (FloatKind.f64.decode (Fl.rnd a d)).toInt .zero = some (Fl.mid a d : Int) := M.int
        have e4 := M.le
        have e5 : IntKind.i64.min ≤ (Fl.mid a d : Int) ∧ (Fl.mid a d : Int) ≤ IntKind.i64.max := by
          have g1 : IntKind.i64.min ≤ 0 := by decide
          have g2 : 64 ≤ IntKind.i64.max := by decide
          omega
        rw [e3]; dsimp only; rw [if_pos e5])
      have e6 : Ieee.double.write ((Ieee.double.read (Fl.scl a d)).integral .even) = Fl.rnd a d := rfl
      rw [e6] at b5
      clear H c1 c2 na nd ha hd ld h0 h2 M e6
      go_enter Try.func25, Try.ntmps25
      go_wp2
      go_ret
      exact ⟨rfl, rfl⟩

/-! ### max with 0, both ways round -/
theorem neg_of_sg {x : Nat} (h : fin x) : (FloatKind.f64.decode x).neg = sg x := by
  obtain ⟨m, p, e, _⟩ := Fl.read_fin h
  show (Ieee.double.read x).neg = _
  rw [e]; rfl

theorem max2_l (c : Nat) (hc : fin c) (hz : V c = 0 → c = 0) (w : World) : (Builtin.max2 (.float .f64 c) (.float .f64 0)).run Try.prog w = .ok (.float .f64 (if V c < 0 then 0 else c)) w := by
  have e := Fl.order_nn hc.nn nn_c0
  rw [Fl.V_0] at e
  unfold Builtin.max2
  dsimp only
  rw [d_fmt, e]
  rcases Int.lt_trichotomy (V c) 0 with h | h | h
  · rw [Int.compare_eq_lt.2 h, if_pos h]; rfl
  · rw [if_neg (show ¬ V c < 0 by omega), hz h]
    have : compare (V 0) 0 = Ordering.eq := by rw [Fl.V_0]; rfl
    rw [this]; rfl
  · rw [Int.compare_eq_gt.2 h, if_neg (show ¬ V c < 0 by omega)]; rfl
theorem max2_r (c : Nat) (hc : fin c) (hz : V c = 0 → c = 0) (w : World) : (Builtin.max2 (.float .f64 0) (.float .f64 c)).run Try.prog w = .ok (.float .f64 (if V c < 0 then 0 else c)) w := by
  have e := Fl.order_nn nn_c0 hc.nn
  rw [Fl.V_0] at e
  unfold Builtin.max2
  dsimp only
  rw [d_fmt, e]
  rcases Int.lt_trichotomy (V c) 0 with h | h | h
  · rw [Int.compare_eq_gt.2 h, if_pos h]; rfl
  · rw [if_neg (show ¬ V c < 0 by omega), hz h]
    have : compare 0 (V 0) = Ordering.eq := by rw [Fl.V_0]; rfl
    rw [this]; rfl
  · rw [Int.compare_eq_lt.2 h, if_neg (show ¬ V c < 0 by omega)]; rfl
theorem max_l (ts : Array TypeId) (t : TypeId) (d : Nat) (hd : d < 2 ^ 64) (w : World) : (Builtin.max_ ts t #[.float .f64 (Fl.cln d), .float .f64 0]).run Try.prog w = .ok (.float .f64 (Fl.dz d)) w := by
  obtain ⟨h1, _, _, _, h5⟩ := Fl.cln_spec hd
  have := max2_l _ h1 h5 w
  unfold Builtin.max_
  simp only [List.foldlM_cons, List.foldlM_nil]
  simp [this, Fl.dz]
theorem max_r (ts : Array TypeId) (t : TypeId) (d : Nat) (hd : d < 2 ^ 64) (w : World) : (Builtin.max_ ts t #[.float .f64 0, .float .f64 (Fl.cln d)]).run Try.prog w = .ok (.float .f64 (Fl.dz d)) w := by
  obtain ⟨h1, _, _, _, h5⟩ := Fl.cln_spec hd
  have := max2_r _ h1 h5 w
  unfold Builtin.max_
  simp only [List.foldlM_cons, List.foldlM_nil]
  simp [this, Fl.dz]

/-! ### Axis -/
set_option maxHeartbeats 800000 in
theorem axis_any (x d : Nat) (hx : x < 2 ^ 64) (hd : d < 2 ^ 64) (w : World) :
    Calls Try.prog 14 #[.float .f64 x, .float .f64 d] w fun e w' => e = .returned (.int .i64 (Fl.axis x d)) ∧ w = w' := by
  obtain ⟨c1, c2, c3, c4, c5⟩ := Fl.cln_spec hx
  obtain ⟨g1, g2, g3, g4, g5⟩ := Fl.dz_spec hd
  obtain ⟨r1, r2, r3, r4, r5⟩ := Fl.V_rg c1.nn
  have fr : fin (rg (Fl.cln x)) := by unfold fin; rw [r5]; exact c1
  have hb := Fl.rch_bounds fr g1 g2 g3 (by rw [r1]; omega)
  have m1 := fun ts t w => max_l ts t d hd w
  by_cases hs : V (Fl.cln x) < 0
  · have e1 : (FloatKind.f64.format.order (Fl.cln x) 0 == some .lt) = true := by rw [o_lt c1.nn nn_c0, Fl.V_0]; exact decide_eq_true hs
    have H : Fl.axis x d = -Fl.rch (rg (Fl.cln x)) (Fl.dz d) := by unfold Fl.axis; rw [if_pos hs]
    rw [H]
    have hvr : V (rg (Fl.cln x)) ≤ (U : Int) := by rw [r1]; omega
    have hb1 := hb.1
    have hb2 := hb.2
    clear H hs r1 r2 r3 r4 r5 c1 c3 c4 c5 g4 g5 hd hb
    go_enter Try.func14, Try.ntmps14
    go_wp2_with (first
      | (go_at_call 11; refine (clean_any _ _).mono ?_; rintro e w' ⟨rfl, rfl⟩)
      | (go_at_call 26; refine (abs_any _ c2 _).mono ?_; rintro e w' ⟨rfl, rfl⟩)
      | (go_at_call 25; refine (reach_any _ _ fr g1 g2 g3 hvr _).mono ?_; rintro e w' ⟨rfl, rfl⟩))
    go_ret
    exact ⟨ret_i (by omega), rfl⟩
  · have e1 : (FloatKind.f64.format.order (Fl.cln x) 0 == some .lt) = false := by rw [o_lt c1.nn nn_c0, Fl.V_0]; exact decide_eq_false hs
    have H : Fl.axis x d = Fl.rch (rg (Fl.cln x)) (Fl.dz d) := by unfold Fl.axis; rw [if_neg hs]
    rw [H]
    have hvr : V (rg (Fl.cln x)) ≤ (U : Int) := by rw [r1]; omega
    clear H hs r1 r2 r3 r4 r5 c1 c3 c4 c5 g4 g5 hd hb
    go_enter Try.func14, Try.ntmps14
    go_wp2_with (first
      | (go_at_call 11; refine (clean_any _ _).mono ?_; rintro e w' ⟨rfl, rfl⟩)
      | (go_at_call 26; refine (abs_any _ c2 _).mono ?_; rintro e w' ⟨rfl, rfl⟩)
      | (go_at_call 25; refine (reach_any _ _ fr g1 g2 g3 hvr _).mono ?_; rintro e w' ⟨rfl, rfl⟩))
    go_ret
    exact ⟨rfl, rfl⟩

end Go.Proofs.Ytjlmgbbahbdmlaa

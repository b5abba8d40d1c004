/- Contracts of Float and Mix, of the reference's Axis, Float and Mix, of Pick and of the hand's Float. -/
import Derived.Test.YtjlmgbbahbdmlaaStickX
namespace Go.Proofs.Ytjlmgbbahbdmlaa
open Go.ChangeShapes Go.WideShapes Go.ChangeAt Go.RowKit
open Fl (V nn fin rg sg U)

theorem flt_eq {n k : Int} (h : min (max n (-64)) 64 = k) : Fl.flt n = Fl.divw (Fl.ofI k) Fl.s64 := by unfold Fl.flt; rw [h]

set_option maxHeartbeats 800000 in
theorem float_any (n : Int) (w : World) :
    Calls Try.prog 15 #[.int .i64 n] w fun e w' => e = .returned (.float .f64 (Fl.flt n)) ∧ w = w' := by
  have key : ∀ k : Int, -64 ≤ k → k ≤ 64 → ∀ w, (binOp .quo 22 (.float .f64 (floatOfInt .f64 k)) (.float .f64 4634204016564240384)).run Try.prog w = .ok (.float .f64 (Fl.divw (Fl.ofI k) Fl.s64)) w :=
    fun k h1 h2 w => run_float_arith (P := Try.prog) w .quo 22 .f64 _ _ _ (Fl.flt_div k h1 h2).1
  by_cases c1 : n < -64
  · rw [flt_eq (show min (max n (-64)) 64 = -64 by omega)]
    have k1 := key (-64) (by omega) (by omega)
    clear key
    go_enter Try.func15, Try.ntmps15
    go_wp2
    go_ret
    exact ⟨rfl, rfl⟩
  · by_cases c2 : 64 < n
    · rw [flt_eq (show min (max n (-64)) 64 = 64 by omega)]
      have k1 := key 64 (by omega) (by omega)
      clear key
      go_enter Try.func15, Try.ntmps15
      go_wp2
      go_ret
      exact ⟨rfl, rfl⟩
    · rw [flt_eq (show min (max n (-64)) 64 = n by omega)]
      have k1 := key n (by omega) (by omega)
      clear key
      go_enter Try.func15, Try.ntmps15
      go_wp2
      go_ret
      exact ⟨rfl, rfl⟩

set_option maxHeartbeats 800000 in
theorem rfloat_any (n : Int) (w : World) :
    Calls Try.prog 21 #[.int .i64 n] w fun e w' => e = .returned (.float .f64 (Fl.flt n)) ∧ w = w' := by
  have key : ∀ k : Int, -64 ≤ k → k ≤ 64 → ∀ w, (binOp .quo 22 (.float .f64 (floatOfInt .f64 k)) (.float .f64 4634204016564240384)).run Try.prog w = .ok (.float .f64 (Fl.divw (Fl.ofI k) Fl.s64)) w :=
    fun k h1 h2 w => run_float_arith (P := Try.prog) w .quo 22 .f64 _ _ _ (Fl.flt_div k h1 h2).1
  by_cases c1 : n ≤ -64
  · rw [flt_eq (show min (max n (-64)) 64 = -64 by omega)]
    have k1 := key (-64) (by omega) (by omega)
    clear key
    go_enter Try.func21, Try.ntmps21
    go_wp2
    go_ret
    exact ⟨rfl, rfl⟩
  · by_cases c2 : 64 ≤ n
    · rw [flt_eq (show min (max n (-64)) 64 = 64 by omega)]
      have k1 := key 64 (by omega) (by omega)
      clear key
      go_enter Try.func21, Try.ntmps21
      go_wp2
      go_ret
      exact ⟨rfl, rfl⟩
    · rw [flt_eq (show min (max n (-64)) 64 = n by omega)]
      have k1 := key n (by omega) (by omega)
      clear key
      go_enter Try.func21, Try.ntmps21
      go_wp2
      go_ret
      exact ⟨rfl, rfl⟩

/-! ### Mix -/
set_option maxHeartbeats 800000 in
theorem mix_any (a b : Nat) (ha : a < 2 ^ 64) (hb : b < 2 ^ 64) (w : World) :
    Calls Try.prog 16 #[.float .f64 a, .float .f64 b] w fun e w' => e = .returned (.float .f64 (Fl.mix a b)) ∧ w = w' := by
  have k1 := fun w => run_float_arith (P := Try.prog) w .add 22 .f64 _ _ _ (Fl.mix_add ha hb).1
  have H : Fl.mix a b = Fl.cln (Fl.addw (Fl.cln a) (Fl.cln b)) := rfl
  rw [H]
  clear H ha hb
  go_enter Try.func16, Try.ntmps16
  go_wp2_with (go_at_call 11; refine (clean_any _ _).mono ?_; rintro e w' ⟨rfl, rfl⟩)
  go_ret
  exact ⟨rfl, rfl⟩
set_option maxHeartbeats 800000 in
theorem rmix_any (a b : Nat) (ha : a < 2 ^ 64) (hb : b < 2 ^ 64) (w : World) :
    Calls Try.prog 20 #[.float .f64 a, .float .f64 b] w fun e w' => e = .returned (.float .f64 (Fl.mix a b)) ∧ w = w' := by
  have k1 := fun w => run_float_arith (P := Try.prog) w .add 22 .f64 _ _ _ (Fl.mix_add ha hb).1
  have H : Fl.mix a b = Fl.cln (Fl.addw (Fl.cln a) (Fl.cln b)) := rfl
  rw [H]
  clear H ha hb
  go_enter Try.func20, Try.ntmps20
  go_wp2_with (go_at_call 18; refine (rclean_any _ _).mono ?_; rintro e w' ⟨rfl, rfl⟩)
  go_ret
  exact ⟨rfl, rfl⟩

/-! ### Pick -/
set_option maxHeartbeats 800000 in
theorem pick_any (n m : Int) (hm : 0 < m) (hm2 : m ≤ 1000000) (w : World) :
    Calls Try.prog 22 #[.int .i64 n, .int .i64 m] w fun e w' => e = .returned (.int .i64 (n % m)) ∧ w = w' := by
  have b1 := Int.emod_nonneg n (show m ≠ 0 by omega)
  have b2 := Int.emod_lt_of_pos n hm
  have h1 : ¬ m = 0 := by omega
  by_cases c : n.tmod m < 0
  · have e : n.tmod m + m = n % m := by
      rw [Int.tmod_eq_emod] at c ⊢
      split at c
      · omega
      · rename_i h
        have : (m.natAbs : Int) = m := by omega
        rw [if_neg h]; omega
    have e2 : -1000000 ≤ n.tmod m := by omega
    have H := Lib.hid e
    clear e b1 b2
    go_enter Try.func22, Try.ntmps22
    go_wp2
    go_ret
    exact ⟨ret_i H.out, rfl⟩
  · have e : n.tmod m = n % m := by
      rw [Int.tmod_eq_emod] at c ⊢
      split
      · omega
      · rename_i h
        rw [if_neg h] at c
        have : (m.natAbs : Int) = m := by omega
        omega
    have H := Lib.hid e
    clear e b1 b2
    go_enter Try.func22, Try.ntmps22
    go_wp2
    go_ret
    exact ⟨ret_i H.out, rfl⟩

/-! ### the reference's Axis -/
theorem neg_word {x : Nat} (h : x < 2 ^ 64) (hn : nn x) (hs : V x < 0) : Op.negFloat .f64 x = rg x := by
  show Fl.neg x = rg x
  have s1 : sg x = true := by
    cases e : sg x
    · unfold V at hs; rw [e] at hs; simp at hs; omega
    · rfl
  refine Fl.word_ext (Fl.neg_lt h) (Fl.V_rg hn).2.2.1 ?_ ?_
  · rw [Fl.sg_neg h, s1, (Fl.V_rg hn).2.2.2.1]; rfl
  · rw [Fl.rg_neg, (Fl.V_rg hn).2.2.2.2]

theorem o_le_t {x y : Nat} (hx : nn x) (hy : nn y) (h : V x ≤ V y) : (FloatKind.f64.format.order x y == some .lt || FloatKind.f64.format.order x y == some .eq) = true := by
  rw [o_lt hx hy, o_eq hx hy]
  rcases Int.lt_or_eq_of_le h with h | h
  · rw [decide_eq_true h]; rfl
  · rw [decide_eq_true h, Bool.or_true]
theorem o_le_f {x y : Nat} (hx : nn x) (hy : nn y) (h : V y < V x) : (FloatKind.f64.format.order x y == some .lt || FloatKind.f64.format.order x y == some .eq) = false := by
  rw [o_lt hx hy, o_eq hx hy, decide_eq_false (by omega), decide_eq_false (by omega)]; rfl

set_option maxHeartbeats 1600000 in
theorem raxis_any (x d : Nat) (hx : x < 2 ^ 64) (hd : d < 2 ^ 64) (w : World) :
    Calls Try.prog 19 #[.float .f64 x, .float .f64 d] w fun e w' => e = .returned (.int .i64 (Fl.axis x d)) ∧ w = w' := by
  obtain ⟨c1, c2, c3, c4, c5⟩ := Fl.cln_spec hx
  obtain ⟨g1, g2, g3, g4, g5⟩ := Fl.dz_spec hd
  obtain ⟨r1, r2, r3, r4, r5⟩ := Fl.V_rg c1.nn
  have fr : fin (rg (Fl.cln x)) := by unfold fin; rw [r5]; exact c1
  have m1 := fun ts t w => max_r ts t d hd w
  have hvr : V (rg (Fl.cln x)) ≤ (U : Int) := by rw [r1]; omega
  -- the amount's word, whichever way it came
  have same : ¬ V (Fl.cln x) < 0 → Fl.cln x = rg (Fl.cln x) := fun h => by
    by_cases z : V (Fl.cln x) = 0
    · rw [c5 z]; rfl
    · refine Fl.word_ext c2 r3 ?_ r5.symm
      rw [r4]; exact Fl.sg_of_pos (by omega)
  by_cases hs : V (Fl.cln x) < 0
  · have e1 : (FloatKind.f64.format.order (Fl.cln x) 0 == some .lt) = true := by rw [o_lt c1.nn nn_c0, Fl.V_0]; exact decide_eq_true hs
    have H : Fl.axis x d = -Fl.rch (rg (Fl.cln x)) (Fl.dz d) := by unfold Fl.axis; rw [if_pos hs]
    have en := neg_word c2 c1.nn hs
    have hneg : ∀ b w, (Op.unary .neg (.float .f64 b)).run Try.prog w = .ok (.float .f64 (Op.negFloat .f64 b)) w := fun _ _ => rfl
    rw [H]; clear H same
    by_cases k1 : V (rg (Fl.cln x)) ≤ V (Fl.dz d)
    · have e2 := o_le_t fr.nn g1.nn k1
      have H : Fl.rch (rg (Fl.cln x)) (Fl.dz d) = 0 := by unfold Fl.rch; rw [if_pos k1]
      rw [H]
      clear H hs k1 fr hvr r1 r2 r3 r4 r5 c1 c2 c3 c4 c5 g1 g2 g3 g4 g5 hd hx
      go_enter Try.func19, Try.ntmps19
      go_wp2_with (go_at_call 18; refine (rclean_any _ _).mono ?_; rintro e w' ⟨rfl, rfl⟩)
      go_ret
      exact ⟨rfl, rfl⟩
    · have e2 := o_le_f fr.nn g1.nn (by omega)
      by_cases k2 : V (rg (Fl.cln x)) = (U : Int)
      · have e3 : (FloatKind.f64.format.order (rg (Fl.cln x)) 4607182418800017408 == some .eq) = true := by rw [o_eq fr.nn nn_c1, V_c1]; exact decide_eq_true k2
        have H : Fl.rch (rg (Fl.cln x)) (Fl.dz d) = 64 := by unfold Fl.rch; rw [if_neg k1, if_pos k2]
        rw [H]
        clear H hs k1 k2 fr hvr r1 r2 r3 r4 r5 c1 c2 c3 c4 c5 g1 g2 g3 g4 g5 hd hx
        go_enter Try.func19, Try.ntmps19
        go_wp2_with (go_at_call 18; refine (rclean_any _ _).mono ?_; rintro e w' ⟨rfl, rfl⟩)
        go_ret
        exact ⟨rfl, rfl⟩
      · have e3 : (FloatKind.f64.format.order (rg (Fl.cln x)) 4607182418800017408 == some .eq) = false := by rw [o_eq fr.nn nn_c1, V_c1]; exact decide_eq_false k2
        have H : Fl.rch (rg (Fl.cln x)) (Fl.dz d) = Fl.mid (rg (Fl.cln x)) (Fl.dz d) := by unfold Fl.rch; rw [if_neg k1, if_neg k2]
        have M := Fl.mid_spec fr g1 g2 g3 (by omega) hvr
        rw [H]
        clear H hs k1 k2 fr hvr r1 r2 r3 r4 r5 c1 c2 c3 c4 c5 g1 g2 g3 g4 g5 hd hx
        generalize hA : rg (Fl.cln x) = A at *
        generalize hB : Fl.dz d = B at *
        have b1 := fun w => run_float_arith (P := Try.prog) w .sub 22 .f64 A B _ M.s1
        have b2 := fun w => run_float_arith (P := Try.prog) w .sub 22 .f64 4607182418800017408 B _ M.s2
        have b3 := fun w => run_float_arith (P := Try.prog) w .quo 22 .f64 _ _ _ M.q
        have b4 := fun w => run_float_arith (P := Try.prog) w .mul 22 .f64 _ 4634204016564240384 _ M.m
        have b5 := fun w => x_even (Fl.scl A B) w M.num
        have b6 := fun w => run_convert_float_int (P := Try.prog) w 22 3 .f64 .i64 (Fl.rnd A B) (Fl.mid A B) (by rw [Try.underlying22]; rfl) Try.underlying3 (by
          unfold floatToIntVal
          have e3 : (FloatKind.f64.decode (Fl.rnd A B)).toInt .zero = some (Fl.mid A B : Int) := M.int
          have e4 := M.le
          have e5 : IntKind.i64.min ≤ (Fl.mid A B : Int) ∧ (Fl.mid A B : Int) ≤ IntKind.i64.max := by
            have g1 : IntKind.i64.min ≤ 0 := by decide
            have g2 : 64 ≤ IntKind.i64.max := by decide
            omega
          rw [e3]; dsimp only; rw [if_pos e5])
        have e6 : Ieee.double.write ((Ieee.double.read (Fl.scl A B)).integral .even) = Fl.rnd A B := rfl
        rw [e6] at b5
        have hle := M.le
        clear M e6
        go_enter Try.func19, Try.ntmps19
        go_wp2_with (go_at_call 18; refine (rclean_any _ _).mono ?_; rintro e w' ⟨rfl, rfl⟩)
        go_ret
        exact ⟨ret_i (by omega), rfl⟩
  · have e1 : (FloatKind.f64.format.order (Fl.cln x) 0 == some .lt) = false := by rw [o_lt c1.nn nn_c0, Fl.V_0]; exact decide_eq_false hs
    have H : Fl.axis x d = Fl.rch (rg (Fl.cln x)) (Fl.dz d) := by unfold Fl.axis; rw [if_neg hs]
    rw [H]; clear H
    have en := same hs
    rw [← en] at *
    clear same en
    by_cases k1 : V (Fl.cln x) ≤ V (Fl.dz d)
    · have e2 := o_le_t c1.nn g1.nn k1
      have H : Fl.rch (Fl.cln x) (Fl.dz d) = 0 := by unfold Fl.rch; rw [if_pos k1]
      rw [H]
      clear H hs k1 fr hvr r1 r2 r3 r4 c1 c2 c3 c4 c5 g1 g2 g3 g4 g5 hd hx
      go_enter Try.func19, Try.ntmps19
      go_wp2_with (go_at_call 18; refine (rclean_any _ _).mono ?_; rintro e w' ⟨rfl, rfl⟩)
      go_ret
      exact ⟨rfl, rfl⟩
    · have e2 := o_le_f c1.nn g1.nn (by omega)
      by_cases k2 : V (Fl.cln x) = (U : Int)
      · have e3 : (FloatKind.f64.format.order (Fl.cln x) 4607182418800017408 == some .eq) = true := by rw [o_eq c1.nn nn_c1, V_c1]; exact decide_eq_true k2
        have H : Fl.rch (Fl.cln x) (Fl.dz d) = 64 := by unfold Fl.rch; rw [if_neg k1, if_pos k2]
        rw [H]
        clear H hs k1 k2 fr hvr r1 r2 r3 r4 c1 c2 c3 c4 c5 g1 g2 g3 g4 g5 hd hx
        go_enter Try.func19, Try.ntmps19
        go_wp2_with (go_at_call 18; refine (rclean_any _ _).mono ?_; rintro e w' ⟨rfl, rfl⟩)
        go_ret
        exact ⟨rfl, rfl⟩
      · have e3 : (FloatKind.f64.format.order (Fl.cln x) 4607182418800017408 == some .eq) = false := by rw [o_eq c1.nn nn_c1, V_c1]; exact decide_eq_false k2
        have H : Fl.rch (Fl.cln x) (Fl.dz d) = Fl.mid (Fl.cln x) (Fl.dz d) := by unfold Fl.rch; rw [if_neg k1, if_neg k2]
        have M := Fl.mid_spec c1 g1 g2 g3 (by omega) c4
        rw [H]
        clear H hs k1 k2 fr hvr r1 r2 r3 r4 c1 c2 c3 c4 c5 g1 g2 g3 g4 g5 hd hx
        generalize hA : Fl.cln x = A at *
        generalize hB : Fl.dz d = B at *
        have b1 := fun w => run_float_arith (P := Try.prog) w .sub 22 .f64 A B _ M.s1
        have b2 := fun w => run_float_arith (P := Try.prog) w .sub 22 .f64 4607182418800017408 B _ M.s2
        have b3 := fun w => run_float_arith (P := Try.prog) w .quo 22 .f64 _ _ _ M.q
        have b4 := fun w => run_float_arith (P := Try.prog) w .mul 22 .f64 _ 4634204016564240384 _ M.m
        have b5 := fun w => x_even (Fl.scl A B) w M.num
        have b6 := fun w => run_convert_float_int (P := Try.prog) w 22 3 .f64 .i64 (Fl.rnd A B) (Fl.mid A B) (by rw [Try.underlying22]; rfl) Try.underlying3 (by
          unfold floatToIntVal
          have e3 : (FloatKind.f64.decode (Fl.rnd A B)).toInt .zero = some (Fl.mid A B : Int) := M.int
          have e4 := M.le
          have e5 : IntKind.i64.min ≤ (Fl.mid A B : Int) ∧ (Fl.mid A B : Int) ≤ IntKind.i64.max := by
            have g1 : IntKind.i64.min ≤ 0 := by decide
            have g2 : 64 ≤ IntKind.i64.max := by decide
            omega
          rw [e3]; dsimp only; rw [if_pos e5])
        have e6 : Ieee.double.write ((Ieee.double.read (Fl.scl A B)).integral .even) = Fl.rnd A B := rfl
        rw [e6] at b5
        have hle := M.le
        clear M e6
        go_enter Try.func19, Try.ntmps19
        go_wp2_with (go_at_call 18; refine (rclean_any _ _).mono ?_; rintro e w' ⟨rfl, rfl⟩)
        go_ret
        exact ⟨ret_i (by omega), rfl⟩

end Go.Proofs.Ytjlmgbbahbdmlaa

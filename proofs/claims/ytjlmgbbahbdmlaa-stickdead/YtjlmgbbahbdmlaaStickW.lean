/- What the program's functions of package stick (and the reference's, and the hand's) answer, as plain functions on words: one contract a function. -/
import Derived.Test.YtjlmgbbahbdmlaaRows
import Derived.Test.YtjlmgbbahbdmlaaStick
import Derived.WalkKit
import Derived.ProofKit
import Derived.OpenShut
import Derived.WalkLawsBesides
import Derived.Laws.Externs
import Derived.Lib.Hide
namespace Go.Proofs.Ytjlmgbbahbdmlaa
open Go.ChangeShapes Go.WideShapes Go.ChangeAt Go.RowKit
open Fl (V nn fin rg sg U)

@[go_sem] theorem x_bits (x : Nat) (w : World) : (callFunc 10 #[.float .f64 x]).run Try.prog w = .ok (.value (.int .u64 x)) w :=
  run_callFunc_extern (e := Extern.MathFloatBits.float64bits) Try.func10 (by kernel_rfl) (by kernel_rfl) (by kernel_rfl) (by kernel_rfl) _ w
@[go_sem] theorem x_from (x : Int) (w : World) : (callFunc 23 #[.int .u64 x]).run Try.prog w = .ok (.value (.float .f64 x.toNat)) w :=
  run_callFunc_extern (e := Extern.MathFloatBits.float64frombits) Try.func23 (by kernel_rfl) (by kernel_rfl) (by kernel_rfl) (by kernel_rfl) _ w
theorem x_even (x : Nat) (w : World) (h : ∃ s m p, Ieee.double.read x = .number s m p) : (callFunc 28 #[.float .f64 x]).run Try.prog w = .ok (.value (.float .f64 (Ieee.double.write ((Ieee.double.read x).integral .even)))) w := by
  rw [run_callFunc_extern (e := Extern.MathFloor.toIntegral "math.RoundToEven" .even) Try.func28 (by kernel_rfl) (by kernel_rfl) (by kernel_rfl) (by kernel_rfl) _ w]
  obtain ⟨s, m, p, e⟩ := h
  have e' : FloatKind.f64.decode x = .number s m p := e
  have hA : ∃ A : Bool → Nat → Sem Value, Extern.MathFloor.toIntegral "math.RoundToEven" .even #[.float .f64 x] = (match FloatKind.f64.decode x with | .nan s t => A s t | d => pure (.float .f64 (FloatKind.f64.encode (d.integral .even)))) := ⟨_, rfl⟩
  obtain ⟨A, hA⟩ := hA
  rw [hA, e', e]
  rfl

theorem d_fmt : FloatKind.f64.format = Ieee.double := rfl

/-! ### what comparisons answer -/
theorem o_self_nan {x : Nat} (h : ¬ nn x) : (FloatKind.f64.format.order x x != some .eq) = true := by
  rw [d_fmt, Fl.order_nan_left _ h]; rfl
theorem o_self {x : Nat} (h : nn x) : (FloatKind.f64.format.order x x != some .eq) = false := by
  rw [d_fmt, Fl.order_nn h h]; simp
theorem o_eq {x y : Nat} (hx : nn x) (hy : nn y) : (FloatKind.f64.format.order x y == some .eq) = decide (V x = V y) := by
  rw [d_fmt, Fl.order_nn hx hy]
  rcases Int.lt_trichotomy (V x) (V y) with h | h | h
  · rw [Int.compare_eq_lt.2 h, decide_eq_false (by omega)]; rfl
  · rw [h, decide_eq_true rfl]; simp
  · rw [Int.compare_eq_gt.2 h, decide_eq_false (by omega)]; rfl
theorem o_lt {x y : Nat} (hx : nn x) (hy : nn y) : (FloatKind.f64.format.order x y == some .lt) = decide (V x < V y) := by
  rw [d_fmt, Fl.order_nn hx hy]
  rcases Int.lt_trichotomy (V x) (V y) with h | h | h
  · rw [Int.compare_eq_lt.2 h, decide_eq_true h]; rfl
  · rw [h, decide_eq_false (by omega)]; simp
  · rw [Int.compare_eq_gt.2 h, decide_eq_false (by omega)]; rfl
theorem o_gt {x y : Nat} (hx : nn x) (hy : nn y) : (FloatKind.f64.format.order x y == some .gt) = decide (V y < V x) := by
  rw [d_fmt, Fl.order_nn hx hy]
  rcases Int.lt_trichotomy (V x) (V y) with h | h | h
  · rw [Int.compare_eq_lt.2 h, decide_eq_false (by omega)]; rfl
  · rw [h, decide_eq_false (by omega)]; simp
  · rw [Int.compare_eq_gt.2 h, decide_eq_true h]; rfl

theorem nn_c0 : nn 0 := by decide +kernel
theorem nn_c1 : nn 4607182418800017408 := by decide +kernel
theorem nn_cm : nn 13830554455654793216 := by decide +kernel
theorem V_c1 : V 4607182418800017408 = (U : Int) := Fl.V_one
theorem V_cm : V 13830554455654793216 = -(U : Int) := Fl.V_mone

/-! ### Clean -/
theorem cln_nan {x : Nat} (h : ¬ nn x) : Fl.cln x = 0 := by unfold Fl.cln; rw [if_neg (fun e => h e.1)]
theorem cln_zero {x : Nat} (h : V x = 0) : Fl.cln x = 0 := by unfold Fl.cln; rw [if_neg (fun e => e.2 h)]
theorem cln_more {x : Nat} (hn : nn x) (h : (U : Int) < V x) : Fl.cln x = 4607182418800017408 := by
  have := Fl.Upos
  unfold Fl.cln; rw [if_pos ⟨hn, by omega⟩, if_pos h]; rfl
theorem cln_less {x : Nat} (hn : nn x) (h : V x < -(U : Int)) : Fl.cln x = 13830554455654793216 := by
  have := Fl.Upos
  unfold Fl.cln; rw [if_pos ⟨hn, by omega⟩, if_neg (by omega), if_pos h]; rfl
theorem cln_else {x : Nat} (hn : nn x) (h0 : V x ≠ 0) (h1 : ¬ (U : Int) < V x) (h2 : ¬ V x < -(U : Int)) : Fl.cln x = x := by
  unfold Fl.cln; rw [if_pos ⟨hn, h0⟩, if_neg h1, if_neg h2]

theorem ret_f {a b : Nat} (h : a = b) : Ending.returned (.float .f64 a) = .returned (.float .f64 b) := by rw [h]

set_option maxHeartbeats 800000 in
theorem clean_any (x : Nat) (w : World) :
    Calls Try.prog 11 #[.float .f64 x] w fun e w' => e = .returned (.float .f64 (Fl.cln x)) ∧ w = w' := by
  by_cases hn : nn x
  · have h1 := o_self hn
    by_cases h0 : V x = 0
    · have h2 : (FloatKind.f64.format.order x 0 == some .eq) = true := by rw [o_eq hn nn_c0, Fl.V_0]; exact decide_eq_true h0
      have H := cln_zero h0
      clear h0 hn
      rw [H]; clear H
      go_enter Try.func11, Try.ntmps11
      go_wp2
      go_ret
      exact ⟨rfl, rfl⟩
    · have h2 : (FloatKind.f64.format.order x 0 == some .eq) = false := by rw [o_eq hn nn_c0, Fl.V_0]; exact decide_eq_false h0
      by_cases hm : (U : Int) < V x
      · have h3 : (FloatKind.f64.format.order x 4607182418800017408 == some .gt) = true := by rw [o_gt hn nn_c1, V_c1]; exact decide_eq_true hm
        rw [cln_more hn hm]
        clear h0 hn hm
        go_enter Try.func11, Try.ntmps11
        go_wp2
        go_ret
        exact ⟨rfl, rfl⟩
      · have h3 : (FloatKind.f64.format.order x 4607182418800017408 == some .gt) = false := by rw [o_gt hn nn_c1, V_c1]; exact decide_eq_false hm
        by_cases hl : V x < -(U : Int)
        · have h4 : (FloatKind.f64.format.order x 13830554455654793216 == some .lt) = true := by rw [o_lt hn nn_cm, V_cm]; exact decide_eq_true hl
          rw [cln_less hn hl]
          clear h0 hn hm hl
          go_enter Try.func11, Try.ntmps11
          go_wp2
          go_ret
          exact ⟨rfl, rfl⟩
        · have h4 : (FloatKind.f64.format.order x 13830554455654793216 == some .lt) = false := by rw [o_lt hn nn_cm, V_cm]; exact decide_eq_false hl
          rw [cln_else hn h0 hm hl]
          clear h0 hn hm hl
          go_enter Try.func11, Try.ntmps11
          go_wp2
          go_ret
          exact ⟨rfl, rfl⟩
  · have h1 := o_self_nan hn
    rw [cln_nan hn]
    clear hn
    go_enter Try.func11, Try.ntmps11
    go_wp2
    go_ret
    exact ⟨rfl, rfl⟩

/-! ### the reference's Clean: the same -/
set_option maxHeartbeats 800000 in
theorem rclean_any (x : Nat) (w : World) :
    Calls Try.prog 18 #[.float .f64 x] w fun e w' => e = .returned (.float .f64 (Fl.cln x)) ∧ w = w' := by
  by_cases hn : nn x
  · have h1 := o_self hn
    by_cases h0 : V x = 0
    · have h2 : (FloatKind.f64.format.order x 0 == some .eq) = true := by rw [o_eq hn nn_c0, Fl.V_0]; exact decide_eq_true h0
      have H := cln_zero h0
      clear h0 hn
      rw [H]; clear H
      go_enter Try.func18, Try.ntmps18
      go_wp2
      go_ret
      exact ⟨rfl, rfl⟩
    · have h2 : (FloatKind.f64.format.order x 0 == some .eq) = false := by rw [o_eq hn nn_c0, Fl.V_0]; exact decide_eq_false h0
      by_cases hm : (U : Int) < V x
      · have h3 : (FloatKind.f64.format.order x 4607182418800017408 == some .gt) = true := by rw [o_gt hn nn_c1, V_c1]; exact decide_eq_true hm
        rw [cln_more hn hm]
        clear h0 hn hm
        go_enter Try.func18, Try.ntmps18
        go_wp2
        go_ret
        exact ⟨rfl, rfl⟩
      · have h3 : (FloatKind.f64.format.order x 4607182418800017408 == some .gt) = false := by rw [o_gt hn nn_c1, V_c1]; exact decide_eq_false hm
        by_cases hl : V x < -(U : Int)
        · have h4 : (FloatKind.f64.format.order x 13830554455654793216 == some .lt) = true := by rw [o_lt hn nn_cm, V_cm]; exact decide_eq_true hl
          rw [cln_less hn hl]
          clear h0 hn hm hl
          go_enter Try.func18, Try.ntmps18
          go_wp2
          go_ret
          exact ⟨rfl, rfl⟩
        · have h4 : (FloatKind.f64.format.order x 13830554455654793216 == some .lt) = false := by rw [o_lt hn nn_cm, V_cm]; exact decide_eq_false hl
          rw [cln_else hn h0 hm hl]
          clear h0 hn hm hl
          go_enter Try.func18, Try.ntmps18
          go_wp2
          go_ret
          exact ⟨rfl, rfl⟩
  · have h1 := o_self_nan hn
    rw [cln_nan hn]
    clear hn
    go_enter Try.func18, Try.ntmps18
    go_wp2
    go_ret
    exact ⟨rfl, rfl⟩

/-! ### Abs -/
theorem andNot_top (x : Nat) (h : x < 2 ^ 64) : (bits BinOp.andNot IntKind.u64 (x : Int) 9223372036854775808).toNat = rg x := by
  unfold bits
  dsimp only
  have e : (BitVec.ofInt IntKind.u64.bits (x : Int) &&& ~~~BitVec.ofInt IntKind.u64.bits 9223372036854775808).toNat = x % 2 ^ 63 := by
    show (BitVec.ofInt 64 (x : Int) &&& ~~~BitVec.ofInt 64 9223372036854775808).toNat = x % 2 ^ 63
    rw [BitVec.ofInt_natCast]
    have e2 : (~~~BitVec.ofInt 64 9223372036854775808) = BitVec.ofNat 64 (2 ^ 63 - 1) := by decide +kernel
    rw [e2, BitVec.toNat_and, BitVec.toNat_ofNat, BitVec.toNat_ofNat, Nat.mod_eq_of_lt h, Nat.mod_eq_of_lt (by decide)]
    exact Nat.and_two_pow_sub_one_eq_mod x 63
  rw [e]
  have hw : IntKind.u64.wrap ((x % 2 ^ 63 : Nat) : Int) = ((x % 2 ^ 63 : Nat) : Int) := IntWalk.u64_in _ ⟨by omega, by omega⟩
  rw [hw]; rfl

set_option maxHeartbeats 400000 in
theorem abs_any (x : Nat) (h : x < 2 ^ 64) (w : World) :
    Calls Try.prog 26 #[.float .f64 x] w fun e w' => e = .returned (.float .f64 (rg x)) ∧ w = w' := by
  have H := andNot_top x h
  clear h
  go_enter Try.func26, Try.ntmps26
  go_wp2
  go_ret
  exact ⟨rfl, rfl⟩

end Go.Proofs.Ytjlmgbbahbdmlaa

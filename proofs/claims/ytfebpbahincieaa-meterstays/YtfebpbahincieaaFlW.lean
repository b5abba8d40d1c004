/- Floats in a walk: what comparisons answer, Float64bits and its like, Abs; and the hand's Pick. -/
import Derived.Test.YtfebpbahincieaaRows
import Derived.Test.YtfebpbahincieaaStick
import Derived.WalkKit
import Derived.ProofKit
import Derived.OpenShut
import Derived.WalkLawsBesides
import Derived.Laws.Externs
import Derived.Lib.Hide
namespace Go.Proofs.Ytfebpbahincieaa
open Go.ChangeShapes Go.WideShapes Go.ChangeAt Go.RowKit
open Fl (V nn fin rg sg U)

@[go_sem] theorem x_bits (x : Nat) (w : World) : (callFunc 14 #[.float .f64 x]).run Try.prog w = .ok (.value (.int .u64 x)) w :=
  run_callFunc_extern (e := Extern.MathFloatBits.float64bits) Try.func14 (by kernel_rfl) (by kernel_rfl) (by kernel_rfl) (by kernel_rfl) _ w
@[go_sem] theorem x_from (x : Int) (w : World) : (callFunc 25 #[.int .u64 x]).run Try.prog w = .ok (.value (.float .f64 x.toNat)) w :=
  run_callFunc_extern (e := Extern.MathFloatBits.float64frombits) Try.func25 (by kernel_rfl) (by kernel_rfl) (by kernel_rfl) (by kernel_rfl) _ w
theorem d_fmt : FloatKind.f64.format = Ieee.double := rfl

/-! ### what comparisons answer -/
theorem o_self_nan {x : Nat} (h : ¬ nn x) : (FloatKind.f64.format.order x x != some .eq) = true := by
  rw [d_fmt, Fl.order_nan_left _ h]; rfl
theorem o_self {x : Nat} (h : nn x) : (FloatKind.f64.format.order x x != some .eq) = false := by
  rw [d_fmt, Fl.order_nn h h]; simp
theorem o_eq {x y : Nat} (hx : nn x) (hy : nn y) : (FloatKind.f64.format.order x y == some .eq) = decide (V x = V y) := by
  rw [d_fmt, Fl.order_nn hx hy]
  rcases Int.lt_trichotomy (V x) (V y) with h | h | h
  · rw [Int.compare_eq_lt.2 h, decide_eq_false (by omega)]; rfl
  · rw [h, decide_eq_true rfl]; simp
  · rw [Int.compare_eq_gt.2 h, decide_eq_false (by omega)]; rfl
theorem o_lt {x y : Nat} (hx : nn x) (hy : nn y) : (FloatKind.f64.format.order x y == some .lt) = decide (V x < V y) := by
  rw [d_fmt, Fl.order_nn hx hy]
  rcases Int.lt_trichotomy (V x) (V y) with h | h | h
  · rw [Int.compare_eq_lt.2 h, decide_eq_true h]; rfl
  · rw [h, decide_eq_false (by omega)]; simp
  · rw [Int.compare_eq_gt.2 h, decide_eq_false (by omega)]; rfl
theorem o_gt {x y : Nat} (hx : nn x) (hy : nn y) : (FloatKind.f64.format.order x y == some .gt) = decide (V y < V x) := by
  rw [d_fmt, Fl.order_nn hx hy]
  rcases Int.lt_trichotomy (V x) (V y) with h | h | h
  · rw [Int.compare_eq_lt.2 h, decide_eq_false (by omega)]; rfl
  · rw [h, decide_eq_false (by omega)]; simp
  · rw [Int.compare_eq_gt.2 h, decide_eq_true h]; rfl

theorem nn_c0 : nn 0 := by decide +kernel
theorem nn_c1 : nn 4607182418800017408 := by decide +kernel
theorem nn_cm : nn 13830554455654793216 := by decide +kernel
theorem V_c1 : V 4607182418800017408 = (U : Int) := Fl.V_one
theorem V_cm : V 13830554455654793216 = -(U : Int) := Fl.V_mone

theorem ret_f {a b : Nat} (h : a = b) : Ending.returned (.float .f64 a) = .returned (.float .f64 b) := by rw [h]
theorem ret_i {a b : Int} (h : a = b) : Ending.returned (.int .i64 a) = .returned (.int .i64 b) := by rw [h]

theorem o_le_t {x y : Nat} (hx : nn x) (hy : nn y) (h : V x ≤ V y) : (FloatKind.f64.format.order x y == some .lt || FloatKind.f64.format.order x y == some .eq) = true := by
  rw [o_lt hx hy, o_eq hx hy]
  rcases Int.lt_or_eq_of_le h with h | h
  · rw [decide_eq_true h]; rfl
  · rw [decide_eq_true h, Bool.or_true]
theorem o_le_f {x y : Nat} (hx : nn x) (hy : nn y) (h : V y < V x) : (FloatKind.f64.format.order x y == some .lt || FloatKind.f64.format.order x y == some .eq) = false := by
  rw [o_lt hx hy, o_eq hx hy, decide_eq_false (by omega), decide_eq_false (by omega)]; rfl

theorem o_ge {x y : Nat} (hx : nn x) (hy : nn y) : (FloatKind.f64.format.order x y == some .gt || FloatKind.f64.format.order x y == some .eq) = decide (V y ≤ V x) := by
  rw [o_gt hx hy, o_eq hx hy]
  by_cases h : V y ≤ V x
  · rw [decide_eq_true h]
    rcases Int.lt_or_eq_of_le h with h | h
    · rw [decide_eq_true h]; rfl
    · rw [decide_eq_true h.symm, Bool.or_true]
  · rw [decide_eq_false h, decide_eq_false (by omega), decide_eq_false (by omega)]; rfl
theorem o_le {x y : Nat} (hx : nn x) (hy : nn y) : (FloatKind.f64.format.order x y == some .lt || FloatKind.f64.format.order x y == some .eq) = decide (V x ≤ V y) := by
  rw [o_lt hx hy, o_eq hx hy]
  by_cases h : V x ≤ V y
  · rw [decide_eq_true h]
    rcases Int.lt_or_eq_of_le h with h | h
    · rw [decide_eq_true h]; rfl
    · rw [decide_eq_true h, Bool.or_true]
  · rw [decide_eq_false h, decide_eq_false (by omega), decide_eq_false (by omega)]; rfl

/-! ### Abs -/
theorem andNot_top (x : Nat) (h : x < 2 ^ 64) : (bits BinOp.andNot IntKind.u64 (x : Int) 9223372036854775808).toNat = rg x := by
  unfold bits
  dsimp only
  have e : (BitVec.ofInt IntKind.u64.bits (x : Int) &&& ~~~BitVec.ofInt IntKind.u64.bits 9223372036854775808).toNat = x % 2 ^ 63 := by
    show (BitVec.ofInt 64 (x : Int) &&& ~~~BitVec.ofInt 64 9223372036854775808).toNat = x % 2 ^ 63
    rw [BitVec.ofInt_natCast]
    have e2 : (~~~BitVec.ofInt 64 9223372036854775808) = BitVec.ofNat 64 (2 ^ 63 - 1) := by decide +kernel
    rw [e2, BitVec.toNat_and, BitVec.toNat_ofNat, BitVec.toNat_ofNat, Nat.mod_eq_of_lt h, Nat.mod_eq_of_lt (by decide)]
    exact Nat.and_two_pow_sub_one_eq_mod x 63
  rw [e]
  have hw : IntKind.u64.wrap ((x % 2 ^ 63 : Nat) : Int) = ((x % 2 ^ 63 : Nat) : Int) := IntWalk.u64_in _ ⟨by omega, by omega⟩
  rw [hw]; rfl

set_option maxHeartbeats 400000 in
theorem abs_any (x : Nat) (h : x < 2 ^ 64) (w : World) :
    Calls Try.prog 23 #[.float .f64 x] w fun e w' => e = .returned (.float .f64 (rg x)) ∧ w = w' := by
  have H := andNot_top x h
  clear h
  go_enter Try.func23, Try.ntmps23
  go_wp2
  go_ret
  exact ⟨rfl, rfl⟩

/-! ### Pick -/
set_option maxHeartbeats 800000 in
theorem pick_any (n m : Int) (hm : 0 < m) (hm2 : m ≤ 1000000) (w : World) :
    Calls Try.prog 17 #[.int .i64 n, .int .i64 m] w fun e w' => e = .returned (.int .i64 (n % m)) ∧ w = w' := by
  have b1 := Int.emod_nonneg n (show m ≠ 0 by omega)
  have b2 := Int.emod_lt_of_pos n hm
  have h1 : ¬ m = 0 := by omega
  by_cases c : n.tmod m < 0
  · have e : n.tmod m + m = n % m := by
      rw [Int.tmod_eq_emod] at c ⊢
      split at c
      · omega
      · rename_i h
        have : (m.natAbs : Int) = m := by omega
        rw [if_neg h]; omega
    have e2 : -1000000 ≤ n.tmod m := by omega
    have H := Lib.hid e
    clear e b1 b2
    go_enter Try.func17, Try.ntmps17
    go_wp2
    go_ret
    exact ⟨ret_i H.out, rfl⟩
  · have e : n.tmod m = n % m := by
      rw [Int.tmod_eq_emod] at c ⊢
      split
      · omega
      · rename_i h
        rw [if_neg h] at c
        have : (m.natAbs : Int) = m := by omega
        omega
    have H := Lib.hid e
    clear e b1 b2
    go_enter Try.func17, Try.ntmps17
    go_wp2
    go_ret
    exact ⟨ret_i H.out, rfl⟩

end Go.Proofs.Ytfebpbahincieaa

/- The hand's Float: of any numbers some word of 64 bits. -/
import Derived.Test.YtfebpbahincieaaFlW
namespace Go.Proofs.Ytfebpbahincieaa
open Go.ChangeShapes Go.WideShapes Go.ChangeAt Go.RowKit
open Fl (V nn fin rg sg U)

def SomeF (w : World) (e : Ending) (w' : World) : Prop := ∃ y : Nat, y < 2 ^ 64 ∧ e = .returned (.float .f64 y) ∧ w = w'

theorem somef (w : World) (y : Nat) (h : y < 18446744073709551616) : SomeF w (.returned (.float .f64 y)) w := ⟨y, h, rfl, rfl⟩

theorem b_or0 : (bits BinOp.or IntKind.u64 (bits BinOp.andNot IntKind.u64 0 9223372036854775808) (bits BinOp.and IntKind.u64 13830554455654793216 9223372036854775808)).toNat = 9223372036854775808 := by decide +kernel

set_option maxHeartbeats 400000 in
theorem copysign_0 (w : World) :
    Calls Try.prog 13 #[.float .f64 0, .float .f64 13830554455654793216] w fun e w' => e = .returned (.float .f64 9223372036854775808) ∧ w = w' := by
  have h := b_or0
  go_enter Try.func13, Try.ntmps13
  go_wp2
  go_ret
  exact ⟨rfl, rfl⟩

theorem n1 : (FloatKind.f64.format.order 4607182418800017408 4607182418800017408 != some .eq) = false := by decide +kernel
theorem n2 : (FloatKind.f64.format.order 4611686018427387904 4611686018427387904 != some .eq) = false := by decide +kernel
theorem n3 : (FloatKind.f64.format.order 4607182418800017408 4611686018427387904 == some .eq) = false := by decide +kernel
theorem n4 : (FloatKind.f64.format.order 4607182418800017408 0 == some .eq) = false := by decide +kernel
theorem n5 : (FloatKind.f64.format.order 4611686018427387904 4607182418800017408 == some .gt) = true := by decide +kernel
theorem n6 : (FloatKind.f64.format.order 4607182418800017408 0 == some .gt) = true := by decide +kernel
theorem n7 : (FloatKind.f64.format.order 0 0 != some .eq) = false := by decide +kernel
theorem n8 : (FloatKind.f64.format.order 0 4607182418800017408 == some .gt) = false := by decide +kernel

set_option maxHeartbeats 400000 in
theorem next_2 (w : World) :
    Calls Try.prog 26 #[.float .f64 4607182418800017408, .float .f64 4611686018427387904] w fun e w' => e = .returned (.float .f64 4607182418800017409) ∧ w = w' := by
  have m1 := n1
  have m2 := n2
  have m3 := n3
  have m4 := n4
  have m5 := n5
  have m6 := n6
  go_enter Try.func26, Try.ntmps26
  go_wp2
  go_ret
  exact ⟨rfl, rfl⟩
set_option maxHeartbeats 400000 in
theorem next_0 (w : World) :
    Calls Try.prog 26 #[.float .f64 4607182418800017408, .float .f64 0] w fun e w' => e = .returned (.float .f64 4607182418800017407) ∧ w = w' := by
  have m1 := n1
  have m2 := n7
  have m4 := n4
  have m5 := n8
  have m6 := n6
  go_enter Try.func26, Try.ntmps26
  go_wp2
  go_ret
  exact ⟨rfl, rfl⟩

def f128 : Nat := 4638707616191610880
def f900 : Nat := 4651127699538968576
theorem quo_some (k : Int) (d : Nat) (hk : -2000 ≤ k ∧ k ≤ 2000) (hd : fin d) (hp : 0 < V d) : Ieee.double.div (floatOfInt .f64 k) d = some (Fl.divw (floatOfInt .f64 k) d) ∧ Fl.divw (floatOfInt .f64 k) d < 18446744073709551616 := by
  obtain ⟨f, _, _⟩ := Fl.ofInt_V k (by have : (2000 : Nat) < 2 ^ 53 := by decide
                                       omega)
  obtain ⟨r, e, R, _⟩ := Fl.div_fin f hd hp
  have e' : Ieee.double.div (floatOfInt .f64 k) d = some r := e
  unfold Fl.divw; rw [e']
  exact ⟨rfl, R.1⟩
theorem fin128 : fin 4638707616191610880 := by decide +kernel
theorem fin900 : fin 4651127699538968576 := by decide +kernel
theorem V128 : 0 < V 4638707616191610880 := by decide +kernel
theorem V900 : 0 < V 4651127699538968576 := by decide +kernel

theorem quo128 (X : Int) (w : World) : (binOp .quo 22 (.float .f64 (floatOfInt .f64 (X % 257 - 128))) (.float .f64 4638707616191610880)).run Try.prog w = .ok (.float .f64 (Fl.divw (floatOfInt .f64 (X % 257 - 128)) 4638707616191610880)) w :=
  run_float_arith (P := Try.prog) w .quo 22 .f64 _ _ _ (quo_some _ _ (by omega) fin128 V128).1
theorem quo900 (X : Int) (w : World) : (binOp .quo 22 (.float .f64 (floatOfInt .f64 (X % 2001 - 1000))) (.float .f64 4651127699538968576)).run Try.prog w = .ok (.float .f64 (Fl.divw (floatOfInt .f64 (X % 2001 - 1000)) 4651127699538968576)) w :=
  run_float_arith (P := Try.prog) w .quo 22 .f64 _ _ _ (quo_some _ _ (by omega) fin900 V900).1
theorem lt128 (X : Int) : Fl.divw (floatOfInt .f64 (X % 257 - 128)) 4638707616191610880 < 18446744073709551616 := (quo_some _ _ (by omega) fin128 V128).2
theorem lt900 (X : Int) : Fl.divw (floatOfInt .f64 (X % 2001 - 1000)) 4651127699538968576 < 18446744073709551616 := (quo_some _ _ (by omega) fin900 V900).2

set_option maxHeartbeats 400000 in
theorem handf_0 (n : Int) (x : Nat) (hk : n % 30 = 0) (w : World) :
    Calls Try.prog 16 #[.int .i64 n, .float .f64 x] w (SomeF w) := by
  go_enter Try.func16, Try.ntmps16
  go_wp2_with (first
    | (go_at_call 17; refine (pick_any _ _ (by omega) (by omega) _).mono ?_; rintro e w' ⟨rfl, rfl⟩)
    | (go_at_call 10; go_in))
  go_ret
  exact somef _ _ (by decide)
set_option maxHeartbeats 400000 in
theorem handf_1 (n : Int) (x : Nat) (hk : n % 30 = 1) (w : World) :
    Calls Try.prog 16 #[.int .i64 n, .float .f64 x] w (SomeF w) := by
  go_enter Try.func16, Try.ntmps16
  go_wp2_with (first
    | (go_at_call 17; refine (pick_any _ _ (by omega) (by omega) _).mono ?_; rintro e w' ⟨rfl, rfl⟩)
    | (go_at_call 11; go_in))
  go_ret
  exact somef _ _ (by decide)
set_option maxHeartbeats 400000 in
theorem handf_2 (n : Int) (x : Nat) (hk : n % 30 = 2) (w : World) :
    Calls Try.prog 16 #[.int .i64 n, .float .f64 x] w (SomeF w) := by
  go_enter Try.func16, Try.ntmps16
  go_wp2_with (first
    | (go_at_call 17; refine (pick_any _ _ (by omega) (by omega) _).mono ?_; rintro e w' ⟨rfl, rfl⟩)
    | (go_at_call 11; go_in))
  go_ret
  exact somef _ _ (by decide)
set_option maxHeartbeats 400000 in
theorem handf_3 (n : Int) (x : Nat) (hk : n % 30 = 3) (w : World) :
    Calls Try.prog 16 #[.int .i64 n, .float .f64 x] w (SomeF w) := by
  go_enter Try.func16, Try.ntmps16
  go_wp2_with (first
    | (go_at_call 17; refine (pick_any _ _ (by omega) (by omega) _).mono ?_; rintro e w' ⟨rfl, rfl⟩)
    | (go_at_call 13; refine (copysign_0 _).mono ?_; rintro e w' ⟨rfl, rfl⟩))
  go_ret
  exact somef _ _ (by decide)
set_option maxHeartbeats 400000 in
theorem handf_4 (n : Int) (x : Nat) (hk : n % 30 = 4) (w : World) :
    Calls Try.prog 16 #[.int .i64 n, .float .f64 x] w (SomeF w) := by
  go_enter Try.func16, Try.ntmps16
  go_wp2_with (first
    | (go_at_call 17; refine (pick_any _ _ (by omega) (by omega) _).mono ?_; rintro e w' ⟨rfl, rfl⟩))
  go_ret
  exact somef _ _ (by decide)
set_option maxHeartbeats 400000 in
theorem handf_5 (n : Int) (x : Nat) (hk : n % 30 = 5) (w : World) :
    Calls Try.prog 16 #[.int .i64 n, .float .f64 x] w (SomeF w) := by
  go_enter Try.func16, Try.ntmps16
  go_wp2_with (first
    | (go_at_call 17; refine (pick_any _ _ (by omega) (by omega) _).mono ?_; rintro e w' ⟨rfl, rfl⟩))
  go_ret
  exact somef _ _ (by decide)
set_option maxHeartbeats 400000 in
theorem handf_6 (n : Int) (x : Nat) (hk : n % 30 = 6) (w : World) :
    Calls Try.prog 16 #[.int .i64 n, .float .f64 x] w (SomeF w) := by
  go_enter Try.func16, Try.ntmps16
  go_wp2_with (first
    | (go_at_call 17; refine (pick_any _ _ (by omega) (by omega) _).mono ?_; rintro e w' ⟨rfl, rfl⟩))
  go_ret
  exact somef _ _ (by decide)
set_option maxHeartbeats 400000 in
theorem handf_7 (n : Int) (x : Nat) (hk : n % 30 = 7) (w : World) :
    Calls Try.prog 16 #[.int .i64 n, .float .f64 x] w (SomeF w) := by
  go_enter Try.func16, Try.ntmps16
  go_wp2_with (first
    | (go_at_call 17; refine (pick_any _ _ (by omega) (by omega) _).mono ?_; rintro e w' ⟨rfl, rfl⟩)
    | (go_at_call 26; refine (next_2 _).mono ?_; rintro e w' ⟨rfl, rfl⟩))
  go_ret
  exact somef _ _ (by decide)
set_option maxHeartbeats 400000 in
theorem handf_8 (n : Int) (x : Nat) (hk : n % 30 = 8) (w : World) :
    Calls Try.prog 16 #[.int .i64 n, .float .f64 x] w (SomeF w) := by
  go_enter Try.func16, Try.ntmps16
  go_wp2_with (first
    | (go_at_call 17; refine (pick_any _ _ (by omega) (by omega) _).mono ?_; rintro e w' ⟨rfl, rfl⟩)
    | (go_at_call 26; refine (next_0 _).mono ?_; rintro e w' ⟨rfl, rfl⟩))
  go_ret
  exact somef _ _ (by decide)
set_option maxHeartbeats 400000 in
theorem handf_9 (n : Int) (x : Nat) (hk : n % 30 = 9) (w : World) :
    Calls Try.prog 16 #[.int .i64 n, .float .f64 x] w (SomeF w) := by
  go_enter Try.func16, Try.ntmps16
  go_wp2_with (first
    | (go_at_call 17; refine (pick_any _ _ (by omega) (by omega) _).mono ?_; rintro e w' ⟨rfl, rfl⟩))
  go_ret
  exact somef _ _ (by decide)
set_option maxHeartbeats 400000 in
theorem handf_10 (n : Int) (x : Nat) (hk : n % 30 = 10) (w : World) :
    Calls Try.prog 16 #[.int .i64 n, .float .f64 x] w (SomeF w) := by
  go_enter Try.func16, Try.ntmps16
  go_wp2_with (first
    | (go_at_call 17; refine (pick_any _ _ (by omega) (by omega) _).mono ?_; rintro e w' ⟨rfl, rfl⟩))
  go_ret
  exact somef _ _ (by decide)
set_option maxHeartbeats 400000 in
theorem handf_11 (n : Int) (x : Nat) (hk : n % 30 = 11) (w : World) :
    Calls Try.prog 16 #[.int .i64 n, .float .f64 x] w (SomeF w) := by
  go_enter Try.func16, Try.ntmps16
  go_wp2_with (first
    | (go_at_call 17; refine (pick_any _ _ (by omega) (by omega) _).mono ?_; rintro e w' ⟨rfl, rfl⟩))
  go_ret
  exact somef _ _ (by decide)
set_option maxHeartbeats 400000 in
theorem handf_12 (n : Int) (x : Nat) (hk : n % 30 = 12) (w : World) :
    Calls Try.prog 16 #[.int .i64 n, .float .f64 x] w (SomeF w) := by
  go_enter Try.func16, Try.ntmps16
  go_wp2_with (first
    | (go_at_call 17; refine (pick_any _ _ (by omega) (by omega) _).mono ?_; rintro e w' ⟨rfl, rfl⟩))
  go_ret
  exact somef _ _ (by decide)
set_option maxHeartbeats 400000 in
theorem handf_13 (n : Int) (x : Nat) (hk : n % 30 = 13) (w : World) :
    Calls Try.prog 16 #[.int .i64 n, .float .f64 x] w (SomeF w) := by
  go_enter Try.func16, Try.ntmps16
  go_wp2_with (first
    | (go_at_call 17; refine (pick_any _ _ (by omega) (by omega) _).mono ?_; rintro e w' ⟨rfl, rfl⟩))
  go_ret
  exact somef _ _ (by decide)
set_option maxHeartbeats 400000 in
theorem handf_14 (n : Int) (x : Nat) (hk : n % 30 = 14) (w : World) :
    Calls Try.prog 16 #[.int .i64 n, .float .f64 x] w (SomeF w) := by
  go_enter Try.func16, Try.ntmps16
  go_wp2_with (first
    | (go_at_call 17; refine (pick_any _ _ (by omega) (by omega) _).mono ?_; rintro e w' ⟨rfl, rfl⟩))
  go_ret
  exact somef _ _ (by decide)
set_option maxHeartbeats 400000 in
theorem handf_15 (n : Int) (x : Nat) (hk : n % 30 = 15) (w : World) :
    Calls Try.prog 16 #[.int .i64 n, .float .f64 x] w (SomeF w) := by
  have r := quo128
  have q1 : ∀ X : Int, 0 ≤ X % 257 ∧ X % 257 < 257 := fun X => by omega
  go_enter Try.func16, Try.ntmps16
  go_wp2_with (first
    | (go_at_call 17; refine (pick_any _ _ (by omega) (by omega) _).mono ?_; rintro e w' ⟨rfl, rfl⟩))
  go_ret
  exact somef _ _ (lt128 _)
set_option maxHeartbeats 400000 in
theorem handf_16 (n : Int) (x : Nat) (hk : n % 30 = 16) (w : World) :
    Calls Try.prog 16 #[.int .i64 n, .float .f64 x] w (SomeF w) := by
  have r := quo900
  go_enter Try.func16, Try.ntmps16
  go_wp2_with (first
    | (go_at_call 17; refine (pick_any _ _ (by omega) (by omega) _).mono ?_; rintro e w' ⟨rfl, rfl⟩))
  go_ret
  exact somef _ _ (lt900 _)
set_option maxHeartbeats 400000 in
theorem handf_17 (n : Int) (x : Nat) (hk : n % 30 = 17) (w : World) :
    Calls Try.prog 16 #[.int .i64 n, .float .f64 x] w (SomeF w) := by
  have r := quo900
  go_enter Try.func16, Try.ntmps16
  go_wp2_with (first
    | (go_at_call 17; refine (pick_any _ _ (by omega) (by omega) _).mono ?_; rintro e w' ⟨rfl, rfl⟩))
  go_ret
  exact somef _ _ (lt900 _)
set_option maxHeartbeats 400000 in
theorem handf_18 (n : Int) (x : Nat) (hk : n % 30 = 18) (w : World) :
    Calls Try.prog 16 #[.int .i64 n, .float .f64 x] w (SomeF w) := by
  have r := quo900
  go_enter Try.func16, Try.ntmps16
  go_wp2_with (first
    | (go_at_call 17; refine (pick_any _ _ (by omega) (by omega) _).mono ?_; rintro e w' ⟨rfl, rfl⟩))
  go_ret
  exact somef _ _ (lt900 _)
set_option maxHeartbeats 400000 in
theorem handf_19 (n : Int) (x : Nat) (hk : n % 30 = 19) (w : World) :
    Calls Try.prog 16 #[.int .i64 n, .float .f64 x] w (SomeF w) := by
  have r := quo900
  go_enter Try.func16, Try.ntmps16
  go_wp2_with (first
    | (go_at_call 17; refine (pick_any _ _ (by omega) (by omega) _).mono ?_; rintro e w' ⟨rfl, rfl⟩))
  go_ret
  exact somef _ _ (lt900 _)
set_option maxHeartbeats 400000 in
theorem handf_20 (n : Int) (x : Nat) (hk : n % 30 = 20) (w : World) :
    Calls Try.prog 16 #[.int .i64 n, .float .f64 x] w (SomeF w) := by
  have r := quo900
  go_enter Try.func16, Try.ntmps16
  go_wp2_with (first
    | (go_at_call 17; refine (pick_any _ _ (by omega) (by omega) _).mono ?_; rintro e w' ⟨rfl, rfl⟩))
  go_ret
  exact somef _ _ (lt900 _)
set_option maxHeartbeats 400000 in
theorem handf_21 (n : Int) (x : Nat) (hk : n % 30 = 21) (w : World) :
    Calls Try.prog 16 #[.int .i64 n, .float .f64 x] w (SomeF w) := by
  have r := quo900
  go_enter Try.func16, Try.ntmps16
  go_wp2_with (first
    | (go_at_call 17; refine (pick_any _ _ (by omega) (by omega) _).mono ?_; rintro e w' ⟨rfl, rfl⟩))
  go_ret
  exact somef _ _ (lt900 _)
set_option maxHeartbeats 400000 in
theorem handf_x (n : Int) (x : Nat) (hx : x < 18446744073709551616) (hk : 22 ≤ n % 30) (w : World) :
    Calls Try.prog 16 #[.int .i64 n, .float .f64 x] w (SomeF w) := by
  go_enter Try.func16, Try.ntmps16
  go_wp2_with (first
    | (go_at_call 17; refine (pick_any _ _ (by omega) (by omega) _).mono ?_; rintro e w' ⟨rfl, rfl⟩))
  go_ret
  exact somef _ _ hx

theorem handf_any (n : Int) (x : Nat) (hx : x < 18446744073709551616) (w : World) :
    Calls Try.prog 16 #[.int .i64 n, .float .f64 x] w (SomeF w) := by
  rcases (show n % 30 = 0 ∨ n % 30 = 1 ∨ n % 30 = 2 ∨ n % 30 = 3 ∨ n % 30 = 4 ∨ n % 30 = 5 ∨ n % 30 = 6 ∨ n % 30 = 7 ∨ n % 30 = 8 ∨ n % 30 = 9 ∨ n % 30 = 10 ∨ n % 30 = 11 ∨ n % 30 = 12 ∨ n % 30 = 13 ∨ n % 30 = 14 ∨ n % 30 = 15 ∨ n % 30 = 16 ∨ n % 30 = 17 ∨ n % 30 = 18 ∨ n % 30 = 19 ∨ n % 30 = 20 ∨ n % 30 = 21 ∨ 22 ≤ n % 30 by omega) with h | h | h | h | h | h | h | h | h | h | h | h | h | h | h | h | h | h | h | h | h | h | h
  · exact handf_0 n x h w
  · exact handf_1 n x h w
  · exact handf_2 n x h w
  · exact handf_3 n x h w
  · exact handf_4 n x h w
  · exact handf_5 n x h w
  · exact handf_6 n x h w
  · exact handf_7 n x h w
  · exact handf_8 n x h w
  · exact handf_9 n x h w
  · exact handf_10 n x h w
  · exact handf_11 n x h w
  · exact handf_12 n x h w
  · exact handf_13 n x h w
  · exact handf_14 n x h w
  · exact handf_15 n x h w
  · exact handf_16 n x h w
  · exact handf_17 n x h w
  · exact handf_18 n x h w
  · exact handf_19 n x h w
  · exact handf_20 n x h w
  · exact handf_21 n x h w
  · exact handf_x n x hx h w

end Go.Proofs.Ytfebpbahincieaa

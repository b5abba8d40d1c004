/- The hand's Float as a function of its two numbers. -/
import Derived.Test.YtpcmeajphfifiaaHandF
namespace Go.Proofs.Ytpcmeajphfifiaa
open Go.ChangeShapes Go.WideShapes Go.ChangeAt Go.RowKit
open Fl (V nn fin rg sg U)

def hf (n : Int) (x : Nat) : Nat :=
  if n % 30 = 0 then 9221120237041090561 else
  if n % 30 = 1 then 9218868437227405312 else
  if n % 30 = 2 then 18442240474082181120 else
  if n % 30 = 3 then 9223372036854775808 else
  if n % 30 = 4 then 0 else
  if n % 30 = 5 then 4607182418800017408 else
  if n % 30 = 6 then 13830554455654793216 else
  if n % 30 = 7 then 4607182418800017409 else
  if n % 30 = 8 then 4607182418800017407 else
  if n % 30 = 9 then 1 else
  if n % 30 = 10 then 9218868437227405311 else
  if n % 30 = 11 then 18442240474082181119 else
  if n % 30 = 12 then 4593671619917905920 else
  if n % 30 = 13 then 13817043656772681728 else
  if n % 30 = 14 then 9221120237041090851 else
  if n % 30 = 15 then Fl.divw (floatOfInt .f64 (wrap64 (n.tdiv 30) % 257 - 128)) 4638707616191610880 else
  if n % 30 < 22 then Fl.divw (floatOfInt .f64 (wrap64 (n.tdiv 30) % 2001 - 1000)) 4651127699538968576 else x
theorem hf_0 {n : Int} {x : Nat} (h : n % 30 = 0) : hf n x = 9221120237041090561 := by simp [hf, h]
theorem hf_1 {n : Int} {x : Nat} (h : n % 30 = 1) : hf n x = 9218868437227405312 := by simp [hf, h]
theorem hf_2 {n : Int} {x : Nat} (h : n % 30 = 2) : hf n x = 18442240474082181120 := by simp [hf, h]
theorem hf_3 {n : Int} {x : Nat} (h : n % 30 = 3) : hf n x = 9223372036854775808 := by simp [hf, h]
theorem hf_4 {n : Int} {x : Nat} (h : n % 30 = 4) : hf n x = 0 := by simp [hf, h]
theorem hf_5 {n : Int} {x : Nat} (h : n % 30 = 5) : hf n x = 4607182418800017408 := by simp [hf, h]
theorem hf_6 {n : Int} {x : Nat} (h : n % 30 = 6) : hf n x = 13830554455654793216 := by simp [hf, h]
theorem hf_7 {n : Int} {x : Nat} (h : n % 30 = 7) : hf n x = 4607182418800017409 := by simp [hf, h]
theorem hf_8 {n : Int} {x : Nat} (h : n % 30 = 8) : hf n x = 4607182418800017407 := by simp [hf, h]
theorem hf_9 {n : Int} {x : Nat} (h : n % 30 = 9) : hf n x = 1 := by simp [hf, h]
theorem hf_10 {n : Int} {x : Nat} (h : n % 30 = 10) : hf n x = 9218868437227405311 := by simp [hf, h]
theorem hf_11 {n : Int} {x : Nat} (h : n % 30 = 11) : hf n x = 18442240474082181119 := by simp [hf, h]
theorem hf_12 {n : Int} {x : Nat} (h : n % 30 = 12) : hf n x = 4593671619917905920 := by simp [hf, h]
theorem hf_13 {n : Int} {x : Nat} (h : n % 30 = 13) : hf n x = 13817043656772681728 := by simp [hf, h]
theorem hf_14 {n : Int} {x : Nat} (h : n % 30 = 14) : hf n x = 9221120237041090851 := by simp [hf, h]
theorem hf_15 {n : Int} {x : Nat} (h : n % 30 = 15) : hf n x = Fl.divw (floatOfInt .f64 (wrap64 (n.tdiv 30) % 257 - 128)) 4638707616191610880 := by simp [hf, h]
theorem hf_16 {n : Int} {x : Nat} (h : 16 ≤ n % 30) (h2 : n % 30 < 22) : hf n x = Fl.divw (floatOfInt .f64 (wrap64 (n.tdiv 30) % 2001 - 1000)) 4651127699538968576 := by
  unfold hf
  rw [if_neg (show ¬ n % 30 = 0 by omega)]
  rw [if_neg (show ¬ n % 30 = 1 by omega)]
  rw [if_neg (show ¬ n % 30 = 2 by omega)]
  rw [if_neg (show ¬ n % 30 = 3 by omega)]
  rw [if_neg (show ¬ n % 30 = 4 by omega)]
  rw [if_neg (show ¬ n % 30 = 5 by omega)]
  rw [if_neg (show ¬ n % 30 = 6 by omega)]
  rw [if_neg (show ¬ n % 30 = 7 by omega)]
  rw [if_neg (show ¬ n % 30 = 8 by omega)]
  rw [if_neg (show ¬ n % 30 = 9 by omega)]
  rw [if_neg (show ¬ n % 30 = 10 by omega)]
  rw [if_neg (show ¬ n % 30 = 11 by omega)]
  rw [if_neg (show ¬ n % 30 = 12 by omega)]
  rw [if_neg (show ¬ n % 30 = 13 by omega)]
  rw [if_neg (show ¬ n % 30 = 14 by omega)]
  rw [if_neg (show ¬ n % 30 = 15 by omega)]
  rw [if_pos h2]
theorem hf_x {n : Int} {x : Nat} (h : 22 ≤ n % 30) : hf n x = x := by
  unfold hf
  rw [if_neg (show ¬ n % 30 = 0 by omega)]
  rw [if_neg (show ¬ n % 30 = 1 by omega)]
  rw [if_neg (show ¬ n % 30 = 2 by omega)]
  rw [if_neg (show ¬ n % 30 = 3 by omega)]
  rw [if_neg (show ¬ n % 30 = 4 by omega)]
  rw [if_neg (show ¬ n % 30 = 5 by omega)]
  rw [if_neg (show ¬ n % 30 = 6 by omega)]
  rw [if_neg (show ¬ n % 30 = 7 by omega)]
  rw [if_neg (show ¬ n % 30 = 8 by omega)]
  rw [if_neg (show ¬ n % 30 = 9 by omega)]
  rw [if_neg (show ¬ n % 30 = 10 by omega)]
  rw [if_neg (show ¬ n % 30 = 11 by omega)]
  rw [if_neg (show ¬ n % 30 = 12 by omega)]
  rw [if_neg (show ¬ n % 30 = 13 by omega)]
  rw [if_neg (show ¬ n % 30 = 14 by omega)]
  rw [if_neg (show ¬ n % 30 = 15 by omega)]
  rw [if_neg (show ¬ n % 30 < 22 by omega)]
theorem hf_lt (n : Int) (x : Nat) (hx : x < 18446744073709551616) : hf n x < 18446744073709551616 := by
  unfold hf
  by_cases h0 : n % 30 = 0
  · rw [if_pos h0]; decide
  rw [if_neg h0]
  by_cases h1 : n % 30 = 1
  · rw [if_pos h1]; decide
  rw [if_neg h1]
  by_cases h2 : n % 30 = 2
  · rw [if_pos h2]; decide
  rw [if_neg h2]
  by_cases h3 : n % 30 = 3
  · rw [if_pos h3]; decide
  rw [if_neg h3]
  by_cases h4 : n % 30 = 4
  · rw [if_pos h4]; decide
  rw [if_neg h4]
  by_cases h5 : n % 30 = 5
  · rw [if_pos h5]; decide
  rw [if_neg h5]
  by_cases h6 : n % 30 = 6
  · rw [if_pos h6]; decide
  rw [if_neg h6]
  by_cases h7 : n % 30 = 7
  · rw [if_pos h7]; decide
  rw [if_neg h7]
  by_cases h8 : n % 30 = 8
  · rw [if_pos h8]; decide
  rw [if_neg h8]
  by_cases h9 : n % 30 = 9
  · rw [if_pos h9]; decide
  rw [if_neg h9]
  by_cases h10 : n % 30 = 10
  · rw [if_pos h10]; decide
  rw [if_neg h10]
  by_cases h11 : n % 30 = 11
  · rw [if_pos h11]; decide
  rw [if_neg h11]
  by_cases h12 : n % 30 = 12
  · rw [if_pos h12]; decide
  rw [if_neg h12]
  by_cases h13 : n % 30 = 13
  · rw [if_pos h13]; decide
  rw [if_neg h13]
  by_cases h14 : n % 30 = 14
  · rw [if_pos h14]; decide
  rw [if_neg h14]
  by_cases h15 : n % 30 = 15
  · rw [if_pos h15]; exact lt128 _
  rw [if_neg h15]
  by_cases h16 : n % 30 < 22
  · rw [if_pos h16]; exact lt900 _
  rw [if_neg h16]; exact hx

set_option maxHeartbeats 400000 in
theorem handg_0 (n : Int) (x : Nat) (hk : n % 30 = 0) (w : World) :
    Calls Try.prog 19 #[.int .i64 n, .float .f64 x] w (fun e w' => e = .returned (.float .f64 (hf n x)) ∧ w = w') := by
  rw [hf_0 hk]
  go_enter Try.func19, Try.ntmps19
  go_wp2_with (first
    | (go_at_call 25; refine (pick_any _ _ (by omega) (by omega) _).mono ?_; rintro e w' ⟨rfl, rfl⟩)
    | (go_at_call 11; go_in))
  go_ret
  exact ⟨rfl, rfl⟩
set_option maxHeartbeats 400000 in
theorem handg_1 (n : Int) (x : Nat) (hk : n % 30 = 1) (w : World) :
    Calls Try.prog 19 #[.int .i64 n, .float .f64 x] w (fun e w' => e = .returned (.float .f64 (hf n x)) ∧ w = w') := by
  rw [hf_1 hk]
  go_enter Try.func19, Try.ntmps19
  go_wp2_with (first
    | (go_at_call 25; refine (pick_any _ _ (by omega) (by omega) _).mono ?_; rintro e w' ⟨rfl, rfl⟩)
    | (go_at_call 15; go_in))
  go_ret
  exact ⟨rfl, rfl⟩
set_option maxHeartbeats 400000 in
theorem handg_2 (n : Int) (x : Nat) (hk : n % 30 = 2) (w : World) :
    Calls Try.prog 19 #[.int .i64 n, .float .f64 x] w (fun e w' => e = .returned (.float .f64 (hf n x)) ∧ w = w') := by
  rw [hf_2 hk]
  go_enter Try.func19, Try.ntmps19
  go_wp2_with (first
    | (go_at_call 25; refine (pick_any _ _ (by omega) (by omega) _).mono ?_; rintro e w' ⟨rfl, rfl⟩)
    | (go_at_call 15; go_in))
  go_ret
  exact ⟨rfl, rfl⟩
set_option maxHeartbeats 400000 in
theorem handg_3 (n : Int) (x : Nat) (hk : n % 30 = 3) (w : World) :
    Calls Try.prog 19 #[.int .i64 n, .float .f64 x] w (fun e w' => e = .returned (.float .f64 (hf n x)) ∧ w = w') := by
  rw [hf_3 hk]
  go_enter Try.func19, Try.ntmps19
  go_wp2_with (first
    | (go_at_call 25; refine (pick_any _ _ (by omega) (by omega) _).mono ?_; rintro e w' ⟨rfl, rfl⟩)
    | (go_at_call 10; refine (copysign_0 _).mono ?_; rintro e w' ⟨rfl, rfl⟩))
  go_ret
  exact ⟨rfl, rfl⟩
set_option maxHeartbeats 400000 in
theorem handg_4 (n : Int) (x : Nat) (hk : n % 30 = 4) (w : World) :
    Calls Try.prog 19 #[.int .i64 n, .float .f64 x] w (fun e w' => e = .returned (.float .f64 (hf n x)) ∧ w = w') := by
  rw [hf_4 hk]
  go_enter Try.func19, Try.ntmps19
  go_wp2_with (first
    | (go_at_call 25; refine (pick_any _ _ (by omega) (by omega) _).mono ?_; rintro e w' ⟨rfl, rfl⟩))
  go_ret
  exact ⟨rfl, rfl⟩
set_option maxHeartbeats 400000 in
theorem handg_5 (n : Int) (x : Nat) (hk : n % 30 = 5) (w : World) :
    Calls Try.prog 19 #[.int .i64 n, .float .f64 x] w (fun e w' => e = .returned (.float .f64 (hf n x)) ∧ w = w') := by
  rw [hf_5 hk]
  go_enter Try.func19, Try.ntmps19
  go_wp2_with (first
    | (go_at_call 25; refine (pick_any _ _ (by omega) (by omega) _).mono ?_; rintro e w' ⟨rfl, rfl⟩))
  go_ret
  exact ⟨rfl, rfl⟩
set_option maxHeartbeats 400000 in
theorem handg_6 (n : Int) (x : Nat) (hk : n % 30 = 6) (w : World) :
    Calls Try.prog 19 #[.int .i64 n, .float .f64 x] w (fun e w' => e = .returned (.float .f64 (hf n x)) ∧ w = w') := by
  rw [hf_6 hk]
  go_enter Try.func19, Try.ntmps19
  go_wp2_with (first
    | (go_at_call 25; refine (pick_any _ _ (by omega) (by omega) _).mono ?_; rintro e w' ⟨rfl, rfl⟩))
  go_ret
  exact ⟨rfl, rfl⟩
set_option maxHeartbeats 400000 in
theorem handg_7 (n : Int) (x : Nat) (hk : n % 30 = 7) (w : World) :
    Calls Try.prog 19 #[.int .i64 n, .float .f64 x] w (fun e w' => e = .returned (.float .f64 (hf n x)) ∧ w = w') := by
  rw [hf_7 hk]
  go_enter Try.func19, Try.ntmps19
  go_wp2_with (first
    | (go_at_call 25; refine (pick_any _ _ (by omega) (by omega) _).mono ?_; rintro e w' ⟨rfl, rfl⟩)
    | (go_at_call 34; refine (next_2 _).mono ?_; rintro e w' ⟨rfl, rfl⟩))
  go_ret
  exact ⟨rfl, rfl⟩
set_option maxHeartbeats 400000 in
theorem handg_8 (n : Int) (x : Nat) (hk : n % 30 = 8) (w : World) :
    Calls Try.prog 19 #[.int .i64 n, .float .f64 x] w (fun e w' => e = .returned (.float .f64 (hf n x)) ∧ w = w') := by
  rw [hf_8 hk]
  go_enter Try.func19, Try.ntmps19
  go_wp2_with (first
    | (go_at_call 25; refine (pick_any _ _ (by omega) (by omega) _).mono ?_; rintro e w' ⟨rfl, rfl⟩)
    | (go_at_call 34; refine (next_0 _).mono ?_; rintro e w' ⟨rfl, rfl⟩))
  go_ret
  exact ⟨rfl, rfl⟩
set_option maxHeartbeats 400000 in
theorem handg_9 (n : Int) (x : Nat) (hk : n % 30 = 9) (w : World) :
    Calls Try.prog 19 #[.int .i64 n, .float .f64 x] w (fun e w' => e = .returned (.float .f64 (hf n x)) ∧ w = w') := by
  rw [hf_9 hk]
  go_enter Try.func19, Try.ntmps19
  go_wp2_with (first
    | (go_at_call 25; refine (pick_any _ _ (by omega) (by omega) _).mono ?_; rintro e w' ⟨rfl, rfl⟩))
  go_ret
  exact ⟨rfl, rfl⟩
set_option maxHeartbeats 400000 in
theorem handg_10 (n : Int) (x : Nat) (hk : n % 30 = 10) (w : World) :
    Calls Try.prog 19 #[.int .i64 n, .float .f64 x] w (fun e w' => e = .returned (.float .f64 (hf n x)) ∧ w = w') := by
  rw [hf_10 hk]
  go_enter Try.func19, Try.ntmps19
  go_wp2_with (first
    | (go_at_call 25; refine (pick_any _ _ (by omega) (by omega) _).mono ?_; rintro e w' ⟨rfl, rfl⟩))
  go_ret
  exact ⟨rfl, rfl⟩
set_option maxHeartbeats 400000 in
theorem handg_11 (n : Int) (x : Nat) (hk : n % 30 = 11) (w : World) :
    Calls Try.prog 19 #[.int .i64 n, .float .f64 x] w (fun e w' => e = .returned (.float .f64 (hf n x)) ∧ w = w') := by
  rw [hf_11 hk]
  go_enter Try.func19, Try.ntmps19
  go_wp2_with (first
    | (go_at_call 25; refine (pick_any _ _ (by omega) (by omega) _).mono ?_; rintro e w' ⟨rfl, rfl⟩))
  go_ret
  exact ⟨rfl, rfl⟩
set_option maxHeartbeats 400000 in
theorem handg_12 (n : Int) (x : Nat) (hk : n % 30 = 12) (w : World) :
    Calls Try.prog 19 #[.int .i64 n, .float .f64 x] w (fun e w' => e = .returned (.float .f64 (hf n x)) ∧ w = w') := by
  rw [hf_12 hk]
  go_enter Try.func19, Try.ntmps19
  go_wp2_with (first
    | (go_at_call 25; refine (pick_any _ _ (by omega) (by omega) _).mono ?_; rintro e w' ⟨rfl, rfl⟩))
  go_ret
  exact ⟨rfl, rfl⟩
set_option maxHeartbeats 400000 in
theorem handg_13 (n : Int) (x : Nat) (hk : n % 30 = 13) (w : World) :
    Calls Try.prog 19 #[.int .i64 n, .float .f64 x] w (fun e w' => e = .returned (.float .f64 (hf n x)) ∧ w = w') := by
  rw [hf_13 hk]
  go_enter Try.func19, Try.ntmps19
  go_wp2_with (first
    | (go_at_call 25; refine (pick_any _ _ (by omega) (by omega) _).mono ?_; rintro e w' ⟨rfl, rfl⟩))
  go_ret
  exact ⟨rfl, rfl⟩
set_option maxHeartbeats 400000 in
theorem handg_14 (n : Int) (x : Nat) (hk : n % 30 = 14) (w : World) :
    Calls Try.prog 19 #[.int .i64 n, .float .f64 x] w (fun e w' => e = .returned (.float .f64 (hf n x)) ∧ w = w') := by
  rw [hf_14 hk]
  go_enter Try.func19, Try.ntmps19
  go_wp2_with (first
    | (go_at_call 25; refine (pick_any _ _ (by omega) (by omega) _).mono ?_; rintro e w' ⟨rfl, rfl⟩))
  go_ret
  exact ⟨rfl, rfl⟩
set_option maxHeartbeats 400000 in
theorem handg_15 (n : Int) (x : Nat) (hk : n % 30 = 15) (w : World) :
    Calls Try.prog 19 #[.int .i64 n, .float .f64 x] w (fun e w' => e = .returned (.float .f64 (hf n x)) ∧ w = w') := by
  rw [hf_15 hk]
  have r := quo128
  have q1 : ∀ X : Int, 0 ≤ X % 257 ∧ X % 257 < 257 := fun X => by omega
  go_enter Try.func19, Try.ntmps19
  go_wp2_with (first
    | (go_at_call 25; refine (pick_any _ _ (by omega) (by omega) _).mono ?_; rintro e w' ⟨rfl, rfl⟩))
  go_ret
  exact ⟨rfl, rfl⟩
set_option maxHeartbeats 400000 in
theorem handg_16 (n : Int) (x : Nat) (hk : n % 30 = 16) (w : World) :
    Calls Try.prog 19 #[.int .i64 n, .float .f64 x] w (fun e w' => e = .returned (.float .f64 (hf n x)) ∧ w = w') := by
  rw [hf_16 (by omega) (by omega)]
  have r := quo900
  go_enter Try.func19, Try.ntmps19
  go_wp2_with (first
    | (go_at_call 25; refine (pick_any _ _ (by omega) (by omega) _).mono ?_; rintro e w' ⟨rfl, rfl⟩))
  go_ret
  exact ⟨rfl, rfl⟩
set_option maxHeartbeats 400000 in
theorem handg_17 (n : Int) (x : Nat) (hk : n % 30 = 17) (w : World) :
    Calls Try.prog 19 #[.int .i64 n, .float .f64 x] w (fun e w' => e = .returned (.float .f64 (hf n x)) ∧ w = w') := by
  rw [hf_16 (by omega) (by omega)]
  have r := quo900
  go_enter Try.func19, Try.ntmps19
  go_wp2_with (first
    | (go_at_call 25; refine (pick_any _ _ (by omega) (by omega) _).mono ?_; rintro e w' ⟨rfl, rfl⟩))
  go_ret
  exact ⟨rfl, rfl⟩
set_option maxHeartbeats 400000 in
theorem handg_18 (n : Int) (x : Nat) (hk : n % 30 = 18) (w : World) :
    Calls Try.prog 19 #[.int .i64 n, .float .f64 x] w (fun e w' => e = .returned (.float .f64 (hf n x)) ∧ w = w') := by
  rw [hf_16 (by omega) (by omega)]
  have r := quo900
  go_enter Try.func19, Try.ntmps19
  go_wp2_with (first
    | (go_at_call 25; refine (pick_any _ _ (by omega) (by omega) _).mono ?_; rintro e w' ⟨rfl, rfl⟩))
  go_ret
  exact ⟨rfl, rfl⟩
set_option maxHeartbeats 400000 in
theorem handg_19 (n : Int) (x : Nat) (hk : n % 30 = 19) (w : World) :
    Calls Try.prog 19 #[.int .i64 n, .float .f64 x] w (fun e w' => e = .returned (.float .f64 (hf n x)) ∧ w = w') := by
  rw [hf_16 (by omega) (by omega)]
  have r := quo900
  go_enter Try.func19, Try.ntmps19
  go_wp2_with (first
    | (go_at_call 25; refine (pick_any _ _ (by omega) (by omega) _).mono ?_; rintro e w' ⟨rfl, rfl⟩))
  go_ret
  exact ⟨rfl, rfl⟩
set_option maxHeartbeats 400000 in
theorem handg_20 (n : Int) (x : Nat) (hk : n % 30 = 20) (w : World) :
    Calls Try.prog 19 #[.int .i64 n, .float .f64 x] w (fun e w' => e = .returned (.float .f64 (hf n x)) ∧ w = w') := by
  rw [hf_16 (by omega) (by omega)]
  have r := quo900
  go_enter Try.func19, Try.ntmps19
  go_wp2_with (first
    | (go_at_call 25; refine (pick_any _ _ (by omega) (by omega) _).mono ?_; rintro e w' ⟨rfl, rfl⟩))
  go_ret
  exact ⟨rfl, rfl⟩
set_option maxHeartbeats 400000 in
theorem handg_21 (n : Int) (x : Nat) (hk : n % 30 = 21) (w : World) :
    Calls Try.prog 19 #[.int .i64 n, .float .f64 x] w (fun e w' => e = .returned (.float .f64 (hf n x)) ∧ w = w') := by
  rw [hf_16 (by omega) (by omega)]
  have r := quo900
  go_enter Try.func19, Try.ntmps19
  go_wp2_with (first
    | (go_at_call 25; refine (pick_any _ _ (by omega) (by omega) _).mono ?_; rintro e w' ⟨rfl, rfl⟩))
  go_ret
  exact ⟨rfl, rfl⟩
set_option maxHeartbeats 400000 in
theorem handg_x (n : Int) (x : Nat) (hk : 22 ≤ n % 30) (w : World) :
    Calls Try.prog 19 #[.int .i64 n, .float .f64 x] w (fun e w' => e = .returned (.float .f64 (hf n x)) ∧ w = w') := by
  rw [hf_x hk]
  go_enter Try.func19, Try.ntmps19
  go_wp2_with (first
    | (go_at_call 25; refine (pick_any _ _ (by omega) (by omega) _).mono ?_; rintro e w' ⟨rfl, rfl⟩))
  go_ret
  exact ⟨rfl, rfl⟩

theorem handg_any (n : Int) (x : Nat) (w : World) :
    Calls Try.prog 19 #[.int .i64 n, .float .f64 x] w (fun e w' => e = .returned (.float .f64 (hf n x)) ∧ w = w') := by
  rcases (show n % 30 = 0 ∨ n % 30 = 1 ∨ n % 30 = 2 ∨ n % 30 = 3 ∨ n % 30 = 4 ∨ n % 30 = 5 ∨ n % 30 = 6 ∨ n % 30 = 7 ∨ n % 30 = 8 ∨ n % 30 = 9 ∨ n % 30 = 10 ∨ n % 30 = 11 ∨ n % 30 = 12 ∨ n % 30 = 13 ∨ n % 30 = 14 ∨ n % 30 = 15 ∨ n % 30 = 16 ∨ n % 30 = 17 ∨ n % 30 = 18 ∨ n % 30 = 19 ∨ n % 30 = 20 ∨ n % 30 = 21 ∨ 22 ≤ n % 30 by omega) with h | h | h | h | h | h | h | h | h | h | h | h | h | h | h | h | h | h | h | h | h | h | h
  · exact handg_0 n x h w
  · exact handg_1 n x h w
  · exact handg_2 n x h w
  · exact handg_3 n x h w
  · exact handg_4 n x h w
  · exact handg_5 n x h w
  · exact handg_6 n x h w
  · exact handg_7 n x h w
  · exact handg_8 n x h w
  · exact handg_9 n x h w
  · exact handg_10 n x h w
  · exact handg_11 n x h w
  · exact handg_12 n x h w
  · exact handg_13 n x h w
  · exact handg_14 n x h w
  · exact handg_15 n x h w
  · exact handg_16 n x h w
  · exact handg_17 n x h w
  · exact handg_18 n x h w
  · exact handg_19 n x h w
  · exact handg_20 n x h w
  · exact handg_21 n x h w
  · exact handg_x n x h w

end Go.Proofs.Ytpcmeajphfifiaa

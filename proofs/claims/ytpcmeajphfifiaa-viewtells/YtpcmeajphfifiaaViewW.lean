/- Contracts of package view's Sooner, Between and compare, of the reference's Sooner, Between and Alike. -/
import Derived.Test.YtpcmeajphfifiaaFlW
import Derived.Test.YtpcmeajphfifiaaView
namespace Go.Proofs.Ytpcmeajphfifiaa
open Go.ChangeShapes Go.WideShapes Go.ChangeAt Go.RowKit
open Fl (V nn fin rg sg U)

theorem ret_b {a b : Bool} (h : a = b) : Ending.returned (.bool a) = .returned (.bool b) := by rw [h]

set_option maxHeartbeats 400000 in
theorem isnan_any (x : Nat) (w : World) : Calls Try.prog 27 #[.float .f64 x] w fun e w' => e = .returned (.bool (!decide (nn x))) ∧ w = w' := by
  by_cases h : nn x
  · have h1 := o_self h
    rw [decide_eq_true h]
    clear h
    go_enter Try.func27, Try.ntmps27
    go_wp2
    go_ret
    exact ⟨rfl, rfl⟩
  · have h1 := o_self_nan h
    rw [decide_eq_false h]
    clear h
    go_enter Try.func27, Try.ntmps27
    go_wp2
    go_ret
    exact ⟨rfl, rfl⟩

theorem sign_i64 {x : Nat} (h : x < 2 ^ 64) : decide (wrap64 (x : Int) < 0) = sg x := by
  unfold wrap64
  unfold sg
  by_cases c : x < 2 ^ 63
  · rw [Nat.div_eq_of_lt c]
    refine decide_eq_false ?_
    omega
  · have : x / 2 ^ 63 = 1 := by omega
    rw [this]
    refine decide_eq_true ?_
    omega

set_option maxHeartbeats 400000 in
theorem signbit_any (x : Nat) (h : x < 2 ^ 64) (w : World) : Calls Try.prog 30 #[.float .f64 x] w fun e w' => e = .returned (.bool (sg x)) ∧ w = w' := by
  have h1 := sign_i64 h
  clear h
  go_enter Try.func30, Try.ntmps30
  go_wp2
  go_ret
  exact ⟨rfl, rfl⟩

/-! ### Sooner -/
set_option maxHeartbeats 800000 in
theorem sooner_any (a b : Nat) (ha : a < 2 ^ 64) (hb : b < 2 ^ 64) (w : World) :
    Calls Try.prog 16 #[.float .f64 a, .float .f64 b] w fun e w' => e = .returned (.bool (Fl.soon a b)) ∧ w = w' := by
  by_cases nb : nn b
  · by_cases na : nn a
    · have k1 : (!decide (nn a)) = false := by rw [decide_eq_true na]; rfl
      have k2 : (!decide (nn b)) = false := by rw [decide_eq_true nb]; rfl
      by_cases e : V a = V b
      · have e1 : (FloatKind.f64.format.order a b == some .eq) = true := by rw [o_eq na nb]; exact decide_eq_true e
        rw [Fl.soon_eq na nb e]
        clear na nb e
        cases sa : sg a
        · go_enter Try.func16, Try.ntmps16
          go_wp2_with (first
            | (go_at_call 27; refine (isnan_any _ _).mono ?_; rintro e w' ⟨rfl, rfl⟩)
            | (go_at_call 30; refine (signbit_any _ (by assumption) _).mono ?_; rintro e w' ⟨rfl, rfl⟩))
          go_ret
          exact ⟨ret_b (by simp), rfl⟩
        · go_enter Try.func16, Try.ntmps16
          go_wp2_with (first
            | (go_at_call 27; refine (isnan_any _ _).mono ?_; rintro e w' ⟨rfl, rfl⟩)
            | (go_at_call 30; refine (signbit_any _ (by assumption) _).mono ?_; rintro e w' ⟨rfl, rfl⟩))
          go_ret
          exact ⟨rfl, rfl⟩
      · have e1 : (FloatKind.f64.format.order a b == some .eq) = false := by rw [o_eq na nb]; exact decide_eq_false e
        have e2 := o_gt na nb
        rw [Fl.soon_ne na nb e]
        clear na nb e
        go_enter Try.func16, Try.ntmps16
        go_wp2_with (first
          | (go_at_call 27; refine (isnan_any _ _).mono ?_; rintro e w' ⟨rfl, rfl⟩))
        go_ret
        exact ⟨rfl, rfl⟩
    · have k1 : (!decide (nn a)) = true := by rw [decide_eq_false na]; rfl
      have k2 : (!decide (nn b)) = false := by rw [decide_eq_true nb]; rfl
      rw [Fl.soon_nan_left na nb]
      clear na nb
      go_enter Try.func16, Try.ntmps16
      go_wp2_with (first
        | (go_at_call 27; refine (isnan_any _ _).mono ?_; rintro e w' ⟨rfl, rfl⟩))
      go_ret
      exact ⟨rfl, rfl⟩
  · have k2 : (!decide (nn b)) = true := by rw [decide_eq_false nb]; rfl
    rw [Fl.soon_nan_right a nb]
    by_cases na : nn a
    · have k1 : (!decide (nn a)) = false := by rw [decide_eq_true na]; rfl
      clear na nb
      go_enter Try.func16, Try.ntmps16
      go_wp2_with (first
        | (go_at_call 27; refine (isnan_any _ _).mono ?_; rintro e w' ⟨rfl, rfl⟩))
      go_ret
      exact ⟨rfl, rfl⟩
    · have k1 : (!decide (nn a)) = true := by rw [decide_eq_false na]; rfl
      clear na nb
      go_enter Try.func16, Try.ntmps16
      go_wp2_with (first
        | (go_at_call 27; refine (isnan_any _ _).mono ?_; rintro e w' ⟨rfl, rfl⟩))
      go_ret
      exact ⟨rfl, rfl⟩

/-! ### compare: below 0 just where the first is sooner -/
def cmpI (a b : Nat) : Int := if Fl.soon a b then -1 else if Fl.soon b a then 1 else 0
theorem cmpI_neg (a b : Nat) : decide (cmpI a b < 0) = Fl.soon a b := by
  unfold cmpI; cases Fl.soon a b <;> cases Fl.soon b a <;> rfl
theorem cmpI_b (a b : Nat) : -1 ≤ cmpI a b ∧ cmpI a b ≤ 1 := by
  unfold cmpI; cases Fl.soon a b <;> cases Fl.soon b a <;> decide
set_option maxHeartbeats 800000 in
theorem compare_any (a b : Nat) (ha : a < 2 ^ 64) (hb : b < 2 ^ 64) (w : World) :
    Calls Try.prog 33 #[.float .f64 a, .float .f64 b] w fun e w' => e = .returned (.int .i64 (cmpI a b)) ∧ w = w' := by
  unfold cmpI
  cases h1 : Fl.soon a b
  · cases h2 : Fl.soon b a
    · go_enter Try.func33, Try.ntmps33
      go_wp2_with (first
        | (go_at_call 16; refine (sooner_any _ _ (by assumption) (by assumption) _).mono ?_; rintro e w' ⟨rfl, rfl⟩))
      go_ret
      exact ⟨rfl, rfl⟩
    · go_enter Try.func33, Try.ntmps33
      go_wp2_with (first
        | (go_at_call 16; refine (sooner_any _ _ (by assumption) (by assumption) _).mono ?_; rintro e w' ⟨rfl, rfl⟩))
      go_ret
      exact ⟨rfl, rfl⟩
  · go_enter Try.func33, Try.ntmps33
    go_wp2_with (first
      | (go_at_call 16; refine (sooner_any _ _ (by assumption) (by assumption) _).mono ?_; rintro e w' ⟨rfl, rfl⟩))
    go_ret
    exact ⟨rfl, rfl⟩

end Go.Proofs.Ytpcmeajphfifiaa

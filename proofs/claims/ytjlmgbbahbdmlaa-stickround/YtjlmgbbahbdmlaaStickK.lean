/- The chapter's example ('known'), which each statement asks first. -/
import Derived.Test.YtjlmgbbahbdmlaaHandF
namespace Go.Proofs.Ytjlmgbbahbdmlaa
open Go.ChangeShapes Go.WideShapes Go.ChangeAt Go.RowKit
open Fl (V nn fin rg sg U)

theorem k1 : (Fl.axis 4602678819172646912 0 == 32) = true := by decide +kernel
theorem k2 : (Fl.axis 9221120237041090561 0 == 0) = true := by decide +kernel
theorem k3 : (FloatKind.f64.format.order (Fl.flt (-32)) 13826050856027422720 == some .eq) = true := by decide +kernel

set_option maxHeartbeats 400000 in
theorem nan_any (w : World) : Calls Try.prog 12 #[] w fun e w' => e = .returned (.float .f64 9221120237041090561) ∧ w = w' := by
  go_enter Try.func12, Try.ntmps12
  go_wp2
  go_ret
  exact ⟨rfl, rfl⟩

set_option maxHeartbeats 400000 in
theorem known_any (w : World) :
    Calls Try.prog 9 #[] w fun e w' => e = .returned (.bool true) ∧ w = w' := by
  have h1 := k1
  have h2 := k2
  have h3 := k3
  go_enter Try.func9, Try.ntmps9
  go_wp2_with (first
    | (go_at_call 14; refine (axis_any _ _ (by decide) (by decide) _).mono ?_; rintro e w' ⟨rfl, rfl⟩)
    | (go_at_call 12; refine (nan_any _).mono ?_; rintro e w' ⟨rfl, rfl⟩)
    | (go_at_call 15; refine (float_any _ _).mono ?_; rintro e w' ⟨rfl, rfl⟩))
  go_ret
  exact ⟨rfl, rfl⟩

end Go.Proofs.Ytjlmgbbahbdmlaa

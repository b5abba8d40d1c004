/- The order's comparing closure, and the stable sort of up to twenty-one places by it. -/
import Derived.Test.YtpcmeajphfifiaaViewW
import Derived.Test.YtpcmeajphfifiaaSortLay
import Derived.Sort.LotA
import Derived.BigRegion
namespace Go.Proofs.Ytpcmeajphfifiaa
open Go.ChangeShapes Go.WideShapes Go.ChangeAt Go.RowKit Go.Sort Go.Shelf Go.Lib
open Fl (V nn fin rg sg U)

/-- what a world must hold for the closure: the box of the list, and the list -/
structure Box (W : World) (bx g cap : Nat) (ds : List Nat) : Prop where
  box : W.cell? ⟨bx, 0, none⟩ = some (.slice (some ⟨g, 0, none⟩) ds.length cap)
  cells : ∀ k, k < ds.length → W.cell? ⟨g, k, none⟩ = some (.float .f64 (ds.getD k 0))
  lt : ∀ k, ds.getD k 0 < 2 ^ 64

theorem compare_q (a b : Nat) (ha : a < 2 ^ 64) (hb : b < 2 ^ 64) (w : World) :
    Calls Try.prog 33 #[.float .f64 a, .float .f64 b] w fun e w' => e = .returned (.int .i64 (cmpI a b)) ∧ w' = w :=
  (compare_any a b ha hb w).mono fun _ _ ⟨h1, h2⟩ => ⟨h1, h2.symm⟩

set_option maxHeartbeats 800000 in
theorem closure_any (bx g cap : Nat) (ds : List Nat) (W : World) (hB : Box W bx g cap ds) (i j : Nat) (hi : i < ds.length) (hj : j < ds.length) :
    Calls Try.prog 32 #[.int .i64 i, .int .i64 j, .pointer (some ⟨bx, 0, none⟩)] W fun e w' => e = .returned (.int .i64 (cmpI (ds.getD i 0) (ds.getD j 0))) ∧ ∃ q, w' = W.drewN q := by
  have c1 := hB.box
  have c2 := hB.cells i hi
  have c3 := hB.cells j hj
  have l1 := hB.lt i
  have l2 := hB.lt j
  clear hB
  generalize ds.getD i 0 = x at *
  generalize ds.getD j 0 = y at *
  generalize ds.length = n at *
  go_enter Try.func32, Try.ntmps32
  go_wp2_with fail
  go_quiet (first | (go_at_call 33; exact Calls.quiet_of_same (compare_q _ _ l1 l2 _)))
  go_wp2
  go_ret
  exact ⟨rfl, _, rfl⟩

end Go.Proofs.Ytpcmeajphfifiaa

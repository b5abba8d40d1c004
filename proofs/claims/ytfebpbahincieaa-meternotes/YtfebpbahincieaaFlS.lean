/- Floats in a walk, more: the store of one; a NaN compared. -/
import Derived.Test.YtfebpbahincieaaFlW
namespace Go.Proofs.Ytfebpbahincieaa
open Go.ChangeShapes Go.WideShapes Go.ChangeAt Go.RowKit
open Fl (V nn fin rg sg U)

@[go_sem] theorem run_store_float (P : Program) (w : World) (a : Addr) (m : Mode) (k : FloatKind) (b : Nat) : (store a (.float k b) m).run P w = stored P w a (.float k b) m := run_store P w a _ m rfl
theorem o_ge_nan {x : Nat} (y : Nat) (h : ¬ nn x) : (FloatKind.f64.format.order x y == some .gt || FloatKind.f64.format.order x y == some .eq) = false := by
  rw [d_fmt, Fl.order_nan_left y h]; rfl
end Go.Proofs.Ytfebpbahincieaa

/- The library's contract of the insertion sort by a comparing function, at this program's own numbers. -/
import Derived.Shelf.SlSortCmp.Insertion
import Derived.Shelf.SlGeneric
import Derived.Test.YtpcmeajphfifiaaRows
namespace Go.Proofs.Ytpcmeajphfifiaa
open Go.Shelf
def l20_ren : Go.Shelf.Ren := ⟨fun | 20 => 39 | n => n, fun | 24 => 3 | 22 => 32 | 3 => 3 | 25 => 41 | 4 => 4 | 0 => 0 | n => n, fun | n => n⟩
theorem l20 : Go.Proofs.SlLaysF.n20 Try.prog l20_ren := {
  mixed := by kernel_rfl
  f20 := ⟨Try.f39.name, by decide, Try.func39.trans (congrArg some (by kernel_rfl))⟩
  t0 := Try.underlying0
  a0 := Try.isAgg0
  z0 := Try.sizeOf0
  v0 := Try.zeroValue0
  t3 := Try.underlying3
  a3 := Try.isAgg3
  z3 := Try.sizeOf3
  v3 := Try.zeroValue3
  t4 := Try.underlying4
  a4 := Try.isAgg4
  z4 := Try.sizeOf4
  v4 := Try.zeroValue4
  t22 := Try.underlying32
  a22 := Try.isAgg32
  z22 := Try.sizeOf32
  v22 := Try.zeroValue32
  a24 := Try.isAgg3
  z24 := Try.sizeOf3
  t25 := Try.underlying41
  a25 := Try.isAgg41
  z25 := Try.sizeOf41
  v25 := Try.zeroValue41 }
end Go.Proofs.Ytpcmeajphfifiaa

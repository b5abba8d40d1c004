/- Bytes that came in, as bytes. -/
import Derived.Test.YtcfekpedaiemiaaFrame
import Derived.Test.YtcfekpedaiemiaaByteApp
namespace Go.Proofs.Ytcfekpedaiemiaa
open Go.RowKit

theorem wf_u8 {n : Int} (h : (Lit.int .u8 n).wf = true) : 0 ≤ n ∧ n < 256 := by
  have e1 : IntKind.u8.min = 0 := by decide
  have e2 : IntKind.u8.max = 255 := by decide
  simp [Lit.wf, e1, e2] at h
  omega
theorem came_bytes {w : World} {v : Value} {zs : List Int} (h : CameI .u8 w v zs) : ∃ bs, bs.length = zs.length ∧ ReadC w v bs := by
  obtain ⟨a, cap, rfl, h1, h2, h8, h⟩ := h
  have rg : ∀ n ∈ zs, 0 ≤ n ∧ n < 256 := fun n hn => wf_u8 (h8 n hn)
  refine ⟨zs.map Int.toNat, by simp, fun x hx => ?_, a, cap, by simp, by simpa using h1, h2, ?_⟩
  · obtain ⟨n, hn, rfl⟩ := List.mem_map.1 hx
    have := rg n hn
    omega
  · rcases h with rfl | ⟨b, off, rfl, hb, hc⟩
    · left; rfl
    · refine Or.inr ⟨b, off, rfl, hb, fun i hi => ?_⟩
      have hi' : i < zs.length := by simpa using hi
      rw [hc i hi']
      have := rg (zs.getD i 0) (by simp [List.getD_eq_getElem?_getD, hi'])
      simp only [List.getD_eq_getElem?_getD, List.getElem?_map, List.getElem?_eq_getElem hi', Option.getD_some, Option.map_some] at this ⊢
      congr 2
      omega
end Go.Proofs.Ytcfekpedaiemiaa

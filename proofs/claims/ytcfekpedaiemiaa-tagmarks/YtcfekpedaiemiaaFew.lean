/- The hand's Few: at most so many bytes, in new memory. -/
import Derived.Test.YtcfekpedaiemiaaByteApp
namespace Go.Proofs.Ytcfekpedaiemiaa
open Go.RowKit

def FewPost (w : World) (bs : List Nat) (e : Ending) (w' : World) : Prop := ∃ v, e = .returned v ∧ RowB w.heap.size w' v bs ∧ Only [] w w'
set_option maxHeartbeats 1000000 in
theorem few_any (v : Value) (bs : List Nat) (n : Nat) (w : World) (h : ReadC w v bs) (hlen : (bs.take n).length ≤ 140737488355328) :
    Calls Try.prog 12 #[v, .int .i64 n] w (FewPost w (bs.take n)) := by
  obtain ⟨a, cap, rfl⟩ : ∃ a cap, v = .slice a bs.length cap := by obtain ⟨_, a, cap, e, _⟩ := h; exact ⟨a, cap, e⟩
  have hcap : bs.length ≤ cap := by obtain ⟨_, a', cap', e, h1, _⟩ := h; injection e with e1 e2 e3; omega
  have key : ∀ k : Nat, k ≤ bs.length → bs.take n = bs.take k → Hid (RowB w.heap.size (w.alloc (.cells #[] 5)) (.slice (some ⟨w.heap.size, 0, none⟩) 0 0) [] ∧ ReadB (w.alloc (.cells #[] 5)) (.slice a k cap) (bs.take n)) := by
    intro k hk e
    rw [e]
    exact ⟨rowB_empty _ w (Nat.le_refl _), ((readC_take h k hk).only ((Only.refl [] w).alloc (.cells #[] 5)) (by simp)).read⟩
  clear h
  by_cases c : bs.length ≤ n
  · have K := key bs.length (Nat.le_refl _) (by rw [List.take_of_length_le c, List.take_length])
    have z1 : (bs.length : Int) ≤ (n : Int) := by omega
    have z2 : ¬ (n : Int) < (bs.length : Int) := by omega
    have z3 : (bs.length : Int) ≤ (cap : Int) := by omega
    clear key
    go_enter Try.func12, Try.ntmps12
    go_wp2_with (at_builtin; refine app_bytes rfl _ _ rfl rfl rfl K.out.1 K.out.2 (by simpa using hlen) (by simp) ?_)
    intro v' w1 A
    go_wp2_with fail
    go_ret
    exact ⟨v', rfl, by simpa [RowB] using A.row, ((Only.refl [] w).alloc _).then A.only (by simp [Value.ownBlock])⟩
  · have K := key n (by omega) rfl
    have z1 : ¬ (bs.length : Int) ≤ (n : Int) := by omega
    have z2 : (n : Int) < (bs.length : Int) := by omega
    have z3 : (n : Int) ≤ (cap : Int) := by omega
    clear key
    go_enter Try.func12, Try.ntmps12
    go_wp2_with (at_builtin; refine app_bytes rfl _ _ rfl rfl rfl K.out.1 K.out.2 (by simpa using hlen) (by simp) ?_)
    intro v' w1 A
    go_wp2_with fail
    go_ret
    exact ⟨v', rfl, by simpa [RowB] using A.row, ((Only.refl [] w).alloc _).then A.only (by simp [Value.ownBlock])⟩
end Go.Proofs.Ytcfekpedaiemiaa

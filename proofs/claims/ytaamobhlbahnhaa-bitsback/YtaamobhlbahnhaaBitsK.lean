/- The law's own known, and the hand's Pick and Few; size of a raw number. -/
import Derived.Test.YtaamobhlbahnhaaBitsS
namespace Go.Proofs.Ytaamobhlbahnhaa
open Go.RowKit Bit

def KnownPost (w : World) (e : Ending) (w' : World) : Prop := e = .returned (.bool true) ∧ Only [] w w'
theorem known_bits : pack ((([] : List Bool) ++ bitsOf 5 (sz 3)) ++ bitsOf 1 (sz 1)) = [176] ∧ ((([] : List Bool) ++ bitsOf 5 (sz 3)) ++ bitsOf 1 (sz 1)).length = 4 := by decide +kernel
set_option maxHeartbeats 1000000 in
theorem known_any (w : World) : Calls Try.prog 9 #[] w (KnownPost w) := by
  go_enter Try.func9, Try.ntmps9
  go_wp2_with fail
  refine (newWriter_any w).mono ?_
  rintro e w1 ⟨rfl, h1, o1, s1⟩
  have HB : w.heap.size ≤ w1.heap.size := by omega
  have H1 : Hid _ := And.intro h1 o1
  clear h1 o1 s1
  go_wp2_with fail
  refine (put_any w.heap.size w.heap.size 5 3 (by omega) [] (by simp) _ w1 H1.out.1 HB).mono ?_
  rintro e w2 ⟨rfl, sv2, h2, m2⟩
  have HB2 : w.heap.size ≤ w2.heap.size := by have := m2.only.size; omega
  have H2 : Hid (Wr w.heap.size w2 w.heap.size sv2 (([] : List Bool) ++ bitsOf 5 (sz 3)) ∧ Moved w.heap.size w1 w2 (.slice none 0 0) sv2) := ⟨h2, m2⟩
  clear h2 m2
  go_wp2_with fail
  refine (put_any w.heap.size w.heap.size 1 1 (by omega) _ (by simp; have := sz_le 3; omega) sv2 w2 H2.out.1 HB2).mono ?_
  rintro e w3 ⟨rfl, sv3, h3, m3⟩
  have H3 : Hid (Wr w.heap.size w3 w.heap.size sv3 ((([] : List Bool) ++ bitsOf 5 (sz 3)) ++ bitsOf 1 (sz 1)) ∧ Moved w.heap.size w2 w3 sv2 sv3) := ⟨h3, m3⟩
  clear h3 m3
  go_wp2_with fail
  refine (bytes_any w.heap.size w.heap.size sv3 _ (by rw [known_bits.2]; omega) w3 H3.out.1).mono ?_
  rintro e w4 ⟨v, rfl, h4, o4⟩
  have cv := (h4.read (pack_lt _)).conv
  rw [known_bits.1] at cv
  have H4 : Hid _ := And.intro h4 o4
  clear h4 o4
  have es : str [176] = ⟨#[176]⟩ := by decide +kernel
  rw [es] at cv
  clear es
  go_wp2_with fail
  have hw := H3.out.1.only H4.out.2 (by simp) (by simp)
  refine (len_any w.heap.size w.heap.size sv3 _ w4 hw).mono ?_
  rintro e w5 ⟨rfl, rfl⟩
  rw [known_bits.2]
  clear hw
  go_wp2_with fail
  go_ret
  have o2 := H2.out.2.own H1.out.2 (Nat.le_refl _) (by simp [Value.ownBlock])
  have o3 := H3.out.2.own o2 (Nat.le_refl _) H2.out.1.from
  exact ⟨rfl, o3.trans H4.out.2⟩
end Go.Proofs.Ytaamobhlbahnhaa

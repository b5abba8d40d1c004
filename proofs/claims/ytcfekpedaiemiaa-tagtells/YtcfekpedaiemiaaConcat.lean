/- slices.Concat of two slices of bytes. -/
import Derived.Test.YtcfekpedaiemiaaGrowLay
import Derived.Test.YtcfekpedaiemiaaByteApp
import Derived.LoopN
namespace Go.Proofs.Ytcfekpedaiemiaa
open Go.RowKit

/-- Grow of nil: an empty row with room -/
theorem grow_nil (n : Nat) (hn : 0 < n) (hl : n ≤ 140737488355328) (w : World) : Calls Try.prog 23 #[.slice none 0 0, .int .i64 n] w fun e w' => ∃ v, e = .returned v ∧ RowB w.heap.size w' v [] ∧ Only [] w w' := by
  obtain ⟨i0, hi, hz0, hz1, hz2⟩ := info_parts info_u8
  refine (Any8.slices_Grow_grow grow_lay i0 (.int .u8 0) hi hz0 (by rw [hz1]; decide) none 0 0 n [] w (Nat.le_refl _) (by omega) (by rw [hz2]; omega) (by omega) (by simp) (fun _ => rfl) (fun a h => by cases h)).mono ?_
  rintro e w' ⟨rfl, rfl⟩
  have g1 := grownCap_ge w (0 + n) 0 5
  have g2 := grownCap_le_maxLen w (0 + n) 0 5 (by unfold maxLen; omega)
  refine ⟨_, rfl, ⟨rfl, Or.inr ⟨w.heap.size, _, _, rfl, Nat.le_refl _, heap_alloc_new w.drew _, Nat.zero_le _, g2, ?_, rfl⟩⟩, (only_drew w).alloc _⟩
  simp only [Array.size_append, size_zeroCells]
  have e1 : (Value.int .u8 0).cells.size = 1 := rfl
  rw [e1]
  show 0 + (0 + n - 0) * 1 + (grownCap w (0 + n) 0 5 - (0 + n)) * 1 = grownCap w (0 + n) 0 5 * 1
  omega

set_option maxHeartbeats 1000000 in
theorem concat_any (p : Nat) (va vb : Value) (bs cs : List Nat) (w : World) (ha : ReadB w va bs) (hb : ReadB w vb cs) (c0 : w.cell? ⟨p, 0, none⟩ = some va) (c1 : w.cell? ⟨p, 1, none⟩ = some vb) (h0 : 0 < bs.length + cs.length) (hl : bs.length + cs.length ≤ 140737488355328) :
    Calls Try.prog 21 #[.slice (some ⟨p, 0, none⟩) 2 2] w fun e w' => ∃ v, e = .returned v ∧ RowB w.heap.size w' v (bs ++ cs) ∧ Only [] w w' := by
  have HA : Hid _ := ha
  have HB : Hid _ := hb
  have hp : p < w.heap.size := lt_cell c0
  obtain ⟨_, a1, cap1, ea, _⟩ := ha
  obtain ⟨_, a2, cap2, eb, _⟩ := hb
  subst ea eb
  go_enter Try.func21, Try.ntmps21
  go_wp2_with fail
  refine wp_loop_rounds 3 ?_
  rw [rounds_succ]
  go_wp2_with fail
  rw [rounds_succ]
  go_wp2_with fail
  rw [rounds_succ]
  go_wp2_with fail
  rw [show (bs.length : Int) + (cs.length : Int) = ((bs.length + cs.length : Nat) : Int) by omega]
  refine (grow_nil _ h0 hl _).mono ?_
  rintro e w1 ⟨v1, rfl, r1, o1⟩
  have c0' : w1.cell? ⟨p, 0, none⟩ = some (.slice a1 bs.length cap1) := by rw [o1.cell (p := ⟨p, 0, none⟩) hp (by simp)]; exact c0
  have R1 : Hid _ := r1
  have O1 : Hid _ := o1
  have HA1 : Hid _ := HA.out.only o1 (by simp)
  have hB1 : w.heap.size ≤ w1.heap.size := o1.size
  clear r1
  go_wp2_with fail
  refine wp_loop_rounds 3 ?_
  rw [rounds_succ]
  go_wp2_with (at_builtin; refine app_bytes rfl _ _ rfl rfl rfl R1.out HA1.out (by simp; omega) hB1 ?_)
  intro v2 w2 A2
  have o2 : Only [] w w2 := O1.out.then A2.only (fun x hx hl => by
    have hx' : v1.ownBlock = some x := by simpa [Option.mem_toList] using hx
    have := (World.ownsRow.lt R1.out x hx').1
    omega)
  have c1' : w2.cell? ⟨p, 1, none⟩ = some (.slice a2 cs.length cap2) := by rw [o2.cell (p := ⟨p, 1, none⟩) hp (by simp)]; exact c1
  have R2 : Hid _ := A2.row
  have HB2 : Hid _ := HB.out.only o2 (by simp)
  have O2 : Hid _ := o2
  have hB2 : w.heap.size ≤ w2.heap.size := o2.size
  clear A2
  go_wp2_with fail
  rw [rounds_succ]
  go_wp2_with (at_builtin; refine app_bytes rfl _ _ rfl rfl rfl R2.out HB2.out (by first | omega | (simp; omega)) hB2 ?_)
  intro v3 w3 A3
  have o3 : Only [] w w3 := O2.out.then A3.only (fun x hx hl => by
    have hx' : v2.ownBlock = some x := by simpa [Option.mem_toList] using hx
    have := (World.ownsRow.lt R2.out x hx').1
    omega)
  have R3 : Hid _ := A3.row
  clear A3
  go_wp2_with fail
  rw [rounds_succ]
  go_wp2_with fail
  go_ret
  exact ⟨v3, rfl, by simpa [RowB] using R3.out, o3⟩
end Go.Proofs.Ytcfekpedaiemiaa

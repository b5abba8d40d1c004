/- Package meter in memory: the contracts of Note, Count, Mean, Jitter, Lead. -/
import Derived.Test.YtfebpbahincieaaFlS
import Derived.Test.YtfebpbahincieaaMetr
import Derived.Test.YtfebpbahincieaaBlk
import Derived.BigQuiet
import Derived.BigRegion
import Derived.RegionTactic
import Derived.StillTailTactics
namespace Go.Proofs.Ytfebpbahincieaa
open Go.ChangeShapes Go.WideShapes Go.ChangeAt Go.RowKit
open Fl (V nn fin rg sg U)

theorem x_ceil (x : Nat) (w : World) (h : ∃ s m p, Ieee.double.read x = .number s m p) : (callFunc 27 #[.float .f64 x]).run Try.prog w = .ok (.value (.float .f64 (Fl.up x))) w := by
  rw [run_callFunc_extern (e := Extern.MathFloor.toIntegral "math.archCeil" .up) Try.func27 (by kernel_rfl) (by kernel_rfl) (by kernel_rfl) (by kernel_rfl) _ w]
  obtain ⟨s, m, p, e⟩ := h
  have e' : FloatKind.f64.decode x = .number s m p := e
  have hA : ∃ A : Bool → Nat → Sem Value, Extern.MathFloor.toIntegral "math.archCeil" .up #[.float .f64 x] = (match FloatKind.f64.decode x with | .nan s t => A s t | d => pure (.float .f64 (FloatKind.f64.encode (d.integral .up)))) := ⟨_, rfl⟩
  obtain ⟨A, hA⟩ := hA
  unfold Fl.up
  rw [hA, e', e]
  rfl
theorem ceil_any (x : Nat) (h : ∃ s m p, Ieee.double.read x = .number s m p) (w : World) : Calls Try.prog 21 #[.float .f64 x] w fun e w' => e = .returned (.float .f64 (Fl.up x)) ∧ w = w' := by
  have H := fun w => x_ceil x w h
  clear h
  go_enter Try.func21, Try.ntmps21
  go_wp2
  go_ret
  exact ⟨rfl, rfl⟩

/-- a Meter in memory -/
structure Mt (w : World) (b : Nat) (s : Fl.Metr.S) : Prop where
  blk : Blk w b [.int .i64 s.count, .float .f64 s.mean, .float .f64 s.jit]
  ok : s.ok
theorem Mt.only {w w' : World} {b : Nat} {s : Fl.Metr.S} {L : List Nat} (h : Mt w b s) (o : Only L w w') (hb : b ∉ L) : Mt w' b s := ⟨h.blk.only o hb, h.ok⟩
theorem Mt.lt {w : World} {b : Nat} {s : Fl.Metr.S} (h : Mt w b s) : b < w.heap.size := h.blk.lt
theorem Mt.new (w : World) (t : TypeId) : Mt (w.alloc (.cells #[.int .i64 0, .float .f64 0, .float .f64 0] t)) w.heap.size Fl.Metr.zero := ⟨Blk.new _ _ _, Fl.Metr.zero_ok⟩

theorem count_any (b : Nat) (s : Fl.Metr.S) (w : World) (h : Mt w b s) : Calls Try.prog 12 #[.pointer (some ⟨b, 0, none⟩)] w fun e w' => e = .returned (.int .i64 s.count) ∧ w' = w := by
  have c := h.blk.cell 0
  simp at c
  clear h
  go_enter Try.func12, Try.ntmps12
  go_wp2
  go_ret
  exact ⟨rfl, rfl⟩
theorem mean_any (b : Nat) (s : Fl.Metr.S) (w : World) (h : Mt w b s) : Calls Try.prog 15 #[.pointer (some ⟨b, 0, none⟩)] w fun e w' => e = .returned (.float .f64 s.mean) ∧ w' = w := by
  have c := h.blk.cell 1
  simp at c
  clear h
  go_enter Try.func15, Try.ntmps15
  go_wp2
  go_ret
  exact ⟨rfl, rfl⟩
theorem jit_any (b : Nat) (s : Fl.Metr.S) (w : World) (h : Mt w b s) : Calls Try.prog 19 #[.pointer (some ⟨b, 0, none⟩)] w fun e w' => e = .returned (.float .f64 s.jit) ∧ w' = w := by
  have c := h.blk.cell 2
  simp at c
  clear h
  go_enter Try.func19, Try.ntmps19
  go_wp2
  go_ret
  exact ⟨rfl, rfl⟩

theorem issample_any (x : Nat) (w : World) : Calls Try.prog 22 #[.float .f64 x] w fun e w' => e = .returned (.bool (decide (Fl.Metr.sample x))) ∧ w = w' := by
  by_cases n : nn x
  · have g := o_ge n nn_c0
    rw [Fl.V_0] at g
    have l := o_le n Fl.Metr.fin_mil.nn
    rw [Fl.Metr.V_mil] at l
    by_cases p : 0 ≤ V x
    · rw [decide_eq_true p] at g
      have E : decide (Fl.Metr.sample x) = decide (V x ≤ 1000000 * (U : Int)) := by unfold Fl.Metr.sample; simp [n, p]
      rw [E]
      unfold Fl.Metr.mil at l
      clear n p E
      generalize decide (V x ≤ 1000000 * (U : Int)) = b at *
      go_enter Try.func22, Try.ntmps22
      go_wp2
      go_ret
      exact ⟨rfl, rfl⟩
    · rw [decide_eq_false p] at g
      rw [decide_eq_false (fun h => p h.2.1)]
      clear n p l
      go_enter Try.func22, Try.ntmps22
      go_wp2
      go_ret
      exact ⟨rfl, rfl⟩
  · have g := o_ge_nan 0 n
    rw [decide_eq_false (fun h => n h.1)]
    clear n
    go_enter Try.func22, Try.ntmps22
    go_wp2
    go_ret
    exact ⟨rfl, rfl⟩
end Go.Proofs.Ytfebpbahincieaa

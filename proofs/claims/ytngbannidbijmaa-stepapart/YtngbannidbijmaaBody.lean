/- Package body as plain functions, and its calls. -/
import Derived.Test.YtngbannidbijmaaRows
import Derived.Test.YtngbannidbijmaaGOnly
import Derived.WalkKit
import Derived.ProofKit
import Derived.Below
import Derived.WalkLawsBesides
import Derived.Deep.LoopGhost
import Derived.Lib.Hide
namespace Go.Proofs.Ytngbannidbijmaa
open Go.RowKit

/-- a body -/
structure Bd where
  k : Int
  o : Int
  x : Int
  y : Int
  vx : Int
  vy : Int
  age : Int
  m0 : Int
  m1 : Int
  m2 : Int
  m3 : Int
  f : Int
deriving DecidableEq
def Bd.cells (b : Bd) : List Value := [.int .i64 b.k, .int .i64 b.o, .int .i64 b.x, .int .i64 b.y, .int .i64 b.vx, .int .i64 b.vy, .int .i64 b.age, .int .i64 b.m0, .int .i64 b.m1, .int .i64 b.m2, .int .i64 b.m3, .int .i64 b.f]
abbrev Bd.v (b : Bd) : Value := .agg #[.int .i64 b.k, .int .i64 b.o, .int .i64 b.x, .int .i64 b.y, .int .i64 b.vx, .int .i64 b.vy, .int .i64 b.age, .int .i64 b.m0, .int .i64 b.m1, .int .i64 b.m2, .int .i64 b.m3, .int .i64 b.f]
namespace Body
def zero : Bd := ⟨0, 0, 0, 0, 0, 0, 0, 0, 0, 0, 0, 0⟩
def btw (n lo hi : Int) : Bool := decide (lo ≤ n) && decide (n ≤ hi)
def within (n lo hi : Int) : Int := if n ≤ hi then (if lo < n then n else lo) else (if lo < hi then hi else lo)
def mem (n : Int) : Bool := btw n (-1000000) 1000000
def some (b : Bd) : Bool := mem b.m0 && mem b.m1 && mem b.m2 && mem b.m3 && (b.k == 1 || b.k == 2) && btw b.o 0 7 && btw b.x 0 4095 && btw b.y 0 4095 && btw b.vx (-64) 64 && btw b.vy (-64) 64 && btw b.age 0 600 && btw b.f 0 65535
end Body
/-- a Player or a Shot that may be -/
structure Body.Ok (b : Bd) : Prop where
  k : b.k = 1 ∨ b.k = 2
  o : 0 ≤ b.o ∧ b.o ≤ 7
  x : 0 ≤ b.x ∧ b.x ≤ 4095
  y : 0 ≤ b.y ∧ b.y ≤ 4095
  vx : -64 ≤ b.vx ∧ b.vx ≤ 64
  vy : -64 ≤ b.vy ∧ b.vy ≤ 64
  age : 0 ≤ b.age ∧ b.age ≤ 600
  f : 0 ≤ b.f ∧ b.f ≤ 65535
  m0 : -1000000 ≤ b.m0 ∧ b.m0 ≤ 1000000
  m1 : -1000000 ≤ b.m1 ∧ b.m1 ≤ 1000000
  m2 : -1000000 ≤ b.m2 ∧ b.m2 ≤ 1000000
  m3 : -1000000 ≤ b.m3 ∧ b.m3 ≤ 1000000
theorem Body.some_iff (b : Bd) : Body.some b = true ↔ Body.Ok b := by
  simp only [Body.some, Body.mem, Body.btw, Bool.and_eq_true, Bool.or_eq_true, beq_iff_eq, decide_eq_true_eq]
  constructor
  · rintro ⟨⟨⟨⟨⟨⟨⟨⟨⟨⟨⟨h1, h2⟩, h3⟩, h4⟩, h5⟩, h6⟩, h7⟩, h8⟩, h9⟩, h10⟩, h11⟩, h12⟩
    exact ⟨h5, h6, h7, h8, h9, h10, h11, h12, h1, h2, h3, h4⟩
  · rintro ⟨h5, h6, h7, h8, h9, h10, h11, h12, h1, h2, h3, h4⟩
    exact ⟨⟨⟨⟨⟨⟨⟨⟨⟨⟨⟨h1, h2⟩, h3⟩, h4⟩, h5⟩, h6⟩, h7⟩, h8⟩, h9⟩, h10⟩, h11⟩, h12⟩
theorem ret_b {a b : Bool} (h : a = b) : Ending.returned (.bool a) = .returned (.bool b) := by rw [h]
theorem ret_i {a b : Int} (h : a = b) : Ending.returned (.int .i64 a) = .returned (.int .i64 b) := by rw [h]

theorem between_any (n lo hi : Int) (w : World) : Calls Try.prog 71 #[.int .i64 n, .int .i64 lo, .int .i64 hi] w fun e w' => e = .returned (.bool (Body.btw n lo hi)) ∧ w' = w := by
  by_cases h : lo ≤ n
  · have e : Body.btw n lo hi = decide (n ≤ hi) := by simp [Body.btw, h]
    rw [e]
    go_enter Try.func71, Try.ntmps71
    go_wp2_with fail
    go_ret
    exact ⟨rfl, rfl⟩
  · have e : Body.btw n lo hi = false := by simp [Body.btw, h]
    rw [e]
    go_enter Try.func71, Try.ntmps71
    go_wp2_with fail
    go_ret
    exact ⟨rfl, rfl⟩
theorem onField_any (n : Int) (w : World) : Calls Try.prog 72 #[.int .i64 n] w fun e w' => e = .returned (.bool (Body.btw n 0 4095)) ∧ w' = w := by
  go_enter Try.func72, Try.ntmps72
  go_wp2_with fail
  refine (between_any _ _ _ _).mono ?_
  rintro e w' ⟨rfl, rfl⟩
  go_wp2_with fail
  go_ret
  exact ⟨rfl, rfl⟩
theorem within_any (n lo hi : Int) (w : World) : Calls Try.prog 51 #[.int .i64 n, .int .i64 lo, .int .i64 hi] w fun e w' => e = .returned (.int .i64 (Body.within n lo hi)) ∧ w' = w := by
  unfold Body.within
  by_cases h : n ≤ hi
  · by_cases h2 : lo < n
    · rw [if_pos h, if_pos h2]
      go_enter Try.func51, Try.ntmps51
      go_wp2_with fail
      go_ret
      exact ⟨rfl, rfl⟩
    · rw [if_pos h, if_neg h2]
      go_enter Try.func51, Try.ntmps51
      go_wp2_with fail
      go_ret
      exact ⟨rfl, rfl⟩
  · by_cases h2 : lo < hi
    · rw [if_neg h, if_pos h2]
      go_enter Try.func51, Try.ntmps51
      go_wp2_with fail
      go_ret
      exact ⟨rfl, rfl⟩
    · rw [if_neg h, if_neg h2]
      go_enter Try.func51, Try.ntmps51
      go_wp2_with fail
      go_ret
      exact ⟨rfl, rfl⟩
theorem asSpeed_any (n : Int) (w : World) : Calls Try.prog 88 #[.int .i64 n] w fun e w' => e = .returned (.int .i64 (Body.within n (-64) 64)) ∧ w' = w := by
  go_enter Try.func88, Try.ntmps88
  go_wp2_with fail
  refine (within_any _ _ _ _).mono ?_
  rintro e w' ⟨rfl, rfl⟩
  go_wp2_with fail
  go_ret
  exact ⟨rfl, rfl⟩


theorem idx_0 (a b c d : Int) (w : World) : (Instr.index 31 (.agg #[.int .i64 a, .int .i64 b, .int .i64 c, .int .i64 d]) (.int .i64 0)).run Try.prog w = .ok (.int .i64 a) w := by kernel_rfl
theorem idx_1 (a b c d : Int) (w : World) : (Instr.index 31 (.agg #[.int .i64 a, .int .i64 b, .int .i64 c, .int .i64 d]) (.int .i64 1)).run Try.prog w = .ok (.int .i64 b) w := by kernel_rfl
theorem idx_2 (a b c d : Int) (w : World) : (Instr.index 31 (.agg #[.int .i64 a, .int .i64 b, .int .i64 c, .int .i64 d]) (.int .i64 2)).run Try.prog w = .ok (.int .i64 c) w := by kernel_rfl
theorem idx_3 (a b c d : Int) (w : World) : (Instr.index 31 (.agg #[.int .i64 a, .int .i64 b, .int .i64 c, .int .i64 d]) (.int .i64 3)).run Try.prog w = .ok (.int .i64 d) w := by kernel_rfl
/-- a body in memory: a block of its own -/
structure Bl (w : World) (p : Nat) (b : Bd) : Prop where
  blk : Blk w p b.cells
theorem Bl.all {w : World} {p : Nat} {b : Bd} (h : Bl w p b) : w.cell? ⟨p, 0, none⟩ = .some (.int .i64 b.k) ∧ w.cell? ⟨p, 1, none⟩ = .some (.int .i64 b.o) ∧ w.cell? ⟨p, 2, none⟩ = .some (.int .i64 b.x) ∧ w.cell? ⟨p, 3, none⟩ = .some (.int .i64 b.y) ∧ w.cell? ⟨p, 4, none⟩ = .some (.int .i64 b.vx) ∧ w.cell? ⟨p, 5, none⟩ = .some (.int .i64 b.vy) ∧ w.cell? ⟨p, 6, none⟩ = .some (.int .i64 b.age) ∧ w.cell? ⟨p, 7, none⟩ = .some (.int .i64 b.m0) ∧ w.cell? ⟨p, 8, none⟩ = .some (.int .i64 b.m1) ∧ w.cell? ⟨p, 9, none⟩ = .some (.int .i64 b.m2) ∧ w.cell? ⟨p, 10, none⟩ = .some (.int .i64 b.m3) ∧ w.cell? ⟨p, 11, none⟩ = .some (.int .i64 b.f) := by
  have := fun i => h.blk.cell i
  exact ⟨this 0, this 1, this 2, this 3, this 4, this 5, this 6, this 7, this 8, this 9, this 10, this 11⟩
theorem Bl.frozen {w : World} {p : Nat} {b : Bd} (h : Bl w p b) (i : Nat) : w.frozen? ⟨p, i, none⟩ = false := h.blk.frozen i
theorem Bl.lt {w : World} {p : Nat} {b : Bd} (h : Bl w p b) : p < w.heap.size := h.blk.lt
theorem Bl.only {w w' : World} {p : Nat} {b : Bd} {S : List Nat} (h : Bl w p b) (o : Only S w w') (hn : p ∉ S) : Bl w' p b := ⟨h.blk.only o hn⟩
theorem Bl.new (b : Bd) (w : World) (t : TypeId) : Bl (w.alloc (.cells #[.int .i64 b.k, .int .i64 b.o, .int .i64 b.x, .int .i64 b.y, .int .i64 b.vx, .int .i64 b.vy, .int .i64 b.age, .int .i64 b.m0, .int .i64 b.m1, .int .i64 b.m2, .int .i64 b.m3, .int .i64 b.f] t)) w.heap.size b := ⟨Blk.new w _ _⟩
theorem Bl.newAt (b : Bd) {w : World} {M : Nat} (h : w.heap.size = M) (t : TypeId) : Bl (w.alloc (.cells #[.int .i64 b.k, .int .i64 b.o, .int .i64 b.x, .int .i64 b.y, .int .i64 b.vx, .int .i64 b.vy, .int .i64 b.age, .int .i64 b.m0, .int .i64 b.m1, .int .i64 b.m2, .int .i64 b.m3, .int .i64 b.f] t)) M b := h ▸ Bl.new b w t
/-- another body, laid cell by cell -/
def putB (w : World) (p : Nat) (b : Bd) : World := (((((((((((w.setCell ⟨p, 0, none⟩ (.int .i64 b.k)).setCell ⟨p, 1, none⟩ (.int .i64 b.o)).setCell ⟨p, 2, none⟩ (.int .i64 b.x)).setCell ⟨p, 3, none⟩ (.int .i64 b.y)).setCell ⟨p, 4, none⟩ (.int .i64 b.vx)).setCell ⟨p, 5, none⟩ (.int .i64 b.vy)).setCell ⟨p, 6, none⟩ (.int .i64 b.age)).setCell ⟨p, 7, none⟩ (.int .i64 b.m0)).setCell ⟨p, 8, none⟩ (.int .i64 b.m1)).setCell ⟨p, 9, none⟩ (.int .i64 b.m2)).setCell ⟨p, 10, none⟩ (.int .i64 b.m3)).setCell ⟨p, 11, none⟩ (.int .i64 b.f)
theorem putB_only (w : World) (p : Nat) (b : Bd) : Only [p] w (putB w p b) :=
  ((((((((((((Only.refl _ _).setCell (by simp) _).setCell (by simp) _).setCell (by simp) _).setCell (by simp) _).setCell (by simp) _).setCell (by simp) _).setCell (by simp) _).setCell (by simp) _).setCell (by simp) _).setCell (by simp) _).setCell (by simp) _).setCell (by simp) _
theorem putB_size (w : World) (p : Nat) (b : Bd) : (putB w p b).heap.size = w.heap.size := by simp [putB, World.setCell]
theorem putB_bl {w : World} {p : Nat} {c : Bd} (h : Bl w p c) (b : Bd) : Bl (putB w p b) p b :=
  ⟨(((((((((((h.blk.set 0 _).set 1 _).set 2 _).set 3 _).set 4 _).set 5 _).set 6 _).set 7 _).set 8 _).set 9 _).set 10 _).set 11 _⟩
theorem Bl.set0 {w : World} {p : Nat} {b : Bd} (h : Bl w p b) (n : Int) : Bl (w.setCell ⟨p, 0, none⟩ (.int .i64 n)) p { b with k := n } := ⟨h.blk.set 0 _⟩
theorem Bl.set1 {w : World} {p : Nat} {b : Bd} (h : Bl w p b) (n : Int) : Bl (w.setCell ⟨p, 1, none⟩ (.int .i64 n)) p { b with o := n } := ⟨h.blk.set 1 _⟩
theorem Bl.set2 {w : World} {p : Nat} {b : Bd} (h : Bl w p b) (n : Int) : Bl (w.setCell ⟨p, 2, none⟩ (.int .i64 n)) p { b with x := n } := ⟨h.blk.set 2 _⟩
theorem Bl.set3 {w : World} {p : Nat} {b : Bd} (h : Bl w p b) (n : Int) : Bl (w.setCell ⟨p, 3, none⟩ (.int .i64 n)) p { b with y := n } := ⟨h.blk.set 3 _⟩
theorem Bl.set4 {w : World} {p : Nat} {b : Bd} (h : Bl w p b) (n : Int) : Bl (w.setCell ⟨p, 4, none⟩ (.int .i64 n)) p { b with vx := n } := ⟨h.blk.set 4 _⟩
theorem Bl.set5 {w : World} {p : Nat} {b : Bd} (h : Bl w p b) (n : Int) : Bl (w.setCell ⟨p, 5, none⟩ (.int .i64 n)) p { b with vy := n } := ⟨h.blk.set 5 _⟩
theorem Bl.set6 {w : World} {p : Nat} {b : Bd} (h : Bl w p b) (n : Int) : Bl (w.setCell ⟨p, 6, none⟩ (.int .i64 n)) p { b with age := n } := ⟨h.blk.set 6 _⟩
theorem Bl.set7 {w : World} {p : Nat} {b : Bd} (h : Bl w p b) (n : Int) : Bl (w.setCell ⟨p, 7, none⟩ (.int .i64 n)) p { b with m0 := n } := ⟨h.blk.set 7 _⟩
theorem Bl.set8 {w : World} {p : Nat} {b : Bd} (h : Bl w p b) (n : Int) : Bl (w.setCell ⟨p, 8, none⟩ (.int .i64 n)) p { b with m1 := n } := ⟨h.blk.set 8 _⟩
theorem Bl.set9 {w : World} {p : Nat} {b : Bd} (h : Bl w p b) (n : Int) : Bl (w.setCell ⟨p, 9, none⟩ (.int .i64 n)) p { b with m2 := n } := ⟨h.blk.set 9 _⟩
theorem Bl.set10 {w : World} {p : Nat} {b : Bd} (h : Bl w p b) (n : Int) : Bl (w.setCell ⟨p, 10, none⟩ (.int .i64 n)) p { b with m3 := n } := ⟨h.blk.set 10 _⟩
theorem Bl.set11 {w : World} {p : Nat} {b : Bd} (h : Bl w p b) (n : Int) : Bl (w.setCell ⟨p, 11, none⟩ (.int .i64 n)) p { b with f := n } := ⟨h.blk.set 11 _⟩
set_option maxRecDepth 100000 in
set_option maxHeartbeats 4000000 in
theorem somebody_any (b : Bd) (w : World) : Calls Try.prog 50 #[b.v] w fun e w' => e = .returned (.bool (Body.some b)) ∧ Only [] w w' := by
  have hnot : ∀ (x : Bool) (w : World), (Op.unary .not (.bool x)).run Try.prog w = .ok (.bool (!x)) w := fun _ _ => rfl
  have HB : Hid _ := Bl.new b w 33
  obtain ⟨k, o, x, y, vx, vy, age, m0, m1, m2, m3, f⟩ := b
  go_enter Try.func50, Try.ntmps50
  go_wp2_with fail
  obtain ⟨W, hW⟩ : ∃ W, W = w.alloc (.cells #[.int .i64 k, .int .i64 o, .int .i64 x, .int .i64 y, .int .i64 vx, .int .i64 vy, .int .i64 age, .int .i64 m0, .int .i64 m1, .int .i64 m2, .int .i64 m3, .int .i64 f] 33) := ⟨_, rfl⟩
  have HR : Hid (Only [] w W) := by rw [hW]; exact (Only.refl _ _).alloc _
  rw [← hW] at HB ⊢
  clear hW
  obtain ⟨c0, c1, c2, c3, c4, c5, c6, c7, c8, c9, c10, c11⟩ := HB.out.all
  clear HB
  generalize w.heap.size = B at *
  go_loopg [7] 5 (fun gk vi wr => ∃ j : Nat, vi = .int .i64 j ∧ j ≤ 4 ∧ 5 - j ≤ gk ∧ wr = W ∧ Hid ((0 < j → Body.mem m0 = true) ∧ (1 < j → Body.mem m1 = true) ∧ (2 < j → Body.mem m2 = true) ∧ (3 < j → Body.mem m3 = true)))
  case atStart => exact ⟨0, rfl, by omega, by omega, rfl, by omega, by omega, by omega, by omega⟩
  case round =>
    obtain ⟨j, rfl, hj, hg, rfl, HM⟩ := hrel
    have hj5 : j = 0 ∨ j = 1 ∨ j = 2 ∨ j = 3 ∨ j = 4 := by omega
    rcases hj5 with rfl | rfl | rfl | rfl | rfl
    · have ix := idx_0 m0 m1 m2 m3
      go_wp2_with fail
      refine (between_any _ _ _ _).mono ?_
      rintro e w' ⟨rfl, rfl⟩
      cases hm : Body.btw m0 (-1000000) 1000000
      · go_wp2_with fail
        go_ret
        exact ⟨ret_b (by simp [Body.some, Body.mem, hm]), HR.out⟩
      · have M : Hid (Body.mem m0 = true) := hm
        go_wp2_with fail
        go_roundg 4
        case measure => omega
        case rel => exact ⟨1, rfl, by omega, by omega, rfl, by first | (intro; exact M.out) | omega, by omega, by omega, by omega⟩
    · have ix := idx_1 m0 m1 m2 m3
      go_wp2_with fail
      refine (between_any _ _ _ _).mono ?_
      rintro e w' ⟨rfl, rfl⟩
      cases hm : Body.btw m1 (-1000000) 1000000
      · go_wp2_with fail
        go_ret
        exact ⟨ret_b (by simp [Body.some, Body.mem, hm]), HR.out⟩
      · have M : Hid (Body.mem m1 = true) := hm
        go_wp2_with fail
        go_roundg 3
        case measure => omega
        case rel => exact ⟨2, rfl, by omega, by omega, rfl, by intro; exact HM.out.1 (by omega), by intro; exact M.out, by omega, by omega⟩
    · have ix := idx_2 m0 m1 m2 m3
      go_wp2_with fail
      refine (between_any _ _ _ _).mono ?_
      rintro e w' ⟨rfl, rfl⟩
      cases hm : Body.btw m2 (-1000000) 1000000
      · go_wp2_with fail
        go_ret
        exact ⟨ret_b (by simp [Body.some, Body.mem, hm]), HR.out⟩
      · have M : Hid (Body.mem m2 = true) := hm
        go_wp2_with fail
        go_roundg 2
        case measure => omega
        case rel => exact ⟨3, rfl, by omega, by omega, rfl, by intro; exact HM.out.1 (by omega), by intro; exact HM.out.2.1 (by omega), by intro; exact M.out, by omega⟩
    · have ix := idx_3 m0 m1 m2 m3
      go_wp2_with fail
      refine (between_any _ _ _ _).mono ?_
      rintro e w' ⟨rfl, rfl⟩
      cases hm : Body.btw m3 (-1000000) 1000000
      · go_wp2_with fail
        go_ret
        exact ⟨ret_b (by simp [Body.some, Body.mem, hm]), HR.out⟩
      · have M : Hid (Body.mem m3 = true) := hm
        go_wp2_with fail
        go_roundg 1
        case measure => omega
        case rel => exact ⟨4, rfl, by omega, by omega, rfl, by intro; exact HM.out.1 (by omega), by intro; exact HM.out.2.1 (by omega), by intro; exact HM.out.2.2.1 (by omega), by intro; exact M.out⟩
    · obtain ⟨g0, g1, g2, g3⟩ := HM.out
      have MM : Hid (Body.mem m0 = true ∧ Body.mem m1 = true ∧ Body.mem m2 = true ∧ Body.mem m3 = true) := ⟨g0 (by omega), g1 (by omega), g2 (by omega), g3 (by omega)⟩
      clear g0 g1 g2 g3 HM
      have hk : k = 1 ∨ k = 2 ∨ (¬ k = 1 ∧ ¬ k = 2) := by omega
      rcases hk with rfl | rfl | ⟨k1, k2⟩
      case inr.inr =>
        have k1' : (k == 1) = false := by simpa using k1
        have k2' : (k == 2) = false := by simpa using k2
        go_wp2_with fail
        go_ret
        exact ⟨ret_b (by simp [Body.some, k1, k2]), HR.out⟩
      all_goals (
      go_wp2_with fail
      refine (between_any _ _ _ _).mono ?_
      rintro e w' ⟨rfl, rfl⟩
      cases ho : Body.btw o 0 7
      · go_wp2_with fail
        go_ret
        exact ⟨ret_b (by simp [Body.some, ho]), HR.out⟩
      go_wp2_with fail
      refine (onField_any _ _).mono ?_
      rintro e w' ⟨rfl, rfl⟩
      cases hx : Body.btw x 0 4095
      · go_wp2_with fail
        go_ret
        exact ⟨ret_b (by simp [Body.some, hx]), HR.out⟩
      go_wp2_with fail
      refine (onField_any _ _).mono ?_
      rintro e w' ⟨rfl, rfl⟩
      cases hy : Body.btw y 0 4095
      · go_wp2_with fail
        go_ret
        exact ⟨ret_b (by simp [Body.some, hy]), HR.out⟩
      go_wp2_with fail
      refine (between_any _ _ _ _).mono ?_
      rintro e w' ⟨rfl, rfl⟩
      cases hvx : Body.btw vx (-64) 64
      · go_wp2_with fail
        go_ret
        exact ⟨ret_b (by simp [Body.some, hvx]), HR.out⟩
      go_wp2_with fail
      refine (between_any _ _ _ _).mono ?_
      rintro e w' ⟨rfl, rfl⟩
      cases hvy : Body.btw vy (-64) 64
      · go_wp2_with fail
        go_ret
        exact ⟨ret_b (by simp [Body.some, hvy]), HR.out⟩
      go_wp2_with fail
      refine (between_any _ _ _ _).mono ?_
      rintro e w' ⟨rfl, rfl⟩
      cases hage : Body.btw age 0 600
      · go_wp2_with fail
        go_ret
        exact ⟨ret_b (by simp [Body.some, hage]), HR.out⟩
      go_wp2_with fail
      refine (between_any _ _ _ _).mono ?_
      rintro e w' ⟨rfl, rfl⟩
      go_wp2_with fail
      go_ret
      exact ⟨ret_b (by simp [Body.some, MM.out, ho, hx, hy, hvx, hvy, hage]), HR.out⟩)
end Go.Proofs.Ytngbannidbijmaa

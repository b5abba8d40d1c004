/- Package rule as plain functions, and a machine in memory. -/
import Derived.Test.YtngbannidbijmaaBodyA
import Derived.Test.YtngbannidbijmaaDiceA
import Derived.Test.YtngbannidbijmaaTrap
namespace Go.Proofs.Ytngbannidbijmaa
open Go.RowKit
set_option linter.unusedVariables false

/-- an op -/
structure Op3 where
  c : Int
  a : Int
  b : Int
deriving DecidableEq
abbrev Op3.v (o : Op3) : Value := .agg #[.int .i64 o.c, .int .i64 o.a, .int .i64 o.b]
def Op3.cells (o : Op3) : List Value := [.int .i64 o.c, .int .i64 o.a, .int .i64 o.b]
/-- what a rule has -/
structure Ev where
  b : Bd
  t : Int
  ix : Int
  iy : Int
  d : Int
  room : Int
  sh : List Bd
namespace Rule
def clamp (n : Int) : Int := Body.within n (-1000000) 1000000
def reg (b : Bd) (k : Int) : Int := if k = 0 then b.m0 else if k = 1 then b.m1 else if k = 2 then b.m2 else b.m3
def setr (b : Bd) (k v : Int) : Bd := if k = 0 then { b with m0 := v } else if k = 1 then { b with m1 := v } else if k = 2 then { b with m2 := v } else { b with m3 := v }
def is (k : Int) : Bool := Body.btw k 0 3
def field (e : Ev) (k : Int) : Int := if k = 0 then e.b.x else if k = 1 then e.b.y else if k = 2 then e.b.vx else if k = 3 then e.b.vy else if k = 4 then e.b.age else if k = 5 then e.t else if k = 6 then e.ix else e.iy
def put (b : Bd) (k v : Int) : Bd := if k = 0 then { b with x := Body.within v 0 4095 } else if k = 1 then { b with y := Body.within v 0 4095 } else if k = 2 then { b with vx := Body.within v (-64) 64 } else { b with vy := Body.within v (-64) 64 }
/-- what Copy, Add, Sub, Mul and Div make -/
def reckon (c a b : Int) : Int := if c = 3 then a + b else if c = 4 then a - b else if c = 5 then a * b else if c = 6 then a.tdiv b else b
/-- what an op comes to: a fault, or what is then, and where it goes on -/
inductive Res where
  | fault (c : Int)
  | next (e : Ev) (k : Int)
/-- one op of n, at a place -/
def act (n : Int) (at_ : Int) (o : Op3) (e : Ev) : Res :=
  if o.c = 1 then (if is o.a then .next { e with b := setr e.b o.a (clamp o.b) } (at_ + 1) else .fault 2)
  else if 2 ≤ o.c ∧ o.c ≤ 6 then (if is o.a && is o.b then (if o.c = 6 ∧ reg e.b o.b = 0 then .fault 1 else .next { e with b := setr e.b o.a (clamp (reckon o.c (reg e.b o.a) (reg e.b o.b))) } (at_ + 1)) else .fault 2)
  else if o.c = 7 then (if is o.a then (if Body.btw o.b 0 7 then .next { e with b := setr e.b o.a (clamp (field e o.b)) } (at_ + 1) else .fault 3) else .fault 2)
  else if o.c = 8 then (if is o.b then (if is o.a then .next { e with b := put e.b o.a (reg e.b o.b) } (at_ + 1) else .fault 3) else .fault 2)
  else if o.c = 9 then (if is o.a then (if reg e.b o.a = 0 then (if Body.btw o.b 0 n then .next e o.b else .fault 4) else .next e (at_ + 1)) else .fault 2)
  else if o.c = 10 then (if Body.btw o.b 0 n then .next e o.b else .fault 4)
  else if o.c = 11 then (if is o.a && is o.b then (if 1 ≤ reg e.b o.b then .next { e with d := Dice.next e.d, b := setr e.b o.a (clamp (Dice.num (Dice.next e.d) % reg e.b o.b)) } (at_ + 1) else .fault 6) else .fault 2)
  else if o.c = 12 then (if is o.a && is o.b then (if (e.sh.length : Int) < e.room then .next { e with sh := e.sh ++ [Body.shot e.b (reg e.b o.a) (reg e.b o.b)] } (at_ + 1) else .fault 7) else .fault 2)
  else if o.c = 13 then .next e n
  else .fault 4
/-- what a list of ops comes to: a fault at a place, or what is then -/
inductive Out where
  | fault (c at_ : Int)
  | done (e : Ev)
/-- the ops from a place on, of which so many may be done -/
def go (l : List Op3) : Nat → Int → Ev → Out
  | 0, at_, e => if at_ < l.length then .fault 5 at_ else .done e
  | k + 1, at_, e => if at_ < l.length then (match act l.length at_ (l.getD at_.toNat ⟨0, 0, 0⟩) e with | .fault c => .fault c at_ | .next e' a' => go l k a' e') else .done e
end Rule

/-- a machine: its cells -/
structure Mch where
  ops : Value
  b : Bd
  t : Int
  ix : Int
  iy : Int
  d : Int
  room : Int
  sh : Value
  at_ : Int
  done : Int
def Mch.cells (m : Mch) : List Value := [m.ops, .int .i64 m.b.k, .int .i64 m.b.o, .int .i64 m.b.x, .int .i64 m.b.y, .int .i64 m.b.vx, .int .i64 m.b.vy, .int .i64 m.b.age, .int .i64 m.b.m0, .int .i64 m.b.m1, .int .i64 m.b.m2, .int .i64 m.b.m3, .int .i64 m.b.f, .int .i64 m.t, .int .i64 m.ix, .int .i64 m.iy, .int .u64 m.d, .int .i64 m.room, m.sh, .int .i64 m.at_, .int .i64 m.done]
structure Mb (w : World) (p : Nat) (m : Mch) : Prop where
  blk : Blk w p m.cells
section
variable {w w' : World} {p : Nat} {m : Mch}
theorem Mb.ops (h : Mb w p m) : w.cell? ⟨p, 0, none⟩ = some m.ops := h.blk.cell 0
theorem Mb.at_ (h : Mb w p m) : w.cell? ⟨p, 19, none⟩ = some (.int .i64 m.at_) := h.blk.cell 19
theorem Mb.done (h : Mb w p m) : w.cell? ⟨p, 20, none⟩ = some (.int .i64 m.done) := h.blk.cell 20
theorem Mb.d (h : Mb w p m) : w.cell? ⟨p, 16, none⟩ = some (.int .u64 m.d) := h.blk.cell 16
theorem Mb.room (h : Mb w p m) : w.cell? ⟨p, 17, none⟩ = some (.int .i64 m.room) := h.blk.cell 17
theorem Mb.sh (h : Mb w p m) : w.cell? ⟨p, 18, none⟩ = some m.sh := h.blk.cell 18
theorem Mb.body (h : Mb w p m) : w.cell? ⟨p, 1, none⟩ = some (.int .i64 m.b.k) ∧ w.cell? ⟨p, 2, none⟩ = some (.int .i64 m.b.o) ∧ w.cell? ⟨p, 3, none⟩ = some (.int .i64 m.b.x) ∧ w.cell? ⟨p, 4, none⟩ = some (.int .i64 m.b.y) ∧ w.cell? ⟨p, 5, none⟩ = some (.int .i64 m.b.vx) ∧ w.cell? ⟨p, 6, none⟩ = some (.int .i64 m.b.vy) ∧ w.cell? ⟨p, 7, none⟩ = some (.int .i64 m.b.age) ∧ w.cell? ⟨p, 8, none⟩ = some (.int .i64 m.b.m0) ∧ w.cell? ⟨p, 9, none⟩ = some (.int .i64 m.b.m1) ∧ w.cell? ⟨p, 10, none⟩ = some (.int .i64 m.b.m2) ∧ w.cell? ⟨p, 11, none⟩ = some (.int .i64 m.b.m3) ∧ w.cell? ⟨p, 12, none⟩ = some (.int .i64 m.b.f) := by
  have := fun i => h.blk.cell i
  exact ⟨this 1, this 2, this 3, this 4, this 5, this 6, this 7, this 8, this 9, this 10, this 11, this 12⟩
theorem Mb.inp (h : Mb w p m) : w.cell? ⟨p, 13, none⟩ = some (.int .i64 m.t) ∧ w.cell? ⟨p, 14, none⟩ = some (.int .i64 m.ix) ∧ w.cell? ⟨p, 15, none⟩ = some (.int .i64 m.iy) := by
  have := fun i => h.blk.cell i
  exact ⟨this 13, this 14, this 15⟩
theorem Mb.frozen (h : Mb w p m) (i : Nat) : w.frozen? ⟨p, i, none⟩ = false := h.blk.frozen i
theorem Mb.lt (h : Mb w p m) : p < w.heap.size := h.blk.lt
theorem Mb.only {S : List Nat} (h : Mb w p m) (o : Only S w w') (hn : p ∉ S) : Mb w' p m := ⟨h.blk.only o hn⟩
theorem Mb.mem (h : Mb w p m) (k : Nat) (hk : k < 4) : w.cell? ⟨p, 8 + k, none⟩ = some (.int .i64 (Rule.reg m.b k)) := by
  have hk4 : k = 0 ∨ k = 1 ∨ k = 2 ∨ k = 3 := by omega
  rcases hk4 with rfl | rfl | rfl | rfl
  · exact h.blk.cell 8
  · exact h.blk.cell 9
  · exact h.blk.cell 10
  · exact h.blk.cell 11
theorem Mb.setr (h : Mb w p m) (k : Nat) (hk : k < 4) (v : Int) : Mb (w.setCell ⟨p, 8 + k, none⟩ (.int .i64 v)) p { m with b := Rule.setr m.b k v } := by
  have hk4 : k = 0 ∨ k = 1 ∨ k = 2 ∨ k = 3 := by omega
  rcases hk4 with rfl | rfl | rfl | rfl
  · exact ⟨h.blk.set 8 _⟩
  · exact ⟨h.blk.set 9 _⟩
  · exact ⟨h.blk.set 10 _⟩
  · exact ⟨h.blk.set 11 _⟩
theorem Mb.setx (h : Mb w p m) (v : Int) : Mb (w.setCell ⟨p, 3, none⟩ (.int .i64 v)) p { m with b := { m.b with x := v } } := ⟨h.blk.set 3 _⟩
theorem Mb.sety (h : Mb w p m) (v : Int) : Mb (w.setCell ⟨p, 4, none⟩ (.int .i64 v)) p { m with b := { m.b with y := v } } := ⟨h.blk.set 4 _⟩
theorem Mb.setvx (h : Mb w p m) (v : Int) : Mb (w.setCell ⟨p, 5, none⟩ (.int .i64 v)) p { m with b := { m.b with vx := v } } := ⟨h.blk.set 5 _⟩
theorem Mb.setvy (h : Mb w p m) (v : Int) : Mb (w.setCell ⟨p, 6, none⟩ (.int .i64 v)) p { m with b := { m.b with vy := v } } := ⟨h.blk.set 6 _⟩
theorem Mb.setd (h : Mb w p m) (v : Int) : Mb (w.setCell ⟨p, 16, none⟩ (.int .u64 v)) p { m with d := v } := ⟨h.blk.set 16 _⟩
theorem Mb.setsh (h : Mb w p m) (v : Value) : Mb (w.setCell ⟨p, 18, none⟩ v) p { m with sh := v } := ⟨h.blk.set 18 _⟩
theorem Mb.setat (h : Mb w p m) (v : Int) : Mb (w.setCell ⟨p, 19, none⟩ (.int .i64 v)) p { m with at_ := v } := ⟨h.blk.set 19 _⟩
theorem Mb.setdone (h : Mb w p m) (v : Int) : Mb (w.setCell ⟨p, 20, none⟩ (.int .i64 v)) p { m with done := v } := ⟨h.blk.set 20 _⟩
end

theorem rbetween_any (n lo hi : Int) (w : World) : Calls Try.prog 80 #[.int .i64 n, .int .i64 lo, .int .i64 hi] w fun e w' => e = .returned (.bool (Body.btw n lo hi)) ∧ w' = w := by
  by_cases h : lo ≤ n
  · have e : Body.btw n lo hi = decide (n ≤ hi) := by simp [Body.btw, h]
    rw [e]
    go_enter Try.func80, Try.ntmps80
    go_wp2_with fail
    go_ret
    exact ⟨rfl, rfl⟩
  · have e : Body.btw n lo hi = false := by simp [Body.btw, h]
    rw [e]
    go_enter Try.func80, Try.ntmps80
    go_wp2_with fail
    go_ret
    exact ⟨rfl, rfl⟩
theorem rwithin_any (n lo hi : Int) (w : World) : Calls Try.prog 104 #[.int .i64 n, .int .i64 lo, .int .i64 hi] w fun e w' => e = .returned (.int .i64 (Body.within n lo hi)) ∧ w' = w := by
  unfold Body.within
  by_cases h : n ≤ hi
  · by_cases h2 : lo < n
    · rw [if_pos h, if_pos h2]
      go_enter Try.func104, Try.ntmps104
      go_wp2_with fail
      go_ret
      exact ⟨rfl, rfl⟩
    · rw [if_pos h, if_neg h2]
      go_enter Try.func104, Try.ntmps104
      go_wp2_with fail
      go_ret
      exact ⟨rfl, rfl⟩
  · by_cases h2 : lo < hi
    · rw [if_neg h, if_pos h2]
      go_enter Try.func104, Try.ntmps104
      go_wp2_with fail
      go_ret
      exact ⟨rfl, rfl⟩
    · rw [if_neg h, if_neg h2]
      go_enter Try.func104, Try.ntmps104
      go_wp2_with fail
      go_ret
      exact ⟨rfl, rfl⟩
theorem asReg_any (n : Int) (w : World) : Calls Try.prog 95 #[.int .i64 n] w fun e w' => e = .returned (.int .i64 (Rule.clamp n)) ∧ w' = w := by
  unfold Rule.clamp
  go_enter Try.func95, Try.ntmps95
  go_wp2_with fail
  refine (rwithin_any _ _ _ _).mono ?_
  rintro e w' ⟨rfl, rfl⟩
  go_wp2_with fail
  go_ret
  exact ⟨rfl, rfl⟩
theorem asPlace_any (n : Int) (w : World) : Calls Try.prog 105 #[.int .i64 n] w fun e w' => e = .returned (.int .i64 (Body.within n 0 4095)) ∧ w' = w := by
  go_enter Try.func105, Try.ntmps105
  go_wp2_with fail
  refine (rwithin_any _ _ _ _).mono ?_
  rintro e w' ⟨rfl, rfl⟩
  go_wp2_with fail
  go_ret
  exact ⟨rfl, rfl⟩
theorem rasSpeed_any (n : Int) (w : World) : Calls Try.prog 106 #[.int .i64 n] w fun e w' => e = .returned (.int .i64 (Body.within n (-64) 64)) ∧ w' = w := by
  go_enter Try.func106, Try.ntmps106
  go_wp2_with fail
  refine (rwithin_any _ _ _ _).mono ?_
  rintro e w' ⟨rfl, rfl⟩
  go_wp2_with fail
  go_ret
  exact ⟨rfl, rfl⟩

/-- the panic of a fault -/
def broke (c a : Int) : Ending := .panicked [{ v := thrownV c a, recovered := false }]
theorem mmust_yes {w : World} {p : Nat} {m : Mch} (h : Mb w p m) (c : Int) : Calls Try.prog 92 #[.pointer (some ⟨p, 0, none⟩), .bool true, .int .i64 c] w fun e w' => e = .returned (.tuple #[]) ∧ w' = w := by
  have c19 := h.at_
  go_enter Try.func92, Try.ntmps92
  go_wp2_with fail
  refine (must_ok _ _ _).mono ?_
  rintro e w' ⟨rfl, rfl⟩
  go_wp2_with fail
  go_end0
  exact ⟨rfl, rfl⟩
theorem mmust_no {w : World} {p : Nat} {m : Mch} (h : Mb w p m) (c : Int) : Calls Try.prog 92 #[.pointer (some ⟨p, 0, none⟩), .bool false, .int .i64 c] w fun e w' => e = broke c m.at_ ∧ w' = w := by
  have c19 := h.at_
  go_enter Try.func92, Try.ntmps92
  go_wp2_with fail
  refine (must_not _ _ _).mono ?_
  rintro e w' ⟨rfl, rfl⟩
  exact ⟨rfl, rfl, rfl⟩
theorem idxM {p k : Nat} (h1 : k < 4) (w : World) : (Instr.indexAt 31 (.pointer (some ⟨p, 8, none⟩)) (.int .i64 (k : Nat))).run Try.prog w = .ok (.pointer (some ⟨p, 8 + k, none⟩)) w := by
  have hm : k = 0 ∨ k = 1 ∨ k = 2 ∨ k = 3 := by omega
  rcases hm with rfl | rfl | rfl | rfl <;> (show _ = _; kernel_rfl)
theorem reg_yes {w : World} {p : Nat} {m : Mch} (h : Mb w p m) (k : Nat) (hk : k < 4) : Calls Try.prog 96 #[.pointer (some ⟨p, 0, none⟩), .int .i64 (k : Nat)] w fun e w' => e = .returned (.pointer (some ⟨p, 8 + k, none⟩)) ∧ w' = w := by
  have e : Body.btw (k : Nat) 0 3 = true := by simp [Body.btw]; omega
  have ix := @idxM p k hk
  have H : Hid _ := h
  clear h
  go_enter Try.func96, Try.ntmps96
  go_wp2_with fail
  refine (rbetween_any _ _ _ _).mono ?_
  rintro e w' ⟨rfl, rfl⟩
  rw [e]
  go_wp2_with fail
  refine (mmust_yes H.out _).mono ?_
  rintro e w' ⟨rfl, rfl⟩
  go_wp2_with fail
  go_ret
  exact ⟨rfl, rfl⟩
theorem reg_no {w : World} {p : Nat} {m : Mch} (h : Mb w p m) (k : Int) (hk : Rule.is k = false) : Calls Try.prog 96 #[.pointer (some ⟨p, 0, none⟩), .int .i64 k] w fun e w' => e = broke 2 m.at_ ∧ w' = w := by
  have e : Body.btw k 0 3 = false := hk
  have H : Hid _ := h
  clear h
  go_enter Try.func96, Try.ntmps96
  go_wp2_with fail
  refine (rbetween_any _ _ _ _).mono ?_
  rintro e w' ⟨rfl, rfl⟩
  rw [e]
  go_wp2_with fail
  refine (mmust_no H.out _).mono ?_
  rintro e w' ⟨rfl, rfl⟩
  exact ⟨rfl, rfl, rfl⟩
end Go.Proofs.Ytngbannidbijmaa

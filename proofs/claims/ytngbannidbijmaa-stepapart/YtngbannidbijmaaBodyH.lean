/- Package body: Hit. -/
import Derived.Test.YtngbannidbijmaaBodyP
namespace Go.Proofs.Ytngbannidbijmaa
open Go.RowKit
set_option linter.unusedVariables false
namespace Body
def hit (a b : Bd) : Bool := some a && some b && !(a.k == b.k) && !(a.o == b.o) && btw (a.x - b.x) (-32) 32 && btw (a.y - b.y) (-32) 32
end Body
/-- two bodies that a call has laid -/
structure Boxed2 (a b : Bd) (w W : World) : Prop where
  one : Bl W w.heap.size a
  two : Bl W (w.heap.size + 1) b
  only : Only [] w W
theorem Boxed2.then {a b : Bd} {w W W' : World} (h : Boxed2 a b w W) (o : Only [] W W') : Boxed2 a b w W' := ⟨h.one.only o (by simp), h.two.only o (by simp), h.only.trans o⟩
theorem boxed2 (a b : Bd) (w : World) (t t' : TypeId) : Boxed2 a b w ((w.alloc (.cells #[.int .i64 a.k, .int .i64 a.o, .int .i64 a.x, .int .i64 a.y, .int .i64 a.vx, .int .i64 a.vy, .int .i64 a.age, .int .i64 a.m0, .int .i64 a.m1, .int .i64 a.m2, .int .i64 a.m3, .int .i64 a.f] t)).alloc (.cells #[.int .i64 b.k, .int .i64 b.o, .int .i64 b.x, .int .i64 b.y, .int .i64 b.vx, .int .i64 b.vy, .int .i64 b.age, .int .i64 b.m0, .int .i64 b.m1, .int .i64 b.m2, .int .i64 b.m3, .int .i64 b.f] t')) :=
  ⟨(Bl.new a w t).only ((Only.refl [] _).alloc _) (by simp), Bl.newAt b (by simp) t', ((Only.refl [] _).alloc _).alloc _⟩

set_option maxRecDepth 100000 in
set_option maxHeartbeats 4000000 in
theorem hit_any (a b : Bd) (w : World) : Calls Try.prog 78 #[a.v, b.v] w fun e w' => e = .returned (.bool (Body.hit a b)) ∧ Only [] w w' := by
  have hnot : ∀ (x : Bool) (w : World), (Op.unary .not (.bool x)).run Try.prog w = .ok (.bool (!x)) w := fun _ _ => rfl
  go_enter Try.func78, Try.ntmps78
  go_wp2_with fail
  have H0 : Hid _ := boxed2 a b w 33 33
  refine (somebody_any a _).mono ?_
  rintro e W ⟨rfl, o⟩
  have H1 : Hid (Boxed2 a b w W) := H0.out.then o
  clear o H0
  cases hs : Body.some a
  · go_wp2_with fail
    go_ret
    exact ⟨ret_b (by simp [Body.hit, hs]), H1.out.only⟩
  obtain ⟨r0, r1, r2, r3, r4, r5, r6, r7, r8, r9, r10, r11⟩ := H1.out.two.all
  go_wp2_with fail
  refine (somebody_any b _).mono ?_
  rintro e W2 ⟨rfl, o⟩
  have H2 : Hid (Boxed2 a b w W2) := H1.out.then o
  clear o H1 r0 r1 r2 r3 r4 r5 r6 r7 r8 r9 r10 r11
  cases hs2 : Body.some b
  · go_wp2_with fail
    go_ret
    exact ⟨ret_b (by simp [Body.hit, hs2]), H2.out.only⟩
  have Ka := (Body.some_iff a).1 hs
  have Kb := (Body.some_iff b).1 hs2
  obtain ⟨v1, v2⟩ := Ka.x
  obtain ⟨v3, v4⟩ := Ka.y
  obtain ⟨v5, v6⟩ := Kb.x
  obtain ⟨v7, v8⟩ := Kb.y
  clear Ka Kb
  obtain ⟨c0, c1, c2, c3, c4, c5, c6, c7, c8, c9, c10, c11⟩ := H2.out.one.all
  obtain ⟨r0, r1, r2, r3, r4, r5, r6, r7, r8, r9, r10, r11⟩ := H2.out.two.all
  cases hk : a.k == b.k
  case true =>
    have hk' : a.k = b.k := by simpa using hk
    go_wp2_with fail
    go_ret
    exact ⟨ret_b (by simp [Body.hit, hk']), H2.out.only⟩
  have hk' : ¬ a.k = b.k := by simpa using hk
  cases ho : a.o == b.o
  case true =>
    have ho' : a.o = b.o := by simpa using ho
    go_wp2_with fail
    go_ret
    exact ⟨ret_b (by simp [Body.hit, ho']), H2.out.only⟩
  have ho' : ¬ a.o = b.o := by simpa using ho
  go_wp2_with fail
  refine (between_any _ _ _ _).mono ?_
  rintro e w' ⟨rfl, rfl⟩
  cases hx : Body.btw (a.x - b.x) (-32) 32
  · go_wp2_with fail
    go_ret
    exact ⟨ret_b (by simp [Body.hit, hx]), H2.out.only⟩
  go_wp2_with fail
  refine (between_any _ _ _ _).mono ?_
  rintro e w' ⟨rfl, rfl⟩
  go_wp2_with fail
  go_ret
  exact ⟨ret_b (by simp [Body.hit, hx, hs, hs2, hk, ho, bne]), H2.out.only⟩
end Go.Proofs.Ytngbannidbijmaa

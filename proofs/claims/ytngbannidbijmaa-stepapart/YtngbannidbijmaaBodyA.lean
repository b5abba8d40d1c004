/- Package body: Born, Shoot. -/
import Derived.Test.YtngbannidbijmaaBodyW
import Derived.StillTailTactics
import Derived.BigRegion
namespace Go.Proofs.Ytngbannidbijmaa
open Go.RowKit
set_option linter.unusedVariables false
namespace Body
def born (o n : Int) : Bd := { zero with k := 1, o := within o 0 (within n 1 8 - 1), x := (2 * within o 0 (within n 1 8 - 1) + 1) * 4096 / (2 * within n 1 8), y := 2048 }
def shot (b : Bd) (x y : Int) : Bd := { zero with k := 2, o := b.o, x := b.x, y := b.y, vx := within x (-64) 64, vy := within y (-64) 64 }
def shoot (b : Bd) (x y : Int) : Bd := if some b = true then shot b x y else zero
theorem shoot_no {b : Bd} (h : some b = false) (x y : Int) : shoot b x y = zero := by unfold shoot; rw [if_neg (by rw [h]; simp)]
theorem shoot_yes {b : Bd} (h : some b = true) (x y : Int) : shoot b x y = shot b x y := by unfold shoot; rw [if_pos h]
end Body
theorem within_rng (n lo hi : Int) (h : lo ≤ hi) : lo ≤ Body.within n lo hi ∧ Body.within n lo hi ≤ hi := by
  unfold Body.within; split <;> split <;> omega

theorem born_any (o n : Int) (w : World) : Calls Try.prog 25 #[.int .i64 o, .int .i64 n] w fun e w' => e = .returned (Body.born o n).v ∧ Only [] w w' := by
  obtain ⟨p, hp⟩ : ∃ p, Body.within n 1 8 = p := ⟨_, rfl⟩
  obtain ⟨q, hq⟩ : ∃ q, Body.within o 0 (p - 1) = q := ⟨_, rfl⟩
  have b1 := within_rng n 1 8 (by omega)
  rw [hp] at b1
  have b2 := within_rng o 0 (p - 1) (by omega)
  rw [hq] at b2
  have E : Hid ((Body.born o n) = { Body.zero with k := 1, o := q, x := (2 * q + 1) * 4096 / (2 * p), y := 2048 }) := by
    have e : Body.born o n = { Body.zero with k := 1, o := Body.within o 0 (Body.within n 1 8 - 1), x := (2 * Body.within o 0 (Body.within n 1 8 - 1) + 1) * 4096 / (2 * Body.within n 1 8), y := 2048 } := rfl
    rw [hp, hq] at e
    exact e
  have HP : Hid _ := hp
  have HQ : Hid _ := hq
  clear hp hq
  have h0 : ¬ (2 * p) = 0 := by omega
  have h1 : 0 ≤ (2 * q + 1) * 4096 := by omega
  go_enter Try.func25, Try.ntmps25
  go_wp2_with fail
  refine (within_any _ _ _ _).mono ?_
  rintro e w' ⟨rfl, rfl⟩
  rw [HP.out]
  go_wp2_with fail
  refine (within_any _ _ _ _).mono ?_
  rintro e w' ⟨rfl, rfl⟩
  rw [HQ.out]
  go_wp2_with fail
  refine bodyPost_ret (v := (Body.born o n).v) (by rw [E.out]; simp [results, Try.results25, go_sem, Body.zero]) rfl ⟨rfl, (Only.refl _ _).alloc _⟩

/-- what a call with a body has laid: the body, and what it will answer -/
structure Boxed (b : Bd) (w W : World) : Prop where
  box : Bl W w.heap.size b
  res : Bl W (w.heap.size + 1) Body.zero
  only : Only [] w W
theorem boxed (b : Bd) {w W : World} {t t' : TypeId} (o : Only [] ((w.alloc (.cells #[.int .i64 b.k, .int .i64 b.o, .int .i64 b.x, .int .i64 b.y, .int .i64 b.vx, .int .i64 b.vy, .int .i64 b.age, .int .i64 b.m0, .int .i64 b.m1, .int .i64 b.m2, .int .i64 b.m3, .int .i64 b.f] t)).alloc (.cells #[.int .i64 0, .int .i64 0, .int .i64 0, .int .i64 0, .int .i64 0, .int .i64 0, .int .i64 0, .int .i64 0, .int .i64 0, .int .i64 0, .int .i64 0, .int .i64 0] t')) W) : Boxed b w W := by
  have o1 : Only [] (w.alloc (.cells #[.int .i64 b.k, .int .i64 b.o, .int .i64 b.x, .int .i64 b.y, .int .i64 b.vx, .int .i64 b.vy, .int .i64 b.age, .int .i64 b.m0, .int .i64 b.m1, .int .i64 b.m2, .int .i64 b.m3, .int .i64 b.f] t)) W := ((Only.refl _ _).alloc _).trans o
  refine ⟨(Bl.new b w t).only o1 (by simp), (Bl.newAt Body.zero (by simp) t').only o (by simp), ((Only.refl _ _).alloc _).trans o1⟩
theorem Boxed.then {b : Bd} {w W W' : World} (h : Boxed b w W) (o : Only [] W W') : Boxed b w W' := ⟨h.box.only o (by simp), h.res.only o (by simp), h.only.trans o⟩
theorem res_body {n : Nat} {fn : Func} {W : World} {p : Nat} {b : Bd} {tm : Array Value} (h : Bl W p b) (hr : fn.results = #[.cell n 33]) (hp : tm[n]? = .some (.pointer (.some ⟨p, 0, none⟩))) : (results fn tm).run Try.prog W = .ok b.v W := by
  obtain ⟨c0, c1, c2, c3, c4, c5, c6, c7, c8, c9, c10, c11⟩ := h.all
  simp [results, hr, hp, go_sem, c0, c1, c2, c3, c4, c5, c6, c7, c8, c9, c10, c11]

set_option maxRecDepth 100000 in
set_option maxHeartbeats 4000000 in
theorem shoot_any (b : Bd) (x y : Int) (w : World) : Calls Try.prog 108 #[b.v, .int .i64 x, .int .i64 y] w fun e w' => e = .returned (Body.shoot b x y).v ∧ Only [] w w' := by
  have hnot : ∀ (x : Bool) (w : World), (Op.unary .not (.bool x)).run Try.prog w = .ok (.bool (!x)) w := fun _ _ => rfl
  go_enter Try.func108, Try.ntmps108
  go_wp2_with fail
  refine (somebody_any b _).mono ?_
  rintro e W ⟨rfl, o⟩
  have HB : Hid _ := boxed b o
  clear o
  have lP : w.heap.size < w.heap.size + 1 := by omega
  obtain ⟨c0, c1, c2, c3, c4, c5, c6, c7, c8, c9, c10, c11⟩ := HB.out.box.all
  obtain ⟨r0, r1, r2, r3, r4, r5, r6, r7, r8, r9, r10, r11⟩ := HB.out.res.all
  have fz := HB.out.res.frozen
  cases hs : Body.some b
  · have E : Hid (Body.shoot b x y = Body.zero) := Body.shoot_no hs x y
    go_wp2_with fail
    change bodyPost _ _ _ _ _ (putB W (w.heap.size + 1) Body.zero)
    have X := putB_bl HB.out.res Body.zero
    have O := HB.out.only.then (putB_only W (w.heap.size + 1) Body.zero) (by simp)
    rw [← E.out] at X O ⊢
    exact bodyPost_ret (res_body X Try.results108 rfl) rfl ⟨rfl, O⟩
  · have E : Hid (Body.shoot b x y = Body.shot b x y) := Body.shoot_yes hs x y
    have q := asSpeed_any
    go_wp2_with fail
    go_still_tail 11, (by kernel_rfl)
    still_call (q _ _)
    repeat still_step
    still_call (q _ _)
    repeat still_step
    refine wpStill_nil ?_
    change wpList _ _ _ _ _ W.drew
    have H2 : Hid (Boxed b w W.drew) := HB.out.then (only_drew W)
    clear HB c0 c1 c2 c3 c4 c5 c6 c7 c8 c9 c10 c11 r0 r1 r2 r3 r4 r5 r6 r7 r8 r9 r10 r11 fz
    generalize W.drew = W2 at *
    obtain ⟨r0, r1, r2, r3, r4, r5, r6, r7, r8, r9, r10, r11⟩ := H2.out.res.all
    have fz := H2.out.res.frozen
    go_wp2_with fail
    change bodyPost _ _ _ _ _ (putB W2 (w.heap.size + 1) (Body.shot b x y))
    rw [← E.out]
    have X := putB_bl H2.out.res (Body.shoot b x y)
    have O := H2.out.only.then (putB_only W2 (w.heap.size + 1) (Body.shoot b x y)) (by simp)
    exact bodyPost_ret (res_body X Try.results108 rfl) rfl ⟨rfl, O⟩

end Go.Proofs.Ytngbannidbijmaa

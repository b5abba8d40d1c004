/- Package body: Push. -/
import Derived.Test.YtngbannidbijmaaBodyA
namespace Go.Proofs.Ytngbannidbijmaa
open Go.RowKit
set_option linter.unusedVariables false
namespace Body
def pushed (b : Bd) (x y : Int) : Bd := { b with vx := within (b.vx + within x (-1000) 1000) (-64) 64, vy := within (b.vy + within y (-1000) 1000) (-64) 64 }
def push (b : Bd) (x y : Int) : Bd := if some b = true then pushed b x y else zero
theorem push_no {b : Bd} (h : some b = false) (x y : Int) : push b x y = zero := by unfold push; rw [if_neg (by rw [h]; simp)]
theorem push_yes {b : Bd} (h : some b = true) (x y : Int) : push b x y = pushed b x y := by unfold push; rw [if_pos h]
end Body

/-- the body within its box has turned -/
theorem Boxed.turn {b b' : Bd} {w W W' : World} (h : Boxed b w W) (k : Bl W' w.heap.size b') (o : Only [w.heap.size] W W') : Boxed b' w W' :=
  ⟨k, h.res.only o (by simp), h.only.then o (by simp)⟩
set_option maxRecDepth 100000 in
set_option maxHeartbeats 4000000 in
theorem push_any (b : Bd) (x y : Int) (w : World) : Calls Try.prog 74 #[b.v, .int .i64 x, .int .i64 y] w fun e w' => e = .returned (Body.push b x y).v ∧ Only [] w w' := by
  have hnot : ∀ (x : Bool) (w : World), (Op.unary .not (.bool x)).run Try.prog w = .ok (.bool (!x)) w := fun _ _ => rfl
  go_enter Try.func74, Try.ntmps74
  go_wp2_with fail
  refine (somebody_any b _).mono ?_
  rintro e W ⟨rfl, o⟩
  have HB : Hid _ := boxed b o
  clear o
  cases hs : Body.some b
  · have E : Hid (Body.push b x y = Body.zero) := Body.push_no hs x y
    obtain ⟨r0, r1, r2, r3, r4, r5, r6, r7, r8, r9, r10, r11⟩ := HB.out.res.all
    have fz := HB.out.res.frozen
    go_wp2_with fail
    change bodyPost _ _ _ _ _ (putB W (w.heap.size + 1) Body.zero)
    have X := putB_bl HB.out.res Body.zero
    have O := HB.out.only.then (putB_only W (w.heap.size + 1) Body.zero) (by simp)
    rw [← E.out] at X O ⊢
    exact bodyPost_ret (res_body X Try.results74 rfl) rfl ⟨rfl, O⟩
  · have E : Hid (Body.push b x y = Body.pushed b x y) := Body.push_yes hs x y
    have K : Hid (Body.Ok b) := (Body.some_iff b).1 hs
    obtain ⟨v1, v2⟩ := K.out.vx
    obtain ⟨v3, v4⟩ := K.out.vy
    obtain ⟨i1, i2⟩ := within_rng x (-1000) 1000 (by omega)
    obtain ⟨i3, i4⟩ := within_rng y (-1000) 1000 (by omega)
    have q := within_any
    have q2 := asSpeed_any
    have wr1 : IntKind.i64.wrap (b.vx + Body.within x (-1000) 1000) = b.vx + Body.within x (-1000) 1000 := IntWalk.i64_in _ (by omega)
    have wr2 : IntKind.i64.wrap (b.vy + Body.within y (-1000) 1000) = b.vy + Body.within y (-1000) 1000 := IntWalk.i64_in _ (by omega)
    obtain ⟨c0, c1, c2, c3, c4, c5, c6, c7, c8, c9, c10, c11⟩ := HB.out.box.all
    go_wp2_with fail
    go_still_tail 7, (by kernel_rfl)
    still_call (q _ _ _ _)
    repeat still_step
    still_call (q2 _ _)
    repeat still_step
    refine wpStill_nil ?_
    change wpList _ _ _ _ _ W.drew
    have H2 : Hid (Boxed b w W.drew) := HB.out.then (only_drew W)
    clear HB c0 c1 c2 c3 c4 c5 c6 c7 c8 c9 c10 c11
    generalize W.drew = W2 at *
    obtain ⟨c0, c1, c2, c3, c4, c5, c6, c7, c8, c9, c10, c11⟩ := H2.out.box.all
    have fz := H2.out.box.frozen
    go_wp2_with fail
    obtain ⟨z, hz⟩ : ∃ z, Body.within (b.vx + Body.within x (-1000) 1000) (-64) 64 = z := ⟨_, rfl⟩
    have HZ : Hid _ := hz
    rw [hz]
    clear hz
    have H3 : Hid (Boxed { b with vx := z } w (W2.setCell ⟨w.heap.size, 4, none⟩ (.int .i64 z))) := H2.out.turn (H2.out.box.set4 z) ((Only.refl _ _).setCell (by simp) _)
    clear H2 c0 c1 c2 c3 c4 c5 c6 c7 c8 c9 c10 c11 fz
    generalize W2.setCell ⟨w.heap.size, 4, none⟩ (.int .i64 z) = W3 at *
    obtain ⟨c0, c1, c2, c3, c4, c5, c6, c7, c8, c9, c10, c11⟩ := H3.out.box.all
    go_still_tail 7, (by kernel_rfl)
    still_call (q _ _ _ _)
    repeat still_step
    still_call (q2 _ _)
    repeat still_step
    refine wpStill_nil ?_
    change wpList _ _ _ _ _ W3.drew
    have H4 : Hid (Boxed { b with vx := z } w W3.drew) := H3.out.then (only_drew W3)
    clear H3 c0 c1 c2 c3 c4 c5 c6 c7 c8 c9 c10 c11
    generalize W3.drew = W4 at *
    have fz := H4.out.box.frozen
    obtain ⟨c0, c1, c2, c3, c4, c5, c6, c7, c8, c9, c10, c11⟩ := H4.out.box.all
    obtain ⟨r0, r1, r2, r3, r4, r5, r6, r7, r8, r9, r10, r11⟩ := H4.out.res.all
    have fr := H4.out.res.frozen
    obtain ⟨u, hu⟩ : ∃ u, Body.within (b.vy + Body.within y (-1000) 1000) (-64) 64 = u := ⟨_, rfl⟩
    have HU : Hid _ := hu
    rw [hu]
    clear hu
    go_wp2_with fail
    have H5 : Hid (Boxed { b with vx := z, vy := u } w (W4.setCell ⟨w.heap.size, 5, none⟩ (.int .i64 u))) := H4.out.turn (H4.out.box.set5 u) ((Only.refl _ _).setCell (by simp) _)
    change bodyPost _ _ _ _ _ (putB (W4.setCell ⟨w.heap.size, 5, none⟩ (.int .i64 u)) (w.heap.size + 1) { b with vx := z, vy := u })
    have X := putB_bl H5.out.res { b with vx := z, vy := u }
    have O := H5.out.only.then (putB_only _ (w.heap.size + 1) { b with vx := z, vy := u }) (by simp)
    have E2 : Body.push b x y = { b with vx := z, vy := u } := by rw [E.out, ← HZ.out, ← HU.out]; rfl
    rw [← E2] at X O ⊢
    exact bodyPost_ret (res_body X Try.results74 rfl) rfl ⟨rfl, O⟩
end Go.Proofs.Ytngbannidbijmaa

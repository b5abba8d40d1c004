/- Package body: Move, Hit. -/
import Derived.Test.YtngbannidbijmaaBodyP
import Derived.Deep.DeepCutAuto
import Derived.Deep.CutBlock
namespace Go.Proofs.Ytngbannidbijmaa
open Go.RowKit
set_option linter.unusedVariables false
namespace Body
def bounce (p s : Int) : Int × Int := if btw p 0 4095 = true then (p, s) else (within p 0 4095, -s)
def older (n : Int) : Int := if n + 1 ≤ 600 then n + 1 else 600
def fly (b : Bd) : Bd := { b with age := older b.age, x := b.x + b.vx, y := b.y + b.vy }
def kept (b : Bd) : Bd := { fly b with x := (bounce (b.x + b.vx) b.vx).1, vx := (bounce (b.x + b.vx) b.vx).2, y := (bounce (b.y + b.vy) b.vy).1, vy := (bounce (b.y + b.vy) b.vy).2 }
def gone (b : Bd) : Bool := decide (40 < older b.age) || !btw (b.x + b.vx) 0 4095 || !btw (b.y + b.vy) 0 4095
def move (b : Bd) : Bd × Bool := if some b = false then (zero, false) else if b.k = 1 then (kept b, true) else if gone b = true then (zero, false) else (fly b, true)
theorem move_no {b : Bd} (h : some b = false) : move b = (zero, false) := by unfold move; rw [if_pos h]
theorem move_player {b : Bd} (h : some b = true) (k : b.k = 1) : move b = (kept b, true) := by unfold move; rw [if_neg (by rw [h]; simp), if_pos k]
theorem move_gone {b : Bd} (h : some b = true) (k : ¬ b.k = 1) (g : gone b = true) : move b = (zero, false) := by unfold move; rw [if_neg (by rw [h]; simp), if_neg k, if_pos g]
theorem move_on {b : Bd} (h : some b = true) (k : ¬ b.k = 1) (g : gone b = false) : move b = (fly b, true) := by unfold move; rw [if_neg (by rw [h]; simp), if_neg k, if_neg (by rw [g]; simp)]
end Body
theorem ret_2 {a b c d : Int} (h : a = c) (k : b = d) : Ending.returned (.tuple #[.int .i64 a, .int .i64 b]) = .returned (.tuple #[.int .i64 c, .int .i64 d]) := by rw [h, k]
theorem bounce_any (p s : Int) (h1 : -64 ≤ s) (h2 : s ≤ 64) (w : World) : Calls Try.prog 77 #[.int .i64 p, .int .i64 s] w fun e w' => e = .returned (.tuple #[.int .i64 (Body.bounce p s).1, .int .i64 (Body.bounce p s).2]) ∧ w' = w := by
  unfold Body.bounce
  cases hb : Body.btw p 0 4095
  · rw [if_neg (by simp)]
    go_enter Try.func77, Try.ntmps77
    go_wp2_with fail
    refine (onField_any _ _).mono ?_
    rintro e w' ⟨rfl, rfl⟩
    rw [hb]
    go_wp2_with fail
    refine (within_any _ _ _ _).mono ?_
    rintro e w' ⟨rfl, rfl⟩
    go_wp2_with fail
    go_ret2
    exact ⟨rfl, rfl⟩
  · rw [if_pos rfl]
    go_enter Try.func77, Try.ntmps77
    go_wp2_with fail
    refine (onField_any _ _).mono ?_
    rintro e w' ⟨rfl, rfl⟩
    rw [hb]
    go_wp2_with fail
    go_ret2
    exact ⟨rfl, rfl⟩
theorem res_moved {fn : Func} {W : World} {p : Nat} {b : Bd} {z : Bool} {n m : Nat} {tm : Array Value} (h : Bl W p b) (hr : fn.results = #[.cell n 33, .tmp m]) (hp : tm[n]? = .some (.pointer (.some ⟨p, 0, none⟩))) (hm : tm[m]? = .some (.bool z)) : (results fn tm).run Try.prog W = .ok (.tuple #[b.v, .bool z]) W := by
  obtain ⟨c0, c1, c2, c3, c4, c5, c6, c7, c8, c9, c10, c11⟩ := h.all
  simp [results, hr, hp, hm, go_sem, c0, c1, c2, c3, c4, c5, c6, c7, c8, c9, c10, c11]

set_option maxRecDepth 100000 in
set_option maxHeartbeats 4000000 in
theorem move_any (b : Bd) (w : World) : Calls Try.prog 56 #[b.v] w fun e w' => e = .returned (.tuple #[(Body.move b).1.v, .bool (Body.move b).2]) ∧ Only [] w w' := by
  have hnot : ∀ (x : Bool) (w : World), (Op.unary .not (.bool x)).run Try.prog w = .ok (.bool (!x)) w := fun _ _ => rfl
  go_enter Try.func56, Try.ntmps56
  go_wp2_with fail
  refine (somebody_any b _).mono ?_
  rintro e W ⟨rfl, o⟩
  have HB : Hid _ := boxed b o
  clear o
  cases hs : Body.some b
  · have E : Hid (Body.move b = (Body.zero, false)) := Body.move_no hs
    obtain ⟨r0, r1, r2, r3, r4, r5, r6, r7, r8, r9, r10, r11⟩ := HB.out.res.all
    have fz := HB.out.res.frozen
    go_wp2_with fail
    change bodyPost _ _ _ _ _ (putB W (w.heap.size + 1) Body.zero)
    have X := putB_bl HB.out.res Body.zero
    have O := HB.out.only.then (putB_only W (w.heap.size + 1) Body.zero) (by simp)
    rw [E.out]
    exact bodyPost_ret (res_moved X Try.results56 rfl rfl) rfl ⟨rfl, O⟩
  · have K : Hid (Body.Ok b) := (Body.some_iff b).1 hs
    obtain ⟨v1, v2⟩ := K.out.vx
    obtain ⟨v3, v4⟩ := K.out.vy
    obtain ⟨v5, v6⟩ := K.out.x
    obtain ⟨v7, v8⟩ := K.out.y
    obtain ⟨v9, v10⟩ := K.out.age
    obtain ⟨a, ha⟩ : ∃ a, Body.older b.age = a := ⟨_, rfl⟩
    have HA : Hid _ := ha
    have c6 := HB.out.box.all.2.2.2.2.2.2.1
    have fz := HB.out.box.frozen
    go_upto_region 3 with fail
    go_cut [] (fun wx => Hid (Boxed { b with age := a } w wx))
    case first =>
      by_cases hl : b.age + 1 ≤ 600
      · have e1 : b.age + 1 = a := by rw [← ha]; unfold Body.older; rw [if_pos hl]
        clear ha
        go_wp2_with fail
        go_meet
        exact HB.out.turn (HB.out.box.set6 a) ((Only.refl _ _).setCell (by simp) _)
      · have e1 : a = 600 := by rw [← ha]; unfold Body.older; rw [if_neg hl]
        subst e1
        clear ha
        go_wp2_with fail
        go_meet
        exact HB.out.turn (HB.out.box.set6 600) ((Only.refl _ _).setCell (by simp) _)
    case rest =>
      have H1 : Hid _ := hcut
      clear hcut HB c6 fz ha
      obtain ⟨c0, c1, c2, c3, c4, c5, c6, c7, c8, c9, c10, c11⟩ := H1.out.box.all
      have fz := H1.out.box.frozen
      have kk := K.out.k
      have cs : ({ b with age := a } : Bd).x = b.x ∧ True := ⟨rfl, trivial⟩
      clear cs
      dsimp only at c0 c1 c2 c3 c4 c5 c6 c7 c8 c9 c10 c11
      by_cases hk : b.k = 1
      · have E : Hid (Body.move b = (Body.kept b, true)) := Body.move_player hs hk
        go_wp2_with fail
        have H2 : Hid (Boxed { b with age := a, x := b.x + b.vx, y := b.y + b.vy } w ((wc.setCell ⟨w.heap.size, 2, none⟩ (.int .i64 (b.x + b.vx))).setCell ⟨w.heap.size, 3, none⟩ (.int .i64 (b.y + b.vy)))) :=
          H1.out.turn ((H1.out.box.set2 _).set3 _) (((Only.refl _ _).setCell (by simp) _).setCell (by simp) _)
        clear H1 c0 c1 c2 c3 c4 c5 c6 c7 c8 c9 c10 c11 fz
        generalize (wc.setCell ⟨w.heap.size, 2, none⟩ (.int .i64 (b.x + b.vx))).setCell ⟨w.heap.size, 3, none⟩ (.int .i64 (b.y + b.vy)) = W2 at *
        obtain ⟨c0, c1, c2, c3, c4, c5, c6, c7, c8, c9, c10, c11⟩ := H2.out.box.all
        have fz := H2.out.box.frozen
        dsimp only at c0 c1 c2 c3 c4 c5 c6 c7 c8 c9 c10 c11
        refine (bounce_any _ _ (by omega) (by omega) _).mono ?_
        rintro e w' ⟨rfl, rfl⟩
        obtain ⟨B1, hB1⟩ : ∃ B1, Body.bounce (b.x + b.vx) b.vx = B1 := ⟨_, rfl⟩
        have HB1 : Hid _ := hB1
        rw [hB1]
        clear hB1
        go_wp2_with fail
        have H3 : Hid (Boxed { b with age := a, x := B1.1, y := b.y + b.vy, vx := B1.2 } w ((w'.setCell ⟨w.heap.size, 2, none⟩ (.int .i64 B1.1)).setCell ⟨w.heap.size, 4, none⟩ (.int .i64 B1.2))) :=
          H2.out.turn ((H2.out.box.set2 _).set4 _) (((Only.refl _ _).setCell (by simp) _).setCell (by simp) _)
        clear H2 c0 c1 c2 c3 c4 c5 c6 c7 c8 c9 c10 c11 fz
        generalize (w'.setCell ⟨w.heap.size, 2, none⟩ (.int .i64 B1.1)).setCell ⟨w.heap.size, 4, none⟩ (.int .i64 B1.2) = W3 at *
        obtain ⟨c0, c1, c2, c3, c4, c5, c6, c7, c8, c9, c10, c11⟩ := H3.out.box.all
        have fz := H3.out.box.frozen
        obtain ⟨r0, r1, r2, r3, r4, r5, r6, r7, r8, r9, r10, r11⟩ := H3.out.res.all
        have fr := H3.out.res.frozen
        dsimp only at c0 c1 c2 c3 c4 c5 c6 c7 c8 c9 c10 c11
        refine (bounce_any _ _ (by omega) (by omega) _).mono ?_
        rintro e w2 ⟨rfl, rfl⟩
        obtain ⟨B2, hB2⟩ : ∃ B2, Body.bounce (b.y + b.vy) b.vy = B2 := ⟨_, rfl⟩
        have HB2 : Hid _ := hB2
        rw [hB2]
        clear hB2
        go_wp2_with fail
        have H4 : Hid (Boxed { b with age := a, x := B1.1, y := B2.1, vx := B1.2, vy := B2.2 } w ((w2.setCell ⟨w.heap.size, 3, none⟩ (.int .i64 B2.1)).setCell ⟨w.heap.size, 5, none⟩ (.int .i64 B2.2))) :=
          H3.out.turn ((H3.out.box.set3 _).set5 _) (((Only.refl _ _).setCell (by simp) _).setCell (by simp) _)
        change bodyPost _ _ _ _ _ (putB ((w2.setCell ⟨w.heap.size, 3, none⟩ (.int .i64 B2.1)).setCell ⟨w.heap.size, 5, none⟩ (.int .i64 B2.2)) (w.heap.size + 1) { b with k := 1, age := a, x := B1.1, y := B2.1, vx := B1.2, vy := B2.2 })
        have E2 : Body.kept b = { b with k := 1, age := a, x := B1.1, y := B2.1, vx := B1.2, vy := B2.2 } := by rw [← HB1.out, ← HB2.out, ← HA.out, ← hk]; rfl
        have X := putB_bl H4.out.res { b with k := 1, age := a, x := B1.1, y := B2.1, vx := B1.2, vy := B2.2 }
        have O := H4.out.only.then (putB_only _ (w.heap.size + 1) { b with k := 1, age := a, x := B1.1, y := B2.1, vx := B1.2, vy := B2.2 }) (by simp)
        rw [← E2] at X O ⊢
        rw [E.out]
        exact bodyPost_ret (res_moved X Try.results56 rfl rfl) rfl ⟨rfl, O⟩
      · have k2 : b.k = 2 := by rcases kk with h | h; exact absurd h hk; exact h
        obtain ⟨r0, r1, r2, r3, r4, r5, r6, r7, r8, r9, r10, r11⟩ := H1.out.res.all
        have fr := H1.out.res.frozen
        have H2 : Hid (Boxed { b with age := a, x := b.x + b.vx, y := b.y + b.vy } w ((wc.setCell ⟨w.heap.size, 2, none⟩ (.int .i64 (b.x + b.vx))).setCell ⟨w.heap.size, 3, none⟩ (.int .i64 (b.y + b.vy)))) :=
          H1.out.turn ((H1.out.box.set2 _).set3 _) (((Only.refl _ _).setCell (by simp) _).setCell (by simp) _)
        by_cases ho : 40 < a
        · have E : Hid (Body.move b = (Body.zero, false)) := Body.move_gone hs hk (by unfold Body.gone; rw [HA.out]; simp [ho])
          go_wp2_with fail
          change bodyPost _ _ _ _ _ (putB ((wc.setCell ⟨w.heap.size, 2, none⟩ (.int .i64 (b.x + b.vx))).setCell ⟨w.heap.size, 3, none⟩ (.int .i64 (b.y + b.vy))) (w.heap.size + 1) Body.zero)
          have X := putB_bl H2.out.res Body.zero
          have O := H2.out.only.then (putB_only _ (w.heap.size + 1) Body.zero) (by simp)
          rw [E.out]
          exact bodyPost_ret (res_moved X Try.results56 rfl rfl) rfl ⟨rfl, O⟩
        have ho' : (decide (40 < a)) = false := by simpa using ho
        go_wp2_with fail
        refine (onField_any _ _).mono ?_
        rintro e w' ⟨rfl, rfl⟩
        cases hx : Body.btw (b.x + b.vx) 0 4095
        · have E : Hid (Body.move b = (Body.zero, false)) := Body.move_gone hs hk (by unfold Body.gone; rw [hx]; simp)
          go_wp2_with fail
          change bodyPost _ _ _ _ _ (putB ((wc.setCell ⟨w.heap.size, 2, none⟩ (.int .i64 (b.x + b.vx))).setCell ⟨w.heap.size, 3, none⟩ (.int .i64 (b.y + b.vy))) (w.heap.size + 1) Body.zero)
          have X := putB_bl H2.out.res Body.zero
          have O := H2.out.only.then (putB_only _ (w.heap.size + 1) Body.zero) (by simp)
          rw [E.out]
          exact bodyPost_ret (res_moved X Try.results56 rfl rfl) rfl ⟨rfl, O⟩
        go_wp2_with fail
        refine (onField_any _ _).mono ?_
        rintro e w' ⟨rfl, rfl⟩
        cases hy : Body.btw (b.y + b.vy) 0 4095
        · have E : Hid (Body.move b = (Body.zero, false)) := Body.move_gone hs hk (by unfold Body.gone; rw [hy]; simp)
          go_wp2_with fail
          change bodyPost _ _ _ _ _ (putB ((wc.setCell ⟨w.heap.size, 2, none⟩ (.int .i64 (b.x + b.vx))).setCell ⟨w.heap.size, 3, none⟩ (.int .i64 (b.y + b.vy))) (w.heap.size + 1) Body.zero)
          have X := putB_bl H2.out.res Body.zero
          have O := H2.out.only.then (putB_only _ (w.heap.size + 1) Body.zero) (by simp)
          rw [E.out]
          exact bodyPost_ret (res_moved X Try.results56 rfl rfl) rfl ⟨rfl, O⟩
        have E : Hid (Body.move b = (Body.fly b, true)) := Body.move_on hs hk (by unfold Body.gone; rw [HA.out, hx, hy]; simp [ho'])
        go_wp2_with fail
        change bodyPost _ _ _ _ _ (putB ((wc.setCell ⟨w.heap.size, 2, none⟩ (.int .i64 (b.x + b.vx))).setCell ⟨w.heap.size, 3, none⟩ (.int .i64 (b.y + b.vy))) (w.heap.size + 1) { b with k := 2, age := a, x := b.x + b.vx, y := b.y + b.vy })
        have E2 : Body.fly b = { b with k := 2, age := a, x := b.x + b.vx, y := b.y + b.vy } := by rw [← HA.out, ← k2]; rfl
        have X := putB_bl H2.out.res { b with k := 2, age := a, x := b.x + b.vx, y := b.y + b.vy }
        have O := H2.out.only.then (putB_only _ (w.heap.size + 1) { b with k := 2, age := a, x := b.x + b.vx, y := b.y + b.vy }) (by simp)
        rw [← E2] at X O ⊢
        rw [E.out]
        exact bodyPost_ret (res_moved X Try.results56 rfl rfl) rfl ⟨rfl, O⟩
end Go.Proofs.Ytngbannidbijmaa

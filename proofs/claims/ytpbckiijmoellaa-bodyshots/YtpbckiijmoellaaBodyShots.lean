/- Proved: BodyShots returns true for every input. No condition. -/
import Derived.Test.YtpbckiijmoellaaBodyK
import Derived.Test.YtpbckiijmoellaaBodyF
import Derived.Test.YtpbckiijmoellaaPick
import Derived.Test.YtpbckiijmoellaaRegF
import Derived.Test.YtpbckiijmoellaaFrame
import Derived.Deep.LoopGhost
namespace Go.Proofs.Ytpbckiijmoellaa.bodyShots
open Go.ChangeShapes Go.WideShapes Go.ChangeAt Go.RowKit
set_option linter.unusedVariables false

abbrev F (O X Y : Int) : Bd := ⟨1, O, X, Y, 0, 0, 0, 0, 0, 0, 0, 0⟩
abbrev S (O X Y U V n : Int) : Bd := ⟨2, O, X, Y, U, V, n, 0, 0, 0, 0, 0⟩
theorem some_F (O X Y : Int) (h1 : 0 ≤ O ∧ O ≤ 7) (h2 : 0 ≤ X ∧ X ≤ 4095) (h3 : 0 ≤ Y ∧ Y ≤ 4095) : Body.some (F O X Y) = true := by
  refine (Body.some_iff _).2 ⟨Or.inl rfl, h1, h2, h3, ?_, ?_, ?_, ?_, ?_, ?_, ?_, ?_⟩ <;> (dsimp only; decide)
theorem some_S (O X Y U V n : Int) (h1 : 0 ≤ O ∧ O ≤ 7) (h2 : 0 ≤ X ∧ X ≤ 4095) (h3 : 0 ≤ Y ∧ Y ≤ 4095) (h4 : -64 ≤ U ∧ U ≤ 64) (h5 : -64 ≤ V ∧ V ≤ 64) (h6 : 0 ≤ n ∧ n ≤ 600) : Body.some (S O X Y U V n) = true := by
  refine (Body.some_iff _).2 ⟨Or.inr rfl, h1, h2, h3, h4, h5, h6, ?_, ?_, ?_, ?_, ?_⟩ <;> (dsimp only; decide)
theorem shoot_F (O X Y U V : Int) (h : Body.some (F O X Y) = true) (h4 : -64 ≤ U ∧ U ≤ 64) (h5 : -64 ≤ V ∧ V ≤ 64) : Body.shoot (F O X Y) U V = S O X Y U V 0 := by
  rw [Body.shoot_yes h]
  have e : Body.shot (F O X Y) U V = S O X Y (Body.within U (-64) 64) (Body.within V (-64) 64) 0 := rfl
  rw [e, within_in _ _ _ h4.1 h4.2, within_in _ _ _ h5.1 h5.2]
/-- what a shot comes to -/
theorem move_S (O X Y U V n P Q : Int) (h : Body.some (S O X Y U V (n - 1)) = true) (h6 : 1 ≤ n ∧ n ≤ 41) (hP : X + U = P) (hQ : Y + V = Q) :
    ((¬ 0 ≤ P ∨ ¬ P < 4096 ∨ ¬ 0 ≤ Q ∨ ¬ Q < 4096 ∨ ¬ n ≤ 40) → Body.move (S O X Y U V (n - 1)) = (Body.zero, false)) ∧ (0 ≤ P → P < 4096 → 0 ≤ Q → Q < 4096 → n ≤ 40 → Body.move (S O X Y U V (n - 1)) = (S O P Q U V n, true)) := by
  have ol : Body.older (n - 1) = n := by unfold Body.older; rw [if_pos (by omega)]; omega
  have eg : Body.gone (S O X Y U V (n - 1)) = (decide (40 < n) || !Body.btw P 0 4095 || !Body.btw Q 0 4095) := by
    show (decide (40 < Body.older (n - 1)) || !Body.btw (X + U) 0 4095 || !Body.btw (Y + V) 0 4095) = _
    rw [ol, hP, hQ]
  have ef : Body.fly (S O X Y U V (n - 1)) = S O P Q U V n := by
    show (⟨2, O, X + U, Y + V, U, V, Body.older (n - 1), 0, 0, 0, 0, 0⟩ : Bd) = _
    rw [ol, hP, hQ]
  have bt : ∀ z : Int, Body.btw z 0 4095 = decide (0 ≤ z ∧ z < 4096) := fun z => by
    unfold Body.btw; rw [Bool.eq_iff_iff]; simp; omega
  refine ⟨fun g => Body.move_gone h (by dsimp only; decide) ?_, fun a b c d e => ?_⟩
  · rw [eg, bt, bt, Bool.eq_iff_iff]; simp; omega
  · rw [Body.move_on h (by dsimp only; decide) ?_, ef]
    rw [eg, bt, bt, Bool.eq_iff_iff]; simp; omega

set_option maxRecDepth 100000 in
set_option maxHeartbeats 4000000 in
theorem walk (a0 : Int) (a1 : Int) (a2 : Int) (a3 : Int) (a4 : Int) (w : World) (w0 : (Lit.int .i64 a0).wf = true) (w1 : (Lit.int .i64 a1).wf = true) (w2 : (Lit.int .i64 a2).wf = true) (w3 : (Lit.int .i64 a3).wf = true) (w4 : (Lit.int .i64 a4).wf = true) :
    Calls Try.prog 4 #[.int .i64 a0, .int .i64 a1, .int .i64 a2, .int .i64 a3, .int .i64 a4] w fun e w' => e = .returned (.bool true) ∧ Below w.heap.size w w' := by
  have hnot : ∀ (x : Bool) (w : World), (Op.unary .not (.bool x)).run Try.prog w = .ok (.bool (!x)) w := fun _ _ => rfl
  clear w0 w1 w2 w3 w4
  obtain ⟨O, hO⟩ : ∃ O : Nat, a0 % 4 = O := ⟨(a0 % 4).toNat, by omega⟩
  obtain ⟨X, hX⟩ : ∃ X, a1 % 4096 = X := ⟨_, rfl⟩
  obtain ⟨Y, hY⟩ : ∃ Y, a2 % 4096 = Y := ⟨_, rfl⟩
  obtain ⟨U0, hU⟩ : ∃ U, a3 % 129 = U := ⟨_, rfl⟩
  obtain ⟨V0, hV⟩ : ∃ V, a4 % 129 = V := ⟨_, rfl⟩
  have bO : O < 4 := by omega
  have bX : 0 ≤ X ∧ X ≤ 4095 := by omega
  have bY : 0 ≤ Y ∧ Y ≤ 4095 := by omega
  have bU : 0 ≤ U0 ∧ U0 ≤ 128 := by omega
  have bV : 0 ≤ V0 ∧ V0 ≤ 128 := by omega
  have HO : Hid _ := hO
  have HX : Hid _ := hX
  have HY : Hid _ := hY
  have HU : Hid _ := hU
  have HV : Hid _ := hV
  have BE : Hid (Body.born (O : Int) 4 = plr O (at_ O 4)) := born_plr O 4 bO (by omega)
  have SF : Hid (Body.some (F O X Y) = true) := some_F O X Y (by omega) bX bY
  clear hO hX hY hU hV
  go_enter Try.func4, Try.ntmps4
  go_wp2_with fail
  refine (known_any _).mono ?_
  rintro e w1 ⟨rfl, o1⟩
  have O1 : Hid _ := o1
  clear o1
  go_wp2_with fail
  refine (pick_any _ _ (by omega) (by omega) _).mono ?_
  rintro e w' ⟨rfl, rfl⟩
  rw [HO.out]
  go_wp2_with fail
  refine (born_any _ _ _).mono ?_
  rintro e w2 ⟨rfl, o2⟩
  rw [BE.out]
  have O2 : Hid (Only [] w w2) := O1.out.trans o2
  clear o2 O1 BE
  go_wp2_with fail
  refine (pick_any _ _ (by omega) (by omega) _).mono ?_
  rintro e w' ⟨rfl, rfl⟩
  rw [HX.out]
  go_wp2_with fail
  refine (pick_any _ _ (by omega) (by omega) _).mono ?_
  rintro e w' ⟨rfl, rfl⟩
  rw [HY.out]
  go_wp2_with fail
  have H2 : Hid (Bl (w2.alloc (.cells #[.int .i64 1, .int .i64 O, .int .i64 X, .int .i64 Y, .int .i64 0, .int .i64 0, .int .i64 0, .int .i64 0, .int .i64 0, .int .i64 0, .int .i64 0, .int .i64 0] 27)) w2.heap.size (F O X Y) ∧ Only [] w (w2.alloc (.cells #[.int .i64 1, .int .i64 O, .int .i64 X, .int .i64 Y, .int .i64 0, .int .i64 0, .int .i64 0, .int .i64 0, .int .i64 0, .int .i64 0, .int .i64 0, .int .i64 0] 27))) := ⟨Bl.new (F O X Y) _ _, O2.out.alloc _⟩
  have lp := O2.out.size
  generalize hW2 : w2.alloc (.cells #[.int .i64 1, .int .i64 O, .int .i64 X, .int .i64 Y, .int .i64 0, .int .i64 0, .int .i64 0, .int .i64 0, .int .i64 0, .int .i64 0, .int .i64 0, .int .i64 0] 27) = W2 at *
  have lW : w2.heap.size < W2.heap.size := by rw [← hW2]; simp
  clear hW2 O2
  obtain ⟨pf, hpf⟩ : ∃ pf, w2.heap.size = pf := ⟨_, rfl⟩
  rw [hpf] at H2 lp lW ⊢
  clear hpf
  obtain ⟨U, hU⟩ : ∃ U, U0 - 64 = U := ⟨_, rfl⟩
  obtain ⟨V, hV⟩ : ∃ V, V0 - 64 = V := ⟨_, rfl⟩
  have bU' : -64 ≤ U ∧ U ≤ 64 := by omega
  have bV' : -64 ≤ V ∧ V ≤ 64 := by omega
  have wu : IntKind.i64.wrap U = U := IntWalk.i64_in _ (by omega)
  have wv : IntKind.i64.wrap V = V := IntWalk.i64_in _ (by omega)
  have FA : Hid (∀ y, Only [] W2.drew y → (y.cell? ⟨pf, 0, none⟩ = some (.int .i64 1) ∧ y.cell? ⟨pf, 1, none⟩ = some (.int .i64 O) ∧ y.cell? ⟨pf, 2, none⟩ = some (.int .i64 X) ∧ y.cell? ⟨pf, 3, none⟩ = some (.int .i64 Y) ∧ y.cell? ⟨pf, 4, none⟩ = some (.int .i64 0) ∧ y.cell? ⟨pf, 5, none⟩ = some (.int .i64 0) ∧ y.cell? ⟨pf, 6, none⟩ = some (.int .i64 0) ∧ y.cell? ⟨pf, 7, none⟩ = some (.int .i64 0) ∧ y.cell? ⟨pf, 8, none⟩ = some (.int .i64 0) ∧ y.cell? ⟨pf, 9, none⟩ = some (.int .i64 0) ∧ y.cell? ⟨pf, 10, none⟩ = some (.int .i64 0) ∧ y.cell? ⟨pf, 11, none⟩ = some (.int .i64 0))) := fun y hT => (H2.out.1.only ((only_drew W2).trans hT) (by simp)).all
  refine wp_region_free 9 (Only []) (Only.refl []) Only.trans [(3, .int .i64 a3), (4, .int .i64 a4), (11, .pointer (some ⟨pf, 0, none⟩))] (by intro p hp; simp only [List.mem_cons, List.not_mem_nil, or_false] at hp; rcases hp with rfl | rfl | rfl <;> rfl) (by kernel_rfl) (by kernel_rfl) (by decide) (by kernel_rfl) (by kernel_rfl) ?_
  simp only [List.take_succ_cons, List.take_zero, List.drop_succ_cons, List.drop_zero]
  repeat (
    apply rf_val
    · first | rfl | exact ⟨by kernel_rfl, rfl⟩
    · intro a y hT hf
      obtain ⟨c0, c1, c2, c3, c4, c5, c6, c7, c8, c9, c10, c11⟩ := FA.out y hT
      simp at hf
      go_simp
      try rfl)
  refine rf_eff (fun _ v => v = .int .i64 U0) (by first | rfl | exact ⟨by kernel_rfl, rfl⟩) (fun _ _ _ _ h => h) (fun a y hT hf => ?_) ?_
  · simp at hf
    go_simp
    refine (pick_any _ _ (by omega) (by omega) _).mono ?_
    rintro e y2 ⟨rfl, rfl⟩
    rw [HU.out]
    exact ⟨_, rfl, rfl, Only.refl _ _⟩
  repeat (
    apply rf_val
    · first | rfl | exact ⟨by kernel_rfl, rfl⟩
    · intro a y hT hf
      obtain ⟨c0, c1, c2, c3, c4, c5, c6, c7, c8, c9, c10, c11⟩ := FA.out y hT
      simp at hf
      go_simp
      try rfl)
  refine rf_eff (fun _ v => v = .int .i64 V0) (by first | rfl | exact ⟨by kernel_rfl, rfl⟩) (fun _ _ _ _ h => h) (fun a y hT hf => ?_) ?_
  · simp at hf
    go_simp
    refine (pick_any _ _ (by omega) (by omega) _).mono ?_
    rintro e y2 ⟨rfl, rfl⟩
    rw [HV.out]
    exact ⟨_, rfl, rfl, Only.refl _ _⟩
  repeat (
    apply rf_val
    · first | rfl | exact ⟨by kernel_rfl, rfl⟩
    · intro a y hT hf
      obtain ⟨c0, c1, c2, c3, c4, c5, c6, c7, c8, c9, c10, c11⟩ := FA.out y hT
      simp at hf
      go_simp
      try rfl)
  refine rf_eff (fun _ v => v = Bd.v (S O X Y U V 0)) (by first | rfl | exact ⟨by kernel_rfl, rfl⟩) (fun _ _ _ _ h => h) (fun a y hT hf => ?_) ?_
  · simp at hf
    go_simp
    refine (shoot_any (F O X Y) U V _).mono ?_
    rintro e y2 ⟨rfl, o⟩
    rw [shoot_F _ _ _ _ _ SF.out bU' bV']
    exact ⟨_, rfl, rfl, o⟩
  refine rf_eff (fun y v => ∃ p, v = .pointer (some ⟨p, 0, none⟩) ∧ W2.heap.size ≤ p ∧ Bl y p Body.zero) (by first | rfl | exact ⟨by kernel_rfl, rfl⟩) (fun _ _ _ o ⟨p, h1, h2, h3⟩ => ⟨p, h1, h2, h3.only o (by simp)⟩) (fun a y hT hf => ?_) ?_
  · simp at hf
    go_simp
    exact ⟨⟨hT.size, Bl.new Body.zero y _⟩, (Only.refl [] y).alloc _⟩
  intro y hy
  simp only [FinA, Sp.R, forall_eq]
  rintro v ⟨ps, rfl, hps, bps⟩
  have HY2 : Hid (Bl y pf (F O X Y) ∧ Bl y ps Body.zero ∧ Only [] w y) := ⟨H2.out.1.only ((only_drew W2).trans hy) (by simp), bps, H2.out.2.trans ((only_drew W2).trans hy)⟩
  have np : pf ≠ ps := by omega
  have lq : w.heap.size ≤ ps := by omega
  clear hy FA bps H2 SF hU hV HU HV bU bV wu wv HX HY HO lW hps
  simp only [Act.put, List.setIfInBounds_toArray, List.set_cons_succ, List.set_cons_zero]
  obtain ⟨c0, c1, c2, c3, c4, c5, c6, c7, c8, c9, c10, c11⟩ := HY2.out.2.1.all
  dsimp only [Body.zero] at c0 c1 c2 c3 c4 c5 c6 c7 c8 c9 c10 c11
  have fz := HY2.out.2.1.frozen
  go_wp2_with fail
  clear c0 c1 c2 c3 c4 c5 c6 c7 c8 c9 c10 c11 fz
  generalize hW3 : (((((((((((y.setCell ⟨ps, 0, none⟩ (.int .i64 2)).setCell ⟨ps, 1, none⟩ (.int .i64 O)).setCell ⟨ps, 2, none⟩ (.int .i64 X)).setCell ⟨ps, 3, none⟩ (.int .i64 Y)).setCell ⟨ps, 4, none⟩ (.int .i64 U)).setCell ⟨ps, 5, none⟩ (.int .i64 V)).setCell ⟨ps, 6, none⟩ (.int .i64 0)).setCell ⟨ps, 7, none⟩ (.int .i64 0)).setCell ⟨ps, 8, none⟩ (.int .i64 0)).setCell ⟨ps, 9, none⟩ (.int .i64 0)).setCell ⟨ps, 10, none⟩ (.int .i64 0)).setCell ⟨ps, 11, none⟩ (.int .i64 0) = W3 at *
  have hW4 : putB y ps (S O X Y U V 0) = W3 := hW3
  have H3 : Hid (Bl W3 pf (F O X Y) ∧ Bl W3 ps (S O X Y U V 0) ∧ Only [] w W3) := by
    rw [← hW4]
    exact ⟨HY2.out.1.only (putB_only _ _ _) (by simpa using np), putB_bl HY2.out.2.1 _, HY2.out.2.2.then (putB_only _ _ _) (by simp; omega)⟩
  clear hW3 hW4 HY2
  go_loopg [13] 60 (fun gk vn wr => ∃ n : Nat, vn = .int .i64 n ∧ 1 ≤ n ∧ n ≤ 41 ∧ 60 - n ≤ gk ∧ Hid (∃ sx sy, sx + U = X + n * U ∧ sy + V = Y + n * V ∧ (0 ≤ sx ∧ sx ≤ 4095) ∧ (0 ≤ sy ∧ sy ≤ 4095) ∧ Bl wr pf (F O X Y) ∧ Bl wr ps (S O sx sy U V ((n : Int) - 1)) ∧ Only [] w wr))
  case atStart => exact ⟨1, rfl, by omega, by omega, by omega, X, Y, by simp, by simp, bX, bY, H3.out⟩
  case round =>
    obtain ⟨n, rfl, n1, n2, hg, HR⟩ := hrel
    clear H3
    obtain ⟨sx, sy, ex, ey, bsx, bsy, hb⟩ := HR.out
    have HB : Hid _ := hb
    have rn : Hid (0 ≤ (n : Int) - 1 ∧ (n : Int) - 1 ≤ 600) := ⟨by omega, by omega⟩
    have SS : Hid (Body.some (S O sx sy U V ((n : Int) - 1)) = true) := some_S _ _ _ _ _ _ (by omega) bsx bsy bU' bV' rn.out
    have M : Hid _ := move_S O sx sy U V n (sx + U) (sy + V) SS.out (by omega) rfl rfl
    obtain ⟨mx, hmx⟩ : ∃ mx, (n : Int) * U = mx := ⟨_, rfl⟩
    obtain ⟨my, hmy⟩ : ∃ my, (n : Int) * V = my := ⟨_, rfl⟩
    rw [hmx] at ex
    rw [hmy] at ey
    rw [ex, ey] at M
    have bmx : -4159 ≤ mx ∧ mx ≤ 4159 := by omega
    have bmy : -4159 ≤ my ∧ my ≤ 4159 := by omega
    obtain ⟨P, hP⟩ : ∃ P, X + mx = P := ⟨_, rfl⟩
    obtain ⟨Q, hQ⟩ : ∃ Q, Y + my = Q := ⟨_, rfl⟩
    have bP : -64 ≤ P ∧ P ≤ 4159 := by omega
    have bQ : -64 ≤ Q ∧ Q ≤ 4159 := by omega
    rw [hP] at M
    rw [hQ] at M
    have z60 : (n : Int) < 60 := by omega
    obtain ⟨c0, c1, c2, c3, c4, c5, c6, c7, c8, c9, c10, c11⟩ := HB.out.2.1.all
    dsimp only at c0 c1 c2 c3 c4 c5 c6 c7 c8 c9 c10 c11
    clear HR hb ex ey
    go_wp2_with fail
    clear c0 c1 c2 c3 c4 c5 c6 c7 c8 c9 c10 c11
    by_cases z1 : 0 ≤ P
    rotate_left
    · obtain ⟨z, hz, E⟩ : ∃ z, Hid (z = Body.zero) ∧ Hid (Body.move (S O sx sy U V ((n : Int) - 1)) = (z, false)) := ⟨_, rfl, M.out.1 (by omega)⟩
      refine (move_any (S O sx sy U V ((n : Int) - 1)) _).mono ?_
      rintro e w3 ⟨rfl, o3⟩
      rw [E.out]
      have H4 : Hid (Bl (w3.alloc (.cells #[.int .i64 z.k, .int .i64 z.o, .int .i64 z.x, .int .i64 z.y, .int .i64 z.vx, .int .i64 z.vy, .int .i64 z.age, .int .i64 z.m0, .int .i64 z.m1, .int .i64 z.m2, .int .i64 z.m3, .int .i64 z.f] 27)) pf (F O X Y) ∧ Bl (w3.alloc (.cells #[.int .i64 z.k, .int .i64 z.o, .int .i64 z.x, .int .i64 z.y, .int .i64 z.vx, .int .i64 z.vy, .int .i64 z.age, .int .i64 z.m0, .int .i64 z.m1, .int .i64 z.m2, .int .i64 z.m3, .int .i64 z.f] 27)) ps (S O sx sy U V ((n : Int) - 1)) ∧ Only [] w (w3.alloc (.cells #[.int .i64 z.k, .int .i64 z.o, .int .i64 z.x, .int .i64 z.y, .int .i64 z.vx, .int .i64 z.vy, .int .i64 z.age, .int .i64 z.m0, .int .i64 z.m1, .int .i64 z.m2, .int .i64 z.m3, .int .i64 z.f] 27)) ∧ Bl (w3.alloc (.cells #[.int .i64 z.k, .int .i64 z.o, .int .i64 z.x, .int .i64 z.y, .int .i64 z.vx, .int .i64 z.vy, .int .i64 z.age, .int .i64 z.m0, .int .i64 z.m1, .int .i64 z.m2, .int .i64 z.m3, .int .i64 z.f] 27)) w3.heap.size z) := ⟨(HB.out.1.only o3 (by simp)).only ((Only.refl [] _).alloc _) (by simp), (HB.out.2.1.only o3 (by simp)).only ((Only.refl [] _).alloc _) (by simp), (HB.out.2.2.trans o3).alloc _, Bl.new z _ _⟩
      clear o3 HB
      obtain ⟨f0, f1, f2, f3, f4, f5, f6, f7, f8, f9, f10, f11⟩ := H4.out.1.all
      obtain ⟨c0, c1, c2, c3, c4, c5, c6, c7, c8, c9, c10, c11⟩ := H4.out.2.1.all
      obtain ⟨t0, t1, t2, t3, t4, t5, t6, t7, t8, t9, t10, t11⟩ := H4.out.2.2.2.all
      dsimp only [Body.zero] at f0 f1 f2 f3 f4 f5 f6 f7 f8 f9 f10 f11 c0 c1 c2 c3 c4 c5 c6 c7 c8 c9 c10 c11 t0 t1 t2 t3 t4 t5 t6 t7 t8 t9 t10 t11
      have q := eq_zero (b := z) (z := true) (by rw [hz.out]; rfl)
      go_wp2_with fail
      go_ret
      exact ⟨rfl, H4.out.2.2.1.below (Nat.le_refl _) (by simp)⟩
    by_cases z2 : P < 4096
    rotate_left
    · obtain ⟨z, hz, E⟩ : ∃ z, Hid (z = Body.zero) ∧ Hid (Body.move (S O sx sy U V ((n : Int) - 1)) = (z, false)) := ⟨_, rfl, M.out.1 (by omega)⟩
      refine (move_any (S O sx sy U V ((n : Int) - 1)) _).mono ?_
      rintro e w3 ⟨rfl, o3⟩
      rw [E.out]
      have H4 : Hid (Bl (w3.alloc (.cells #[.int .i64 z.k, .int .i64 z.o, .int .i64 z.x, .int .i64 z.y, .int .i64 z.vx, .int .i64 z.vy, .int .i64 z.age, .int .i64 z.m0, .int .i64 z.m1, .int .i64 z.m2, .int .i64 z.m3, .int .i64 z.f] 27)) pf (F O X Y) ∧ Bl (w3.alloc (.cells #[.int .i64 z.k, .int .i64 z.o, .int .i64 z.x, .int .i64 z.y, .int .i64 z.vx, .int .i64 z.vy, .int .i64 z.age, .int .i64 z.m0, .int .i64 z.m1, .int .i64 z.m2, .int .i64 z.m3, .int .i64 z.f] 27)) ps (S O sx sy U V ((n : Int) - 1)) ∧ Only [] w (w3.alloc (.cells #[.int .i64 z.k, .int .i64 z.o, .int .i64 z.x, .int .i64 z.y, .int .i64 z.vx, .int .i64 z.vy, .int .i64 z.age, .int .i64 z.m0, .int .i64 z.m1, .int .i64 z.m2, .int .i64 z.m3, .int .i64 z.f] 27)) ∧ Bl (w3.alloc (.cells #[.int .i64 z.k, .int .i64 z.o, .int .i64 z.x, .int .i64 z.y, .int .i64 z.vx, .int .i64 z.vy, .int .i64 z.age, .int .i64 z.m0, .int .i64 z.m1, .int .i64 z.m2, .int .i64 z.m3, .int .i64 z.f] 27)) w3.heap.size z) := ⟨(HB.out.1.only o3 (by simp)).only ((Only.refl [] _).alloc _) (by simp), (HB.out.2.1.only o3 (by simp)).only ((Only.refl [] _).alloc _) (by simp), (HB.out.2.2.trans o3).alloc _, Bl.new z _ _⟩
      clear o3 HB
      obtain ⟨f0, f1, f2, f3, f4, f5, f6, f7, f8, f9, f10, f11⟩ := H4.out.1.all
      obtain ⟨c0, c1, c2, c3, c4, c5, c6, c7, c8, c9, c10, c11⟩ := H4.out.2.1.all
      obtain ⟨t0, t1, t2, t3, t4, t5, t6, t7, t8, t9, t10, t11⟩ := H4.out.2.2.2.all
      dsimp only [Body.zero] at f0 f1 f2 f3 f4 f5 f6 f7 f8 f9 f10 f11 c0 c1 c2 c3 c4 c5 c6 c7 c8 c9 c10 c11 t0 t1 t2 t3 t4 t5 t6 t7 t8 t9 t10 t11
      have q := eq_zero (b := z) (z := true) (by rw [hz.out]; rfl)
      go_wp2_with fail
      go_ret
      exact ⟨rfl, H4.out.2.2.1.below (Nat.le_refl _) (by simp)⟩
    by_cases z3 : 0 ≤ Q
    rotate_left
    · obtain ⟨z, hz, E⟩ : ∃ z, Hid (z = Body.zero) ∧ Hid (Body.move (S O sx sy U V ((n : Int) - 1)) = (z, false)) := ⟨_, rfl, M.out.1 (by omega)⟩
      refine (move_any (S O sx sy U V ((n : Int) - 1)) _).mono ?_
      rintro e w3 ⟨rfl, o3⟩
      rw [E.out]
      have H4 : Hid (Bl (w3.alloc (.cells #[.int .i64 z.k, .int .i64 z.o, .int .i64 z.x, .int .i64 z.y, .int .i64 z.vx, .int .i64 z.vy, .int .i64 z.age, .int .i64 z.m0, .int .i64 z.m1, .int .i64 z.m2, .int .i64 z.m3, .int .i64 z.f] 27)) pf (F O X Y) ∧ Bl (w3.alloc (.cells #[.int .i64 z.k, .int .i64 z.o, .int .i64 z.x, .int .i64 z.y, .int .i64 z.vx, .int .i64 z.vy, .int .i64 z.age, .int .i64 z.m0, .int .i64 z.m1, .int .i64 z.m2, .int .i64 z.m3, .int .i64 z.f] 27)) ps (S O sx sy U V ((n : Int) - 1)) ∧ Only [] w (w3.alloc (.cells #[.int .i64 z.k, .int .i64 z.o, .int .i64 z.x, .int .i64 z.y, .int .i64 z.vx, .int .i64 z.vy, .int .i64 z.age, .int .i64 z.m0, .int .i64 z.m1, .int .i64 z.m2, .int .i64 z.m3, .int .i64 z.f] 27)) ∧ Bl (w3.alloc (.cells #[.int .i64 z.k, .int .i64 z.o, .int .i64 z.x, .int .i64 z.y, .int .i64 z.vx, .int .i64 z.vy, .int .i64 z.age, .int .i64 z.m0, .int .i64 z.m1, .int .i64 z.m2, .int .i64 z.m3, .int .i64 z.f] 27)) w3.heap.size z) := ⟨(HB.out.1.only o3 (by simp)).only ((Only.refl [] _).alloc _) (by simp), (HB.out.2.1.only o3 (by simp)).only ((Only.refl [] _).alloc _) (by simp), (HB.out.2.2.trans o3).alloc _, Bl.new z _ _⟩
      clear o3 HB
      obtain ⟨f0, f1, f2, f3, f4, f5, f6, f7, f8, f9, f10, f11⟩ := H4.out.1.all
      obtain ⟨c0, c1, c2, c3, c4, c5, c6, c7, c8, c9, c10, c11⟩ := H4.out.2.1.all
      obtain ⟨t0, t1, t2, t3, t4, t5, t6, t7, t8, t9, t10, t11⟩ := H4.out.2.2.2.all
      dsimp only [Body.zero] at f0 f1 f2 f3 f4 f5 f6 f7 f8 f9 f10 f11 c0 c1 c2 c3 c4 c5 c6 c7 c8 c9 c10 c11 t0 t1 t2 t3 t4 t5 t6 t7 t8 t9 t10 t11
      have q := eq_zero (b := z) (z := true) (by rw [hz.out]; rfl)
      go_wp2_with fail
      go_ret
      exact ⟨rfl, H4.out.2.2.1.below (Nat.le_refl _) (by simp)⟩
    by_cases z4 : Q < 4096
    rotate_left
    · obtain ⟨z, hz, E⟩ : ∃ z, Hid (z = Body.zero) ∧ Hid (Body.move (S O sx sy U V ((n : Int) - 1)) = (z, false)) := ⟨_, rfl, M.out.1 (by omega)⟩
      refine (move_any (S O sx sy U V ((n : Int) - 1)) _).mono ?_
      rintro e w3 ⟨rfl, o3⟩
      rw [E.out]
      have H4 : Hid (Bl (w3.alloc (.cells #[.int .i64 z.k, .int .i64 z.o, .int .i64 z.x, .int .i64 z.y, .int .i64 z.vx, .int .i64 z.vy, .int .i64 z.age, .int .i64 z.m0, .int .i64 z.m1, .int .i64 z.m2, .int .i64 z.m3, .int .i64 z.f] 27)) pf (F O X Y) ∧ Bl (w3.alloc (.cells #[.int .i64 z.k, .int .i64 z.o, .int .i64 z.x, .int .i64 z.y, .int .i64 z.vx, .int .i64 z.vy, .int .i64 z.age, .int .i64 z.m0, .int .i64 z.m1, .int .i64 z.m2, .int .i64 z.m3, .int .i64 z.f] 27)) ps (S O sx sy U V ((n : Int) - 1)) ∧ Only [] w (w3.alloc (.cells #[.int .i64 z.k, .int .i64 z.o, .int .i64 z.x, .int .i64 z.y, .int .i64 z.vx, .int .i64 z.vy, .int .i64 z.age, .int .i64 z.m0, .int .i64 z.m1, .int .i64 z.m2, .int .i64 z.m3, .int .i64 z.f] 27)) ∧ Bl (w3.alloc (.cells #[.int .i64 z.k, .int .i64 z.o, .int .i64 z.x, .int .i64 z.y, .int .i64 z.vx, .int .i64 z.vy, .int .i64 z.age, .int .i64 z.m0, .int .i64 z.m1, .int .i64 z.m2, .int .i64 z.m3, .int .i64 z.f] 27)) w3.heap.size z) := ⟨(HB.out.1.only o3 (by simp)).only ((Only.refl [] _).alloc _) (by simp), (HB.out.2.1.only o3 (by simp)).only ((Only.refl [] _).alloc _) (by simp), (HB.out.2.2.trans o3).alloc _, Bl.new z _ _⟩
      clear o3 HB
      obtain ⟨f0, f1, f2, f3, f4, f5, f6, f7, f8, f9, f10, f11⟩ := H4.out.1.all
      obtain ⟨c0, c1, c2, c3, c4, c5, c6, c7, c8, c9, c10, c11⟩ := H4.out.2.1.all
      obtain ⟨t0, t1, t2, t3, t4, t5, t6, t7, t8, t9, t10, t11⟩ := H4.out.2.2.2.all
      dsimp only [Body.zero] at f0 f1 f2 f3 f4 f5 f6 f7 f8 f9 f10 f11 c0 c1 c2 c3 c4 c5 c6 c7 c8 c9 c10 c11 t0 t1 t2 t3 t4 t5 t6 t7 t8 t9 t10 t11
      have q := eq_zero (b := z) (z := true) (by rw [hz.out]; rfl)
      go_wp2_with fail
      go_ret
      exact ⟨rfl, H4.out.2.2.1.below (Nat.le_refl _) (by simp)⟩
    by_cases z5 : (n : Int) ≤ 40
    rotate_left
    · obtain ⟨z, hz, E⟩ : ∃ z, Hid (z = Body.zero) ∧ Hid (Body.move (S O sx sy U V ((n : Int) - 1)) = (z, false)) := ⟨_, rfl, M.out.1 (by omega)⟩
      refine (move_any (S O sx sy U V ((n : Int) - 1)) _).mono ?_
      rintro e w3 ⟨rfl, o3⟩
      rw [E.out]
      have H4 : Hid (Bl (w3.alloc (.cells #[.int .i64 z.k, .int .i64 z.o, .int .i64 z.x, .int .i64 z.y, .int .i64 z.vx, .int .i64 z.vy, .int .i64 z.age, .int .i64 z.m0, .int .i64 z.m1, .int .i64 z.m2, .int .i64 z.m3, .int .i64 z.f] 27)) pf (F O X Y) ∧ Bl (w3.alloc (.cells #[.int .i64 z.k, .int .i64 z.o, .int .i64 z.x, .int .i64 z.y, .int .i64 z.vx, .int .i64 z.vy, .int .i64 z.age, .int .i64 z.m0, .int .i64 z.m1, .int .i64 z.m2, .int .i64 z.m3, .int .i64 z.f] 27)) ps (S O sx sy U V ((n : Int) - 1)) ∧ Only [] w (w3.alloc (.cells #[.int .i64 z.k, .int .i64 z.o, .int .i64 z.x, .int .i64 z.y, .int .i64 z.vx, .int .i64 z.vy, .int .i64 z.age, .int .i64 z.m0, .int .i64 z.m1, .int .i64 z.m2, .int .i64 z.m3, .int .i64 z.f] 27)) ∧ Bl (w3.alloc (.cells #[.int .i64 z.k, .int .i64 z.o, .int .i64 z.x, .int .i64 z.y, .int .i64 z.vx, .int .i64 z.vy, .int .i64 z.age, .int .i64 z.m0, .int .i64 z.m1, .int .i64 z.m2, .int .i64 z.m3, .int .i64 z.f] 27)) w3.heap.size z) := ⟨(HB.out.1.only o3 (by simp)).only ((Only.refl [] _).alloc _) (by simp), (HB.out.2.1.only o3 (by simp)).only ((Only.refl [] _).alloc _) (by simp), (HB.out.2.2.trans o3).alloc _, Bl.new z _ _⟩
      clear o3 HB
      obtain ⟨f0, f1, f2, f3, f4, f5, f6, f7, f8, f9, f10, f11⟩ := H4.out.1.all
      obtain ⟨c0, c1, c2, c3, c4, c5, c6, c7, c8, c9, c10, c11⟩ := H4.out.2.1.all
      obtain ⟨t0, t1, t2, t3, t4, t5, t6, t7, t8, t9, t10, t11⟩ := H4.out.2.2.2.all
      dsimp only [Body.zero] at f0 f1 f2 f3 f4 f5 f6 f7 f8 f9 f10 f11 c0 c1 c2 c3 c4 c5 c6 c7 c8 c9 c10 c11 t0 t1 t2 t3 t4 t5 t6 t7 t8 t9 t10 t11
      have q := eq_zero (b := z) (z := true) (by rw [hz.out]; rfl)
      go_wp2_with fail
      go_ret
      exact ⟨rfl, H4.out.2.2.1.below (Nat.le_refl _) (by simp)⟩
    have E : Hid (Body.move (S O sx sy U V ((n : Int) - 1)) = (S O P Q U V n, true)) := M.out.2 z1 z2 z3 z4 z5
    refine (move_any (S O sx sy U V ((n : Int) - 1)) _).mono ?_
    rintro e w3 ⟨rfl, o3⟩
    rw [E.out]
    have H4 : Hid (Bl (w3.alloc (.cells #[.int .i64 2, .int .i64 O, .int .i64 P, .int .i64 Q, .int .i64 U, .int .i64 V, .int .i64 n, .int .i64 0, .int .i64 0, .int .i64 0, .int .i64 0, .int .i64 0] 27)) pf (F O X Y) ∧ Bl (w3.alloc (.cells #[.int .i64 2, .int .i64 O, .int .i64 P, .int .i64 Q, .int .i64 U, .int .i64 V, .int .i64 n, .int .i64 0, .int .i64 0, .int .i64 0, .int .i64 0, .int .i64 0] 27)) ps (S O sx sy U V ((n : Int) - 1)) ∧ Only [] w (w3.alloc (.cells #[.int .i64 2, .int .i64 O, .int .i64 P, .int .i64 Q, .int .i64 U, .int .i64 V, .int .i64 n, .int .i64 0, .int .i64 0, .int .i64 0, .int .i64 0, .int .i64 0] 27)) ∧ Bl (w3.alloc (.cells #[.int .i64 2, .int .i64 O, .int .i64 P, .int .i64 Q, .int .i64 U, .int .i64 V, .int .i64 n, .int .i64 0, .int .i64 0, .int .i64 0, .int .i64 0, .int .i64 0] 27)) w3.heap.size (S O P Q U V n)) := ⟨(HB.out.1.only o3 (by simp)).only ((Only.refl [] _).alloc _) (by simp), (HB.out.2.1.only o3 (by simp)).only ((Only.refl [] _).alloc _) (by simp), (HB.out.2.2.trans o3).alloc _, Bl.new (S O P Q U V n) _ _⟩
    clear o3 HB
    obtain ⟨f0, f1, f2, f3, f4, f5, f6, f7, f8, f9, f10, f11⟩ := H4.out.1.all
    obtain ⟨c0, c1, c2, c3, c4, c5, c6, c7, c8, c9, c10, c11⟩ := H4.out.2.1.all
    obtain ⟨t0, t1, t2, t3, t4, t5, t6, t7, t8, t9, t10, t11⟩ := H4.out.2.2.2.all
    dsimp only [Body.zero] at f0 f1 f2 f3 f4 f5 f6 f7 f8 f9 f10 f11 c0 c1 c2 c3 c4 c5 c6 c7 c8 c9 c10 c11 t0 t1 t2 t3 t4 t5 t6 t7 t8 t9 t10 t11
    have fz := H4.out.2.1.frozen
    go_wp2_with fail
    go_roundg (60 - (n + 1))
    case measure => omega
    case rel =>
      have m1 : ((n + 1 : Nat) : Int) * U = mx + U := by rw [← hmx, Int.natCast_add, Int.add_mul]; simp
      have m2 : ((n + 1 : Nat) : Int) * V = my + V := by rw [← hmy, Int.natCast_add, Int.add_mul]; simp
      have m3 : ((n + 1 : Nat) : Int) - 1 = n := by omega
      refine ⟨n + 1, by go_num, by omega, by omega, by omega, P, Q, by rw [m1]; omega, by rw [m2]; omega, ⟨z1, by omega⟩, ⟨z3, by omega⟩, ?_⟩
      rw [m3]
      have A := H4.out.1.only (putB_only (w3.alloc (.cells #[.int .i64 2, .int .i64 O, .int .i64 P, .int .i64 Q, .int .i64 U, .int .i64 V, .int .i64 n, .int .i64 0, .int .i64 0, .int .i64 0, .int .i64 0, .int .i64 0] 27)) ps (S O P Q U V n)) (by simpa using np)
      have B := putB_bl H4.out.2.1 (S O P Q U V n)
      have C := H4.out.2.2.1.then (putB_only (w3.alloc (.cells #[.int .i64 2, .int .i64 O, .int .i64 P, .int .i64 Q, .int .i64 U, .int .i64 V, .int .i64 n, .int .i64 0, .int .i64 0, .int .i64 0, .int .i64 0, .int .i64 0] 27)) ps (S O P Q U V n)) (by simp; omega)
      exact ⟨A, B, C⟩
set_option maxRecDepth 100000 in
theorem lifted (os : Os) (started : os.Started) (H : Type) (enc : TypeId × Value → H) :
    ReturnsInHanded {} Try.checked os 4 .any (Rows.bodyShotsSpec.pre6 enc Try.prog Try.f4 Rows.bodyShotsRow.domain false) (Rows.bodyShotsSpec.post enc Try.prog Try.f4 false true false false) := by
  refine returnsInHanded_of_change (C := Try.checked) own started (by kernel_rfl) Try.func4
    (ChangeSpec.witness6 (enc := enc) (C := Try.checked) false ⟨#[], #[.int .i64 0, .int .i64 0, .int .i64 0, .int .i64 0, .int .i64 0], []⟩ 8 (by kernel_rfl) (by kernel_rfl) (by kernel_rfl) (by kernel_rfl)) ?_
  intro W base args ds gs before hval0 hW hcnd _
  have hval : ∀ (j : Nat) t v, Try.f4.params[j]? = some t → args[j]? = some v → Value.okWide Try.prog W .any base t v := hval0
  have hW' := hW
  obtain ⟨p, q, hA0, hV, rfl, hfz, hnd⟩ := hW
  have hA : DataW.TrodAll enc Try.prog W 0 (fun _ => true) true Try.f4.params.toList args.toList ds p := hA0
  rw [Try.params4] at hA hval
  obtain ⟨v0, vs0, d0, ds0, p0, q0, hargs, rfl, rfl, h0, r0⟩ := trodAll_cons hA
  obtain ⟨v1, vs1, d1, ds1, p1, q1, rfl, rfl, rfl, h1, r1⟩ := trodAll_cons r0
  obtain ⟨v2, vs2, d2, ds2, p2, q2, rfl, rfl, rfl, h2, r2⟩ := trodAll_cons r1
  obtain ⟨v3, vs3, d3, ds3, p3, q3, rfl, rfl, rfl, h3, r3⟩ := trodAll_cons r2
  obtain ⟨v4, vs4, d4, ds4, p4, q4, rfl, rfl, rfl, h4, r4⟩ := trodAll_cons r3
  obtain ⟨rfl, rfl, rfl⟩ := trodAll_nil r4
  obtain rfl : args = #[v0, v1, v2, v3, v4] := by cases args; simp_all
  obtain ⟨rfl, rfl⟩ := trodVars_none hV
  obtain ⟨a0, rfl, rfl, rfl, w0⟩ := open_int Try.underlying3 (hval 0 3 v0 rfl rfl) h0
  obtain ⟨a1, rfl, rfl, rfl, w1⟩ := open_int Try.underlying3 (hval 1 3 v1 rfl rfl) h1
  obtain ⟨a2, rfl, rfl, rfl, w2⟩ := open_int Try.underlying3 (hval 2 3 v2 rfl rfl) h2
  obtain ⟨a3, rfl, rfl, rfl, w3⟩ := open_int Try.underlying3 (hval 3 3 v3 rfl rfl) h3
  obtain ⟨a4, rfl, rfl, rfl, w4⟩ := open_int Try.underlying3 (hval 4 3 v4 rfl rfl) h4
  clear hA0 hval0
  refine (walk a0 a1 a2 a3 a4 W w0 w1 w2 w3 w4).mono fun e W' ⟨he, bel⟩ => ?_
  subst he
  exact ⟨_, rfl, _, _, _, [], _, [], hW', trodAll_mk1 (shut_bool Try.underlying4 _), (trodAll_cons_mk (shut_int Try.underlying3 w0) (trodAll_cons_mk (shut_int Try.underlying3 w1) (trodAll_cons_mk (shut_int Try.underlying3 w2) (trodAll_cons_mk (shut_int Try.underlying3 w3) (trodAll_cons_mk (shut_int Try.underlying3 w4) trodAll_mk0))))), rfl, bel.frame _, fun h => by cases h⟩

theorem over : Rows.bodyShotsRow.holds Try.pinned (OpenSpec.ofChange Rows.bodyShotsSpec) :=
  OpenClaim.holds_of_wide 4 Try.f4 rfl rfl rfl rfl rfl rfl rfl ⟨rfl, rfl, rfl, rfl, rfl⟩ rfl rfl rfl rfl rfl (by kernel_rfl) Try.func4 (by kernel_rfl)
    (of_decide_eq_true (by kernel_rfl)) (by unfold Func.isWrapper; first | (rw [if_pos (by decide +kernel)]; kernel_rfl) | (rw [if_neg (by decide +kernel)]; exact ⟨rfl, rfl⟩))
    (fun os started H enc _ => lifted os started H enc)

/-- THE STATEMENT -/
theorem proved : Rows.BodyShotsSaid := over
end Go.Proofs.Ytpbckiijmoellaa.bodyShots

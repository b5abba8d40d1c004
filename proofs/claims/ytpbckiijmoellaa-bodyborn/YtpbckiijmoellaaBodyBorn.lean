/- Proved: BodyBorn returns true for every input. No condition. -/
import Derived.Test.YtpbckiijmoellaaBodyK
import Derived.Test.YtpbckiijmoellaaBodyH
import Derived.Test.YtpbckiijmoellaaBodyF
import Derived.Test.YtpbckiijmoellaaPick
import Derived.Test.YtpbckiijmoellaaRegBy3
import Derived.Test.YtpbckiijmoellaaFrame
import Derived.Deep.LoopGhost
namespace Go.Proofs.Ytpbckiijmoellaa.bodyBorn
open Go.ChangeShapes Go.WideShapes Go.ChangeAt Go.RowKit
set_option linter.unusedVariables false

theorem at_apart (i k n : Nat) (h : k < i) (hn : i < n) (h8 : n ≤ 8) : at_ k n + 33 ≤ at_ i n := by
  have hn : n = 1 ∨ n = 2 ∨ n = 3 ∨ n = 4 ∨ n = 5 ∨ n = 6 ∨ n = 7 ∨ n = 8 := by omega
  unfold at_
  rcases hn with rfl | rfl | rfl | rfl | rfl | rfl | rfl | rfl <;> omega
theorem hit_no (i X k Y : Int) : Body.hit (plr i X) (plr k Y) = false := by simp [Body.hit]
theorem shoot_plr (k Y : Int) (h : Body.some (plr k Y) = true) : Body.shoot (plr k Y) 0 0 = ⟨2, k, Y, 2048, 0, 0, 0, 0, 0, 0, 0, 0⟩ := by
  rw [Body.shoot_yes h]; rfl
theorem hit_far (i X k Y : Int) (h : Y + 33 ≤ X) : Body.hit (plr i X) ⟨2, k, Y, 2048, 0, 0, 0, 0, 0, 0, 0, 0⟩ = false := by
  have : Body.btw (X - Y) (-32) 32 = false := by
    unfold Body.btw
    rw [show decide (X - Y ≤ 32) = false from decide_eq_false (by omega)]; simp
  simp [Body.hit, this]

set_option maxRecDepth 100000 in
set_option maxHeartbeats 4000000 in
theorem walk (a0 : Int) (w : World) (w0 : (Lit.int .i64 a0).wf = true) :
    Calls Try.prog 5 #[.int .i64 a0] w fun e w' => e = .returned (.bool true) ∧ Below w.heap.size w w' := by
  have hnot : ∀ (x : Bool) (w : World), (Op.unary .not (.bool x)).run Try.prog w = .ok (.bool (!x)) w := fun _ _ => rfl
  clear w0
  obtain ⟨N, hN⟩ : ∃ N : Nat, 1 + a0 % 8 = N := ⟨(1 + a0 % 8).toNat, by omega⟩
  have N1 : 1 ≤ N := by omega
  have N8 : N ≤ 8 := by omega
  have hN2 : a0 % 8 = (N : Int) - 1 := by omega
  have HN : Hid _ := hN2
  clear hN hN2
  go_enter Try.func5, Try.ntmps5
  go_wp2_with fail
  refine (known_any _).mono ?_
  rintro e w1 ⟨rfl, o1⟩
  have O1 : Hid _ := o1
  clear o1
  go_wp2_with fail
  refine (pick_any _ _ (by omega) (by omega) _).mono ?_
  rintro e w' ⟨rfl, rfl⟩
  rw [HN.out]
  go_wp2_with fail
  rw [show (1 : Int) + ((N : Int) - 1) = N by omega]
  go_loopg [4] 9 (fun gk vi wr => ∃ i : Nat, vi = .int .i64 i ∧ i ≤ N ∧ 9 - i ≤ gk ∧ Hid (Only [] w wr))
  case atStart => exact ⟨0, rfl, by omega, by omega, O1.out⟩
  case round =>
    obtain ⟨i, rfl, hi, hg, HR⟩ := hrel
    by_cases hlt : i < N
    · have z1 : (i : Int) < (N : Int) := by omega
      obtain ⟨x1, x2, x3⟩ := at_spec i N hlt N8
      have BE : Hid _ := born_plr i N hlt N8
      have SP : Hid _ := some_plr i (at_ i N) (by omega) (by omega) x1 x2
      have AP : Hid (∀ k, k < i → at_ k N + 33 ≤ at_ i N) := fun k hk => at_apart i k N hk hlt N8
      obtain ⟨X, hX⟩ : ∃ X, at_ i N = X := ⟨_, rfl⟩
      rw [hX] at x1 x2 x3 BE SP AP
      clear hX
      go_wp2_with fail
      refine (born_any _ _ _).mono ?_
      rintro e w2 ⟨rfl, o2⟩
      rw [BE.out]
      have H2 : Hid (Bl (w2.alloc (.cells #[.int .i64 1, .int .i64 i, .int .i64 X, .int .i64 2048, .int .i64 0, .int .i64 0, .int .i64 0, .int .i64 0, .int .i64 0, .int .i64 0, .int .i64 0, .int .i64 0] 27)) w2.heap.size (plr i X) ∧ Only [] w (w2.alloc (.cells #[.int .i64 1, .int .i64 i, .int .i64 X, .int .i64 2048, .int .i64 0, .int .i64 0, .int .i64 0, .int .i64 0, .int .i64 0, .int .i64 0, .int .i64 0, .int .i64 0] 27))) := ⟨Bl.new (plr i X) _ _, (HR.out.trans o2).alloc _⟩
      clear o2 HR
      go_wp2_with fail
      generalize w2.alloc (.cells #[.int .i64 1, .int .i64 i, .int .i64 X, .int .i64 2048, .int .i64 0, .int .i64 0, .int .i64 0, .int .i64 0, .int .i64 0, .int .i64 0, .int .i64 0, .int .i64 0] 27) = W2 at *
      generalize w2.heap.size = pa at *
      refine (right_any (plr i X) _).mono ?_
      rintro e w3 ⟨rfl, o3⟩
      have e3 : ((plr i X) == Body.zero || Body.some (plr i X)) = true := by rw [SP.out]; simp
      rw [e3]
      clear e3
      have H3 : Hid (Bl w3 pa (plr i X) ∧ Only [] w w3) := ⟨H2.out.1.only o3 (by simp), H2.out.2.trans o3⟩
      clear o3 H2
      obtain ⟨c0, c1, c2, c3, c4, c5, c6, c7, c8, c9, c10, c11⟩ := H3.out.1.all
      dsimp only at c0 c1 c2 c3 c4 c5 c6 c7 c8 c9 c10 c11
      have p0 : 0 ≤ X * (N : Int) := Int.mul_nonneg x1 (by omega)
      have p1 : X * (N : Int) ≤ 4095 * 8 := Int.mul_le_mul x2 (by omega) (by omega) (by omega)
      go_wp2_with fail
      clear c0 c1 c2 c3 c4 c5 c6 c7 c8 c9 c10 c11 p0 p1 x3
      generalize w3 = W3 at *
      go_loopg [6] 9 (fun gk vk wr => ∃ k : Nat, vk = .int .i64 k ∧ k ≤ i ∧ 9 - k ≤ gk ∧ Hid (Bl wr pa (plr i X) ∧ Only [] w wr))
      case atStart => exact ⟨0, rfl, by omega, by omega, H3.out⟩
      case round =>
        obtain ⟨k, rfl, hk, hgk, HK⟩ := hrel
        clear H3
        by_cases hki : k < i
        · have z2 : (k : Int) < (i : Int) := by omega
          obtain ⟨y1, y2, _⟩ := at_spec k N (by omega) N8
          have BK : Hid _ := born_plr k N (by omega) N8
          have SK : Hid _ := some_plr k (at_ k N) (by omega) (by omega) y1 y2
          have ap := AP.out k hki
          obtain ⟨Y, hY⟩ : ∃ Y, at_ k N = Y := ⟨_, rfl⟩
          rw [hY] at y1 y2 BK SK ap
          clear hY
          go_wp2_with fail
          refine (born_any _ _ _).mono ?_
          rintro e w4 ⟨rfl, o4⟩
          rw [BK.out]
          go_wp2_with fail
          have H4 : Hid (Bl (w4.alloc (.cells #[.int .i64 1, .int .i64 k, .int .i64 Y, .int .i64 2048, .int .i64 0, .int .i64 0, .int .i64 0, .int .i64 0, .int .i64 0, .int .i64 0, .int .i64 0, .int .i64 0] 27)) w4.heap.size (plr k Y) ∧ Bl (w4.alloc (.cells #[.int .i64 1, .int .i64 k, .int .i64 Y, .int .i64 2048, .int .i64 0, .int .i64 0, .int .i64 0, .int .i64 0, .int .i64 0, .int .i64 0, .int .i64 0, .int .i64 0] 27)) pa (plr i X) ∧ Only [] w (w4.alloc (.cells #[.int .i64 1, .int .i64 k, .int .i64 Y, .int .i64 2048, .int .i64 0, .int .i64 0, .int .i64 0, .int .i64 0, .int .i64 0, .int .i64 0, .int .i64 0, .int .i64 0] 27))) :=
            ⟨Bl.new (plr k Y) _ _, HK.out.1.only (o4.alloc _) (by simp), HK.out.2.trans (o4.alloc _)⟩
          clear o4 HK
          generalize w4.alloc (.cells #[.int .i64 1, .int .i64 k, .int .i64 Y, .int .i64 2048, .int .i64 0, .int .i64 0, .int .i64 0, .int .i64 0, .int .i64 0, .int .i64 0, .int .i64 0, .int .i64 0] 27) = W4 at *
          generalize w4.heap.size = pb at *
          have FA : Hid (∀ y, Only [] W4.drew y → (y.cell? ⟨pa, 0, none⟩ = some (.int .i64 1) ∧ y.cell? ⟨pa, 1, none⟩ = some (.int .i64 i) ∧ y.cell? ⟨pa, 2, none⟩ = some (.int .i64 X) ∧ y.cell? ⟨pa, 3, none⟩ = some (.int .i64 2048) ∧ y.cell? ⟨pa, 4, none⟩ = some (.int .i64 0) ∧ y.cell? ⟨pa, 5, none⟩ = some (.int .i64 0) ∧ y.cell? ⟨pa, 6, none⟩ = some (.int .i64 0) ∧ y.cell? ⟨pa, 7, none⟩ = some (.int .i64 0) ∧ y.cell? ⟨pa, 8, none⟩ = some (.int .i64 0) ∧ y.cell? ⟨pa, 9, none⟩ = some (.int .i64 0) ∧ y.cell? ⟨pa, 10, none⟩ = some (.int .i64 0) ∧ y.cell? ⟨pa, 11, none⟩ = some (.int .i64 0)) ∧ (y.cell? ⟨pb, 0, none⟩ = some (.int .i64 1) ∧ y.cell? ⟨pb, 1, none⟩ = some (.int .i64 k) ∧ y.cell? ⟨pb, 2, none⟩ = some (.int .i64 Y) ∧ y.cell? ⟨pb, 3, none⟩ = some (.int .i64 2048) ∧ y.cell? ⟨pb, 4, none⟩ = some (.int .i64 0) ∧ y.cell? ⟨pb, 5, none⟩ = some (.int .i64 0) ∧ y.cell? ⟨pb, 6, none⟩ = some (.int .i64 0) ∧ y.cell? ⟨pb, 7, none⟩ = some (.int .i64 0) ∧ y.cell? ⟨pb, 8, none⟩ = some (.int .i64 0) ∧ y.cell? ⟨pb, 9, none⟩ = some (.int .i64 0) ∧ y.cell? ⟨pb, 10, none⟩ = some (.int .i64 0) ∧ y.cell? ⟨pb, 11, none⟩ = some (.int .i64 0))) := fun y hT => by
            have o := (only_drew W4).trans hT
            exact ⟨(H4.out.2.1.only o (by simp)).all, (H4.out.1.only o (by simp)).all⟩
          have yx : ¬ X ≤ Y := by omega
          refine wp_region_by (Only []) (Only.refl []) Only.trans [(5, .pointer (some ⟨pa, 0, none⟩)), (7, .pointer (some ⟨pb, 0, none⟩))] (by intro p hp; simp only [List.mem_cons, List.not_mem_nil, or_false] at hp; rcases hp with rfl | rfl <;> rfl) (by kernel_rfl) (by kernel_rfl) (fun _ => True) trivial ?_
          repeat (
            apply rb_val
            · first | rfl | exact ⟨by kernel_rfl, rfl⟩
            · intro a y hT hf
              obtain ⟨fa, fb⟩ := FA.out y hT
              obtain ⟨c0, c1, c2, c3, c4, c5, c6, c7, c8, c9, c10, c11⟩ := fa
              obtain ⟨d0, d1, d2, d3, d4, d5, d6, d7, d8, d9, d10, d11⟩ := fb
              simp at hf
              go_simp
              try rfl)
          refine rb_call (fun _ v => v = .bool false) (fun _ => True) (by first | rfl | exact ⟨by kernel_rfl, rfl⟩) (by kernel_rfl) (fun _ _ _ _ h => h) (fun a y _ hT hf => ?_) ?_
          · simp at hf
            go_simp
            refine (hit_any (plr i X) (plr k Y) _).mono ?_
            rintro e y2 ⟨rfl, o⟩
            rw [hit_no]
            exact ⟨_, rfl, rfl, o⟩
          repeat (
            apply rb_val
            · first | rfl | exact ⟨by kernel_rfl, rfl⟩
            · intro a y hT hf
              obtain ⟨fa, fb⟩ := FA.out y hT
              obtain ⟨c0, c1, c2, c3, c4, c5, c6, c7, c8, c9, c10, c11⟩ := fa
              obtain ⟨d0, d1, d2, d3, d4, d5, d6, d7, d8, d9, d10, d11⟩ := fb
              simp at hf
              go_simp
              try rfl)
          refine rb_call (fun _ v => v = Bd.v ⟨2, k, Y, 2048, 0, 0, 0, 0, 0, 0, 0, 0⟩) (fun _ => True) (by first | rfl | exact ⟨by kernel_rfl, rfl⟩) (by kernel_rfl) (fun _ _ _ _ h => h) (fun a y _ hT hf => ?_) ?_
          · simp at hf
            go_simp
            refine (shoot_any (plr k Y) 0 0 _).mono ?_
            rintro e y2 ⟨rfl, o⟩
            rw [shoot_plr _ _ SK.out]
            exact ⟨_, rfl, rfl, o⟩
          refine rb_call (fun _ v => v = .bool false) (fun _ => True) (by first | rfl | exact ⟨by kernel_rfl, rfl⟩) (by kernel_rfl) (fun _ _ _ _ h => h) (fun a y _ hT hf => ?_) ?_
          · simp at hf
            go_simp
            refine (hit_any (plr i X) ⟨2, k, Y, 2048, 0, 0, 0, 0, 0, 0, 0, 0⟩ _).mono ?_
            rintro e y2 ⟨rfl, o⟩
            rw [hit_far _ _ _ _ ap]
            exact ⟨_, rfl, rfl, o⟩
          repeat (
            apply rb_val
            · first | rfl | exact ⟨by kernel_rfl, rfl⟩
            · intro a y hT hf
              obtain ⟨fa, fb⟩ := FA.out y hT
              obtain ⟨c0, c1, c2, c3, c4, c5, c6, c7, c8, c9, c10, c11⟩ := fa
              obtain ⟨d0, d1, d2, d3, d4, d5, d6, d7, d8, d9, d10, d11⟩ := fb
              simp at hf
              go_simp
              try rfl)
          intro y _ hy
          have HY : Hid (Bl y pa (plr i X) ∧ Only [] w y) := ⟨H4.out.2.1.only ((only_drew W4).trans hy) (by simp), H4.out.2.2.trans ((only_drew W4).trans hy)⟩
          clear hy H4 FA
          simp only [FinA, Sp.R, forall_eq]
          simp only [Act.put, List.setIfInBounds_toArray, List.set_cons_succ, List.set_cons_zero]
          go_wp2_with fail
          go_roundg (9 - (k + 1))
          case measure => omega
          case rel => exact ⟨k + 1, by go_num, by omega, by omega, HY.out⟩
        · have z2 : ¬ (k : Int) < (i : Int) := by omega
          go_wp2_with fail
          go_roundg (9 - (i + 1))
          case measure => omega
          case rel => exact ⟨i + 1, by go_num, by omega, by omega, HK.out.2⟩
    · have z1 : ¬ (i : Int) < (N : Int) := by omega
      go_wp2_with fail
      go_ret
      exact ⟨rfl, HR.out.below (Nat.le_refl _) (by simp)⟩
set_option maxRecDepth 100000 in
theorem lifted (os : Os) (started : os.Started) (H : Type) (enc : TypeId × Value → H) :
    ReturnsInHanded {} Try.checked os 5 .any (Rows.bodyBornSpec.pre6 enc Try.prog Try.f5 Rows.bodyBornRow.domain false) (Rows.bodyBornSpec.post enc Try.prog Try.f5 false true false false) := by
  refine returnsInHanded_of_change (C := Try.checked) own started (by kernel_rfl) Try.func5
    (ChangeSpec.witness6 (enc := enc) (C := Try.checked) false ⟨#[], #[.int .i64 0], []⟩ 8 (by kernel_rfl) (by kernel_rfl) (by kernel_rfl) (by kernel_rfl)) ?_
  intro W base args ds gs before hval0 hW hcnd _
  have hval : ∀ (j : Nat) t v, Try.f5.params[j]? = some t → args[j]? = some v → Value.okWide Try.prog W .any base t v := hval0
  have hW' := hW
  obtain ⟨p, q, hA0, hV, rfl, hfz, hnd⟩ := hW
  have hA : DataW.TrodAll enc Try.prog W 0 (fun _ => true) true Try.f5.params.toList args.toList ds p := hA0
  rw [Try.params5] at hA hval
  obtain ⟨v0, vs0, d0, ds0, p0, q0, hargs, rfl, rfl, h0, r0⟩ := trodAll_cons hA
  obtain ⟨rfl, rfl, rfl⟩ := trodAll_nil r0
  obtain rfl : args = #[v0] := by cases args; simp_all
  obtain ⟨rfl, rfl⟩ := trodVars_none hV
  obtain ⟨a0, rfl, rfl, rfl, w0⟩ := open_int Try.underlying3 (hval 0 3 v0 rfl rfl) h0
  clear hA0 hval0
  refine (walk a0 W w0).mono fun e W' ⟨he, bel⟩ => ?_
  subst he
  exact ⟨_, rfl, _, _, _, [], _, [], hW', trodAll_mk1 (shut_bool Try.underlying4 _), (trodAll_cons_mk (shut_int Try.underlying3 w0) trodAll_mk0), rfl, bel.frame _, fun h => by cases h⟩

theorem over : Rows.bodyBornRow.holds Try.pinned (OpenSpec.ofChange Rows.bodyBornSpec) :=
  OpenClaim.holds_of_wide 5 Try.f5 rfl rfl rfl rfl rfl rfl rfl ⟨rfl, rfl, rfl, rfl, rfl⟩ rfl rfl rfl rfl rfl (by kernel_rfl) Try.func5 (by kernel_rfl)
    (of_decide_eq_true (by kernel_rfl)) (by unfold Func.isWrapper; first | (rw [if_pos (by decide +kernel)]; kernel_rfl) | (rw [if_neg (by decide +kernel)]; exact ⟨rfl, rfl⟩))
    (fun os started H enc _ => lifted os started H enc)

/-- THE STATEMENT -/
theorem proved : Rows.BodyBornSaid := over
end Go.Proofs.Ytpbckiijmoellaa.bodyBorn

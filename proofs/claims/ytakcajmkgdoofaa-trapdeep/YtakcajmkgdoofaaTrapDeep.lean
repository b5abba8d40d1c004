/- Proved: TrapDeep returns true for every input. No condition. -/
import Derived.Test.YtakcajmkgdoofaaTrapDeepW
import Derived.Laws.EntriesVeiled
namespace Go.Proofs.Ytakcajmkgdoofaa.trapDeep
open Go.ChangeShapes Go.WideShapes Go.ChangeAt Go.RowKit
set_option linter.unusedVariables false

set_option maxHeartbeats 2000000 in
theorem walk (a0 : Int) (a1 : Int) (a2 : Int) (w : World) (w0 : (Lit.int .i64 a0).wf = true) (w1 : (Lit.int .i64 a1).wf = true) (w2 : (Lit.int .i64 a2).wf = true) :
    Calls Try.prog 7 #[.int .i64 a0, .int .i64 a1, .int .i64 a2] w fun e w' => e = .returned (.bool true) ∧ Below w.heap.size w w' := by
  have hmf : ∀ (fn : Fn) (first cap : Array Value) (w : World), (Instr.makeFunc fn first cap).run Try.prog w = .ok (.func fn first cap) w := fun _ _ _ _ => rfl
  have hnot : ∀ (x : Bool) (w : World), (Op.unary .not (.bool x)).run Try.prog w = .ok (.bool (!x)) w := fun _ _ => rfl
  clear w0 w1 w2
  obtain ⟨v, ev⟩ : ∃ v, v = ((w.alloc (.cells #[.int .i64 a0] 3)).alloc (.cells #[.int .i64 a1] 3)).alloc (.cells #[.int .i64 a2] 3) := ⟨_, rfl⟩
  have o1 : Only [] w v := ev ▸ (((Only.refl _ w).alloc _).alloc _).alloc _
  have x0 : Var v w.heap.size (.int .i64 a0) := ev ▸ ((Var.new w _ _).alloc _).alloc _
  have x1 : Var v (w.heap.size + 1) (.int .i64 a1) := ev ▸ (by have := Var.new (w.alloc (.cells #[.int .i64 a0] 3)) (.int .i64 a1) 3; simp at this; exact this.alloc _)
  have x2 : Var v (w.heap.size + 1 + 1) (.int .i64 a2) := ev ▸ (by have := Var.new ((w.alloc (.cells #[.int .i64 a0] 3)).alloc (.cells #[.int .i64 a1] 3)) (.int .i64 a2) 3; simp at this; exact this)
  have EV : Hid _ := ev
  clear ev
  go_enter Try.func7, Try.ntmps7
  go_wp2_with fail
  rw [← EV.out]
  clear EV
  refine (known_any v).mono ?_
  rintro e v1 ⟨rfl, o2⟩
  have y0 := x0.only o2 (by simp)
  have y1 := x1.only o2 (by simp)
  have y2 := x2.only o2 (by simp)
  have o3 := o1.trans o2
  clear x0 x1 x2 o1 o2
  obtain ⟨n, hn⟩ : ∃ n, n = 1 + a0 % 15 := ⟨_, rfl⟩
  obtain ⟨a, ha⟩ : ∃ a, a = a1 % n := ⟨_, rfl⟩
  have n1 : 1 ≤ n ∧ n ≤ 15 := by omega
  obtain ⟨n1, n2⟩ := n1
  have m1 := Int.emod_nonneg a1 (show n ≠ 0 by omega)
  have m2 := Int.emod_lt_of_pos a1 (show 0 < n by omega)
  rw [← ha] at m1 m2
  have q0 := y0.cell
  have q1 := y1.cell
  have q2 := y0.frozen
  have z0 := y0.set (.int .i64 n)
  have z1 := y1.other (p := ⟨w.heap.size, 0, none⟩) (by simp) (.int .i64 n)
  have z2 := y2.other (p := ⟨w.heap.size, 0, none⟩) (by simp; omega) (.int .i64 n)
  have r0 := z0.cell
  have r1 := z1.cell
  have r2 := z1.frozen
  have HN : Hid _ := hn
  have HA : Hid _ := ha
  clear hn ha
  go_wp2_with fail
  refine (pick_any _ _ (by omega) (by omega) _).mono ?_
  rintro e w' ⟨rfl, rfl⟩
  have b1 : a0 % 15 + 1 ≤ 15 := by omega
  have b2 : 0 ≤ a0 % 15 := by omega
  go_wp2_with fail
  simp only [← HN.out]
  clear HN b1 b2
  refine (pick_any _ _ (by omega) (by omega) _).mono ?_
  rintro e w' ⟨rfl, rfl⟩
  rw [← HA.out]
  clear HA
  have t0 := z0.other (p := ⟨w.heap.size + 1, 0, none⟩) (by simp) (.int .i64 a)
  have t1 := z1.set (.int .i64 a)
  have t2 := z2.other (p := ⟨w.heap.size + 1, 0, none⟩) (by simp) (.int .i64 a)
  have o4 : Only [] w ((v1.setCell ⟨w.heap.size, 0, none⟩ (.int .i64 n)).setCell ⟨w.heap.size + 1, 0, none⟩ (.int .i64 a)) := (o3.setCell (by simp) _).setCell (by simp) _
  have s2 : ((v1.setCell ⟨w.heap.size, 0, none⟩ (.int .i64 n)).setCell ⟨w.heap.size + 1, 0, none⟩ (.int .i64 a)).heap.size = v1.heap.size := by simp [World.setCell]
  have S2 : Hid _ := s2
  clear y0 y1 y2 q0 q1 q2 o3 s2
  go_wp2_with fail
  clear z0 z1 z2 r0 r1 r2
  have s2 := S2.out
  clear S2
  generalize ((v1.setCell ⟨w.heap.size, 0, none⟩ (.int .i64 n)).setCell ⟨w.heap.size + 1, 0, none⟩ (.int .i64 a)) = v2 at *
  generalize v1.heap.size = M at *
  have tl := t2.lt
  refine (spec_all n a a2 w.heap.size (M + 1 + 1) (w.heap.size + 1) (w.heap.size + 1 + 1) (M + 1) M n2 m1 m2 ⟨by omega⟩ (n - 1).toNat 0 (by omega) (by omega) 0 0 _ (by omega) (by omega) (by omega) (by omega)
    ⟨((t0.alloc _).alloc _).alloc _, Var.newAt (by simp; omega) _ _, ((t1.alloc _).alloc _).alloc _, ((t2.alloc _).alloc _).alloc _⟩ ((Var.newAt (by simp; omega) _ _).alloc _) (((Var.newAt s2 _ _).alloc _).alloc _)).mono ?_
  have o5 := fun x y z => (((o4.alloc x).alloc y).alloc z)
  have u0 := fun x y z => (((t0.alloc x).alloc y).alloc z)
  rintro e v3 ⟨rfl, o6, ve, vt⟩
  have u0 := (u0 _ _ _).only o6 (by simp; omega)
  have o7 := (o5 _ _ _).then o6 (by simp; omega)
  clear o5 o6 t0 t1 t2 o4
  simp only [goes, tells, if_pos m1] at ve vt
  have c0 := u0.cell
  have c1 := ve.cell
  have c2 := vt.cell
  have h1 : (0 : Int) + (n - 0 - 1) = n - 1 := by omega
  rw [h1] at c1
  simp only [Int.zero_add] at c2
  clear h1 u0 ve vt
  go_wp2_with fail
  go_ret
  exact ⟨rfl, o7.below (Nat.le_refl _) (by simp)⟩
set_option maxRecDepth 100000 in
theorem lifted (os : Os) (started : os.Started) (H : Type) (enc : TypeId × Value → H) :
    ReturnsInHanded {} Try.checked os 7 .any (Rows.trapDeepSpec.pre6 enc Try.prog Try.f7 Rows.trapDeepRow.domain false) (Rows.trapDeepSpec.post enc Try.prog Try.f7 false true false false) := by
  refine returnsInHanded_of_change (C := Try.checked) own started (by kernel_rfl) Try.func7
    (ChangeSpec.witness6 (enc := enc) (C := Try.checked) false ⟨#[], #[.int .i64 0, .int .i64 0, .int .i64 0], []⟩ 8 (by kernel_rfl) (by kernel_rfl) (by kernel_rfl) (by kernel_rfl)) ?_
  intro W base args ds gs before hval0 hW hcnd _
  have hval : ∀ (j : Nat) t v, Try.f7.params[j]? = some t → args[j]? = some v → Value.okWide Try.prog W .any base t v := hval0
  have hW' := hW
  obtain ⟨p, q, hA0, hV, rfl, hfz, hnd⟩ := hW
  have hA : DataW.TrodAll enc Try.prog W 0 (fun _ => true) true Try.f7.params.toList args.toList ds p := hA0
  rw [Try.params7] at hA hval
  obtain ⟨v0, vs0, d0, ds0, p0, q0, hargs, rfl, rfl, h0, r0⟩ := trodAll_cons hA
  obtain ⟨v1, vs1, d1, ds1, p1, q1, rfl, rfl, rfl, h1, r1⟩ := trodAll_cons r0
  obtain ⟨v2, vs2, d2, ds2, p2, q2, rfl, rfl, rfl, h2, r2⟩ := trodAll_cons r1
  obtain ⟨rfl, rfl, rfl⟩ := trodAll_nil r2
  obtain rfl : args = #[v0, v1, v2] := by cases args; simp_all
  obtain ⟨rfl, rfl⟩ := trodVars_none hV
  obtain ⟨a0, rfl, rfl, rfl, w0⟩ := open_int Try.underlying3 (hval 0 3 v0 rfl rfl) h0
  obtain ⟨a1, rfl, rfl, rfl, w1⟩ := open_int Try.underlying3 (hval 1 3 v1 rfl rfl) h1
  obtain ⟨a2, rfl, rfl, rfl, w2⟩ := open_int Try.underlying3 (hval 2 3 v2 rfl rfl) h2
  clear hA0 hval0
  refine (walk a0 a1 a2 W w0 w1 w2).mono fun e W' ⟨he, bel⟩ => ?_
  subst he
  exact ⟨_, rfl, _, _, _, [], _, [], hW', trodAll_mk1 (shut_bool Try.underlying4 _), (trodAll_cons_mk (shut_int Try.underlying3 w0) (trodAll_cons_mk (shut_int Try.underlying3 w1) (trodAll_cons_mk (shut_int Try.underlying3 w2) trodAll_mk0))), rfl, bel.frame _, fun h => by cases h⟩

theorem over : Rows.trapDeepRow.holds Try.pinned (OpenSpec.ofChange Rows.trapDeepSpec) :=
  OpenClaim.holds_of_wide 7 Try.f7 rfl rfl rfl rfl rfl rfl rfl ⟨rfl, rfl, rfl, rfl, rfl⟩ rfl rfl rfl rfl rfl (by kernel_rfl) Try.func7 (by kernel_rfl)
    (of_decide_eq_true (by kernel_rfl)) (by unfold Func.isWrapper; first | (rw [if_pos (by decide +kernel)]; kernel_rfl) | (rw [if_neg (by decide +kernel)]; exact ⟨rfl, rfl⟩))
    (fun os started H enc _ => lifted os started H enc)

/-- THE STATEMENT -/
theorem proved : Rows.TrapDeepSaid := over
end Go.Proofs.Ytakcajmkgdoofaa.trapDeep

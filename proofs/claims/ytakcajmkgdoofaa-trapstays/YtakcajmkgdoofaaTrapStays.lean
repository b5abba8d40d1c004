/- Proved: TrapStays returns true for every input. No condition. -/
import Derived.Test.YtakcajmkgdoofaaTrapStaysW
namespace Go.Proofs.Ytakcajmkgdoofaa.trapStays
open Go.ChangeShapes Go.WideShapes Go.ChangeAt Go.RowKit
set_option linter.unusedVariables false

set_option maxHeartbeats 2000000 in
theorem walk (a0 : Int) (a1 : Int) (a2 : ByteArray) (w : World) (w0 : (Lit.int .i64 a0).wf = true) (w1 : (Lit.int .i64 a1).wf = true) (w2 : a2.size ≤ maxLen) :
    Calls Try.prog 5 #[.int .i64 a0, .int .i64 a1, .string a2] w fun e w' => e = .returned (.bool true) ∧ Below w.heap.size w w' := by
  have hmf : ∀ (fn : Fn) (first cap : Array Value) (w : World), (Instr.makeFunc fn first cap).run Try.prog w = .ok (.func fn first cap) w := fun _ _ _ _ => rfl
  have hnot : ∀ (x : Bool) (w : World), (Op.unary .not (.bool x)).run Try.prog w = .ok (.bool (!x)) w := fun _ _ => rfl
  clear w0 w1 w2
  obtain ⟨v, ev⟩ : ∃ v, v = ((w.alloc (.cells #[.int .i64 a0] 3)).alloc (.cells #[.int .i64 a1] 3)).alloc (.cells #[.string a2] 9) := ⟨_, rfl⟩
  have o1 : Only [] w v := ev ▸ (((Only.refl _ w).alloc _).alloc _).alloc _
  have x0 : Var v w.heap.size (.int .i64 a0) := ev ▸ ((Var.new w _ _).alloc _).alloc _
  have x1 : Var v (w.heap.size + 1) (.int .i64 a1) := ev ▸ (Var.newAt (by simp) _ _).alloc _
  have x2 : Var v (w.heap.size + 1 + 1) (.string a2) := ev ▸ Var.newAt (by simp) _ _
  have EV : Hid _ := ev
  clear ev
  go_enter Try.func5, Try.ntmps5
  go_wp2_with fail
  rw [← EV.out]
  clear EV
  refine (known_any v).mono ?_
  rintro e v1 ⟨rfl, o2⟩
  have y0 := x0.only o2 (by simp)
  have y1 := x1.only o2 (by simp)
  have y2 := x2.only o2 (by simp)
  have o3 := o1.trans o2
  clear x0 x1 x2 o1 o2
  obtain ⟨n, hn⟩ : ∃ n, n = a0 % 12 := ⟨_, rfl⟩
  obtain ⟨m, hm⟩ : ∃ m, m = a1 % 12 := ⟨_, rfl⟩
  have n1 : 0 ≤ n ∧ n < 12 := by omega
  have m1 : 0 ≤ m ∧ m < 12 := by omega
  have q0 := y0.cell
  have q2 := y0.frozen
  have z0 := y0.set (.int .i64 n)
  have z1 := y1.other (p := ⟨w.heap.size, 0, none⟩) (by simp) (.int .i64 n)
  have z2 := y2.other (p := ⟨w.heap.size, 0, none⟩) (by simp; omega) (.int .i64 n)
  have r1 := z1.cell
  have r2 := z1.frozen
  have HN : Hid _ := hn
  have HM : Hid _ := hm
  clear hn hm
  go_wp2_with fail
  refine (pick_any _ _ (by omega) (by omega) _).mono ?_
  rintro e w' ⟨rfl, rfl⟩
  rw [← HN.out]
  clear HN
  go_wp2_with fail
  refine (pick_any _ _ (by omega) (by omega) _).mono ?_
  rintro e w' ⟨rfl, rfl⟩
  rw [← HM.out]
  clear HM
  have t0 := z0.other (p := ⟨w.heap.size + 1, 0, none⟩) (by simp) (.int .i64 m)
  have t1 := z1.set (.int .i64 m)
  have t2 := z2.other (p := ⟨w.heap.size + 1, 0, none⟩) (by simp) (.int .i64 m)
  have o4 : Only [] w ((v1.setCell ⟨w.heap.size, 0, none⟩ (.int .i64 n)).setCell ⟨w.heap.size + 1, 0, none⟩ (.int .i64 m)) := (o3.setCell (by simp) _).setCell (by simp) _
  have S2 : Hid (((v1.setCell ⟨w.heap.size, 0, none⟩ (.int .i64 n)).setCell ⟨w.heap.size + 1, 0, none⟩ (.int .i64 m)).heap.size = v1.heap.size) := by show _ = _; simp [World.setCell]
  clear y0 y1 y2 q0 q2 o3
  go_wp2_with fail
  clear z0 z1 z2 r1 r2
  have s2 := S2.out
  clear S2
  generalize ((v1.setCell ⟨w.heap.size, 0, none⟩ (.int .i64 n)).setCell ⟨w.heap.size + 1, 0, none⟩ (.int .i64 m)) = v2 at *
  generalize v1.heap.size = M at *
  have tl := t2.lt
  rw [s2] at tl
  obtain ⟨v3, e3⟩ : ∃ v3, v3 = v2.alloc (.cells #[.int .i64 0] 3) := ⟨_, rfl⟩
  have p0 : Var v3 w.heap.size (.int .i64 n) := e3 ▸ t0.alloc _
  have p1 : Var v3 (w.heap.size + 1) (.int .i64 m) := e3 ▸ t1.alloc _
  have p2 : Var v3 (w.heap.size + 1 + 1) (.string a2) := e3 ▸ t2.alloc _
  have p3 : Var v3 M (.int .i64 0) := e3 ▸ Var.newAt s2 _ _
  have o5 : Only [] w v3 := e3 ▸ o4.alloc _
  have s3 : v3.heap.size = M + 1 := by rw [e3]; simp [s2]
  rw [← e3]
  clear e3 t0 t1 t2 o4 s2
  refine catch_any 25 _ [M] _ (by simp; omega) (by simp; omega) (by simp [go_sem]) ?_
  have i3 := inCatch_only v3
  refine (musts_any n m w.heap.size (w.heap.size + 1) M n1 (by omega) (by omega) _ (p0.only i3 (by simp)) (p1.only i3 (by simp)) (p3.only i3 (by simp))).mono ?_
  rintro e v4 ⟨rfl, o6, g3⟩
  refine ⟨o6, _, .thrown n m [] (by simp), fun v5 o7 => ?_⟩
  have f0 := ((p0.only i3 (by simp)).only o6 (by simp; omega)).only o7 (by simp; omega)
  have f1 := ((p1.only i3 (by simp)).only o6 (by simp; omega)).only o7 (by simp; omega)
  have f2 := ((p2.only i3 (by simp)).only o6 (by simp; omega)).only o7 (by simp; omega)
  have f3 := g3.only o7 (by simp; omega)
  have o8 : Only [] w v5 := ((o5.trans i3).then o6 (by simp; omega)).then o7 (by simp; omega)
  clear p0 p1 p2 p3 o5 s3 i3 o6 g3 o7
  have c0 := fun o => (f0.alloc o).cell
  have c1 := fun o => (f1.alloc o).cell
  have c2 := fun o => (f2.alloc o).cell
  have c3 := fun o => (f3.alloc o).cell
  cases ht : a2.toList.isEmpty
  · go_wp2_with fail
    obtain ⟨v6, e6⟩ : ∃ v6, v6 = (v5.alloc (.cells #[.int .i64 n, .int .i64 m] 24)).alloc (.cells #[.int .i64 0] 3) := ⟨_, rfl⟩
    have g1 : Var v6 (w.heap.size + 1) (.int .i64 m) := e6 ▸ (f1.alloc _).alloc _
    have g2 : Var v6 (w.heap.size + 1 + 1) (.string a2) := e6 ▸ (f2.alloc _).alloc _
    have g3 : Var v6 (v5.heap.size + 1) (.int .i64 0) := e6 ▸ Var.newAt (by simp) _ _
    have o9 : Only [] w v6 := e6 ▸ (o8.alloc _).alloc _
    have s6 : v6.heap.size = v5.heap.size + 2 := by rw [e6]; simp
    have l5 := f2.lt
    rw [← e6]
    clear e6 f0 f1 f2 f3 c0 c1 c2 c3 o8
    generalize v5.heap.size = K at *
    refine other_any 26 _ [K + 1] _ (by simp; omega) (by simp [go_sem]) ?_
    have i6 := inOther_only v6
    refine (two_any (w.heap.size + 1) (K + 1) (w.heap.size + 1 + 1) m a2 (by omega) (by omega) _ (g1.only i6 (by simp)) (g3.only i6 (by simp)) (g2.only i6 (by simp))).mono ?_
    rintro e v7 ⟨⟨old, ho, rfl⟩, o10, h3⟩
    refine ⟨o10, _, old, ho, rfl, fun v8 o11 => ?_⟩
    have c2 := (((g2.only i6 (by simp)).only o10 (by simp; omega)).only o11 (by simp; omega)).cell
    have c3 := (h3.only o11 (by simp; omega)).cell
    have o12 : Only [] w v8 := ((o9.trans i6).then o10 (by simp; omega)).then o11 (by simp; omega)
    clear g1 g2 g3 o9 o10 o11 h3 ho i6
    go_wp2_with fail
    go_ret
    exact ⟨rfl, o12.below (Nat.le_refl _) (by simp)⟩
  · go_wp2_with fail
    go_ret
    exact ⟨rfl, (o8.alloc _).below (Nat.le_refl _) (by simp)⟩
set_option maxRecDepth 100000 in
theorem lifted (os : Os) (started : os.Started) (H : Type) (enc : TypeId × Value → H) :
    ReturnsInHanded {} Try.checked os 5 .any (Rows.trapStaysSpec.pre6 enc Try.prog Try.f5 Rows.trapStaysRow.domain false) (Rows.trapStaysSpec.post enc Try.prog Try.f5 false true false false) := by
  refine returnsInHanded_of_change (C := Try.checked) own started (by kernel_rfl) Try.func5
    (ChangeSpec.witness6 (enc := enc) (C := Try.checked) false ⟨#[], #[.int .i64 0, .int .i64 0, .string ⟨#[]⟩], []⟩ 8 (by kernel_rfl) (by kernel_rfl) (by kernel_rfl) (by kernel_rfl)) ?_
  intro W base args ds gs before hval0 hW hcnd _
  have hval : ∀ (j : Nat) t v, Try.f5.params[j]? = some t → args[j]? = some v → Value.okWide Try.prog W .any base t v := hval0
  have hW' := hW
  obtain ⟨p, q, hA0, hV, rfl, hfz, hnd⟩ := hW
  have hA : DataW.TrodAll enc Try.prog W 0 (fun _ => true) true Try.f5.params.toList args.toList ds p := hA0
  rw [Try.params5] at hA hval
  obtain ⟨v0, vs0, d0, ds0, p0, q0, hargs, rfl, rfl, h0, r0⟩ := trodAll_cons hA
  obtain ⟨v1, vs1, d1, ds1, p1, q1, rfl, rfl, rfl, h1, r1⟩ := trodAll_cons r0
  obtain ⟨v2, vs2, d2, ds2, p2, q2, rfl, rfl, rfl, h2, r2⟩ := trodAll_cons r1
  obtain ⟨rfl, rfl, rfl⟩ := trodAll_nil r2
  obtain rfl : args = #[v0, v1, v2] := by cases args; simp_all
  obtain ⟨rfl, rfl⟩ := trodVars_none hV
  obtain ⟨a0, rfl, rfl, rfl, w0⟩ := open_int Try.underlying3 (hval 0 3 v0 rfl rfl) h0
  obtain ⟨a1, rfl, rfl, rfl, w1⟩ := open_int Try.underlying3 (hval 1 3 v1 rfl rfl) h1
  obtain ⟨a2, rfl, rfl, rfl, w2⟩ := Go.ChangeMaps.open_string Try.underlying9 (hval 2 9 v2 rfl rfl) h2
  clear hA0 hval0
  refine (walk a0 a1 a2 W w0 w1 w2).mono fun e W' ⟨he, bel⟩ => ?_
  subst he
  exact ⟨_, rfl, _, _, _, [], _, [], hW', trodAll_mk1 (shut_bool Try.underlying4 _), (trodAll_cons_mk (shut_int Try.underlying3 w0) (trodAll_cons_mk (shut_int Try.underlying3 w1) (trodAll_cons_mk (Go.ChangeMaps.shut_string Try.underlying9 w2) trodAll_mk0))), rfl, bel.frame _, fun h => by cases h⟩

theorem over : Rows.trapStaysRow.holds Try.pinned (OpenSpec.ofChange Rows.trapStaysSpec) :=
  OpenClaim.holds_of_wide 5 Try.f5 rfl rfl rfl rfl rfl rfl rfl ⟨rfl, rfl, rfl, rfl, rfl⟩ rfl rfl rfl rfl rfl (by kernel_rfl) Try.func5 (by kernel_rfl)
    (of_decide_eq_true (by kernel_rfl)) (by unfold Func.isWrapper; first | (rw [if_pos (by decide +kernel)]; kernel_rfl) | (rw [if_neg (by decide +kernel)]; exact ⟨rfl, rfl⟩))
    (fun os started H enc _ => lifted os started H enc)

/-- THE STATEMENT -/
theorem proved : Rows.TrapStaysSaid := over
end Go.Proofs.Ytakcajmkgdoofaa.trapStays

/- Proved: TrapKnown returns true. No condition. -/
import Derived.Test.YtakcajmkgdoofaaTrapK
import Derived.Test.YtakcajmkgdoofaaTrapO
import Derived.Test.YtakcajmkgdoofaaFrame
namespace Go.Proofs.Ytakcajmkgdoofaa.trapKnown
open Go.ChangeShapes Go.WideShapes Go.ChangeAt Go.RowKit
set_option linter.unusedVariables false

theorem clean1 (b : Nat) (x : Int) (hx : 0 ≤ x ∧ x ≤ 100) (u : FrameMode) (w : World) (hb : Var w b (.int .i64 x)) :
    CallsD Try.prog 11 #[.pointer (some ⟨b, 0, none⟩)] u w fun e u' w' => u' = u ∧ e = .returned (.tuple #[]) ∧ Only [b] w w' ∧ Var w' b (.int .i64 (x + 1)) := by
  obtain ⟨x1, x2⟩ := hx
  have c0 := hb.cell
  have z0 := hb.frozen
  go_enter_d Try.func11, Try.ntmps11
  go_wp2_with fail
  go_end0
  exact ⟨rfl, (Only.refl _ _).setCell (by simp) _, hb.set _⟩
theorem clean2 (b : Nat) (x : Int) (hx : 0 ≤ x ∧ x ≤ 100) (u : FrameMode) (w : World) (hb : Var w b (.int .i64 x)) :
    CallsD Try.prog 13 #[.pointer (some ⟨b, 0, none⟩)] u w fun e u' w' => u' = u ∧ e = .returned (.tuple #[]) ∧ Only [b] w w' ∧ Var w' b (.int .i64 (x + 1)) := by
  obtain ⟨x1, x2⟩ := hx
  have c0 := hb.cell
  have z0 := hb.frozen
  go_enter_d Try.func13, Try.ntmps13
  go_wp2_with fail
  go_end0
  exact ⟨rfl, (Only.refl _ _).setCell (by simp) _, hb.set _⟩

/-- the inner one -/
theorem inner_any (b q : Nat) (w : World) (hb : Var w b (.int .i64 0)) :
    Calls Try.prog 12 #[.pointer (some ⟨b, 0, none⟩), .pointer (some ⟨q, 0, none⟩)] w fun e w' =>
      e = .panicked [{ v := thrownV 3 4, recovered := false }] ∧ Only [b] w w' ∧ Var w' b (.int .i64 1) := by
  have hmf : ∀ (fn : Fn) (first cap : Array Value) (w : World), (Instr.makeFunc fn first cap).run Try.prog w = .ok (.func fn first cap) w := fun _ _ _ _ => rfl
  go_enter_defers Try.func12, Try.ntmps12
  go_wp2_with fail
  refine (must_ok _ _ _).mono ?_
  rintro e w' ⟨rfl, rfl⟩
  go_wp2_with fail
  refine (must_not _ _ _).mono ?_
  rintro e w' ⟨rfl, rfl⟩
  refine leaves_cons (f := 13) (args := #[.pointer (some ⟨b, 0, none⟩)]) (by simp) (by simp [go_sem]) ?_
  refine (clean2 b 0 (by omega) _ _ hb).mono ?_
  rintro e u' w3 ⟨rfl, rfl, o3, b3⟩
  exact ⟨rfl, o3, b3⟩

theorem outer_any (b q : Nat) (w : World) (hb : Var w b (.int .i64 0)) (hq : q < w.heap.size) (hn : q ≠ b) :
    Calls Try.prog 10 #[.pointer (some ⟨b, 0, none⟩), .pointer (some ⟨q, 0, none⟩)] w fun e w' =>
      e = .panicked [{ v := thrownV 4 7, recovered := false }] ∧ Only [b] w w' ∧ Var w' b (.int .i64 2) := by
  have hmf : ∀ (fn : Fn) (first cap : Array Value) (w : World), (Instr.makeFunc fn first cap).run Try.prog w = .ok (.func fn first cap) w := fun _ _ _ _ => rfl
  have hnot : ∀ (x : Bool) (w : World), (Op.unary .not (.bool x)).run Try.prog w = .ok (.bool (!x)) w := fun _ _ => rfl
  have hl := hb.lt
  go_enter_defers Try.func10, Try.ntmps10
  go_wp2_with fail
  refine catch_any 12 _ [b] _ (by simp; omega) (by simp; omega) (by simp [go_sem]) ?_
  refine (inner_any b q _ (hb.only (inCatch_only w) (by simp))).mono ?_
  rintro e w2 ⟨rfl, o2, b2⟩
  refine ⟨o2, _, .thrown 3 4 [] (by simp), ?_⟩
  intro w3 o3
  have b3 := b2.only o3 (by simp; omega)
  have o : Only [b] w w3 := (((inCatch_only w).weaken (by simp)).trans o2).then o3 (by simp; omega)
  clear o2 o3 b2
  go_wp2_with fail
  refine (throw_any _ _ _).mono ?_
  rintro e w' ⟨rfl, rfl⟩
  refine leaves_cons (f := 11) (args := #[.pointer (some ⟨b, 0, none⟩)]) (by simp) (by simp [go_sem]) ?_
  refine (clean1 b 1 (by omega) _ _ (b3.alloc _)).mono ?_
  rintro e u' w4 ⟨rfl, rfl, o4, b4⟩
  exact ⟨rfl, (o.alloc _).trans o4, b4⟩

theorem two1 (w : World) : Calls Try.prog 18 #[] w fun e w' => e = .panicked [{ v := .iface 9 (.string ⟨#[111, 116, 104, 101, 114]⟩), recovered := false }] ∧ w' = w := by
  go_enter Try.func18, Try.ntmps18
  go_wp2_with fail
  exact ⟨rfl, rfl, rfl⟩
theorem three1 (w : World) : Calls Try.prog 21 #[] w fun e w' => e = .panicked [{ v := .iface 9 (.string ⟨#[100, 101, 101, 112]⟩), recovered := false }] ∧ w' = w := by
  go_enter Try.func21, Try.ntmps21
  go_wp2_with fail
  exact ⟨rfl, rfl, rfl⟩
theorem two_any (w : World) : Calls Try.prog 17 #[] w fun e w' => ∃ old, (∀ x ∈ old, x.goexit = false) ∧ e = .panicked ({ v := .iface 9 (.string ⟨#[111, 116, 104, 101, 114]⟩), recovered := false } :: old) ∧ Only [] w w' := by
  go_enter Try.func17, Try.ntmps17
  go_wp2_with fail
  refine catch_any 18 _ [] _ (by simp) (by simp) (by simp [go_sem]) ?_
  refine (two1 _).mono ?_
  rintro e w2 ⟨rfl, rfl⟩
  refine ⟨Only.refl _ _, _, .other _ _ [] (by decide), fun w3 o3 => ?_⟩
  exact ⟨rfl, _, by simp, rfl, (inCatch_only w).then o3 (by simp)⟩
theorem three2 (w : World) : Calls Try.prog 20 #[] w fun e w' => ∃ old, (∀ x ∈ old, x.goexit = false) ∧ e = .panicked ({ v := .iface 9 (.string ⟨#[100, 101, 101, 112]⟩), recovered := false } :: old) ∧ Only [] w w' := by
  go_enter Try.func20, Try.ntmps20
  go_wp2_with fail
  refine catch_any 21 _ [] _ (by simp) (by simp) (by simp [go_sem]) ?_
  refine (three1 _).mono ?_
  rintro e w2 ⟨rfl, rfl⟩
  refine ⟨Only.refl _ _, _, .other _ _ [] (by decide), fun w3 o3 => ?_⟩
  exact ⟨rfl, _, by simp, rfl, (inCatch_only w).then o3 (by simp)⟩
theorem three_any (w : World) : Calls Try.prog 19 #[] w fun e w' => ∃ old, (∀ x ∈ old, x.goexit = false) ∧ e = .panicked ({ v := .iface 9 (.string ⟨#[100, 101, 101, 112]⟩), recovered := false } :: old) ∧ Only [] w w' := by
  go_enter Try.func19, Try.ntmps19
  go_wp2_with fail
  refine catch_any 20 _ [] _ (by simp) (by simp) (by simp [go_sem]) ?_
  refine (three2 _).mono ?_
  rintro e w2 ⟨old, ho, rfl, o2⟩
  refine ⟨o2, _, .other _ _ old (by decide), fun w3 o3 => ?_⟩
  exact ⟨rfl, _, by simpa using ho, rfl, ((inCatch_only w).trans o2).then o3 (by simp)⟩

set_option maxHeartbeats 2000000 in
theorem walk  (w : World)  :
    Calls Try.prog 3 #[] w fun e w' => e = .returned (.bool true) ∧ Below w.heap.size w w' := by
  have hmf : ∀ (fn : Fn) (first cap : Array Value) (w : World), (Instr.makeFunc fn first cap).run Try.prog w = .ok (.func fn first cap) w := fun _ _ _ _ => rfl
  have hnot : ∀ (x : Bool) (w : World), (Op.unary .not (.bool x)).run Try.prog w = .ok (.bool (!x)) w := fun _ _ => rfl
  go_enter Try.func3, Try.ntmps3
  go_wp2_with fail
  refine (known_any w).mono ?_
  rintro e w1 ⟨rfl, o1⟩
  have ow := o1.size
  go_wp2_with fail
  obtain ⟨w2, e2⟩ : ∃ w2, w2 = (w1.alloc (.cells #[.int .i64 0] 3)).alloc (.cells #[.int .i64 0] 3) := ⟨_, rfl⟩
  have b2 : Var w2 w1.heap.size (.int .i64 0) := e2 ▸ ((Var.new _ _ _).alloc _)
  have q2 : Var w2 (w1.heap.size + 1) (.int .i64 0) := e2 ▸ Var.newAt (by simp) _ _
  have o2 : Only [] w w2 := e2 ▸ (o1.alloc _).alloc _
  have s2 : w2.heap.size = w1.heap.size + 2 := by rw [e2]; simp
  rw [← e2]
  clear e2
  generalize w1.heap.size = N at *
  refine catch_any 10 _ [N + 1] _ (by simp; omega) (by simp; omega) (by simp [go_sem]) ?_
  refine (outer_any (N + 1) N _ (q2.only (inCatch_only w2) (by simp)) (by rw [inCatch_size]; omega) (by omega)).mono ?_
  rintro e w3 ⟨rfl, o3, q3⟩
  refine ⟨o3, _, .thrown 4 7 [] (by simp), fun w4 o4 => ?_⟩
  have b4 := ((b2.only (inCatch_only w2) (by simp)).only o3 (by simp)).only o4 (by simp; omega)
  have q4 := q3.only o4 (by simp; omega)
  have o4 : Only [] w w4 := ((o2.trans (inCatch_only w2)).then o3 (by simp; omega)).then o4 (by simp; omega)
  clear o3 q3 b2 q2 o2 s2
  go_wp2_with fail
  obtain ⟨w5, e5⟩ : ∃ w5, w5 = w4.alloc (.cells #[.int .i64 4, .int .i64 7] 24) := ⟨_, rfl⟩
  have b5 : Var w5 N (.int .i64 0) := e5 ▸ b4.alloc _
  have q5 : Var w5 (N + 1) (.int .i64 2) := e5 ▸ q4.alloc _
  have f5 : Two w5 w4.heap.size (.int .i64 4) (.int .i64 7) := e5 ▸ Two.new _ _ _ _
  have o5 : Only [] w w5 := e5 ▸ o4.alloc _
  rw [← e5]
  clear e5 b4 q4 o4
  generalize w4.heap.size = M at *
  refine (catch_nil _).mono ?_
  rintro e w6 ⟨rfl, o6⟩
  have b6 := b5.only o6 (by simp)
  have q6 := q5.only o6 (by simp)
  have f6 := f5.only o6 (by simp)
  have o6 := o5.trans o6
  clear b5 q5 f5 o5
  go_wp2_with fail
  obtain ⟨w7, e7⟩ : ∃ w7, w7 = w6.alloc (.cells #[.int .i64 0, .int .i64 0] 24) := ⟨_, rfl⟩
  have b7 : Var w7 N (.int .i64 0) := e7 ▸ b6.alloc _
  have q7 : Var w7 (N + 1) (.int .i64 2) := e7 ▸ q6.alloc _
  have f7 : Two w7 M (.int .i64 4) (.int .i64 7) := e7 ▸ f6.alloc _
  have g7 : Two w7 w6.heap.size (.int .i64 0) (.int .i64 0) := e7 ▸ Two.new _ _ _ _
  have o7 : Only [] w w7 := e7 ▸ o6.alloc _
  rw [← e7]
  clear e7 b6 q6 f6 o6
  generalize w6.heap.size = M2 at *
  refine other_any 17 _ [] _ (by simp) (by simp [go_sem]) ?_
  refine (two_any _).mono ?_
  rintro e w8 ⟨old, ho, rfl, o8⟩
  refine ⟨o8, _, old, ho, rfl, fun w9 o9 => ?_⟩
  have o79 : Only [] w7 w9 := ((inOther_only w7).trans o8).then o9 (by simp)
  have b9 := b7.only o79 (by simp)
  have q9 := q7.only o79 (by simp)
  have f9 := f7.only o79 (by simp)
  have g9 := g7.only o79 (by simp)
  have o9 := o7.trans o79
  clear b7 q7 f7 g7 o7 o79 o8 ho
  go_wp2_with fail
  refine other_any 19 _ [] _ (by simp) (by simp [go_sem]) ?_
  refine (three_any _).mono ?_
  rintro e w10 ⟨old, ho, rfl, o10⟩
  refine ⟨o10, _, old, ho, rfl, fun w11 o11 => ?_⟩
  have o79 : Only [] w9 w11 := ((inOther_only w9).trans o10).then o11 (by simp)
  have c0 := (b9.only o79 (by simp)).cell
  have c1 := (q9.only o79 (by simp)).cell
  have c2 := (f9.only o79 (by simp)).cell0
  have c3 := (f9.only o79 (by simp)).cell1
  have c4 := (g9.only o79 (by simp)).cell0
  have c5 := (g9.only o79 (by simp)).cell1
  have o11 := o9.trans o79
  clear b9 q9 f9 g9 o9 o79 o10 ho
  go_wp2_with fail
  refine (thrown_any _).mono ?_
  rintro e w12 ⟨rfl, o12⟩
  go_wp2_with fail
  go_ret
  exact ⟨rfl, (o11.trans o12).below (Nat.le_refl _) (by simp)⟩
set_option maxRecDepth 100000 in
theorem lifted (os : Os) (started : os.Started) (H : Type) (enc : TypeId × Value → H) :
    ReturnsInHanded {} Try.checked os 3 .any (Rows.trapKnownSpec.pre6 enc Try.prog Try.f3 Rows.trapKnownRow.domain false) (Rows.trapKnownSpec.post enc Try.prog Try.f3 false true false false) := by
  refine returnsInHanded_of_change (C := Try.checked) own started (by kernel_rfl) Try.func3
    (ChangeSpec.witness6 (enc := enc) (C := Try.checked) false ⟨#[], #[], []⟩ 8 (by kernel_rfl) (by kernel_rfl) (by kernel_rfl) (by kernel_rfl)) ?_
  intro W base args ds gs before hval0 hW hcnd _
  have hval : ∀ (j : Nat) t v, Try.f3.params[j]? = some t → args[j]? = some v → Value.okWide Try.prog W .any base t v := hval0
  have hW' := hW
  obtain ⟨p, q, hA0, hV, rfl, hfz, hnd⟩ := hW
  have hA : DataW.TrodAll enc Try.prog W 0 (fun _ => true) true Try.f3.params.toList args.toList ds p := hA0
  rw [Try.params3] at hA hval
  obtain ⟨rfl, rfl, rfl⟩ := trodAll_none hA
  obtain ⟨rfl, rfl⟩ := trodVars_none hV
  clear hA0 hval0
  refine (walk  W ).mono fun e W' ⟨he, bel⟩ => ?_
  subst he
  exact ⟨_, rfl, _, _, _, [], _, [], hW', trodAll_mk1 (shut_bool Try.underlying4 _), trodAll_mk0, rfl, bel.frame _, fun h => by cases h⟩

theorem over : Rows.trapKnownRow.holds Try.pinned (OpenSpec.ofChange Rows.trapKnownSpec) :=
  OpenClaim.holds_of_wide 3 Try.f3 rfl rfl rfl rfl rfl rfl rfl ⟨rfl, rfl, rfl, rfl, rfl⟩ rfl rfl rfl rfl rfl (by kernel_rfl) Try.func3 (by kernel_rfl)
    (of_decide_eq_true (by kernel_rfl)) (by unfold Func.isWrapper; first | (rw [if_pos (by decide +kernel)]; kernel_rfl) | (rw [if_neg (by decide +kernel)]; exact ⟨rfl, rfl⟩))
    (fun os started H enc _ => lifted os started H enc)

/-- THE STATEMENT -/
theorem proved : Rows.TrapKnownSaid := over
end Go.Proofs.Ytakcajmkgdoofaa.trapKnown

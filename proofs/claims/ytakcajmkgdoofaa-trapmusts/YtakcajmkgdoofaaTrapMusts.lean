/- Proved: TrapMusts returns true for every input. No condition. -/
import Derived.Test.YtakcajmkgdoofaaTrapMustsW
namespace Go.Proofs.Ytakcajmkgdoofaa.trapMusts
open Go.ChangeShapes Go.WideShapes Go.ChangeAt Go.RowKit
set_option linter.unusedVariables false

set_option maxHeartbeats 4000000 in
theorem walk_at (ao0 ao1 : Option Addr) (n0 c0 n1 c1 : Nat) (l : List Int) (ok : List Bool) (hl : l.length = n0) (ho : ok.length = n1) (m0 : n0 ≤ 9223372036854775807) (w : World)
    (hc0 : ∀ i, i < n0 → ∃ b o, ao0 = some ⟨b, o, none⟩ ∧ b < w.heap.size ∧ w.cell? ⟨b, o + i, none⟩ = some (.int .i64 (l.getD i 0)))
    (hc1 : ∀ i, i < n1 → ∃ b o, ao1 = some ⟨b, o, none⟩ ∧ b < w.heap.size ∧ w.cell? ⟨b, o + i, none⟩ = some (.bool (ok.getD i true))) :
    Calls Try.prog 6 #[.slice ao0 n0 c0, .slice ao1 n1 c1] w fun e w' => e = .returned (.bool true) ∧ Below w.heap.size w w' := by
  have hmf : ∀ (fn : Fn) (first cap : Array Value) (w : World), (Instr.makeFunc fn first cap).run Try.prog w = .ok (.func fn first cap) w := fun _ _ _ _ => rfl
  have hnot : ∀ (x : Bool) (w : World), (Op.unary .not (.bool x)).run Try.prog w = .ok (.bool (!x)) w := fun _ _ => rfl
  have H0 : Hid _ := hc0
  have H1 : Hid _ := hc1
  clear hc0 hc1
  obtain ⟨K, hK⟩ : ∃ K, K = min n0 30 := ⟨_, rfl⟩
  obtain ⟨f, hf, hb1, hb2⟩ := first_bad ok K
  have B1 : Hid _ := hb1
  have B2 : Hid _ := hb2
  have HK : Hid _ := hK
  have hK30 : K ≤ 30 := by omega
  clear hb1 hb2 hK
  obtain ⟨v, ev⟩ : ∃ v, v = (w.alloc (.cells #[.slice ao0 n0 c0] 42)).alloc (.cells #[.slice ao1 n1 c1] 43) := ⟨_, rfl⟩
  have o1 : Only [] w v := ev ▸ (((Only.refl _ w).alloc _).alloc _)
  have x0 : Var v w.heap.size (.slice ao0 n0 c0) := ev ▸ (Var.new w _ _).alloc _
  have x1 : Var v (w.heap.size + 1) (.slice ao1 n1 c1) := ev ▸ Var.newAt (by simp) _ _
  have EV : Hid _ := ev
  clear ev
  go_enter Try.func6, Try.ntmps6
  go_wp2_with fail
  rw [← EV.out]
  clear EV
  refine (known_any v).mono ?_
  rintro e v1 ⟨rfl, o2⟩
  have y0 := x0.only o2 (by simp)
  have y1 := x1.only o2 (by simp)
  have o3 := o1.trans o2
  have tl := y1.lt
  clear x0 x1 o1 o2
  go_wp2_with fail
  obtain ⟨v3, e3⟩ : ∃ v3, v3 = v1.alloc (.cells #[.int .i64 0] 3) := ⟨_, rfl⟩
  have p0 : Var v3 w.heap.size (.slice ao0 n0 c0) := e3 ▸ y0.alloc _
  have p1 : Var v3 (w.heap.size + 1) (.slice ao1 n1 c1) := e3 ▸ y1.alloc _
  have p3 : Var v3 v1.heap.size (.int .i64 0) := e3 ▸ Var.new _ _ _
  have o5 : Only [] w v3 := e3 ▸ o3.alloc _
  have s3 : v3.heap.size = v1.heap.size + 1 := by rw [e3]; simp
  rw [← e3]
  clear e3 y0 y1 o3
  generalize v1.heap.size = M at *
  refine catch_any 29 _ [M] _ (by simp; omega) (by simp; omega) (by simp [go_sem]) ?_
  have i3 := inCatch_only v3
  have o6 := o5.trans i3
  refine (musts_any w.heap.size (w.heap.size + 1) M ao0 ao1 n0 c0 n1 c1 l ok ho m0 (inCatch v3) (p0.only i3 (by simp)) (p1.only i3 (by simp)) (p3.only i3 (by simp)) (by omega) (by omega)
    (fun i hi => by obtain ⟨b, o, h1, h2, h3⟩ := H0.out i hi; exact ⟨b, o, h1, Nat.lt_of_lt_of_le h2 o6.size, by omega, (o6.cell h2 (by simp)).trans h3⟩)
    (fun i hi => by obtain ⟨b, o, h1, h2, h3⟩ := H1.out i hi; exact ⟨b, o, h1, Nat.lt_of_lt_of_le h2 o6.size, by omega, (o6.cell h2 (by simp)).trans h3⟩)
    K f HK.out hf B1.out B2.out).mono ?_
  rintro e v4 ⟨he, o7, g3⟩
  have keep : ∀ v5, Only [v3.heap.size, v3.heap.size + 1] v4 v5 → Hid (Var v5 w.heap.size (.slice ao0 n0 c0) ∧ Var v5 (w.heap.size + 1) (.slice ao1 n1 c1) ∧ Var v5 M (.int .i64 f) ∧ Only [] w v5) := fun v5 o8 =>
    ⟨((p0.only i3 (by simp)).only o7 (by simp; omega)).only o8 (by simp; omega), ((p1.only i3 (by simp)).only o7 (by simp; omega)).only o8 (by simp; omega), g3.only o8 (by simp; omega),
      (o6.then o7 (by simp; omega)).then o8 (by simp; omega)⟩
  refine ⟨o7, ?_⟩
  by_cases hfK : f < K
  · rw [endOf, if_pos hfK] at he
    subst he
    refine ⟨_, .thrown (l.getD f 0) f [] (by simp), fun v5 o8 => ?_⟩
    have HV := keep v5 o8
    clear keep o8 o7 g3 o6 i3 p0 p1 p3 o5 s3
    generalize hLf : l.getD f 0 = Lf
    have HL : Hid _ := hLf
    clear hLf
    go_wp2_with fail
    obtain ⟨v6, e6⟩ : ∃ v6, v6 = v5.alloc (.cells #[.int .i64 Lf, .int .i64 f] 24) := ⟨_, rfl⟩
    have f0 : Var v6 w.heap.size (.slice ao0 n0 c0) := e6 ▸ HV.out.1.alloc _
    have f1 : Var v6 (w.heap.size + 1) (.slice ao1 n1 c1) := e6 ▸ HV.out.2.1.alloc _
    have f2 : Var v6 M (.int .i64 f) := e6 ▸ HV.out.2.2.1.alloc _
    have f3 : Two v6 v5.heap.size (.int .i64 Lf) (.int .i64 f) := e6 ▸ Two.new _ _ _ _
    have o9 : Only [] w v6 := e6 ▸ HV.out.2.2.2.alloc _
    rw [← e6]
    clear e6 HV
    generalize v5.heap.size = N at *
    have d0 := f0.cell
    have d1 := f1.cell
    have d2 := f2.cell
    have d3 := f3.cell0
    have d4 := f3.cell1
    clear f0 f1 f2 f3
    go_loopg [8] 31 (fun gk vi wr => ∃ k : Nat, vi = .int .i64 k ∧ k ≤ f ∧ 31 - k ≤ gk ∧ wr = v6)
    case atStart => exact ⟨0, rfl, by omega, by omega, rfl⟩
    case round =>
      obtain ⟨k, rfl, hk, hg, rfl⟩ := hrel
      have z1 : (k : Int) < (n0 : Int) := by have := HK.out; omega
      have z2 : (k : Int) < 30 := by omega
      by_cases hkf : k < f
      · have hb := B1.out k hkf
        by_cases hr : k < n1
        · have z3 : (k : Int) < (n1 : Int) := by omega
          obtain ⟨b1, p1, rfl, lb1, hc1⟩ := H1.out k hr
          have hcell2 : wr.cell? ⟨b1, p1 + k, none⟩ = some (.bool true) := by
            rw [o9.cell lb1 (by simp), hc1]
            unfold bad at hb
            rw [decide_eq_true (by omega)] at hb
            simp at hb
            simp [hb]
          clear hc1 H1 hb
          go_wp2_with fail
          go_roundg (31 - (k + 1))
          case measure => omega
          case rel => exact ⟨k + 1, by go_num, by omega, Nat.le_refl _, rfl⟩
        · have z3 : ¬ (k : Int) < (n1 : Int) := by omega
          clear hb
          go_wp2_with fail
          go_roundg (31 - (k + 1))
          case measure => omega
          case rel => exact ⟨k + 1, by go_num, by omega, Nat.le_refl _, rfl⟩
      · obtain rfl : k = f := by omega
        have hb := B2.out hfK
        have hr : k < n1 := by
          unfold bad at hb
          rcases Nat.lt_or_ge k n1 with g | g
          · exact g
          · rw [decide_eq_false (by omega)] at hb; cases hb
        have z3 : (k : Int) < (n1 : Int) := by omega
        obtain ⟨b1, p1, rfl, lb1, hc1⟩ := H1.out k hr
        have hcell2 : wr.cell? ⟨b1, p1 + k, none⟩ = some (.bool false) := by
          rw [o9.cell lb1 (by simp), hc1]
          unfold bad at hb
          rw [decide_eq_true (by omega)] at hb
          simp at hb
          simp [hb]
        obtain ⟨b0, p0, rfl, lb0, hc0⟩ := H0.out k (by omega)
        have hcell : wr.cell? ⟨b0, p0 + k, none⟩ = some (.int .i64 Lf) := by
          rw [o9.cell lb0 (by simp), hc0, HL.out]
        clear hc1 hc0 H1 H0 hb
        go_wp2_with fail
        go_quiet (fail)
        go_wp2_with fail
        go_ret
        have o10 : Only [] w (wr.drewN nq) := ⟨o9.os, o9.tape, o9.output, o9.size, o9.block⟩
        exact ⟨rfl, o10.below (Nat.le_refl _) (by simp)⟩
  · obtain rfl : f = K := by omega
    rw [endOf, if_neg hfK] at he
    subst he
    refine ⟨_, .none _, fun v5 o8 => ?_⟩
    have HV := keep v5 o8
    clear keep o8 o7 g3 o6 i3 p0 p1 p3 o5 s3
    go_wp2_with fail
    obtain ⟨v6, e6⟩ : ∃ v6, v6 = v5.alloc (.cells #[.int .i64 0, .int .i64 0] 24) := ⟨_, rfl⟩
    have f0 : Var v6 w.heap.size (.slice ao0 n0 c0) := e6 ▸ HV.out.1.alloc _
    have f1 : Var v6 (w.heap.size + 1) (.slice ao1 n1 c1) := e6 ▸ HV.out.2.1.alloc _
    have f2 : Var v6 M (.int .i64 f) := e6 ▸ HV.out.2.2.1.alloc _
    have f3 : Two v6 v5.heap.size (.int .i64 0) (.int .i64 0) := e6 ▸ Two.new _ _ _ _
    have o9 : Only [] w v6 := e6 ▸ HV.out.2.2.2.alloc _
    rw [← e6]
    clear e6 HV
    generalize v5.heap.size = N at *
    have d0 := f0.cell
    have d1 := f1.cell
    have d2 := f2.cell
    have d3 := f3.cell0
    have d4 := f3.cell1
    clear f0 f1 f2 f3
    go_loopg [8] 31 (fun gk vi wr => ∃ k : Nat, vi = .int .i64 k ∧ k ≤ f ∧ 31 - k ≤ gk ∧ wr = v6)
    case atStart => exact ⟨0, rfl, by omega, by omega, rfl⟩
    case round =>
      obtain ⟨k, rfl, hk, hg, rfl⟩ := hrel
      by_cases hkf : k < f
      · have z1 : (k : Int) < (n0 : Int) := by have := HK.out; omega
        have z2 : (k : Int) < 30 := by omega
        have hb := B1.out k hkf
        by_cases hr : k < n1
        · have z3 : (k : Int) < (n1 : Int) := by omega
          obtain ⟨b1, p1, rfl, lb1, hc1⟩ := H1.out k hr
          have hcell2 : wr.cell? ⟨b1, p1 + k, none⟩ = some (.bool true) := by
            rw [o9.cell lb1 (by simp), hc1]
            unfold bad at hb
            rw [decide_eq_true (by omega)] at hb
            simp at hb
            simp [hb]
          clear hc1 H1 hb
          go_wp2_with fail
          go_roundg (31 - (k + 1))
          case measure => omega
          case rel => exact ⟨k + 1, by go_num, by omega, Nat.le_refl _, rfl⟩
        · have z3 : ¬ (k : Int) < (n1 : Int) := by omega
          clear hb
          go_wp2_with fail
          go_roundg (31 - (k + 1))
          case measure => omega
          case rel => exact ⟨k + 1, by go_num, by omega, Nat.le_refl _, rfl⟩
      · obtain rfl : k = f := by omega
        have HF : Hid (¬ ((k : Int) < (n0 : Int) ∧ (k : Int) < 30)) := by have := HK.out; show ¬ _; omega
        by_cases z1 : (k : Int) < (n0 : Int)
        · have z2 : ¬ (k : Int) < 30 := fun h => HF.out ⟨z1, h⟩
          obtain rfl : k = 30 := by omega
          go_wp2_with fail
          go_ret
          exact ⟨rfl, o9.below (Nat.le_refl _) (by simp)⟩
        · obtain rfl : k = n0 := by have := HK.out; omega
          go_wp2_with fail
          go_ret
          exact ⟨rfl, o9.below (Nat.le_refl _) (by simp)⟩

theorem walk (s0 : Value) (a0 : List Int) (s1 : Value) (a1 : List Bool) (w : World) (w0 : CameI .i64 w s0 a0) (w1 : CameB w s1 a1) :
    Calls Try.prog 6 #[s0, s1] w fun e w' => e = .returned (.bool true) ∧ Below w.heap.size w w' := by
  obtain ⟨a, c, rfl, k1, k2, _, k3⟩ := w0
  obtain ⟨b, d, rfl, j1, j2, j3⟩ := w1
  unfold maxLen at k2
  refine walk_at a b _ c _ d a0 a1 rfl rfl (by omega) w (fun i hi => ?_) (fun i hi => ?_)
  · rcases k3 with rfl | ⟨b, o, rfl, hb, hc⟩
    · simp at hi
    · exact ⟨b, o, rfl, hb, hc i hi⟩
  · rcases j3 with rfl | ⟨b, o, rfl, hb, hc⟩
    · simp at hi
    · refine ⟨b, o, rfl, hb, ?_⟩
      rw [hc i hi]
      simp [List.getD_eq_getElem?_getD, hi]

set_option maxRecDepth 100000 in
theorem lifted (os : Os) (started : os.Started) (H : Type) (enc : TypeId × Value → H) :
    ReturnsInHanded {} Try.checked os 6 .any (Rows.trapMustsSpec.pre6 enc Try.prog Try.f6 Rows.trapMustsRow.domain false) (Rows.trapMustsSpec.post enc Try.prog Try.f6 false true false false) := by
  refine returnsInHanded_of_change (C := Try.checked) own started (by kernel_rfl) Try.func6
    (ChangeSpec.witness6 (enc := enc) (C := Try.checked) false ⟨#[], #[.slice none 0 0, .slice none 0 0], []⟩ 8 (by kernel_rfl) (by kernel_rfl) (by kernel_rfl) (by kernel_rfl)) ?_
  intro W base args ds gs before hval0 hW hcnd _
  have hval : ∀ (j : Nat) t v, Try.f6.params[j]? = some t → args[j]? = some v → Value.okWide Try.prog W .any base t v := hval0
  have hW' := hW
  obtain ⟨p, q, hA0, hV, rfl, hfz, hnd⟩ := hW
  have hA : DataW.TrodAll enc Try.prog W 0 (fun _ => true) true Try.f6.params.toList args.toList ds p := hA0
  rw [Try.params6] at hA hval
  obtain ⟨v0, vs0, d0, ds0, p0, q0, hargs, rfl, rfl, h0, r0⟩ := trodAll_cons hA
  obtain ⟨v1, vs1, d1, ds1, p1, q1, rfl, rfl, rfl, h1, r1⟩ := trodAll_cons r0
  obtain ⟨rfl, rfl, rfl⟩ := trodAll_nil r1
  obtain rfl : args = #[v0, v1] := by cases args; simp_all
  obtain ⟨rfl, rfl⟩ := trodVars_none hV
  obtain ⟨e0, len0, cap0, rfl⟩ := okWide_slice Try.underlying42 (hval 0 42 v0 rfl rfl)
  have k0 := h0
  have lt0 : ∀ x ∈ p0, x.block < W.heap.size := by obtain ⟨m, hm⟩ := k0; exact DataW.trod_lt m _ _ _ hm
  obtain ⟨a0, w0⟩ := came_i Try.underlying42 Try.underlying3 (by kernel_rfl) h0
  obtain ⟨e1, len1, cap1, rfl⟩ := okWide_slice Try.underlying43 (hval 1 43 v1 rfl rfl)
  have k1 := h1
  have lt1 : ∀ x ∈ p1, x.block < W.heap.size := by obtain ⟨m, hm⟩ := k1; exact DataW.trod_lt m _ _ _ hm
  obtain ⟨a1, w1⟩ := came_b Try.underlying43 Try.underlying4 (by kernel_rfl) h1
  clear hA0 hval0
  refine (walk _ a0 _ a1 W w0 w1).mono fun e W' ⟨he, bel⟩ => ?_
  subst he
  exact ⟨_, rfl, _, _, _, [], _, [], hW', trodAll_mk1 (shut_bool Try.underlying4 _), (trodAll_cons_mk (Below.trod laidOut (by kernel_rfl) (of_decide_eq_true (by kernel_rfl)) k0 bel lt0) (trodAll_cons_mk (Below.trod laidOut (by kernel_rfl) (of_decide_eq_true (by kernel_rfl)) k1 bel lt1) trodAll_mk0)), rfl, bel.frame _, fun h => by cases h⟩

theorem over : Rows.trapMustsRow.holds Try.pinned (OpenSpec.ofChange Rows.trapMustsSpec) :=
  OpenClaim.holds_of_wide 6 Try.f6 rfl rfl rfl rfl rfl rfl rfl ⟨rfl, rfl, rfl, rfl, rfl⟩ rfl rfl rfl rfl rfl (by kernel_rfl) Try.func6 (by kernel_rfl)
    (of_decide_eq_true (by kernel_rfl)) (by unfold Func.isWrapper; first | (rw [if_pos (by decide +kernel)]; kernel_rfl) | (rw [if_neg (by decide +kernel)]; exact ⟨rfl, rfl⟩))
    (fun os started H enc _ => lifted os started H enc)

/-- THE STATEMENT -/
theorem proved : Rows.TrapMustsSaid := over
end Go.Proofs.Ytakcajmkgdoofaa.trapMusts

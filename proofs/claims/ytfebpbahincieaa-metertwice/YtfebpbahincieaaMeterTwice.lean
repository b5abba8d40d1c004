/- Proved: MeterTwice returns true for every input. No condition. -/
import Derived.Test.YtfebpbahincieaaMetrK
import Derived.Test.YtfebpbahincieaaMetrD
import Derived.Test.YtfebpbahincieaaFrame
import Derived.Deep.LoopGhost
namespace Go.Proofs.Ytfebpbahincieaa.meterTwice
open Go.ChangeShapes Go.WideShapes Go.ChangeAt Go.RowKit
open Fl (V nn fin rg sg U)
open Fl.Metr (S zero Tw)
set_option linter.unusedVariables false

theorem o_same {x y : Nat} (hx : nn x) (hy : nn y) (h : V x = V y) : (FloatKind.f64.format.order x y != some .eq) = false := by
  have := o_eq hx hy
  rw [decide_eq_true h] at this
  rw [bne, this]; rfl

/-- both Meters in memory -/
structure St (w x : World) (A B i : Nat) (s t : S) : Prop where
  one : Mt x A s
  two : Mt x B t
  tw : Tw i s t
  only : Only [] w x

/-- what is told, and what comes of it -/
structure Facts (s t : S) (i x y m2 j2 : Nat) : Prop where
  lx : x < 2 ^ 64
  ly : y < 2 ^ 64
  sx : Fl.Metr.sample x
  sy : Fl.Metr.sample y
  tw : Tw (i + 1) (s.note x) (t.note y)
  em : Ieee.double.mul 4611686018427387904 x = some y
  e1 : Ieee.double.mul 4611686018427387904 (s.note x).mean = some m2
  e2 : Ieee.double.mul 4611686018427387904 (s.note x).jit = some j2
  q0 : i = 0 → (FloatKind.f64.format.order (s.note x).mean x != some .eq) = false
  q1 : (FloatKind.f64.format.order (t.note y).mean m2 != some .eq) = false
  q2 : (FloatKind.f64.format.order (t.note y).jit j2 != some .eq) = false

theorem facts (k : Nat) (hk : k < 4000) : ∃ x, Ieee.double.div (Fl.ofI k) 4620693217682128896 = some x ∧ ∀ (i : Nat) (s t : S), i < 60 → Tw i s t → ∃ y m2 j2, Facts s t i x y m2 j2 := by
  have hU := Fl.Upos
  obtain ⟨x, e, fx, lx, sx, v8, K, hK, vK⟩ := Fl.Metr.eighth k (by omega)
  refine ⟨x, e, ?_⟩
  intro i s t hi T
  have x0 := Fl.V_sg sx
  have kU : (k : Int) * (U : Int) ≤ 4000 * (U : Int) := Int.mul_le_mul_of_nonneg_right (by omega) (by omega)
  obtain ⟨z, _, fz, lz, _, z8, _⟩ := Fl.Metr.eighth (2 * k) (by omega)
  have ez : V z = 2 * V x := by rw [Int.natCast_mul, Int.mul_assoc] at z8; omega
  obtain ⟨y, em, fy, ly, vy⟩ := Fl.Metr.twice fx fz lz ez
  have e2 : V y = 2 * V x := by omega
  have hx : Fl.Metr.sample x := ⟨fx.nn, x0, by omega⟩
  have hy : Fl.Metr.sample y := ⟨fy.nn, by omega, by omega⟩
  have T' := T.more hi lx ly hx hy e2 (K := K) (by omega) ⟨k, by rw [vK, Int.mul_comm]⟩
  obtain ⟨m2, a1, a2, a3, a4⟩ := Fl.Metr.twice T'.os.fm T'.ot.fm T'.ot.lm T'.m
  obtain ⟨j2, b1, b2, b3, b4⟩ := Fl.Metr.twice T'.os.fj T'.ot.fj T'.ot.lj T'.j
  refine ⟨y, m2, j2, lx, ly, hx, hy, T', em, a1, b1, fun h0 => ?_, o_same T'.ot.fm.nn a2.nn a4.symm, o_same T'.ot.fj.nn b2.nn b4.symm⟩
  have c : s.count = 0 := by rw [T.cs, h0]; rfl
  rw [Fl.Metr.note_first c]
  obtain ⟨v, n, _⟩ := Fl.V_rg fx.nn
  exact o_same n fx.nn (by show V (rg x) = V x; omega)

theorem st_new (w : World) (t : TypeId) : St w ((w.alloc (.cells #[.int .i64 0, .float .f64 0, .float .f64 0] t)).alloc (.cells #[.int .i64 0, .float .f64 0, .float .f64 0] t)) w.heap.size (w.heap.size + 1) 0 zero zero := by
  obtain ⟨x0, e0⟩ : ∃ x0, x0 = w.alloc (.cells #[.int .i64 0, .float .f64 0, .float .f64 0] t) := ⟨_, rfl⟩
  have s0 : x0.heap.size = w.heap.size + 1 := by rw [e0]; simp
  have M0 : Mt x0 w.heap.size zero := e0 ▸ Mt.new _ _
  have O0 : Only [] w x0 := e0 ▸ (Only.refl _ _).alloc _
  rw [← e0]
  clear e0
  have O1 : Only [] x0 (x0.alloc (.cells #[.int .i64 0, .float .f64 0, .float .f64 0] t)) := (Only.refl _ _).alloc _
  refine ⟨M0.only O1 (by simp), ?_, Tw.zero, O0.trans O1⟩
  rw [← s0]; exact Mt.new _ _

set_option maxRecDepth 100000 in
set_option maxHeartbeats 4000000 in
theorem walk (s0 : Value) (a0 : List Int) (w : World) (w0 : CameI .i64 w s0 a0) :
    Calls Try.prog 6 #[s0] w fun e w' => e = .returned (.bool true) ∧ Below w.heap.size w w' := by
  obtain ⟨ao, cap, rfl, hcap, hcm, _, hcl⟩ := w0
  have HC : Hid (∀ i, i < a0.length → ∃ b o, ao = some ⟨b, o, none⟩ ∧ b < w.heap.size ∧ w.cell? ⟨b, o + i, none⟩ = some (.int .i64 (a0.getD i 0))) := fun i hi => by
    rcases hcl with h | ⟨b, o, h1, h2, h3⟩
    · rw [h] at hi; simp at hi
    · exact ⟨b, o, h1, h2, h3 i hi⟩
  clear hcl
  have m0 : a0.length ≤ 9223372036854775807 := by simp only [maxLen] at hcm; omega
  clear hcm
  generalize hn : a0.length = n at *
  clear hn
  have H0 : Hid _ := st_new w 24
  go_enter Try.func6, Try.ntmps6
  go_wp2_with fail
  obtain ⟨A, hA⟩ : ∃ A, w.heap.size = A := ⟨_, rfl⟩
  obtain ⟨B, hB⟩ : ∃ B, A + 1 = B := ⟨_, rfl⟩
  rw [hA, hB] at H0 ⊢
  generalize (w.alloc (.cells #[.int .i64 0, .float .f64 0, .float .f64 0] 24)).alloc (.cells #[.int .i64 0, .float .f64 0, .float .f64 0] 24) = x0 at H0 ⊢
  go_loopg [5] 61 (fun gk vi wr => ∃ (k : Nat) (s t : S), vi = .int .i64 k ∧ k ≤ 40 ∧ k ≤ n ∧ 61 - k ≤ gk ∧ Hid (St w wr A B k s t))
  case atStart => exact ⟨0, _, _, rfl, by omega, by omega, by omega, H0.out⟩
  case round =>
    obtain ⟨k, s, t, rfl, hk, hkn, hg, HR⟩ := hrel
    by_cases c1 : k < n
    · by_cases c2 : k < 40
      · have z1 : (k : Int) < (n : Int) := by omega
        have z2 : (k : Int) < 40 := by omega
        obtain ⟨bb, o0, rfl, lbb, hc⟩ := HC.out k c1
        have hcell : wr.cell? ⟨bb, o0 + k, none⟩ = some (.int .i64 (a0.getD k 0)) := (HR.out.only.cell lbb (by simp)).trans hc
        clear hc HC
        generalize a0.getD k 0 = z at hcell
        obtain ⟨q, hq⟩ : ∃ q : Nat, z % 4000 = (q : Int) := ⟨(z % 4000).toNat, by omega⟩
        obtain ⟨x, ex, FA⟩ := facts q (by omega)
        obtain ⟨y, m2, j2, F0⟩ := FA k s t (by omega) HR.out.tw
        have F : Hid _ := F0
        have b1 : ∀ w, (binOp .quo 22 (.float .f64 (floatOfInt .f64 (q : Int))) (.float .f64 4620693217682128896)).run Try.prog w = .ok (.float .f64 x) w := fun w => run_float_arith (P := Try.prog) w .quo 22 .f64 _ _ _ ex
        have b2 := fun w => run_float_arith (P := Try.prog) w .mul 22 .f64 _ _ _ F0.em
        have b3 := fun w => run_float_arith (P := Try.prog) w .mul 22 .f64 _ _ _ F0.e1
        have b4 := fun w => run_float_arith (P := Try.prog) w .mul 22 .f64 _ _ _ F0.e2
        have q0 := F0.q0
        have q1 := F0.q1
        have q2 := F0.q2
        have n1 : (s.note x).count = (k : Int) + 1 := F0.tw.cs
        clear F0 FA ex
        have hcs : s.count < 1000000 := by have := HR.out.tw.cs; omega
        have hct : t.count < 1000000 := by have := HR.out.tw.ct; omega
        have N1 := fun w h => note_yes A s x F.out.lx F.out.sx hcs w h
        have N2 := fun w h => note_yes B t y F.out.ly F.out.sy hct w h
        have T' := F.out.tw
        clear hcs hct
        generalize s.note x = s' at *
        generalize t.note y = t' at *
        have HT : Hid _ := T'
        have HN1 : Hid _ := N1
        have HN2 : Hid _ := N2
        clear T' N1 N2 F
        go_wp2_with fail
        refine (pick_any _ _ (by omega) (by omega) _).mono ?_
        rintro e w' ⟨rfl, rfl⟩
        rw [hq]
        go_wp2_with fail
        refine (HN1.out _ HR.out.one).mono ?_
        rintro e y1 ⟨rfl, h1, o1, _⟩
        have P1 : Hid (Mt y1 A s' ∧ Mt y1 B t ∧ Only [] w y1) := ⟨h1, HR.out.two.only o1 (by simp; omega), HR.out.only.then o1 (by simp; omega)⟩
        clear h1 o1 HR HN1
        go_wp2_with fail
        refine (HN2.out _ P1.out.2.1).mono ?_
        rintro e y2 ⟨rfl, h1, o1, _⟩
        have P2 : Hid (St w y2 A B (k + 1) s' t') := ⟨P1.out.1.only o1 (by simp; omega), h1, HT.out, P1.out.2.2.then o1 (by simp; omega)⟩
        clear h1 o1 P1 HN2 HT
        by_cases z0 : k = 0
        · have z3 : (k : Int) = 0 := by omega
          have q0 := q0 z0
          go_wp2_with fail
          refine (mean_any A _ _ P2.out.one).mono ?_
          rintro e w' ⟨rfl, hw⟩
          subst hw
          go_wp2_with fail
          refine (mean_any B _ _ P2.out.two).mono ?_
          rintro e w' ⟨rfl, hw⟩
          subst hw
          go_wp2_with fail
          refine (mean_any A _ _ P2.out.one).mono ?_
          rintro e w' ⟨rfl, hw⟩
          subst hw
          go_wp2_with fail
          refine (jit_any B _ _ P2.out.two).mono ?_
          rintro e w' ⟨rfl, hw⟩
          subst hw
          go_wp2_with fail
          refine (jit_any A _ _ P2.out.one).mono ?_
          rintro e w' ⟨rfl, hw⟩
          subst hw
          go_wp2_with fail
          refine (count_any A _ _ P2.out.one).mono ?_
          rintro e w' ⟨rfl, hw⟩
          subst hw
          rw [n1]
          go_wp2_with fail
          go_roundg (60 - k)
          case measure => omega
          case rel => exact ⟨k + 1, s', t', by first | rfl | (rw [z0]; rfl), by omega, by omega, by omega, P2.out⟩
        · have z3 : ¬ (k : Int) = 0 := by omega
          clear q0
          go_wp2_with fail
          refine (mean_any B _ _ P2.out.two).mono ?_
          rintro e w' ⟨rfl, hw⟩
          subst hw
          go_wp2_with fail
          refine (mean_any A _ _ P2.out.one).mono ?_
          rintro e w' ⟨rfl, hw⟩
          subst hw
          go_wp2_with fail
          refine (jit_any B _ _ P2.out.two).mono ?_
          rintro e w' ⟨rfl, hw⟩
          subst hw
          go_wp2_with fail
          refine (jit_any A _ _ P2.out.one).mono ?_
          rintro e w' ⟨rfl, hw⟩
          subst hw
          go_wp2_with fail
          refine (count_any A _ _ P2.out.one).mono ?_
          rintro e w' ⟨rfl, hw⟩
          subst hw
          rw [n1]
          go_wp2_with fail
          go_roundg (60 - k)
          case measure => omega
          case rel => exact ⟨k + 1, s', t', by first | rfl | (rw [z0]; rfl), by omega, by omega, by omega, P2.out⟩
      · have z1 : (k : Int) < (n : Int) := by omega
        have z2 : ¬ (k : Int) < 40 := by omega
        go_wp2_with fail
        refine (known_any _).mono ?_
        rintro e x2 ⟨rfl, o2⟩
        go_wp2_with fail
        go_ret
        exact ⟨rfl, (HR.out.only.trans o2).below (by omega) (by simp)⟩
    · have z1 : ¬ (k : Int) < (n : Int) := by omega
      go_wp2_with fail
      refine (known_any _).mono ?_
      rintro e x2 ⟨rfl, o2⟩
      go_wp2_with fail
      go_ret
      exact ⟨rfl, (HR.out.only.trans o2).below (by omega) (by simp)⟩

set_option maxRecDepth 100000 in
theorem lifted (os : Os) (started : os.Started) (H : Type) (enc : TypeId × Value → H) :
    ReturnsInHanded {} Try.checked os 6 .any (Rows.meterTwiceSpec.pre6 enc Try.prog Try.f6 Rows.meterTwiceRow.domain false) (Rows.meterTwiceSpec.post enc Try.prog Try.f6 false true false false) := by
  refine returnsInHanded_of_change (C := Try.checked) own started (by kernel_rfl) Try.func6
    (ChangeSpec.witness6 (enc := enc) (C := Try.checked) false ⟨#[], #[.slice none 0 0], []⟩ 8 (by kernel_rfl) (by kernel_rfl) (by kernel_rfl) (by kernel_rfl)) ?_
  intro W base args ds gs before hval0 hW hcnd _
  have hval : ∀ (j : Nat) t v, Try.f6.params[j]? = some t → args[j]? = some v → Value.okWide Try.prog W .any base t v := hval0
  have hW' := hW
  obtain ⟨p, q, hA0, hV, rfl, hfz, hnd⟩ := hW
  have hA : DataW.TrodAll enc Try.prog W 0 (fun _ => true) true Try.f6.params.toList args.toList ds p := hA0
  rw [Try.params6] at hA hval
  obtain ⟨v0, vs0, d0, ds0, p0, q0, hargs, rfl, rfl, h0, r0⟩ := trodAll_cons hA
  obtain ⟨rfl, rfl, rfl⟩ := trodAll_nil r0
  obtain rfl : args = #[v0] := by cases args; simp_all
  obtain ⟨rfl, rfl⟩ := trodVars_none hV
  obtain ⟨e0, len0, cap0, rfl⟩ := okWide_slice Try.underlying34 (hval 0 34 v0 rfl rfl)
  have k0 := h0
  have lt0 : ∀ x ∈ p0, x.block < W.heap.size := by obtain ⟨m, hm⟩ := k0; exact DataW.trod_lt m _ _ _ hm
  obtain ⟨a0, w0⟩ := came_i Try.underlying34 Try.underlying3 (by kernel_rfl) h0
  clear hA0 hval0
  refine (walk _ a0 W w0).mono fun e W' ⟨he, bel⟩ => ?_
  subst he
  exact ⟨_, rfl, _, _, _, [], _, [], hW', trodAll_mk1 (shut_bool Try.underlying4 _), (trodAll_cons_mk (Below.trod laidOut (by kernel_rfl) (of_decide_eq_true (by kernel_rfl)) k0 bel lt0) trodAll_mk0), rfl, bel.frame _, fun h => by cases h⟩

theorem over : Rows.meterTwiceRow.holds Try.pinned (OpenSpec.ofChange Rows.meterTwiceSpec) :=
  OpenClaim.holds_of_wide 6 Try.f6 rfl rfl rfl rfl rfl rfl rfl ⟨rfl, rfl, rfl, rfl, rfl⟩ rfl rfl rfl rfl rfl (by kernel_rfl) Try.func6 (by kernel_rfl)
    (of_decide_eq_true (by kernel_rfl)) (by unfold Func.isWrapper; first | (rw [if_pos (by decide +kernel)]; kernel_rfl) | (rw [if_neg (by decide +kernel)]; exact ⟨rfl, rfl⟩))
    (fun os started H enc _ => lifted os started H enc)

/-- THE STATEMENT -/
theorem proved : Rows.MeterTwiceSaid := over
end Go.Proofs.Ytfebpbahincieaa.meterTwice

/- Proved: BucketFills returns true for every input. No condition. -/
import Derived.Test.YtdglbllabfpfcaaBuckK
import Derived.Test.YtdglbllabfpfcaaFrame
import Derived.Deep.LoopGhost
namespace Go.Proofs.Ytdglbllabfpfcaa.bucketFills
open Go.ChangeShapes Go.WideShapes Go.ChangeAt Go.RowKit
open Fl (V nn fin rg sg U)
open Fl.Buck (S)
set_option linter.unusedVariables false

def c16 : Nat := 4625196817309499392
theorem V_16 : V c16 = 16 * (U : Int) := by decide +kernel
theorem fin_16 : fin c16 := by decide +kernel
theorem V_p : 16 * V 4589168020290535424 = (U : Int) := by decide +kernel
theorem fin_p : fin 4589168020290535424 := by decide +kernel
theorem V_4 : V 4616189618054758400 = 4 * (U : Int) := by decide +kernel
theorem fin_4 : fin 4616189618054758400 := by decide +kernel

theorem rate_spec (k : Int) (h1 : 1 ≤ k) (h2 : k ≤ 64) : Ieee.double.div (Fl.ofI k) c16 = some (Fl.divw (Fl.ofI k) c16) ∧ fin (Fl.divw (Fl.ofI k) c16) ∧ Fl.divw (Fl.ofI k) c16 < 2 ^ 64 ∧ (U : Int) ≤ 16 * V (Fl.divw (Fl.ofI k) c16) := by
  have hU := Fl.Upos
  obtain ⟨f, v, l⟩ := Fl.ofInt_V k (by
    have : (64 : Nat) < 2 ^ 53 := by decide
    omega)
  obtain ⟨r, e, R, _⟩ := Fl.div_fin (x := Fl.ofI k) f fin_16 (by rw [V_16]; omega)
  have g : Fl.divw (Fl.ofI k) c16 = r := by unfold Fl.divw; rw [e]; rfl
  rw [g]
  have v' : V (Fl.ofI k) = k * (U : Int) := v
  rw [v', V_16] at R
  have hD : (((16 * (U : Int)).toNat : Nat) : Int) = 16 * (U : Int) := Int.toNat_of_nonneg (by omega)
  have hD0 : 0 < (16 * (U : Int)).toNat := by omega
  have k0 : (U : Int) * (U : Int) ≤ k * (U : Int) * (U : Int) := by
    rw [Int.mul_assoc]
    have := Int.mul_le_mul_of_nonneg_right h1 (show 0 ≤ (U : Int) * (U : Int) from Int.mul_nonneg (by omega) (by omega))
    rwa [Int.one_mul] at this
  have k1 := Fl.le_rounds (w := 4589168020290535424) hD0 R fin_p.nn (by decide) (by
    rw [hD, ← Int.mul_assoc, Int.mul_comm (V _) 16, V_p]; exact k0)
  have k2 := Fl.rounds_le (w := 4616189618054758400) hD0 R fin_4.nn (by decide) (by
    rw [hD, V_4, Int.mul_assoc]
    have : 4 * (U : Int) * (16 * (U : Int)) = 64 * ((U : Int) * (U : Int)) := by
      rw [Int.mul_comm 16, Int.mul_assoc, ← Int.mul_assoc (U : Int), Int.mul_comm _ 16, ← Int.mul_assoc]; rfl
    rw [this]
    exact Int.mul_le_mul_of_nonneg_right h2 (Int.mul_nonneg (by omega) (by omega)))
  have p := V_p
  exact ⟨e, Fl.fin_le R.nn (by omega) fin_4 k2, R.1, by omega⟩

theorem depth_spec (q : Nat) (h1 : 1 ≤ q) (h2 : q ≤ 60) : fin (Fl.ofI q) ∧ Fl.ofI q < 2 ^ 64 ∧ V (Fl.ofI q) = (q : Int) * (U : Int) ∧ (U : Int) ≤ V (Fl.ofI q) ∧ V (Fl.ofI q) ≤ 60 * (U : Int) := by
  have hU := Fl.Upos
  obtain ⟨f, v, l⟩ := Fl.ofInt_V (q : Int) (by
    have : (60 : Nat) < 2 ^ 53 := by decide
    omega)
  have v' : V (Fl.ofI q) = (q : Int) * (U : Int) := v
  have a1 := Int.mul_le_mul_of_nonneg_right (show (1 : Int) ≤ q by omega) (show 0 ≤ (U : Int) by omega)
  have a2 := Int.mul_le_mul_of_nonneg_right (show (q : Int) ≤ 60 by omega) (show 0 ≤ (U : Int) by omega)
  rw [Int.one_mul] at a1
  exact ⟨f, l, v', by omega, by omega⟩

/-- filled up to t there are k -/
structure F (r q : Nat) (s : S) (t : Int) (k : Nat) : Prop where
  ok : s.ok
  rate : s.rate = r
  depth : V s.depth = (q : Int) * (U : Int)
  lt : s.last ≤ t
  t1 : t ≤ 1000000
  has : V (s.fill t).level = (k : Int) * (U : Int)

theorem F.taken {r q : Nat} {s : S} {t : Int} {k : Nat} (h : F r q s t (k + 1)) (hk : k < 2000) : (s.take t).2 = true ∧ F r q (s.take t).1 t k := by
  have e : s.take t = (s.fill t).one := by unfold S.take; rw [Int.min_eq_left h.t1]
  obtain ⟨a, b⟩ := Fl.Buck.one_whole (Fl.Buck.fill_ok h.ok h.t1) hk h.has
  obtain ⟨c1, c2, c3⟩ := Fl.Buck.take_last s t h.t1
  have lt := h.lt
  refine ⟨by rw [e]; exact a, Fl.Buck.take_ok h.ok t, by rw [c2]; exact h.rate, by rw [c3]; exact h.depth, by omega, h.t1, ?_⟩
  rw [Fl.Buck.fill_no (by omega), e]; exact b
theorem F.none {r q : Nat} {s : S} {t : Int} (h : F r q s t 0) : (s.take t).2 = false ∧ F r q (s.take t).1 t 0 ∧ (s.take t).1.last = t := by
  have e : s.take t = (s.fill t).one := by unfold S.take; rw [Int.min_eq_left h.t1]
  have z : V (s.fill t).level = 0 := by rw [h.has]; simp
  have e2 : s.take t = (s.fill t, false) := by rw [e]; exact Fl.Buck.one_none z
  obtain ⟨c1, c2, c3⟩ := Fl.Buck.take_last s t h.t1
  have lt := h.lt
  refine ⟨by rw [e2], ⟨Fl.Buck.take_ok h.ok t, by rw [c2]; exact h.rate, by rw [c3]; exact h.depth, by omega, h.t1, ?_⟩, by omega⟩
  rw [Fl.Buck.fill_no (by omega), e2, z]; simp
theorem F.back {r q : Nat} {s : S} {t : Int} (h : F r q s t 0) (hl : s.last = t) : s.take (t - 1) = (s, false) := by
  have t1 := h.t1
  unfold S.take
  rw [Fl.Buck.fill_no (by omega)]
  have z := h.has
  rw [Fl.Buck.fill_no (by omega)] at z
  exact Fl.Buck.one_none (by rw [z]; simp)
theorem F.fresh {r q : Nat} {s : S} {t : Int} (h : F r q s t 0) (hl : s.last = t) (hr : (U : Int) ≤ 16 * V r) (hq : 1 ≤ q) (e : Int) (he : 0 ≤ e) (ht : t + 16 * q + e ≤ 1000000) : F r q s (t + 16 * q + e) q := by
  refine ⟨h.ok, h.rate, h.depth, by omega, ht, ?_⟩
  rw [Fl.Buck.fill_full h.ok (by omega) ht ?_, h.depth]
  rw [h.depth, h.rate, hl, show t + 16 * (q : Int) + e - t = 16 * (q : Int) + e by omega, Int.mul_add]
  have pr := h.ok.pr
  rw [h.rate] at pr
  have a1 := Int.mul_nonneg pr he
  have a2 := Int.mul_le_mul_of_nonneg_right hr (show 0 ≤ (q : Int) by omega)
  have a3 : V r * (16 * (q : Int)) = 16 * V r * (q : Int) := by rw [← Int.mul_assoc, Int.mul_comm (V r)]
  rw [a3, Int.mul_comm (q : Int)]
  omega

set_option maxRecDepth 100000 in
set_option maxHeartbeats 4000000 in
theorem walk (a0 : Int) (a1 : Int) (a2 : Int) (w : World) (w0 : (Lit.int .i64 a0).wf = true) (w1 : (Lit.int .i64 a1).wf = true) (w2 : (Lit.int .i64 a2).wf = true) :
    Calls Try.prog 5 #[.int .i64 a0, .int .i64 a1, .int .i64 a2] w fun e w' => e = .returned (.bool true) ∧ Below w.heap.size w w' := by
  clear w0 w1 w2
  obtain ⟨p, hp⟩ : ∃ p, a0 % 64 = p := ⟨_, rfl⟩
  have hp1 : 0 ≤ p ∧ p ≤ 63 := by omega
  obtain ⟨q, hq⟩ : ∃ q : Nat, a1 % 60 = (q : Int) - 1 := ⟨(a1 % 60 + 1).toNat, by omega⟩
  have hq1 : 1 ≤ q ∧ q ≤ 60 := by omega
  obtain ⟨x, hx⟩ : ∃ x, a2 % 50 = x := ⟨_, rfl⟩
  have hx1 : 0 ≤ x ∧ x ≤ 49 := by omega
  have R := rate_spec (1 + p) (by omega) (by omega)
  obtain ⟨D1, D2, D3, D4, D5⟩ := depth_spec q hq1.1 hq1.2
  have bd := fun w => run_float_arith (P := Try.prog) w .quo 22 .f64 _ _ _ R.1
  have bd' : ∀ w, (binOp .quo 22 (.float .f64 (floatOfInt .f64 (1 + p))) (.float .f64 4625196817309499392)).run Try.prog w = .ok (.float .f64 (Fl.divw (Fl.ofI (1 + p)) c16)) w := bd
  clear bd
  obtain ⟨_, R2, R3, R4⟩ := R
  generalize Fl.divw (Fl.ofI (1 + p)) c16 = r at *
  have right : Fl.Buck.right r (Fl.ofI q) := ⟨⟨R2, by have := Fl.Upos; omega⟩, D1.nn, D4, by have := Fl.Upos; omega⟩
  have ed : floatOfInt .f64 (q : Int) = Fl.ofI q := rfl
  have FS : Hid (∀ B : Nat, F r q (Fl.Buck.new r (Fl.ofI q)) 0 q) := fun _ => by
    refine ⟨Fl.Buck.new_ok R3 D2 right, rfl, D3, by simp [Fl.Buck.new], by omega, ?_⟩
    rw [Fl.Buck.fill_no (by simp [Fl.Buck.new])]
    exact D3
  have R4h := Lib.hid R4
  have rh := Lib.hid right
  clear right D1 D3 D4 D5 R2 R4
  go_enter Try.func5, Try.ntmps5
  go_wp2_with fail
  refine (pick_any _ _ (by omega) (by omega) _).mono ?_
  rintro e w' ⟨rfl, rfl⟩
  rw [hp]
  go_wp2_with fail
  refine (pick_any _ _ (by omega) (by omega) _).mono ?_
  rintro e w' ⟨rfl, rfl⟩
  rw [hq]
  go_wp2_with fail
  rw [show (1 : Int) + ((q : Int) - 1) = q by omega, ed]
  refine (new_right _ _ R3 D2 rh.out _).mono ?_
  rintro e x0 ⟨rfl, h1, o1⟩
  obtain ⟨B, hB⟩ : ∃ B, w.heap.size = B := ⟨_, rfl⟩
  rw [hB] at h1 ⊢
  have H0 : Hid (Bk x0 B (Fl.Buck.new r (Fl.ofI q)) ∧ Only [] w x0) := ⟨h1, o1⟩
  clear h1 o1
  go_wp2_with fail
  refine (known_any _).mono ?_
  rintro e x1 ⟨rfl, o1⟩
  have H1 : Hid (Bk x1 B (Fl.Buck.new r (Fl.ofI q)) ∧ Only [] w x1 ∧ F r q (Fl.Buck.new r (Fl.ofI q)) 0 q) := ⟨H0.out.1.only o1 (by simp), H0.out.2.trans o1, FS.out 0⟩
  clear o1 H0 FS D2 R3 rh bd' hp hp1 hq
  generalize Fl.Buck.new r (Fl.ofI q) = s0 at *
  generalize Fl.ofI q = dw at *
  go_wp2_with fail
  go_loopg [11, 12] 4 (fun gk vt vi wr => ∃ (i : Nat) (t : Int) (s : S), vt = .int .i64 t ∧ vi = .int .i64 i ∧ i ≤ 3 ∧ 4 - i ≤ gk ∧ 0 ≤ t ∧ t ≤ 1009 * i ∧ Hid (Bk wr B s ∧ Only [] w wr ∧ F r q s t q))
  case atStart => exact ⟨0, 0, s0, rfl, rfl, by omega, by omega, by omega, by omega, H1.out⟩
  case round =>
    obtain ⟨i, t, s, rfl, rfl, hi, hg, ht0, ht1, HR⟩ := hrel
    by_cases c1 : i < 3
    · have z1 : (i : Int) < 3 := by omega
      go_wp2_with fail
      generalize wr = W0 at *
      go_loopg [13] (q + 1) (fun g2 vk wr => ∃ (k : Nat) (s : S), vk = .int .i64 k ∧ k ≤ q ∧ q + 1 - k ≤ g2 ∧ Hid (Bk wr B s ∧ Only [] w wr ∧ F r q s t (q - k)))
      case atStart => exact ⟨0, s, rfl, by omega, by omega, HR.out⟩
      case round =>
        clear HR s
        obtain ⟨k, s, rfl, hk, hg2, HR⟩ := hrel
        by_cases c2 : k < q
        · have z2 : (k : Int) < (q : Int) := by omega
          obtain ⟨j, hj⟩ : ∃ j, q - k = j + 1 := ⟨q - k - 1, by omega⟩
          have T := HR.out.2.2
          rw [hj] at T
          have T2 := T.taken (by omega)
          clear T
          go_wp2_with fail
          refine (take_any B s t _ HR.out.1).mono ?_
          rintro e x2 ⟨rfl, h1, o1, _⟩
          have HN : Hid (Bk x2 B (s.take t).1 ∧ Only [] w x2 ∧ F r q (s.take t).1 t j) := ⟨h1, HR.out.2.1.then o1 (by simp; omega), T2.2⟩
          rw [T2.1]
          clear h1 o1 HR T2
          go_wp2_with fail
          go_roundg (q - k)
          case measure => omega
          case rel => exact ⟨k + 1, _, rfl, by omega, by omega, by rw [show q - (k + 1) = j by omega]; exact HN.out⟩
        · have z2 : ¬ (k : Int) < (q : Int) := by omega
          have T := HR.out.2.2
          rw [show q - k = 0 by omega] at T
          have T2 := T.none
          have T3 := T2.2.1.back T2.2.2
          have T4 := T2.2.1.fresh T2.2.2 R4h.out hq1.1 x hx1.1 (by omega)
          have t2 : Hid _ := T2.2.2
          go_wp2_with fail
          refine (take_any B s t _ HR.out.1).mono ?_
          rintro e x2 ⟨rfl, h1, o1, _⟩
          have HN : Hid (Bk x2 B (s.take t).1 ∧ Only [] w x2) := ⟨h1, HR.out.2.1.then o1 (by simp; omega)⟩
          rw [T2.1]
          have HT : Hid (F r q (s.take t).1 (t + 16 * q + x) q) := T4
          have HB : Hid _ := T3
          clear h1 o1 HR T2 T3 T4 T
          go_wp2_with fail
          refine (take_any B _ (t - 1) _ HN.out.1).mono ?_
          rintro e x3 ⟨rfl, h1, o1, _⟩
          rw [HB.out] at h1 ⊢
          have HM : Hid (Bk x3 B (s.take t).1 ∧ Only [] w x3 ∧ F r q (s.take t).1 (t + 16 * q + x) q) := ⟨h1, HN.out.2.then o1 (by simp; omega), HT.out⟩
          clear h1 o1 HN HT HB t2
          go_wp2_with fail
          refine (pick_any _ _ (by omega) (by omega) _).mono ?_
          rintro e w' ⟨rfl, rfl⟩
          rw [hx]
          go_wp2_with fail
          go_roundg (3 - i)
          case measure => omega
          case rel => exact ⟨i + 1, t + 16 * q + x, _, rfl, rfl, by omega, by omega, by omega, by omega, HM.out⟩
    · have z1 : ¬ (i : Int) < 3 := by omega
      have T := HR.out.2.2
      obtain ⟨j, hj⟩ : ∃ j, q = j + 1 := ⟨q - 1, by omega⟩
      subst hj
      have T2 := T.taken (by omega)
      have lq : (FloatKind.f64.format.order (s.take t).1.level (floatOfInt .f64 (j : Int)) == some .eq) = true := by
        obtain ⟨g1, g2, g3⟩ := Fl.ofInt_V (j : Int) (by
          have : (60 : Nat) < 2 ^ 53 := by decide
          omega)
        have e : floatOfInt .f64 (j : Int) = Fl.ofI j := rfl
        have e2 : V (Fl.ofI j) = (j : Int) * (U : Int) := g2
        have c1 := (Fl.Buck.take_last s t T.t1).1
        have hs := T2.2.has
        rw [Fl.Buck.fill_no (by omega)] at hs
        rw [e, o_eq T2.2.ok.fl.nn (show nn (Fl.ofI j) from g1.nn), hs, e2]
        exact decide_eq_true rfl
      clear T
      have tk := take_any B s t wr HR.out.1
      generalize s.take t = st at *
      go_wp2_with fail
      refine tk.mono ?_
      rintro e x2 ⟨rfl, h1, o1, _⟩
      have HN : Hid (Bk x2 B st.1 ∧ Only [] w x2) := ⟨h1, HR.out.2.1.then o1 (by simp; omega)⟩
      rw [T2.1]
      clear h1 o1 HR T2 tk
      go_wp2_with fail
      refine (level_any B _ _ HN.out.1).mono ?_
      rintro e w' ⟨rfl, hw⟩
      subst hw
      go_wp2_with fail
      go_ret
      exact ⟨rfl, HN.out.2.below (by omega) (by simp)⟩

set_option maxRecDepth 100000 in
theorem lifted (os : Os) (started : os.Started) (H : Type) (enc : TypeId × Value → H) :
    ReturnsInHanded {} Try.checked os 5 .any (Rows.bucketFillsSpec.pre6 enc Try.prog Try.f5 Rows.bucketFillsRow.domain false) (Rows.bucketFillsSpec.post enc Try.prog Try.f5 false true false false) := by
  refine returnsInHanded_of_change (C := Try.checked) own started (by kernel_rfl) Try.func5
    (ChangeSpec.witness6 (enc := enc) (C := Try.checked) false ⟨#[], #[.int .i64 0, .int .i64 0, .int .i64 0], []⟩ 8 (by kernel_rfl) (by kernel_rfl) (by kernel_rfl) (by kernel_rfl)) ?_
  intro W base args ds gs before hval0 hW hcnd _
  have hval : ∀ (j : Nat) t v, Try.f5.params[j]? = some t → args[j]? = some v → Value.okWide Try.prog W .any base t v := hval0
  have hW' := hW
  obtain ⟨p, q, hA0, hV, rfl, hfz, hnd⟩ := hW
  have hA : DataW.TrodAll enc Try.prog W 0 (fun _ => true) true Try.f5.params.toList args.toList ds p := hA0
  rw [Try.params5] at hA hval
  obtain ⟨v0, vs0, d0, ds0, p0, q0, hargs, rfl, rfl, h0, r0⟩ := trodAll_cons hA
  obtain ⟨v1, vs1, d1, ds1, p1, q1, rfl, rfl, rfl, h1, r1⟩ := trodAll_cons r0
  obtain ⟨v2, vs2, d2, ds2, p2, q2, rfl, rfl, rfl, h2, r2⟩ := trodAll_cons r1
  obtain ⟨rfl, rfl, rfl⟩ := trodAll_nil r2
  obtain rfl : args = #[v0, v1, v2] := by cases args; simp_all
  obtain ⟨rfl, rfl⟩ := trodVars_none hV
  obtain ⟨a0, rfl, rfl, rfl, w0⟩ := open_int Try.underlying3 (hval 0 3 v0 rfl rfl) h0
  obtain ⟨a1, rfl, rfl, rfl, w1⟩ := open_int Try.underlying3 (hval 1 3 v1 rfl rfl) h1
  obtain ⟨a2, rfl, rfl, rfl, w2⟩ := open_int Try.underlying3 (hval 2 3 v2 rfl rfl) h2
  clear hA0 hval0
  refine (walk a0 a1 a2 W w0 w1 w2).mono fun e W' ⟨he, bel⟩ => ?_
  subst he
  exact ⟨_, rfl, _, _, _, [], _, [], hW', trodAll_mk1 (shut_bool Try.underlying4 _), (trodAll_cons_mk (shut_int Try.underlying3 w0) (trodAll_cons_mk (shut_int Try.underlying3 w1) (trodAll_cons_mk (shut_int Try.underlying3 w2) trodAll_mk0))), rfl, bel.frame _, fun h => by cases h⟩

theorem over : Rows.bucketFillsRow.holds Try.pinned (OpenSpec.ofChange Rows.bucketFillsSpec) :=
  OpenClaim.holds_of_wide 5 Try.f5 rfl rfl rfl rfl rfl rfl rfl ⟨rfl, rfl, rfl, rfl, rfl⟩ rfl rfl rfl rfl rfl (by kernel_rfl) Try.func5 (by kernel_rfl)
    (of_decide_eq_true (by kernel_rfl)) (by unfold Func.isWrapper; first | (rw [if_pos (by decide +kernel)]; kernel_rfl) | (rw [if_neg (by decide +kernel)]; exact ⟨rfl, rfl⟩))
    (fun os started H enc _ => lifted os started H enc)

/-- THE STATEMENT -/
theorem proved : Rows.BucketFillsSaid := over
end Go.Proofs.Ytdglbllabfpfcaa.bucketFills

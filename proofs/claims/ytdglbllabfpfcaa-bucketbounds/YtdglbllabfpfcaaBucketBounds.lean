/- Proved: BucketBounds returns true for every input. No condition. -/
import Derived.Test.YtdglbllabfpfcaaBuckK
import Derived.Test.YtdglbllabfpfcaaFrame
import Derived.Deep.LoopGhost
namespace Go.Proofs.Ytdglbllabfpfcaa.bucketBounds
open Go.ChangeShapes Go.WideShapes Go.ChangeAt Go.RowKit
open Fl (V nn fin rg sg U G)
open Fl.Buck (S)
set_option linter.unusedVariables false

theorem ofI_V (k : Int) (h0 : 0 ≤ k) (h1 : k ≤ 1000000) : fin (Fl.ofI k) ∧ Fl.ofI k < 2 ^ 64 ∧ V (Fl.ofI k) = k * (U : Int) := by
  obtain ⟨f, v, l⟩ := Fl.ofInt_V k (by
    have : (1000000 : Nat) < 2 ^ 53 := by decide
    omega)
  exact ⟨f, l, v⟩

theorem pos_nat {z : Int} (h : 0 < z) : 0 < z.toNat := by omega
/-- k of so many parts -/
theorem quot (k : Int) (x y D b : Nat) (h0 : 0 ≤ k) (h1 : k ≤ 1000000) (hD : 0 < D) (hx : V x = (D : Int) * (U : Int)) (fx : fin x) (hy : V y = (b : Int) * (U : Int)) (fy : fin y) (ly : y < 2 ^ 64) (hk : k ≤ (b : Int) * (D : Int)) :
    Ieee.double.div (Fl.ofI k) x = some (Fl.divw (Fl.ofI k) x) ∧ fin (Fl.divw (Fl.ofI k) x) ∧ Fl.divw (Fl.ofI k) x < 2 ^ 64 ∧ 0 ≤ V (Fl.divw (Fl.ofI k) x) ∧ V (Fl.divw (Fl.ofI k) x) ≤ (b : Int) * (U : Int) := by
  have hU := Fl.Upos
  obtain ⟨f, l, v⟩ := ofI_V k h0 h1
  have px : 0 < (D : Int) * (U : Int) := Int.mul_pos (by omega) hU
  obtain ⟨r, e, R, _⟩ := Fl.div_fin (x := Fl.ofI k) f fx (by rw [hx]; exact px)
  have g : Fl.divw (Fl.ofI k) x = r := by unfold Fl.divw; rw [e]; rfl
  rw [g]
  rw [v, hx] at R
  have hD' : ((((D : Int) * (U : Int)).toNat : Nat) : Int) = (D : Int) * (U : Int) := Int.toNat_of_nonneg (Int.le_of_lt px)
  have hD0 : 0 < ((D : Int) * (U : Int)).toNat := pos_nat px
  have k1 := Fl.le_rounds (w := 0) hD0 R Fl.fin_0.nn (by decide) (by
    rw [Fl.V_0, Int.zero_mul]; exact Int.mul_nonneg (Int.mul_nonneg h0 (by omega)) (by omega))
  have k2 := Fl.rounds_le (w := y) hD0 R fy.nn ly (by
    rw [hD', hy, Int.mul_assoc]
    have : (b : Int) * (U : Int) * ((D : Int) * (U : Int)) = (b : Int) * (D : Int) * ((U : Int) * (U : Int)) := by
      rw [Int.mul_assoc, Int.mul_left_comm (U : Int), ← Int.mul_assoc]
    rw [this]
    exact Int.mul_le_mul_of_nonneg_right hk (Int.mul_nonneg (by omega) (by omega)))
  rw [Fl.V_0] at k1
  exact ⟨e, Fl.fin_le R.nn k1 fy k2, R.1, k1, by omega⟩

def c700 : Nat := 4649368480934526976
def c16 : Nat := 4625196817309499392
theorem V_700 : V c700 = ((700 : Nat) : Int) * (U : Int) := by decide +kernel
theorem fin_700 : fin c700 := by decide +kernel
theorem V_16 : V c16 = ((16 : Nat) : Int) * (U : Int) := by decide +kernel
theorem fin_16 : fin c16 := by decide +kernel
theorem V_5 : V 4617315517961601024 = ((5 : Nat) : Int) * (U : Int) := by decide +kernel
theorem fin_5 : fin 4617315517961601024 := by decide +kernel
theorem V_25 : V 4627730092099895296 = ((25 : Nat) : Int) * (U : Int) := by decide +kernel
theorem fin_25 : fin 4627730092099895296 := by decide +kernel
theorem V_26 : V 4628011567076605952 = 26 * (U : Int) := by decide +kernel
theorem fin_26 : fin 4628011567076605952 := by decide +kernel

structure Rate (p : Int) (r : Nat) : Prop where
  div : Ieee.double.div (Fl.ofI p) c700 = some r
  fin : fin r
  lt : r < 2 ^ 64
  p0 : 0 ≤ V r
  p5 : V r ≤ 5 * (U : Int)
theorem rate_spec (p : Int) (h1 : 0 ≤ p) (h2 : p ≤ 2999) : ∃ r, Rate p r := by
  obtain ⟨a, b, c, d, e⟩ := quot p c700 4617315517961601024 700 5 h1 (by omega) (by decide) V_700 fin_700 V_5 fin_5 (by decide) (by omega)
  exact ⟨_, a, b, c, d, e⟩
structure Depth (p : Int) (y d : Nat) : Prop where
  div : Ieee.double.div (Fl.ofI p) c16 = some y
  add : Ieee.double.add Fl.one y = some d
  fin : fin d
  lt : d < 2 ^ 64
  d1 : (U : Int) ≤ V d
  d2 : V d ≤ 26 * (U : Int)
theorem depth_spec (p : Int) (h1 : 0 ≤ p) (h2 : p ≤ 399) : ∃ y d, Depth p y d := by
  have hU := Fl.Upos
  obtain ⟨a, b, c, d, e⟩ := quot p c16 4627730092099895296 16 25 h1 (by omega) (by decide) V_16 fin_16 V_25 fin_25 (by decide) (by omega)
  generalize Fl.divw (Fl.ofI p) c16 = y at *
  obtain ⟨r, er, R, _⟩ := Fl.add_fin Fl.fin_one b
  rw [Fl.V_one] at R
  have k1 := Fl.le_rounds (w := Fl.one) (by decide) R Fl.fin_one.nn Fl.one_lt (by rw [Fl.V_one, Int.natCast_one, Int.mul_one]; omega)
  have k2 := Fl.rounds_le (w := 4628011567076605952) (by decide) R fin_26.nn (by decide) (by rw [V_26, Int.natCast_one, Int.mul_one]; omega)
  rw [Fl.V_one] at k1
  rw [V_26] at k2
  exact ⟨y, r, a, er, Fl.fin_le R.nn (by omega) fin_26 (by rw [V_26]; exact k2), R.1, k1, k2⟩

/-- what holds at each round -/
structure I (r d : Nat) (s : S) (t : Int) (g i : Nat) : Prop where
  ok : s.ok
  rate : s.rate = r
  depth : s.depth = d
  last : s.last = t
  sum : V s.level + (g : Int) * (U : Int) ≤ V d + V r * t + 3 * (i : Int) * (G : Int)

theorem I.step {r d : Nat} {s : S} {t : Int} {g i : Nat} (h : I r d s t g i) (h5 : V r ≤ 5 * (U : Int)) (x : Int) (hx : 0 ≤ x ∧ x ≤ 3) (ht : 0 ≤ t ∧ t ≤ 300) :
    I r d (s.take (t + x)).1 (t + x) (if (s.take (t + x)).2 then g + 1 else g) (i + 1) := by
  have hU := Fl.Upos
  have pr := h.ok.pr
  have e1 : V s.rate * (t + x - s.last) = V r * x := by rw [h.rate, h.last, show t + x - t = x by omega]
  have m1 : V r * x ≤ 15 * (U : Int) := by
    rw [h.rate] at pr
    have a := Int.mul_le_mul_of_nonneg_right h5 hx.1
    have b := Int.mul_le_mul_of_nonneg_left hx.2 (show 0 ≤ 5 * (U : Int) by omega)
    omega
  have k := Fl.Buck.take_up h.ok (t := t + x) (by rw [h.last]; omega) (by omega) (by rw [e1]; omega)
  rw [e1] at k
  obtain ⟨l1, l2, l3⟩ := Fl.Buck.take_last s (t + x) (by omega)
  have sm := h.sum
  refine ⟨Fl.Buck.take_ok h.ok _, l2.trans h.rate, l3.trans h.depth, by rw [l1, h.last]; omega, ?_⟩
  rw [Int.mul_add]
  have e3 : 3 * ((i + 1 : Nat) : Int) * (G : Int) = 3 * (i : Int) * (G : Int) + 3 * (G : Int) := by
    rw [Int.natCast_add, Int.natCast_one, Int.mul_add, Int.add_mul, Int.mul_one]
  rw [e3]
  cases hb : (s.take (t + x)).2
  · rw [hb] at k; simp only [Bool.false_eq_true, if_false] at k ⊢; omega
  · rw [hb] at k; simp only [if_true] at k ⊢
    have e4 : ((g + 1 : Nat) : Int) * (U : Int) = (g : Int) * (U : Int) + (U : Int) := by
      rw [Int.natCast_add, Int.natCast_one, Int.add_mul, Int.one_mul]
    rw [e4]; omega

/-- what is asked of a round -/
structure Q (r d : Nat) (s s' : S) (b : Bool) : Prop where
  q1 : (FloatKind.f64.format.order s'.level 0 == some .lt) = false
  q2 : (FloatKind.f64.format.order s'.level d == some .gt) = false
  q3 : b = false → (FloatKind.f64.format.order s'.level 4607182418800017408 == some .gt || FloatKind.f64.format.order s'.level 4607182418800017408 == some .eq) = false
  q4 : b = true → (FloatKind.f64.format.order s.level 4607182418800017408 == some .lt) = false ∨ (FloatKind.f64.format.order s.level 4607182418800017408 == some .lt) = true ∧ (FloatKind.f64.format.order r 0 == some .eq) = false
theorem asked {r d : Nat} {s : S} (ok : s.ok) (hr : s.rate = r) (hd : s.depth = d) (t : Int) (ht : t ≤ 1000000) : Q r d s (s.take t).1 (s.take t).2 := by
  have hU := Fl.Upos
  have ok' := Fl.Buck.take_ok ok t
  obtain ⟨l1, l2, l3⟩ := Fl.Buck.take_last s t ht
  have pl := ok'.pl
  have le := ok'.le
  rw [l3, hd] at le
  have fd := ok.fd
  have fr := ok.fr
  rw [hd] at fd
  rw [hr] at fr
  have e : s.take t = (s.fill t).one := by unfold S.take; rw [Int.min_eq_left ht]
  refine ⟨?_, ?_, fun hb => ?_, fun hb => ?_⟩
  · rw [o_lt ok'.fl.nn nn_c0, Fl.V_0]; exact decide_eq_false (by omega)
  · rw [o_gt ok'.fl.nn fd.nn]; exact decide_eq_false (by omega)
  · rw [o_ge ok'.fl.nn nn_c1, V_c1]
    refine decide_eq_false ?_
    rw [e] at hb ⊢
    rcases Int.lt_or_le (V (s.fill t).level) (U : Int) with h | h
    · rw [Fl.Buck.one_no h]; simp only; omega
    · rw [Fl.Buck.one_yes h] at hb; cases hb
  · rw [o_lt ok.fl.nn nn_c1, V_c1]
    by_cases h : V s.level < (U : Int)
    · right
      refine ⟨decide_eq_true h, ?_⟩
      rw [o_eq fr.nn nn_c0, Fl.V_0]
      refine decide_eq_false fun h0 => ?_
      have z := Fl.Buck.fill_zero ok ht (by rw [hr]; exact h0)
      rw [e, Fl.Buck.one_no (by omega)] at hb
      cases hb
    · left; exact decide_eq_false h

def c001 : Nat := 4562254508917369340
theorem V_001 : 1000 * (G : Int) ≤ V c001 ∧ V c001 ≤ (U : Int) := by decide +kernel
theorem fin_001 : fin c001 := by decide +kernel

structure End (r d : Nat) (t : Int) (g m1 a1 a2 : Nat) : Prop where
  ml : Ieee.double.mul r (Fl.ofI t) = some m1
  ad : Ieee.double.add d m1 = some a1
  ad2 : Ieee.double.add a1 c001 = some a2
  le : (FloatKind.f64.format.order (Fl.ofI g) a2 == some .lt || FloatKind.f64.format.order (Fl.ofI g) a2 == some .eq) = true
theorem at_end {r d : Nat} {s : S} {t : Int} {g i : Nat} (h : I r d s t g i) (h5 : V r ≤ 5 * (U : Int)) (h6 : V d ≤ 26 * (U : Int)) (hi : i ≤ 80) (hg : g ≤ 80) (ht : 0 ≤ t ∧ t ≤ 240) : ∃ m1 a1 a2, End r d t g m1 a1 a2 := by
  have hU := Fl.Upos
  have hG : (0 : Int) < (G : Int) := Int.natCast_pos.2 Fl.G_pos
  have eG : (U : Int) = 1099511627776 * (G : Int) := by rw [Fl.U_G, Int.natCast_mul]; rfl
  have fr := h.ok.fr
  have pr := h.ok.pr
  have fd := h.ok.fd
  have d1 := h.ok.d1
  have pl := h.ok.pl
  rw [h.rate] at fr pr
  rw [h.depth] at fd d1
  obtain ⟨ft, lt, vt⟩ := ofI_V t ht.1 (by omega)
  obtain ⟨fg, lg, vg⟩ := ofI_V (g : Int) (by omega) (by omega)
  obtain ⟨m1, e1, R1, _⟩ := Fl.mul_fin fr ft
  rw [vt, ← Int.mul_assoc] at R1
  have p0 : 0 ≤ V r * t := Int.mul_nonneg pr ht.1
  have p1 : V r * t ≤ 1200 * (U : Int) := by
    have a := Int.mul_le_mul_of_nonneg_right h5 ht.1
    have b := Int.mul_le_mul_of_nonneg_left ht.2 (show 0 ≤ 5 * (U : Int) by omega)
    omega
  obtain ⟨n1, n2, n3, n4⟩ := Fl.near_U R1 p0 (by omega)
  obtain ⟨a1, e2, R2, _⟩ := Fl.add_fin fd n4
  obtain ⟨o1, o2, o3, o4⟩ := Fl.near_1 R2 (by omega) (by omega)
  obtain ⟨a2, e3, R3, _⟩ := Fl.add_fin o4 fin_001
  have c := V_001
  obtain ⟨q1, q2, q3, q4⟩ := Fl.near_1 R3 (by omega) (by omega)
  refine ⟨m1, a1, a2, e1, e2, e3, o_le_t fg.nn q4.nn ?_⟩
  rw [vg]
  have sm := h.sum
  have b3 : 3 * (i : Int) * (G : Int) ≤ 240 * (G : Int) := Int.mul_le_mul_of_nonneg_right (by omega) (by omega)
  omega

set_option maxRecDepth 100000 in
set_option maxHeartbeats 4000000 in
theorem walk (a0 : Int) (a1 : Int) (s2 : Value) (a2 : List Int) (w : World) (w0 : (Lit.int .i64 a0).wf = true) (w1 : (Lit.int .i64 a1).wf = true) (w2 : CameI .i64 w s2 a2) :
    Calls Try.prog 4 #[.int .i64 a0, .int .i64 a1, s2] w fun e w' => e = .returned (.bool true) ∧ Below w.heap.size w w' := by
  obtain ⟨ao, cap, rfl, hcap, hcm, _, hcl⟩ := w2
  have HC : Hid (∀ i, i < a2.length → ∃ b o, ao = some ⟨b, o, none⟩ ∧ b < w.heap.size ∧ w.cell? ⟨b, o + i, none⟩ = some (.int .i64 (a2.getD i 0))) := fun i hi => by
    rcases hcl with h | ⟨b, o, h1, h2, h3⟩
    · rw [h] at hi; simp at hi
    · exact ⟨b, o, h1, h2, h3 i hi⟩
  clear hcl
  have m0 : a2.length ≤ 9223372036854775807 := by simp only [maxLen] at hcm; omega
  clear hcm
  generalize hn : a2.length = n at *
  clear hn w0 w1
  obtain ⟨p, hp⟩ : ∃ p, a0 % 3000 = p := ⟨_, rfl⟩
  have hp1 : 0 ≤ p ∧ p ≤ 2999 := by omega
  obtain ⟨q, hq⟩ : ∃ q, a1 % 400 = q := ⟨_, rfl⟩
  have hq1 : 0 ≤ q ∧ q ≤ 399 := by omega
  obtain ⟨r, R⟩ := rate_spec p hp1.1 hp1.2
  obtain ⟨y, d, D⟩ := depth_spec q hq1.1 hq1.2
  have b1 : ∀ w, (binOp .quo 22 (.float .f64 (floatOfInt .f64 p)) (.float .f64 4649368480934526976)).run Try.prog w = .ok (.float .f64 r) w := fun w => run_float_arith (P := Try.prog) w .quo 22 .f64 _ _ _ R.div
  have b2 : ∀ w, (binOp .quo 22 (.float .f64 (floatOfInt .f64 q)) (.float .f64 4625196817309499392)).run Try.prog w = .ok (.float .f64 y) w := fun w => run_float_arith (P := Try.prog) w .quo 22 .f64 _ _ _ D.div
  have b3 : ∀ w, (binOp .add 22 (.float .f64 4607182418800017408) (.float .f64 y)).run Try.prog w = .ok (.float .f64 d) w := fun w => run_float_arith (P := Try.prog) w .add 22 .f64 _ _ _ D.add
  have RD := Lib.hid (And.intro R D)
  have right : Hid (Fl.Buck.right r d) := ⟨⟨R.fin, R.p0⟩, D.fin.nn, D.d1, by have := Fl.Upos; have := D.d2; omega⟩
  have dd := o_self D.fin.nn
  have IS : Hid (I r d (Fl.Buck.new r d) 0 0 0) := by
    refine ⟨Fl.Buck.new_ok R.lt D.lt right.out, rfl, rfl, rfl, ?_⟩
    show V d + _ ≤ _
    simp
  clear R D
  go_enter Try.func4, Try.ntmps4
  go_wp2_with fail
  refine (pick_any _ _ (by omega) (by omega) _).mono ?_
  rintro e w' ⟨rfl, rfl⟩
  rw [hp]
  go_wp2_with fail
  refine (pick_any _ _ (by omega) (by omega) _).mono ?_
  rintro e w' ⟨rfl, rfl⟩
  rw [hq]
  go_wp2_with fail
  refine (new_right _ _ RD.out.1.lt RD.out.2.lt right.out _).mono ?_
  rintro e x0 ⟨rfl, h1, o1⟩
  obtain ⟨B, hB⟩ : ∃ B, w.heap.size = B := ⟨_, rfl⟩
  rw [hB] at h1 ⊢
  have H0 : Hid (Bk x0 B (Fl.Buck.new r d) ∧ Only [] w x0) := ⟨h1, o1⟩
  clear h1 o1
  go_wp2_with fail
  refine (known_any _).mono ?_
  rintro e x1 ⟨rfl, o1⟩
  have H1 : Hid (Bk x1 B (Fl.Buck.new r d) ∧ Only [] w x1 ∧ I r d (Fl.Buck.new r d) 0 0 0) := ⟨H0.out.1.only o1 (by simp), H0.out.2.trans o1, IS.out⟩
  clear o1 H0 IS right b1 b2 b3 hp hp1 hq hq1
  go_wp2_with fail
  refine (level_any B _ _ H1.out.1).mono ?_
  rintro e w' ⟨rfl, hw⟩
  subst hw
  rw [show (Fl.Buck.new r d).level = d from rfl]
  go_wp2_with fail
  clear dd
  go_loopg [11, 12, 13] 81 (fun gk vg vt vi wr => ∃ (i g : Nat) (t : Int) (s : S), vg = .int .i64 g ∧ vt = .int .i64 t ∧ vi = .int .i64 i ∧ i ≤ 80 ∧ i ≤ n ∧ 81 - i ≤ gk ∧ g ≤ i ∧ 0 ≤ t ∧ t ≤ 3 * i ∧ Hid (Bk wr B s ∧ Only [] w wr ∧ I r d s t g i))
  case atStart => exact ⟨0, 0, 0, _, rfl, rfl, rfl, by omega, by omega, by omega, by omega, by omega, by omega, H1.out⟩
  case round =>
    clear H1
    obtain ⟨i, g, t, s, rfl, rfl, rfl, hi, hin, hg, hgi, ht0, ht1, HR⟩ := hrel
    by_cases c : i < n ∧ i < 80
    · have z1 : (i : Int) < (n : Int) := by omega
      have z2 : (i : Int) < 80 := by omega
      obtain ⟨bb, o0, rfl, lb, hc⟩ := HC.out i c.1
      have hcell : wr.cell? ⟨bb, o0 + i, none⟩ = some (.int .i64 (a2.getD i 0)) := (HR.out.2.1.cell lb (by simp)).trans hc
      clear hc HC
      generalize a2.getD i 0 = x at hcell
      obtain ⟨v, hv⟩ : ∃ v, x % 4 = v := ⟨_, rfl⟩
      have hv1 : 0 ≤ v ∧ v ≤ 3 := by omega
      have ST := HR.out.2.2.step RD.out.1.p5 v hv1 ⟨ht0, by omega⟩
      have AS := asked HR.out.2.2.ok HR.out.2.2.rate HR.out.2.2.depth (t + v) (by omega)
      have tk := take_any B s (t + v) wr HR.out.1
      generalize s.take (t + v) = st at *
      obtain ⟨s2, b⟩ := st
      have q1 := AS.q1
      have q2 := AS.q2
      have q3 := AS.q3
      have q4 := AS.q4
      clear AS
      simp only at q1 q2 q3 q4 ST
      have cc : b = false ∨ (b = true ∧ (FloatKind.f64.format.order s.level 4607182418800017408 == some .lt) = false) ∨ (b = true ∧ (FloatKind.f64.format.order s.level 4607182418800017408 == some .lt) = true ∧ (FloatKind.f64.format.order r 0 == some .eq) = false) := by
        cases b
        · exact Or.inl rfl
        · rcases q4 rfl with h | h
          · exact Or.inr (Or.inl ⟨rfl, h⟩)
          · exact Or.inr (Or.inr ⟨rfl, h⟩)
      clear q4
      rcases cc with rfl | ⟨rfl, k1⟩ | ⟨rfl, k1, k2⟩
      · have k3 := q3 rfl
        clear q3
        simp only [Bool.false_eq_true, if_false] at ST
        have STh := Lib.hid ST
        clear ST
        go_wp2_with fail
        refine (pick_any _ _ (by omega) (by omega) _).mono ?_
        rintro e w' ⟨rfl, rfl⟩
        rw [hv]
        go_wp2_with fail
        refine (level_any B _ _ HR.out.1).mono ?_
        rintro e w' ⟨rfl, hw⟩
        subst hw
        go_wp2_with fail
        refine tk.mono ?_
        rintro e x2 ⟨rfl, h1, o1, _⟩
        have HN : Hid (Bk x2 B s2 ∧ Only [] w x2) := ⟨h1, HR.out.2.1.then o1 (by simp; omega)⟩
        clear h1 o1 HR tk
        simp only
        go_wp2_with (go_at_call 9; refine (level_any B _ _ HN.out.1).mono ?_; rintro e w' ⟨rfl, hw⟩; subst hw)
        go_roundg (80 - i)
        case measure => omega
        case rel => exact ⟨i + 1, g, t + v, _, rfl, rfl, rfl, by omega, by omega, by omega, by omega, by omega, by omega, HN.out.1, HN.out.2, STh.out⟩
      all_goals
        clear q3
        simp only [if_true] at ST
        have STh := Lib.hid ST
        clear ST
        go_wp2_with fail
        refine (pick_any _ _ (by omega) (by omega) _).mono ?_
        rintro e w' ⟨rfl, rfl⟩
        rw [hv]
        go_wp2_with fail
        refine (level_any B _ _ HR.out.1).mono ?_
        rintro e w' ⟨rfl, hw⟩
        subst hw
        go_wp2_with fail
        refine tk.mono ?_
        rintro e x2 ⟨rfl, h1, o1, _⟩
        have HN : Hid (Bk x2 B s2 ∧ Only [] w x2) := ⟨h1, HR.out.2.1.then o1 (by simp; omega)⟩
        clear h1 o1 HR tk
        simp only
        go_wp2_with (go_at_call 9; refine (level_any B _ _ HN.out.1).mono ?_; rintro e w' ⟨rfl, hw⟩; subst hw)
        go_roundg (80 - i)
        case measure => omega
        case rel => exact ⟨i + 1, g + 1, t + v, _, rfl, rfl, rfl, by omega, by omega, by omega, by omega, by omega, by omega, HN.out.1, HN.out.2, STh.out⟩
    · obtain ⟨m1, f1, f2, E⟩ := at_end HR.out.2.2 RD.out.1.p5 RD.out.2.d2 hi (by omega) ⟨ht0, by omega⟩
      have b1 : ∀ w, (binOp .mul 22 (.float .f64 r) (.float .f64 (floatOfInt .f64 t))).run Try.prog w = .ok (.float .f64 m1) w := fun w => run_float_arith (P := Try.prog) w .mul 22 .f64 _ _ _ E.ml
      have b2 : ∀ w, (binOp .add 22 (.float .f64 d) (.float .f64 m1)).run Try.prog w = .ok (.float .f64 f1) w := fun w => run_float_arith (P := Try.prog) w .add 22 .f64 _ _ _ E.ad
      have b3 : ∀ w, (binOp .add 22 (.float .f64 f1) (.float .f64 4562254508917369340)).run Try.prog w = .ok (.float .f64 f2) w := fun w => run_float_arith (P := Try.prog) w .add 22 .f64 _ _ _ E.ad2
      have b4 : (FloatKind.f64.format.order (floatOfInt .f64 (g : Int)) f2 == some .lt || FloatKind.f64.format.order (floatOfInt .f64 (g : Int)) f2 == some .eq) = true := E.le
      clear E
      by_cases c1 : i < n
      · have z1 : (i : Int) < (n : Int) := by omega
        have z2 : ¬ (i : Int) < 80 := by omega
        go_wp2_with fail
        go_ret
        exact ⟨rfl, HR.out.2.1.below (by omega) (by simp)⟩
      · have z1 : ¬ (i : Int) < (n : Int) := by omega
        go_wp2_with fail
        go_ret
        exact ⟨rfl, HR.out.2.1.below (by omega) (by simp)⟩

set_option maxRecDepth 100000 in
theorem lifted (os : Os) (started : os.Started) (H : Type) (enc : TypeId × Value → H) :
    ReturnsInHanded {} Try.checked os 4 .any (Rows.bucketBoundsSpec.pre6 enc Try.prog Try.f4 Rows.bucketBoundsRow.domain false) (Rows.bucketBoundsSpec.post enc Try.prog Try.f4 false true false false) := by
  refine returnsInHanded_of_change (C := Try.checked) own started (by kernel_rfl) Try.func4
    (ChangeSpec.witness6 (enc := enc) (C := Try.checked) false ⟨#[], #[.int .i64 0, .int .i64 0, .slice none 0 0], []⟩ 8 (by kernel_rfl) (by kernel_rfl) (by kernel_rfl) (by kernel_rfl)) ?_
  intro W base args ds gs before hval0 hW hcnd _
  have hval : ∀ (j : Nat) t v, Try.f4.params[j]? = some t → args[j]? = some v → Value.okWide Try.prog W .any base t v := hval0
  have hW' := hW
  obtain ⟨p, q, hA0, hV, rfl, hfz, hnd⟩ := hW
  have hA : DataW.TrodAll enc Try.prog W 0 (fun _ => true) true Try.f4.params.toList args.toList ds p := hA0
  rw [Try.params4] at hA hval
  obtain ⟨v0, vs0, d0, ds0, p0, q0, hargs, rfl, rfl, h0, r0⟩ := trodAll_cons hA
  obtain ⟨v1, vs1, d1, ds1, p1, q1, rfl, rfl, rfl, h1, r1⟩ := trodAll_cons r0
  obtain ⟨v2, vs2, d2, ds2, p2, q2, rfl, rfl, rfl, h2, r2⟩ := trodAll_cons r1
  obtain ⟨rfl, rfl, rfl⟩ := trodAll_nil r2
  obtain rfl : args = #[v0, v1, v2] := by cases args; simp_all
  obtain ⟨rfl, rfl⟩ := trodVars_none hV
  obtain ⟨a0, rfl, rfl, rfl, w0⟩ := open_int Try.underlying3 (hval 0 3 v0 rfl rfl) h0
  obtain ⟨a1, rfl, rfl, rfl, w1⟩ := open_int Try.underlying3 (hval 1 3 v1 rfl rfl) h1
  obtain ⟨e2, len2, cap2, rfl⟩ := okWide_slice Try.underlying33 (hval 2 33 v2 rfl rfl)
  have k2 := h2
  have lt2 : ∀ x ∈ p2, x.block < W.heap.size := by obtain ⟨m, hm⟩ := k2; exact DataW.trod_lt m _ _ _ hm
  obtain ⟨a2, w2⟩ := came_i Try.underlying33 Try.underlying3 (by kernel_rfl) h2
  clear hA0 hval0
  refine (walk a0 a1 _ a2 W w0 w1 w2).mono fun e W' ⟨he, bel⟩ => ?_
  subst he
  exact ⟨_, rfl, _, _, _, [], _, [], hW', trodAll_mk1 (shut_bool Try.underlying4 _), (trodAll_cons_mk (shut_int Try.underlying3 w0) (trodAll_cons_mk (shut_int Try.underlying3 w1) (trodAll_cons_mk (Below.trod laidOut (by kernel_rfl) (of_decide_eq_true (by kernel_rfl)) k2 bel lt2) trodAll_mk0))), rfl, bel.frame _, fun h => by cases h⟩

theorem over : Rows.bucketBoundsRow.holds Try.pinned (OpenSpec.ofChange Rows.bucketBoundsSpec) :=
  OpenClaim.holds_of_wide 4 Try.f4 rfl rfl rfl rfl rfl rfl rfl ⟨rfl, rfl, rfl, rfl, rfl⟩ rfl rfl rfl rfl rfl (by kernel_rfl) Try.func4 (by kernel_rfl)
    (of_decide_eq_true (by kernel_rfl)) (by unfold Func.isWrapper; first | (rw [if_pos (by decide +kernel)]; kernel_rfl) | (rw [if_neg (by decide +kernel)]; exact ⟨rfl, rfl⟩))
    (fun os started H enc _ => lifted os started H enc)

/-- THE STATEMENT -/
theorem proved : Rows.BucketBoundsSaid := over
end Go.Proofs.Ytdglbllabfpfcaa.bucketBounds

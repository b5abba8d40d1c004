/- Contracts of Between (the program's and the reference's), of the reference's Sooner and Alike. -/
import Derived.Test.YtpcmeajphfifiaaViewW
namespace Go.Proofs.Ytpcmeajphfifiaa
open Go.ChangeShapes Go.WideShapes Go.ChangeAt Go.RowKit
open Fl (V nn fin rg sg U)

theorem nn_max : nn 9218868437227405311 := by decide +kernel
theorem nn_mmax : nn 18442240474082181119 := by decide +kernel
theorem V_max : V 9218868437227405311 = (Fl.valR (Fl.inf - 1) : Int) := by decide +kernel
theorem V_mmax : V 18442240474082181119 = -(Fl.valR (Fl.inf - 1) : Int) := by decide +kernel
theorem max_lt {k : Nat} : Fl.valR (Fl.inf - 1) < Fl.valR k ↔ ¬ k < Fl.inf := by
  rw [Fl.valR_lt_iff]
  have : Fl.inf = 9218868437227405312 := by decide
  omega
theorem abs_gt {x : Nat} (h : nn x) : (FloatKind.f64.format.order (rg x) 9218868437227405311 == some .gt) = !decide (fin x) := by
  obtain ⟨r1, r2, r3, r4, r5⟩ := Fl.V_rg h
  rw [o_gt r2 nn_max, V_max]
  have e : V (rg x) = (Fl.valR (rg x) : Int) := by unfold V; rw [r4, r5]; rfl
  rw [e]
  by_cases c : fin x
  · rw [decide_eq_true c]
    refine decide_eq_false ?_
    intro hh
    exact (max_lt.1 (Int.ofNat_lt.1 hh)) c
  · rw [decide_eq_false c]
    refine decide_eq_true ?_
    exact Int.ofNat_lt.2 (max_lt.2 c)

set_option maxHeartbeats 800000 in
theorem finite_any (x : Nat) (hx : x < 2 ^ 64) (w : World) : Calls Try.prog 28 #[.float .f64 x] w fun e w' => e = .returned (.bool (decide (fin x))) ∧ w = w' := by
  by_cases h : nn x
  · have k1 : (!decide (nn x)) = false := by rw [decide_eq_true h]; rfl
    have k2 := abs_gt h
    cases c : decide (fin x)
    · rw [c] at k2
      clear h c
      go_enter Try.func28, Try.ntmps28
      go_wp2_with (first
        | (go_at_call 27; refine (isnan_any _ _).mono ?_; rintro e w' ⟨rfl, rfl⟩)
        | (go_at_call 38; refine (abs_any _ hx _).mono ?_; rintro e w' ⟨rfl, rfl⟩)
        | (go_at_call 36; go_in))
      go_ret
      exact ⟨rfl, rfl⟩
    · rw [c] at k2
      clear h c
      go_enter Try.func28, Try.ntmps28
      go_wp2_with (first
        | (go_at_call 27; refine (isnan_any _ _).mono ?_; rintro e w' ⟨rfl, rfl⟩)
        | (go_at_call 38; refine (abs_any _ hx _).mono ?_; rintro e w' ⟨rfl, rfl⟩)
        | (go_at_call 36; go_in))
      go_ret
      exact ⟨rfl, rfl⟩
  · have k1 : (!decide (nn x)) = true := by rw [decide_eq_false h]; rfl
    have k3 : decide (fin x) = false := decide_eq_false (fun c => h c.nn)
    rw [k3]
    clear h k3
    go_enter Try.func28, Try.ntmps28
    go_wp2_with (first
      | (go_at_call 27; refine (isnan_any _ _).mono ?_; rintro e w' ⟨rfl, rfl⟩))
    go_ret
    exact ⟨rfl, rfl⟩

theorem o_max {x : Nat} (h : nn x) : ((FloatKind.f64.format.order x 9218868437227405311 == some .gt) = (!decide (fin x) && !sg x)) ∧ ((FloatKind.f64.format.order x 18442240474082181119 == some .lt) = (!decide (fin x) && sg x)) := by
  rw [o_gt h nn_max, o_lt h nn_mmax, V_max, V_mmax]
  have hp : (0 : Int) ≤ (Fl.valR (Fl.inf - 1) : Int) := Int.natCast_nonneg _
  generalize hM : (Fl.valR (Fl.inf - 1) : Int) = M at hp
  have key : (M < (Fl.valR (rg x) : Int)) ↔ ¬ fin x := by rw [← hM]; exact Iff.trans Int.ofNat_lt max_lt
  unfold V
  cases sg x
  · simp only [Bool.false_eq_true, if_false]
    refine ⟨?_, ?_⟩
    · by_cases c : fin x
      · rw [decide_eq_true c]; exact decide_eq_false (fun h => key.1 h c)
      · rw [decide_eq_false c]; exact decide_eq_true (key.2 c)
    · rw [Bool.and_false]; exact decide_eq_false (by omega)
  · simp only [if_true]
    refine ⟨?_, ?_⟩
    · rw [Bool.not_true, Bool.and_false]; exact decide_eq_false (by omega)
    · by_cases c : fin x
      · rw [decide_eq_true c]; exact decide_eq_false (fun h => key.1 (by omega) c)
      · rw [decide_eq_false c]; exact decide_eq_true (by have := key.2 c; omega)

set_option maxHeartbeats 800000 in
theorem odd_any (x : Nat) (w : World) : Calls Try.prog 35 #[.float .f64 x] w fun e w' => e = .returned (.bool (!decide (fin x))) ∧ w = w' := by
  by_cases h : nn x
  · have k1 := o_self h
    obtain ⟨k2, k3⟩ := o_max h
    cases c : decide (fin x)
    · cases s : sg x
      · rw [c, s] at k2 k3
        clear h c s
        go_enter Try.func35, Try.ntmps35
        go_wp2
        go_ret
        exact ⟨rfl, rfl⟩
      · rw [c, s] at k2 k3
        clear h c s
        go_enter Try.func35, Try.ntmps35
        go_wp2
        go_ret
        exact ⟨rfl, rfl⟩
    · rw [c] at k2 k3
      clear h c
      go_enter Try.func35, Try.ntmps35
      go_wp2
      go_ret
      exact ⟨rfl, rfl⟩
  · have k1 := o_self_nan h
    have k3 : decide (fin x) = false := decide_eq_false (fun c => h c.nn)
    rw [k3]
    clear h k3
    go_enter Try.func35, Try.ntmps35
    go_wp2
    go_ret
    exact ⟨rfl, rfl⟩

/-! ### Between -/
theorem nn_half : nn 4602678819172646912 := by decide +kernel
theorem o_ge {x y : Nat} (hx : nn x) (hy : nn y) : (FloatKind.f64.format.order x y == some .gt || FloatKind.f64.format.order x y == some .eq) = decide (V y ≤ V x) := by
  rw [o_gt hx hy, o_eq hx hy]
  by_cases h : V y ≤ V x
  · rw [decide_eq_true h]
    rcases Int.lt_or_eq_of_le h with h | h
    · rw [decide_eq_true h]; rfl
    · rw [decide_eq_true h.symm, Bool.or_true]
  · rw [decide_eq_false h, decide_eq_false (by omega), decide_eq_false (by omega)]; rfl
theorem o_le {x y : Nat} (hx : nn x) (hy : nn y) : (FloatKind.f64.format.order x y == some .lt || FloatKind.f64.format.order x y == some .eq) = decide (V x ≤ V y) := by
  rw [o_lt hx hy, o_eq hx hy]
  by_cases h : V x ≤ V y
  · rw [decide_eq_true h]
    rcases Int.lt_or_eq_of_le h with h | h
    · rw [decide_eq_true h]; rfl
    · rw [decide_eq_true h, Bool.or_true]
  · rw [decide_eq_false h, decide_eq_false (by omega), decide_eq_false (by omega)]; rfl

set_option maxHeartbeats 800000 in
theorem along_any (a b t : Nat) (L : Fl.Lin a b t) (w : World) :
    Calls Try.prog 29 #[.float .f64 a, .float .f64 b, .float .f64 t] w fun e w' => e = .returned (.float .f64 (Fl.addw a (Fl.mulw (Fl.subw b a) t))) ∧ w = w' := by
  have b1 := fun w => run_float_arith (P := Try.prog) w .sub 22 .f64 b a _ L.sb
  have b2 := fun w => run_float_arith (P := Try.prog) w .mul 22 .f64 _ _ _ L.ml
  have b3 := fun w => run_float_arith (P := Try.prog) w .add 22 .f64 _ _ _ L.ad
  clear L
  go_enter Try.func29, Try.ntmps29
  go_wp2
  go_ret
  exact ⟨rfl, rfl⟩

set_option maxHeartbeats 1600000 in
theorem between_any (a b t : Nat) (ha : a < 2 ^ 64) (hb : b < 2 ^ 64) (w : World) :
    Calls Try.prog 14 #[.float .f64 a, .float .f64 b, .float .f64 t] w fun e w' => e = .returned (.float .f64 (Fl.btw a b t)) ∧ w = w' := by
  by_cases nt : nn t
  · have k1 : (!decide (nn t)) = false := by rw [decide_eq_true nt]; rfl
    have l0 := o_le nt nn_c0
    rw [Fl.V_0] at l0
    by_cases p : V t ≤ 0
    · rw [Fl.btw_no (fun h => by have := h.2; omega)]
      rw [decide_eq_true p] at l0
      clear nt p
      go_enter Try.func14, Try.ntmps14
      go_wp2_with (first
        | (go_at_call 27; refine (isnan_any _ _).mono ?_; rintro e w' ⟨rfl, rfl⟩)
        | (go_at_call 28; refine (finite_any _ (by assumption) _).mono ?_; rintro e w' ⟨rfl, rfl⟩)
        | (go_at_call 29; refine (along_any _ _ _ L _).mono ?_; rintro e w' ⟨rfl, rfl⟩))
      go_ret
      exact ⟨rfl, rfl⟩
    · rw [decide_eq_false p] at l0
      have hpos : nn t ∧ 0 < V t := ⟨nt, by omega⟩
      have l1 := o_ge nt nn_c1
      rw [V_c1] at l1
      by_cases q : (U : Int) ≤ V t
      · rw [Fl.btw_all hpos q]
        rw [decide_eq_true q] at l1
        clear nt p q hpos
        go_enter Try.func14, Try.ntmps14
        go_wp2_with (first
          | (go_at_call 27; refine (isnan_any _ _).mono ?_; rintro e w' ⟨rfl, rfl⟩)
          | (go_at_call 28; refine (finite_any _ (by assumption) _).mono ?_; rintro e w' ⟨rfl, rfl⟩)
          | (go_at_call 29; refine (along_any _ _ _ L _).mono ?_; rintro e w' ⟨rfl, rfl⟩))
        go_ret
        exact ⟨rfl, rfl⟩
      · rw [decide_eq_false q] at l1
        by_cases f : fin a ∧ fin b
        · have L := Fl.lin_spec (t := t) f.1 f.2 ha nt hpos.2 (by omega)
          rw [Fl.btw_lin hpos q f]
          have f1 : decide (fin a) = true := decide_eq_true f.1
          have f2 : decide (fin b) = true := decide_eq_true f.2
          clear nt p q hpos f
          go_enter Try.func14, Try.ntmps14
          go_wp2_with (first
            | (go_at_call 27; refine (isnan_any _ _).mono ?_; rintro e w' ⟨rfl, rfl⟩)
            | (go_at_call 28; refine (finite_any _ (by assumption) _).mono ?_; rintro e w' ⟨rfl, rfl⟩)
            | (go_at_call 29; refine (along_any _ _ _ L _).mono ?_; rintro e w' ⟨rfl, rfl⟩))
          go_ret
          exact ⟨rfl, rfl⟩
        · have l2 := o_lt nt nn_half
          have L : True := trivial
          by_cases lo : V t < V 4602678819172646912
          · rw [Fl.btw_low hpos q f lo]
            rw [decide_eq_true lo] at l2
            cases f1 : decide (fin a)
            · clear nt p q hpos f lo
              go_enter Try.func14, Try.ntmps14
              go_wp2_with (first
                | (go_at_call 27; refine (isnan_any _ _).mono ?_; rintro e w' ⟨rfl, rfl⟩)
                | (go_at_call 28; refine (finite_any _ (by assumption) _).mono ?_; rintro e w' ⟨rfl, rfl⟩)
                | (go_at_call 29; refine (along_any _ _ _ L _).mono ?_; rintro e w' ⟨rfl, rfl⟩))
              go_ret
              exact ⟨rfl, rfl⟩
            · have f2 : decide (fin b) = false := decide_eq_false (fun h => f ⟨of_decide_eq_true f1, h⟩)
              clear nt p q hpos f lo
              go_enter Try.func14, Try.ntmps14
              go_wp2_with (first
                | (go_at_call 27; refine (isnan_any _ _).mono ?_; rintro e w' ⟨rfl, rfl⟩)
                | (go_at_call 28; refine (finite_any _ (by assumption) _).mono ?_; rintro e w' ⟨rfl, rfl⟩)
                | (go_at_call 29; refine (along_any _ _ _ L _).mono ?_; rintro e w' ⟨rfl, rfl⟩))
              go_ret
              exact ⟨rfl, rfl⟩
          · rw [Fl.btw_high hpos q f lo]
            rw [decide_eq_false lo] at l2
            cases f1 : decide (fin a)
            · clear nt p q hpos f lo
              go_enter Try.func14, Try.ntmps14
              go_wp2_with (first
                | (go_at_call 27; refine (isnan_any _ _).mono ?_; rintro e w' ⟨rfl, rfl⟩)
                | (go_at_call 28; refine (finite_any _ (by assumption) _).mono ?_; rintro e w' ⟨rfl, rfl⟩)
                | (go_at_call 29; refine (along_any _ _ _ L _).mono ?_; rintro e w' ⟨rfl, rfl⟩))
              go_ret
              exact ⟨rfl, rfl⟩
            · have f2 : decide (fin b) = false := decide_eq_false (fun h => f ⟨of_decide_eq_true f1, h⟩)
              clear nt p q hpos f lo
              go_enter Try.func14, Try.ntmps14
              go_wp2_with (first
                | (go_at_call 27; refine (isnan_any _ _).mono ?_; rintro e w' ⟨rfl, rfl⟩)
                | (go_at_call 28; refine (finite_any _ (by assumption) _).mono ?_; rintro e w' ⟨rfl, rfl⟩)
                | (go_at_call 29; refine (along_any _ _ _ L _).mono ?_; rintro e w' ⟨rfl, rfl⟩))
              go_ret
              exact ⟨rfl, rfl⟩
  · rw [Fl.btw_no (fun h => nt h.1)]
    have k1 : (!decide (nn t)) = true := by rw [decide_eq_false nt]; rfl
    clear nt
    go_enter Try.func14, Try.ntmps14
    go_wp2_with (first
      | (go_at_call 27; refine (isnan_any _ _).mono ?_; rintro e w' ⟨rfl, rfl⟩)
      | (go_at_call 28; refine (finite_any _ (by assumption) _).mono ?_; rintro e w' ⟨rfl, rfl⟩)
      | (go_at_call 29; refine (along_any _ _ _ L _).mono ?_; rintro e w' ⟨rfl, rfl⟩))
    go_ret
    exact ⟨rfl, rfl⟩

set_option maxHeartbeats 1600000 in
theorem rbetween_any (a b t : Nat) (ha : a < 2 ^ 64) (w : World) :
    Calls Try.prog 21 #[.float .f64 a, .float .f64 b, .float .f64 t] w fun e w' => e = .returned (.float .f64 (Fl.btw a b t)) ∧ w = w' := by
  by_cases nt : nn t
  · have k1 := o_self nt
    have l0 := o_le nt nn_c0
    rw [Fl.V_0] at l0
    by_cases p : V t ≤ 0
    · rw [Fl.btw_no (fun h => by have := h.2; omega)]
      rw [decide_eq_true p] at l0
      clear nt p
      go_enter Try.func21, Try.ntmps21
      go_wp2_with (first
        | (go_at_call 35; refine (odd_any _ _).mono ?_; rintro e w' ⟨rfl, rfl⟩))
      go_ret
      exact ⟨rfl, rfl⟩
    · rw [decide_eq_false p] at l0
      have hpos : nn t ∧ 0 < V t := ⟨nt, by omega⟩
      have l1 := o_ge nt nn_c1
      rw [V_c1] at l1
      by_cases q : (U : Int) ≤ V t
      · rw [Fl.btw_all hpos q]
        rw [decide_eq_true q] at l1
        clear nt p q hpos
        go_enter Try.func21, Try.ntmps21
        go_wp2_with (first
          | (go_at_call 35; refine (odd_any _ _).mono ?_; rintro e w' ⟨rfl, rfl⟩))
        go_ret
        exact ⟨rfl, rfl⟩
      · rw [decide_eq_false q] at l1
        by_cases f : fin a ∧ fin b
        · have L := Fl.lin_spec (t := t) f.1 f.2 ha nt hpos.2 (by omega)
          rw [Fl.btw_lin hpos q f]
          have f1 : decide (fin a) = true := decide_eq_true f.1
          have f2 : decide (fin b) = true := decide_eq_true f.2
          have b1 := fun w => run_float_arith (P := Try.prog) w .sub 22 .f64 b a _ L.sb
          have b2 := fun w => run_float_arith (P := Try.prog) w .mul 22 .f64 _ _ _ L.ml
          have b3 := fun w => run_float_arith (P := Try.prog) w .add 22 .f64 _ _ _ L.ad
          clear L
          clear nt p q hpos f
          go_enter Try.func21, Try.ntmps21
          go_wp2_with (first
            | (go_at_call 35; refine (odd_any _ _).mono ?_; rintro e w' ⟨rfl, rfl⟩))
          go_ret
          exact ⟨rfl, rfl⟩
        · have l2 := o_lt nt nn_half
          have L : True := trivial
          by_cases lo : V t < V 4602678819172646912
          · rw [Fl.btw_low hpos q f lo]
            rw [decide_eq_true lo] at l2
            cases f1 : decide (fin a)
            · clear nt p q hpos f lo
              go_enter Try.func21, Try.ntmps21
              go_wp2_with (first
                | (go_at_call 35; refine (odd_any _ _).mono ?_; rintro e w' ⟨rfl, rfl⟩))
              go_ret
              exact ⟨rfl, rfl⟩
            · have f2 : decide (fin b) = false := decide_eq_false (fun h => f ⟨of_decide_eq_true f1, h⟩)
              clear nt p q hpos f lo
              go_enter Try.func21, Try.ntmps21
              go_wp2_with (first
                | (go_at_call 35; refine (odd_any _ _).mono ?_; rintro e w' ⟨rfl, rfl⟩))
              go_ret
              exact ⟨rfl, rfl⟩
          · rw [Fl.btw_high hpos q f lo]
            rw [decide_eq_false lo] at l2
            cases f1 : decide (fin a)
            · clear nt p q hpos f lo
              go_enter Try.func21, Try.ntmps21
              go_wp2_with (first
                | (go_at_call 35; refine (odd_any _ _).mono ?_; rintro e w' ⟨rfl, rfl⟩))
              go_ret
              exact ⟨rfl, rfl⟩
            · have f2 : decide (fin b) = false := decide_eq_false (fun h => f ⟨of_decide_eq_true f1, h⟩)
              clear nt p q hpos f lo
              go_enter Try.func21, Try.ntmps21
              go_wp2_with (first
                | (go_at_call 35; refine (odd_any _ _).mono ?_; rintro e w' ⟨rfl, rfl⟩))
              go_ret
              exact ⟨rfl, rfl⟩
  · rw [Fl.btw_no (fun h => nt h.1)]
    have k1 := o_self_nan nt
    clear nt
    go_enter Try.func21, Try.ntmps21
    go_wp2_with (first
      | (go_at_call 35; refine (odd_any _ _).mono ?_; rintro e w' ⟨rfl, rfl⟩))
    go_ret
    exact ⟨rfl, rfl⟩

/-! ### the reference's Sooner, and Alike -/
theorem V_zero_sg {a b : Nat} (e : V a = V b) (h : V a ≠ 0) : (!sg a && sg b) = false := by
  rw [Fl.sg_eq_of_V e h]; cases sg b <;> rfl
set_option maxHeartbeats 800000 in
theorem rsooner_any (a b : Nat) (ha : a < 2 ^ 64) (hb : b < 2 ^ 64) (w : World) :
    Calls Try.prog 22 #[.float .f64 a, .float .f64 b] w fun e w' => e = .returned (.bool (Fl.soon a b)) ∧ w = w' := by
  by_cases nb : nn b
  · have k1 := o_self nb
    by_cases na : nn a
    · have k2 := o_self na
      have e2 := o_gt na nb
      by_cases z : V a = 0 ∧ V b = 0
      · have z1 : (FloatKind.f64.format.order a 0 == some .eq) = true := by rw [o_eq na nn_c0, Fl.V_0]; exact decide_eq_true z.1
        have z2 : (FloatKind.f64.format.order b 0 == some .eq) = true := by rw [o_eq nb nn_c0, Fl.V_0]; exact decide_eq_true z.2
        rw [Fl.soon_eq na nb (by omega)]
        clear na nb z e2
        cases sa : sg a
        · go_enter Try.func22, Try.ntmps22
          go_wp2_with (first
            | (go_at_call 30; refine (signbit_any _ (by assumption) _).mono ?_; rintro e w' ⟨rfl, rfl⟩))
          go_ret
          exact ⟨ret_b (by simp), rfl⟩
        · go_enter Try.func22, Try.ntmps22
          go_wp2_with (first
            | (go_at_call 30; refine (signbit_any _ (by assumption) _).mono ?_; rintro e w' ⟨rfl, rfl⟩))
          go_ret
          exact ⟨rfl, rfl⟩
      · have H : Fl.soon a b = decide (V b < V a) := by
          by_cases e : V a = V b
          · rw [Fl.soon_eq na nb e, V_zero_sg e (by omega), decide_eq_false (by omega)]
          · rw [Fl.soon_ne na nb e]
        rw [H]
        by_cases za : V a = 0
        · have z1 : (FloatKind.f64.format.order a 0 == some .eq) = true := by rw [o_eq na nn_c0, Fl.V_0]; exact decide_eq_true za
          have z2 : (FloatKind.f64.format.order b 0 == some .eq) = false := by rw [o_eq nb nn_c0, Fl.V_0]; exact decide_eq_false (by omega)
          clear na nb z H za ha hb
          go_enter Try.func22, Try.ntmps22
          go_wp2
          go_ret
          exact ⟨rfl, rfl⟩
        · have z1 : (FloatKind.f64.format.order a 0 == some .eq) = false := by rw [o_eq na nn_c0, Fl.V_0]; exact decide_eq_false za
          clear na nb z H za ha hb
          go_enter Try.func22, Try.ntmps22
          go_wp2
          go_ret
          exact ⟨rfl, rfl⟩
    · have k2 := o_self_nan na
      rw [Fl.soon_nan_left na nb]
      clear na nb ha hb
      go_enter Try.func22, Try.ntmps22
      go_wp2
      go_ret
      exact ⟨rfl, rfl⟩
  · have k1 := o_self_nan nb
    rw [Fl.soon_nan_right a nb]
    clear nb ha hb
    go_enter Try.func22, Try.ntmps22
    go_wp2
    go_ret
    exact ⟨rfl, rfl⟩

def alk (a b : Nat) : Bool := (!decide (nn a) && !decide (nn b)) || ((a : Int) == (b : Int))
theorem alk_self (a : Nat) : alk a a = true := by unfold alk; simp
theorem alk_of {a b : Nat} (h : (¬ nn a ∧ ¬ nn b) ∨ (nn a ∧ nn b ∧ a = b)) : alk a b = true := by
  unfold alk
  rcases h with ⟨h1, h2⟩ | ⟨_, _, rfl⟩
  · rw [decide_eq_false h1, decide_eq_false h2]; rfl
  · simp
set_option maxHeartbeats 800000 in
theorem alike_any (a b : Nat) (w : World) :
    Calls Try.prog 20 #[.float .f64 a, .float .f64 b] w fun e w' => e = .returned (.bool (alk a b)) ∧ w = w' := by
  unfold alk
  by_cases na : nn a
  · have k1 := o_self na
    rw [decide_eq_true na]
    clear na
    go_enter Try.func20, Try.ntmps20
    go_wp2
    go_ret
    exact ⟨rfl, rfl⟩
  · have k1 := o_self_nan na
    rw [decide_eq_false na]
    clear na
    by_cases nb : nn b
    · have k2 := o_self nb
      rw [decide_eq_true nb]
      clear nb
      go_enter Try.func20, Try.ntmps20
      go_wp2
      go_ret
      exact ⟨rfl, rfl⟩
    · have k2 := o_self_nan nb
      rw [decide_eq_false nb]
      clear nb
      go_enter Try.func20, Try.ntmps20
      go_wp2
      go_ret
      exact ⟨rfl, rfl⟩

end Go.Proofs.Ytpcmeajphfifiaa

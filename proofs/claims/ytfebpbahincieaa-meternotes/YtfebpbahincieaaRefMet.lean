/- The reference's Meter in memory: the contracts of its Note and Lead. -/
import Derived.Test.YtfebpbahincieaaMetrN
namespace Go.Proofs.Ytfebpbahincieaa
open Go.ChangeShapes Go.WideShapes Go.ChangeAt Go.RowKit
open Fl (V nn fin rg sg U)

/-- what the reference makes of a sample -/
theorem plain {x : Nat} (lx : x < 2 ^ 64) (hx : Fl.Metr.sample x) : ∃ z, Ieee.double.add x 0 = some z ∧ (((FloatKind.f64.format.order z 0 == some .eq) = true ∧ rg x = 0) ∨ ((FloatKind.f64.format.order z 0 == some .eq) = false ∧ z = rg x)) := by
  obtain ⟨z, e, R, s⟩ := Fl.add_fin hx.fin Fl.fin_0
  rw [Fl.V_0, Int.add_zero] at R s
  have v := Fl.rounds_exact (w := x) (by decide) R hx.1 lx (by rw [Int.natCast_one, Int.mul_one])
  have o := o_eq R.nn nn_c0
  rw [Fl.V_0, v] at o
  refine ⟨z, e, ?_⟩
  by_cases c : V x = 0
  · left
    rw [decide_eq_true c] at o
    refine ⟨o, Fl.valR_inj ?_⟩
    rw [Fl.valR_zero]
    unfold V at c
    split at c <;> omega
  · right
    rw [decide_eq_false c] at o
    refine ⟨o, ?_⟩
    have p : 0 < V x := by have := hx.2.1; omega
    have r : rg x = x := by
      have := Fl.word_self lx
      rw [Fl.sg_of_pos p] at this
      exact this
    rw [r]
    exact Fl.rounds_unique (by decide) R (Fl.rounds_self hx.1 lx) (fun h => absurd h c)

theorem neg_rg {x : Nat} (h : x < 2 ^ 64) (hn : nn x) (hs : V x < 0) : Op.negFloat .f64 x = rg x := by
  show Fl.neg x = rg x
  have s1 : sg x = true := by
    cases hs' : sg x
    · have := Fl.V_sg hs'; omega
    · rfl
  refine Fl.word_ext (Fl.neg_lt h) (Fl.V_rg hn).2.2.1 ?_ ?_
  · rw [Fl.sg_neg h, s1, (Fl.V_rg hn).2.2.2.1]; rfl
  · rw [Fl.rg_neg, (Fl.V_rg hn).2.2.2.2]
theorem rg_same {x : Nat} (h : x < 2 ^ 64) (hs : sg x = false) : rg x = x := by
  have := Fl.word_self h
  rw [hs] at this
  exact this

/-- a sample is noted -/
theorem rnote_yes (b : Nat) (s : Fl.Metr.S) (x : Nat) (lx : x < 2 ^ 64) (hx : Fl.Metr.sample x) (hc : s.count < 1000000) (w : World) (h : Mt w b s) : Calls Try.prog 18 #[.pointer (some ⟨b, 0, none⟩), .float .f64 x] w fun e w' => e = .returned (.bool true) ∧ Mt w' b (s.note x) ∧ Only [b] w w' ∧ w'.heap.size = w.heap.size := by
  have g := o_ge hx.1 nn_c0
  have l := o_le hx.1 Fl.Metr.fin_mil.nn
  rw [Fl.V_0, decide_eq_true hx.2.1] at g
  rw [Fl.Metr.V_mil, decide_eq_true hx.2.2] at l
  unfold Fl.Metr.mil at l
  obtain ⟨z, ez, hz⟩ := plain lx hx
  have bz := fun w => run_float_arith (P := Try.prog) w .add 22 .f64 _ _ _ ez
  have c0 := h.blk.cell 0
  have c1 := h.blk.cell 1
  have c2 := h.blk.cell 2
  simp at c0 c1 c2
  have f0 := h.blk.frozen 0
  have f1 := h.blk.frozen 1
  have f2 := h.blk.frozen 2
  have p0 := h.ok.c0
  have hY := Fl.V_rg hx.1
  have fy : fin (rg x) := by have f := hx.fin; unfold Fl.fin rg at *; rw [Nat.mod_mod]; exact f
  have hy : Fl.Metr.sample (rg x) := ⟨hY.2.1, Fl.V_sg hY.2.2.2.1, by have := hx.2.1; have := hx.2.2; rw [hY.1]; omega⟩
  rw [← Fl.Metr.note_rg h.ok lx hx]
  have K := Lib.hid (Fl.Metr.note_ok h.ok hY.2.2.1 hy)
  by_cases c : s.count = 0
  · rw [Fl.Metr.note_first c, hY.2.2.2.2] at K ⊢
    rw [c] at c0
    have H := Lib.hid h.blk
    clear h lx hx hY hy fy ez
    generalize rg x = y at *
    rcases hz with ⟨z1, z2⟩ | ⟨z1, z2⟩
    all_goals
      subst z2
      go_enter Try.func18, Try.ntmps18
      go_wp2_with fail
      go_ret
      refine ⟨rfl, ⟨(H.out.set 0 _).set 1 _, K.out⟩, ((Only.refl _ _).setCell (by simp) _).setCell (by simp) _, ?_⟩
      simp [World.setCell]
  · rw [Fl.Metr.note_later c] at K ⊢
    have nz : ¬ s.count + 1 = 1 := by omega
    have F := Fl.Metr.foll h.ok hY.2.2.1 hy
    have b1 := fun w => run_float_arith (P := Try.prog) w .sub 22 .f64 _ _ _ F.e1
    have b2 := fun w => run_float_arith (P := Try.prog) w .sub 22 .f64 _ _ _ F.e2
    have b3 := fun w => run_float_arith (P := Try.prog) w .quo 22 .f64 _ _ _ F.e3
    have b4 := fun w => run_float_arith (P := Try.prog) w .add 22 .f64 _ _ _ F.e4
    have b5 := fun w => run_float_arith (P := Try.prog) w .quo 22 .f64 _ _ _ F.e5
    have b6 := fun w => run_float_arith (P := Try.prog) w .add 22 .f64 _ _ _ F.e6
    unfold Fl.Metr.four at b3
    unfold Fl.Metr.eight at b5
    have hneg : ∀ b w, (Op.unary .neg (.float .f64 b)).run Try.prog w = .ok (.float .f64 (Op.negFloat .f64 b)) w := fun _ _ => rfl
    have od := o_lt F.f1.nn nn_c0
    rw [Fl.V_0] at od
    have way : (FloatKind.f64.format.order (s.dif (rg x)) 0 == some .lt) = true ∧ Op.negFloat .f64 (s.dif (rg x)) = rg (s.dif (rg x)) ∨ (FloatKind.f64.format.order (s.dif (rg x)) 0 == some .lt) = false ∧ rg (s.dif (rg x)) = s.dif (rg x) := by
      by_cases d : V (s.dif (rg x)) < 0
      · rw [decide_eq_true d] at od
        exact Or.inl ⟨od, neg_rg F.r1.1 F.r1.nn d⟩
      · rw [decide_eq_false d] at od
        refine Or.inr ⟨od, rg_same F.r1.1 ?_⟩
        rcases Int.lt_or_eq_of_le (show 0 ≤ V (s.dif (rg x)) by omega) with q | q
        · exact Fl.sg_of_pos q
        · exact Fl.Metr.dif_sg h.ok hY.2.2.2.1 fy q.symm
    have H := Lib.hid h.blk
    clear h lx hx hY hy fy ez F od
    generalize s.mean' (rg x) = m at *
    generalize s.eig (rg x) = p at *
    generalize s.jit' (rg x) = j at *
    generalize s.qrt (rg x) = q at *
    generalize s.off (rg x) = o at *
    generalize s.dif (rg x) = d at *
    generalize rg x = y at *
    rcases hz with ⟨z1, z2⟩ | ⟨z1, z2⟩
    all_goals
      subst z2
      rcases way with ⟨d1, d2⟩ | ⟨d1, d2⟩
      all_goals
        try rw [d2] at b2
        go_enter Try.func18, Try.ntmps18
        go_wp2_with fail
        go_ret
        refine ⟨rfl, ⟨((H.out.set 0 _).set 2 _).set 1 _, K.out⟩, (((Only.refl _ _).setCell (by simp) _).setCell (by simp) _).setCell (by simp) _, ?_⟩
        simp [World.setCell]

/-- what is none turns nothing -/
theorem rnote_no (b : Nat) (x : Nat) (hx : ¬ Fl.Metr.sample x) (w : World) : Calls Try.prog 18 #[.pointer (some ⟨b, 0, none⟩), .float .f64 x] w fun e w' => e = .returned (.bool false) ∧ w' = w := by
  have way : (FloatKind.f64.format.order x 0 == some .gt || FloatKind.f64.format.order x 0 == some .eq) = false ∨ (FloatKind.f64.format.order x 0 == some .gt || FloatKind.f64.format.order x 0 == some .eq) = true ∧ (FloatKind.f64.format.order x 4696837146684686336 == some .lt || FloatKind.f64.format.order x 4696837146684686336 == some .eq) = false := by
    by_cases n : nn x
    · have g := o_ge n nn_c0
      have l := o_le n Fl.Metr.fin_mil.nn
      rw [Fl.V_0] at g
      rw [Fl.Metr.V_mil] at l
      by_cases p : 0 ≤ V x
      · rw [decide_eq_true p] at g
        rw [decide_eq_false (fun h => hx ⟨n, p, h⟩)] at l
        exact Or.inr ⟨g, l⟩
      · rw [decide_eq_false p] at g
        exact Or.inl g
    · exact Or.inl (o_ge_nan 0 n)
  clear hx
  rcases way with g | ⟨g, l⟩
  all_goals
    go_enter Try.func18, Try.ntmps18
    go_wp2_with fail
    go_ret
    exact ⟨rfl, rfl⟩
theorem rnote_any (b : Nat) (s : Fl.Metr.S) (x : Nat) (lx : x < 2 ^ 64) (hc : s.count < 1000000) (w : World) (h : Mt w b s) : Calls Try.prog 18 #[.pointer (some ⟨b, 0, none⟩), .float .f64 x] w fun e w' => e = .returned (.bool (decide (Fl.Metr.sample x))) ∧ Mt w' b (s.told x) ∧ Only [b] w w' ∧ w'.heap.size = w.heap.size := by
  by_cases hx : Fl.Metr.sample x
  · rw [decide_eq_true hx, show s.told x = s.note x from if_pos hx]
    exact rnote_yes b s x lx hx hc w h
  · rw [decide_eq_false hx, show s.told x = s from if_neg hx]
    refine (rnote_no b x hx w).mono ?_
    rintro e w' ⟨rfl, rfl⟩
    exact ⟨rfl, h, Only.refl _ _, rfl⟩

theorem V_16 : V 4625196817309499392 = 16 * (U : Int) := by decide +kernel
theorem fin_16 : fin 4625196817309499392 := by decide +kernel
set_option maxHeartbeats 2000000 in
theorem rlead_any (b : Nat) (s : Fl.Metr.S) (p : Int) (w : World) (h : Mt w b s) : Calls Try.prog 20 #[.pointer (some ⟨b, 0, none⟩), .int .i64 p] w fun e w' => e = .returned (.int .i64 (s.lead p)) ∧ w' = w := by
  have L := Fl.Metr.lead_spec h.ok (p := Fl.Metr.clamp p) (by unfold Fl.Metr.clamp; omega) (by unfold Fl.Metr.clamp; omega)
  have c1 := h.blk.cell 1
  have c2 := h.blk.cell 2
  simp at c1 c2
  have b1 := fun w => run_float_arith (P := Try.prog) w .quo 22 .f64 _ _ _ L.e1
  have b2 := fun w => run_float_arith (P := Try.prog) w .mul 22 .f64 _ _ _ L.e2
  have b3 := fun w => run_float_arith (P := Try.prog) w .add 22 .f64 _ _ _ L.e3
  have b4 : ∀ w, (binOp .quo 22 (.float .f64 s.all) (.float .f64 (floatOfInt .f64 (Fl.Metr.clamp p)))).run Try.prog w = .ok (.float .f64 (s.per (Fl.Metr.clamp p))) w := fun w => run_float_arith (P := Try.prog) w .quo 22 .f64 _ _ _ L.e4
  have ce := ceil_any _ L.num
  have le := L.le
  have cv := conv_any _ _ L.le L.int
  have og := o_ge L.fu.nn fin_16.nn
  rw [V_16, L.vu] at og
  unfold Fl.Metr.two at b1 b2
  have k : (p ≤ 1 ∧ p < 8 ∧ Fl.Metr.clamp p = 1) ∨ (1 < p ∧ p < 8 ∧ Fl.Metr.clamp p = p) ∨ (8 ≤ p ∧ 1 < p ∧ Fl.Metr.clamp p = 8) := by unfold Fl.Metr.clamp; omega
  have E : s.lead p = min ((s.frames (Fl.Metr.clamp p) : Int) + 1) 16 := rfl
  rw [E]
  clear E L h
  generalize s.frames (Fl.Metr.clamp p) = f at *
  generalize Fl.up (s.per (Fl.Metr.clamp p)) = u at *
  generalize s.per (Fl.Metr.clamp p) = q at *
  generalize s.all = a at *
  generalize s.half = hh at *
  generalize s.twi = tw at *
  have kf : ((f : Int) + 1 < 16 ∧ min ((f : Int) + 1) 16 = (f : Int) + 1 ∧ decide (16 * (U : Int) ≤ (f : Int) * (U : Int)) = false) ∨ (f = 15 ∧ min ((f : Int) + 1) 16 = 16 ∧ decide (16 * (U : Int) ≤ (f : Int) * (U : Int)) = false) ∨ (16 ≤ (f : Int) ∧ min ((f : Int) + 1) 16 = 16 ∧ decide (16 * (U : Int) ≤ (f : Int) * (U : Int)) = true) := by
    have hU := Fl.Upos
    rcases Int.lt_or_le (f : Int) 16 with c | c
    · have d : decide (16 * (U : Int) ≤ (f : Int) * (U : Int)) = false := by
        have := Int.mul_lt_mul_of_pos_right c hU
        exact decide_eq_false (by omega)
      by_cases g : f = 15
      · exact Or.inr (Or.inl ⟨g, by omega, d⟩)
      · exact Or.inl ⟨by omega, by omega, d⟩
    · exact Or.inr (Or.inr ⟨c, by omega, decide_eq_true (Int.mul_le_mul_of_nonneg_right c (by omega))⟩)
  rcases k with ⟨k1, k2, k3⟩ | ⟨k1, k2, k3⟩ | ⟨k1, k2, k3⟩
  all_goals
    rw [k3] at b4
    rcases kf with ⟨kf1, kf2, kf3⟩ | ⟨kf1, kf2, kf3⟩ | ⟨kf1, kf2, kf3⟩
    all_goals
      rw [kf2]
      rw [kf3] at og
      clear kf2 kf3
      try subst kf1
      clear k3
      go_enter Try.func20, Try.ntmps20
      go_wp2_with fail
      refine (ce _).mono ?_
      rintro e w' ⟨rfl, rfl⟩
      go_wp2_with fail
      go_ret
      exact ⟨rfl, rfl⟩
end Go.Proofs.Ytfebpbahincieaa

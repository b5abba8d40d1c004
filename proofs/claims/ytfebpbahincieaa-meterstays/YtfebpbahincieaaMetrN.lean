/- Package meter in memory: the contracts of follow, Note, Lead. -/
import Derived.Test.YtfebpbahincieaaMetrW
namespace Go.Proofs.Ytfebpbahincieaa
open Go.ChangeShapes Go.WideShapes Go.ChangeAt Go.RowKit
open Fl (V nn fin rg sg U)

/-- where the jitter is told anew -/
structure MtJ (w w1 : World) (b : Nat) (s : Fl.Metr.S) (j : Nat) : Prop where
  blk : Blk w1 b [.int .i64 s.count, .float .f64 s.mean, .float .f64 j]
  only : Only [b] w w1
  size : w1.heap.size = w.heap.size

theorem follow_any (b : Nat) (s : Fl.Metr.S) (x : Nat) (lx : x < 2 ^ 64) (hx : Fl.Metr.sample x) (w : World) (h : Mt w b s) : Calls Try.prog 24 #[.pointer (some ⟨b, 0, none⟩), .float .f64 x] w fun e w' => e = .returned (.tuple #[]) ∧ Blk w' b [.int .i64 s.count, .float .f64 (s.mean' x), .float .f64 (s.jit' x)] ∧ Only [b] w w' ∧ w'.heap.size = w.heap.size := by
  have F := Fl.Metr.foll h.ok lx hx
  have c1 := h.blk.cell 1
  have c2 := h.blk.cell 2
  simp at c1 c2
  have b1 := fun w => run_float_arith (P := Try.prog) w .sub 22 .f64 _ _ _ F.e1
  have b2 := fun w => run_float_arith (P := Try.prog) w .sub 22 .f64 _ _ _ F.e2
  have b3 := fun w => run_float_arith (P := Try.prog) w .quo 22 .f64 _ _ _ F.e3
  have b4 := fun w => run_float_arith (P := Try.prog) w .add 22 .f64 _ _ _ F.e4
  have b5 := fun w => run_float_arith (P := Try.prog) w .quo 22 .f64 _ _ _ F.e5
  have b6 := fun w => run_float_arith (P := Try.prog) w .add 22 .f64 _ _ _ F.e6
  unfold Fl.Metr.four at b3
  unfold Fl.Metr.eight at b5
  have ab := abs_any (s.dif x) F.r1.1
  have H := Lib.hid h.blk
  clear F h lx hx
  generalize s.mean' x = m at *
  generalize s.eig x = p at *
  generalize s.jit' x = j at *
  generalize s.qrt x = q at *
  generalize s.off x = o at *
  generalize s.dif x = d at *
  go_enter Try.func24, Try.ntmps24
  go_wp2_with fail
  go_still_tail 15, (by kernel_rfl)
  still_call ((ab _).mono fun _ _ h => ⟨h.1, h.2.symm⟩)
  repeat still_step
  refine wpStill_nil ?_
  change wpList _ _ _ _ _ w.drew
  have H2 : Hid (MtJ w w.drew b s s.jit) := ⟨H.out.only (only_drew w) (by simp), (only_drew w).weaken (by simp), rfl⟩
  clear H c1 c2
  generalize w.drew = w2 at *
  have c1 := H2.out.blk.cell 1
  have c2 := H2.out.blk.cell 2
  simp at c1 c2
  have f1 := H2.out.blk.frozen 1
  have f2 := H2.out.blk.frozen 2
  go_wp2_with fail
  go_end0
  refine ⟨rfl, (H2.out.blk.set 2 _).set 1 _, H2.out.only.trans (((Only.refl _ _).setCell (by simp) _).setCell (by simp) _), ?_⟩
  simp [World.setCell]; exact H2.out.size

/-- a sample is noted -/
theorem note_yes (b : Nat) (s : Fl.Metr.S) (x : Nat) (lx : x < 2 ^ 64) (hx : Fl.Metr.sample x) (hc : s.count < 1000000) (w : World) (h : Mt w b s) : Calls Try.prog 9 #[.pointer (some ⟨b, 0, none⟩), .float .f64 x] w fun e w' => e = .returned (.bool true) ∧ Mt w' b (s.note x) ∧ Only [b] w w' ∧ w'.heap.size = w.heap.size := by
  have hn := decide_eq_true hx
  have iss := issample_any x
  rw [hn] at iss
  have c0 := h.blk.cell 0
  have c1 := h.blk.cell 1
  simp at c0 c1
  have f0 := h.blk.frozen 0
  have f1 := h.blk.frozen 1
  have p0 := h.ok.c0
  have K := Lib.hid (Fl.Metr.note_ok h.ok lx hx)
  by_cases c : s.count = 0
  · rw [Fl.Metr.note_first c] at K ⊢
    rw [c] at c0
    have ab := abs_any x lx
    have H := Lib.hid h.blk
    clear h lx hx hn
    go_enter Try.func9, Try.ntmps9
    go_wp2_with fail
    refine (iss _).mono ?_
    rintro e w' ⟨rfl, rfl⟩
    go_wp2_with fail
    refine (ab _).mono ?_
    rintro e w' ⟨rfl, rfl⟩
    go_wp2_with fail
    go_ret
    refine ⟨rfl, ⟨(H.out.set 0 _).set 1 _, K.out⟩, ((Only.refl _ _).setCell (by simp) _).setCell (by simp) _, ?_⟩
    simp [World.setCell]
  · rw [Fl.Metr.note_later c] at K ⊢
    have nz : ¬ s.count + 1 = 1 := by omega
    have H := Lib.hid h.blk
    have OK : Hid _ := h.ok
    have FO : Hid _ := follow_any b ⟨s.count + 1, s.mean, s.jit⟩ x lx hx
    clear h lx hx hn
    go_enter Try.func9, Try.ntmps9
    go_wp2_with fail
    refine (iss _).mono ?_
    rintro e w' ⟨rfl, rfl⟩
    go_wp2_with fail
    refine (FO.out _ ⟨H.out.set 0 _, ⟨OK.out.fm, OK.out.lm, OK.out.sm, OK.out.m1, OK.out.fj, OK.out.lj, OK.out.sj, OK.out.j1, by show 0 ≤ s.count + 1; omega⟩⟩).mono ?_
    rintro e w' ⟨rfl, h1, h2, h3⟩
    have HF : Hid _ := And.intro h1 (And.intro h2 h3)
    clear h1 h2 h3
    go_wp2_with fail
    go_ret
    refine ⟨rfl, ⟨HF.out.1, K.out⟩, ((Only.refl _ _).setCell (by simp) _).trans HF.out.2.1, ?_⟩
    rw [HF.out.2.2]; simp [World.setCell]
/-- what is none turns nothing -/
theorem note_no (b : Nat) (x : Nat) (hx : ¬ Fl.Metr.sample x) (w : World) : Calls Try.prog 9 #[.pointer (some ⟨b, 0, none⟩), .float .f64 x] w fun e w' => e = .returned (.bool false) ∧ w' = w := by
  have hn := decide_eq_false hx
  have iss := issample_any x
  rw [hn] at iss
  clear hx hn
  go_enter Try.func9, Try.ntmps9
  go_wp2_with fail
  refine (iss _).mono ?_
  rintro e w' ⟨rfl, rfl⟩
  go_wp2_with fail
  go_ret
  exact ⟨rfl, rfl⟩
theorem note_any (b : Nat) (s : Fl.Metr.S) (x : Nat) (lx : x < 2 ^ 64) (hc : s.count < 1000000) (w : World) (h : Mt w b s) : Calls Try.prog 9 #[.pointer (some ⟨b, 0, none⟩), .float .f64 x] w fun e w' => e = .returned (.bool (decide (Fl.Metr.sample x))) ∧ Mt w' b (s.told x) ∧ Only [b] w w' ∧ w'.heap.size = w.heap.size := by
  by_cases hx : Fl.Metr.sample x
  · rw [decide_eq_true hx, show s.told x = s.note x from if_pos hx]
    exact note_yes b s x lx hx hc w h
  · rw [decide_eq_false hx, show s.told x = s from if_neg hx]
    refine (note_no b x hx w).mono ?_
    rintro e w' ⟨rfl, rfl⟩
    exact ⟨rfl, h, Only.refl _ _, rfl⟩

theorem conv_any (u f : Nat) (hf : f ≤ 16777216) (h : (Ieee.double.read u).toInt .zero = some (f : Int)) (w : World) : (convert 22 3 (.float .f64 u)).run Try.prog w = .ok (.int .i64 f) w :=
  run_convert_float_int (P := Try.prog) w 22 3 .f64 .i64 u f (by rw [Try.underlying22]; rfl) Try.underlying3 (by
    unfold floatToIntVal
    have e3 : (FloatKind.f64.decode u).toInt .zero = some (f : Int) := h
    have e5 : IntKind.i64.min ≤ (f : Int) ∧ (f : Int) ≤ IntKind.i64.max := by
      have g1 : IntKind.i64.min ≤ 0 := by decide
      have g2 : 16777216 ≤ IntKind.i64.max := by decide
      omega
    rw [e3]; dsimp only; rw [if_pos e5])

theorem lead_any (b : Nat) (s : Fl.Metr.S) (p : Int) (w : World) (h : Mt w b s) : Calls Try.prog 8 #[.pointer (some ⟨b, 0, none⟩), .int .i64 p] w fun e w' => e = .returned (.int .i64 (s.lead p)) ∧ Only [] w w' ∧ w'.heap.size = w.heap.size := by
  have L := Fl.Metr.lead_spec h.ok (p := Fl.Metr.clamp p) (by unfold Fl.Metr.clamp; omega) (by unfold Fl.Metr.clamp; omega)
  have c1 := h.blk.cell 1
  have c2 := h.blk.cell 2
  simp at c1 c2
  have b1 := fun w => run_float_arith (P := Try.prog) w .quo 22 .f64 _ _ _ L.e1
  have b2 := fun w => run_float_arith (P := Try.prog) w .mul 22 .f64 _ _ _ L.e2
  have b3 := fun w => run_float_arith (P := Try.prog) w .add 22 .f64 _ _ _ L.e3
  have b4 : ∀ w, (binOp .quo 22 (.float .f64 s.all) (.float .f64 (floatOfInt .f64 (Fl.Metr.clamp p)))).run Try.prog w = .ok (.float .f64 (s.per (Fl.Metr.clamp p))) w := fun w => run_float_arith (P := Try.prog) w .quo 22 .f64 _ _ _ L.e4
  have ce := ceil_any _ L.num
  have le := L.le
  have cv := conv_any _ _ L.le L.int
  unfold Fl.Metr.two at b1 b2
  have k : (p < 1 ∧ Fl.Metr.clamp p = 1) ∨ (1 ≤ p ∧ p ≤ 8 ∧ Fl.Metr.clamp p = p) ∨ (8 < p ∧ Fl.Metr.clamp p = 8) := by unfold Fl.Metr.clamp; omega
  have E : s.lead p = min ((s.frames (Fl.Metr.clamp p) : Int) + 1) 16 := rfl
  rw [E]
  clear E L h
  generalize s.frames (Fl.Metr.clamp p) = f at *
  generalize Fl.up (s.per (Fl.Metr.clamp p)) = u at *
  generalize s.per (Fl.Metr.clamp p) = q at *
  generalize s.all = a at *
  generalize s.half = hh at *
  generalize s.twi = tw at *
  have kf : ((f : Int) + 1 ≤ 16 ∧ min ((f : Int) + 1) 16 = (f : Int) + 1) ∨ (16 < (f : Int) + 1 ∧ min ((f : Int) + 1) 16 = 16) := by omega
  rcases k with ⟨k1, k2⟩ | ⟨k1, k2, k3⟩ | ⟨k1, k2⟩
  all_goals
    first | rw [k3] at b4 | rw [k2] at b4
    rcases kf with ⟨kf1, kf2⟩ | ⟨kf1, kf2⟩
    all_goals
      rw [kf2]
      clear kf2
      try clear k3
      go_enter Try.func8, Try.ntmps8
      go_wp2_with fail
      go_quiet (fail)
      go_wp2_with fail
      refine (ce _).mono ?_
      rintro e w' ⟨rfl, rfl⟩
      go_wp2_with fail
      go_ret
      exact ⟨rfl, only_drewN _ _, rfl⟩
end Go.Proofs.Ytfebpbahincieaa

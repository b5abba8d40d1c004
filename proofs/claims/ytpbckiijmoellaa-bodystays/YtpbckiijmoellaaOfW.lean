/- The law's helper that makes a body of raw numbers: it answers some body. -/
import Derived.Test.YtpbckiijmoellaaFrameC
import Derived.Test.YtpbckiijmoellaaBodyP
import Derived.Test.YtpbckiijmoellaaPick
import Derived.Test.YtpbckiijmoellaaRegF
import Derived.Deep.DeepCutAuto
import Derived.Deep.CutBlock
namespace Go.Proofs.Ytpbckiijmoellaa
open Go.RowKit
set_option linter.unusedVariables false
/-- what lies there: the raw numbers, what will be answered, the body that is made -/
structure OfB (r : Rw) (w W : World) (pb : Nat) (b : Bd) : Prop where
  raw : Rl W w.heap.size r
  res : Bl W (w.heap.size + 1) Body.zero
  bod : Bl W pb b
  apart : w.heap.size + 2 ≤ pb
  only : Only [] w W
theorem OfB.turn {r : Rw} {w W W' : World} {pb : Nat} {b b' : Bd} (h : OfB r w W pb b) (k : Bl W' pb b') (o : Only [pb] W W') : OfB r w W' pb b' :=
  ⟨h.raw.only o (by have := h.apart; simp; omega), h.res.only o (by have := h.apart; simp; omega), k, h.apart, h.only.then o (by have := h.apart; simp; omega)⟩
theorem OfB.then {r : Rw} {w W W' : World} {pb : Nat} {b : Bd} (h : OfB r w W pb b) (o : Only [] W W') : OfB r w W' pb b :=
  ⟨h.raw.only o (by simp), h.res.only o (by simp), h.bod.only o (by simp), h.apart, h.only.trans o⟩
theorem idxA {pb : Nat} {m : Int} (h0 : 0 ≤ m) (h1 : m < 4) (w : World) : (Instr.indexAt 25 (.pointer (some ⟨pb, 7, none⟩)) (.int .i64 m)).run Try.prog w = .ok (.pointer (some ⟨pb, 7 + m.toNat, none⟩)) w := by
  have hm : m = 0 ∨ m = 1 ∨ m = 2 ∨ m = 3 := by omega
  rcases hm with rfl | rfl | rfl | rfl <;> rfl

set_option maxRecDepth 100000 in
set_option maxHeartbeats 4000000 in
theorem of_any (r : Rw) (w : World) : Calls Try.prog 6 #[r.v] w fun e w' => (∃ b : Bd, e = .returned b.v) ∧ Only [] w w' := by
  obtain ⟨q0, h0⟩ : ∃ q, r.c0 % 2 = q := ⟨_, rfl⟩
  obtain ⟨q1, h1⟩ : ∃ q, r.c1 % 8 = q := ⟨_, rfl⟩
  obtain ⟨q2, h2⟩ : ∃ q, r.c2 % 4096 = q := ⟨_, rfl⟩
  obtain ⟨q3, h3⟩ : ∃ q, r.c3 % 4096 = q := ⟨_, rfl⟩
  obtain ⟨q4, h4⟩ : ∃ q, r.c4 % 129 = q := ⟨_, rfl⟩
  obtain ⟨q5, h5⟩ : ∃ q, r.c5 % 129 = q := ⟨_, rfl⟩
  obtain ⟨q6, h6⟩ : ∃ q, r.c6 % 60 = q := ⟨_, rfl⟩
  obtain ⟨q8, h8⟩ : ∃ q, r.c8 % 65536 = q := ⟨_, rfl⟩
  obtain ⟨q7, h7⟩ : ∃ q, r.c7 % 4 = q := ⟨_, rfl⟩
  obtain ⟨s7, g7⟩ : ∃ q, r.c7 % 2000001 = q := ⟨_, rfl⟩
  obtain ⟨t, ht⟩ : ∃ q, r.c9 % 20 = q := ⟨_, rfl⟩
  have b7 : 0 ≤ q7 ∧ q7 < 4 := by omega
  obtain ⟨e0, f0⟩ : ∃ e, IntKind.i64.wrap (1 + q0) = e := ⟨_, rfl⟩
  obtain ⟨e4, f4⟩ : ∃ e, IntKind.i64.wrap (q4 - 64) = e := ⟨_, rfl⟩
  obtain ⟨e5, f5⟩ : ∃ e, IntKind.i64.wrap (q5 - 64) = e := ⟨_, rfl⟩
  obtain ⟨e7, f7⟩ : ∃ e, IntKind.i64.wrap (s7 - 1000000) = e := ⟨_, rfl⟩
  have G0 : Hid _ := h0
  have G1 : Hid _ := h1
  have G2 : Hid _ := h2
  have G3 : Hid _ := h3
  have G4 : Hid _ := h4
  have G5 : Hid _ := h5
  have G6 : Hid _ := h6
  have G8 : Hid _ := h8
  have G7 : Hid _ := h7
  have K7 : Hid _ := g7
  have GT : Hid _ := ht
  clear h0 h1 h2 h3 h4 h5 h6 h8 h7 g7 ht
  go_enter Try.func6, Try.ntmps6
  go_wp2_with fail
  have HB : Hid (Rl ((w.alloc (.cells #[.int .i64 r.c0, .int .i64 r.c1, .int .i64 r.c2, .int .i64 r.c3, .int .i64 r.c4, .int .i64 r.c5, .int .i64 r.c6, .int .i64 r.c7, .int .i64 r.c8, .int .i64 r.c9] 23)).alloc (.cells #[.int .i64 0, .int .i64 0, .int .i64 0, .int .i64 0, .int .i64 0, .int .i64 0, .int .i64 0, .int .i64 0, .int .i64 0, .int .i64 0, .int .i64 0, .int .i64 0] 27)) w.heap.size r ∧ Bl ((w.alloc (.cells #[.int .i64 r.c0, .int .i64 r.c1, .int .i64 r.c2, .int .i64 r.c3, .int .i64 r.c4, .int .i64 r.c5, .int .i64 r.c6, .int .i64 r.c7, .int .i64 r.c8, .int .i64 r.c9] 23)).alloc (.cells #[.int .i64 0, .int .i64 0, .int .i64 0, .int .i64 0, .int .i64 0, .int .i64 0, .int .i64 0, .int .i64 0, .int .i64 0, .int .i64 0, .int .i64 0, .int .i64 0] 27)) (w.heap.size + 1) Body.zero ∧ Only [] w ((w.alloc (.cells #[.int .i64 r.c0, .int .i64 r.c1, .int .i64 r.c2, .int .i64 r.c3, .int .i64 r.c4, .int .i64 r.c5, .int .i64 r.c6, .int .i64 r.c7, .int .i64 r.c8, .int .i64 r.c9] 23)).alloc (.cells #[.int .i64 0, .int .i64 0, .int .i64 0, .int .i64 0, .int .i64 0, .int .i64 0, .int .i64 0, .int .i64 0, .int .i64 0, .int .i64 0, .int .i64 0, .int .i64 0] 27)) ∧ w.heap.size + 2 ≤ ((w.alloc (.cells #[.int .i64 r.c0, .int .i64 r.c1, .int .i64 r.c2, .int .i64 r.c3, .int .i64 r.c4, .int .i64 r.c5, .int .i64 r.c6, .int .i64 r.c7, .int .i64 r.c8, .int .i64 r.c9] 23)).alloc (.cells #[.int .i64 0, .int .i64 0, .int .i64 0, .int .i64 0, .int .i64 0, .int .i64 0, .int .i64 0, .int .i64 0, .int .i64 0, .int .i64 0, .int .i64 0, .int .i64 0] 27)).heap.size) :=
    ⟨(Rl.new r w _).only ((Only.refl [] _).alloc _) (by simp), Bl.newAt Body.zero (by simp) _, ((Only.refl [] w).alloc _).alloc _, by simp⟩
  generalize (w.alloc (.cells #[.int .i64 r.c0, .int .i64 r.c1, .int .i64 r.c2, .int .i64 r.c3, .int .i64 r.c4, .int .i64 r.c5, .int .i64 r.c6, .int .i64 r.c7, .int .i64 r.c8, .int .i64 r.c9] 23)).alloc (.cells #[.int .i64 0, .int .i64 0, .int .i64 0, .int .i64 0, .int .i64 0, .int .i64 0, .int .i64 0, .int .i64 0, .int .i64 0, .int .i64 0, .int .i64 0, .int .i64 0] 27) = W at *
  have FA : Hid (∀ y, Only [] W.drew y → y.cell? ⟨w.heap.size, 0, none⟩ = some (.int .i64 r.c0) ∧ y.cell? ⟨w.heap.size, 1, none⟩ = some (.int .i64 r.c1) ∧ y.cell? ⟨w.heap.size, 2, none⟩ = some (.int .i64 r.c2) ∧ y.cell? ⟨w.heap.size, 3, none⟩ = some (.int .i64 r.c3) ∧ y.cell? ⟨w.heap.size, 4, none⟩ = some (.int .i64 r.c4) ∧ y.cell? ⟨w.heap.size, 5, none⟩ = some (.int .i64 r.c5) ∧ y.cell? ⟨w.heap.size, 6, none⟩ = some (.int .i64 r.c6) ∧ y.cell? ⟨w.heap.size, 7, none⟩ = some (.int .i64 r.c7) ∧ y.cell? ⟨w.heap.size, 8, none⟩ = some (.int .i64 r.c8) ∧ y.cell? ⟨w.heap.size, 9, none⟩ = some (.int .i64 r.c9)) := fun y hT => (HB.out.1.only ((only_drew W).trans hT) (by simp)).all
  refine wp_region_free 29 (Only []) (Only.refl []) Only.trans [(1, .pointer (some ⟨w.heap.size, 0, none⟩))] (by intro p hp; simp only [List.mem_cons, List.not_mem_nil, or_false] at hp; rcases hp with rfl; rfl) (by kernel_rfl) (by kernel_rfl) (by decide) (by kernel_rfl) (by kernel_rfl) ?_
  simp only [List.take_succ_cons, List.take_zero, List.drop_succ_cons, List.drop_zero]
  repeat (
    apply rf_val
    · first | rfl | exact ⟨by kernel_rfl, rfl⟩
    · intro a y hT hf
      obtain ⟨d0, d1, d2, d3, d4, d5, d6, d7, d8, d9⟩ := FA.out y hT
      simp at hf
      go_simp
      try rfl)
  refine rf_eff (fun _ v => v = .int .i64 q0) (by first | rfl | exact ⟨by kernel_rfl, rfl⟩) (fun _ _ _ _ h => h) (fun a y hT hf => ?_) ?_
  · simp at hf
    go_simp
    refine (pick_any _ _ (by omega) (by omega) _).mono ?_
    rintro e y2 ⟨rfl, rfl⟩
    rw [G0.out]
    exact ⟨_, rfl, rfl, Only.refl _ _⟩
  repeat (
    apply rf_val
    · first | rfl | exact ⟨by kernel_rfl, rfl⟩
    · intro a y hT hf
      obtain ⟨d0, d1, d2, d3, d4, d5, d6, d7, d8, d9⟩ := FA.out y hT
      simp at hf
      go_simp
      try rfl)
  refine rf_eff (fun _ v => v = .int .i64 q1) (by first | rfl | exact ⟨by kernel_rfl, rfl⟩) (fun _ _ _ _ h => h) (fun a y hT hf => ?_) ?_
  · simp at hf
    go_simp
    refine (pick_any _ _ (by omega) (by omega) _).mono ?_
    rintro e y2 ⟨rfl, rfl⟩
    rw [G1.out]
    exact ⟨_, rfl, rfl, Only.refl _ _⟩
  repeat (
    apply rf_val
    · first | rfl | exact ⟨by kernel_rfl, rfl⟩
    · intro a y hT hf
      obtain ⟨d0, d1, d2, d3, d4, d5, d6, d7, d8, d9⟩ := FA.out y hT
      simp at hf
      go_simp
      try rfl)
  refine rf_eff (fun _ v => v = .int .i64 q2) (by first | rfl | exact ⟨by kernel_rfl, rfl⟩) (fun _ _ _ _ h => h) (fun a y hT hf => ?_) ?_
  · simp at hf
    go_simp
    refine (pick_any _ _ (by omega) (by omega) _).mono ?_
    rintro e y2 ⟨rfl, rfl⟩
    rw [G2.out]
    exact ⟨_, rfl, rfl, Only.refl _ _⟩
  repeat (
    apply rf_val
    · first | rfl | exact ⟨by kernel_rfl, rfl⟩
    · intro a y hT hf
      obtain ⟨d0, d1, d2, d3, d4, d5, d6, d7, d8, d9⟩ := FA.out y hT
      simp at hf
      go_simp
      try rfl)
  refine rf_eff (fun _ v => v = .int .i64 q3) (by first | rfl | exact ⟨by kernel_rfl, rfl⟩) (fun _ _ _ _ h => h) (fun a y hT hf => ?_) ?_
  · simp at hf
    go_simp
    refine (pick_any _ _ (by omega) (by omega) _).mono ?_
    rintro e y2 ⟨rfl, rfl⟩
    rw [G3.out]
    exact ⟨_, rfl, rfl, Only.refl _ _⟩
  repeat (
    apply rf_val
    · first | rfl | exact ⟨by kernel_rfl, rfl⟩
    · intro a y hT hf
      obtain ⟨d0, d1, d2, d3, d4, d5, d6, d7, d8, d9⟩ := FA.out y hT
      simp at hf
      go_simp
      try rfl)
  refine rf_eff (fun _ v => v = .int .i64 q4) (by first | rfl | exact ⟨by kernel_rfl, rfl⟩) (fun _ _ _ _ h => h) (fun a y hT hf => ?_) ?_
  · simp at hf
    go_simp
    refine (pick_any _ _ (by omega) (by omega) _).mono ?_
    rintro e y2 ⟨rfl, rfl⟩
    rw [G4.out]
    exact ⟨_, rfl, rfl, Only.refl _ _⟩
  repeat (
    apply rf_val
    · first | rfl | exact ⟨by kernel_rfl, rfl⟩
    · intro a y hT hf
      obtain ⟨d0, d1, d2, d3, d4, d5, d6, d7, d8, d9⟩ := FA.out y hT
      simp at hf
      go_simp
      try rfl)
  refine rf_eff (fun _ v => v = .int .i64 q5) (by first | rfl | exact ⟨by kernel_rfl, rfl⟩) (fun _ _ _ _ h => h) (fun a y hT hf => ?_) ?_
  · simp at hf
    go_simp
    refine (pick_any _ _ (by omega) (by omega) _).mono ?_
    rintro e y2 ⟨rfl, rfl⟩
    rw [G5.out]
    exact ⟨_, rfl, rfl, Only.refl _ _⟩
  repeat (
    apply rf_val
    · first | rfl | exact ⟨by kernel_rfl, rfl⟩
    · intro a y hT hf
      obtain ⟨d0, d1, d2, d3, d4, d5, d6, d7, d8, d9⟩ := FA.out y hT
      simp at hf
      go_simp
      try rfl)
  refine rf_eff (fun _ v => v = .int .i64 q6) (by first | rfl | exact ⟨by kernel_rfl, rfl⟩) (fun _ _ _ _ h => h) (fun a y hT hf => ?_) ?_
  · simp at hf
    go_simp
    refine (pick_any _ _ (by omega) (by omega) _).mono ?_
    rintro e y2 ⟨rfl, rfl⟩
    rw [G6.out]
    exact ⟨_, rfl, rfl, Only.refl _ _⟩
  repeat (
    apply rf_val
    · first | rfl | exact ⟨by kernel_rfl, rfl⟩
    · intro a y hT hf
      obtain ⟨d0, d1, d2, d3, d4, d5, d6, d7, d8, d9⟩ := FA.out y hT
      simp at hf
      go_simp
      try rfl)
  refine rf_eff (fun _ v => v = .int .i64 q8) (by first | rfl | exact ⟨by kernel_rfl, rfl⟩) (fun _ _ _ _ h => h) (fun a y hT hf => ?_) ?_
  · simp at hf
    go_simp
    refine (pick_any _ _ (by omega) (by omega) _).mono ?_
    rintro e y2 ⟨rfl, rfl⟩
    rw [G8.out]
    exact ⟨_, rfl, rfl, Only.refl _ _⟩
  repeat (
    apply rf_val
    · first | rfl | exact ⟨by kernel_rfl, rfl⟩
    · intro a y hT hf
      obtain ⟨d0, d1, d2, d3, d4, d5, d6, d7, d8, d9⟩ := FA.out y hT
      simp at hf
      go_simp
      try rfl)
  refine rf_eff (fun y v => ∃ p, v = .pointer (some ⟨p, 0, none⟩) ∧ W.heap.size ≤ p ∧ Bl y p Body.zero) (by first | rfl | exact ⟨by kernel_rfl, rfl⟩) (fun _ _ _ o ⟨p, h1, h2, h3⟩ => ⟨p, h1, h2, h3.only o (by simp)⟩) (fun a y hT hf => ?_) ?_
  · simp at hf
    go_simp
    exact ⟨⟨hT.size, Bl.new Body.zero y _⟩, (Only.refl [] y).alloc _⟩
  intro y hy
  simp only [FinA, Sp.R, forall_eq]
  rintro v ⟨pb, rfl, hps, bps⟩
  have H1 : Hid (OfB r w y pb Body.zero) := ⟨HB.out.1.only ((only_drew W).trans hy) (by simp), HB.out.2.1.only ((only_drew W).trans hy) (by simp), bps, by have := HB.out.2.2.2; omega, HB.out.2.2.1.trans ((only_drew W).trans hy)⟩
  clear hy FA bps HB hps
  simp only [Act.put, List.setIfInBounds_toArray, List.set_cons_succ, List.set_cons_zero]
  obtain ⟨c0, c1, c2, c3, c4, c5, c6, c7, c8, c9, c10, c11⟩ := H1.out.bod.all
  dsimp only [Body.zero] at c0 c1 c2 c3 c4 c5 c6 c7 c8 c9 c10 c11
  have fz := H1.out.bod.frozen
  go_upto_region 2 with fail
  clear c0 c1 c2 c3 c4 c5 c6 c7 c8 c9 c10 c11 fz
  have H2 : Hid (OfB r w (putB y pb ⟨e0, q1, q2, q3, e4, e5, q6, 0, 0, 0, 0, q8⟩) pb ⟨e0, q1, q2, q3, e4, e5, q6, 0, 0, 0, 0, q8⟩) := H1.out.turn (putB_bl H1.out.bod _) (putB_only _ _ _)
  change Code.wp _ _ _ _ (putB y pb ⟨e0, q1, q2, q3, e4, e5, q6, 0, 0, 0, 0, q8⟩)
  generalize putB y pb ⟨e0, q1, q2, q3, e4, e5, q6, 0, 0, 0, 0, q8⟩ = Y at *
  clear H1
  have FA : Hid (∀ z, Only [] Y.drew z → z.cell? ⟨w.heap.size, 7, none⟩ = some (.int .i64 r.c7)) := fun z hT => (H2.out.raw.only ((only_drew Y).trans hT) (by simp)).all.2.2.2.2.2.2.2.1
  have ix := @idxA pb q7 b7.1 b7.2
  refine wp_region_free 9 (Only []) (Only.refl []) Only.trans [(1, .pointer (some ⟨w.heap.size, 0, none⟩)), (3, .pointer (some ⟨pb, 0, none⟩))] (by intro p hp; simp only [List.mem_cons, List.not_mem_nil, or_false] at hp; rcases hp with rfl | rfl <;> rfl) (by kernel_rfl) (by kernel_rfl) (by decide) (by kernel_rfl) (by kernel_rfl) ?_
  simp only [List.take_succ_cons, List.take_zero, List.drop_succ_cons, List.drop_zero]
  repeat (
    apply rf_val
    · first | rfl | exact ⟨by kernel_rfl, rfl⟩
    · intro a y hT hf
      have d7 := FA.out y hT
      simp at hf
      go_simp
      try rfl)
  refine rf_eff (fun _ v => v = .int .i64 q7) (by first | rfl | exact ⟨by kernel_rfl, rfl⟩) (fun _ _ _ _ h => h) (fun a y hT hf => ?_) ?_
  · simp at hf
    go_simp
    refine (pick_any _ _ (by omega) (by omega) _).mono ?_
    rintro e y2 ⟨rfl, rfl⟩
    rw [G7.out]
    exact ⟨_, rfl, rfl, Only.refl _ _⟩
  repeat (
    apply rf_val
    · first | rfl | exact ⟨by kernel_rfl, rfl⟩
    · intro a y hT hf
      have d7 := FA.out y hT
      simp at hf
      go_simp
      try rfl)
  refine rf_eff (fun _ v => v = .int .i64 s7) (by first | rfl | exact ⟨by kernel_rfl, rfl⟩) (fun _ _ _ _ h => h) (fun a y hT hf => ?_) ?_
  · simp at hf
    go_simp
    refine (pick_any _ _ (by omega) (by omega) _).mono ?_
    rintro e y2 ⟨rfl, rfl⟩
    rw [K7.out]
    exact ⟨_, rfl, rfl, Only.refl _ _⟩
  repeat (
    apply rf_val
    · first | rfl | exact ⟨by kernel_rfl, rfl⟩
    · intro a y hT hf
      have d7 := FA.out y hT
      simp at hf
      go_simp
      try rfl)
  intro z hz
  simp only [FinA, Sp.R, forall_eq]
  have H3 : Hid (OfB r w z pb ⟨e0, q1, q2, q3, e4, e5, q6, 0, 0, 0, 0, q8⟩) := H2.out.then ((only_drew Y).trans hz)
  clear hz FA H2 Y ix
  simp only [Act.put, List.setIfInBounds_toArray, List.set_cons_succ, List.set_cons_zero]
  have hm4 : q7 = 0 ∨ q7 = 1 ∨ q7 = 2 ∨ q7 = 3 := by omega
  have cu : z.cell? ⟨pb, 7 + q7.toNat, none⟩ = some (.int .i64 0) := by
    obtain ⟨c0, c1, c2, c3, c4, c5, c6, c7, c8, c9, c10, c11⟩ := H3.out.bod.all
    rcases hm4 with rfl | rfl | rfl | rfl
    · exact c7
    · exact c8
    · exact c9
    · exact c10
  obtain ⟨b2, H4⟩ : ∃ b2, Hid (OfB r w (z.setCell ⟨pb, 7 + q7.toNat, none⟩ (.int .i64 e7)) pb b2) := by
    rcases hm4 with rfl | rfl | rfl | rfl
    · exact ⟨_, H3.out.turn (H3.out.bod.set7 _) ((Only.refl _ _).setCell (by simp) _)⟩
    · exact ⟨_, H3.out.turn (H3.out.bod.set8 _) ((Only.refl _ _).setCell (by simp) _)⟩
    · exact ⟨_, H3.out.turn (H3.out.bod.set9 _) ((Only.refl _ _).setCell (by simp) _)⟩
    · exact ⟨_, H3.out.turn (H3.out.bod.set10 _) ((Only.refl _ _).setCell (by simp) _)⟩
  have fz := H3.out.bod.frozen
  clear hm4 H3
  go_upto_region 3 with fail
  clear cu fz
  generalize z.setCell ⟨pb, 7 + q7.toNat, none⟩ (.int .i64 e7) = Z at *
  obtain ⟨d0, d1, d2, d3, d4, d5, d6, d7, d8, d9⟩ := H4.out.raw.all
  clear f0 f4 f5 f7 b7 G0 G1 G2 G3 G4 G5 G6 G8 G7 K7
  go_wp2_with fail
  refine (pick_any _ _ (by omega) (by omega) _).mono ?_
  rintro e y2 ⟨rfl, rfl⟩
  rw [GT.out]
  clear GT
  have ap := H4.out.apart
  have fz := H4.out.bod.frozen
  have fr := H4.out.res.frozen
  obtain ⟨c0, c1, c2, c3, c4, c5, c6, c7, c8, c9, c10, c11⟩ := H4.out.bod.all
  obtain ⟨r0, r1, r2, r3, r4, r5, r6, r7, r8, r9, r10, r11⟩ := H4.out.res.all
  dsimp only [Body.zero] at r0 r1 r2 r3 r4 r5 r6 r7 r8 r9 r10 r11
  by_cases g10 : t = 10
  · subst g10
    go_wp2_with fail
    have A := H4.out.turn (H4.out.bod.set0 (r.c0)) ((Only.refl _ _).setCell (by simp) _)
    have X := putB_bl A.res { b2 with k := r.c0 }
    have O := A.only.then (putB_only (Z.setCell ⟨pb, 0, none⟩ (.int .i64 (r.c0))) (w.heap.size + 1) { b2 with k := r.c0 }) (by simp)
    change bodyPost _ _ _ _ _ (putB (Z.setCell ⟨pb, 0, none⟩ (.int .i64 (r.c0))) (w.heap.size + 1) { b2 with k := r.c0 })
    exact bodyPost_ret (res_body X Try.results6 rfl) rfl ⟨⟨_, rfl⟩, O⟩
  by_cases g11 : t = 11
  · subst g11
    go_wp2_with fail
    have A := H4.out.turn (H4.out.bod.set1 (r.c1)) ((Only.refl _ _).setCell (by simp) _)
    have X := putB_bl A.res { b2 with o := r.c1 }
    have O := A.only.then (putB_only (Z.setCell ⟨pb, 1, none⟩ (.int .i64 (r.c1))) (w.heap.size + 1) { b2 with o := r.c1 }) (by simp)
    change bodyPost _ _ _ _ _ (putB (Z.setCell ⟨pb, 1, none⟩ (.int .i64 (r.c1))) (w.heap.size + 1) { b2 with o := r.c1 })
    exact bodyPost_ret (res_body X Try.results6 rfl) rfl ⟨⟨_, rfl⟩, O⟩
  by_cases g12 : t = 12
  · subst g12
    go_wp2_with fail
    have A := H4.out.turn (H4.out.bod.set2 (r.c2)) ((Only.refl _ _).setCell (by simp) _)
    have X := putB_bl A.res { b2 with x := r.c2 }
    have O := A.only.then (putB_only (Z.setCell ⟨pb, 2, none⟩ (.int .i64 (r.c2))) (w.heap.size + 1) { b2 with x := r.c2 }) (by simp)
    change bodyPost _ _ _ _ _ (putB (Z.setCell ⟨pb, 2, none⟩ (.int .i64 (r.c2))) (w.heap.size + 1) { b2 with x := r.c2 })
    exact bodyPost_ret (res_body X Try.results6 rfl) rfl ⟨⟨_, rfl⟩, O⟩
  by_cases g13 : t = 13
  · subst g13
    go_wp2_with fail
    have A := H4.out.turn (H4.out.bod.set5 (r.c5)) ((Only.refl _ _).setCell (by simp) _)
    have X := putB_bl A.res { b2 with vy := r.c5 }
    have O := A.only.then (putB_only (Z.setCell ⟨pb, 5, none⟩ (.int .i64 (r.c5))) (w.heap.size + 1) { b2 with vy := r.c5 }) (by simp)
    change bodyPost _ _ _ _ _ (putB (Z.setCell ⟨pb, 5, none⟩ (.int .i64 (r.c5))) (w.heap.size + 1) { b2 with vy := r.c5 })
    exact bodyPost_ret (res_body X Try.results6 rfl) rfl ⟨⟨_, rfl⟩, O⟩
  by_cases g14 : t = 14
  · subst g14
    go_wp2_with fail
    have A := H4.out.turn (H4.out.bod.set6 (r.c6)) ((Only.refl _ _).setCell (by simp) _)
    have X := putB_bl A.res { b2 with age := r.c6 }
    have O := A.only.then (putB_only (Z.setCell ⟨pb, 6, none⟩ (.int .i64 (r.c6))) (w.heap.size + 1) { b2 with age := r.c6 }) (by simp)
    change bodyPost _ _ _ _ _ (putB (Z.setCell ⟨pb, 6, none⟩ (.int .i64 (r.c6))) (w.heap.size + 1) { b2 with age := r.c6 })
    exact bodyPost_ret (res_body X Try.results6 rfl) rfl ⟨⟨_, rfl⟩, O⟩
  by_cases g15 : t = 15
  · subst g15
    go_wp2_with fail
    have A := H4.out.turn (H4.out.bod.set7 (r.c7)) ((Only.refl _ _).setCell (by simp) _)
    have X := putB_bl A.res { b2 with m0 := r.c7 }
    have O := A.only.then (putB_only (Z.setCell ⟨pb, 7, none⟩ (.int .i64 (r.c7))) (w.heap.size + 1) { b2 with m0 := r.c7 }) (by simp)
    change bodyPost _ _ _ _ _ (putB (Z.setCell ⟨pb, 7, none⟩ (.int .i64 (r.c7))) (w.heap.size + 1) { b2 with m0 := r.c7 })
    exact bodyPost_ret (res_body X Try.results6 rfl) rfl ⟨⟨_, rfl⟩, O⟩
  by_cases g16 : t = 16
  · subst g16
    go_wp2_with fail
    have A := H4.out.turn (H4.out.bod.set11 (r.c8)) ((Only.refl _ _).setCell (by simp) _)
    have X := putB_bl A.res { b2 with f := r.c8 }
    have O := A.only.then (putB_only (Z.setCell ⟨pb, 11, none⟩ (.int .i64 (r.c8))) (w.heap.size + 1) { b2 with f := r.c8 }) (by simp)
    change bodyPost _ _ _ _ _ (putB (Z.setCell ⟨pb, 11, none⟩ (.int .i64 (r.c8))) (w.heap.size + 1) { b2 with f := r.c8 })
    exact bodyPost_ret (res_body X Try.results6 rfl) rfl ⟨⟨_, rfl⟩, O⟩
  by_cases g17 : t = 17
  · subst g17
    go_wp2_with fail
    have A := H4.out.turn (putB_bl H4.out.bod Body.zero) (putB_only _ _ _)
    have X := putB_bl A.res Body.zero
    have O := A.only.then (putB_only (putB Z pb Body.zero) (w.heap.size + 1) Body.zero) (by simp)
    change bodyPost _ _ _ _ _ (putB (putB Z pb Body.zero) (w.heap.size + 1) Body.zero)
    exact bodyPost_ret (res_body X Try.results6 rfl) rfl ⟨⟨_, rfl⟩, O⟩
  by_cases g18 : t = 18
  · subst g18
    go_wp2_with fail
    refine (pick_any _ _ (by omega) (by omega) _).mono ?_
    rintro e y2 ⟨rfl, rfl⟩
    generalize r.c2 % 50 = u
    go_wp2_with fail
    have A := H4.out.turn (H4.out.bod.set2 (u)) ((Only.refl _ _).setCell (by simp) _)
    have X := putB_bl A.res { b2 with x := u }
    have O := A.only.then (putB_only (Z.setCell ⟨pb, 2, none⟩ (.int .i64 (u))) (w.heap.size + 1) { b2 with x := u }) (by simp)
    change bodyPost _ _ _ _ _ (putB (Z.setCell ⟨pb, 2, none⟩ (.int .i64 (u))) (w.heap.size + 1) { b2 with x := u })
    exact bodyPost_ret (res_body X Try.results6 rfl) rfl ⟨⟨_, rfl⟩, O⟩
  by_cases g19 : t = 19
  · subst g19
    go_wp2_with fail
    refine (pick_any _ _ (by omega) (by omega) _).mono ?_
    rintro e y2 ⟨rfl, rfl⟩
    obtain ⟨u, hu⟩ : ∃ u, IntKind.i64.wrap (4095 - r.c3 % 50) = u := ⟨_, rfl⟩
    go_wp2_with fail
    have A := H4.out.turn (H4.out.bod.set3 (u)) ((Only.refl _ _).setCell (by simp) _)
    have X := putB_bl A.res { b2 with y := u }
    have O := A.only.then (putB_only (Z.setCell ⟨pb, 3, none⟩ (.int .i64 (u))) (w.heap.size + 1) { b2 with y := u }) (by simp)
    change bodyPost _ _ _ _ _ (putB (Z.setCell ⟨pb, 3, none⟩ (.int .i64 (u))) (w.heap.size + 1) { b2 with y := u })
    exact bodyPost_ret (res_body X Try.results6 rfl) rfl ⟨⟨_, rfl⟩, O⟩
  go_wp2_with fail
  have A := H4.out
  have X := putB_bl A.res b2
  have O := A.only.then (putB_only Z (w.heap.size + 1) b2) (by simp)
  change bodyPost _ _ _ _ _ (putB Z (w.heap.size + 1) b2)
  exact bodyPost_ret (res_body X Try.results6 rfl) rfl ⟨⟨_, rfl⟩, O⟩
end Go.Proofs.Ytpbckiijmoellaa

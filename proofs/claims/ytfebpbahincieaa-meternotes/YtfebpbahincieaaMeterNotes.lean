/- Proved: MeterNotes returns true for every input. No condition. -/
import Derived.Test.YtfebpbahincieaaMetrK
import Derived.Test.YtfebpbahincieaaRefMet
import Derived.Test.YtfebpbahincieaaHandF
import Derived.Test.YtfebpbahincieaaRegBy3
import Derived.Test.YtfebpbahincieaaFrame
import Derived.Deep.LoopGhost
import Derived.Deep.CutBlock
import Derived.Deep.DeepCutAuto
namespace Go.Proofs.Ytfebpbahincieaa.meterNotes
open Go.ChangeShapes Go.WideShapes Go.ChangeAt Go.RowKit
open Fl (V nn fin rg sg U)
open Fl.Metr (S zero)
set_option linter.unusedVariables false

/-- where both were told the same -/
structure St (w : World) (B b : Nat) (y : World) (s : S) (k : Nat) : Prop where
  one : Mt y B s
  two : Mt y b s
  cnt : s.count ≤ k
  only : Only [] w y
/-- how memory goes on, within the region -/
def T (B b : Nat) (s : S) (x y : World) : Prop := Only [B, b] x y ∧ (Mt x B s → Mt y B s) ∧ (Mt x b s → Mt y b s)
theorem T.refl {B b : Nat} {s : S} (x : World) : T B b s x x := ⟨Only.refl _ _, id, id⟩
theorem T.trans {B b : Nat} {s : S} {x y z : World} (h : T B b s x y) (k : T B b s y z) : T B b s x z := ⟨h.1.trans k.1, k.2.1 ∘ h.2.1, k.2.2 ∘ h.2.2⟩

/-- what both answer, once they are told -/
structure Facts (B b : Nat) (s : S) (x : Nat) (p : Int) (s' : S) (c : Bool) (L : Int) : Prop where
  n1 : ∀ y, Mt y B s → Calls Try.prog 9 #[.pointer (some ⟨B, 0, none⟩), .float .f64 x] y fun e y' => e = .returned (.bool c) ∧ Mt y' B s' ∧ Only [B] y y'
  n2 : ∀ y, Mt y b s → Calls Try.prog 18 #[.pointer (some ⟨b, 0, none⟩), .float .f64 x] y fun e y' => e = .returned (.bool c) ∧ Mt y' b s' ∧ Only [b] y y'
  c1 : ∀ y, Mt y B s' → Calls Try.prog 12 #[.pointer (some ⟨B, 0, none⟩)] y fun e y' => e = .returned (.int .i64 s'.count) ∧ y' = y
  c2 : ∀ y, Mt y b s' → y.cell? ⟨b, 0, none⟩ = some (.int .i64 s'.count)
  m1 : ∀ y, Mt y B s' → Calls Try.prog 15 #[.pointer (some ⟨B, 0, none⟩)] y fun e y' => e = .returned (.float .f64 s'.mean) ∧ y' = y
  m2 : ∀ y, Mt y b s' → y.cell? ⟨b, 1, none⟩ = some (.float .f64 s'.mean)
  j1 : ∀ y, Mt y B s' → Calls Try.prog 19 #[.pointer (some ⟨B, 0, none⟩)] y fun e y' => e = .returned (.float .f64 s'.jit) ∧ y' = y
  j2 : ∀ y, Mt y b s' → y.cell? ⟨b, 2, none⟩ = some (.float .f64 s'.jit)
  l1 : ∀ y, Mt y B s' → Calls Try.prog 8 #[.pointer (some ⟨B, 0, none⟩), .int .i64 p] y fun e y' => e = .returned (.int .i64 L) ∧ Only [] y y'
  l2 : ∀ y, Mt y b s' → Calls Try.prog 20 #[.pointer (some ⟨b, 0, none⟩), .int .i64 p] y fun e y' => e = .returned (.int .i64 L) ∧ y' = y
theorem held_all {c : Value} {p : Prop} {K : Value → Prop} : (∀ v, v = c ∧ p → K v) ↔ (p → K c) := ⟨fun h hp => h c ⟨rfl, hp⟩, fun h v ⟨e, hp⟩ => e ▸ h hp⟩
theorem facts (B b : Nat) (s : S) (x : Nat) (lx : x < 2 ^ 64) (p : Int) (hc : s.count < 1000000) : ∃ s' c L, Facts B b s x p s' c L ∧ s'.count ≤ s.count + 1 := by
  refine ⟨s.told x, decide (Fl.Metr.sample x), (s.told x).lead p, ⟨fun y hy => (note_any B s x lx hc y hy).mono fun e y' ⟨h1, h2, h3, _⟩ => ⟨h1, h2, h3⟩, fun y hy => (rnote_any b s x lx hc y hy).mono fun e y' ⟨h1, h2, h3, _⟩ => ⟨h1, h2, h3⟩, fun y hy => count_any B _ y hy, fun y hy => Blk.cell hy.blk 0, fun y hy => mean_any B _ y hy, fun y hy => Blk.cell hy.blk 1, fun y hy => jit_any B _ y hy, fun y hy => Blk.cell hy.blk 2, fun y hy => (lead_any B _ p y hy).mono fun e y' ⟨h1, h2, _⟩ => ⟨h1, h2⟩, fun y hy => rlead_any b _ p y hy⟩, ?_⟩
  unfold Fl.Metr.S.told
  split
  · rw [Fl.Metr.note_count]; omega
  · omega
theorem quarter (q : Int) (h0 : 0 ≤ q) (h1 : q < 400) : ∃ r, Ieee.double.div (Fl.ofI q) 4616189618054758400 = some r ∧ r < 2 ^ 64 := by
  obtain ⟨f, v, l⟩ := Fl.ofInt_V q (by
    have : (10000 : Nat) < 2 ^ 53 := by decide
    omega)
  obtain ⟨r, e1, R, s1⟩ := Fl.Metr.div_by (x := Fl.ofI q) (k := 4) f Fl.Metr.fin_four (by decide) Fl.Metr.V_four
  exact ⟨r, e1, R.1⟩

set_option maxRecDepth 100000 in
set_option maxHeartbeats 4000000 in
theorem walk (s0 : Value) (a0 : List Int) (s1 : Value) (a1 : List Nat) (a2 : Int) (w : World) (w0 : CameI .i64 w s0 a0) (w1 : CameF w s1 a1) (w2 : (Lit.int .i64 a2).wf = true) :
    Calls Try.prog 4 #[s0, s1, .int .i64 a2] w fun e w' => e = .returned (.bool true) ∧ Below w.heap.size w w' := by
  obtain ⟨ao, cap, rfl, hcap, hcm, _, hcl⟩ := w0
  have HC : Hid (∀ i, i < a0.length → ∃ b o, ao = some ⟨b, o, none⟩ ∧ b < w.heap.size ∧ w.cell? ⟨b, o + i, none⟩ = some (.int .i64 (a0.getD i 0))) := fun i hi => by
    rcases hcl with h | ⟨b, o, h1, h2, h3⟩
    · rw [h] at hi; simp at hi
    · exact ⟨b, o, h1, h2, h3 i hi⟩
  clear hcl
  have m0 : a0.length ≤ 9223372036854775807 := by simp only [maxLen] at hcm; omega
  clear hcm
  obtain ⟨ar, capr, rfl, hcapr, hcmr, hwr, hclr⟩ := w1
  have HF : Hid (∀ i, i < a1.length → ∃ b o, ar = some ⟨b, o, none⟩ ∧ b < w.heap.size ∧ w.cell? ⟨b, o + i, none⟩ = some (.float .f64 (a1.getD i 0)) ∧ a1.getD i 0 < 2 ^ 64) := fun i hi => by
    rcases hclr with h | ⟨b, o, h1, h2, h3⟩
    · rw [h] at hi; simp at hi
    · refine ⟨b, o, h1, h2, h3 i hi, hwr _ ?_⟩
      rw [List.getD_eq_getElem?_getD, List.getElem?_eq_getElem hi]
      exact List.getElem_mem hi
  clear hclr hwr
  have mr0 : a1.length ≤ 9223372036854775807 := by simp only [maxLen] at hcmr; omega
  clear hcmr w2
  generalize hn : a0.length = n at *
  generalize hnr : a1.length = nr at *
  clear hn hnr
  go_enter Try.func4, Try.ntmps4
  go_upto_region 2 with fail
  obtain ⟨x0, e0⟩ : ∃ x0, x0 = w.alloc (.cells #[.int .i64 0, .float .f64 0, .float .f64 0] 24) := ⟨_, rfl⟩
  have H0 : Hid (Mt x0 w.heap.size zero ∧ Only [] w x0 ∧ x0.heap.size = w.heap.size + 1) := ⟨e0 ▸ Mt.new _ _, e0 ▸ (Only.refl _ _).alloc _, by rw [e0]; simp⟩
  rw [← e0]
  clear e0
  go_upto_region 3 with fail
  obtain ⟨b, hb⟩ : ∃ b, x0.heap.size = b := ⟨_, rfl⟩
  obtain ⟨x1, e1⟩ : ∃ x1, x1 = x0.alloc (.cells #[.int .i64 0, .float .f64 0, .float .f64 0] 38) := ⟨_, rfl⟩
  have H1 : Hid (St w w.heap.size b x1 zero 0) := by
    have o1 : Only [] x0 x1 := e1 ▸ (Only.refl _ _).alloc _
    refine ⟨H0.out.1.only o1 (by simp), ?_, by decide, H0.out.2.1.trans o1⟩
    rw [← hb, e1]
    exact Mt.new x0 _
  rw [← e1, hb]
  have lb : w.heap.size + 1 = b := by have := H0.out.2.2; omega
  clear e1 H0 hb
  obtain ⟨B, hB⟩ : ∃ B, w.heap.size = B := ⟨_, rfl⟩
  rw [hB] at H1 lb ⊢
  go_wp2_with fail
  go_loopg [9] 61 (fun gk vi wr => ∃ (k : Nat) (s : S), vi = .int .i64 k ∧ k ≤ 40 ∧ k ≤ n ∧ 61 - k ≤ gk ∧ Hid (St w B b wr s k))
  case atStart => exact ⟨0, _, rfl, by omega, by omega, by omega, H1.out⟩
  case round =>
    obtain ⟨k, s, rfl, hk, hkn, hg, HR⟩ := hrel
    by_cases c1 : k < n
    · by_cases c2 : k < 40
      · have z1 : (k : Int) < (n : Int) := by omega
        have z2 : (k : Int) < 40 := by omega
        obtain ⟨bb, o0, rfl, lbb, hc⟩ := HC.out k c1
        have hcell : wr.cell? ⟨bb, o0 + k, none⟩ = some (.int .i64 (a0.getD k 0)) := (HR.out.only.cell lbb (by simp)).trans hc
        clear hc HC
        generalize a0.getD k 0 = z at hcell
        go_upto_if 26 with fail
        go_cut [10] (fun v wx => wx = wr ∧ ∃ x : Nat, v = .float .f64 x ∧ Hid (x < 2 ^ 64))
        case first =>
          by_cases c3 : k < nr
          · have z3 : (k : Int) < (nr : Int) := by omega
            obtain ⟨br, o1, rfl, lbr, hcr, hlr⟩ := HF.out k c3
            have hcell2 : wr.cell? ⟨br, o1 + k, none⟩ = some (.float .f64 (a1.getD k 0)) := (HR.out.only.cell lbr (by simp)).trans hcr
            have HL : Hid _ := hlr
            clear hcr HF hlr
            go_wp2_with fail
            go_meet
            exact ⟨rfl, _, rfl, HL.out⟩
          · have z3 : ¬ (k : Int) < (nr : Int) := by omega
            go_wp2_with fail
            go_meet
            exact ⟨rfl, _, rfl, show (4613937818241073152 : Nat) < 2 ^ 64 by decide⟩
        obtain ⟨rfl, x, rfl, HX⟩ := hcut
        clear HF
        go_wp2_with fail
        refine (handf_any _ _ HX.out _).mono ?_
        rintro e w' ⟨x2, lx2, rfl, rfl⟩
        have HX2 : Hid _ := lx2
        clear lx2 HX
        go_upto_if 42 with fail
        go_cut [10] (fun v wx => wx = wc ∧ ∃ x : Nat, v = .float .f64 x ∧ Hid (x < 2 ^ 64))
        case first =>
          by_cases c3 : z.tmod 3 = 0
          · go_wp2_with fail
            refine (pick_any _ _ (by omega) (by omega) _).mono ?_
            rintro e w' ⟨rfl, rfl⟩
            obtain ⟨q, hq⟩ : ∃ q, wrap64 (z.tdiv 3) % 400 = q := ⟨_, rfl⟩
            have hq1 : 0 ≤ q ∧ q < 400 := by omega
            rw [hq]
            clear hq
            obtain ⟨r, er, lr⟩ := quarter q hq1.1 hq1.2
            have HL : Hid _ := lr
            have b0 : ∀ w, (binOp .quo 22 (.float .f64 (floatOfInt .f64 q)) (.float .f64 4616189618054758400)).run Try.prog w = .ok (.float .f64 r) w := fun w => run_float_arith (P := Try.prog) w .quo 22 .f64 _ _ _ er
            clear er lr
            go_wp2_with fail
            go_meet
            exact ⟨rfl, _, rfl, HL.out⟩
          · go_wp2_with fail
            go_meet
            exact ⟨rfl, _, rfl, HX2.out⟩
        obtain ⟨rfl, x, rfl, HX⟩ := hcut
        clear HX2 hcell
        go_wp2_with fail
        obtain ⟨s', cc, L, F0, cn⟩ := facts B b s x HX.out a2 (by have := HR.out.cnt; omega)
        have F : Hid _ := F0
        have CN : Hid (s'.count ≤ ((k + 1 : Nat) : Int)) := by have := HR.out.cnt; show s'.count ≤ _; omega
        clear F0 cn
        have D : Hid (St w B b wc.drew s k) := ⟨HR.out.one.only (only_drew _) (by simp), HR.out.two.only (only_drew _) (by simp), HR.out.cnt, HR.out.only.drew⟩
        obtain ⟨I, iu, iw, is⟩ : ∃ I : World → Prop, (∀ y, I y → Mt y B s' ∧ Mt y b s') ∧ (∀ y, Mt y B s' → Mt y b s' → I y) ∧ ∀ y y', T B b s' y y' → I y → I y' :=
          ⟨fun y => Mt y B s' ∧ Mt y b s', fun _ h => h, fun _ h1 h2 => ⟨h1, h2⟩, fun _ _ t h => ⟨t.2.1 h.1, t.2.2 h.2⟩⟩
        have IU : Hid _ := iu
        have IW : Hid _ := iw
        have IS : Hid _ := is
        clear iu iw is
        refine wp_region_by (T B b s') T.refl T.trans [(7, .pointer (some ⟨B, 0, none⟩)), (8, .pointer (some ⟨b, 0, none⟩)), (10, .float .f64 x), (2, .int .i64 a2)] (by intro p hp; simp only [List.mem_cons, List.not_mem_nil, or_false] at hp; rcases hp with rfl | rfl | rfl | rfl <;> rfl) (by kernel_rfl) (by kernel_rfl) (fun y => Mt y B s ∧ Mt y b s) ⟨D.out.one, D.out.two⟩ ?_
        apply rb_val
        · first | rfl | exact ⟨by kernel_rfl, rfl⟩
        · intro a y hT hf
          simp at hf
          go_simp
          try rfl
        refine rb_call (fun y v => v = .bool cc ∧ Mt y B s') (fun y => Mt y b s) (by first | rfl | exact ⟨by kernel_rfl, rfl⟩) (by kernel_rfl) (fun y y' v t h => ⟨h.1, t.2.1 h.2⟩) (fun a y hJ hT hf => ?_) ?_
        · simp at hf
          go_simp
          refine (F.out.n1 y hJ.1).mono ?_
          rintro e y' ⟨rfl, h1, h2⟩
          exact ⟨_, rfl, ⟨rfl, h1⟩, hJ.2.only h2 (by simp; omega), h2.weaken (by simp), fun _ => h1, fun h => h.only h2 (by simp; omega)⟩
        apply rb_val
        · first | rfl | exact ⟨by kernel_rfl, rfl⟩
        · intro a y hT hf
          simp at hf
          go_simp
          try rfl
        apply rb_val
        · first | rfl | exact ⟨by kernel_rfl, rfl⟩
        · intro a y hT hf
          simp at hf
          go_simp
          try rfl
        refine rb_call (fun y v => v = .bool cc ∧ Mt y b s') (fun y => True) (by first | rfl | exact ⟨by kernel_rfl, rfl⟩) (by kernel_rfl) (fun y y' v t h => ⟨h.1, t.2.2 h.2⟩) (fun a y hJ hT hf => ?_) ?_
        · simp at hf
          go_simp
          refine (F.out.n2 y hJ).mono ?_
          rintro e y' ⟨rfl, h1, h2⟩
          exact ⟨_, rfl, ⟨rfl, h1⟩, h2.weaken (by simp), fun h => h.only h2 (by simp; omega), fun _ => h1⟩
        refine rb_held (.bool false) I (by first | rfl | exact ⟨by kernel_rfl, rfl⟩) IS.out (fun a y hT hf => ?_) ?_
        · simp at hf
          have hI : I y := IW.out y (by first | exact hf.1 | exact hf.2 | exact hf.2.1 | exact hf.2.1.2 | exact hf.2.2 | exact hf.2.2.1 | exact hf.2.2.2 | exact hf.2.2.2.1 | exact hf.2.2.2.2 | exact hf.2.2.2.2.1 | exact hf.2.2.2.2.2) (by first | exact hf.1 | exact hf.2 | exact hf.2.1 | exact hf.2.1.2 | exact hf.2.2 | exact hf.2.2.1 | exact hf.2.2.2 | exact hf.2.2.2.1 | exact hf.2.2.2.2 | exact hf.2.2.2.2.1 | exact hf.2.2.2.2.2)
          go_simp
          try exact hI
        refine rb_held (.bool false) I (by first | rfl | exact ⟨by kernel_rfl, rfl⟩) IS.out (fun a y hT hf => ?_) ?_
        · simp at hf
          have hI : I y := by first | exact hf.1 | exact hf.2 | exact hf.2.1 | exact hf.2.1.2 | exact hf.2.2 | exact hf.2.2.1 | exact hf.2.2.2 | exact hf.2.2.2.1 | exact hf.2.2.2.2 | exact hf.2.2.2.2.1 | exact hf.2.2.2.2.2
          go_simp
          try exact hI
        refine rb_held (.int .i64 s'.count) I (by first | rfl | exact ⟨by kernel_rfl, rfl⟩) IS.out (fun a y hT hf => ?_) ?_
        · simp at hf
          have hI : I y := by first | exact hf.1 | exact hf.2 | exact hf.2.1 | exact hf.2.1.2 | exact hf.2.2 | exact hf.2.2.1 | exact hf.2.2.2 | exact hf.2.2.2.1 | exact hf.2.2.2.2 | exact hf.2.2.2.2.1 | exact hf.2.2.2.2.2
          go_simp
          first | exact ⟨hI, F.out.c1 y (IU.out y hI).1⟩ | exact F.out.c1 y (IU.out y hI).1
        refine rb_held (.pointer (some ⟨b, 0, none⟩)) I (by first | rfl | exact ⟨by kernel_rfl, rfl⟩) IS.out (fun a y hT hf => ?_) ?_
        · simp at hf
          have hI : I y := by first | exact hf.1 | exact hf.2 | exact hf.2.1 | exact hf.2.1.2 | exact hf.2.2 | exact hf.2.2.1 | exact hf.2.2.2 | exact hf.2.2.2.1 | exact hf.2.2.2.2 | exact hf.2.2.2.2.1 | exact hf.2.2.2.2.2
          go_simp
          try exact hI
        refine rb_held (.pointer (some ⟨b, 0, none⟩)) I (by first | rfl | exact ⟨by kernel_rfl, rfl⟩) IS.out (fun a y hT hf => ?_) ?_
        · simp at hf
          have hI : I y := by first | exact hf.1 | exact hf.2 | exact hf.2.1 | exact hf.2.1.2 | exact hf.2.2 | exact hf.2.2.1 | exact hf.2.2.2 | exact hf.2.2.2.1 | exact hf.2.2.2.2 | exact hf.2.2.2.2.1 | exact hf.2.2.2.2.2
          go_simp
          try exact hI
        refine rb_held (.pointer (some ⟨b, 0, none⟩)) I (by first | rfl | exact ⟨by kernel_rfl, rfl⟩) IS.out (fun a y hT hf => ?_) ?_
        · simp at hf
          have hI : I y := by first | exact hf.1 | exact hf.2 | exact hf.2.1 | exact hf.2.1.2 | exact hf.2.2 | exact hf.2.2.1 | exact hf.2.2.2 | exact hf.2.2.2.1 | exact hf.2.2.2.2 | exact hf.2.2.2.2.1 | exact hf.2.2.2.2.2
          go_simp
          try exact hI
        refine rb_held (.int .i64 s'.count) I (by first | rfl | exact ⟨by kernel_rfl, rfl⟩) IS.out (fun a y hT hf => ?_) ?_
        · simp at hf
          have hI : I y := by first | exact hf.1 | exact hf.2 | exact hf.2.1 | exact hf.2.1.2 | exact hf.2.2 | exact hf.2.2.1 | exact hf.2.2.2 | exact hf.2.2.2.1 | exact hf.2.2.2.2 | exact hf.2.2.2.2.1 | exact hf.2.2.2.2.2
          have ca := F.out.c2 y (IU.out y hI).2
          go_simp
          try exact hI
        refine rb_held (.bool false) I (by first | rfl | exact ⟨by kernel_rfl, rfl⟩) IS.out (fun a y hT hf => ?_) ?_
        · simp at hf
          have hI : I y := by first | exact hf.1 | exact hf.2 | exact hf.2.1 | exact hf.2.1.2 | exact hf.2.2 | exact hf.2.2.1 | exact hf.2.2.2 | exact hf.2.2.2.1 | exact hf.2.2.2.2 | exact hf.2.2.2.2.1 | exact hf.2.2.2.2.2
          go_simp
          try exact hI
        refine rb_held (.bool false) I (by first | rfl | exact ⟨by kernel_rfl, rfl⟩) IS.out (fun a y hT hf => ?_) ?_
        · simp at hf
          have hI : I y := by first | exact hf.1 | exact hf.2 | exact hf.2.1 | exact hf.2.1.2 | exact hf.2.2 | exact hf.2.2.1 | exact hf.2.2.2 | exact hf.2.2.2.1 | exact hf.2.2.2.2 | exact hf.2.2.2.2.1 | exact hf.2.2.2.2.2
          go_simp
          try exact hI
        refine rb_held (.bool false) I (by first | rfl | exact ⟨by kernel_rfl, rfl⟩) IS.out (fun a y hT hf => ?_) ?_
        · simp at hf
          have hI : I y := by first | exact hf.1 | exact hf.2 | exact hf.2.1 | exact hf.2.1.2 | exact hf.2.2 | exact hf.2.2.1 | exact hf.2.2.2 | exact hf.2.2.2.1 | exact hf.2.2.2.2 | exact hf.2.2.2.2.1 | exact hf.2.2.2.2.2
          go_simp
          try exact hI
        refine rb_held (.float .f64 s'.mean) I (by first | rfl | exact ⟨by kernel_rfl, rfl⟩) IS.out (fun a y hT hf => ?_) ?_
        · simp at hf
          have hI : I y := by first | exact hf.1 | exact hf.2 | exact hf.2.1 | exact hf.2.1.2 | exact hf.2.2 | exact hf.2.2.1 | exact hf.2.2.2 | exact hf.2.2.2.1 | exact hf.2.2.2.2 | exact hf.2.2.2.2.1 | exact hf.2.2.2.2.2
          go_simp
          first | exact ⟨hI, F.out.m1 y (IU.out y hI).1⟩ | exact F.out.m1 y (IU.out y hI).1
        refine rb_held (.int .u64 s'.mean) I (by first | rfl | exact ⟨by kernel_rfl, rfl⟩) IS.out (fun a y hT hf => ?_) ?_
        · simp at hf
          have hI : I y := by first | exact hf.1 | exact hf.2 | exact hf.2.1 | exact hf.2.1.2 | exact hf.2.2 | exact hf.2.2.1 | exact hf.2.2.2 | exact hf.2.2.2.1 | exact hf.2.2.2.2 | exact hf.2.2.2.2.1 | exact hf.2.2.2.2.2
          go_simp
          try exact hI
        refine rb_held (.pointer (some ⟨b, 0, none⟩)) I (by first | rfl | exact ⟨by kernel_rfl, rfl⟩) IS.out (fun a y hT hf => ?_) ?_
        · simp at hf
          have hI : I y := by first | exact hf.1 | exact hf.2 | exact hf.2.1 | exact hf.2.1.2 | exact hf.2.2 | exact hf.2.2.1 | exact hf.2.2.2 | exact hf.2.2.2.1 | exact hf.2.2.2.2 | exact hf.2.2.2.2.1 | exact hf.2.2.2.2.2
          go_simp
          try exact hI
        refine rb_held (.pointer (some ⟨b, 0, none⟩)) I (by first | rfl | exact ⟨by kernel_rfl, rfl⟩) IS.out (fun a y hT hf => ?_) ?_
        · simp at hf
          have hI : I y := by first | exact hf.1 | exact hf.2 | exact hf.2.1 | exact hf.2.1.2 | exact hf.2.2 | exact hf.2.2.1 | exact hf.2.2.2 | exact hf.2.2.2.1 | exact hf.2.2.2.2 | exact hf.2.2.2.2.1 | exact hf.2.2.2.2.2
          go_simp
          try exact hI
        refine rb_held (.pointer (some ⟨b, 1, none⟩)) I (by first | rfl | exact ⟨by kernel_rfl, rfl⟩) IS.out (fun a y hT hf => ?_) ?_
        · simp at hf
          have hI : I y := by first | exact hf.1 | exact hf.2 | exact hf.2.1 | exact hf.2.1.2 | exact hf.2.2 | exact hf.2.2.1 | exact hf.2.2.2 | exact hf.2.2.2.1 | exact hf.2.2.2.2 | exact hf.2.2.2.2.1 | exact hf.2.2.2.2.2
          go_simp
          try exact hI
        refine rb_held (.float .f64 s'.mean) I (by first | rfl | exact ⟨by kernel_rfl, rfl⟩) IS.out (fun a y hT hf => ?_) ?_
        · simp at hf
          have hI : I y := by first | exact hf.1 | exact hf.2 | exact hf.2.1 | exact hf.2.1.2 | exact hf.2.2 | exact hf.2.2.1 | exact hf.2.2.2 | exact hf.2.2.2.1 | exact hf.2.2.2.2 | exact hf.2.2.2.2.1 | exact hf.2.2.2.2.2
          have ca := F.out.m2 y (IU.out y hI).2
          go_simp
          try exact hI
        refine rb_held (.int .u64 s'.mean) I (by first | rfl | exact ⟨by kernel_rfl, rfl⟩) IS.out (fun a y hT hf => ?_) ?_
        · simp at hf
          have hI : I y := by first | exact hf.1 | exact hf.2 | exact hf.2.1 | exact hf.2.1.2 | exact hf.2.2 | exact hf.2.2.1 | exact hf.2.2.2 | exact hf.2.2.2.1 | exact hf.2.2.2.2 | exact hf.2.2.2.2.1 | exact hf.2.2.2.2.2
          go_simp
          try exact hI
        refine rb_held (.bool false) I (by first | rfl | exact ⟨by kernel_rfl, rfl⟩) IS.out (fun a y hT hf => ?_) ?_
        · simp at hf
          have hI : I y := by first | exact hf.1 | exact hf.2 | exact hf.2.1 | exact hf.2.1.2 | exact hf.2.2 | exact hf.2.2.1 | exact hf.2.2.2 | exact hf.2.2.2.1 | exact hf.2.2.2.2 | exact hf.2.2.2.2.1 | exact hf.2.2.2.2.2
          go_simp
          try exact hI
        refine rb_held (.bool false) I (by first | rfl | exact ⟨by kernel_rfl, rfl⟩) IS.out (fun a y hT hf => ?_) ?_
        · simp at hf
          have hI : I y := by first | exact hf.1 | exact hf.2 | exact hf.2.1 | exact hf.2.1.2 | exact hf.2.2 | exact hf.2.2.1 | exact hf.2.2.2 | exact hf.2.2.2.1 | exact hf.2.2.2.2 | exact hf.2.2.2.2.1 | exact hf.2.2.2.2.2
          go_simp
          try exact hI
        refine rb_held (.bool false) I (by first | rfl | exact ⟨by kernel_rfl, rfl⟩) IS.out (fun a y hT hf => ?_) ?_
        · simp at hf
          have hI : I y := by first | exact hf.1 | exact hf.2 | exact hf.2.1 | exact hf.2.1.2 | exact hf.2.2 | exact hf.2.2.1 | exact hf.2.2.2 | exact hf.2.2.2.1 | exact hf.2.2.2.2 | exact hf.2.2.2.2.1 | exact hf.2.2.2.2.2
          go_simp
          try exact hI
        refine rb_held (.float .f64 s'.jit) I (by first | rfl | exact ⟨by kernel_rfl, rfl⟩) IS.out (fun a y hT hf => ?_) ?_
        · simp at hf
          have hI : I y := by first | exact hf.1 | exact hf.2 | exact hf.2.1 | exact hf.2.1.2 | exact hf.2.2 | exact hf.2.2.1 | exact hf.2.2.2 | exact hf.2.2.2.1 | exact hf.2.2.2.2 | exact hf.2.2.2.2.1 | exact hf.2.2.2.2.2
          go_simp
          first | exact ⟨hI, F.out.j1 y (IU.out y hI).1⟩ | exact F.out.j1 y (IU.out y hI).1
        refine rb_held (.int .u64 s'.jit) I (by first | rfl | exact ⟨by kernel_rfl, rfl⟩) IS.out (fun a y hT hf => ?_) ?_
        · simp at hf
          have hI : I y := by first | exact hf.1 | exact hf.2 | exact hf.2.1 | exact hf.2.1.2 | exact hf.2.2 | exact hf.2.2.1 | exact hf.2.2.2 | exact hf.2.2.2.1 | exact hf.2.2.2.2 | exact hf.2.2.2.2.1 | exact hf.2.2.2.2.2
          go_simp
          try exact hI
        refine rb_held (.pointer (some ⟨b, 0, none⟩)) I (by first | rfl | exact ⟨by kernel_rfl, rfl⟩) IS.out (fun a y hT hf => ?_) ?_
        · simp at hf
          have hI : I y := by first | exact hf.1 | exact hf.2 | exact hf.2.1 | exact hf.2.1.2 | exact hf.2.2 | exact hf.2.2.1 | exact hf.2.2.2 | exact hf.2.2.2.1 | exact hf.2.2.2.2 | exact hf.2.2.2.2.1 | exact hf.2.2.2.2.2
          go_simp
          try exact hI
        refine rb_held (.pointer (some ⟨b, 0, none⟩)) I (by first | rfl | exact ⟨by kernel_rfl, rfl⟩) IS.out (fun a y hT hf => ?_) ?_
        · simp at hf
          have hI : I y := by first | exact hf.1 | exact hf.2 | exact hf.2.1 | exact hf.2.1.2 | exact hf.2.2 | exact hf.2.2.1 | exact hf.2.2.2 | exact hf.2.2.2.1 | exact hf.2.2.2.2 | exact hf.2.2.2.2.1 | exact hf.2.2.2.2.2
          go_simp
          try exact hI
        refine rb_held (.pointer (some ⟨b, 2, none⟩)) I (by first | rfl | exact ⟨by kernel_rfl, rfl⟩) IS.out (fun a y hT hf => ?_) ?_
        · simp at hf
          have hI : I y := by first | exact hf.1 | exact hf.2 | exact hf.2.1 | exact hf.2.1.2 | exact hf.2.2 | exact hf.2.2.1 | exact hf.2.2.2 | exact hf.2.2.2.1 | exact hf.2.2.2.2 | exact hf.2.2.2.2.1 | exact hf.2.2.2.2.2
          go_simp
          try exact hI
        refine rb_held (.float .f64 s'.jit) I (by first | rfl | exact ⟨by kernel_rfl, rfl⟩) IS.out (fun a y hT hf => ?_) ?_
        · simp at hf
          have hI : I y := by first | exact hf.1 | exact hf.2 | exact hf.2.1 | exact hf.2.1.2 | exact hf.2.2 | exact hf.2.2.1 | exact hf.2.2.2 | exact hf.2.2.2.1 | exact hf.2.2.2.2 | exact hf.2.2.2.2.1 | exact hf.2.2.2.2.2
          have ca := F.out.j2 y (IU.out y hI).2
          go_simp
          try exact hI
        refine rb_held (.int .u64 s'.jit) I (by first | rfl | exact ⟨by kernel_rfl, rfl⟩) IS.out (fun a y hT hf => ?_) ?_
        · simp at hf
          have hI : I y := by first | exact hf.1 | exact hf.2 | exact hf.2.1 | exact hf.2.1.2 | exact hf.2.2 | exact hf.2.2.1 | exact hf.2.2.2 | exact hf.2.2.2.1 | exact hf.2.2.2.2 | exact hf.2.2.2.2.1 | exact hf.2.2.2.2.2
          go_simp
          try exact hI
        refine rb_held (.bool false) I (by first | rfl | exact ⟨by kernel_rfl, rfl⟩) IS.out (fun a y hT hf => ?_) ?_
        · simp at hf
          have hI : I y := by first | exact hf.1 | exact hf.2 | exact hf.2.1 | exact hf.2.1.2 | exact hf.2.2 | exact hf.2.2.1 | exact hf.2.2.2 | exact hf.2.2.2.1 | exact hf.2.2.2.2 | exact hf.2.2.2.2.1 | exact hf.2.2.2.2.2
          go_simp
          try exact hI
        refine rb_held (.bool false) I (by first | rfl | exact ⟨by kernel_rfl, rfl⟩) IS.out (fun a y hT hf => ?_) ?_
        · simp at hf
          have hI : I y := by first | exact hf.1 | exact hf.2 | exact hf.2.1 | exact hf.2.1.2 | exact hf.2.2 | exact hf.2.2.1 | exact hf.2.2.2 | exact hf.2.2.2.1 | exact hf.2.2.2.2 | exact hf.2.2.2.2.1 | exact hf.2.2.2.2.2
          go_simp
          try exact hI
        refine rb_held (.bool false) I (by first | rfl | exact ⟨by kernel_rfl, rfl⟩) IS.out (fun a y hT hf => ?_) ?_
        · simp at hf
          have hI : I y := by first | exact hf.1 | exact hf.2 | exact hf.2.1 | exact hf.2.1.2 | exact hf.2.2 | exact hf.2.2.1 | exact hf.2.2.2 | exact hf.2.2.2.1 | exact hf.2.2.2.2 | exact hf.2.2.2.2.1 | exact hf.2.2.2.2.2
          go_simp
          try exact hI
        refine rb_held (.int .i64 a2) I (by first | rfl | exact ⟨by kernel_rfl, rfl⟩) IS.out (fun a y hT hf => ?_) ?_
        · simp at hf
          have hI : I y := by first | exact hf.1 | exact hf.2 | exact hf.2.1 | exact hf.2.1.2 | exact hf.2.2 | exact hf.2.2.1 | exact hf.2.2.2 | exact hf.2.2.2.1 | exact hf.2.2.2.2 | exact hf.2.2.2.2.1 | exact hf.2.2.2.2.2
          go_simp
          try exact hI
        refine rb_call (fun y v => v = .int .i64 L ∧ I y) (fun y => True) (by first | rfl | exact ⟨by kernel_rfl, rfl⟩) (by kernel_rfl) (fun y y' v t h => ⟨h.1, IS.out _ _ t h.2⟩) (fun a y hJ hT hf => ?_) ?_
        · simp at hf
          have hI : I y := by first | exact hf.1 | exact hf.2 | exact hf.2.1 | exact hf.2.1.2 | exact hf.2.2 | exact hf.2.2.1 | exact hf.2.2.2 | exact hf.2.2.2.1 | exact hf.2.2.2.2 | exact hf.2.2.2.2.1 | exact hf.2.2.2.2.2
          go_simp
          refine (F.out.l1 y (IU.out y hI).1).mono ?_
          rintro e y' ⟨rfl, h1⟩
          have tt : T B b s' y y' := ⟨h1.weaken (by simp), fun h => h.only h1 (by simp), fun h => h.only h1 (by simp)⟩
          exact ⟨_, rfl, ⟨rfl, IS.out _ _ tt hI⟩, tt⟩
        refine rb_held (.pointer (some ⟨b, 0, none⟩)) I (by first | rfl | exact ⟨by kernel_rfl, rfl⟩) IS.out (fun a y hT hf => ?_) ?_
        · simp at hf
          have hI : I y := by first | exact hf.1 | exact hf.2 | exact hf.2.1 | exact hf.2.1.2 | exact hf.2.2 | exact hf.2.2.1 | exact hf.2.2.2 | exact hf.2.2.2.1 | exact hf.2.2.2.2 | exact hf.2.2.2.2.1 | exact hf.2.2.2.2.2
          go_simp
          try exact hI
        refine rb_held (.int .i64 a2) I (by first | rfl | exact ⟨by kernel_rfl, rfl⟩) IS.out (fun a y hT hf => ?_) ?_
        · simp at hf
          have hI : I y := by first | exact hf.1 | exact hf.2 | exact hf.2.1 | exact hf.2.1.2 | exact hf.2.2 | exact hf.2.2.1 | exact hf.2.2.2 | exact hf.2.2.2.1 | exact hf.2.2.2.2 | exact hf.2.2.2.2.1 | exact hf.2.2.2.2.2
          go_simp
          try exact hI
        refine rb_held (.int .i64 L) I (by first | rfl | exact ⟨by kernel_rfl, rfl⟩) IS.out (fun a y hT hf => ?_) ?_
        · simp at hf
          have hI : I y := by first | exact hf.1 | exact hf.2 | exact hf.2.1 | exact hf.2.1.2 | exact hf.2.2 | exact hf.2.2.1 | exact hf.2.2.2 | exact hf.2.2.2.1 | exact hf.2.2.2.2 | exact hf.2.2.2.2.1 | exact hf.2.2.2.2.2
          go_simp
          first | exact ⟨hI, F.out.l2 y (IU.out y hI).2⟩ | exact F.out.l2 y (IU.out y hI).2
        refine rb_held (.bool false) I (by first | rfl | exact ⟨by kernel_rfl, rfl⟩) IS.out (fun a y hT hf => ?_) ?_
        · simp at hf
          have hI : I y := by first | exact hf.1 | exact hf.2 | exact hf.2.1 | exact hf.2.1.2 | exact hf.2.2 | exact hf.2.2.1 | exact hf.2.2.2 | exact hf.2.2.2.1 | exact hf.2.2.2.2 | exact hf.2.2.2.2.1 | exact hf.2.2.2.2.2
          go_simp
          try exact hI
        refine rb_held (.bool false) I (by first | rfl | exact ⟨by kernel_rfl, rfl⟩) IS.out (fun a y hT hf => ?_) ?_
        · simp at hf
          have hI : I y := by first | exact hf.1 | exact hf.2 | exact hf.2.1 | exact hf.2.1.2 | exact hf.2.2 | exact hf.2.2.1 | exact hf.2.2.2 | exact hf.2.2.2.1 | exact hf.2.2.2.2 | exact hf.2.2.2.2.1 | exact hf.2.2.2.2.2
          go_simp
          try exact hI
        intro y hJ hy
        simp only [FinA, Sp.R, forall_eq, held_all]
        intro wN rN i0
        have E : Hid (St w B b y s' (k + 1)) := ⟨wN, rN, CN.out, D.out.only.then hy.1 (by simp; omega)⟩
        clear wN rN i0
        intros
        simp only [Act.put, List.setIfInBounds_toArray, List.set_cons_succ, List.set_cons_zero]
        go_wp2_with fail
        go_roundg (60 - k)
        case measure => omega
        case rel => exact ⟨k + 1, s', rfl, by omega, by omega, by omega, E.out⟩
      · have z1 : (k : Int) < (n : Int) := by omega
        have z2 : ¬ (k : Int) < 40 := by omega
        go_wp2_with fail
        refine (known_any _).mono ?_
        rintro e x2 ⟨rfl, o2⟩
        go_wp2_with fail
        go_ret
        exact ⟨rfl, (HR.out.only.trans o2).below (by omega) (by simp)⟩
    · have z1 : ¬ (k : Int) < (n : Int) := by omega
      go_wp2_with fail
      refine (known_any _).mono ?_
      rintro e x2 ⟨rfl, o2⟩
      go_wp2_with fail
      go_ret
      exact ⟨rfl, (HR.out.only.trans o2).below (by omega) (by simp)⟩

set_option maxRecDepth 100000 in
theorem lifted (os : Os) (started : os.Started) (H : Type) (enc : TypeId × Value → H) :
    ReturnsInHanded {} Try.checked os 4 .any (Rows.meterNotesSpec.pre6 enc Try.prog Try.f4 Rows.meterNotesRow.domain false) (Rows.meterNotesSpec.post enc Try.prog Try.f4 false true false false) := by
  refine returnsInHanded_of_change (C := Try.checked) own started (by kernel_rfl) Try.func4
    (ChangeSpec.witness6 (enc := enc) (C := Try.checked) false ⟨#[], #[.slice none 0 0, .slice none 0 0, .int .i64 0], []⟩ 8 (by kernel_rfl) (by kernel_rfl) (by kernel_rfl) (by kernel_rfl)) ?_
  intro W base args ds gs before hval0 hW hcnd _
  have hval : ∀ (j : Nat) t v, Try.f4.params[j]? = some t → args[j]? = some v → Value.okWide Try.prog W .any base t v := hval0
  have hW' := hW
  obtain ⟨p, q, hA0, hV, rfl, hfz, hnd⟩ := hW
  have hA : DataW.TrodAll enc Try.prog W 0 (fun _ => true) true Try.f4.params.toList args.toList ds p := hA0
  rw [Try.params4] at hA hval
  obtain ⟨v0, vs0, d0, ds0, p0, q0, hargs, rfl, rfl, h0, r0⟩ := trodAll_cons hA
  obtain ⟨v1, vs1, d1, ds1, p1, q1, rfl, rfl, rfl, h1, r1⟩ := trodAll_cons r0
  obtain ⟨v2, vs2, d2, ds2, p2, q2, rfl, rfl, rfl, h2, r2⟩ := trodAll_cons r1
  obtain ⟨rfl, rfl, rfl⟩ := trodAll_nil r2
  obtain rfl : args = #[v0, v1, v2] := by cases args; simp_all
  obtain ⟨rfl, rfl⟩ := trodVars_none hV
  obtain ⟨e0, len0, cap0, rfl⟩ := okWide_slice Try.underlying34 (hval 0 34 v0 rfl rfl)
  have k0 := h0
  have lt0 : ∀ x ∈ p0, x.block < W.heap.size := by obtain ⟨m, hm⟩ := k0; exact DataW.trod_lt m _ _ _ hm
  obtain ⟨a0, w0⟩ := came_i Try.underlying34 Try.underlying3 (by kernel_rfl) h0
  obtain ⟨e1, len1, cap1, rfl⟩ := okWide_slice Try.underlying35 (hval 1 35 v1 rfl rfl)
  have k1 := h1
  have lt1 : ∀ x ∈ p1, x.block < W.heap.size := by obtain ⟨m, hm⟩ := k1; exact DataW.trod_lt m _ _ _ hm
  obtain ⟨a1, w1⟩ := came_f Try.underlying35 Try.underlying22 (by kernel_rfl) h1
  obtain ⟨a2, rfl, rfl, rfl, w2⟩ := open_int Try.underlying3 (hval 2 3 v2 rfl rfl) h2
  clear hA0 hval0
  refine (walk _ a0 _ a1 a2 W w0 w1 w2).mono fun e W' ⟨he, bel⟩ => ?_
  subst he
  exact ⟨_, rfl, _, _, _, [], _, [], hW', trodAll_mk1 (shut_bool Try.underlying4 _), (trodAll_cons_mk (Below.trod laidOut (by kernel_rfl) (of_decide_eq_true (by kernel_rfl)) k0 bel lt0) (trodAll_cons_mk (Below.trod laidOut (by kernel_rfl) (of_decide_eq_true (by kernel_rfl)) k1 bel lt1) (trodAll_cons_mk (shut_int Try.underlying3 w2) trodAll_mk0))), rfl, bel.frame _, fun h => by cases h⟩

theorem over : Rows.meterNotesRow.holds Try.pinned (OpenSpec.ofChange Rows.meterNotesSpec) :=
  OpenClaim.holds_of_wide 4 Try.f4 rfl rfl rfl rfl rfl rfl rfl ⟨rfl, rfl, rfl, rfl, rfl⟩ rfl rfl rfl rfl rfl (by kernel_rfl) Try.func4 (by kernel_rfl)
    (of_decide_eq_true (by kernel_rfl)) (by unfold Func.isWrapper; first | (rw [if_pos (by decide +kernel)]; kernel_rfl) | (rw [if_neg (by decide +kernel)]; exact ⟨rfl, rfl⟩))
    (fun os started H enc _ => lifted os started H enc)

/-- THE STATEMENT -/
theorem proved : Rows.MeterNotesSaid := over
end Go.Proofs.Ytfebpbahincieaa.meterNotes

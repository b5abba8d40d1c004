/- Package bucket in memory: the contracts of New, Take, Level. -/
import Derived.Test.YtdglbllabfpfcaaFlW
import Derived.Test.YtdglbllabfpfcaaBuck
import Derived.Test.YtdglbllabfpfcaaBlk
import Derived.BigQuiet
import Derived.BigRegion
import Derived.RegionTactic
import Derived.StillTailTactics
namespace Go.Proofs.Ytdglbllabfpfcaa
open Go.ChangeShapes Go.WideShapes Go.ChangeAt Go.RowKit
open Fl (V nn fin rg sg U)

@[go_sem] theorem run_store_float (P : Program) (w : World) (a : Addr) (m : Mode) (k : FloatKind) (b : Nat) : (store a (.float k b) m).run P w = stored P w a (.float k b) m := run_store P w a _ m rfl
theorem V_maxf : V 9218868437227405311 = (Fl.valR (Fl.inf - 1) : Int) := by decide +kernel
theorem nn_maxf : nn 9218868437227405311 := by decide +kernel
theorem o_maxf {x : Nat} (h : nn x) (h0 : 0 ≤ V x) : (FloatKind.f64.format.order x 9218868437227405311 == some .gt) = !decide (fin x) := by
  rw [o_gt h nn_maxf, V_maxf]
  by_cases f : fin x
  · rw [decide_eq_true f]
    refine decide_eq_false ?_
    have : Fl.valR (rg x) ≤ Fl.valR (Fl.inf - 1) := Fl.valR_mono (by unfold fin at f; omega)
    unfold V; split <;> omega
  · rw [decide_eq_false f]
    refine decide_eq_true ?_
    have e : rg x = Fl.inf := by unfold fin at f; unfold nn at h; omega
    have hlt : Fl.valR (Fl.inf - 1) < Fl.valR Fl.inf := Fl.valR_lt_iff.2 (by decide)
    rw [Fl.V_inf e] at h0 ⊢
    cases hs : sg x
    · simp only [Bool.false_eq_true, if_false]; omega
    · rw [hs] at h0; simp only [if_true] at h0; omega
theorem o_ge_nan {x : Nat} (y : Nat) (h : ¬ nn x) : (FloatKind.f64.format.order x y == some .gt || FloatKind.f64.format.order x y == some .eq) = false := by
  rw [d_fmt, Fl.order_nan_left y h]; rfl

theorem israte_any (x : Nat) (w : World) : Calls Try.prog 17 #[.float .f64 x] w fun e w' => e = .returned (.bool (decide (fin x ∧ 0 ≤ V x))) ∧ w = w' := by
  by_cases n : nn x
  · have g := o_ge n nn_c0
    rw [Fl.V_0] at g
    by_cases p : 0 ≤ V x
    · rw [decide_eq_true p] at g
      have m := o_maxf n p
      have E : decide (fin x ∧ 0 ≤ V x) = decide (fin x) := by simp [p]
      rw [E]
      cases hf : decide (fin x)
      · rw [hf] at m
        clear n p E hf
        go_enter Try.func17, Try.ntmps17
        go_wp2_with (go_at_call 20; go_in)
        go_ret
        exact ⟨rfl, rfl⟩
      · rw [hf] at m
        clear n p E hf
        go_enter Try.func17, Try.ntmps17
        go_wp2_with (go_at_call 20; go_in)
        go_ret
        exact ⟨rfl, rfl⟩
    · rw [decide_eq_false p] at g
      rw [decide_eq_false (fun h => p h.2)]
      clear n p
      go_enter Try.func17, Try.ntmps17
      go_wp2_with (go_at_call 20; go_in)
      go_ret
      exact ⟨rfl, rfl⟩
  · have g := o_ge_nan 0 n
    rw [decide_eq_false (fun h => n h.1.nn)]
    clear n
    go_enter Try.func17, Try.ntmps17
    go_wp2_with (go_at_call 20; go_in)
    go_ret
    exact ⟨rfl, rfl⟩

theorem isdepth_any (x : Nat) (w : World) : Calls Try.prog 18 #[.float .f64 x] w fun e w' => e = .returned (.bool (decide (nn x ∧ (U : Int) ≤ V x ∧ V x ≤ 1000 * (U : Int)))) ∧ w = w' := by
  by_cases n : nn x
  · have g := o_ge n nn_c1
    have l := o_le n Fl.Buck.fin_thousand.nn
    rw [V_c1] at g
    rw [Fl.Buck.V_thousand] at l
    by_cases p : (U : Int) ≤ V x
    · rw [decide_eq_true p] at g
      have E : decide (nn x ∧ (U : Int) ≤ V x ∧ V x ≤ 1000 * (U : Int)) = decide (V x ≤ 1000 * (U : Int)) := by simp [n, p]
      rw [E]
      clear n p E
      generalize decide (V x ≤ 1000 * (U : Int)) = b at *
      go_enter Try.func18, Try.ntmps18
      go_wp2
      go_ret
      exact ⟨rfl, rfl⟩
    · rw [decide_eq_false p] at g
      rw [decide_eq_false (fun h => p h.2.1)]
      clear n p l
      go_enter Try.func18, Try.ntmps18
      go_wp2
      go_ret
      exact ⟨rfl, rfl⟩
  · have g := o_ge_nan 4607182418800017408 n
    rw [decide_eq_false (fun h => n h.1)]
    clear n
    go_enter Try.func18, Try.ntmps18
    go_wp2
    go_ret
    exact ⟨rfl, rfl⟩

/-- a Bucket in memory -/
structure Bk (w : World) (b : Nat) (s : Fl.Buck.S) : Prop where
  blk : Blk w b [.float .f64 s.rate, .float .f64 s.depth, .float .f64 s.level, .int .i64 s.last]
  ok : s.ok
theorem Bk.only {w w' : World} {b : Nat} {s : Fl.Buck.S} {L : List Nat} (h : Bk w b s) (o : Only L w w') (hb : b ∉ L) : Bk w' b s := ⟨h.blk.only o hb, h.ok⟩
theorem Bk.lt {w : World} {b : Nat} {s : Fl.Buck.S} (h : Bk w b s) : b < w.heap.size := h.blk.lt

/-- what New answers -/
def NewPost (r d : Nat) (w : World) (e : Ending) (w' : World) : Prop :=
  if Fl.Buck.right r d then e = .returned (.tuple #[.pointer (some ⟨w.heap.size, 0, none⟩), .int .i64 0]) ∧ Bk w' w.heap.size (Fl.Buck.new r d) ∧ Only [] w w'
  else e = .returned (.tuple #[.pointer none, .int .i64 1]) ∧ w = w'

theorem new_any (r d : Nat) (lr : r < 2 ^ 64) (ld : d < 2 ^ 64) (w : World) : Calls Try.prog 7 #[.float .f64 r, .float .f64 d] w (NewPost r d w) := by
  by_cases R : fin r ∧ 0 ≤ V r
  · have r1 := decide_eq_true R
    by_cases D : nn d ∧ (U : Int) ≤ V d ∧ V d ≤ 1000 * (U : Int)
    · have d1 := decide_eq_true D
      have H : Hid (Fl.Buck.right r d) := ⟨R, D⟩
      clear R D
      go_enter Try.func7, Try.ntmps7
      go_wp2_with fail
      refine (israte_any _ _).mono ?_
      rintro e w' ⟨rfl, rfl⟩
      rw [r1]
      go_wp2_with fail
      refine (isdepth_any _ _).mono ?_
      rintro e w' ⟨rfl, rfl⟩
      rw [d1]
      go_wp2_with fail
      go_ret2
      unfold NewPost
      rw [if_pos H.out]
      exact ⟨rfl, ⟨Blk.new _ _ _, Fl.Buck.new_ok lr ld H.out⟩, (Only.refl _ _).alloc _⟩
    · have d1 := decide_eq_false D
      have H : Hid (¬ Fl.Buck.right r d) := fun h => D h.2
      clear R D
      go_enter Try.func7, Try.ntmps7
      go_wp2_with fail
      refine (israte_any _ _).mono ?_
      rintro e w' ⟨rfl, rfl⟩
      rw [r1]
      go_wp2_with fail
      refine (isdepth_any _ _).mono ?_
      rintro e w' ⟨rfl, rfl⟩
      rw [d1]
      go_wp2_with fail
      go_ret2
      unfold NewPost
      rw [if_neg H.out]
      exact ⟨rfl, rfl⟩
  · have r1 := decide_eq_false R
    have H : Hid (¬ Fl.Buck.right r d) := fun h => R h.1
    clear R
    go_enter Try.func7, Try.ntmps7
    go_wp2_with fail
    refine (israte_any _ _).mono ?_
    rintro e w' ⟨rfl, rfl⟩
    rw [r1]
    go_wp2_with fail
    go_ret2
    unfold NewPost
    rw [if_neg H.out]
    exact ⟨rfl, rfl⟩

theorem new_right (r d : Nat) (lr : r < 2 ^ 64) (ld : d < 2 ^ 64) (h : Fl.Buck.right r d) (w : World) : Calls Try.prog 7 #[.float .f64 r, .float .f64 d] w fun e w' => e = .returned (.tuple #[.pointer (some ⟨w.heap.size, 0, none⟩), .int .i64 0]) ∧ Bk w' w.heap.size (Fl.Buck.new r d) ∧ Only [] w w' :=
  (new_any r d lr ld w).mono fun e w' p => by unfold NewPost at p; rw [if_pos h] at p; exact p
theorem new_wrong (r d : Nat) (lr : r < 2 ^ 64) (ld : d < 2 ^ 64) (h : ¬ Fl.Buck.right r d) (w : World) : Calls Try.prog 7 #[.float .f64 r, .float .f64 d] w fun e w' => e = .returned (.tuple #[.pointer none, .int .i64 1]) ∧ w = w' :=
  (new_any r d lr ld w).mono fun e w' p => by unfold NewPost at p; rw [if_neg h] at p; exact p

theorem level_any (b : Nat) (s : Fl.Buck.S) (w : World) (h : Bk w b s) : Calls Try.prog 9 #[.pointer (some ⟨b, 0, none⟩)] w fun e w' => e = .returned (.float .f64 s.level) ∧ w' = w := by
  have c := h.blk.cell 2
  simp at c
  clear h
  go_enter Try.func9, Try.ntmps9
  go_wp2
  go_ret
  exact ⟨rfl, rfl⟩

/-! ### fill, Take -/
theorem minw_run {x y : Nat} (hx : nn x) (hy : nn y) (ts : Array TypeId) (t : TypeId) (w : World) : (Builtin.min_ ts t #[.float .f64 x, .float .f64 y]).run Try.prog w = .ok (.float .f64 (Fl.minw x y)) w := by
  have e := Fl.order_nn hx hy
  have h : (Builtin.min2 (.float .f64 x) (.float .f64 y)).run Try.prog w = .ok (.float .f64 (Fl.minw x y)) w := by
    unfold Builtin.min2
    dsimp only
    rw [d_fmt, e]
    unfold Fl.minw
    rcases Int.lt_trichotomy (V x) (V y) with h | h | h
    · rw [Int.compare_eq_lt.2 h, if_pos h]; rfl
    · rw [Int.compare_eq_eq.2 h, if_neg (show ¬ V x < V y by omega), if_neg (show ¬ V y < V x by omega)]
      have : (FloatKind.f64.decode x).neg = sg x := by
        show (Ieee.double.read x).neg = _
        rcases Nat.lt_or_eq_of_le hx with f | f
        · obtain ⟨m, p, e, _⟩ := Fl.read_fin f
          rw [e]; rfl
        · rw [Fl.read_inf f]; rfl
      rw [this]; rfl
    · rw [Int.compare_eq_gt.2 h, if_neg (show ¬ V x < V y by omega), if_pos h]; rfl
  unfold Builtin.min_
  simp only [List.foldlM_cons, List.foldlM_nil]
  simp [h]

theorem fill_any (b : Nat) (s : Fl.Buck.S) (t : Int) (ht : t ≤ 1000000) (w : World) (h : Bk w b s) : Calls Try.prog 19 #[.pointer (some ⟨b, 0, none⟩), .int .i64 t] w fun e w' => e = .returned (.tuple #[]) ∧ Bk w' b (s.fill t) ∧ Only [b] w w' ∧ w'.heap.size = w.heap.size := by
  have c0 := h.blk.cell 0
  have c1 := h.blk.cell 1
  have c2 := h.blk.cell 2
  have c3 := h.blk.cell 3
  simp at c0 c1 c2 c3
  by_cases c : t ≤ s.last
  · rw [Fl.Buck.fill_no c]
    have H := Lib.hid h
    clear h
    go_enter Try.func19, Try.ntmps19
    go_wp2_with fail
    refine bodyPost_ret (results_none rfl _ _ _) rfl ?_
    exact ⟨rfl, H.out, Only.refl _ _, rfl⟩
  · have ok := h.ok
    have F := Fl.Buck.fill_spec ok (show s.last < t by omega) ht
    have l0 := ok.l0
    have ew : IntKind.i64.wrap (t - s.last) = t - s.last := IntWalk.i64_in _ (by omega)
    have b1 : ∀ w, (binOp .mul 22 (.float .f64 s.rate) (.float .f64 (floatOfInt .f64 (IntKind.i64.wrap (t - s.last))))).run Try.prog w = .ok (.float .f64 (Fl.Buck.part s t)) w := fun w => by
      rw [ew]; exact run_float_arith (P := Try.prog) w .mul 22 .f64 _ _ _ F.ml
    have b2 := fun w => run_float_arith (P := Try.prog) w .add 22 .f64 _ _ _ F.ad
    have b3 := fun ts t w => minw_run F.nm ok.fd.nn ts t w
    have K := Lib.hid (Fl.Buck.fill_ok ok ht)
    rw [Fl.Buck.fill_yes (by omega)] at K ⊢
    have H := Lib.hid h.blk
    generalize Fl.minw (Fl.Buck.more s t) s.depth = M at *
    generalize Fl.Buck.more s t = A at *
    generalize Fl.Buck.part s t = B at *
    clear F ok h ew
    go_enter Try.func19, Try.ntmps19
    go_wp2_with fail
    go_quiet (fail)
    go_wp2_with fail
    have H2 : Hid (Blk (w.drewN nq) b [.float .f64 s.rate, .float .f64 s.depth, .float .f64 s.level, .int .i64 s.last] ∧ Only [] w (w.drewN nq) ∧ (w.drewN nq).heap.size = w.heap.size) := ⟨H.out.only (only_drewN _ _) (by simp), only_drewN _ _, rfl⟩
    clear H c0 c1 c2 c3
    generalize w.drewN nq = w2 at *
    have c1 := H2.out.1.cell 1
    have c2 := H2.out.1.cell 2
    simp at c1 c2
    have H3 := Lib.hid (H2.out.1.only (only_drew w2) (by simp))
    have d2 := H3.out.cell 2
    simp at d2
    have f2 := H3.out.frozen 2
    go_region
    have H4 : Hid (Blk (w2.setCell ⟨b, 2, none⟩ (.float .f64 M)).drew b [.float .f64 s.rate, .float .f64 s.depth, .float .f64 M, .int .i64 s.last] ∧ Only [b] w (w2.setCell ⟨b, 2, none⟩ (.float .f64 M)).drew ∧ (w2.setCell ⟨b, 2, none⟩ (.float .f64 M)).drew.heap.size = w.heap.size) :=
      ⟨(H2.out.1.set 2 _).only (only_drew _) (by simp), ((H2.out.2.1.weaken (by simp)).trans ((Only.refl _ _).setCell (by simp) _)).drew, by show (w2.setCell _ _).heap.size = _; simp [World.setCell]; exact H2.out.2.2⟩
    clear H2 H3 c1 c2 d2 f2
    generalize (w2.setCell ⟨b, 2, none⟩ (.float .f64 M)).drew = w3 at *
    have c3 := H4.out.1.cell 3
    simp at c3
    have f3 := H4.out.1.frozen 3
    go_wp2_with fail
    go_end0
    refine ⟨rfl, ⟨H4.out.1.set 3 _, K.out⟩, H4.out.2.1.trans ((Only.refl _ _).setCell (by simp) _), ?_⟩
    simp [World.setCell]; exact H4.out.2.2

def TakePost (b : Nat) (w : World) (r : Fl.Buck.S × Bool) (e : Ending) (w' : World) : Prop := e = .returned (.bool r.2) ∧ Bk w' b r.1 ∧ Only [b] w w' ∧ w'.heap.size = w.heap.size

/-- what is done once it is filled -/
structure TakeF (b : Nat) (w w1 : World) (s : Fl.Buck.S) : Prop where
  bk : Bk w1 b s
  only : Only [b] w w1
  size : w1.heap.size = w.heap.size

theorem take_any (b : Nat) (s : Fl.Buck.S) (t : Int) (w : World) (h : Bk w b s) : Calls Try.prog 10 #[.pointer (some ⟨b, 0, none⟩), .int .i64 t] w (TakePost b w (s.take t)) := by
  have q := fill_any b s (min t 1000000) (by omega) w h
  have ok := Fl.Buck.fill_ok h.ok (show min t 1000000 ≤ 1000000 by omega)
  have E : s.take t = (s.fill (min t 1000000)).one := rfl
  rw [E]
  clear E
  have k : (1000000 < t ∧ min t 1000000 = 1000000) ∨ (¬ 1000000 < t ∧ min t 1000000 = t) := by omega
  generalize s.fill (min t 1000000) = f at *
  have o := o_lt ok.fl.nn nn_c1
  rw [V_c1] at o
  clear h
  by_cases g : V f.level < (U : Int)
  · rw [Fl.Buck.one_no g]
    rw [decide_eq_true g] at o
    clear g ok
    rcases k with ⟨k1, k2⟩ | ⟨k1, k2⟩
    all_goals
      rw [k2] at q
      clear k2
      go_enter Try.func10, Try.ntmps10
      go_wp2_with fail
      refine q.mono ?_
      rintro e w1 ⟨rfl, h1, h2, h3⟩
      have H : Hid (TakeF b w w1 f) := ⟨h1, h2, h3⟩
      have c2 := h1.blk.cell 2
      simp at c2
      clear q h1 h2 h3
      go_wp2_with fail
      go_ret
      exact ⟨rfl, H.out.bk, H.out.only, H.out.size⟩
  · rw [Fl.Buck.one_yes (by omega)]
    rw [decide_eq_false g] at o
    have S := Fl.Buck.sub_one ok (by omega)
    have b1 := fun w => run_float_arith (P := Try.prog) w .sub 22 .f64 _ _ _ S.1
    have K := Lib.hid (Fl.Buck.one_ok ok)
    rw [Fl.Buck.one_yes (by omega)] at K
    unfold Fl.one at b1 K
    unfold Fl.one
    clear S ok g
    generalize Fl.subw f.level 4607182418800017408 = M at *
    rcases k with ⟨k1, k2⟩ | ⟨k1, k2⟩
    all_goals
      rw [k2] at q
      clear k2
      go_enter Try.func10, Try.ntmps10
      go_wp2_with fail
      refine q.mono ?_
      rintro e w1 ⟨rfl, h1, h2, h3⟩
      have H : Hid (TakeF b w w1 f) := ⟨h1, h2, h3⟩
      have c2 := h1.blk.cell 2
      simp at c2
      have f2 := h1.blk.frozen 2
      clear q h1 h2 h3
      go_wp2_with fail
      go_ret
      refine ⟨rfl, ⟨H.out.bk.blk.set 2 _, K.out⟩, H.out.only.trans ((Only.refl _ _).setCell (by simp) _), ?_⟩
      simp [World.setCell]; exact H.out.size
end Go.Proofs.Ytdglbllabfpfcaa

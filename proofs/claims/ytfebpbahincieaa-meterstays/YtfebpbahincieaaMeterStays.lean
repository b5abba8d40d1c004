/- Proved: MeterStays returns true for every input. No condition. -/
import Derived.Test.YtfebpbahincieaaMetrK
import Derived.Test.YtfebpbahincieaaMetrS
import Derived.Test.YtfebpbahincieaaFrame
import Derived.Deep.LoopGhost
import Derived.Deep.CutBlock
import Derived.Deep.DeepCutAuto
namespace Go.Proofs.Ytfebpbahincieaa.meterStays
open Go.ChangeShapes Go.WideShapes Go.ChangeAt Go.RowKit
open Fl (V nn fin rg sg U)
open Fl.Metr (S zero Inv)
set_option linter.unusedVariables false

/-- both Meters in memory -/
structure St (w x : World) (A B : Nat) (s t : S) : Prop where
  one : Mt x A s
  two : Mt x B t
  only : Only [] w x
theorem St.keep {w x y : World} {A B : Nat} {s t : S} (h : St w x A B s t) (o : Only [] x y) : St w y A B s t :=
  ⟨h.one.only o (by simp), h.two.only o (by simp), h.only.trans o⟩
theorem st_new (w : World) (t : TypeId) : St w ((w.alloc (.cells #[.int .i64 0, .float .f64 0, .float .f64 0] t)).alloc (.cells #[.int .i64 0, .float .f64 0, .float .f64 0] t)) w.heap.size (w.heap.size + 1) zero zero := by
  obtain ⟨x0, e0⟩ : ∃ x0, x0 = w.alloc (.cells #[.int .i64 0, .float .f64 0, .float .f64 0] t) := ⟨_, rfl⟩
  have s0 : x0.heap.size = w.heap.size + 1 := by rw [e0]; simp
  have M0 : Mt x0 w.heap.size zero := e0 ▸ Mt.new _ _
  have O0 : Only [] w x0 := e0 ▸ (Only.refl _ _).alloc _
  rw [← e0]
  clear e0
  have O1 : Only [] x0 (x0.alloc (.cells #[.int .i64 0, .float .f64 0, .float .f64 0] t)) := (Only.refl _ _).alloc _
  refine ⟨M0.only O1 (by simp), ?_, O0.trans O1⟩
  rw [← s0]; exact Mt.new _ _

/-- what the law's questions come to -/
structure Asks (s : S) (lo hi t1 t2 t3 t4 : Nat) : Prop where
  e1 : Ieee.double.sub lo 4562254508917369340 = some t1
  e2 : Ieee.double.add hi 4562254508917369340 = some t2
  e3 : Ieee.double.sub hi lo = some t3
  e4 : Ieee.double.add t3 4562254508917369340 = some t4
  q1 : (FloatKind.f64.format.order s.mean t1 == some .lt) = false
  q2 : (FloatKind.f64.format.order s.mean t2 == some .gt) = false
  q3 : (FloatKind.f64.format.order s.jit 0 == some .lt) = false
  q4 : (FloatKind.f64.format.order s.jit t4 == some .gt) = false
theorem asks {k : Nat} {s : S} {lo hi : Nat} (h : Inv k s lo hi) (hk : k ≤ 60) : ∃ t1 t2 t3 t4, Asks s lo hi t1 t2 t3 t4 := by
  obtain ⟨t1, t2, t3, t4, T⟩ := h.tests hk
  have c1 := T.c1
  have c2 := T.c2
  have c3 := T.c3
  have c4 := T.c4
  refine ⟨t1, t2, t3, t4, T.e1, T.e2, T.e3, T.e4, ?_, ?_, ?_, ?_⟩
  · rw [o_lt h.ok.fm.nn T.n1]; exact decide_eq_false (by omega)
  · rw [o_gt h.ok.fm.nn T.n2]; exact decide_eq_false (by omega)
  · rw [o_lt h.ok.fj.nn nn_c0, Fl.V_0]; exact decide_eq_false (by omega)
  · rw [o_gt h.ok.fj.nn T.n4]; exact decide_eq_false (by omega)

/-- how the least and the greatest go on -/
structure Next (k : Nat) (s : S) (lo hi x lo' hi' : Nat) : Prop where
  inv : Inv (k + 1) (s.note x) lo' hi'
  way : (k = 0 ∧ lo' = x ∧ hi' = x) ∨ (k ≠ 0 ∧ ((FloatKind.f64.format.order x lo == some .lt) = true ∧ lo' = x ∨ (FloatKind.f64.format.order x lo == some .lt) = false ∧ lo' = lo) ∧ ((FloatKind.f64.format.order x hi == some .gt) = true ∧ hi' = x ∨ (FloatKind.f64.format.order x hi == some .gt) = false ∧ hi' = hi))
theorem next {k : Nat} {s : S} {lo hi x : Nat} (h : Inv k s lo hi) (hz : k = 0 → s = zero) (hk : k ≤ 59) (lx : x < 2 ^ 64) (fx : fin x) (x0 : 0 ≤ V x) (x1 : V x ≤ 1000 * (U : Int)) : ∃ lo' hi', Next k s lo hi x lo' hi' := by
  by_cases c : k = 0
  · subst c
    exact ⟨x, x, h.first (by rw [hz rfl]; rfl) lx fx x0 x1, Or.inl ⟨rfl, rfl, rfl⟩⟩
  · have e1 := o_lt fx.nn h.flo.nn
    have e2 := o_gt fx.nn h.fhi.nn
    have le := h.le
    refine ⟨if V x < V lo then x else lo, if V hi < V x then x else hi, ?_, Or.inr ⟨c, ?_, ?_⟩⟩
    · refine h.more (by omega) (by omega) lx fx x0 x1 ?_ ?_ ?_ ?_ ?_ ?_
      all_goals split
      all_goals first | exact Or.inl rfl | exact Or.inr rfl | omega
    · by_cases d : V x < V lo
      · rw [decide_eq_true d] at e1; exact Or.inl ⟨e1, if_pos d⟩
      · rw [decide_eq_false d] at e1; exact Or.inr ⟨e1, if_neg d⟩
    · by_cases d : V hi < V x
      · rw [decide_eq_true d] at e2; exact Or.inl ⟨e2, if_pos d⟩
      · rw [decide_eq_false d] at e2; exact Or.inr ⟨e2, if_neg d⟩

/-- the same one was noted k times -/
def Again (w y : World) (B x k : Nat) : Prop := ∃ t, Mt y B t ∧ Only [] w y ∧ (k = 0 ∧ t = zero ∨ 1 ≤ k ∧ t = ⟨k, x, 0⟩)
theorem Again.step {w y : World} {B x k : Nat} (h : Again w y B x k) (fx : fin x) (lx : x < 2 ^ 64) (sx : sg x = false) (hx : Fl.Metr.sample x) (hk : k ≤ 20) (hB : w.heap.size ≤ B) : ∃ _t : S, Calls Try.prog 9 #[.pointer (some ⟨B, 0, none⟩), .float .f64 x] y fun e y' => e = .returned (.bool true) ∧ Again w y' B x (k + 1) := by
  obtain ⟨t, h1, h2, h3⟩ := h
  have hc : t.count < 1000000 := by
    rcases h3 with ⟨_, e⟩ | ⟨_, e⟩
    · rw [e]; decide
    · rw [e]; show (k : Int) < 1000000; omega
  have hn : t.note x = ⟨(k + 1 : Nat), x, 0⟩ := by
    rcases h3 with ⟨a, e⟩ | ⟨a, e⟩
    · rw [e, Fl.Metr.once lx sx, a]; rfl
    · rw [e, Fl.Metr.again (by omega) lx fx sx]; rfl
  refine ⟨t, (note_yes B t x lx hx hc y h1).mono ?_⟩
  rintro e y' ⟨rfl, g1, g2, _⟩
  rw [hn] at g1
  exact ⟨rfl, _, g1, h2.then g2 (by simpa using hB), Or.inr ⟨by omega, rfl⟩⟩

set_option maxRecDepth 100000 in
set_option maxHeartbeats 4000000 in
theorem walk (s0 : Value) (a0 : List Int) (a1 : Int) (a2 : Int) (a3 : Int) (w : World) (w0 : CameI .i64 w s0 a0) (w1 : (Lit.int .i64 a1).wf = true) (w2 : (Lit.int .i64 a2).wf = true) (w3 : (Lit.int .i64 a3).wf = true) :
    Calls Try.prog 5 #[s0, .int .i64 a1, .int .i64 a2, .int .i64 a3] w fun e w' => e = .returned (.bool true) ∧ Below w.heap.size w w' := by
  obtain ⟨ao, cap, rfl, hcap, hcm, _, hcl⟩ := w0
  have HC : Hid (∀ i, i < a0.length → ∃ b o, ao = some ⟨b, o, none⟩ ∧ b < w.heap.size ∧ w.cell? ⟨b, o + i, none⟩ = some (.int .i64 (a0.getD i 0))) := fun i hi => by
    rcases hcl with h | ⟨b, o, h1, h2, h3⟩
    · rw [h] at hi; simp at hi
    · exact ⟨b, o, h1, h2, h3 i hi⟩
  clear hcl w1 w2 w3
  have m0 : a0.length ≤ 9223372036854775807 := by simp only [maxLen] at hcm; omega
  clear hcm
  generalize hn : a0.length = n at *
  clear hn
  have H0 : Hid _ := st_new w 24
  go_enter Try.func5, Try.ntmps5
  go_upto_block 0 with fail
  obtain ⟨A, hA⟩ : ∃ A, w.heap.size = A := ⟨_, rfl⟩
  obtain ⟨B, hB⟩ : ∃ B, A + 1 = B := ⟨_, rfl⟩
  rw [hA, hB] at H0 ⊢
  generalize (w.alloc (.cells #[.int .i64 0, .float .f64 0, .float .f64 0] 24)).alloc (.cells #[.int .i64 0, .float .f64 0, .float .f64 0] 24) = x0 at H0 ⊢
  go_cut [] (fun wx => ∃ s, Hid (St w wx A B s zero))
  case first =>
    go_wp2_with fail
    go_loopg [11, 12, 13] 61 (fun gk vl vh vi wr => ∃ (k : Nat) (s : S) (lo hi : Nat), vl = .float .f64 lo ∧ vh = .float .f64 hi ∧ vi = .int .i64 k ∧ k ≤ 50 ∧ k ≤ n ∧ 61 - k ≤ gk ∧ Hid (St w wr A B s zero ∧ Inv k s lo hi ∧ (k = 0 → s = zero)))
    case atStart => exact ⟨0, _, _, _, rfl, rfl, rfl, by omega, by omega, by omega, H0.out, Inv.zero, fun _ => rfl⟩
    case round =>
      obtain ⟨k, s, lo, hi, rfl, rfl, rfl, hk, hkn, hg, HR⟩ := hrel
      by_cases c1 : k < n
      · by_cases c2 : k < 50
        · have z1 : (k : Int) < (n : Int) := by omega
          have z2 : (k : Int) < 50 := by omega
          obtain ⟨bb, o0, rfl, lbb, hc⟩ := HC.out k c1
          have hcell : wr.cell? ⟨bb, o0 + k, none⟩ = some (.int .i64 (a0.getD k 0)) := (HR.out.1.only.cell lbb (by simp)).trans hc
          clear hc HC
          generalize a0.getD k 0 = z at hcell
          obtain ⟨q, hq⟩ : ∃ q : Nat, z % 8000 = (q : Int) := ⟨(z % 8000).toNat, by omega⟩
          obtain ⟨x, ex, fx, lx, sx, v8, _⟩ := Fl.Metr.eighth q (by omega)
          have x0' := Fl.V_sg sx
          have x1' : V x ≤ 1000 * (U : Int) := by
            have : (q : Int) * (U : Int) ≤ 8000 * (U : Int) := Int.mul_le_mul_of_nonneg_right (by omega) (by omega)
            omega
          obtain ⟨lo', hi', NX⟩ := next HR.out.2.1 HR.out.2.2 (by omega) lx fx x0' x1'
          obtain ⟨t1, t2, t3, t4, AS⟩ := asks NX.inv (by omega)
          have b0 : ∀ w, (binOp .quo 22 (.float .f64 (floatOfInt .f64 (q : Int))) (.float .f64 4620693217682128896)).run Try.prog w = .ok (.float .f64 x) w := fun w => run_float_arith (P := Try.prog) w .quo 22 .f64 _ _ _ ex
          have b1 := fun w => run_float_arith (P := Try.prog) w .sub 22 .f64 _ _ _ AS.e1
          have b2 := fun w => run_float_arith (P := Try.prog) w .add 22 .f64 _ _ _ AS.e2
          have b3 := fun w => run_float_arith (P := Try.prog) w .sub 22 .f64 _ _ _ AS.e3
          have b4 := fun w => run_float_arith (P := Try.prog) w .add 22 .f64 _ _ _ AS.e4
          have q1 := AS.q1
          have q2 := AS.q2
          have q3 := AS.q3
          have q4 := AS.q4
          have hcs : s.count < 1000000 := by have := HR.out.2.1.cnt; omega
          have hU := Fl.Upos
          have N1 := fun w h => note_yes A s x lx ⟨fx.nn, x0', by omega⟩ hcs w h
          have I' := NX.inv
          have n1 : (s.note x).count = (k : Int) + 1 := by rw [I'.cnt]; rfl
          have way := NX.way
          clear NX AS hcs ex fx lx sx v8 x0' x1' hU
          generalize s.note x = s' at *
          have HN1 : Hid _ := N1
          have HI : Hid _ := I'
          have HS : Hid _ := HR.out.1
          clear N1 I' HR
          rcases way with ⟨y0, rfl, rfl⟩ | ⟨y0, ⟨y1, rfl⟩ | ⟨y1, rfl⟩, ⟨y3, rfl⟩ | ⟨y3, rfl⟩⟩
          · subst y0
            rw [Nat.add_zero] at hcell
            go_wp2_with fail
            refine (pick_any _ _ (by omega) (by omega) _).mono ?_
            rintro e w' ⟨rfl, rfl⟩
            rw [hq]
            go_wp2_with fail
            refine (HN1.out _ HS.out.one).mono ?_
            rintro e v1 ⟨rfl, h1, o1, _⟩
            have P1 : Hid (St w v1 A B s' zero) := ⟨h1, HS.out.two.only o1 (by simp; omega), HS.out.only.then o1 (by simp; omega)⟩
            clear h1 o1 HS HN1
            go_wp2_with fail
            refine (mean_any A _ _ P1.out.one).mono ?_
            rintro e w' ⟨rfl, hw⟩
            subst hw
            go_wp2_with fail
            refine (mean_any A _ _ P1.out.one).mono ?_
            rintro e w' ⟨rfl, hw⟩
            subst hw
            go_wp2_with fail
            refine (jit_any A _ _ P1.out.one).mono ?_
            rintro e w' ⟨rfl, hw⟩
            subst hw
            go_wp2_with fail
            refine (jit_any A _ _ P1.out.one).mono ?_
            rintro e w' ⟨rfl, hw⟩
            subst hw
            go_wp2_with fail
            refine (count_any A _ _ P1.out.one).mono ?_
            rintro e w' ⟨rfl, hw⟩
            subst hw
            rw [n1]
            go_wp2_with fail
            go_roundg 60
            case measure => omega
            case rel => exact ⟨1, s', _, _, rfl, rfl, rfl, by omega, by omega, by omega, P1.out, HI.out, fun h => by omega⟩
          all_goals
            have z3 : ¬ (k : Int) = 0 := by omega
            go_wp2_with fail
            refine (pick_any _ _ (by omega) (by omega) _).mono ?_
            rintro e w' ⟨rfl, rfl⟩
            rw [hq]
            go_wp2_with fail
            refine (HN1.out _ HS.out.one).mono ?_
            rintro e v1 ⟨rfl, h1, o1, _⟩
            have P1 : Hid (St w v1 A B s' zero) := ⟨h1, HS.out.two.only o1 (by simp; omega), HS.out.only.then o1 (by simp; omega)⟩
            clear h1 o1 HS HN1
            go_wp2_with fail
            refine (mean_any A _ _ P1.out.one).mono ?_
            rintro e w' ⟨rfl, hw⟩
            subst hw
            go_wp2_with fail
            refine (mean_any A _ _ P1.out.one).mono ?_
            rintro e w' ⟨rfl, hw⟩
            subst hw
            go_wp2_with fail
            refine (jit_any A _ _ P1.out.one).mono ?_
            rintro e w' ⟨rfl, hw⟩
            subst hw
            go_wp2_with fail
            refine (jit_any A _ _ P1.out.one).mono ?_
            rintro e w' ⟨rfl, hw⟩
            subst hw
            go_wp2_with fail
            refine (count_any A _ _ P1.out.one).mono ?_
            rintro e w' ⟨rfl, hw⟩
            subst hw
            rw [n1]
            go_wp2_with fail
            go_roundg (60 - k)
            case measure => omega
            case rel => exact ⟨k + 1, s', _, _, rfl, rfl, rfl, by omega, by omega, by omega, P1.out, HI.out, fun h => by omega⟩
        · have z1 : (k : Int) < (n : Int) := by omega
          have z2 : ¬ (k : Int) < 50 := by omega
          go_wp2_with fail
          go_meet
          exact ⟨s, HR.out.1⟩
      · have z1 : ¬ (k : Int) < (n : Int) := by omega
        go_wp2_with fail
        go_meet
        exact ⟨s, HR.out.1⟩
  case rest =>
    obtain ⟨s, HS⟩ := hcut
    go_wp2_with fail
    refine (pick_any _ _ (by omega) (by omega) _).mono ?_
    rintro e w' ⟨rfl, rfl⟩
    obtain ⟨p, hp⟩ : ∃ p, a3 % 7 = p := ⟨_, rfl⟩
    have hp1 : 0 ≤ p ∧ p ≤ 6 := by omega
    rw [hp]
    have lm := Fl.Metr.lead_mono HS.out.one.ok (p := 1 + p) (by omega) (by omega)
    have l1 := Fl.Metr.lead_1 s (1 + p)
    go_wp2_with fail
    refine (lead_any A _ _ _ HS.out.one).mono ?_
    rintro e v1 ⟨rfl, o, _⟩
    have P1 : Hid _ := HS.out.keep o
    clear o HS
    go_wp2_with fail
    refine (lead_any A _ _ _ P1.out.one).mono ?_
    rintro e v2 ⟨rfl, o, _⟩
    have P2 : Hid _ := P1.out.keep o
    clear o P1
    generalize s.lead (1 + p + 1) = lb at *
    generalize s.lead (1 + p) = la at *
    go_wp2_with fail
    refine (known_any _).mono ?_
    rintro e v3 ⟨rfl, o⟩
    have P3 : Hid _ := P2.out.keep o
    clear o P2
    have g1 : ¬ la < 1 := by omega
    have g2 : ¬ 16 < la := by omega
    have g3 : ¬ la < lb := by omega
    clear lm l1
    go_wp2_with fail
    refine (pick_any _ _ (by omega) (by omega) _).mono ?_
    rintro e w' ⟨rfl, rfl⟩
    obtain ⟨q, hq⟩ : ∃ q : Nat, a1 % 4000 = (q : Int) := ⟨(a1 % 4000).toNat, by omega⟩
    rw [hq]
    obtain ⟨x, ex, fx, lx, sx, hx⟩ := Fl.Metr.sixteenth q (by omega)
    have b0 : ∀ w, (binOp .quo 22 (.float .f64 (floatOfInt .f64 (q : Int))) (.float .f64 4625196817309499392)).run Try.prog w = .ok (.float .f64 x) w := fun w => run_float_arith (P := Try.prog) w .quo 22 .f64 _ _ _ ex
    have X : Hid _ := And.intro fx (And.intro lx (And.intro sx hx))
    clear ex fx lx sx hx
    go_wp2_with fail
    have HT : Hid (Again w v3 B x 0) := ⟨_, P3.out.two, P3.out.only, Or.inl ⟨rfl, rfl⟩⟩
    clear P3 HC
    go_loopg [18] 22 (fun gk vi wr => ∃ k : Nat, vi = .int .i64 k ∧ k ≤ 20 ∧ 22 - k ≤ gk ∧ Hid (Again w wr B x k))
    case atStart => exact ⟨0, rfl, by omega, by omega, HT.out⟩
    case round =>
      obtain ⟨k, rfl, hk, hg, HR⟩ := hrel
      go_wp2_with fail
      refine (pick_any _ _ (by omega) (by omega) _).mono ?_
      rintro e w' ⟨rfl, rfl⟩
      obtain ⟨m, hm⟩ : ∃ m, a2 % 20 = m := ⟨_, rfl⟩
      have hm1 : 0 ≤ m ∧ m ≤ 19 := by omega
      rw [hm]
      by_cases c : (k : Int) ≤ m
      · obtain ⟨t, N⟩ := HR.out.step X.out.1 X.out.2.1 X.out.2.2.1 X.out.2.2.2 hk (by omega)
        have HN : Hid _ := N
        clear N HR
        go_wp2_with fail
        refine Calls.mono HN.out ?_
        rintro e v4 ⟨rfl, h⟩
        have H4 : Hid _ := h
        clear h HN
        go_wp2_with fail
        go_roundg (21 - k)
        case measure => omega
        case rel => exact ⟨k + 1, rfl, by omega, by omega, H4.out⟩
      · obtain ⟨t, h1, h2, h3⟩ := HR.out
        have h4 : t = ⟨k, x, 0⟩ := by
          rcases h3 with h | h
          · omega
          · exact h.2
        subst h4
        have q1 : (FloatKind.f64.format.order x x == some .eq) = true := by rw [o_eq X.out.1.nn X.out.1.nn]; exact decide_eq_true rfl
        have q2 : (FloatKind.f64.format.order 0 0 == some .eq) = true := by decide +kernel
        have H4 : Hid _ := And.intro h1 h2
        clear h1 h2 h3 HR
        go_wp2_with fail
        refine (mean_any B _ _ H4.out.1).mono ?_
        rintro e w' ⟨rfl, hw⟩
        subst hw
        go_wp2_with fail
        refine (jit_any B _ _ H4.out.1).mono ?_
        rintro e w' ⟨rfl, hw⟩
        subst hw
        go_wp2_with fail
        go_ret
        exact ⟨rfl, H4.out.2.below (by omega) (by simp)⟩

set_option maxRecDepth 100000 in
theorem lifted (os : Os) (started : os.Started) (H : Type) (enc : TypeId × Value → H) :
    ReturnsInHanded {} Try.checked os 5 .any (Rows.meterStaysSpec.pre6 enc Try.prog Try.f5 Rows.meterStaysRow.domain false) (Rows.meterStaysSpec.post enc Try.prog Try.f5 false true false false) := by
  refine returnsInHanded_of_change (C := Try.checked) own started (by kernel_rfl) Try.func5
    (ChangeSpec.witness6 (enc := enc) (C := Try.checked) false ⟨#[], #[.slice none 0 0, .int .i64 0, .int .i64 0, .int .i64 0], []⟩ 8 (by kernel_rfl) (by kernel_rfl) (by kernel_rfl) (by kernel_rfl)) ?_
  intro W base args ds gs before hval0 hW hcnd _
  have hval : ∀ (j : Nat) t v, Try.f5.params[j]? = some t → args[j]? = some v → Value.okWide Try.prog W .any base t v := hval0
  have hW' := hW
  obtain ⟨p, q, hA0, hV, rfl, hfz, hnd⟩ := hW
  have hA : DataW.TrodAll enc Try.prog W 0 (fun _ => true) true Try.f5.params.toList args.toList ds p := hA0
  rw [Try.params5] at hA hval
  obtain ⟨v0, vs0, d0, ds0, p0, q0, hargs, rfl, rfl, h0, r0⟩ := trodAll_cons hA
  obtain ⟨v1, vs1, d1, ds1, p1, q1, rfl, rfl, rfl, h1, r1⟩ := trodAll_cons r0
  obtain ⟨v2, vs2, d2, ds2, p2, q2, rfl, rfl, rfl, h2, r2⟩ := trodAll_cons r1
  obtain ⟨v3, vs3, d3, ds3, p3, q3, rfl, rfl, rfl, h3, r3⟩ := trodAll_cons r2
  obtain ⟨rfl, rfl, rfl⟩ := trodAll_nil r3
  obtain rfl : args = #[v0, v1, v2, v3] := by cases args; simp_all
  obtain ⟨rfl, rfl⟩ := trodVars_none hV
  obtain ⟨e0, len0, cap0, rfl⟩ := okWide_slice Try.underlying34 (hval 0 34 v0 rfl rfl)
  have k0 := h0
  have lt0 : ∀ x ∈ p0, x.block < W.heap.size := by obtain ⟨m, hm⟩ := k0; exact DataW.trod_lt m _ _ _ hm
  obtain ⟨a0, w0⟩ := came_i Try.underlying34 Try.underlying3 (by kernel_rfl) h0
  obtain ⟨a1, rfl, rfl, rfl, w1⟩ := open_int Try.underlying3 (hval 1 3 v1 rfl rfl) h1
  obtain ⟨a2, rfl, rfl, rfl, w2⟩ := open_int Try.underlying3 (hval 2 3 v2 rfl rfl) h2
  obtain ⟨a3, rfl, rfl, rfl, w3⟩ := open_int Try.underlying3 (hval 3 3 v3 rfl rfl) h3
  clear hA0 hval0
  refine (walk _ a0 a1 a2 a3 W w0 w1 w2 w3).mono fun e W' ⟨he, bel⟩ => ?_
  subst he
  exact ⟨_, rfl, _, _, _, [], _, [], hW', trodAll_mk1 (shut_bool Try.underlying4 _), (trodAll_cons_mk (Below.trod laidOut (by kernel_rfl) (of_decide_eq_true (by kernel_rfl)) k0 bel lt0) (trodAll_cons_mk (shut_int Try.underlying3 w1) (trodAll_cons_mk (shut_int Try.underlying3 w2) (trodAll_cons_mk (shut_int Try.underlying3 w3) trodAll_mk0)))), rfl, bel.frame _, fun h => by cases h⟩

theorem over : Rows.meterStaysRow.holds Try.pinned (OpenSpec.ofChange Rows.meterStaysSpec) :=
  OpenClaim.holds_of_wide 5 Try.f5 rfl rfl rfl rfl rfl rfl rfl ⟨rfl, rfl, rfl, rfl, rfl⟩ rfl rfl rfl rfl rfl (by kernel_rfl) Try.func5 (by kernel_rfl)
    (of_decide_eq_true (by kernel_rfl)) (by unfold Func.isWrapper; first | (rw [if_pos (by decide +kernel)]; kernel_rfl) | (rw [if_neg (by decide +kernel)]; exact ⟨rfl, rfl⟩))
    (fun os started H enc _ => lifted os started H enc)

/-- THE STATEMENT -/
theorem proved : Rows.MeterStaysSaid := over
end Go.Proofs.Ytfebpbahincieaa.meterStays

/- Package rule: Right. -/
import Derived.Test.YtngbannidbijmaaSeqRun
import Derived.Deep.LoopGhost
namespace Go.Proofs.Ytngbannidbijmaa
open Go.RowKit
set_option linter.unusedVariables false

def Rule.wrong (o : Op3) : Bool := !(Body.btw o.c 1 13) || (!(Body.btw o.a (-1000000) 1000000) || !(Body.btw o.b (-1000000) 1000000))
def Rule.right (l : List Op3) : Bool := decide (l.length ≤ 16) && !(l.any Rule.wrong)
set_option maxRecDepth 100000 in
theorem wrong_any (o : Op3) (w : World) : Calls Try.prog 59 #[o.v] w fun e w' => e = .returned (.bool (Rule.wrong o)) ∧ Only [] w w' := by
  have hnot : ∀ (x : Bool) (w : World), (Op.unary .not (.bool x)).run Try.prog w = .ok (.bool (!x)) w := fun _ _ => rfl
  have H0 : Hid (Three (w.alloc (.cells #[.int .i64 o.c, .int .i64 o.a, .int .i64 o.b] 23)) w.heap.size (.int .i64 o.c) (.int .i64 o.a) (.int .i64 o.b) ∧ Only [] w (w.alloc (.cells #[.int .i64 o.c, .int .i64 o.a, .int .i64 o.b] 23))) := ⟨Three.new _ _ _ _ _, (Only.refl [] _).alloc _⟩
  obtain ⟨q1, h1⟩ : ∃ q, Body.btw o.c 1 13 = q := ⟨_, rfl⟩
  obtain ⟨q2, h2⟩ : ∃ q, Body.btw o.a (-1000000) 1000000 = q := ⟨_, rfl⟩
  obtain ⟨q3, h3⟩ : ∃ q, Body.btw o.b (-1000000) 1000000 = q := ⟨_, rfl⟩
  have HQ1 : Hid _ := h1
  have HQ2 : Hid _ := h2
  have HQ3 : Hid _ := h3
  unfold Rule.wrong
  rw [h1, h2, h3]
  clear h1 h2 h3
  go_enter Try.func59, Try.ntmps59
  go_upto_region 1 with fail
  change Code.wp _ _ _ _ (w.alloc (.cells #[.int .i64 o.c, .int .i64 o.a, .int .i64 o.b] 23))
  generalize w.alloc (.cells #[.int .i64 o.c, .int .i64 o.a, .int .i64 o.b] 23) = W at *
  obtain ⟨q, hq⟩ : ∃ q, w.heap.size = q := ⟨_, rfl⟩
  simp only [hq] at H0 ⊢
  have f0 := H0.out.1.cell0
  have f1 := H0.out.1.cell1
  have f2 := H0.out.1.cell2
  go_wp2_with fail
  refine (rbetween_any _ _ _ _).mono ?_
  rintro e w' ⟨rfl, rfl⟩
  rw [HQ1.out]
  cases q1
  · go_wp2_with fail
    go_ret
    exact ⟨rfl, H0.out.2⟩
  go_wp2_with fail
  refine (rbetween_any _ _ _ _).mono ?_
  rintro e w' ⟨rfl, rfl⟩
  rw [HQ2.out]
  cases q2
  · go_wp2_with fail
    go_ret
    exact ⟨rfl, H0.out.2⟩
  go_wp2_with fail
  refine (rbetween_any _ _ _ _).mono ?_
  rintro e w' ⟨rfl, rfl⟩
  rw [HQ3.out]
  go_wp2_with fail
  go_ret
  exact ⟨by simp, H0.out.2⟩
set_option maxRecDepth 100000 in
theorem index_any {B : Nat} {w : World} {ov : Value} {l : List Op3} (h : RdO B w ov l) (hn : l.length ≤ 1000000) : Calls Try.prog 79 #[ov, .func (.func 59) #[] #[]] w fun e w' => (∃ i : Int, e = .returned (.int .i64 i) ∧ decide (0 ≤ i) = l.any Rule.wrong) ∧ Only [] w w' := by
  have HR : Hid _ := h
  obtain ⟨oa, oc, rfl, -⟩ := h
  obtain ⟨n, hN⟩ : ∃ n, l.length = n := ⟨_, rfl⟩
  have HN : Hid _ := hN
  rw [hN] at hn
  simp only [hN] at HR ⊢
  clear hN
  go_enter Try.func79, Try.ntmps79
  go_wp2_with fail
  go_loopg [8] (n + 1) (fun gk vi wr => ∃ i : Nat, vi = .int .i64 i ∧ i ≤ n ∧ n + 1 - i ≤ gk ∧ Hid (Only [] w wr ∧ ∀ j, j < i → Rule.wrong (l.getD j ⟨0, 0, 0⟩) = false))
  case atStart => exact ⟨0, rfl, by omega, by omega, Only.refl _ _, fun j hj => by omega⟩
  case round =>
    obtain ⟨i, rfl, hin, hg, HH⟩ := hrel
    by_cases hlt : i < n
    rotate_left
    · have z1 : ¬ (i : Int) < (n : Int) := by omega
      go_wp2_with fail
      go_ret
      refine ⟨⟨-1, rfl, ?_⟩, HH.out.1⟩
      rw [show decide ((0 : Int) ≤ -1) = false from rfl]
      symm
      rw [List.any_eq_false]
      intro o ho
      obtain ⟨j, hj, rfl⟩ := List.mem_iff_getElem.1 ho
      have := HH.out.2 j (by rw [HN.out] at hj; omega)
      simpa [List.getD_eq_getElem?_getD, hj] using this
    · have z0 : (0 : Int) ≤ (i : Int) := by omega
      have z1 : (i : Int) < (n : Int) := by omega
      obtain ⟨oa', oc', e1, -, hr⟩ := HR.out
      injection e1 with e1 e2 e3
      subst e1 e3
      rcases hr with hr | ⟨b, off, e4, -, hb, hc⟩
      · have := HN.out; rw [hr] at this; simp at this; omega
      subst e4
      obtain ⟨c1, c2, c3⟩ := hc i hlt
      obtain ⟨o, ho⟩ : ∃ o, l.getD i ⟨0, 0, 0⟩ = o := ⟨_, rfl⟩
      have HO : Hid _ := ho
      rw [ho] at c1 c2 c3
      clear hc ho
      have e1 := (HH.out.1.cell (p := ⟨b, off + i * 3, none⟩) hb (by simp)).trans c1
      have e2 := (HH.out.1.cell (p := ⟨b, off + i * 3 + 1, none⟩) hb (by simp)).trans c2
      have e3 := (HH.out.1.cell (p := ⟨b, off + i * 3 + 2, none⟩) hb (by simp)).trans c3
      clear c1 c2 c3
      go_wp2_with fail
      refine (wrong_any o _).mono ?_
      rintro e w' ⟨rfl, o1⟩
      have H2 : Hid (Only [] w w') := HH.out.1.trans o1
      obtain ⟨q, hq⟩ : ∃ q, Rule.wrong o = q := ⟨_, rfl⟩
      have HQ : Hid _ := hq
      rw [hq]
      clear hq o1 e1 e2 e3
      cases q
      · go_wp2_with fail
        go_roundg (n - i)
        case measure => omega
        case rel =>
          refine ⟨i + 1, by go_num, by omega, by omega, H2.out, fun j hj => ?_⟩
          rcases Nat.lt_or_ge j i with h | h
          · exact HH.out.2 j h
          · have : j = i := by omega
            subst this
            rw [HO.out]; exact HQ.out
      · go_wp2_with fail
        go_ret
        refine ⟨⟨i, rfl, ?_⟩, H2.out⟩
        rw [show decide ((0 : Int) ≤ (i : Int)) = true by simp]
        symm
        rw [List.any_eq_true]
        refine ⟨o, ?_, HQ.out⟩
        rw [← HO.out]
        have : i < l.length := by rw [HN.out]; exact hlt
        simp [List.getD_eq_getElem?_getD, this]
set_option maxRecDepth 100000 in
theorem right_any' {B : Nat} {w : World} {ov : Value} {l : List Op3} (h : RdO B w ov l) (hn : l.length ≤ 1000000) : Calls Try.prog 35 #[ov] w fun e w' => e = .returned (.bool (Rule.right l)) ∧ Only [] w w' := by
  have hnot : ∀ (x : Bool) (w : World), (Op.unary .not (.bool x)).run Try.prog w = .ok (.bool (!x)) w := fun _ _ => rfl
  obtain ⟨oa, oc, e, -⟩ := id h
  obtain ⟨n, hN⟩ : ∃ n, l.length = n := ⟨_, rfl⟩
  have HN : Hid _ := hN
  rw [hN] at hn e
  subst e
  have HR2 : Hid (RdO B w (.slice oa n oc) l) := h
  unfold Rule.right
  simp only [hN]
  clear hN h
  by_cases h16 : n ≤ 16
  rotate_left
  · have z1 : ¬ (n : Int) ≤ 16 := by omega
    have z2 : decide (n ≤ 16) = false := by simpa using h16
    rw [z2]
    go_enter Try.func35, Try.ntmps35
    go_wp2_with fail
    go_ret
    exact ⟨rfl, Only.refl _ _⟩
  have z1 : (n : Int) ≤ 16 := by omega
  have z2 : decide (n ≤ 16) = true := by simpa using h16
  rw [z2]
  go_enter Try.func35, Try.ntmps35
  go_wp2_with fail
  go_enter Try.func58, Try.ntmps58
  go_wp2_with fail
  refine (index_any HR2.out (by rw [HN.out]; exact hn)).mono ?_
  rintro e w' ⟨⟨i, rfl, hi⟩, o1⟩
  have HI : Hid _ := hi
  have H1 : Hid _ := o1
  clear hi o1
  by_cases hz : 0 ≤ i
  · have e1 : l.any Rule.wrong = true := by rw [← HI.out]; simpa using hz
    go_wp2_with fail
    go_ret
    exact ⟨by simp [e1], H1.out⟩
  · have e1 : l.any Rule.wrong = false := by rw [← HI.out]; simpa using hz
    go_wp2_with fail
    go_ret
    exact ⟨by simp [e1, hz], H1.out⟩
end Go.Proofs.Ytngbannidbijmaa

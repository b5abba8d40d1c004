/- The reference of chapter 12: is, within, reg, names, RightRule, RightBody. -/
import Derived.Test.YtfeloiodebjolaaSeqRun
import Derived.Test.YtfeloiodebjolaaRuleRt
import Derived.Test.YtfeloiodebjolaaRefDiceA
import Derived.Deep.LoopGhost
namespace Go.Proofs.Ytfeloiodebjolaa
open Go.RowKit
set_option linter.unusedVariables false

theorem ris_any (n lo hi : Int) (w : World) : Calls Try.prog 29 #[.int .i64 n, .int .i64 lo, .int .i64 hi] w fun e w' => e = .returned (.bool (Body.btw n lo hi)) ∧ w' = w := by
  by_cases h : lo ≤ n
  · have e : Body.btw n lo hi = decide (n ≤ hi) := by simp [Body.btw, h]
    rw [e]
    go_enter Try.func29, Try.ntmps29
    go_wp2_with fail
    go_ret
    exact ⟨rfl, rfl⟩
  · have e : Body.btw n lo hi = false := by simp [Body.btw, h]
    rw [e]
    go_enter Try.func29, Try.ntmps29
    go_wp2_with fail
    go_ret
    exact ⟨rfl, rfl⟩
theorem rreg_any (n : Int) (w : World) : Calls Try.prog 38 #[.int .i64 n] w fun e w' => e = .returned (.bool (Body.btw n 0 3)) ∧ w' = w := by
  go_enter Try.func38, Try.ntmps38
  go_wp2_with fail
  refine (ris_any _ _ _ _).mono ?_
  rintro e w' ⟨rfl, rfl⟩
  go_wp2_with fail
  go_ret
  exact ⟨rfl, rfl⟩
theorem fwithin_any (n lo hi : Int) (w : World) : Calls Try.prog 24 #[.int .i64 n, .int .i64 lo, .int .i64 hi] w fun e w' => e = .returned (.int .i64 (Body.within n lo hi)) ∧ w' = w := by
  rcases Int.lt_trichotomy n hi with h | h | h
  · have y1 : n ≤ hi := by omega
    have y2 : ¬ hi ≤ n := by omega
    have y3 : ¬ hi < n := by omega
    rcases Int.lt_trichotomy lo n with k | k | k
    · have e : Body.within n lo hi = n := by rw [Body.within, if_pos y1, if_pos k]
      rw [e]
      have x1 : lo ≤ n := by omega
      have x2 : ¬ n ≤ lo := by omega
      have x3 : ¬ n < lo := by omega
      go_enter Try.func24, Try.ntmps24
      go_wp2_with fail
      go_ret
      exact ⟨rfl, rfl⟩
    · subst k
      have e : Body.within lo lo hi = lo := by rw [Body.within, if_pos y1, if_neg (by omega)]
      rw [e]
      go_enter Try.func24, Try.ntmps24
      go_wp2_with fail
      go_ret
      exact ⟨rfl, rfl⟩
    · have e : Body.within n lo hi = lo := by rw [Body.within, if_pos y1, if_neg (by omega)]
      rw [e]
      have x1 : n ≤ lo := by omega
      have x2 : ¬ lo ≤ n := by omega
      have x3 : ¬ lo < n := by omega
      go_enter Try.func24, Try.ntmps24
      go_wp2_with fail
      go_ret
      exact ⟨rfl, rfl⟩
  · subst h
    rcases Int.lt_trichotomy lo n with k | k | k
    · have e : Body.within n lo n = n := by rw [Body.within, if_pos (by omega), if_pos k]
      rw [e]
      have x1 : lo ≤ n := by omega
      have x2 : ¬ n ≤ lo := by omega
      have x3 : ¬ n < lo := by omega
      go_enter Try.func24, Try.ntmps24
      go_wp2_with fail
      go_ret
      exact ⟨rfl, rfl⟩
    · subst k
      have e : Body.within lo lo lo = lo := by rw [Body.within, if_pos (by omega), if_neg (by omega)]
      rw [e]
      go_enter Try.func24, Try.ntmps24
      go_wp2_with fail
      go_ret
      exact ⟨rfl, rfl⟩
    · have e : Body.within n lo n = lo := by rw [Body.within, if_pos (by omega), if_neg (by omega)]
      rw [e]
      have x1 : n ≤ lo := by omega
      have x2 : ¬ lo ≤ n := by omega
      have x3 : ¬ lo < n := by omega
      go_enter Try.func24, Try.ntmps24
      go_wp2_with fail
      go_ret
      exact ⟨rfl, rfl⟩
  · have y1 : hi ≤ n := by omega
    have y2 : ¬ n ≤ hi := by omega
    have y3 : ¬ n < hi := by omega
    rcases Int.lt_trichotomy lo hi with k | k | k
    · have e : Body.within n lo hi = hi := by rw [Body.within, if_neg y2, if_pos k]
      rw [e]
      have x1 : lo ≤ hi := by omega
      have x2 : ¬ hi ≤ lo := by omega
      have x3 : ¬ hi < lo := by omega
      go_enter Try.func24, Try.ntmps24
      go_wp2_with fail
      go_ret
      exact ⟨rfl, rfl⟩
    · subst k
      have e : Body.within n lo lo = lo := by rw [Body.within, if_neg y2, if_neg (by omega)]
      rw [e]
      go_enter Try.func24, Try.ntmps24
      go_wp2_with fail
      go_ret
      exact ⟨rfl, rfl⟩
    · have e : Body.within n lo hi = lo := by rw [Body.within, if_neg y2, if_neg (by omega)]
      rw [e]
      have x1 : hi ≤ lo := by omega
      have x2 : ¬ lo ≤ hi := by omega
      have x3 : ¬ lo < hi := by omega
      go_enter Try.func24, Try.ntmps24
      go_wp2_with fail
      go_ret
      exact ⟨rfl, rfl⟩
/-- which of A and B are registers -/
def Ref.na (c : Int) : Bool := c == 1 || (c == 7 || (c == 9 || (c == 2 || (c == 3 || (c == 4 || (c == 5 || (c == 6 || (c == 11 || c == 12))))))))
def Ref.nb (c : Int) : Bool := c == 2 || (c == 3 || (c == 4 || (c == 5 || (c == 6 || (c == 11 || (c == 12 || c == 8))))))
set_option maxRecDepth 100000 in
theorem names_any (c : Int) (w : World) : Calls Try.prog 37 #[.int .i64 c] w fun e w' => e = .returned (.tuple #[.bool (Ref.na c), .bool (Ref.nb c)]) ∧ w = w' := by
  by_cases c1 : c = 1
  · subst c1
    go_enter Try.func37, Try.ntmps37
    go_wp2_with fail
    go_ret2
    exact ⟨rfl, rfl⟩
  have n1 : (c == 1) = false := by simpa using c1
  by_cases c7 : c = 7
  · subst c7
    go_enter Try.func37, Try.ntmps37
    go_wp2_with fail
    go_ret2
    exact ⟨rfl, rfl⟩
  have n7 : (c == 7) = false := by simpa using c7
  by_cases c9 : c = 9
  · subst c9
    go_enter Try.func37, Try.ntmps37
    go_wp2_with fail
    go_ret2
    exact ⟨rfl, rfl⟩
  have n9 : (c == 9) = false := by simpa using c9
  by_cases c2 : c = 2
  · subst c2
    go_enter Try.func37, Try.ntmps37
    go_wp2_with fail
    go_ret2
    exact ⟨rfl, rfl⟩
  have n2 : (c == 2) = false := by simpa using c2
  by_cases c3 : c = 3
  · subst c3
    go_enter Try.func37, Try.ntmps37
    go_wp2_with fail
    go_ret2
    exact ⟨rfl, rfl⟩
  have n3 : (c == 3) = false := by simpa using c3
  by_cases c4 : c = 4
  · subst c4
    go_enter Try.func37, Try.ntmps37
    go_wp2_with fail
    go_ret2
    exact ⟨rfl, rfl⟩
  have n4 : (c == 4) = false := by simpa using c4
  by_cases c5 : c = 5
  · subst c5
    go_enter Try.func37, Try.ntmps37
    go_wp2_with fail
    go_ret2
    exact ⟨rfl, rfl⟩
  have n5 : (c == 5) = false := by simpa using c5
  by_cases c6 : c = 6
  · subst c6
    go_enter Try.func37, Try.ntmps37
    go_wp2_with fail
    go_ret2
    exact ⟨rfl, rfl⟩
  have n6 : (c == 6) = false := by simpa using c6
  by_cases c11 : c = 11
  · subst c11
    go_enter Try.func37, Try.ntmps37
    go_wp2_with fail
    go_ret2
    exact ⟨rfl, rfl⟩
  have n11 : (c == 11) = false := by simpa using c11
  by_cases c12 : c = 12
  · subst c12
    go_enter Try.func37, Try.ntmps37
    go_wp2_with fail
    go_ret2
    exact ⟨rfl, rfl⟩
  have n12 : (c == 12) = false := by simpa using c12
  by_cases c8 : c = 8
  · subst c8
    go_enter Try.func37, Try.ntmps37
    go_wp2_with fail
    go_ret2
    exact ⟨rfl, rfl⟩
  have n8 : (c == 8) = false := by simpa using c8
  have e1 : Ref.na c = false := by simp [Ref.na, n1, n7, n9, n2, n3, n4, n5, n6, n11, n12]
  have e2 : Ref.nb c = false := by simp [Ref.nb, n2, n3, n4, n5, n6, n11, n12, n8]
  rw [e1, e2]
  clear e1 e2
  go_enter Try.func37, Try.ntmps37
  go_wp2_with fail
  go_ret2
  exact ⟨rfl, rfl⟩
set_option maxRecDepth 100000 in
theorem rrule_any {B : Nat} {w : World} {ov : Value} {l : List Op3} (h : RdO B w ov l) (hn : l.length ≤ 1000000) : Calls Try.prog 11 #[ov] w fun e w' => e = .returned (.bool (Rule.right l)) ∧ Only [] w w' := by
  have hnot : ∀ (x : Bool) (w : World), (Op.unary .not (.bool x)).run Try.prog w = .ok (.bool (!x)) w := fun _ _ => rfl
  obtain ⟨oa, oc, e, hr⟩ := id h
  obtain ⟨n, hN⟩ : ∃ n, l.length = n := ⟨_, rfl⟩
  have HN : Hid _ := hN
  rw [hN] at hn e
  subst e
  have HR : Hid _ := hr.2
  clear h hr hN
  go_enter Try.func11, Try.ntmps11
  go_wp2_with fail
  go_loopg [3] (n + 1) (fun gk vi wr => ∃ i : Nat, vi = .int .i64 i ∧ i ≤ n ∧ n + 1 - i ≤ gk ∧ Hid (Only [] w wr ∧ ∀ j, j < i → Rule.wrong (l.getD j ⟨0, 0, 0⟩) = false))
  case atStart => exact ⟨0, rfl, by omega, by omega, Only.refl _ _, fun j hj => by omega⟩
  case round =>
    obtain ⟨i, rfl, hin, hg, HH⟩ := hrel
    by_cases hlt : i < n
    rotate_left
    · have z1 : ¬ (i : Int) < (n : Int) := by omega
      have hall : l.any Rule.wrong = false := by
        rw [List.any_eq_false]
        intro o ho
        obtain ⟨j, hj, rfl⟩ := List.mem_iff_getElem.1 ho
        have := HH.out.2 j (by rw [HN.out] at hj; omega)
        simpa [List.getD_eq_getElem?_getD, hj] using this
      have hright : Rule.right l = decide (n ≤ 16) := by rw [Rule.right, hall, HN.out]; simp
      have HRT : Hid _ := hright
      clear hall hright
      by_cases h16 : n ≤ 16
      · have z2 : (n : Int) ≤ 16 := by omega
        go_wp2_with fail
        go_ret
        exact ⟨by rw [HRT.out]; simp [h16], HH.out.1⟩
      · have z2 : ¬ (n : Int) ≤ 16 := by omega
        go_wp2_with fail
        go_ret
        exact ⟨by rw [HRT.out]; simp [h16], HH.out.1⟩
    · have z0 : (0 : Int) ≤ (i : Int) := by omega
      have z1 : (i : Int) < (n : Int) := by omega
      rcases HR.out with hr | ⟨b, off, e4, -, hb, hc⟩
      · have := HN.out; rw [hr] at this; simp at this; omega
      subst e4
      obtain ⟨c1, c2, c3⟩ := hc i (by rw [HN.out]; exact hlt)
      obtain ⟨o, ho⟩ : ∃ o, l.getD i ⟨0, 0, 0⟩ = o := ⟨_, rfl⟩
      have HO : Hid _ := ho
      rw [ho] at c1 c2 c3
      clear hc ho
      have e1 := (HH.out.1.cell (p := ⟨b, off + i * 3, none⟩) hb (by simp)).trans c1
      have e2 := (HH.out.1.cell (p := ⟨b, off + i * 3 + 1, none⟩) hb (by simp)).trans c2
      have e3 := (HH.out.1.cell (p := ⟨b, off + i * 3 + 2, none⟩) hb (by simp)).trans c3
      clear c1 c2 c3
      have hbad : Rule.wrong o = true → Rule.right l = false := fun h => by
        have : l.any Rule.wrong = true := by
          rw [List.any_eq_true]
          refine ⟨o, ?_, h⟩
          rw [← HO.out]
          have : i < l.length := by rw [HN.out]; exact hlt
          simp [List.getD_eq_getElem?_getD, this]
        rw [Rule.right, this]; simp
      have HBAD : Hid _ := hbad
      clear hbad
      obtain ⟨q1, h1⟩ : ∃ q, Body.btw o.c 1 13 = q := ⟨_, rfl⟩
      obtain ⟨q2, h2⟩ : ∃ q, Body.btw o.a (-1000000) 1000000 = q := ⟨_, rfl⟩
      obtain ⟨q3, h3⟩ : ∃ q, Body.btw o.b (-1000000) 1000000 = q := ⟨_, rfl⟩
      have hw : Rule.wrong o = (!q1 || (!q2 || !q3)) := by rw [Rule.wrong, h1, h2, h3]
      have HW : Hid _ := hw
      have HQ1 : Hid _ := h1
      have HQ2 : Hid _ := h2
      have HQ3 : Hid _ := h3
      clear h1 h2 h3 hw
      go_wp2_with fail
      refine (ris_any _ _ _ _).mono ?_
      rintro e w' ⟨rfl, rfl⟩
      rw [HQ1.out]
      cases q1
      · go_wp2_with fail
        go_ret
        exact ⟨by rw [HBAD.out (by rw [HW.out]; rfl)]; rfl, HH.out.1⟩
      go_wp2_with fail
      refine (ris_any _ _ _ _).mono ?_
      rintro e w' ⟨rfl, rfl⟩
      rw [HQ2.out]
      cases q2
      · go_wp2_with fail
        go_ret
        exact ⟨by rw [HBAD.out (by rw [HW.out]; rfl)]; rfl, HH.out.1⟩
      go_wp2_with fail
      refine (ris_any _ _ _ _).mono ?_
      rintro e w' ⟨rfl, rfl⟩
      rw [HQ3.out]
      cases q3
      · go_wp2_with fail
        go_ret
        exact ⟨by rw [HBAD.out (by rw [HW.out]; rfl)]; rfl, HH.out.1⟩
      go_wp2_with fail
      go_roundg (n - i)
      case measure => omega
      case rel =>
        refine ⟨i + 1, by go_num, by omega, by omega, HH.out.1, fun j hj => ?_⟩
        rcases Nat.lt_or_ge j i with h | h
        · exact HH.out.2 j h
        · have : j = i := by omega
          subst this
          rw [HO.out, HW.out]; rfl
end Go.Proofs.Ytfeloiodebjolaa

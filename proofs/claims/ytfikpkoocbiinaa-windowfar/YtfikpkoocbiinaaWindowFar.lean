/- Proved: WindowFar returns true for every input. No condition. -/
import Derived.Test.YtfikpkoocbiinaaWinK
import Derived.Test.YtfikpkoocbiinaaWinBits
import Derived.Test.YtfikpkoocbiinaaPick
import Derived.Test.YtfikpkoocbiinaaFrame
import Derived.Deep.LoopGhost
namespace Go.Proofs.Ytfikpkoocbiinaa.windowFar
open Go.ChangeShapes Go.WideShapes Go.ChangeAt Go.RowKit
set_option linter.unusedVariables false

def W (b t : Int) : Win.S := ⟨true, norm (b + t), Win.bit t.toNat⟩
theorem f1 (b : Int) : Win.none.note b = (⟨true, norm b, 0⟩, 1) := rfl
theorem f2 (b t : Int) (h1 : 1 ≤ t) (h2 : t ≤ 200) : (⟨true, norm b, 0⟩ : Win.S).note (b + t) = (W b t, 1) := by
  have e : ahead (b + t) (norm b) = t := by unfold ahead norm; omega
  unfold Win.S.note
  simp only [e]
  rw [if_neg (by decide), if_pos (by omega)]
  simp [W]
theorem f3 (b t : Int) (h1 : 1 ≤ t) (h2 : t ≤ 200) : (W b t).note b = (W b t, if 64 < t then 3 else 2) := by
  have e : ahead b (norm (b + t)) = -t := by unfold ahead norm; omega
  unfold Win.S.note W
  simp only [e]
  rw [if_neg (by decide), if_neg (by omega), Int.neg_neg]
  unfold Win.S.fill
  by_cases h : 64 < t
  · rw [if_pos (by omega), if_pos h]
  · rw [if_neg (by omega), if_neg h, if_pos]
    right
    simp only
    intro c
    rw [Win.and_bit (by omega) (by omega), Win.bit_test _ _ (by omega)] at c
    simp at c
    omega
theorem f4 (b t k : Int) (h1 : 65 ≤ k) (h2 : k ≤ 5064) : (W b t).note (b + t - k) = (W b t, 3) := by
  have e : ahead (b + t - k) (norm (b + t)) = -k := by unfold ahead norm; omega
  unfold Win.S.note W
  simp only [e]
  rw [if_neg (by decide), if_neg (by omega), Int.neg_neg]
  unfold Win.S.fill
  rw [if_pos (by omega)]

set_option maxRecDepth 100000 in
set_option maxHeartbeats 4000000 in
theorem walk (a0 : Int) (a1 : Int) (s2 : Value) (a2 : List Int) (w : World) (w0 : (Lit.int .i64 a0).wf = true) (w1 : (Lit.int .i64 a1).wf = true) (w2 : CameI .i64 w s2 a2) :
    Calls Try.prog 5 #[.int .i64 a0, .int .i64 a1, s2] w fun e w' => e = .returned (.bool true) ∧ Below w.heap.size w w' := by
  have hnot : ∀ (x : Bool) (w : World), (Op.unary .not (.bool x)).run Try.prog w = .ok (.bool (!x)) w := fun _ _ => rfl
  obtain ⟨ao, cap, rfl, hcap, hcm, _, hcl⟩ := w2
  have HC : Hid (∀ i, i < a2.length → ∃ b o, ao = some ⟨b, o, none⟩ ∧ b < w.heap.size ∧ w.cell? ⟨b, o + i, none⟩ = some (.int .i64 (a2.getD i 0))) := fun i hi => by
    rcases hcl with h | ⟨b, o, h1, h2, h3⟩
    · rw [h] at hi; simp at hi
    · exact ⟨b, o, h1, h2, h3 i hi⟩
  clear hcl
  have m0 : a2.length ≤ 9223372036854775807 := by simp only [maxLen] at hcm; omega
  clear hcm
  generalize hn : a2.length = n at *
  clear hn w0 w1
  go_enter Try.func5, Try.ntmps5
  go_wp2_with fail
  obtain ⟨x0, e0⟩ : ∃ x0, x0 = w.alloc (.cells #[.bool false, .int .i64 0, .int .u64 0] 24) := ⟨_, rfl⟩
  have H0 : Hid (Wn x0 w.heap.size Win.none ∧ Only [] w x0) := ⟨e0 ▸ Wn.new _ _, e0 ▸ (Only.refl _ _).alloc _⟩
  rw [← e0]
  clear e0
  obtain ⟨B, hB⟩ : ∃ B, w.heap.size = B := ⟨_, rfl⟩
  rw [hB] at H0 ⊢
  refine (pick_any _ _ (by omega) (by omega) _).mono ?_
  rintro e w' ⟨rfl, rfl⟩
  obtain ⟨b, hb⟩ : ∃ b, a0 % 65536 = b := ⟨_, rfl⟩
  have hb1 : 0 ≤ b ∧ b ≤ 65535 := by omega
  rw [hb]
  clear hb
  go_wp2_with fail
  refine (pick_any _ _ (by omega) (by omega) _).mono ?_
  rintro e w' ⟨rfl, rfl⟩
  obtain ⟨t, ht⟩ : ∃ t, a1 % 200 = t - 1 := ⟨a1 % 200 + 1, by omega⟩
  have ht1 : 1 ≤ t ∧ t ≤ 200 := by omega
  rw [ht]
  clear ht
  go_wp2_with fail
  rw [show (1 : Int) + (t - 1) = t by omega]
  refine (known_any _).mono ?_
  rintro e x1 ⟨rfl, o1⟩
  have H1 : Hid (Wn x1 B Win.none ∧ Only [] w x1) := ⟨H0.out.1.only o1 (by simp), H0.out.2.trans o1⟩
  clear o1 H0
  go_wp2_with fail
  refine (note_any B _ b _ H1.out.1).mono ?_
  rintro e x2 ⟨rfl, h1, o1, z1⟩
  rw [f1] at h1 ⊢
  have H2 : Hid (Wn x2 B ⟨true, norm b, 0⟩ ∧ Only [] w x2) := ⟨h1, H1.out.2.then o1 (by simp; omega)⟩
  clear h1 o1 z1 H1
  go_wp2_with fail
  refine (note_any B _ (b + t) _ H2.out.1).mono ?_
  rintro e x3 ⟨rfl, h1, o1, z1⟩
  rw [f2 b t ht1.1 ht1.2] at h1 ⊢
  have H3 : Hid (Wn x3 B (W b t) ∧ Only [] w x3) := ⟨h1, H2.out.2.then o1 (by simp; omega)⟩
  clear h1 o1 z1 H2
  go_wp2_with fail
  all_goals
    refine (note_any B _ b _ H3.out.1).mono ?_
    rintro e x4 ⟨rfl, h1, o1, z1⟩
    rw [f3 b t ht1.1 ht1.2] at h1 ⊢
    have H4 : Hid (Wn x4 B (W b t) ∧ Only [] w x4) := ⟨h1, H3.out.2.then o1 (by simp; omega)⟩
    clear h1 o1 z1 H3
    first | rw [if_pos (by omega)] | rw [if_neg (by omega)]
    go_wp2_with fail
    go_loopg [9] 21 (fun gk vi wr => ∃ k : Nat, vi = .int .i64 k ∧ k ≤ 20 ∧ k ≤ n ∧ 21 - k ≤ gk ∧ Hid (Wn wr B (W b t) ∧ Only [] w wr))
    case atStart => exact ⟨0, rfl, by omega, by omega, by omega, H4.out⟩
    case round =>
      obtain ⟨k, rfl, hk, hkn, hg, HR⟩ := hrel
      by_cases c1 : k < n
      · by_cases c2 : k < 20
        · have z1 : (k : Int) < (n : Int) := by omega
          have z2 : (k : Int) < 20 := by omega
          obtain ⟨bb, o0, rfl, lb, hc⟩ := HC.out k c1
          have hcell : wr.cell? ⟨bb, o0 + k, none⟩ = some (.int .i64 (a2.getD k 0)) := (HR.out.2.cell lb (by simp)).trans hc
          clear hc HC
          generalize a2.getD k 0 = x at hcell
          go_wp2_with fail
          refine (pick_any _ _ (by omega) (by omega) _).mono ?_
          rintro e w' ⟨rfl, rfl⟩
          obtain ⟨q, hq⟩ : ∃ q, x % 5000 = q - 65 := ⟨x % 5000 + 65, by omega⟩
          have hq1 : 65 ≤ q ∧ q ≤ 5064 := by omega
          rw [hq]
          clear hq
          go_wp2_with fail
          rw [show (65 : Int) + (q - 65) = q by omega]
          refine (note_any B _ (b + t - q) _ HR.out.1).mono ?_
          rintro e x5 ⟨rfl, h1, o1, z1⟩
          rw [f4 b t q hq1.1 hq1.2] at h1 ⊢
          have H5 : Hid (Wn x5 B (W b t) ∧ Only [] w x5) := ⟨h1, HR.out.2.then o1 (by simp; omega)⟩
          clear h1 o1 z1 HR
          have tm : (b + t).tmod 65536 = norm (b + t) := by unfold norm; rw [Int.tmod_eq_emod_of_nonneg (by omega)]
          go_wp2_with fail
          refine (last_any B _ _ H5.out.1).mono ?_
          rintro e w' ⟨rfl, hw⟩
          subst hw
          rw [show (W b t).last = norm (b + t) from rfl]
          go_wp2_with fail
          go_roundg (20 - k)
          case measure => omega
          case rel => exact ⟨k + 1, rfl, by omega, by omega, by omega, H5.out⟩
        · have z1 : (k : Int) < (n : Int) := by omega
          have z2 : ¬ (k : Int) < 20 := by omega
          go_wp2_with fail
          go_ret
          exact ⟨rfl, HR.out.2.below (by omega) (by simp)⟩
      · have z1 : ¬ (k : Int) < (n : Int) := by omega
        go_wp2_with fail
        go_ret
        exact ⟨rfl, HR.out.2.below (by omega) (by simp)⟩

set_option maxRecDepth 100000 in
theorem lifted (os : Os) (started : os.Started) (H : Type) (enc : TypeId × Value → H) :
    ReturnsInHanded {} Try.checked os 5 .any (Rows.windowFarSpec.pre6 enc Try.prog Try.f5 Rows.windowFarRow.domain false) (Rows.windowFarSpec.post enc Try.prog Try.f5 false true false false) := by
  refine returnsInHanded_of_change (C := Try.checked) own started (by kernel_rfl) Try.func5
    (ChangeSpec.witness6 (enc := enc) (C := Try.checked) false ⟨#[], #[.int .i64 0, .int .i64 0, .slice none 0 0], []⟩ 8 (by kernel_rfl) (by kernel_rfl) (by kernel_rfl) (by kernel_rfl)) ?_
  intro W base args ds gs before hval0 hW hcnd _
  have hval : ∀ (j : Nat) t v, Try.f5.params[j]? = some t → args[j]? = some v → Value.okWide Try.prog W .any base t v := hval0
  have hW' := hW
  obtain ⟨p, q, hA0, hV, rfl, hfz, hnd⟩ := hW
  have hA : DataW.TrodAll enc Try.prog W 0 (fun _ => true) true Try.f5.params.toList args.toList ds p := hA0
  rw [Try.params5] at hA hval
  obtain ⟨v0, vs0, d0, ds0, p0, q0, hargs, rfl, rfl, h0, r0⟩ := trodAll_cons hA
  obtain ⟨v1, vs1, d1, ds1, p1, q1, rfl, rfl, rfl, h1, r1⟩ := trodAll_cons r0
  obtain ⟨v2, vs2, d2, ds2, p2, q2, rfl, rfl, rfl, h2, r2⟩ := trodAll_cons r1
  obtain ⟨rfl, rfl, rfl⟩ := trodAll_nil r2
  obtain rfl : args = #[v0, v1, v2] := by cases args; simp_all
  obtain ⟨rfl, rfl⟩ := trodVars_none hV
  obtain ⟨a0, rfl, rfl, rfl, w0⟩ := open_int Try.underlying3 (hval 0 3 v0 rfl rfl) h0
  obtain ⟨a1, rfl, rfl, rfl, w1⟩ := open_int Try.underlying3 (hval 1 3 v1 rfl rfl) h1
  obtain ⟨e2, len2, cap2, rfl⟩ := okWide_slice Try.underlying30 (hval 2 30 v2 rfl rfl)
  have k2 := h2
  have lt2 : ∀ x ∈ p2, x.block < W.heap.size := by obtain ⟨m, hm⟩ := k2; exact DataW.trod_lt m _ _ _ hm
  obtain ⟨a2, w2⟩ := came_i Try.underlying30 Try.underlying3 (by kernel_rfl) h2
  clear hA0 hval0
  refine (walk a0 a1 _ a2 W w0 w1 w2).mono fun e W' ⟨he, bel⟩ => ?_
  subst he
  exact ⟨_, rfl, _, _, _, [], _, [], hW', trodAll_mk1 (shut_bool Try.underlying4 _), (trodAll_cons_mk (shut_int Try.underlying3 w0) (trodAll_cons_mk (shut_int Try.underlying3 w1) (trodAll_cons_mk (Below.trod laidOut (by kernel_rfl) (of_decide_eq_true (by kernel_rfl)) k2 bel lt2) trodAll_mk0))), rfl, bel.frame _, fun h => by cases h⟩

theorem over : Rows.windowFarRow.holds Try.pinned (OpenSpec.ofChange Rows.windowFarSpec) :=
  OpenClaim.holds_of_wide 5 Try.f5 rfl rfl rfl rfl rfl rfl rfl ⟨rfl, rfl, rfl, rfl, rfl⟩ rfl rfl rfl rfl rfl (by kernel_rfl) Try.func5 (by kernel_rfl)
    (of_decide_eq_true (by kernel_rfl)) (by unfold Func.isWrapper; first | (rw [if_pos (by decide +kernel)]; kernel_rfl) | (rw [if_neg (by decide +kernel)]; exact ⟨rfl, rfl⟩))
    (fun os started H enc _ => lifted os started H enc)

/-- THE STATEMENT -/
theorem proved : Rows.WindowFarSaid := over
end Go.Proofs.Ytfikpkoocbiinaa.windowFar

/- Proved: SeqRound returns true for every input. No condition. -/
import Derived.Test.YtkkegdbkadkecaaSeqK
import Derived.Test.YtkkegdbkadkecaaPick
import Derived.OpenShut
import Derived.ChangeOld
import Derived.Laws.Cover2
import Derived.Deep.LoopGhost
namespace Go.Proofs.Ytkkegdbkadkecaa.seqRound
open Go.ChangeShapes Go.WideShapes Go.ChangeAt Go.RowKit
set_option linter.unusedVariables false

set_option maxHeartbeats 2000000 in
theorem walk (a0 : Int) (a1 : Int) (a2 : Int) (w0 : (Lit.int .i64 a0).wf = true) (w1 : (Lit.int .i64 a1).wf = true) (w2 : (Lit.int .i64 a2).wf = true) (w : World) :
    Calls Try.prog 5 #[.int .i64 a0, .int .i64 a1, .int .i64 a2] w fun e w' => e = .returned (.bool true) ∧ Grown w w' := by
  have hnot : ∀ (x : Bool) (w : World), (Op.unary .not (.bool x)).run Try.prog w = .ok (.bool (!x)) w := fun _ _ => rfl
  clear w0 w1 w2
  obtain ⟨a, ha⟩ : ∃ a, a = a0 % 65536 := ⟨_, rfl⟩
  obtain ⟨b, hb⟩ : ∃ b, b = a1 % 65536 := ⟨_, rfl⟩
  obtain ⟨n, hn⟩ : ∃ n, n = a2 % 300 := ⟨_, rfl⟩
  have r1 : 0 ≤ a := by omega
  have r2 : a ≤ 65535 := by omega
  have r3 : 0 ≤ n := by omega
  have r4 : n < 300 := by omega
  have r5 : 0 ≤ b := by omega
  have r6 : b ≤ 65535 := by omega
  have HA : Hid _ := ha
  have HN : Hid _ := hn
  have HB : Hid _ := hb
  clear ha hn hb
  go_enter Try.func5, Try.ntmps5
  go_wp2_with fail
  refine (pick_any _ _ (by omega) (by omega) _).mono ?_
  rintro e w' ⟨rfl, rfl⟩
  rw [← HA.out]
  go_wp2_with fail
  refine (pick_any _ _ (by omega) (by omega) _).mono ?_
  rintro e w' ⟨rfl, rfl⟩
  rw [← HN.out]
  clear HA HN
  go_wp2_with fail
  go_loopg [7, 8] 301 (fun gk v7 v8 wr => wr = w ∧ ∃ (i c : Int), v7 = .int .i64 c ∧ v8 = .int .i64 i ∧ 0 ≤ i ∧ i ≤ n ∧ n + 1 - i ≤ gk ∧ 0 ≤ c ∧ c ≤ 65535 ∧ Hid (c = norm (a + i)))
  case atStart => exact ⟨rfl, 0, a, rfl, rfl, by omega, by omega, by omega, by omega, by omega, by show _ = _; unfold norm; omega⟩
  case round =>
    obtain ⟨rfl, i, c, rfl, rfl, i0, i1, hg, c0, c1, HC⟩ := hrel
    by_cases hi : i < n
    · go_wp2_with fail
      refine (next_any _ _).mono ?_
      rintro e w' ⟨rfl, rfl⟩
      go_wp2_with fail
      go_roundg (n - i).toNat
      case measure => omega
      case rel => exact ⟨rfl, i + 1, norm (c + 1), rfl, rfl, by omega, by omega, by omega, (norm_rng _).1, (norm_rng _).2, by show _ = _; rw [HC.out]; unfold norm; omega⟩
    · obtain rfl : i = n := by omega
      have A1 : Hid (ahead c a = i) := by show _ = _; rw [HC.out]; unfold ahead norm; omega
      have A2 : Hid (ahead a c = - i) := by show _ = _; rw [HC.out]; unfold ahead norm; omega
      have A3 : Hid (norm (a + 65536 * i) = a) := by show _ = _; unfold norm; omega
      have A4 : Hid ((ahead a b == 0) = (a == b)) := by show _ = _; rw [Bool.eq_iff_iff, beq_iff_eq, beq_iff_eq]; unfold ahead; omega
      have A5 : Hid (¬ (0 < ahead a b ∧ 0 < ahead b a)) := by show ¬ _; unfold ahead; omega
      clear HC
      go_wp2_with fail
      refine (pick_any _ _ (by omega) (by omega) _).mono ?_
      rintro e w' ⟨rfl, rfl⟩
      rw [← HB.out]
      clear HB
      go_wp2_with fail
      refine (known_any _).mono ?_
      rintro e w' ⟨rfl, rfl⟩
      go_wp2_with fail
      refine (ahead_any _ _ _).mono ?_
      rintro e w' ⟨rfl, rfl⟩
      rw [A1.out]
      go_wp2_with fail
      refine (ahead_any _ _ _).mono ?_
      rintro e w' ⟨rfl, rfl⟩
      rw [A2.out]
      go_wp2_with fail
      refine (newer_any _ _ _).mono ?_
      rintro e w' ⟨rfl, rfl⟩
      rw [A1.out]
      go_wp2_with fail
      refine (ahead_any _ _ _).mono ?_
      rintro e w' ⟨rfl, rfl⟩
      have a4 := A4.out
      go_wp2_with fail
      clear a4
      refine (newer_any _ _ _).mono ?_
      rintro e w' ⟨rfl, rfl⟩
      by_cases n1 : 0 < ahead a b
      · have n2 : ¬ 0 < ahead b a := fun h => A5.out ⟨n1, h⟩
        go_wp2_with fail
        refine (newer_any _ _ _).mono ?_
        rintro e w' ⟨rfl, rfl⟩
        go_wp2_with fail
        refine (norm_any _ _).mono ?_
        rintro e w' ⟨rfl, rfl⟩
        rw [A3.out]
        go_wp2_with fail
        go_ret
        exact ⟨by simp [n2], Grown.refl _⟩
      · go_wp2_with fail
        refine (norm_any _ _).mono ?_
        rintro e w' ⟨rfl, rfl⟩
        rw [A3.out]
        go_wp2_with fail
        go_ret
        exact ⟨rfl, Grown.refl _⟩

theorem own : ownKnob Try.prog.godebug = none := by kernel_rfl
set_option maxRecDepth 100000 in
theorem lifted (os : Os) (started : os.Started) (H : Type) (enc : TypeId × Value → H) :
    ReturnsInHanded {} Try.checked os 5 .any (Rows.seqRoundSpec.pre6 enc Try.prog Try.f5 Rows.seqRoundRow.domain false) (Rows.seqRoundSpec.post enc Try.prog Try.f5 false true false false) := by
  refine returnsInHanded_of_change (C := Try.checked) own started (by kernel_rfl) Try.func5
    (ChangeSpec.witness6 (enc := enc) (C := Try.checked) false ⟨#[], #[.int .i64 0, .int .i64 0, .int .i64 0], []⟩ 8 (by kernel_rfl) (by kernel_rfl) (by kernel_rfl) (by kernel_rfl)) ?_
  intro W base args ds gs before hval0 hW hcnd _
  have hval : ∀ (j : Nat) t v, Try.f5.params[j]? = some t → args[j]? = some v → Value.okWide Try.prog W .any base t v := hval0
  have hW' := hW
  obtain ⟨p, q, hA0, hV, rfl, hfz, hnd⟩ := hW
  have hA : DataW.TrodAll enc Try.prog W 0 (fun _ => true) true Try.f5.params.toList args.toList ds p := hA0
  rw [Try.params5] at hA hval
  obtain ⟨v0, vs0, d0, ds0, p0, q0, hargs, rfl, rfl, h0, r0⟩ := trodAll_cons hA
  obtain ⟨v1, vs1, d1, ds1, p1, q1, rfl, rfl, rfl, h1, r1⟩ := trodAll_cons r0
  obtain ⟨v2, vs2, d2, ds2, p2, q2, rfl, rfl, rfl, h2, r2⟩ := trodAll_cons r1
  obtain ⟨rfl, rfl, rfl⟩ := trodAll_nil r2
  obtain rfl : args = #[v0, v1, v2] := by cases args; simp_all
  obtain ⟨rfl, rfl⟩ := trodVars_none hV
  obtain ⟨a0, rfl, rfl, rfl, w0⟩ := open_int Try.underlying3 (hval 0 3 v0 rfl rfl) h0
  obtain ⟨a1, rfl, rfl, rfl, w1⟩ := open_int Try.underlying3 (hval 1 3 v1 rfl rfl) h1
  obtain ⟨a2, rfl, rfl, rfl, w2⟩ := open_int Try.underlying3 (hval 2 3 v2 rfl rfl) h2
  clear hA0 hval0
  simp only [List.append_nil] at hW'
  refine (walk a0 a1 a2 w0 w1 w2 W).mono fun e W' ⟨he, hg⟩ => ?_
  subst he
  exact ⟨_, rfl, post_of_same (pa := []) (pv := []) hW' (fun _ _ _ => (trodAll_cons_mk (shut_bool Try.underlying4 _) trodAll_mk0)) (fun sp _ => (trodAll_cons_mk (shut_int Try.underlying3 w0) (trodAll_cons_mk (shut_int Try.underlying3 w1) (trodAll_cons_mk (shut_int Try.underlying3 w2) trodAll_mk0)))) (fun _ _ => rfl) rfl
    (hg.frame _) hg.2.1 (ok_one (by kernel_rfl) rfl (okWide_bool_mk Try.underlying4 _))⟩

theorem over : Rows.seqRoundRow.holds Try.pinned (OpenSpec.ofChange Rows.seqRoundSpec) :=
  OpenClaim.holds_of_wide 5 Try.f5 rfl rfl rfl rfl rfl rfl rfl ⟨rfl, rfl, rfl, rfl, rfl⟩ rfl rfl rfl rfl rfl (by kernel_rfl) Try.func5 (by kernel_rfl)
    (of_decide_eq_true (by kernel_rfl)) (by unfold Func.isWrapper; first | (rw [if_pos (by decide +kernel)]; kernel_rfl) | (rw [if_neg (by decide +kernel)]; exact ⟨rfl, rfl⟩))
    (fun os started H enc _ => lifted os started H enc)

/-- THE STATEMENT -/
theorem proved : Rows.SeqRoundSaid := over
end Go.Proofs.Ytkkegdbkadkecaa.seqRound

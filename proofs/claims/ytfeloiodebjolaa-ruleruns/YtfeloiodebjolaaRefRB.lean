/- The reference of chapters 11 and 12: RightBody, Shoot, field, rollOf. -/
import Derived.Test.YtfeloiodebjolaaRefRA
import Derived.Test.YtfeloiodebjolaaPick
import Derived.Test.YtfeloiodebjolaaEbMem
import Derived.Deep.LoopGhost
import Derived.Deep.DeepCutAuto
import Derived.Deep.CutBlock
namespace Go.Proofs.Ytfeloiodebjolaa
open Go.RowKit
set_option linter.unusedVariables false

theorem idx_at {t o i : Nat} (hi : i < 4) (w : World) : (Instr.indexAt 32 (.pointer (some ⟨t, o, none⟩)) (.int .i64 (i : Nat))).run Try.prog w = .ok (.pointer (some ⟨t, o + i, none⟩)) w := by
  have h4 : i = 0 ∨ i = 1 ∨ i = 2 ∨ i = 3 := by omega
  rcases h4 with rfl | rfl | rfl | rfl <;> (show _ = _; kernel_rfl)
theorem Bl.mem {w : World} {p : Nat} {b : Bd} (h : Bl w p b) (i : Nat) (hi : i < 4) : w.cell? ⟨p, 7 + i, none⟩ = some (.int .i64 (Rule.reg b i)) := by
  have h4 : i = 0 ∨ i = 1 ∨ i = 2 ∨ i = 3 := by omega
  rcases h4 with rfl | rfl | rfl | rfl
  · exact h.blk.cell 7
  · exact h.blk.cell 8
  · exact h.blk.cell 9
  · exact h.blk.cell 10
theorem some_split (b : Bd) (hk : b.k = 1) : Body.some b = (Body.mem (Rule.reg b (0 : Nat)) && (Body.mem (Rule.reg b (1 : Nat)) && (Body.mem (Rule.reg b (2 : Nat)) && (Body.mem (Rule.reg b (3 : Nat)) && (Body.btw b.o 0 7 && (Body.btw b.x 0 4095 && (Body.btw b.y 0 4095 && (Body.btw b.vx (-64) 64 && (Body.btw b.vy (-64) 64 && (Body.btw b.age 0 600 && Body.btw b.f 0 65535)))))))))) := by
  have hk1 : (b.k == 1 || b.k == 2) = true := by rw [hk]; rfl
  unfold Body.some
  rw [hk1]
  show _ = (Body.mem b.m0 && (Body.mem b.m1 && (Body.mem b.m2 && (Body.mem b.m3 && _))))
  simp only [Bool.and_true, Bool.and_assoc]
set_option maxRecDepth 100000 in
set_option maxHeartbeats 2000000 in
theorem rbody_any (b : Bd) (hk : b.k = 1) (w : World) : Calls Try.prog 19 #[b.v] w fun e w' => e = .returned (.bool (Body.some b)) ∧ Only [] w w' := by
  have hnot : ∀ (x : Bool) (w : World), (Op.unary .not (.bool x)).run Try.prog w = .ok (.bool (!x)) w := fun _ _ => rfl
  have hs := some_split b hk
  have HS : Hid _ := hs
  have H0 : Hid (Bl (w.alloc (.cells b.cells.toArray 34)) w.heap.size b ∧ Only [] w (w.alloc (.cells b.cells.toArray 34))) := ⟨Bl.new _ _ _, (Only.refl [] _).alloc _⟩
  have HK : Hid _ := hk
  clear hs hk
  go_enter Try.func19, Try.ntmps19
  go_upto_region 1 with fail
  change Code.wp _ _ _ _ (w.alloc (.cells b.cells.toArray 34))
  generalize w.alloc (.cells b.cells.toArray 34) = W at *
  obtain ⟨q, hq⟩ : ∃ q, w.heap.size = q := ⟨_, rfl⟩
  simp only [hq] at H0 ⊢
  clear hq
  have c0 : W.cell? ⟨q, 0, none⟩ = some (.int .i64 1) := by rw [← HK.out]; exact H0.out.1.blk.cell 0
  go_wp2_with fail
  go_loopg [3] 5 (fun gk vi wr => ∃ i : Nat, vi = .int .i64 i ∧ i ≤ 4 ∧ 5 - i ≤ gk ∧ Hid (Bl wr q b ∧ Only [] w wr ∧ ∀ j, j < i → Body.mem (Rule.reg b (j : Nat)) = true))
  case atStart => exact ⟨0, rfl, by omega, by omega, H0.out.1, H0.out.2, fun j hj => by omega⟩
  case round =>
    clear H0 c0
    obtain ⟨i, rfl, hin, hg, HH⟩ := hrel
    by_cases hlt : i < 4
    · have z1 : (i : Int) < 4 := by omega
      have cm := HH.out.1.mem i hlt
      have ix := fun w => @idx_at q 7 i hlt w
      obtain ⟨m, hm⟩ : ∃ m, Body.mem (Rule.reg b (i : Nat)) = m := ⟨_, rfl⟩
      have hm' : Body.btw (Rule.reg b (i : Nat)) (-1000000) 1000000 = m := hm
      have HM : Hid _ := hm
      have HM' : Hid _ := hm'
      clear hm hm'
      go_wp2_with fail
      refine (ris_any _ _ _ _).mono ?_
      rintro e w' ⟨rfl, rfl⟩
      rw [HM'.out]
      cases m
      · have hf : Body.some b = false := by
          rw [HS.out]
          have h4 : i = 0 ∨ i = 1 ∨ i = 2 ∨ i = 3 := by omega
          have := HM.out
          rcases h4 with rfl | rfl | rfl | rfl <;> rw [this] <;> simp
        go_wp2_with fail
        go_ret
        exact ⟨by rw [hf]; rfl, HH.out.2.1⟩
      · go_wp2_with fail
        go_roundg (4 - i)
        case measure => omega
        case rel =>
          refine ⟨i + 1, by go_num, by omega, by omega, HH.out.1, HH.out.2.1, fun j hj => ?_⟩
          rcases Nat.lt_or_ge j i with h | h
          · exact HH.out.2.2 j h
          · have : j = i := by omega
            subst this
            exact HM.out
    · have hi : i = 4 := by omega
      subst hi
      have h0 := HH.out.2.2 0 (by omega)
      have h1 := HH.out.2.2 1 (by omega)
      have h2 := HH.out.2.2 2 (by omega)
      have h3 := HH.out.2.2 3 (by omega)
      have hs := HS.out
      rw [h0, h1, h2, h3] at hs
      simp only [Bool.true_and] at hs
      have HS2 : Hid _ := hs
      clear h0 h1 h2 h3 hs
      have c0 : wr.cell? ⟨q, 0, none⟩ = some (.int .i64 1) := by rw [← HK.out]; exact HH.out.1.blk.cell 0
      have c1 : wr.cell? ⟨q, 1, none⟩ = some (.int .i64 b.o) := HH.out.1.blk.cell 1
      have c2 : wr.cell? ⟨q, 2, none⟩ = some (.int .i64 b.x) := HH.out.1.blk.cell 2
      have c3 : wr.cell? ⟨q, 3, none⟩ = some (.int .i64 b.y) := HH.out.1.blk.cell 3
      have c4 : wr.cell? ⟨q, 4, none⟩ = some (.int .i64 b.vx) := HH.out.1.blk.cell 4
      have c5 : wr.cell? ⟨q, 5, none⟩ = some (.int .i64 b.vy) := HH.out.1.blk.cell 5
      have c6 : wr.cell? ⟨q, 6, none⟩ = some (.int .i64 b.age) := HH.out.1.blk.cell 6
      have c11 : wr.cell? ⟨q, 11, none⟩ = some (.int .i64 b.f) := HH.out.1.blk.cell 11
      obtain ⟨q0, hq0⟩ : ∃ q, Body.btw b.o 0 7 = q := ⟨_, rfl⟩
      have HQ0 : Hid _ := hq0
      obtain ⟨q1, hq1⟩ : ∃ q, Body.btw b.x 0 4095 = q := ⟨_, rfl⟩
      have HQ1 : Hid _ := hq1
      obtain ⟨q2, hq2⟩ : ∃ q, Body.btw b.y 0 4095 = q := ⟨_, rfl⟩
      have HQ2 : Hid _ := hq2
      obtain ⟨q3, hq3⟩ : ∃ q, Body.btw b.vx (-64) 64 = q := ⟨_, rfl⟩
      have HQ3 : Hid _ := hq3
      obtain ⟨q4, hq4⟩ : ∃ q, Body.btw b.vy (-64) 64 = q := ⟨_, rfl⟩
      have HQ4 : Hid _ := hq4
      obtain ⟨q5, hq5⟩ : ∃ q, Body.btw b.age 0 600 = q := ⟨_, rfl⟩
      have HQ5 : Hid _ := hq5
      obtain ⟨q6, hq6⟩ : ∃ q, Body.btw b.f 0 65535 = q := ⟨_, rfl⟩
      have HQ6 : Hid _ := hq6
      have hs := HS2.out
      rw [hq0, hq1, hq2, hq3, hq4, hq5, hq6] at hs
      have HS3 : Hid _ := hs
      clear hq0 hq1 hq2 hq3 hq4 hq5 hq6 hs HS2
      go_wp2_with fail
      refine (ris_any _ _ _ _).mono ?_
      rintro e w' ⟨rfl, rfl⟩
      rw [HQ0.out]
      cases q0
      · go_wp2_with fail
        go_ret
        exact ⟨by rw [HS3.out]; rfl, HH.out.2.1⟩
      go_wp2_with fail
      refine (ris_any _ _ _ _).mono ?_
      rintro e w' ⟨rfl, rfl⟩
      rw [HQ1.out]
      cases q1
      · go_wp2_with fail
        go_ret
        exact ⟨by rw [HS3.out]; rfl, HH.out.2.1⟩
      go_wp2_with fail
      refine (ris_any _ _ _ _).mono ?_
      rintro e w' ⟨rfl, rfl⟩
      rw [HQ2.out]
      cases q2
      · go_wp2_with fail
        go_ret
        exact ⟨by rw [HS3.out]; rfl, HH.out.2.1⟩
      go_wp2_with fail
      refine (ris_any _ _ _ _).mono ?_
      rintro e w' ⟨rfl, rfl⟩
      rw [HQ3.out]
      cases q3
      · go_wp2_with fail
        go_ret
        exact ⟨by rw [HS3.out]; rfl, HH.out.2.1⟩
      go_wp2_with fail
      refine (ris_any _ _ _ _).mono ?_
      rintro e w' ⟨rfl, rfl⟩
      rw [HQ4.out]
      cases q4
      · go_wp2_with fail
        go_ret
        exact ⟨by rw [HS3.out]; rfl, HH.out.2.1⟩
      go_wp2_with fail
      refine (ris_any _ _ _ _).mono ?_
      rintro e w' ⟨rfl, rfl⟩
      rw [HQ5.out]
      cases q5
      · go_wp2_with fail
        go_ret
        exact ⟨by rw [HS3.out]; rfl, HH.out.2.1⟩
      go_wp2_with fail
      refine (ris_any _ _ _ _).mono ?_
      rintro e w' ⟨rfl, rfl⟩
      rw [HQ6.out]
      go_wp2_with fail
      go_ret
      exact ⟨by rw [HS3.out]; rfl, HH.out.2.1⟩
set_option maxRecDepth 100000 in
theorem rrollOf_any (o : Op3) (j : Nat) (hb : o.b = j) (hj : j < 4) (e : Ev) (s : Value) (w : World) : Calls Try.prog 23 #[o.v, e.v s] w fun x w' => x = .returned (.int .i64 (Rule.reg e.b o.b)) ∧ Only [] w w' := by
  obtain ⟨oc, oa, ob⟩ := o
  simp only at hb
  subst hb
  have H0 : Hid (Three ((w.alloc (.cells #[.int .i64 oc, .int .i64 oa, .int .i64 j] 29)).alloc (.cells (e.cells s).toArray 45)) w.heap.size (.int .i64 oc) (.int .i64 oa) (.int .i64 j) ∧ Eb ((w.alloc (.cells #[.int .i64 oc, .int .i64 oa, .int .i64 j] 29)).alloc (.cells (e.cells s).toArray 45)) (w.heap.size + 1) e s ∧ Only [] w ((w.alloc (.cells #[.int .i64 oc, .int .i64 oa, .int .i64 j] 29)).alloc (.cells (e.cells s).toArray 45))) :=
    ⟨(Three.new _ _ _ _ _).only ((Only.refl [] _).alloc _) (by simp), Eb.newAt e s (by simp) _, ((Only.refl [] _).alloc _).alloc _⟩
  go_enter Try.func23, Try.ntmps23
  go_upto_region 1 with fail
  change Code.wp _ _ _ _ ((w.alloc (.cells #[.int .i64 oc, .int .i64 oa, .int .i64 j] 29)).alloc (.cells (e.cells s).toArray 45))
  generalize (w.alloc (.cells #[.int .i64 oc, .int .i64 oa, .int .i64 j] 29)).alloc (.cells (e.cells s).toArray 45) = W at *
  obtain ⟨q, hq⟩ : ∃ q, w.heap.size = q := ⟨_, rfl⟩
  simp only [hq] at H0 ⊢
  clear hq
  have f2 : W.cell? ⟨q, 2, none⟩ = some (.int .i64 j) := H0.out.1.cell2
  have cm := H0.out.2.1.mem j hj
  have ix := fun w => @idx_at (q + 1) 7 j hj w
  go_wp2_with fail
  go_ret
  exact ⟨rfl, H0.out.2.2⟩
end Go.Proofs.Ytfeloiodebjolaa

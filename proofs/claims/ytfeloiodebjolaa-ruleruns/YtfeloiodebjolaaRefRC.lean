/- The reference of chapter 11: Shoot. -/
import Derived.Test.YtfeloiodebjolaaRefRB
namespace Go.Proofs.Ytfeloiodebjolaa
open Go.RowKit
set_option linter.unusedVariables false

set_option maxRecDepth 100000 in
set_option maxHeartbeats 2000000 in
theorem rshoot_any (b : Bd) (vx vy : Int) (hk : b.k = 1) (hs : Body.some b = true) (w : World) : Calls Try.prog 25 #[b.v, .int .i64 vx, .int .i64 vy] w fun e w' => e = .returned (Body.shot b vx vy).v ∧ Only [] w w' := by
  have hnot : ∀ (x : Bool) (w : World), (Op.unary .not (.bool x)).run Try.prog w = .ok (.bool (!x)) w := fun _ _ => rfl
  have H0 : Hid (Bl ((w.alloc (.cells b.cells.toArray 34)).alloc (.cells Body.zero.cells.toArray 34)) w.heap.size b ∧ Bl ((w.alloc (.cells b.cells.toArray 34)).alloc (.cells Body.zero.cells.toArray 34)) (w.heap.size + 1) Body.zero ∧ Only [] w ((w.alloc (.cells b.cells.toArray 34)).alloc (.cells Body.zero.cells.toArray 34))) := by
    refine ⟨(Bl.new _ _ _).only ((Only.refl [] _).alloc _) (by simp), ?_, ((Only.refl [] _).alloc _).alloc _⟩
    have hz : (w.alloc (.cells b.cells.toArray 34)).heap.size = w.heap.size + 1 := by simp
    exact Bl.newAt (w := w.alloc (.cells b.cells.toArray 34)) (M := w.heap.size + 1) Body.zero hz 34
  have HK : Hid _ := hk
  have HS : Hid _ := hs
  clear hk hs
  go_enter Try.func25, Try.ntmps25
  go_upto_region 1 with fail
  change Code.wp _ _ _ _ ((w.alloc (.cells b.cells.toArray 34)).alloc (.cells Body.zero.cells.toArray 34))
  generalize (w.alloc (.cells b.cells.toArray 34)).alloc (.cells Body.zero.cells.toArray 34) = W at *
  obtain ⟨q, hq⟩ : ∃ q, w.heap.size = q := ⟨_, rfl⟩
  simp only [hq] at H0 ⊢
  have HQ : Hid _ := hq
  clear hq
  obtain ⟨c0, c1, c2, c3, c4, c5, c6, c7, c8, c9, c10, c11⟩ := H0.out.1.all
  have hk0 : (b.k == 0) = false := by rw [HK.out]; rfl
  go_wp2_with fail
  refine (rbody_any b HK.out _).mono ?_
  rintro e W1 ⟨rfl, o1⟩
  rw [HS.out]
  have H1 : Hid (Bl W1 q b ∧ Bl W1 (q + 1) Body.zero ∧ Only [] w W1) := ⟨H0.out.1.only o1 (by simp), H0.out.2.1.only o1 (by simp), H0.out.2.2.trans o1⟩
  clear H0 o1 c0 c1 c2 c3 c4 c5 c6 c7 c8 c9 c10 c11
  obtain ⟨c0, c1, c2, c3, c4, c5, c6, c7, c8, c9, c10, c11⟩ := H1.out.1.all
  obtain ⟨r0, r1, r2, r3, r4, r5, r6, r7, r8, r9, r10, r11⟩ := H1.out.2.1.all
  have fz := H1.out.2.1.frozen
  have qw := fwithin_any
  go_wp2_with fail
  go_still_tail 11, (by kernel_rfl)
  still_call (qw _ _ _ _)
  repeat still_step
  still_call (qw _ _ _ _)
  repeat still_step
  refine wpStill_nil ?_
  change wpList _ _ _ _ _ W1.drew
  have H2 : Hid (Bl W1.drew (q + 1) Body.zero ∧ Only [] w W1.drew) := ⟨H1.out.2.1.only (only_drew W1) (by simp), H1.out.2.2.trans (only_drew W1)⟩
  have HQ2 := HQ.out
  clear H1 c0 c1 c2 c3 c4 c5 c6 c7 c8 c9 c10 c11 r0 r1 r2 r3 r4 r5 r6 r7 r8 r9 r10 r11 fz
  generalize W1.drew = W2 at *
  obtain ⟨r0, r1, r2, r3, r4, r5, r6, r7, r8, r9, r10, r11⟩ := H2.out.1.all
  have fz := H2.out.1.frozen
  go_wp2_with fail
  change bodyPost _ _ _ _ _ (putB W2 (q + 1) (Body.shot b vx vy))
  have X := putB_bl H2.out.1 (Body.shot b vx vy)
  have O := H2.out.2.then (putB_only W2 (q + 1) (Body.shot b vx vy)) (by simp; omega)
  exact bodyPost_ret (res_body X Try.results25 rfl) rfl ⟨rfl, O⟩
end Go.Proofs.Ytfeloiodebjolaa

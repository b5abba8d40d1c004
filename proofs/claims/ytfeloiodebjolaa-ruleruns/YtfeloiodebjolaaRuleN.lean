/- Package rule: Run. -/
import Derived.Test.YtfeloiodebjolaaRuleN0
namespace Go.Proofs.Ytfeloiodebjolaa
open Go.RowKit
set_option linter.unusedVariables false
set_option maxRecDepth 100000 in
set_option maxHeartbeats 4000000 in
theorem apart_any {B : Nat} {w : World} (e : Ev) {s : Value} (h : SR B w s e.sh) (hl : e.sh.length ≤ 1000000) : Calls Try.prog 16 #[e.v s] w fun r w' => (∃ v, r = .returned (e.v v) ∧ SR w.heap.size w' v e.sh) ∧ Only [] w w' := by
  have H0 : Hid (SR B w s e.sh) := h
  clear h
  go_enter Try.func16, Try.ntmps16
  go_wp2_with fail
  obtain ⟨W, hW⟩ : ∃ W, W = ((w.alloc (.cells (e.cells s).toArray 39)).alloc (.cells (Ev.zero.cells (.slice none 0 0)).toArray 39)) := ⟨_, rfl⟩
  have o1 : Only [] (w.alloc (.cells (e.cells s).toArray 39)) W := by rw [hW]; exact (Only.refl _ _).alloc _
  have H1 : Hid (Eb W w.heap.size e s ∧ Eb W (w.heap.size + 1) Ev.zero (.slice none 0 0) ∧ SR B W s e.sh ∧ Only [] w W ∧ W.heap.size = w.heap.size + 2) := by
    refine ⟨(Eb.new e s w _).only o1 (by simp), ?_, (H0.out.only ((Only.refl [] _).alloc _) (by simp)).only o1 (by simp), ((Only.refl [] _).alloc _).trans o1, by rw [hW]; simp⟩
    rw [hW]; exact Eb.newAt Ev.zero _ (by simp) _
  change Calls _ _ _ ((w.alloc (.cells (e.cells s).toArray 39)).alloc (.cells (Ev.zero.cells (.slice none 0 0)).toArray 39)) _
  rw [← hW]
  clear hW o1 H0
  have hsz := H1.out.2.2.2.2
  refine (clone_any H1.out.2.2.1 hl).mono ?_
  rintro r w2 ⟨⟨v, rfl, hv⟩, o2⟩
  have H2 : Hid (Eb w2 w.heap.size e s ∧ Eb w2 (w.heap.size + 1) Ev.zero (.slice none 0 0) ∧ SR W.heap.size w2 v e.sh ∧ Only [] w w2) := ⟨H1.out.1.only o2 (by simp), H1.out.2.1.only o2 (by simp), hv, H1.out.2.2.2.1.trans o2⟩
  obtain ⟨va, vn, vc, rfl⟩ := hv.form2
  clear hv o2 H1
  have fz := H2.out.1.frozen
  have fz2 := H2.out.2.1.frozen
  have c17 : w2.cell? ⟨w.heap.size, 17, none⟩ = some s := H2.out.1.blk.cell 17
  obtain ⟨q, hqq⟩ : ∃ q, w.heap.size = q := ⟨_, rfl⟩
  simp only [hqq] at H2 hsz c17 fz fz2 ⊢
  go_upto_region 2 with fail
  have oS : Only [q] w2 (w2.setCell ⟨q, 17, none⟩ (.slice va vn vc)) := (Only.refl _ _).setCell (by simp) _
  have H3 : Hid (Eb (w2.setCell ⟨q, 17, none⟩ (.slice va vn vc)) q e (.slice va vn vc) ∧ Eb (w2.setCell ⟨q, 17, none⟩ (.slice va vn vc)) (q + 1) Ev.zero (.slice none 0 0) ∧ SR (q + 2) (w2.setCell ⟨q, 17, none⟩ (.slice va vn vc)) (.slice va vn vc) e.sh ∧ Only [] w (w2.setCell ⟨q, 17, none⟩ (.slice va vn vc))) := by
    refine ⟨H2.out.1.sets _, H2.out.2.1.only oS (by simp), ?_, H2.out.2.2.2.then oS fun x hx hl => ?_⟩
    · rw [← hsz]
      exact H2.out.2.2.1.only oS fun g hg hm => by have := (H2.out.2.2.1.lt g hg).1; have h2 : g = q := (by simpa using hm); omega
    · have h2 : x = q := (by simpa using hx); omega
  clear H2 oS c17 fz fz2
  generalize w2.setCell ⟨q, 17, none⟩ (.slice va vn vc) = w3 at *
  apply wp_region_lit
  refine op_loads rfl (cs := e.cells (.slice va vn vc)) 39 _ rfl rfl Try.underlying39 info_env H3.out.1.cell ?_
  refine op_storeE rfl _ _ rfl rfl rfl H3.out.2.1 rfl ?_
  intro w4 hb4 o4 hz4
  have H4 : Hid (Eb w4 (q + 1) e (.slice va vn vc) ∧ Only [q + 1] w3 w4) := ⟨hb4, o4⟩
  clear hb4 o4
  refine wpList_nil ?_
  go_wp2_with fail
  refine bodyPost_ret (res_env H4.out.1 Try.results16 rfl) rfl ⟨⟨_, rfl, ?_⟩, H3.out.2.2.2.then H4.out.2 fun x hx hl => ?_⟩
  · exact (H3.out.2.2.1.only H4.out.2 (fun g hg hm => by have := (H3.out.2.2.1.lt g hg).1; have h2 : g = q + 1 := (by simpa using hm); omega)).lower (by omega)
  · have h2 : x = q + 1 := (by simpa using hx); omega
end Go.Proofs.Ytfeloiodebjolaa

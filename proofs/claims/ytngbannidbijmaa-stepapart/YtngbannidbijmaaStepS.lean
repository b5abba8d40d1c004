/- Package step: Fold. -/
import Derived.Test.YtngbannidbijmaaGStepH
import Derived.Test.YtngbannidbijmaaCame
namespace Go.Proofs.Ytngbannidbijmaa
open Go.RowKit
set_option linter.unusedVariables false
set_option linter.unusedSimpArgs false

/-- a row, as an element -/
def rRow : Rdr (List Cl) := fun B w cs row => ∃ v, cs = [v] ∧ RdC B w v row
theorem rRow_st : Stable rRow := ⟨fun ⟨v, h, k⟩ o hS => ⟨v, h, k.only o hS⟩, fun ⟨v, h, k⟩ hb => ⟨v, h, k.lower hb⟩⟩
/-- what Fold has laid -/
structure Fld (w W : World) (B q : Nat) (c : Cf) (rv tv rwv : Value) (s : Gs) (rows : List (List Cl)) : Prop where
  conf : Cb W q c rv tv
  st : Sb W (q + 1) s
  res : Sb W (q + 2) Step.zero
  only : Only [] w W
  rd : Rd B W c rv tv
  rows : RdG 1 rRow B W rwv rows
  base : w.heap.size = q
  le : B ≤ q
theorem Fld.then {w W W' : World} {B q : Nat} {c : Cf} {rv tv rwv : Value} {s : Gs} {rows : List (List Cl)} (h : Fld w W B q c rv tv rwv s rows) (o : Only [] W W') : Fld w W' B q c rv tv rwv s rows :=
  ⟨h.conf.only o (by simp), h.st.only o (by simp), h.res.only o (by simp), h.only.trans o, h.rd.only o (by simp), h.rows.only rRow_st o (by simp), h.base, h.le⟩
theorem Fld.put {w W W' : World} {B q : Nat} {c : Cf} {rv tv rwv : Value} {s s' : Gs} {rows : List (List Cl)} (h : Fld w W B q c rv tv rwv s rows) (o : Only [q + 1] W W') (hb : Sb W' (q + 1) s') : Fld w W' B q c rv tv rwv s' rows := by
  have hl := h.le
  have hS : ∀ g ∈ [q + 1], B ≤ g := fun g hg => by have h2 : g = q + 1 := (by simpa using hg); omega
  exact ⟨h.conf.only o (by simp), hb, h.res.only o (by simp), h.only.then o (fun x hx hl => by have h2 : x = q + 1 := (by simpa using hx); have := h.base; omega), h.rd.only o hS, h.rows.only rRow_st o hS, h.base, h.le⟩
theorem fld_start {w : World} {B : Nat} {c : Cf} {rv tv rwv : Value} {s : Gs} {rows : List (List Cl)} (h : Rd B w c rv tv) (hs : Step.Wf s) (hr : RdG 1 rRow B w rwv rows) (hB : B ≤ w.heap.size) (t1 t2 t3 : TypeId) :
    Fld w (((w.alloc (.cells (c.cells rv tv).toArray t1)).alloc (.cells s.cells.toArray t2)).alloc (.cells Step.zero.cells.toArray t3)) B w.heap.size c rv tv rwv s rows := by
  have o : Only [] w (((w.alloc (.cells (c.cells rv tv).toArray t1)).alloc (.cells s.cells.toArray t2)).alloc (.cells Step.zero.cells.toArray t3)) := (((Only.refl [] _).alloc _).alloc _).alloc _
  have h1 : Cb (w.alloc (.cells (c.cells rv tv).toArray t1)) w.heap.size c rv tv := Cb.new c rv tv w t1
  have h2 : Sb ((w.alloc (.cells (c.cells rv tv).toArray t1)).alloc (.cells s.cells.toArray t2)) (w.heap.size + 1) s := by
    have : (w.alloc (.cells (c.cells rv tv).toArray t1)).heap.size = w.heap.size + 1 := by simp
    rw [← this]; exact Sb.new hs _ _
  have h3 : Sb (((w.alloc (.cells (c.cells rv tv).toArray t1)).alloc (.cells s.cells.toArray t2)).alloc (.cells Step.zero.cells.toArray t3)) (w.heap.size + 2) Step.zero := by
    have : ((w.alloc (.cells (c.cells rv tv).toArray t1)).alloc (.cells s.cells.toArray t2)).heap.size = w.heap.size + 2 := by simp
    rw [← this]; exact Sb.new Step.zero_wf _ _
  exact ⟨(h1.only ((Only.refl [] _).alloc _) (by simp)).only ((Only.refl [] _).alloc _) (by simp), h2.only ((Only.refl [] _).alloc _) (by simp), h3, o, h.only o (by simp), hr.only rRow_st o (by simp), rfl, hB⟩
theorem fold_take {c : Cf} {s : Gs} {rows : List (List Cl)} {i : Nat} {row : List Cl} (h : rows[i]? = some row) : Step.fold c s (rows.take (i + 1)) = Step.step c (Step.fold c s (rows.take i)) row := by
  unfold Step.fold
  rw [List.take_add_one, List.foldl_append, h]
  rfl
theorem fold_wf {c : Cf} {s : Gs} (h : Step.Wf s) (rows : List (List Cl)) : Step.Wf (Step.fold c s rows) := by
  unfold Step.fold
  induction rows generalizing s with
  | nil => exact h
  | cons r rs ih => exact ih (Step.step_wf h r)
set_option maxRecDepth 100000 in
set_option maxHeartbeats 4000000 in
theorem fold_any {B : Nat} {w : World} {rv tv rwv : Value} (c : Cf) (s : Gs) {rows : List (List Cl)} (h : Rd B w c rv tv) (hs : Step.Wf s) (hr : RdG 1 rRow B w rwv rows) (hB : B ≤ w.heap.size) : Calls Try.prog 14 #[c.v rv tv, s.v, rwv] w fun e w' => e = .returned (Step.fold c s rows).v ∧ Only [] w w' := by
  obtain ⟨q, hq⟩ : ∃ q, w.heap.size = q := ⟨_, rfl⟩
  obtain ⟨a, cap, hv, hnc, hcap⟩ := hr.form
  obtain ⟨n, hn⟩ : ∃ n, rows.length = n := ⟨_, rfl⟩
  have HN : Hid (rows.length = n) := hn
  rw [hn] at hv hnc
  subst hv
  have hn9 : n ≤ 9223372036854775807 := by omega
  clear hnc hcap
  have H0 : Hid (Fld w (((w.alloc (.cells (c.cells rv tv).toArray 28)).alloc (.cells s.cells.toArray 37)).alloc (.cells Step.zero.cells.toArray 37)) B q c rv tv (.slice a n cap) (Step.fold c s (rows.take 0)) rows) := hq ▸ fld_start h hs hr hB _ _ _
  have WF : Hid (∀ i, Step.Wf (Step.fold c s (rows.take i))) := fun i => fold_wf hs _
  clear h hs hr hB hn
  go_enter Try.func14, Try.ntmps14
  go_upto_region 0 with fail
  apply wp_region_lit
  refine op_val (w' := w.alloc (.cells (c.cells rv tv).toArray 28)) rfl (.pointer (some ⟨w.heap.size, 0, none⟩)) (by kernel_rfl) ?_
  simp only [Act.put, List.setIfInBounds_toArray, List.set_cons_succ, List.set_cons_zero]
  refine op_val (w' := (w.alloc (.cells (c.cells rv tv).toArray 28)).alloc (.cells s.cells.toArray 37)) rfl (.pointer (some ⟨(w.alloc (.cells (c.cells rv tv).toArray 28)).heap.size, 0, none⟩)) (by kernel_rfl) ?_
  simp only [Act.put, List.setIfInBounds_toArray, List.set_cons_succ, List.set_cons_zero]
  refine op_val (w' := ((w.alloc (.cells (c.cells rv tv).toArray 28)).alloc (.cells s.cells.toArray 37)).alloc (.cells Step.zero.cells.toArray 37)) rfl (.pointer (some ⟨((w.alloc (.cells (c.cells rv tv).toArray 28)).alloc (.cells s.cells.toArray 37)).heap.size, 0, none⟩)) (by kernel_rfl) ?_
  simp only [Act.put, List.setIfInBounds_toArray, List.set_cons_succ, List.set_cons_zero]
  refine wpList_nil ?_
  rw [show (w.alloc (.cells (c.cells rv tv).toArray 28)).heap.size = q + 1 by simp [hq], show ((w.alloc (.cells (c.cells rv tv).toArray 28)).alloc (.cells s.cells.toArray 37)).heap.size = q + 2 by simp [hq], hq]
  generalize ((w.alloc (.cells (c.cells rv tv).toArray 28)).alloc (.cells s.cells.toArray 37)).alloc (.cells Step.zero.cells.toArray 37) = w1 at *
  clear hq
  go_wp2_with fail
  go_loopg [11] (n + 1) (fun gk vi wr => ∃ i : Nat, vi = .int .i64 i ∧ i ≤ n ∧ n + 1 - i ≤ gk ∧ Hid (Fld w wr B q c rv tv (.slice a n cap) (Step.fold c s (rows.take i)) rows))
  case atStart => exact ⟨0, rfl, by omega, by omega, H0.out⟩
  case round =>
    clear H0
    obtain ⟨i, rfl, hi, hg, HH⟩ := hrel
    by_cases hlt : i < n
    · have z1 : (i : Int) < (n : Int) := by omega
      have z0 : (0 : Int) ≤ (i : Int) := by omega
      obtain ⟨row, hrow⟩ : ∃ row, rows[i]? = some row := ⟨_, List.getElem?_eq_getElem (by rw [HN.out]; exact hlt)⟩
      have NX : Hid (Step.fold c s (rows.take (i + 1)) = Step.step c (Step.fold c s (rows.take i)) row) := fold_take hrow
      obtain ⟨b, off, cap', hv, hbB, hbl, cs, ⟨rwv, rfl, RC⟩, -, hc⟩ := HH.out.rows.get hrow
      injection hv with e1 e2 e3
      subst e1 e3
      clear e2
      have RC : Hid (RdC B wr rwv row) := RC
      have cc : wr.cell? ⟨b, off + i, none⟩ = some rwv := by have := hc 0 (by omega); simpa using this
      obtain ⟨ra, rn, rc, hrv⟩ : ∃ a n c, rwv = .slice a n c := by obtain ⟨a, c, h, _⟩ := RC.out; exact ⟨_, _, _, h⟩
      subst hrv
      clear hc hbB hbl hrow
      obtain ⟨s1, hs1⟩ : ∃ s1, Step.fold c s (rows.take i) = s1 := ⟨_, rfl⟩
      have W1 : Hid (Step.Wf s1) := hs1 ▸ WF.out i
      rw [hs1] at HH NX
      clear hs1
      go_upto_region 4 with fail
      clear cc
      apply wp_region_lit
      refine opg_loadC (p := q) (by kernel_rfl) (.tmp 3) rfl (by kernel_rfl) HH.out.conf.blk.whole ?_
      simp only [Act.put, List.setIfInBounds_toArray, List.set_cons_succ, List.set_cons_zero]
      refine opg_loadS (p := q + 1) (off := 0) (by kernel_rfl) W1.out (.tmp 4) rfl (by kernel_rfl) HH.out.st.blk.whole ?_
      simp only [Act.put, List.setIfInBounds_toArray, List.set_cons_succ, List.set_cons_zero]
      refine op_val (w' := wr) rfl (.slice ra rn rc) (by kernel_rfl) ?_
      simp only [Act.put, List.setIfInBounds_toArray, List.set_cons_succ, List.set_cons_zero]
      refine op_call (F := 12) (args := #[c.v rv tv, s1.v, .slice ra rn rc]) (w1 := wr) rfl (by kernel_rfl) ?_
      refine (step_any c s1 HH.out.rd W1.out RC.out (by have := HH.out.le; have := HH.out.res.blk.lt; omega)).mono ?_
      rintro x w2 ⟨rfl, o2⟩
      refine ⟨_, rfl, ?_⟩
      simp only [Act.put, List.setIfInBounds_toArray, List.set_cons_succ, List.set_cons_zero]
      have H2 : Hid _ := HH.out.then o2
      clear HH o2 RC
      refine op_storeS (p := q + 1) (s := Step.step c s1 row) rfl H2.out.st (Step.step_wf W1.out row) (.tmp 4) (.tmp 18) rfl (by kernel_rfl) (by kernel_rfl) ?_
      intro w3 hb o3 hz
      have H3 : Hid (Fld w w3 B q c rv tv (.slice (some ⟨b, off, none⟩) n cap) (Step.fold c s (rows.take (i + 1))) rows) := by rw [NX.out]; exact H2.out.put o3 hb
      clear H2 hb o3 hz
      simp only [Act.put, List.setIfInBounds_toArray, List.set_cons_succ, List.set_cons_zero]
      refine wpList_nil ?_
      go_wp2_with fail
      go_roundg (n + 1 - (i + 1))
      case measure => omega
      case rel => exact ⟨i + 1, by go_num, by omega, by omega, H3.out⟩
    · have z1 : ¬ (i : Int) < (n : Int) := by omega
      have e : rows.take i = rows := List.take_of_length_le (by rw [HN.out]; omega)
      have W1 : Hid (Step.Wf (Step.fold c s rows)) := by have := WF.out i; rwa [e] at this
      have H1 : Hid (Fld w wr B q c rv tv (.slice a n cap) (Step.fold c s rows) rows) := by have := HH.out; rwa [e] at this
      clear e HH
      go_upto_region 6 with fail
      apply wp_region_lit
      refine opg_loadS (p := q + 1) (off := 0) (by kernel_rfl) W1.out (.tmp 4) rfl (by kernel_rfl) H1.out.st.blk.whole ?_
      simp only [Act.put, List.setIfInBounds_toArray, List.set_cons_succ, List.set_cons_zero]
      refine op_storeS (p := q + 2) rfl H1.out.res W1.out (.tmp 6) (.tmp 20) rfl (by kernel_rfl) (by kernel_rfl) ?_
      intro w6 hb o6 hz
      have H6 : Hid (Sb w6 (q + 2) (Step.fold c s rows) ∧ Only [] w w6) := ⟨hb, H1.out.only.then o6 (fun x hx hl => by have := H1.out.base; have h2 : x = q + 2 := (by simpa using hx); omega)⟩
      clear hb o6 hz H1
      refine wpList_nil ?_
      go_wp2_with fail
      exact bodyPost_ret (res_st H6.out.1 Try.results14 rfl) rfl ⟨rfl, H6.out.2⟩
end Go.Proofs.Ytngbannidbijmaa

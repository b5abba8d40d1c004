/- StepStays: whatever is pressed and whatever rules there are, the game stays right. For every raw config, raw rows, and rows of whatever cells; nothing is assumed of them. -/
import Derived.Test.YtngbannidbijmaaGStepLw
import Derived.Test.YtngbannidbijmaaStepMono
namespace Go.Proofs.Ytngbannidbijmaa.stepStays
open Go.ChangeShapes Go.WideShapes Go.ChangeAt Go.RowKit Go.Deep
set_option linter.unusedVariables false
set_option linter.unusedSimpArgs false

/-- rows of cells that came in, as slices to append -/
theorem rdx_rows {B : Nat} {w : World} {v : Value} {rr : List (List Cl)} (h : RdG 1 (rSlice 4 rCell) B w v rr) : ∃ ss : List Sl, ss.length = rr.length ∧ Rdx elR w v ss ∧ ∀ (i : Nat) (s : Sl) (row : List Cl), ss[i]? = some s → rr[i]? = some row → RdC B w s.v row := by
  have h0 := h
  obtain ⟨a, cap, rfl, h1, h2, h⟩ := h
  have key : ∀ i, i < rr.length → ∃ s : Sl, ∀ row, rr[i]? = some row → RdC B w s.v row ∧ ∀ b off, a = some ⟨b, off, none⟩ → w.cell? ⟨b, off + i, none⟩ = some s.v := fun i hi => by
    obtain ⟨b, off, cap', hv, _, _, cs, ⟨v, rfl, hr⟩, _, hc⟩ := h0.get (List.getElem?_eq_getElem hi)
    obtain ⟨ra, rc, rfl, _, _⟩ := hr.form
    injection hv with e1 e2 e3
    refine ⟨⟨ra, rr[i].length, rc⟩, fun row hrow => ?_⟩
    rw [List.getElem?_eq_getElem hi] at hrow
    injection hrow with hrow
    subst hrow
    refine ⟨rdc_of hr, fun b' off' e => ?_⟩
    rw [e1] at e
    injection e with e
    injection e with e4 e5
    subst e4 e5
    have := hc 0 (by omega)
    simpa using this
  have : Inhabited Sl := ⟨⟨none, 0, 0⟩⟩
  obtain ⟨F, hF⟩ := choose_lt (α := Sl) key
  have hl : ((List.range rr.length).map F).length = rr.length := by simp
  refine ⟨(List.range rr.length).map F, hl, ⟨a, cap, by rw [hl], by rw [hl]; exact h1, by unfold maxLen; omega, ?_⟩, fun i s row hs hrow => ?_⟩
  · rcases h with h | ⟨b, off, rfl, hB, hb, hc⟩
    · left; rw [h]; rfl
    · refine Or.inr ⟨b, off, rfl, hb, fun j u hj => ?_⟩
      have hj' := (List.getElem?_eq_some_iff.1 hj).1
      rw [elR_ok.flat_len, hl] at hj'
      have hj' : j < rr.length := by simpa [elR] using hj'
      have e := elR_ok.flat_get ((List.range rr.length).map F) j (F j) (by simp [hj']) 0 (by decide)
      rw [show j * elR.c + 0 = j by simp [elR]] at e
      rw [e] at hj
      have hj : some (F j).v = some u := hj
      rw [← hj]
      exact (hF j hj' _ (List.getElem?_eq_getElem hj')).2 b off rfl
  · have hi := (List.getElem?_eq_some_iff.1 hrow).1
    rw [List.getElem?_map, List.getElem?_range hi] at hs
    injection hs with hs
    subst hs
    exact (hF i hi row hrow).1
set_option maxRecDepth 100000 in
set_option maxHeartbeats 4000000 in
theorem walk (cs0 : List Value) (a0 : Rcf × List Op3) (s1 : Value) (a1 : List (List Int)) (s2 : Value) (a2 : List (List Cl)) (w : World) (w0 : rCfg w.heap.size w cs0 a0) (w1 : RdG 1 rInts w.heap.size w s1 a1) (w2 : RdG 1 (rSlice 4 rCell) w.heap.size w s2 a2) :
    Calls Try.prog 5 #[.agg cs0.toArray, s1, s2] w fun e w' => e = .returned (.bool true) ∧ Below w.heap.size w w' := by
  have hnot : ∀ (x : Bool) (w : World), (Op.unary .not (.bool x)).run Try.prog w = .ok (.bool (!x)) w := fun _ _ => rfl
  obtain ⟨r, l⟩ := a0
  obtain ⟨lv, hcs, hl, ok⟩ := w0
  dsimp only at hcs hl ok
  subst hcs
  obtain ⟨q, hq⟩ : ∃ q, w.heap.size = q := ⟨_, rfl⟩
  have H0 : Hid (Blk (w.alloc (.cells (r.cells lv).toArray 53)) q (r.cells lv) ∧ RdG 3 rOp q (w.alloc (.cells (r.cells lv).toArray 53)) lv l ∧ RdG 1 rInts q (w.alloc (.cells (r.cells lv).toArray 53)) s1 a1 ∧ RdG 1 (rSlice 4 rCell) q (w.alloc (.cells (r.cells lv).toArray 53)) s2 a2 ∧ Only [] w (w.alloc (.cells (r.cells lv).toArray 53))) :=
    ⟨hq ▸ Blk.new w _ _, (hq ▸ hl).only rOp_st ((Only.refl [] _).alloc _) (by simp), (hq ▸ w1).only rInts_st ((Only.refl [] _).alloc _) (by simp), (hq ▸ w2).only (rSlice_st rCell_st) ((Only.refl [] _).alloc _) (by simp), (Only.refl _ _).alloc _⟩
  have OK : Hid _ := ok
  have HQ : Hid (w.heap.size = q) := hq
  clear hl ok w1 w2
  rw [hq]
  go_enter Try.func5, Try.ntmps5
  go_upto_region 0 with fail
  apply wp_region_lit
  refine op_val (w' := w.alloc (.cells (r.cells lv).toArray 53)) rfl (.pointer (some ⟨w.heap.size, 0, none⟩)) (by kernel_rfl) ?_
  simp only [Act.put, List.setIfInBounds_toArray, List.set_cons_succ, List.set_cons_zero]
  refine op_val (w' := w.alloc (.cells (r.cells lv).toArray 53)) rfl (.bool false) (by kernel_rfl) ?_
  simp only [Act.put, List.setIfInBounds_toArray, List.set_cons_succ, List.set_cons_zero]
  refine wpList_nil ?_
  rw [hq]
  generalize w.alloc (.cells (r.cells lv).toArray 53) = W1 at *
  clear hq
  go_upto_region 1 with fail
  apply wp_region_lit
  refine opg_loads (by kernel_rfl) (cs := r.cells lv) (g := q) (off := 0) 53 (.tmp 3) rfl (by kernel_rfl) Try.underlying53 info_rc H0.out.1.whole ?_
  simp only [Act.put, List.setIfInBounds_toArray, List.set_cons_succ, List.set_cons_zero]
  refine op_call (F := 18) (args := #[r.v lv]) (w1 := W1) rfl (by kernel_rfl) ?_
  refine (hconfig_any OK.out H0.out.2.1 (by have := H0.out.1.lt; omega)).mono ?_
  rintro e W2 ⟨c, ra, rn, rc, ta, tn, tc, rfl, hleg, h5, RD, o⟩
  refine ⟨_, rfl, ?_⟩
  have LEG : Hid (Step.legal c = true) := hleg
  have H2 : Hid (RdG 1 rInts q W2 s1 a1 ∧ RdG 1 (rSlice 4 rCell) q W2 s2 a2 ∧ Only [] w W2 ∧ Rd W2.heap.size W2 c (.slice ra rn rc) (.slice ta tn tc) ∧ q < W2.heap.size) := ⟨H0.out.2.2.1.only rInts_st o (by simp), H0.out.2.2.2.1.only (rSlice_st rCell_st) o (by simp), H0.out.2.2.2.2.trans o, RD, by have := H0.out.1.lt; have := o.size; omega⟩
  clear H0 o RD hleg
  simp only [Act.put, List.setIfInBounds_toArray, List.set_cons_succ, List.set_cons_zero]
  refine op_val (w' := W2.alloc (.cells (Cf.zero.cells (.slice none 0 0) (.slice none 0 0)).toArray 28)) rfl (.pointer (some ⟨W2.heap.size, 0, none⟩)) (by kernel_rfl) ?_
  simp only [Act.put, List.setIfInBounds_toArray, List.set_cons_succ, List.set_cons_zero]
  obtain ⟨p, hp⟩ : ∃ p, W2.heap.size = p := ⟨_, rfl⟩
  rw [hp]
  refine op_storeCf (p := p) (c := c) (ra := ra) (rn := rn) (rc := rc) (ta := ta) (tn := tn) (tc := tc) rfl (cb_new hp _) (.tmp 7) (.tmp 14) rfl (by kernel_rfl) (by kernel_rfl) ?_
  intro W3 hb o3 hz
  have o23 : Only [] W2 W3 := ((Only.refl [] W2).alloc _).then o3 (fun x hx hl => by have h2 : x = p := (by simpa using hx); omega)
  have H3 : Hid (Cb W3 p c (.slice ra rn rc) (.slice ta tn tc) ∧ Rd p W3 c (.slice ra rn rc) (.slice ta tn tc) ∧ RdG 1 rInts q W3 s1 a1 ∧ RdG 1 (rSlice 4 rCell) q W3 s2 a2 ∧ Only [] w W3 ∧ w.heap.size ≤ p ∧ q < p) := by
    obtain ⟨k1, k2, k3, k4, k5⟩ := H2.out
    rw [hp] at k4 k5
    exact ⟨hb, k4.only o23 (by simp), k1.only rInts_st o23 (by simp), k2.only (rSlice_st rCell_st) o23 (by simp), k3.trans o23, by have := HQ.out; omega, k5⟩
  clear H2 hb o3 hz o23 hp
  simp only [Act.put, List.setIfInBounds_toArray, List.set_cons_succ, List.set_cons_zero]
  refine wpList_nil ?_
  obtain ⟨n, hn⟩ : ∃ n : Nat, c.pl = n := ⟨c.pl.toNat, by have := Step.legal_pl LEG.out; omega⟩
  have HN : Hid (c.pl = n ∧ n ≤ 8) := ⟨hn, by have := Step.legal_pl LEG.out; omega⟩
  clear hn
  have F0 : Hid (Step.Ok c (Step.first c) ∧ Step.Wf (Step.first c)) := ⟨Step.first_ok LEG.out, first_wf c⟩
  obtain ⟨s, hs⟩ : ∃ s, Step.first c = s := ⟨_, rfl⟩
  have HS : Hid (Step.first c = s) := hs
  have HF0 : Hid (s.fr = 0) := by rw [← hs]; exact Step.first_fr c
  rw [hs] at F0
  clear hs
  go_upto_region 2 with fail
  apply wp_region_lit
  refine opg_loadC (p := p) (by kernel_rfl) (.tmp 7) rfl (by kernel_rfl) H3.out.1.blk.whole ?_
  simp only [Act.put, List.setIfInBounds_toArray, List.set_cons_succ, List.set_cons_zero]
  refine op_call (F := 11) (args := #[c.v (.slice ra rn rc) (.slice ta tn tc)]) (w1 := W3) rfl (by kernel_rfl) ?_
  refine (first_any c H3.out.2.1 (Nat.le_of_lt H3.out.1.blk.lt)).mono ?_
  rintro e W5 ⟨rfl, o⟩
  refine ⟨_, rfl, ?_⟩
  rw [HS.out]
  have H5 : Hid (Cb W5 p c (.slice ra rn rc) (.slice ta tn tc) ∧ Rd p W5 c (.slice ra rn rc) (.slice ta tn tc) ∧ RdG 1 rInts q W5 s1 a1 ∧ RdG 1 (rSlice 4 rCell) q W5 s2 a2 ∧ Only [] w W5 ∧ w.heap.size ≤ p ∧ q < p) := by
    obtain ⟨k1, k2, k3, k4, k5, k6, k7⟩ := H3.out
    exact ⟨k1.only o (by simp), k2.only o (by simp), k3.only rInts_st o (by simp), k4.only (rSlice_st rCell_st) o (by simp), k5.trans o, k6, k7⟩
  clear H3 o HS
  simp only [Act.put, List.setIfInBounds_toArray, List.set_cons_succ, List.set_cons_zero]
  obtain ⟨xs, hxs⟩ : ∃ xs, W5.heap.size = xs := ⟨_, rfl⟩
  refine op_val (w' := W5.alloc (.cells Step.zero.cells.toArray 37)) rfl (.pointer (some ⟨W5.heap.size, 0, none⟩)) (by kernel_rfl) ?_
  simp only [Act.put, List.setIfInBounds_toArray, List.set_cons_succ, List.set_cons_zero]
  rw [hxs]
  refine op_storeS (p := xs) (s := s) rfl (sb_at hxs Step.zero_wf _) F0.out.2 (.tmp 8) (.tmp 16) rfl (by kernel_rfl) (by kernel_rfl) ?_
  intro W6 hb o6 hz
  have o56 : Only [] W5 W6 := ((Only.refl [] W5).alloc _).then o6 (fun x hx hl => by have h2 : x = xs := (by simpa using hx); omega)
  have H6 : Hid (Cb W6 p c (.slice ra rn rc) (.slice ta tn tc) ∧ Rd p W6 c (.slice ra rn rc) (.slice ta tn tc) ∧ RdG 1 rInts q W6 s1 a1 ∧ RdG 1 (rSlice 4 rCell) q W6 s2 a2 ∧ Only [] w W6 ∧ Sb W6 xs s) := by
    obtain ⟨k1, k2, k3, k4, k5, k6, k7⟩ := H5.out
    exact ⟨k1.only o56 (by simp), k2.only o56 (by simp), k3.only rInts_st o56 (by simp), k4.only (rSlice_st rCell_st) o56 (by simp), k5.trans o56, hb⟩
  have HP : Hid (w.heap.size ≤ p ∧ q < p ∧ p < xs) := ⟨H5.out.2.2.2.2.2.1, H5.out.2.2.2.2.2.2, hxs ▸ H5.out.1.blk.lt⟩
  clear H5 hb o6 hz hxs o56
  simp only [Act.put, List.setIfInBounds_toArray, List.set_cons_succ, List.set_cons_zero]
  refine wpList_nil ?_
  go_upto_region 3 with fail
  apply wp_region_lit
  refine op_call (F := 15) (args := #[]) (w1 := W6) rfl (by kernel_rfl) ?_
  refine (known_any W6).mono ?_
  rintro e W7 ⟨rfl, o⟩
  refine ⟨_, rfl, ?_⟩
  simp only [Act.put, List.setIfInBounds_toArray, List.set_cons_succ, List.set_cons_zero]
  refine op_val (w' := W7) rfl (.bool false) (by kernel_rfl) ?_
  simp only [Act.put, List.setIfInBounds_toArray, List.set_cons_succ, List.set_cons_zero]
  refine op_val (w' := W7) rfl (.bool false) (by kernel_rfl) ?_
  simp only [Act.put, List.setIfInBounds_toArray, List.set_cons_succ, List.set_cons_zero]
  have hcb7 := H6.out.1.only o (by simp)
  refine opg_loadC (p := p) (by kernel_rfl) (.tmp 7) rfl (by kernel_rfl) hcb7.blk.whole ?_
  simp only [Act.put, List.setIfInBounds_toArray, List.set_cons_succ, List.set_cons_zero]
  refine opg_call (F := 16) (args := #[c.v (.slice ra rn rc) (.slice ta tn tc)]) (w1 := W7) (by kernel_rfl) (by kernel_rfl) ?_
  refine (legal_any c (H6.out.2.1.only o (by simp))).mono ?_
  rintro e W8 ⟨rfl, o8⟩
  rw [LEG.out]
  refine ⟨_, rfl, ?_⟩
  simp only [Act.put, List.setIfInBounds_toArray, List.set_cons_succ, List.set_cons_zero]
  refine opg_val (w' := W8) (by kernel_rfl) (.bool false) (by kernel_rfl) ?_
  simp only [Act.put, List.setIfInBounds_toArray, List.set_cons_succ, List.set_cons_zero]
  refine op_val (w' := W8) rfl (.bool false) (by kernel_rfl) ?_
  simp only [Act.put, List.setIfInBounds_toArray, List.set_cons_succ, List.set_cons_zero]
  refine op_val (w' := W8) rfl (.bool false) (by kernel_rfl) ?_
  simp only [Act.put, List.setIfInBounds_toArray, List.set_cons_succ, List.set_cons_zero]
  have o68 := o.trans o8
  have hcb8 := H6.out.1.only o68 (by simp)
  refine opg_loadC (p := p) (by kernel_rfl) (.tmp 7) rfl (by kernel_rfl) hcb8.blk.whole ?_
  simp only [Act.put, List.setIfInBounds_toArray, List.set_cons_succ, List.set_cons_zero]
  refine opg_loadS (p := xs) (off := 0) (by kernel_rfl) F0.out.2 (.tmp 8) rfl (by kernel_rfl) (H6.out.2.2.2.2.2.only o68 (by simp)).blk.whole ?_
  simp only [Act.put, List.setIfInBounds_toArray, List.set_cons_succ, List.set_cons_zero]
  refine opg_call (F := 17) (args := #[c.v (.slice ra rn rc) (.slice ta tn tc), s.v]) (w1 := W8) (by kernel_rfl) (by kernel_rfl) ?_
  refine (sright_any c s (H6.out.2.1.only o68 (by simp)) F0.out.2).mono ?_
  rintro e W9 ⟨rfl, o9⟩
  rw [(Step.right_iff F0.out.2).2 F0.out.1]
  refine ⟨_, rfl, ?_⟩
  have o69 := o68.trans o9
  have H9 : Hid (Cb W9 p c (.slice ra rn rc) (.slice ta tn tc) ∧ Rd p W9 c (.slice ra rn rc) (.slice ta tn tc) ∧ RdG 1 rInts q W9 s1 a1 ∧ RdG 1 (rSlice 4 rCell) q W9 s2 a2 ∧ Only [] w W9 ∧ Sb W9 xs s) := by
    obtain ⟨k1, k2, k3, k4, k5, k6⟩ := H6.out
    exact ⟨k1.only o69 (by simp), k2.only o69 (by simp), k3.only rInts_st o69 (by simp), k4.only (rSlice_st rCell_st) o69 (by simp), k5.trans o69, k6.only o69 (by simp)⟩
  clear H6 o o8 o68 o9 o69 hcb7 hcb8
  simp only [Act.put, List.setIfInBounds_toArray, List.set_cons_succ, List.set_cons_zero]
  refine opg_val (w' := W9) (by kernel_rfl) (.bool false) (by kernel_rfl) ?_
  simp only [Act.put, List.setIfInBounds_toArray, List.set_cons_succ, List.set_cons_zero]
  refine op_val (w' := W9) rfl (.bool false) (by kernel_rfl) ?_
  simp only [Act.put, List.setIfInBounds_toArray, List.set_cons_succ, List.set_cons_zero]
  refine wpList_nil ?_
  go_upto_region 5 with fail
  obtain ⟨sa, sc, hsv, -, -⟩ := H9.out.2.2.2.1.form
  obtain ⟨m2, hm2⟩ : ∃ m2, a2.length = m2 := ⟨_, rfl⟩
  have HM2 : Hid (a2.length = m2) := hm2
  rw [hm2] at hsv
  subst hsv
  clear hm2
  obtain ⟨k2, hk2⟩ : ∃ k2 : Nat, (if (10 : Int) < (m2 : Int) then (10 : Int) else (m2 : Int)) = k2 := ⟨min m2 10, by split <;> omega⟩
  have HK2 : Hid ((if (10 : Int) < (m2 : Int) then (10 : Int) else (m2 : Int)) = k2 ∧ k2 ≤ m2 ∧ k2 ≤ 10) := ⟨hk2, by split at hk2 <;> omega, by split at hk2 <;> omega⟩
  have hk2m := HK2.out.2.1
  have hm2c : m2 ≤ sc := by obtain ⟨_, _, e, g, _⟩ := H9.out.2.2.2.1.form; injection e with _ _ e3; rw [HM2.out, ← e3] at g; exact g
  clear hk2
  have HV : Hid (∀ y, Only [] W9.drew y → Cb y p c (.slice ra rn rc) (.slice ta tn tc) ∧ RdG 1 rInts q y s1 a1 ∧ W9.heap.size ≤ y.heap.size) := fun y hy => by
    have o := (only_drew W9).trans hy
    exact ⟨H9.out.1.only o (by simp), H9.out.2.2.1.only rInts_st o (by simp), o.size⟩
  refine wp_region_free 9 (Only []) (Only.refl _) (Only.trans) [(1, s1), (2, .slice sa m2 sc), (7, .pointer (some ⟨p, 0, none⟩))] (by intro p hp; simp only [List.mem_cons, List.not_mem_nil, or_false] at hp; rcases hp with rfl | rfl | rfl <;> rfl) (by kernel_rfl) (by kernel_rfl) (by decide) (by kernel_rfl) (by kernel_rfl) ?_
  simp only [List.take_succ_cons, List.take_zero, List.drop_succ_cons, List.drop_zero]
  refine rf_val (.pointer (some ⟨p, 0, none⟩)) (by first | rfl | exact ⟨by kernel_rfl, rfl⟩) (fun zA v hT hf => ?_) ?_
  · skip
    simp at hf
    go_simp
    try rfl
  refine rf_val (.int .i64 n) (by first | rfl | exact ⟨by kernel_rfl, rfl⟩) (fun zA v hT hf => exec_int (a := ⟨p, 0, none⟩) (.tmp 30) rfl (by simp at hf; simp [Act.eval, hf]) (by rw [← HN.out.1]; exact (HV.out v hT).1.blk.cell 0)) ?_
  refine rf_val (s1) (by first | rfl | exact ⟨by kernel_rfl, rfl⟩) (fun zA v hT hf => ?_) ?_
  · skip
    simp at hf
    go_simp
    try rfl
  refine rf_eff (fun y v => ∃ y0 ov ss, v = ov ∧ W9.heap.size ≤ y0.heap.size ∧ Hrs y0 y q s1 ov a1 ss (hrows n a1)) (by first | rfl | exact ⟨by kernel_rfl, rfl⟩) (fun y y2 v hT h => ?_) (fun z2 y hT hf => ?_) ?_
  · obtain ⟨y0, ov, ss, h1, h2, h3⟩ := h
    exact ⟨y0, ov, ss, h1, h2, h3.then hT⟩
  · simp at hf
    go_simp
    refine (hrows_any n HN.out.2 (HV.out y hT).2.1 (by have := (HV.out y hT).1.blk.lt; have := HP.out; omega)).mono ?_
    rintro e y2 ⟨ov, ss, rfl, hr⟩
    exact ⟨_, rfl, ⟨y, (HV.out y hT).2.2, ss, hr⟩, hr.only⟩
  refine rf_val (.slice sa m2 sc) (by first | rfl | exact ⟨by kernel_rfl, rfl⟩) (fun zA v hT hf => ?_) ?_
  · skip
    simp at hf
    go_simp
    try rfl
  refine rf_val (.slice sa m2 sc) (by first | rfl | exact ⟨by kernel_rfl, rfl⟩) (fun zA v hT hf => ?_) ?_
  · skip
    simp at hf
    go_simp
    try rfl
  refine rf_val (.int .i64 m2) (by first | rfl | exact ⟨by kernel_rfl, rfl⟩) (fun zA v hT hf => exec_len (a := sa) (c := sc) (t := 47) (by kernel_rfl) (.tmp 35) rfl (by simp at hf; simp [Act.eval, hf])) ?_
  refine rf_val (.int .i64 k2) (by first | rfl | exact ⟨by kernel_rfl, rfl⟩) (fun zA v hT hf => by rw [← HK2.out.1]; exact exec_min (.tmp 36) (.const (.int .i64 10)) rfl (by simp at hf; simp [Act.eval, hf]) rfl) ?_
  refine rf_val (.slice sa k2 sc) (by first | rfl | exact ⟨by kernel_rfl, rfl⟩) (fun zA v hT hf => exec_to Try.underlying47 hs_row (len := m2) (by omega) (.tmp 34) (.tmp 37) rfl (by simp at hf; simp [Act.eval, hf]) (by simp at hf; simp [Act.eval, hf])) ?_
  intro W10 hy
  simp only [FinA, Sp.R, forall_eq]
  simp only [Act.put, List.setIfInBounds_toArray, List.set_cons_succ, List.set_cons_zero]
  rintro v33 ⟨y0, ov, ss, rfl, hy0, HR⟩
  have o910 := (only_drew W9).trans hy
  have H10 : Hid (Cb W10 p c (.slice ra rn rc) (.slice ta tn tc) ∧ Rd p W10 c (.slice ra rn rc) (.slice ta tn tc) ∧ RdG 1 (rSlice 4 rCell) q W10 (.slice sa m2 sc) a2 ∧ Only [] w W10 ∧ Sb W10 xs s) := by
    obtain ⟨k1, k2, k3, k4, k5, k6⟩ := H9.out
    exact ⟨k1.only o910 (by simp), k2.only o910 (by simp), k4.only (rSlice_st rCell_st) o910 (by simp), k5.trans o910, k6.only o910 (by simp)⟩
  have HR : Hid (Hrs y0 W10 q s1 v33 a1 ss (hrows n a1) ∧ W9.heap.size ≤ y0.heap.size ∧ xs < W9.heap.size ∧ w.heap.size ≤ W9.heap.size) := ⟨HR, hy0, H9.out.2.2.2.2.2.blk.lt, H9.out.2.2.2.2.1.size⟩
  clear HV hy o910 H9 hy0
  obtain ⟨sr, hsr1, hsr2, hsr3⟩ := rdx_rows (H10.out.2.2.1.to_ (k := k2) (by rw [HM2.out]; exact hk2m))
  have hhl : (hrows n a1).length ≤ 40 := by simp [hrows]; omega
  have hsl : sr.length ≤ 10 := by rw [hsr1, List.length_take]; have := HK2.out.2.2; omega
  refine app_g elR_ok rfl (.tmp 33) (.tmp 38) rfl (by kernel_rfl) (by kernel_rfl) HR.out.1.own hsr2 (by have := HR.out.1.len; omega) HR.out.1.only.size ?_
  intro v' W11 A
  obtain ⟨rows, hrows⟩ : ∃ rows, hrows n a1 ++ a2.take k2 = rows := ⟨_, rfl⟩
  obtain ⟨T, hT⟩ : ∃ T, W11.heap.size = T := ⟨_, rfl⟩
  have hA : ∀ x ∈ v33.ownBlock.toList, W9.heap.size ≤ x := fun x hx => by
    have := (HR.out.1.own.lt x (by simpa [Option.mem_toList] using hx)).1
    have := HR.out.2.1; omega
  have hlen : rows.length ≤ 50 := by rw [← hrows, List.length_append, List.length_take]; have := HK2.out.2.2; omega
  have H11 : Hid (Fs w W11 q xs T p c (.slice ra rn rc) (.slice ta tn tc) v' rows ∧ Sb W11 xs s) := by
    have hpp := HP.out
    have hxx := HR.out.2.2
    have h10 := H10.out.1.blk.lt
    have hsz := A.only.size
    have hrl : rows.length = (ss ++ sr).length := by rw [← hrows, List.length_append, List.length_append, HR.out.1.len, hsr1]
    refine ⟨⟨H10.out.1.only A.only (fun m => by have := hA _ m; omega), H10.out.2.1.only A.only (fun x hx => by have := hA x hx; omega), fun i row h2 => ?_, H10.out.2.2.2.1.then A.only (fun x hx hl => by have := hA x hx; omega), hpp.1, hpp.2.1, hpp.2.2, by have := H10.out.2.2.2.2.blk.lt; omega, by omega⟩, H10.out.2.2.2.2.only A.only (fun m => by have := hA _ m; omega)⟩
    have hi : i < (ss ++ sr).length := by rw [← hrl]; exact (List.getElem?_eq_some_iff.1 h2).1
    obtain ⟨a', cap', hv', _, _, hc⟩ := A.row.rd
    rcases hc with hc | ⟨b, off, rfl, hb, hc⟩
    · rw [hc] at hi; simp at hi
    have hbx := (A.row.lt b (by rw [hv']; rfl)).1
    have h1 : (ss ++ sr)[i]? = some (ss ++ sr)[i] := List.getElem?_eq_getElem hi
    have hcell := hc (i * 1 + 0) _ (elR_ok.flat_get (ss ++ sr) i _ h1 0 (by decide))
    obtain ⟨s', hs'⟩ : ∃ s', (ss ++ sr)[i] = s' := ⟨_, rfl⟩
    rw [hs'] at h1 hcell
    refine ⟨b, off, cap', s'.a, s'.n, s'.cap, by rw [hv', hrl], by have := HR.out.2.1; omega, by omega, by simpa using hcell, ?_⟩
    rw [← hrows] at h2
    rcases Nat.lt_or_ge i ss.length with hi | hi
    · rw [List.getElem?_append_left hi] at h1
      rw [List.getElem?_append_left (by rw [← HR.out.1.len]; exact hi)] at h2
      obtain ⟨g, k1, k2, k3, k4⟩ := HR.out.1.each i s' row h1 h2
      have k2' := k2.only A.only (fun hm => k3 (by simpa [Option.mem_toList] using hm))
      subst k1
      refine Or.inr ⟨g, rfl, fun e => ?_, by have := k2'.lt; omega, k4, k2'⟩
      subst e
      have e1 := H10.out.2.2.2.2.blk
      obtain ⟨t1, e1⟩ := e1
      obtain ⟨t2, e2⟩ := k2
      rw [e1] at e2
      injection e2 with e2
      injection e2 with e2
      have e3 := congrArg List.length (List.toArray_inj e2)
      rw [Gs.len H10.out.2.2.2.2.wf, elC_ok.flat_len] at e3
      have : elC.c = 4 := rfl
      rw [this] at e3
      omega
    · rw [List.getElem?_append_right hi] at h1
      rw [List.getElem?_append_right (by rw [← HR.out.1.len]; exact hi), ← HR.out.1.len] at h2
      exact Or.inl ((hsr3 _ s' row h1 h2).only A.only (fun x hx => by have := hA x hx; omega))
  obtain ⟨oa, oc, hov, -, -⟩ := A.row.form
  rw [show (ss ++ sr).length = rows.length by rw [← hrows, List.length_append, List.length_append, HR.out.1.len, hsr1]] at hov
  obtain ⟨m, hm⟩ : ∃ m, rows.length = m := ⟨_, rfl⟩
  have HMM : Hid (rows.length = m) := hm
  rw [hm] at hov hlen
  subst hov
  clear A HR H10 hsr1 hsr2 hsr3 hhl hsl hA hrows hT hm
  simp only [Act.put, List.setIfInBounds_toArray, List.set_cons_succ, List.set_cons_zero]
  refine op_val (w' := W11) rfl (.slice oa m oc) (by kernel_rfl) ?_
  simp only [Act.put, List.setIfInBounds_toArray, List.set_cons_succ, List.set_cons_zero]
  refine wpList_nil ?_
  have S0 : Hid (Step.Ok c s ∧ s.fr = ((0 : Nat) : Int)) := ⟨F0.out.1, HF0.out⟩
  clear F0 HF0
  have H12 : Hid (∃ s', Fs w W11 q xs T p c (.slice ra rn rc) (.slice ta tn tc) (.slice oa m oc) rows ∧ Sb W11 xs s' ∧ xs < T ∧ Step.Ok c s' ∧ s'.fr = ((0 : Nat) : Int)) := ⟨s, H11.out.1, H11.out.2, H11.out.1.xT, S0.out⟩
  clear H11 S0
  go_wp2_with fail
  go_loopg [10, 11, 12, 42] (m + 1) (fun gk v10 v11 v12 vi wr => ∃ i : Nat, vi = .int .i64 i ∧ i ≤ m ∧ m + 1 - i ≤ gk ∧ Hid (∃ s', Fs w wr q xs T p c (.slice ra rn rc) (.slice ta tn tc) (.slice oa m oc) rows ∧ Sb wr xs s' ∧ xs < T ∧ Step.Ok c s' ∧ s'.fr = (i : Int)))
  case atStart => exact ⟨0, rfl, by omega, by omega, H12.out⟩
  case round =>
    clear H12
    obtain ⟨i, rfl, hi, hgk, HH⟩ := hrel
    obtain ⟨s', HH⟩ := HH.out
    have HH : Hid _ := HH
    by_cases hl : i < m
    · have z1 : (i : Int) < (m : Int) := by omega
      obtain ⟨row, hrow⟩ : ∃ row, rows[i]? = some row := ⟨_, List.getElem?_eq_getElem (by rw [HMM.out]; exact hl)⟩
      obtain ⟨b, off, cap', xa, xn, xc, hv, hcell, hRC, hbT⟩ := HH.out.1.row hrow
      injection hv with e1 e2 e3
      subst e1 e3
      clear e2 hrow
      have W1 : Hid (Step.Wf s') := HH.out.2.1.wf
      have CR : Hid (wr.cell? ⟨b, off + i, none⟩ = some (.slice xa xn xc) ∧ RdC T wr (.slice xa xn xc) row ∧ b < wr.heap.size) := ⟨hcell, hRC, by have := HH.out.1.sz; omega⟩
      clear hcell hRC hbT
      obtain ⟨t, ht⟩ : ∃ t, Step.step c s' row = t := ⟨_, rfl⟩
      have ST : Hid (Step.step c s' row = t ∧ Step.Ok c t ∧ t.fr = s'.fr + 1 ∧ Step.Wf t ∧ ∀ j : Nat, (j : Int) < c.pl → s'.sc.getD j 0 ≤ t.sc.getD j 0 ∧ (s'.bs.getD j Body.zero).f ≤ (t.bs.getD j Body.zero).f) := by
        have h1 := HH.out.2.2.2.1.step row
        have h2 := fun j hj => Step.step_mono HH.out.2.2.2.1 row (j := j) hj
        rw [ht] at h1 h2
        refine ⟨ht, h1.1, ?_, ⟨h1.1.b.len, h1.1.s.len⟩, h2⟩
        rw [h1.2, if_pos]
        rw [HH.out.2.2.2.2]; omega
      clear ht
      go_upto_region 9 with fail
      have HV : Hid (∀ y, Only [] wr.drew y → Fs w y q xs T p c (.slice ra rn rc) (.slice ta tn tc) (.slice (some ⟨b, off, none⟩) m oc) rows ∧ Sb y xs s' ∧ y.cell? ⟨b, off + i, none⟩ = some (.slice xa xn xc) ∧ RdC T y (.slice xa xn xc) row) := fun y hy => by
        have o := (only_drew wr).trans hy
        exact ⟨HH.out.1.then o, HH.out.2.1.only o (by simp), (o.cell (p := ⟨b, off + i, none⟩) CR.out.2.2 (by simp)).trans CR.out.1, CR.out.2.1.only o (by simp)⟩
      refine wp_region_free 8 (Only []) (Only.refl _) (Only.trans) [(7, .pointer (some ⟨p, 0, none⟩)), (8, .pointer (some ⟨xs, 0, none⟩)), (9, .slice (some ⟨b, off, none⟩) m oc), (10, .int .i64 i)] (by intro p hp; simp only [List.mem_cons, List.not_mem_nil, or_false] at hp; rcases hp with rfl | rfl | rfl | rfl <;> rfl) (by kernel_rfl) (by kernel_rfl) (by decide) (by kernel_rfl) (by kernel_rfl) ?_
      simp only [List.take_succ_cons, List.take_zero, List.drop_succ_cons, List.drop_zero]
      refine rf_val (c.v (.slice ra rn rc) (.slice ta tn tc)) (by first | rfl | exact ⟨by kernel_rfl, rfl⟩) (fun zA v hT hf => exec_ldCf (HV.out v hT).1.conf (.tmp 7) rfl (by simp at hf; simp [Act.eval, hf])) ?_
      refine rf_val (s'.v) (by first | rfl | exact ⟨by kernel_rfl, rfl⟩) (fun zA v hT hf => exec_ldS (p := xs) (off := 0) W1.out (.tmp 8) rfl (by simp at hf; simp [Act.eval, hf]) (HV.out v hT).2.1.blk.whole) ?_
      refine rf_val (.slice (some ⟨b, off, none⟩) m oc) (by first | rfl | exact ⟨by kernel_rfl, rfl⟩) (fun zA v hT hf => ?_) ?_
      · skip
        simp at hf
        go_simp
        try rfl
      refine rf_val (.int .i64 i) (by first | rfl | exact ⟨by kernel_rfl, rfl⟩) (fun zA v hT hf => ?_) ?_
      · skip
        simp at hf
        go_simp
        try rfl
      refine rf_val (.pointer (some ⟨b, off + i, none⟩)) (by first | rfl | exact ⟨by kernel_rfl, rfl⟩) (fun zA v hT hf => exec_atRs (cap := oc) hl (.tmp 47) (.tmp 48) rfl (by simp at hf; simp [Act.eval, hf]) (by simp at hf; simp [Act.eval, hf])) ?_
      refine rf_val (.slice xa xn xc) (by first | rfl | exact ⟨by kernel_rfl, rfl⟩) (fun zA v hT hf => exec_ldC (a := ⟨b, off + i, none⟩) (.tmp 49) rfl (by simp at hf; simp [Act.eval, hf]) (HV.out v hT).2.2.1) ?_
      refine rf_eff (fun _ v => v = t.v) (by first | rfl | exact ⟨by kernel_rfl, rfl⟩) (fun _ _ _ _ h => h) (fun z2 y hT hf => ?_) ?_
      · simp at hf
        go_simp
        refine (step_any c s' (HV.out y hT).1.rdT W1.out (HV.out y hT).2.2.2 (HV.out y hT).1.sz).mono ?_
        rw [ST.out.1]
        rintro e y2 ⟨rfl, o⟩
        exact ⟨_, rfl, rfl, o⟩
      refine rf_eff (fun y v => ∃ g, v = .pointer (some ⟨g, 0, none⟩) ∧ Sb y g Step.zero ∧ T ≤ g) (by first | rfl | exact ⟨by kernel_rfl, rfl⟩) (fun y y2 v hT h => ?_) (fun z2 y hT hf => ?_) ?_
      · obtain ⟨g, h1, h2, h3⟩ := h
        exact ⟨g, h1, h2.only hT (by simp), h3⟩
      · exact ⟨⟨_, rfl, sb_at (w := y) rfl Step.zero_wf 37, (HV.out y hT).1.sz⟩, trivial, (Only.refl _ _).alloc _⟩
      intro w6 hy
      simp only [FinA, Sp.R, forall_eq]
      simp only [Act.put, List.setIfInBounds_toArray, List.set_cons_succ, List.set_cons_zero]
      rintro v11 ⟨xt, rfl, hxt, hxtT⟩
      have H6 : Hid _ := HV.out w6 hy
      have HX : Hid (xs < T ∧ T ≤ xt ∧ Step.Ok c s' ∧ s'.fr = (i : Int)) := ⟨HH.out.2.2.1, hxtT, HH.out.2.2.2⟩
      clear HV hy CR HH hxtT
      refine op_storeS (p := xt) (s := t) rfl hxt ST.out.2.2.2.1 (.tmp 11) (.tmp 51) rfl (by kernel_rfl) (by kernel_rfl) ?_
      intro w7 hb o7 hz
      have H7 : Hid (Fs w w7 q xs T p c (.slice ra rn rc) (.slice ta tn tc) (.slice (some ⟨b, off, none⟩) m oc) rows ∧ Sb w7 xs s' ∧ Sb w7 xt t) := ⟨H6.out.1.off o7 (fun x hx => by have h2 : x = xt := (by simpa using hx); have := HX.out; right; omega), H6.out.2.1.only o7 (by have := HX.out; simp; omega), hb⟩
      clear hb o7 hz H6 hxt
      simp only [Act.put, List.setIfInBounds_toArray, List.set_cons_succ, List.set_cons_zero]
      refine wpList_nil ?_
      go_upto_region 10 with fail
      apply wp_region_lit
      refine opg_loadC (p := p) (by kernel_rfl) (.tmp 7) rfl (by kernel_rfl) H7.out.1.conf.blk.whole ?_
      simp only [Act.put, List.setIfInBounds_toArray, List.set_cons_succ, List.set_cons_zero]
      refine opg_loadS (p := xt) (off := 0) (by kernel_rfl) ST.out.2.2.2.1 (.tmp 11) rfl (by kernel_rfl) H7.out.2.2.blk.whole ?_
      simp only [Act.put, List.setIfInBounds_toArray, List.set_cons_succ, List.set_cons_zero]
      refine op_call (F := 17) (args := #[c.v (.slice ra rn rc) (.slice ta tn tc), t.v]) (w1 := w7) rfl (by kernel_rfl) ?_
      refine (sright_any c t H7.out.1.rd ST.out.2.2.2.1).mono ?_
      rintro e w8 ⟨rfl, o8⟩
      rw [(Step.right_iff ST.out.2.2.2.1).2 ST.out.2.1]
      refine ⟨_, rfl, ?_⟩
      have H8 : Hid (Fs w w8 q xs T p c (.slice ra rn rc) (.slice ta tn tc) (.slice (some ⟨b, off, none⟩) m oc) rows ∧ Sb w8 xs s' ∧ Sb w8 xt t) := ⟨H7.out.1.then o8, H7.out.2.1.only o8 (by simp), H7.out.2.2.only o8 (by simp)⟩
      clear H7 o8
      simp only [Act.put, List.setIfInBounds_toArray, List.set_cons_succ, List.set_cons_zero]
      refine op_val (w' := w8) rfl (.bool false) (by kernel_rfl) ?_
      simp only [Act.put, List.setIfInBounds_toArray, List.set_cons_succ, List.set_cons_zero]
      refine op_val (w' := w8) rfl (.bool false) (by kernel_rfl) ?_
      simp only [Act.put, List.setIfInBounds_toArray, List.set_cons_succ, List.set_cons_zero]
      refine opg_val (w' := w8) (by kernel_rfl) (.pointer (some ⟨xt, 0, none⟩)) (by kernel_rfl) ?_
      simp only [Act.put, List.setIfInBounds_toArray, List.set_cons_succ, List.set_cons_zero]
      refine opg_val (w' := w8) (by kernel_rfl) (.int .i64 ((i : Int) + 1)) (exec_int (a := ⟨xt, 0, none⟩) (.tmp 57) rfl (by kernel_rfl) (by rw [← HX.out.2.2.2, ← ST.out.2.2.1]; exact H8.out.2.2.blk.cell 0)) ?_
      simp only [Act.put, List.setIfInBounds_toArray, List.set_cons_succ, List.set_cons_zero]
      refine opg_val (w' := w8) (by kernel_rfl) (.pointer (some ⟨xs, 0, none⟩)) (by kernel_rfl) ?_
      simp only [Act.put, List.setIfInBounds_toArray, List.set_cons_succ, List.set_cons_zero]
      refine opg_val (w' := w8) (by kernel_rfl) (.int .i64 i) (exec_int (a := ⟨xs, 0, none⟩) (.tmp 59) rfl (by kernel_rfl) (by rw [← HX.out.2.2.2]; exact H8.out.2.1.blk.cell 0)) ?_
      simp only [Act.put, List.setIfInBounds_toArray, List.set_cons_succ, List.set_cons_zero]
      have hwr : IntKind.i64.wrap ((i : Int) + 1) = (i : Int) + 1 := IntWalk.i64_in _ (by omega)
      refine opg_val (w' := w8) (by kernel_rfl) (.int .i64 ((i : Int) + 1)) (by simp only [execOp]; go_simp) ?_
      simp only [Act.put, List.setIfInBounds_toArray, List.set_cons_succ, List.set_cons_zero]
      refine opg_val (w' := w8) (by kernel_rfl) (.bool false) (by simp only [execOp]; go_simp) ?_
      simp only [Act.put, List.setIfInBounds_toArray, List.set_cons_succ, List.set_cons_zero]
      clear hwr
      refine op_val (w' := w8) rfl (.bool false) (by kernel_rfl) ?_
      simp only [Act.put, List.setIfInBounds_toArray, List.set_cons_succ, List.set_cons_zero]
      refine wpList_nil ?_
      generalize w8 = W8 at *
      go_wp2_with fail
      go_loopg [12] (n + 1) (fun gk vk wk => ∃ k : Nat, vk = .int .i64 k ∧ k ≤ n ∧ n + 1 - k ≤ gk ∧ Hid (Fs w wk q xs T p c (.slice ra rn rc) (.slice ta tn tc) (.slice (some ⟨b, off, none⟩) m oc) rows ∧ Sb wk xs s' ∧ Sb wk xt t))
      case atStart => exact ⟨0, rfl, by omega, by omega, H8.out⟩
      case round =>
        clear H8
        obtain ⟨k, rfl, hkn, hgk2, HI⟩ := hrel
        have cn : wr.cell? ⟨p, 0, none⟩ = some (.int .i64 n) := by rw [← HN.out.1]; exact HI.out.1.conf.blk.cell 0
        by_cases hk : k < n
        · have z2 : (k : Int) < (n : Int) := by omega
          have hk8 : k < 8 := by have := HN.out.2; omega
          have hk16 : k < 16 := by omega
          obtain ⟨sc1, hsc1⟩ : ∃ x, s'.sc.getD k 0 = x := ⟨_, rfl⟩
          obtain ⟨sc2, hsc2⟩ : ∃ x, t.sc.getD k 0 = x := ⟨_, rfl⟩
          obtain ⟨f1, hf1⟩ : ∃ x, (s'.bs.getD k Body.zero).f = x := ⟨_, rfl⟩
          obtain ⟨bt, hbt⟩ : ∃ x, t.bs.getD k Body.zero = x := ⟨_, rfl⟩
          obtain ⟨f2, hf2⟩ : ∃ x, bt.f = x := ⟨_, rfl⟩
          have hmono := ST.out.2.2.2.2 k (by rw [HN.out.1]; omega)
          rw [hsc1, hsc2, hf1, hbt, hf2] at hmono
          have n1 : ¬ sc2 < sc1 := by omega
          have n2 : ¬ f2 < f1 := by omega
          have HB : Hid (s'.sc.getD k 0 = sc1 ∧ t.sc.getD k 0 = sc2 ∧ (s'.bs.getD k Body.zero).f = f1 ∧ t.bs.getD k Body.zero = bt ∧ bt.f = f2) := ⟨hsc1, hsc2, hf1, hbt, hf2⟩
          have BR : Hid ((bt == Body.zero || Body.some bt) = true) := by
            have := (ST.out.2.1.b.all k hk16).right
            rw [hbt] at this
            show _ = _
            rcases this with h | h
            · rw [h]; rfl
            · rw [h]; simp
          clear hmono hsc1 hsc2 hf1 hbt hf2
          go_upto_region 15 with fail
          clear cn
          have HV : Hid (∀ y, Only [] wr.drew y → Fs w y q xs T p c (.slice ra rn rc) (.slice ta tn tc) (.slice (some ⟨b, off, none⟩) m oc) rows ∧ Sb y xs s' ∧ Sb y xt t) := fun y hy => by
            have o := (only_drew wr).trans hy
            exact ⟨HI.out.1.then o, HI.out.2.1.only o (by simp), HI.out.2.2.only o (by simp)⟩
          clear HI
          refine wp_region_free 30 (Only []) (Only.refl _) (Only.trans) [(8, .pointer (some ⟨xs, 0, none⟩)), (11, .pointer (some ⟨xt, 0, none⟩)), (12, .int .i64 k)] (by intro p hp; simp only [List.mem_cons, List.not_mem_nil, or_false] at hp; rcases hp with rfl | rfl | rfl <;> rfl) (by kernel_rfl) (by kernel_rfl) (by decide) (by kernel_rfl) (by kernel_rfl) ?_
          simp only [List.take_succ_cons, List.take_zero, List.drop_succ_cons, List.drop_zero]
          refine rf_val (.int .i64 k) (by first | rfl | exact ⟨by kernel_rfl, rfl⟩) (fun zA v hT hf => ?_) ?_
          · skip
            simp at hf
            go_simp
            try rfl
          refine rf_val (.pointer (some ⟨xt, 194, none⟩)) (by first | rfl | exact ⟨by kernel_rfl, rfl⟩) (fun zA v hT hf => ?_) ?_
          · skip
            simp at hf
            go_simp
            try rfl
          refine rf_val (.pointer (some ⟨xt, 194 + k, none⟩)) (by first | rfl | exact ⟨by kernel_rfl, rfl⟩) (fun zA v hT hf => exec_atS hk8 (.tmp 71) (.tmp 70) rfl (by simp at hf; simp [Act.eval, hf]) (by simp at hf; simp [Act.eval, hf])) ?_
          refine rf_val (.int .i64 sc2) (by first | rfl | exact ⟨by kernel_rfl, rfl⟩) (fun zA v hT hf => exec_int (a := ⟨xt, 194 + k, none⟩) (.tmp 72) rfl (by simp at hf; simp [Act.eval, hf]) (by rw [(HV.out v hT).2.2.blk.cell, t.get_score ST.out.2.2.2.1 hk8, HB.out.2.1])) ?_
          refine rf_val (.int .i64 k) (by first | rfl | exact ⟨by kernel_rfl, rfl⟩) (fun zA v hT hf => ?_) ?_
          · skip
            simp at hf
            go_simp
            try rfl
          refine rf_val (.pointer (some ⟨xs, 194, none⟩)) (by first | rfl | exact ⟨by kernel_rfl, rfl⟩) (fun zA v hT hf => ?_) ?_
          · skip
            simp at hf
            go_simp
            try rfl
          refine rf_val (.pointer (some ⟨xs, 194 + k, none⟩)) (by first | rfl | exact ⟨by kernel_rfl, rfl⟩) (fun zA v hT hf => exec_atS hk8 (.tmp 75) (.tmp 74) rfl (by simp at hf; simp [Act.eval, hf]) (by simp at hf; simp [Act.eval, hf])) ?_
          refine rf_val (.int .i64 sc1) (by first | rfl | exact ⟨by kernel_rfl, rfl⟩) (fun zA v hT hf => exec_int (a := ⟨xs, 194 + k, none⟩) (.tmp 76) rfl (by simp at hf; simp [Act.eval, hf]) (by rw [(HV.out v hT).2.1.blk.cell, s'.get_score W1.out hk8, HB.out.1])) ?_
          refine rf_val (.bool false) (by first | rfl | exact ⟨by kernel_rfl, rfl⟩) (fun zA v hT hf => ?_) ?_
          · skip
            simp at hf
            go_simp
            try rfl
          refine rf_val (.bool false) (by first | rfl | exact ⟨by kernel_rfl, rfl⟩) (fun zA v hT hf => ?_) ?_
          · skip
            simp at hf
            go_simp
            try rfl
          refine rf_val (.int .i64 k) (by first | rfl | exact ⟨by kernel_rfl, rfl⟩) (fun zA v hT hf => ?_) ?_
          · skip
            simp at hf
            go_simp
            try rfl
          refine rf_val (.pointer (some ⟨xt, 2, none⟩)) (by first | rfl | exact ⟨by kernel_rfl, rfl⟩) (fun zA v hT hf => ?_) ?_
          · skip
            simp at hf
            go_simp
            try rfl
          refine rf_val (.pointer (some ⟨xt, 2 + k * 12, none⟩)) (by first | rfl | exact ⟨by kernel_rfl, rfl⟩) (fun zA v hT hf => exec_at hk16 (.tmp 81) (.tmp 80) rfl (by simp at hf; simp [Act.eval, hf]) (by simp at hf; simp [Act.eval, hf])) ?_
          refine rf_val (.pointer (some ⟨xt, 2 + k * 12 + 11, none⟩)) (by first | rfl | exact ⟨by kernel_rfl, rfl⟩) (fun zA v hT hf => ?_) ?_
          · skip
            simp at hf
            go_simp
            try rfl
          refine rf_val (.int .i64 f2) (by first | rfl | exact ⟨by kernel_rfl, rfl⟩) (fun zA v hT hf => exec_int (a := ⟨xt, 2 + k * 12 + 11, none⟩) (.tmp 83) rfl (by simp at hf; simp [Act.eval, hf]) ((HV.out v hT).2.2.body hk16 11 _ (by rw [HB.out.2.2.2.1, ← HB.out.2.2.2.2]; rfl))) ?_
          refine rf_val (.int .i64 k) (by first | rfl | exact ⟨by kernel_rfl, rfl⟩) (fun zA v hT hf => ?_) ?_
          · skip
            simp at hf
            go_simp
            try rfl
          refine rf_val (.pointer (some ⟨xs, 2, none⟩)) (by first | rfl | exact ⟨by kernel_rfl, rfl⟩) (fun zA v hT hf => ?_) ?_
          · skip
            simp at hf
            go_simp
            try rfl
          refine rf_val (.pointer (some ⟨xs, 2 + k * 12, none⟩)) (by first | rfl | exact ⟨by kernel_rfl, rfl⟩) (fun zA v hT hf => exec_at hk16 (.tmp 86) (.tmp 85) rfl (by simp at hf; simp [Act.eval, hf]) (by simp at hf; simp [Act.eval, hf])) ?_
          refine rf_val (.pointer (some ⟨xs, 2 + k * 12 + 11, none⟩)) (by first | rfl | exact ⟨by kernel_rfl, rfl⟩) (fun zA v hT hf => ?_) ?_
          · skip
            simp at hf
            go_simp
            try rfl
          refine rf_val (.int .i64 f1) (by first | rfl | exact ⟨by kernel_rfl, rfl⟩) (fun zA v hT hf => exec_int (a := ⟨xs, 2 + k * 12 + 11, none⟩) (.tmp 88) rfl (by simp at hf; simp [Act.eval, hf]) ((HV.out v hT).2.1.body hk16 11 _ (by rw [← HB.out.2.2.1]; rfl))) ?_
          refine rf_val (.bool false) (by first | rfl | exact ⟨by kernel_rfl, rfl⟩) (fun zA v hT hf => ?_) ?_
          · skip
            simp at hf
            go_simp
            try rfl
          refine rf_val (.bool false) (by first | rfl | exact ⟨by kernel_rfl, rfl⟩) (fun zA v hT hf => ?_) ?_
          · skip
            simp at hf
            go_simp
            try rfl
          refine rf_val (.bool false) (by first | rfl | exact ⟨by kernel_rfl, rfl⟩) (fun zA v hT hf => ?_) ?_
          · skip
            simp at hf
            go_simp
            try rfl
          refine rf_val (.int .i64 k) (by first | rfl | exact ⟨by kernel_rfl, rfl⟩) (fun zA v hT hf => ?_) ?_
          · skip
            simp at hf
            go_simp
            try rfl
          refine rf_val (.pointer (some ⟨xt, 2, none⟩)) (by first | rfl | exact ⟨by kernel_rfl, rfl⟩) (fun zA v hT hf => ?_) ?_
          · skip
            simp at hf
            go_simp
            try rfl
          refine rf_val (.pointer (some ⟨xt, 2 + k * 12, none⟩)) (by first | rfl | exact ⟨by kernel_rfl, rfl⟩) (fun zA v hT hf => exec_at hk16 (.tmp 94) (.tmp 93) rfl (by simp at hf; simp [Act.eval, hf]) (by simp at hf; simp [Act.eval, hf])) ?_
          refine rf_val (bt.v) (by first | rfl | exact ⟨by kernel_rfl, rfl⟩) (fun zA v hT hf => exec_loads (cs := bt.cells) (g := xt) (off := 2 + k * 12) 33 (.tmp 95) rfl (by simp at hf; simp [Act.eval, hf]) Try.underlying33 info_bd (by rw [← HB.out.2.2.2.1]; exact (HV.out v hT).2.2.body hk16)) ?_
          refine rf_eff (fun _ v => v = .bool true) (by first | rfl | exact ⟨by kernel_rfl, rfl⟩) (fun _ _ _ _ h => h) (fun z2 y hT hf => ?_) ?_
          · simp at hf
            go_simp
            refine (right_any bt y).mono ?_
            rw [BR.out]
            rintro e y2 ⟨rfl, o⟩
            exact ⟨_, rfl, rfl, o⟩
          refine rf_val (.bool false) (by first | rfl | exact ⟨by kernel_rfl, rfl⟩) (fun zA v hT hf => ?_) ?_
          · skip
            simp at hf
            go_simp
            try rfl
          refine rf_val (.bool false) (by first | rfl | exact ⟨by kernel_rfl, rfl⟩) (fun zA v hT hf => ?_) ?_
          · skip
            simp at hf
            go_simp
            try rfl
          intro w9 hy
          simp only [FinA, Sp.R, forall_eq]
          simp only [Act.put, List.setIfInBounds_toArray, List.set_cons_succ, List.set_cons_zero]
          have H9 : Hid _ := HV.out w9 hy
          clear HV hy n1 n2
          try refine wpList_nil ?_
          go_wp2_with fail
          go_roundg (n + 1 - (k + 1))
          case measure => omega
          case rel => exact ⟨k + 1, by go_num, by omega, by omega, H9.out⟩
        · have z2 : ¬ (k : Int) < (n : Int) := by omega
          go_upto_region 17 with fail
          clear cn
          apply wp_region_lit
          refine opg_loadS (p := xt) (off := 0) (by kernel_rfl) ST.out.2.2.2.1 (.tmp 11) rfl (by kernel_rfl) HI.out.2.2.blk.whole ?_
          simp only [Act.put, List.setIfInBounds_toArray, List.set_cons_succ, List.set_cons_zero]
          refine op_storeS (p := xs) (s := t) rfl HI.out.2.1 ST.out.2.2.2.1 (.tmp 8) (.tmp 100) rfl (by kernel_rfl) (by kernel_rfl) ?_
          intro w9 hb o9 hz
          have H9 : Hid (∃ s', Fs w w9 q xs T p c (.slice ra rn rc) (.slice ta tn tc) (.slice (some ⟨b, off, none⟩) m oc) rows ∧ Sb w9 xs s' ∧ xs < T ∧ Step.Ok c s' ∧ s'.fr = ((i + 1 : Nat) : Int)) := ⟨t, HI.out.1.off o9 (fun x hx => by have h2 : x = xs := (by simpa using hx); exact Or.inl h2), hb, HX.out.1, ST.out.2.1, by rw [ST.out.2.2.1, HX.out.2.2.2]; omega⟩
          clear hb o9 hz HI
          simp only [Act.put, List.setIfInBounds_toArray, List.set_cons_succ, List.set_cons_zero]
          refine wpList_nil ?_
          go_wp2_with fail
          go_roundg (m + 1 - (i + 1))
          case measure => omega
          case rel => exact ⟨i + 1, by go_num, by omega, by omega, H9.out⟩
    · have z1 : ¬ (i : Int) < (m : Int) := by omega
      have H9 : Hid (Only [] w wr) := HH.out.1.only
      go_wp2_with fail
      go_ret
      exact ⟨rfl, H9.out.below (Nat.le_of_eq HQ.out.symm) (by simp)⟩
set_option maxRecDepth 100000 in
theorem lifted (os : Os) (started : os.Started) (H : Type) (enc : TypeId × Value → H) :
    ReturnsInHanded {} Try.checked os 5 .any (Rows.stepStaysSpec.pre6 enc Try.prog Try.f5 Rows.stepStaysRow.domain false) (Rows.stepStaysSpec.post enc Try.prog Try.f5 false true false false) := by
  refine returnsInHanded_of_change (C := Try.checked) own started (by kernel_rfl) Try.func5
    (ChangeSpec.witness6 (enc := enc) (C := Try.checked) false ⟨#[], #[.agg #[.int .i64 0, .int .i64 0, .int .i64 0, .int .i64 0, .int .i64 0, .int .i64 0, .int .i64 0, .slice none 0 0], .slice none 0 0, .slice none 0 0], []⟩ 8 (by kernel_rfl) (by kernel_rfl) (by kernel_rfl) (by kernel_rfl)) ?_
  intro W base args ds gs before hval0 hW hcnd _
  have hval : ∀ (j : Nat) t v, Try.f5.params[j]? = some t → args[j]? = some v → Value.okWide Try.prog W .any base t v := hval0
  have hW' := hW
  obtain ⟨p, q, hA0, hV, rfl, hfz, hnd⟩ := hW
  have hA : DataW.TrodAll enc Try.prog W 0 (fun _ => true) true Try.f5.params.toList args.toList ds p := hA0
  rw [Try.params5] at hA hval
  obtain ⟨v0, vs0, d0, ds0, p0, q0, hargs, rfl, rfl, h0, r0⟩ := trodAll_cons hA
  obtain ⟨v1, vs1, d1, ds1, p1, q1, rfl, rfl, rfl, h1, r1⟩ := trodAll_cons r0
  obtain ⟨v2, vs2, d2, ds2, p2, q2, rfl, rfl, rfl, h2, r2⟩ := trodAll_cons r1
  obtain ⟨rfl, rfl, rfl⟩ := trodAll_nil r2
  obtain rfl : args = #[v0, v1, v2] := by cases args; simp_all
  obtain ⟨rfl, rfl⟩ := trodVars_none hV
  have k0 := h0
  have lt0 : ∀ x ∈ p0, x.block < W.heap.size := by obtain ⟨m, hm⟩ := k0; exact DataW.trod_lt m _ _ _ hm
  obtain ⟨cs0, a0, rfl, w0⟩ := came_st opens_cfg Try.underlying53 (by kernel_rfl) (hval 0 53 v0 rfl rfl) h0
  have k1 := h1
  have lt1 : ∀ x ∈ p1, x.block < W.heap.size := by obtain ⟨m, hm⟩ := k1; exact DataW.trod_lt m _ _ _ hm
  obtain ⟨e1, len1, cap1, rfl⟩ := okWide_slice Try.underlying54 (hval 1 54 v1 rfl rfl)
  obtain ⟨a1, w1⟩ := came_sl (opens_slice Try.underlying54 (by kernel_rfl) (by decide) opens_ints) h1
  have k2 := h2
  have lt2 : ∀ x ∈ p2, x.block < W.heap.size := by obtain ⟨m, hm⟩ := k2; exact DataW.trod_lt m _ _ _ hm
  obtain ⟨e2, len2, cap2, rfl⟩ := okWide_slice Try.underlying47 (hval 2 47 v2 rfl rfl)
  obtain ⟨a2, w2⟩ := came_sl (opens_slice Try.underlying47 (by kernel_rfl) (by decide) (opens_slice Try.underlying45 (by kernel_rfl) (by decide) opens_cell)) h2
  clear hA0 hval0
  refine (walk cs0 a0 _ a1 _ a2 W w0 w1 w2).mono fun e W' ⟨he, bel⟩ => ?_
  subst he
  exact ⟨_, rfl, _, _, _, [], _, [], hW', trodAll_mk1 (shut_bool Try.underlying4 _), (trodAll_cons_mk (Below.trod laidOut (by kernel_rfl) (of_decide_eq_true (by kernel_rfl)) k0 bel lt0) (trodAll_cons_mk (Below.trod laidOut (by kernel_rfl) (of_decide_eq_true (by kernel_rfl)) k1 bel lt1) (trodAll_cons_mk (Below.trod laidOut (by kernel_rfl) (of_decide_eq_true (by kernel_rfl)) k2 bel lt2) trodAll_mk0))), rfl, bel.frame _, fun h => by cases h⟩

theorem over : Rows.stepStaysRow.holds Try.pinned (OpenSpec.ofChange Rows.stepStaysSpec) :=
  OpenClaim.holds_of_wide 5 Try.f5 rfl rfl rfl rfl rfl rfl rfl ⟨rfl, rfl, rfl, rfl, rfl⟩ rfl rfl rfl rfl rfl (by kernel_rfl) Try.func5 (by kernel_rfl)
    (of_decide_eq_true (by kernel_rfl)) (by unfold Func.isWrapper; first | (rw [if_pos (by decide +kernel)]; kernel_rfl) | (rw [if_neg (by decide +kernel)]; exact ⟨rfl, rfl⟩))
    (fun os started H enc _ => lifted os started H enc)

/-- THE STATEMENT -/
theorem proved : Rows.StepStaysSaid := over
end Go.Proofs.Ytngbannidbijmaa.stepStays

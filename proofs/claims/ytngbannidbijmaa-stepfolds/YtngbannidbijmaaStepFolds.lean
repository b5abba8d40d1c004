/- StepFolds: rows done at once are done one by one, however they are parted. For every raw config, rows and place; nothing is assumed of them. -/
import Derived.Test.YtngbannidbijmaaStepLw
namespace Go.Proofs.Ytngbannidbijmaa.stepFolds
open Go.ChangeShapes Go.WideShapes Go.ChangeAt Go.RowKit Go.Deep
set_option linter.unusedVariables false
set_option linter.unusedSimpArgs false

set_option maxRecDepth 100000 in
set_option maxHeartbeats 4000000 in
theorem walk (cs0 : List Value) (a0 : Rcf × List Op3) (s1 : Value) (a1 : List (List Int)) (a2 : Int) (w : World) (w0 : rCfg w.heap.size w cs0 a0) (w1 : RdG 1 rInts w.heap.size w s1 a1) (w2 : (Lit.int .i64 a2).wf = true) :
    Calls Try.prog 9 #[.agg cs0.toArray, s1, .int .i64 a2] w fun e w' => e = .returned (.bool true) ∧ Below w.heap.size w w' := by
  have hnot : ∀ (x : Bool) (w : World), (Op.unary .not (.bool x)).run Try.prog w = .ok (.bool (!x)) w := fun _ _ => rfl
  obtain ⟨r, l⟩ := a0
  obtain ⟨lv, hcs, hl, ok⟩ := w0
  dsimp only at hcs hl ok
  subst hcs
  obtain ⟨q, hq⟩ : ∃ q, w.heap.size = q := ⟨_, rfl⟩
  have H0 : Hid (Blk (w.alloc (.cells (r.cells lv).toArray 53)) q (r.cells lv) ∧ RdG 3 rOp q (w.alloc (.cells (r.cells lv).toArray 53)) lv l ∧ RdG 1 rInts q (w.alloc (.cells (r.cells lv).toArray 53)) s1 a1 ∧ Only [] w (w.alloc (.cells (r.cells lv).toArray 53)) ∧ w.heap.size = q) :=
    ⟨hq ▸ Blk.new w _ _, (hq ▸ hl).only rOp_st ((Only.refl [] _).alloc _) (by simp), (hq ▸ w1).only rInts_st ((Only.refl [] _).alloc _) (by simp), (Only.refl _ _).alloc _, hq⟩
  have OK : Hid _ := ok
  have HQ : Hid (w.heap.size = q) := hq
  clear hl ok w1 w2
  rw [hq]
  go_enter Try.func9, Try.ntmps9
  go_upto_region 0 with fail
  apply wp_region_lit
  refine op_val (w' := w.alloc (.cells (r.cells lv).toArray 53)) rfl (.pointer (some ⟨w.heap.size, 0, none⟩)) (by kernel_rfl) ?_
  simp only [Act.put, List.setIfInBounds_toArray, List.set_cons_succ, List.set_cons_zero]
  refine op_val (w' := w.alloc (.cells (r.cells lv).toArray 53)) rfl (.bool false) (by kernel_rfl) ?_
  simp only [Act.put, List.setIfInBounds_toArray, List.set_cons_succ, List.set_cons_zero]
  refine wpList_nil ?_
  rw [hq]
  generalize w.alloc (.cells (r.cells lv).toArray 53) = W at *
  clear hq
  go_upto_region 1 with fail
  apply wp_region_lit
  refine op_call (F := 15) (args := #[]) (w1 := W) rfl (by kernel_rfl) ?_
  refine (known_any W).mono ?_
  rintro e W1 ⟨rfl, o⟩
  refine ⟨_, rfl, ?_⟩
  have H1 : Hid (Blk W1 q (r.cells lv) ∧ RdG 3 rOp q W1 lv l ∧ RdG 1 rInts q W1 s1 a1 ∧ Only [] w W1 ∧ w.heap.size = q) := ⟨H0.out.1.only o (by simp), H0.out.2.1.only rOp_st o (by simp), H0.out.2.2.1.only rInts_st o (by simp), H0.out.2.2.2.1.trans o, H0.out.2.2.2.2⟩
  clear H0 o
  simp only [Act.put, List.setIfInBounds_toArray, List.set_cons_succ, List.set_cons_zero]
  refine op_val (w' := W1) rfl (.bool false) (by kernel_rfl) ?_
  simp only [Act.put, List.setIfInBounds_toArray, List.set_cons_succ, List.set_cons_zero]
  refine wpList_nil ?_
  go_upto_region 3 with fail
  apply wp_region_lit
  refine opg_loads (by kernel_rfl) (cs := r.cells lv) (g := q) (off := 0) 53 (.tmp 3) rfl (by kernel_rfl) Try.underlying53 info_rc H1.out.1.whole ?_
  simp only [Act.put, List.setIfInBounds_toArray, List.set_cons_succ, List.set_cons_zero]
  refine op_call (F := 18) (args := #[r.v lv]) (w1 := W1) rfl (by kernel_rfl) ?_
  refine (hconfig_any OK.out H1.out.2.1 (by have := H1.out.1.lt; omega)).mono ?_
  rintro e W2 ⟨c, ra, rn, rc, ta, tn, tc, rfl, hleg, h5, RD, o⟩
  refine ⟨_, rfl, ?_⟩
  have LEG : Hid (Step.legal c = true) := hleg
  have H2 : Hid (RdG 1 rInts q W2 s1 a1 ∧ Only [] w W2 ∧ w.heap.size = q ∧ Rd W2.heap.size W2 c (.slice ra rn rc) (.slice ta tn tc) ∧ q < W2.heap.size) := ⟨H1.out.2.2.1.only rInts_st o (by simp), H1.out.2.2.2.1.trans o, H1.out.2.2.2.2, RD, by have := H1.out.1.lt; have := o.size; omega⟩
  clear H1 o RD hleg
  simp only [Act.put, List.setIfInBounds_toArray, List.set_cons_succ, List.set_cons_zero]
  refine op_val (w' := W2.alloc (.cells (Cf.zero.cells (.slice none 0 0) (.slice none 0 0)).toArray 28)) rfl (.pointer (some ⟨W2.heap.size, 0, none⟩)) (by kernel_rfl) ?_
  simp only [Act.put, List.setIfInBounds_toArray, List.set_cons_succ, List.set_cons_zero]
  obtain ⟨p, hp⟩ : ∃ p, W2.heap.size = p := ⟨_, rfl⟩
  rw [hp]
  refine op_storeCf (p := p) (c := c) (ra := ra) (rn := rn) (rc := rc) (ta := ta) (tn := tn) (tc := tc) rfl (cb_new hp _) (.tmp 7) (.tmp 17) rfl (by kernel_rfl) (by kernel_rfl) ?_
  intro W3 hb o3 hz
  have o23 : Only [] W2 W3 := ((Only.refl [] W2).alloc _).then o3 (fun x hx hl => by have h2 : x = p := (by simpa using hx); omega)
  have H3 : Hid (Cb W3 p c (.slice ra rn rc) (.slice ta tn tc) ∧ Rd p W3 c (.slice ra rn rc) (.slice ta tn tc) ∧ RdG 1 rInts q W3 s1 a1 ∧ Only [] w W3 ∧ w.heap.size ≤ p ∧ q < p) := by
    obtain ⟨k1, k2, k3, k4, k5⟩ := H2.out
    rw [hp] at k4 k5
    exact ⟨hb, k4.only o23 (by simp), k1.only rInts_st o23 (by simp), k2.trans o23, by omega, k5⟩
  clear H2 hb o3 hz o23 hp
  simp only [Act.put, List.setIfInBounds_toArray, List.set_cons_succ, List.set_cons_zero]
  refine wpList_nil ?_
  obtain ⟨n, hn⟩ : ∃ n : Nat, c.pl = n := ⟨c.pl.toNat, by have := Step.legal_pl LEG.out; omega⟩
  have HN : Hid (c.pl = n ∧ n ≤ 8) := ⟨hn, by have := Step.legal_pl LEG.out; omega⟩
  clear hn
  go_upto_region 4 with fail
  apply wp_region_lit
  refine op_val (w' := W3) rfl (.pointer (some ⟨p, 0, none⟩)) (by kernel_rfl) ?_
  simp only [Act.put, List.setIfInBounds_toArray, List.set_cons_succ, List.set_cons_zero]
  refine op_val (w' := W3) rfl (.int .i64 n) (exec_int (a := ⟨p, 0, none⟩) (.tmp 18) rfl (by kernel_rfl) (by rw [← HN.out.1]; exact H3.out.1.blk.cell 0)) ?_
  simp only [Act.put, List.setIfInBounds_toArray, List.set_cons_succ, List.set_cons_zero]
  refine op_val (w' := W3) rfl (s1) (by kernel_rfl) ?_
  simp only [Act.put, List.setIfInBounds_toArray, List.set_cons_succ, List.set_cons_zero]
  refine op_call (F := 20) (args := #[.int .i64 (n : Nat), s1]) (w1 := W3) rfl (by kernel_rfl) ?_
  refine (hrows_any n HN.out.2 H3.out.2.2.1 (by have := H3.out.1.blk.lt; have := H3.out.2.2.2.2.2; omega)).mono ?_
  rintro e W4 ⟨ov, ss, rfl, HR⟩
  refine ⟨_, rfl, ?_⟩
  obtain ⟨T, hT⟩ : ∃ T, W4.heap.size = T := ⟨_, rfl⟩
  obtain ⟨rows, hrows⟩ : ∃ rows, hrows n a1 = rows := ⟨_, rfl⟩
  have hlen : rows.length ≤ 40 := by rw [← hrows]; simp [_root_.Go.Proofs.Ytngbannidbijmaa.hrows]; omega
  rw [hrows] at HR
  have H4 : Hid (Fd w W4 T p c (.slice ra rn rc) (.slice ta tn tc) ov rows) := by
    obtain ⟨k1, k2, k3, k4, k5, k6⟩ := H3.out
    have hpT : p < T := by have := k1.blk.lt; have := HR.only.size; omega
    refine ⟨k1.only HR.only (by simp), (k2.only HR.only (by simp)).upto (by omega), ?_, k4.trans HR.only, hpT, k5, by omega⟩
    have := HR.rdr
    rwa [hT] at this
  obtain ⟨oa, oc, hov, -, -⟩ := H4.out.rows.form
  have HM : Hid (rows.length ≤ 40) := hlen
  obtain ⟨m, hm⟩ : ∃ m, rows.length = m := ⟨_, rfl⟩
  have HMM : Hid (rows.length = m) := hm
  rw [hm] at hov hlen
  subst hov
  clear HR H3 hrows hT hm
  simp only [Act.put, List.setIfInBounds_toArray, List.set_cons_succ, List.set_cons_zero]
  refine op_val (w' := W4) rfl (.slice oa m oc) (by kernel_rfl) ?_
  simp only [Act.put, List.setIfInBounds_toArray, List.set_cons_succ, List.set_cons_zero]
  refine wpList_nil ?_
  go_upto_region 5 with fail
  apply wp_region_lit
  refine op_val (w' := W4) rfl (.int .i64 a2) (by kernel_rfl) ?_
  simp only [Act.put, List.setIfInBounds_toArray, List.set_cons_succ, List.set_cons_zero]
  refine op_val (w' := W4) rfl (.slice oa m oc) (by kernel_rfl) ?_
  simp only [Act.put, List.setIfInBounds_toArray, List.set_cons_succ, List.set_cons_zero]
  refine op_val (w' := W4) rfl (.int .i64 m) (exec_len (a := oa) (c := oc) (t := 47) (by kernel_rfl) (.tmp 23) rfl (by kernel_rfl)) ?_
  simp only [Act.put, List.setIfInBounds_toArray, List.set_cons_succ, List.set_cons_zero]
  refine op_val (w' := W4) rfl (.int .i64 ((m : Int) + 1)) (by have hw : IntKind.i64.wrap ((m : Int) + 1) = (m : Int) + 1 := IntWalk.i64_in _ (by omega); simp only [execOp]; go_simp) ?_
  simp only [Act.put, List.setIfInBounds_toArray, List.set_cons_succ, List.set_cons_zero]
  refine op_call (F := 24) (args := #[.int .i64 a2, .int .i64 ((m : Int) + 1)]) (w1 := W4) rfl (by kernel_rfl) ?_
  refine (pick_any _ _ (by omega) (by omega) _).mono ?_
  rintro e W5 ⟨rfl, rfl⟩
  refine ⟨_, rfl, ?_⟩
  simp only [Act.put, List.setIfInBounds_toArray, List.set_cons_succ, List.set_cons_zero]
  obtain ⟨k, hk⟩ : ∃ k : Nat, a2 % ((m : Int) + 1) = k := ⟨(a2 % ((m : Int) + 1)).toNat, by have := Int.emod_nonneg a2 (show (m : Int) + 1 ≠ 0 by omega); omega⟩
  have hkm : k ≤ m := by have := Int.emod_lt_of_pos a2 (show 0 < (m : Int) + 1 by omega); omega
  rw [hk]
  clear hk
  refine op_val (w' := W4) rfl (.int .i64 k) (by kernel_rfl) ?_
  simp only [Act.put, List.setIfInBounds_toArray, List.set_cons_succ, List.set_cons_zero]
  refine wpList_nil ?_
  have F0 : Hid (Step.Ok c (Step.first c) ∧ Step.Wf (Step.first c)) := ⟨Step.first_ok LEG.out, first_wf c⟩
  obtain ⟨s, hs⟩ : ∃ s, Step.first c = s := ⟨_, rfl⟩
  have HS : Hid (Step.first c = s) := hs
  have HF0 : Hid (s.fr = 0) := by rw [← hs]; exact Step.first_fr c
  rw [hs] at F0
  clear hs
  go_upto_region 6 with fail
  apply wp_region_lit
  refine opg_loadC (p := p) (by kernel_rfl) (.tmp 7) rfl (by kernel_rfl) H4.out.conf.blk.whole ?_
  simp only [Act.put, List.setIfInBounds_toArray, List.set_cons_succ, List.set_cons_zero]
  refine op_call (F := 11) (args := #[c.v (.slice ra rn rc) (.slice ta tn tc)]) (w1 := W4) rfl (by kernel_rfl) ?_
  refine (first_any c H4.out.rd H4.out.sz).mono ?_
  rintro e W5 ⟨rfl, o⟩
  refine ⟨_, rfl, ?_⟩
  rw [HS.out]
  have H5 : Hid (Fd w W5 T p c (.slice ra rn rc) (.slice ta tn tc) (.slice oa m oc) rows) := H4.out.then o
  clear H4 o HS
  simp only [Act.put, List.setIfInBounds_toArray, List.set_cons_succ, List.set_cons_zero]
  obtain ⟨xs, hxs⟩ : ∃ xs, W5.heap.size = xs := ⟨_, rfl⟩
  refine op_val (w' := W5.alloc (.cells Step.zero.cells.toArray 37)) rfl (.pointer (some ⟨W5.heap.size, 0, none⟩)) (by kernel_rfl) ?_
  simp only [Act.put, List.setIfInBounds_toArray, List.set_cons_succ, List.set_cons_zero]
  rw [hxs]
  refine op_storeS (p := xs) (s := s) rfl (sb_at hxs Step.zero_wf _) F0.out.2 (.tmp 10) (.tmp 28) rfl (by kernel_rfl) (by kernel_rfl) ?_
  intro W6 hb o6 hz
  have H6 : Hid (Fd w W6 T p c (.slice ra rn rc) (.slice ta tn tc) (.slice oa m oc) rows ∧ Sb W6 xs s ∧ T ≤ xs) := ⟨H5.out.off (((Only.refl [] W5).alloc _).then o6 (fun x hx hl => by have h2 : x = xs := (by simpa using hx); omega) : Only [] W5 W6) (by simp), hb, hxs ▸ H5.out.sz⟩
  clear H5 hb o6 hz hxs
  simp only [Act.put, List.setIfInBounds_toArray, List.set_cons_succ, List.set_cons_zero]
  refine wpList_nil ?_
  obtain ⟨F, hF⟩ : ∃ F, Step.fold c s rows = F := ⟨_, rfl⟩
  have FO : Hid (Step.fold c s rows = F ∧ Step.Ok c F ∧ Step.Wf F ∧ F.fr = m) := by
    have := Step.fold_ok rows F0.out.1
    rw [hF] at this
    refine ⟨hF, this.1, ⟨this.1.b.len, this.1.s.len⟩, ?_⟩
    rw [this.2 (by rw [HF0.out, HMM.out]; omega), HF0.out, HMM.out]; omega
  clear hF
  go_upto_region 7 with fail
  have hmc : m ≤ oc := by obtain ⟨_, _, e, g, _⟩ := H6.out.1.rows.form; injection e with _ _ e3; rw [HMM.out, ← e3] at g; exact g
  have HV : Hid (∀ y, Only [] W6.drew y → Fd w y T p c (.slice ra rn rc) (.slice ta tn tc) (.slice oa m oc) rows ∧ Sb y xs s) := fun y hy => by
    have o := (only_drew W6).trans hy
    exact ⟨H6.out.1.then o, H6.out.2.1.only o (by simp)⟩
  obtain ⟨da, hda⟩ : ∃ da, (if oc = k then oa else oa.map (·.add (k * 1))) = da := ⟨_, rfl⟩
  obtain ⟨dn, hdn⟩ : ∃ dn, m - k = dn := ⟨_, rfl⟩
  obtain ⟨dc, hdc⟩ : ∃ dc, oc - k = dc := ⟨_, rfl⟩
  have HD : Hid ((if oc = k then oa else oa.map (·.add (k * 1))) = da ∧ m - k = dn ∧ oc - k = dc) := ⟨hda, hdn, hdc⟩
  clear hda hdn hdc
  have GT : Hid (Step.fold c (Step.fold c s (rows.take k)) (rows.drop k) = F) := by show _ = _; rw [Step.fold_parts]; exact FO.out.1
  have GW : Hid (Step.Wf (Step.fold c s (rows.take k))) := fold_wf F0.out.2 _
  obtain ⟨G, hG⟩ : ∃ G, Step.fold c s (rows.take k) = G := ⟨_, rfl⟩
  have HG : Hid (Step.fold c s (rows.take k) = G) := hG
  rw [hG] at GT GW
  clear hG
  refine wp_region_free 12 (Only []) (Only.refl _) (Only.trans) [(7, .pointer (some ⟨p, 0, none⟩)), (8, .slice oa m oc), (9, .int .i64 k), (10, .pointer (some ⟨xs, 0, none⟩))] (by intro p hp; simp only [List.mem_cons, List.not_mem_nil, or_false] at hp; rcases hp with rfl | rfl | rfl | rfl <;> rfl) (by kernel_rfl) (by kernel_rfl) (by decide) (by kernel_rfl) (by kernel_rfl) ?_
  simp only [List.take_succ_cons, List.take_zero, List.drop_succ_cons, List.drop_zero]
  refine rf_val (c.v (.slice ra rn rc) (.slice ta tn tc)) (by first | rfl | exact ⟨by kernel_rfl, rfl⟩) (fun zA v hT hf => exec_ldCf (HV.out v hT).1.conf (.tmp 7) rfl (by simp at hf; simp [Act.eval, hf])) ?_
  refine rf_val (c.v (.slice ra rn rc) (.slice ta tn tc)) (by first | rfl | exact ⟨by kernel_rfl, rfl⟩) (fun zA v hT hf => exec_ldCf (HV.out v hT).1.conf (.tmp 7) rfl (by simp at hf; simp [Act.eval, hf])) ?_
  refine rf_val (s.v) (by first | rfl | exact ⟨by kernel_rfl, rfl⟩) (fun zA v hT hf => exec_ldS (p := xs) (off := 0) F0.out.2 (.tmp 10) rfl (by simp at hf; simp [Act.eval, hf]) (HV.out v hT).2.blk.whole) ?_
  refine rf_val (.slice oa m oc) (by first | rfl | exact ⟨by kernel_rfl, rfl⟩) (fun zA v hT hf => ?_) ?_
  · skip
    simp at hf
    go_simp
    try rfl
  refine rf_val (.int .i64 k) (by first | rfl | exact ⟨by kernel_rfl, rfl⟩) (fun zA v hT hf => ?_) ?_
  · skip
    simp at hf
    go_simp
    try rfl
  refine rf_val (.slice oa k oc) (by first | rfl | exact ⟨by kernel_rfl, rfl⟩) (fun zA v hT hf => exec_to Try.underlying47 hs_row (len := m) (by omega) (.tmp 32) (.tmp 33) rfl (by simp at hf; simp [Act.eval, hf]) (by simp at hf; simp [Act.eval, hf])) ?_
  refine rf_eff (fun _ v => v = G.v) (by first | rfl | exact ⟨by kernel_rfl, rfl⟩) (fun _ _ _ _ h => h) (fun z2 y hT hf => ?_) ?_
  · simp at hf
    go_simp
    refine (fold_any c s (HV.out y hT).1.rd F0.out.2 ((HV.out y hT).1.rows.to_ (by rw [HMM.out]; exact hkm)) (HV.out y hT).1.sz).mono ?_
    rw [HG.out]
    rintro e y2 ⟨rfl, o⟩
    exact ⟨_, rfl, rfl, o⟩
  refine rf_val (.slice oa m oc) (by first | rfl | exact ⟨by kernel_rfl, rfl⟩) (fun zA v hT hf => ?_) ?_
  · skip
    simp at hf
    go_simp
    try rfl
  refine rf_val (.int .i64 k) (by first | rfl | exact ⟨by kernel_rfl, rfl⟩) (fun zA v hT hf => ?_) ?_
  · skip
    simp at hf
    go_simp
    try rfl
  refine rf_val (.slice da dn dc) (by first | rfl | exact ⟨by kernel_rfl, rfl⟩) (fun zA v hT hf => by rw [← HD.out.1, ← HD.out.2.1, ← HD.out.2.2]; exact exec_from Try.underlying47 hs_row hkm hmc (.tmp 36) (.tmp 37) rfl (by simp at hf; simp [Act.eval, hf]) (by simp at hf; simp [Act.eval, hf])) ?_
  refine rf_eff (fun _ v => v = F.v) (by first | rfl | exact ⟨by kernel_rfl, rfl⟩) (fun _ _ _ _ h => h) (fun z2 y hT hf => ?_) ?_
  · simp at hf
    go_simp
    have hd := (HV.out y hT).1.rows.from_ (k := k) (by rw [HMM.out]; exact hkm)
    rw [HD.out.1, HD.out.2.1, HD.out.2.2] at hd
    refine (fold_any c G (HV.out y hT).1.rd GW.out hd (HV.out y hT).1.sz).mono ?_
    rw [GT.out]
    rintro e y2 ⟨rfl, o⟩
    exact ⟨_, rfl, rfl, o⟩
  refine rf_eff (fun y v => ∃ g, v = .pointer (some ⟨g, 0, none⟩) ∧ Sb y g Step.zero ∧ xs < g) (by first | rfl | exact ⟨by kernel_rfl, rfl⟩) (fun y y2 v hT h => ?_) (fun z2 y hT hf => ?_) ?_
  · obtain ⟨g, h1, h2, h3⟩ := h
    exact ⟨g, h1, h2.only hT (by simp), h3⟩
  · exact ⟨⟨_, rfl, sb_at (w := y) rfl Step.zero_wf 37, (HV.out y hT).2.blk.lt⟩, trivial, (Only.refl _ _).alloc _⟩
  intro W7 hy
  simp only [FinA, Sp.R, forall_eq]
  simp only [Act.put, List.setIfInBounds_toArray, List.set_cons_succ, List.set_cons_zero]
  rintro v11 ⟨xt, rfl, ht, hlt⟩
  have H7 : Hid _ := HV.out W7 hy
  have HX : Hid (T ≤ xs ∧ xs < xt) := ⟨H6.out.2.2, hlt⟩
  clear HV hy H6 hlt
  refine op_storeS (p := xt) (s := F) rfl ht FO.out.2.2.1 (.tmp 11) (.tmp 39) rfl (by kernel_rfl) (by kernel_rfl) ?_
  intro W8 hb o8 hz
  have H8 : Hid (Fd w W8 T p c (.slice ra rn rc) (.slice ta tn tc) (.slice oa m oc) rows ∧ Sb W8 xs s ∧ Sb W8 xt F) := ⟨H7.out.1.off o8 (fun x hx => by have h2 : x = xt := (by simpa using hx); have := HX.out; omega), H7.out.2.only o8 (by have := HX.out; simp; omega), hb⟩
  clear H7 hb o8 hz ht GT GW HG HD
  simp only [Act.put, List.setIfInBounds_toArray, List.set_cons_succ, List.set_cons_zero]
  refine wpList_nil ?_
  go_upto_region 8 with fail
  apply wp_region_lit
  refine opg_loadS (p := xs) (off := 0) (by kernel_rfl) F0.out.2 (.tmp 10) rfl (by kernel_rfl) H8.out.2.1.blk.whole ?_
  simp only [Act.put, List.setIfInBounds_toArray, List.set_cons_succ, List.set_cons_zero]
  obtain ⟨xu, hxu⟩ : ∃ xu, W8.heap.size = xu := ⟨_, rfl⟩
  refine op_val (w' := W8.alloc (.cells Step.zero.cells.toArray 37)) rfl (.pointer (some ⟨W8.heap.size, 0, none⟩)) (by kernel_rfl) ?_
  simp only [Act.put, List.setIfInBounds_toArray, List.set_cons_succ, List.set_cons_zero]
  rw [hxu]
  refine op_storeS (p := xu) (s := s) rfl (sb_at hxu Step.zero_wf _) F0.out.2 (.tmp 12) (.tmp 40) rfl (by kernel_rfl) (by kernel_rfl) ?_
  intro W9 hb o9 hz
  have o89 : Only [] W8 W9 := ((Only.refl [] W8).alloc _).then o9 (fun x hx hl => by have h2 : x = xu := (by simpa using hx); omega)
  have H9 : Hid (Fd w W9 T p c (.slice ra rn rc) (.slice ta tn tc) (.slice oa m oc) rows ∧ Sb W9 xs s ∧ Sb W9 xt F ∧ Sb W9 xu (Step.fold c s (rows.take 0)) ∧ xt < xu) := ⟨H8.out.1.then o89, H8.out.2.1.only o89 (by simp), H8.out.2.2.only o89 (by simp), hb, hxu ▸ H8.out.2.2.blk.lt⟩
  have HU : Hid (T ≤ xs ∧ xs < xt ∧ xt < xu) := ⟨HX.out.1, HX.out.2, H9.out.2.2.2.2⟩
  clear H8 HX hb o9 hz o89 hxu
  simp only [Act.put, List.setIfInBounds_toArray, List.set_cons_succ, List.set_cons_zero]
  refine wpList_nil ?_
  go_wp2_with fail
  go_loopg [13, 43] (m + 1) (fun gk v13 vi wr => ∃ i : Nat, vi = .int .i64 i ∧ i ≤ m ∧ m + 1 - i ≤ gk ∧ Hid (Fd w wr T p c (.slice ra rn rc) (.slice ta tn tc) (.slice oa m oc) rows ∧ Sb wr xs s ∧ Sb wr xt F ∧ Sb wr xu (Step.fold c s (rows.take i))))
  case atStart => exact ⟨0, rfl, by omega, by omega, H9.out.1, H9.out.2.1, H9.out.2.2.1, H9.out.2.2.2.1⟩
  case round =>
    clear H9
    obtain ⟨i, rfl, hi, hgk, HH⟩ := hrel
    by_cases hl : i < m
    · have z1 : (i : Int) < (m : Int) := by omega
      obtain ⟨row, hrow⟩ : ∃ row, rows[i]? = some row := ⟨_, List.getElem?_eq_getElem (by rw [HMM.out]; exact hl)⟩
      have NX : Hid (Step.fold c s (rows.take (i + 1)) = Step.step c (Step.fold c s (rows.take i)) row) := fold_take hrow
      obtain ⟨b, off, cap', xa, xn, xc, hv, hcell, hRC, hbT⟩ := HH.out.1.row hrow
      injection hv with e1 e2 e3
      subst e1 e3
      clear e2
      obtain ⟨s1, hs1⟩ : ∃ s1, Step.fold c s (rows.take i) = s1 := ⟨_, rfl⟩
      have W1 : Hid (Step.Wf s1) := hs1 ▸ fold_wf F0.out.2 _
      rw [hs1] at HH NX
      have CR : Hid (wr.cell? ⟨b, off + i, none⟩ = some (.slice xa xn xc) ∧ RdC T wr (.slice xa xn xc) row ∧ b < wr.heap.size) := ⟨hcell, hRC, by have := HH.out.1.sz; omega⟩
      clear hs1 hcell hRC hbT
      go_upto_region 12 with fail
      have HV : Hid (∀ y, Only [] wr.drew y → Fd w y T p c (.slice ra rn rc) (.slice ta tn tc) (.slice (some ⟨b, off, none⟩) m oc) rows ∧ Sb y xs s ∧ Sb y xt F ∧ Sb y xu s1 ∧ y.cell? ⟨b, off + i, none⟩ = some (.slice xa xn xc) ∧ RdC T y (.slice xa xn xc) row) := fun y hy => by
        have o := (only_drew wr).trans hy
        exact ⟨HH.out.1.then o, HH.out.2.1.only o (by simp), HH.out.2.2.1.only o (by simp), HH.out.2.2.2.only o (by simp), (o.cell (p := ⟨b, off + i, none⟩) CR.out.2.2 (by simp)).trans CR.out.1, CR.out.2.1.only o (by simp)⟩
      clear HH CR
      refine wp_region_free 7 (Only []) (Only.refl _) (Only.trans) [(7, .pointer (some ⟨p, 0, none⟩)), (8, .slice (some ⟨b, off, none⟩) m oc), (12, .pointer (some ⟨xu, 0, none⟩)), (13, .int .i64 i)] (by intro p hp; simp only [List.mem_cons, List.not_mem_nil, or_false] at hp; rcases hp with rfl | rfl | rfl | rfl <;> rfl) (by kernel_rfl) (by kernel_rfl) (by decide) (by kernel_rfl) (by kernel_rfl) ?_
      simp only [List.take_succ_cons, List.take_zero, List.drop_succ_cons, List.drop_zero]
      refine rf_val (c.v (.slice ra rn rc) (.slice ta tn tc)) (by first | rfl | exact ⟨by kernel_rfl, rfl⟩) (fun zA v hT hf => exec_ldCf (HV.out v hT).1.conf (.tmp 7) rfl (by simp at hf; simp [Act.eval, hf])) ?_
      refine rf_val (s1.v) (by first | rfl | exact ⟨by kernel_rfl, rfl⟩) (fun zA v hT hf => exec_ldS (p := xu) (off := 0) W1.out (.tmp 12) rfl (by simp at hf; simp [Act.eval, hf]) (HV.out v hT).2.2.2.1.blk.whole) ?_
      refine rf_val (.slice (some ⟨b, off, none⟩) m oc) (by first | rfl | exact ⟨by kernel_rfl, rfl⟩) (fun zA v hT hf => ?_) ?_
      · skip
        simp at hf
        go_simp
        try rfl
      refine rf_val (.int .i64 i) (by first | rfl | exact ⟨by kernel_rfl, rfl⟩) (fun zA v hT hf => ?_) ?_
      · skip
        simp at hf
        go_simp
        try rfl
      refine rf_val (.pointer (some ⟨b, off + i, none⟩)) (by first | rfl | exact ⟨by kernel_rfl, rfl⟩) (fun zA v hT hf => exec_atRs (cap := oc) hl (.tmp 48) (.tmp 49) rfl (by simp at hf; simp [Act.eval, hf]) (by simp at hf; simp [Act.eval, hf])) ?_
      refine rf_val (.slice xa xn xc) (by first | rfl | exact ⟨by kernel_rfl, rfl⟩) (fun zA v hT hf => exec_ldC (a := ⟨b, off + i, none⟩) (.tmp 50) rfl (by simp at hf; simp [Act.eval, hf]) (HV.out v hT).2.2.2.2.1) ?_
      refine rf_eff (fun _ v => v = (Step.step c s1 row).v) (by first | rfl | exact ⟨by kernel_rfl, rfl⟩) (fun _ _ _ _ h => h) (fun z2 y hT hf => ?_) ?_
      · simp at hf
        go_simp
        refine (step_any c s1 (HV.out y hT).1.rd W1.out (HV.out y hT).2.2.2.2.2 (HV.out y hT).1.sz).mono ?_
        rintro e y2 ⟨rfl, o⟩
        exact ⟨_, rfl, rfl, o⟩
      intro w6 hy
      simp only [FinA, Sp.R, forall_eq]
      simp only [Act.put, List.setIfInBounds_toArray, List.set_cons_succ, List.set_cons_zero]
      have H6 : Hid _ := HV.out w6 hy
      clear HV hy
      refine op_storeS (p := xu) (s := Step.step c s1 row) rfl H6.out.2.2.2.1 (Step.step_wf W1.out row) (.tmp 12) (.tmp 52) rfl (by kernel_rfl) (by kernel_rfl) ?_
      intro w7 hb o7 hz
      have H7 : Hid (Fd w w7 T p c (.slice ra rn rc) (.slice ta tn tc) (.slice (some ⟨b, off, none⟩) m oc) rows ∧ Sb w7 xs s ∧ Sb w7 xt F ∧ Sb w7 xu (Step.fold c s (rows.take (i + 1)))) := by
        have := HU.out
        rw [NX.out]
        exact ⟨H6.out.1.off o7 (fun x hx => by have h2 : x = xu := (by simpa using hx); omega), H6.out.2.1.only o7 (by simp; omega), H6.out.2.2.1.only o7 (by simp; omega), hb⟩
      clear hb o7 hz H6
      simp only [Act.put, List.setIfInBounds_toArray, List.set_cons_succ, List.set_cons_zero]
      refine wpList_nil ?_
      go_wp2_with fail
      go_roundg (m + 1 - (i + 1))
      case measure => omega
      case rel => exact ⟨i + 1, by go_num, by omega, by omega, H7.out⟩
    · have z1 : ¬ (i : Int) < (m : Int) := by omega
      have e : rows.take i = rows := List.take_of_length_le (by rw [HMM.out]; omega)
      have HF : Hid (Fd w wr T p c (.slice ra rn rc) (.slice ta tn tc) (.slice oa m oc) rows ∧ Sb wr xs s ∧ Sb wr xt F ∧ Sb wr xu F) := by have := HH.out; rw [e, FO.out.1] at this; exact this
      clear HH e
      go_upto_region 14 with fail
      have HV : Hid (∀ y, Only [] wr.drew y → Fd w y T p c (.slice ra rn rc) (.slice ta tn tc) (.slice oa m oc) rows ∧ Sb y xs s ∧ Sb y xt F ∧ Sb y xu F) := fun y hy => by
        have o := (only_drew wr).trans hy
        exact ⟨HF.out.1.then o, HF.out.2.1.only o (by simp), HF.out.2.2.1.only o (by simp), HF.out.2.2.2.only o (by simp)⟩
      clear HF
      refine wp_region_free 26 (Only []) (Only.refl _) (Only.trans) [(7, .pointer (some ⟨p, 0, none⟩)), (8, .slice oa m oc), (10, .pointer (some ⟨xs, 0, none⟩)), (11, .pointer (some ⟨xt, 0, none⟩)), (12, .pointer (some ⟨xu, 0, none⟩))] (by intro p hp; simp only [List.mem_cons, List.not_mem_nil, or_false] at hp; rcases hp with rfl | rfl | rfl | rfl | rfl <;> rfl) (by kernel_rfl) (by kernel_rfl) (by decide) (by kernel_rfl) (by kernel_rfl) ?_
      simp only [List.take_succ_cons, List.take_zero, List.drop_succ_cons, List.drop_zero]
      refine rf_val (F.v) (by first | rfl | exact ⟨by kernel_rfl, rfl⟩) (fun zA v hT hf => exec_ldS (p := xt) (off := 0) FO.out.2.2.1 (.tmp 11) rfl (by simp at hf; simp [Act.eval, hf]) (HV.out v hT).2.2.1.blk.whole) ?_
      refine rf_val (F.v) (by first | rfl | exact ⟨by kernel_rfl, rfl⟩) (fun zA v hT hf => exec_ldS (p := xu) (off := 0) FO.out.2.2.1 (.tmp 12) rfl (by simp at hf; simp [Act.eval, hf]) (HV.out v hT).2.2.2.blk.whole) ?_
      refine rf_val (.bool true) (by first | rfl | exact ⟨by kernel_rfl, rfl⟩) (fun zA v hT hf => exec_eqT FO.out.2.2.1 (.tmp 54) (.tmp 55) _ rfl (by simp at hf; simp [Act.eval, hf]) (by simp at hf; simp [Act.eval, hf])) ?_
      refine rf_val (.bool true) (by first | rfl | exact ⟨by kernel_rfl, rfl⟩) (fun zA v hT hf => ?_) ?_
      · skip
        simp at hf
        go_simp
        try rfl
      refine rf_val (c.v (.slice ra rn rc) (.slice ta tn tc)) (by first | rfl | exact ⟨by kernel_rfl, rfl⟩) (fun zA v hT hf => exec_ldCf (HV.out v hT).1.conf (.tmp 7) rfl (by simp at hf; simp [Act.eval, hf])) ?_
      refine rf_val (s.v) (by first | rfl | exact ⟨by kernel_rfl, rfl⟩) (fun zA v hT hf => exec_ldS (p := xs) (off := 0) F0.out.2 (.tmp 10) rfl (by simp at hf; simp [Act.eval, hf]) (HV.out v hT).2.1.blk.whole) ?_
      refine rf_val (.slice oa m oc) (by first | rfl | exact ⟨by kernel_rfl, rfl⟩) (fun zA v hT hf => ?_) ?_
      · skip
        simp at hf
        go_simp
        try rfl
      refine rf_eff (fun _ v => v = F.v) (by first | rfl | exact ⟨by kernel_rfl, rfl⟩) (fun _ _ _ _ h => h) (fun z2 y hT hf => ?_) ?_
      · simp at hf
        go_simp
        refine (fold_any c s (HV.out y hT).1.rd F0.out.2 (HV.out y hT).1.rows (HV.out y hT).1.sz).mono ?_
        rw [FO.out.1]
        rintro e y2 ⟨rfl, o⟩
        exact ⟨_, rfl, rfl, o⟩
      refine rf_val (F.v) (by first | rfl | exact ⟨by kernel_rfl, rfl⟩) (fun zA v hT hf => exec_ldS (p := xu) (off := 0) FO.out.2.2.1 (.tmp 12) rfl (by simp at hf; simp [Act.eval, hf]) (HV.out v hT).2.2.2.blk.whole) ?_
      refine rf_val (.bool true) (by first | rfl | exact ⟨by kernel_rfl, rfl⟩) (fun zA v hT hf => exec_eqT FO.out.2.2.1 (.tmp 61) (.tmp 62) _ rfl (by simp at hf; simp [Act.eval, hf]) (by simp at hf; simp [Act.eval, hf])) ?_
      refine rf_val (.bool true) (by first | rfl | exact ⟨by kernel_rfl, rfl⟩) (fun zA v hT hf => ?_) ?_
      · skip
        simp at hf
        go_simp
        try rfl
      refine rf_val (.bool true) (by first | rfl | exact ⟨by kernel_rfl, rfl⟩) (fun zA v hT hf => ?_) ?_
      · skip
        simp at hf
        go_simp
        try rfl
      refine rf_val (c.v (.slice ra rn rc) (.slice ta tn tc)) (by first | rfl | exact ⟨by kernel_rfl, rfl⟩) (fun zA v hT hf => exec_ldCf (HV.out v hT).1.conf (.tmp 7) rfl (by simp at hf; simp [Act.eval, hf])) ?_
      refine rf_val (s.v) (by first | rfl | exact ⟨by kernel_rfl, rfl⟩) (fun zA v hT hf => exec_ldS (p := xs) (off := 0) F0.out.2 (.tmp 10) rfl (by simp at hf; simp [Act.eval, hf]) (HV.out v hT).2.1.blk.whole) ?_
      refine rf_eff (fun _ v => v = s.v) (by first | rfl | exact ⟨by kernel_rfl, rfl⟩) (fun _ _ _ _ h => h) (fun z2 y hT hf => ?_) ?_
      · simp at hf
        go_simp
        refine (fold_any c s (rows := []) (HV.out y hT).1.rd F0.out.2 RdG.nil (HV.out y hT).1.sz).mono ?_
        rintro e y2 ⟨rfl, o⟩
        exact ⟨_, rfl, rfl, o⟩
      refine rf_val (s.v) (by first | rfl | exact ⟨by kernel_rfl, rfl⟩) (fun zA v hT hf => exec_ldS (p := xs) (off := 0) F0.out.2 (.tmp 10) rfl (by simp at hf; simp [Act.eval, hf]) (HV.out v hT).2.1.blk.whole) ?_
      refine rf_val (.bool true) (by first | rfl | exact ⟨by kernel_rfl, rfl⟩) (fun zA v hT hf => exec_eqT F0.out.2 (.tmp 68) (.tmp 69) _ rfl (by simp at hf; simp [Act.eval, hf]) (by simp at hf; simp [Act.eval, hf])) ?_
      refine rf_val (.bool true) (by first | rfl | exact ⟨by kernel_rfl, rfl⟩) (fun zA v hT hf => ?_) ?_
      · skip
        simp at hf
        go_simp
        try rfl
      refine rf_val (.bool true) (by first | rfl | exact ⟨by kernel_rfl, rfl⟩) (fun zA v hT hf => ?_) ?_
      · skip
        simp at hf
        go_simp
        try rfl
      refine rf_val (.pointer (some ⟨xu, 0, none⟩)) (by first | rfl | exact ⟨by kernel_rfl, rfl⟩) (fun zA v hT hf => ?_) ?_
      · skip
        simp at hf
        go_simp
        try rfl
      refine rf_val (.int .i64 m) (by first | rfl | exact ⟨by kernel_rfl, rfl⟩) (fun zA v hT hf => exec_int (a := ⟨xu, 0, none⟩) (.tmp 73) rfl (by simp at hf; simp [Act.eval, hf]) (by rw [← FO.out.2.2.2]; exact (HV.out v hT).2.2.2.blk.cell 0)) ?_
      refine rf_val (.slice oa m oc) (by first | rfl | exact ⟨by kernel_rfl, rfl⟩) (fun zA v hT hf => ?_) ?_
      · skip
        simp at hf
        go_simp
        try rfl
      refine rf_val (.int .i64 m) (by first | rfl | exact ⟨by kernel_rfl, rfl⟩) (fun zA v hT hf => exec_len (a := oa) (c := oc) (t := 47) (by kernel_rfl) (.tmp 75) rfl (by simp at hf; simp [Act.eval, hf])) ?_
      refine rf_val (.bool true) (by first | rfl | exact ⟨by kernel_rfl, rfl⟩) (fun zA v hT hf => ?_) ?_
      · skip
        simp at hf
        go_simp
        try rfl
      refine rf_val (.bool true) (by first | rfl | exact ⟨by kernel_rfl, rfl⟩) (fun zA v hT hf => ?_) ?_
      · skip
        simp at hf
        go_simp
        try rfl
      refine rf_val (.bool true) (by first | rfl | exact ⟨by kernel_rfl, rfl⟩) (fun zA v hT hf => ?_) ?_
      · skip
        simp at hf
        go_simp
        try rfl
      intro w9 hy
      simp only [FinA, Sp.R, forall_eq]
      simp only [Act.put, List.setIfInBounds_toArray, List.set_cons_succ, List.set_cons_zero]
      have H9 : Hid (Only [] w w9) := (HV.out w9 hy).1.only
      clear HV hy
      try refine wpList_nil ?_
      go_wp2_with fail
      go_ret
      exact ⟨rfl, H9.out.below (Nat.le_of_eq HQ.out.symm) (by simp)⟩
set_option maxRecDepth 100000 in
theorem lifted (os : Os) (started : os.Started) (H : Type) (enc : TypeId × Value → H) :
    ReturnsInHanded {} Try.checked os 9 .any (Rows.stepFoldsSpec.pre6 enc Try.prog Try.f9 Rows.stepFoldsRow.domain false) (Rows.stepFoldsSpec.post enc Try.prog Try.f9 false true false false) := by
  refine returnsInHanded_of_change (C := Try.checked) own started (by kernel_rfl) Try.func9
    (ChangeSpec.witness6 (enc := enc) (C := Try.checked) false ⟨#[], #[.agg #[.int .i64 0, .int .i64 0, .int .i64 0, .int .i64 0, .int .i64 0, .int .i64 0, .int .i64 0, .slice none 0 0], .slice none 0 0, .int .i64 0], []⟩ 8 (by kernel_rfl) (by kernel_rfl) (by kernel_rfl) (by kernel_rfl)) ?_
  intro W base args ds gs before hval0 hW hcnd _
  have hval : ∀ (j : Nat) t v, Try.f9.params[j]? = some t → args[j]? = some v → Value.okWide Try.prog W .any base t v := hval0
  have hW' := hW
  obtain ⟨p, q, hA0, hV, rfl, hfz, hnd⟩ := hW
  have hA : DataW.TrodAll enc Try.prog W 0 (fun _ => true) true Try.f9.params.toList args.toList ds p := hA0
  rw [Try.params9] at hA hval
  obtain ⟨v0, vs0, d0, ds0, p0, q0, hargs, rfl, rfl, h0, r0⟩ := trodAll_cons hA
  obtain ⟨v1, vs1, d1, ds1, p1, q1, rfl, rfl, rfl, h1, r1⟩ := trodAll_cons r0
  obtain ⟨v2, vs2, d2, ds2, p2, q2, rfl, rfl, rfl, h2, r2⟩ := trodAll_cons r1
  obtain ⟨rfl, rfl, rfl⟩ := trodAll_nil r2
  obtain rfl : args = #[v0, v1, v2] := by cases args; simp_all
  obtain ⟨rfl, rfl⟩ := trodVars_none hV
  have k0 := h0
  have lt0 : ∀ x ∈ p0, x.block < W.heap.size := by obtain ⟨m, hm⟩ := k0; exact DataW.trod_lt m _ _ _ hm
  obtain ⟨cs0, a0, rfl, w0⟩ := came_st opens_cfg Try.underlying53 (by kernel_rfl) (hval 0 53 v0 rfl rfl) h0
  have k1 := h1
  have lt1 : ∀ x ∈ p1, x.block < W.heap.size := by obtain ⟨m, hm⟩ := k1; exact DataW.trod_lt m _ _ _ hm
  obtain ⟨e1, len1, cap1, rfl⟩ := okWide_slice Try.underlying54 (hval 1 54 v1 rfl rfl)
  obtain ⟨a1, w1⟩ := came_sl (opens_slice Try.underlying54 (by kernel_rfl) (by decide) opens_ints) h1
  obtain ⟨a2, rfl, rfl, rfl, w2⟩ := open_int Try.underlying3 (hval 2 3 v2 rfl rfl) h2
  clear hA0 hval0
  refine (walk cs0 a0 _ a1 a2 W w0 w1 w2).mono fun e W' ⟨he, bel⟩ => ?_
  subst he
  exact ⟨_, rfl, _, _, _, [], _, [], hW', trodAll_mk1 (shut_bool Try.underlying4 _), (trodAll_cons_mk (Below.trod laidOut (by kernel_rfl) (of_decide_eq_true (by kernel_rfl)) k0 bel lt0) (trodAll_cons_mk (Below.trod laidOut (by kernel_rfl) (of_decide_eq_true (by kernel_rfl)) k1 bel lt1) (trodAll_cons_mk (shut_int Try.underlying3 w2) trodAll_mk0))), rfl, bel.frame _, fun h => by cases h⟩

theorem over : Rows.stepFoldsRow.holds Try.pinned (OpenSpec.ofChange Rows.stepFoldsSpec) :=
  OpenClaim.holds_of_wide 9 Try.f9 rfl rfl rfl rfl rfl rfl rfl ⟨rfl, rfl, rfl, rfl, rfl⟩ rfl rfl rfl rfl rfl (by kernel_rfl) Try.func9 (by kernel_rfl)
    (of_decide_eq_true (by kernel_rfl)) (by unfold Func.isWrapper; first | (rw [if_pos (by decide +kernel)]; kernel_rfl) | (rw [if_neg (by decide +kernel)]; exact ⟨rfl, rfl⟩))
    (fun os started H enc _ => lifted os started H enc)

/-- THE STATEMENT -/
theorem proved : Rows.StepFoldsSaid := over
end Go.Proofs.Ytngbannidbijmaa.stepFolds

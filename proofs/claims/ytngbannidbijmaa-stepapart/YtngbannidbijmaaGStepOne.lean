/- Law 13's one and cell. Law 13's cell and known. -/
import Derived.Test.YtngbannidbijmaaGHandR
import Derived.Test.YtngbannidbijmaaBlk1
namespace Go.Proofs.Ytngbannidbijmaa
open Go.RowKit
set_option linter.unusedVariables false
set_option linter.unusedSimpArgs false

def nats (n : Nat) : List Int := List.map (fun i : Nat => (i : Int)) (List.range n)
theorem nats_len (n : Nat) : (nats n).length = n := by simp [nats]
theorem nats_next (n : Nat) : nats (n + 1) = nats n ++ [(n : Int)] := by simp [nats, List.range_succ]
/-- a config of so many players, with rules -/
def cfTo (n k : Nat) (rules : List Op3) : Cf := ⟨n, 1, 0, 0, 50, 0, 4607182418800017408, 4617315517961601024, rules, nats k⟩
def cf1 (n : Nat) (rules : List Op3) : Cf := cfTo n n rules
/-- numbers of the call's own, as they are read -/
theorem Own.rdn {B : Nat} {w : World} {v : Value} {xs : List Int} (h : Own elI B w v xs) : RdN w.heap.size w v xs := by
  obtain ⟨a, cap, hv, h1, h2⟩ := h.form
  obtain ⟨a', cap', hv', _, _, hc⟩ := h.rd
  rw [hv] at hv'
  injection hv' with e1 _ e3
  subst e1 e3
  refine ⟨a, cap, hv, h1, h2, ?_⟩
  rcases hc with hc | ⟨b, off, rfl, hb, hc⟩
  · exact Or.inl hc
  · refine Or.inr ⟨b, off, rfl, hb, hb, fun i hi => ?_⟩
    have e := elI_ok.flat_get xs i _ (List.getElem?_eq_getElem hi) 0 (by decide)
    have := hc (i * 1 + 0) _ e
    simpa [List.getD_eq_getElem?_getD, hi] using this
/-- where one stands: the config at p, its result at q -/
structure Ond (w W : World) (B q : Nat) (rv tv : Value) (n k : Nat) (rules : List Op3) : Prop where
  res : Cb W q Cf.zero (.slice none 0 0) (.slice none 0 0)
  conf : Cb W (q + 1) (cfTo n k rules) rv tv
  toks : Own elI (q + 2) W tv (nats k)
  ops : RdO B W rv rules
  only : Only [] w W
  base : w.heap.size = q
  le : B ≤ q
theorem Ond.then {w W W' : World} {B q : Nat} {rv tv : Value} {n k : Nat} {rules : List Op3} (h : Ond w W B q rv tv n k rules) (o : Only [] W W') : Ond w W' B q rv tv n k rules :=
  ⟨h.res.only o (by simp), h.conf.only o (by simp), h.toks.only o (by simp), h.ops.only o (by simp), h.only.trans o, h.base, h.le⟩
theorem cb_new {w : World} {p : Nat} {c : Cf} {rv tv : Value} (hp : w.heap.size = p) (t : TypeId) : Cb (w.alloc (.cells (c.cells rv tv).toArray t)) p c rv tv := hp ▸ Cb.new c rv tv w t
theorem op_storeCf {w : World} {ops : Array Oper} {rest : List Oper} {o : Oper} {act : Act} {Q : Exit → Act → World → Prop} {p : Nat} {c0 c : Cf} {r0 t0 : Value} {ra ta : Option Addr} {rn rc tn tc : Nat} (hgd : o.guard = none) (h : Cb w p c0 r0 t0) (x y : Operand) (ho : o.op = .store 28 x y) (hx : act.eval x = .pointer (some ⟨p, 0, none⟩)) (hy : act.eval y = c.v (.slice ra rn rc) (.slice ta tn tc))
    (k : ∀ w', Cb w' p c (.slice ra rn rc) (.slice ta tn tc) → Only [p] w w' → w'.heap.size = w.heap.size → wpList Try.prog ops Q rest (act.put o.dst undef) w') : wpList Try.prog ops Q (o :: rest) act w := by
  refine op_store (vs := c.cells (.slice ra rn rc) (.slice ta tn tc)) (cs := c0.cells r0 t0) hgd 28 x y ho 0 hx hy h.blk info_cf (by simp [Cf.cells]) (by intro v hv; simp only [Cf.cells, List.mem_cons, List.not_mem_nil, or_false] at hv; rcases hv with rfl | rfl | rfl | rfl | rfl | rfl | rfl | rfl | rfl | rfl <;> rfl) ?_
  intro w' hb o2 hz
  rw [List.take_zero, List.nil_append, List.drop_of_length_le (by simp [Cf.cells]), List.append_nil] at hb
  exact k w' ⟨hb⟩ o2 hz
theorem res_cf {n : Nat} {fn : Func} {W : World} {p : Nat} {c : Cf} {rv tv : Value} {tm : Array Value} (h : Cb W p c rv tv) (hr : fn.results = #[.cell n 28]) (hp : tm.getD n undef = .pointer (some ⟨p, 0, none⟩)) : (results fn tm).run Try.prog W = .ok (c.v rv tv) W := by
  obtain ⟨t, ht⟩ := h.blk
  have hu : ∃ f, Try.prog.underlying 28 = some (.struct f) := ⟨_, Try.underlying28⟩
  obtain ⟨f, hu⟩ := hu
  exact results_cell_row (P := Try.prog) hr tm W p t (c.cells rv tv).toArray (0, 0) _ hp ht hu rfl (by kernel_rfl)
set_option maxRecDepth 100000 in
set_option maxHeartbeats 4000000 in
theorem one_any {B : Nat} {w : World} {ra : Option Addr} {rn rc : Nat} {rules : List Op3} (n : Nat) (hn : n ≤ 8) (h : RdO B w (.slice ra rn rc) rules) (hl : rules.length ≤ 1000000) (hB : B ≤ w.heap.size) : Calls Try.prog 10 #[.int .i64 (n : Nat), .slice ra rn rc] w fun e w' => ∃ ta tn tc, e = .returned ((cf1 n rules).v (.slice ra rn rc) (.slice ta tn tc)) ∧ Rd w'.heap.size w' (cf1 n rules) (.slice ra rn rc) (.slice ta tn tc) ∧ Own elI w.heap.size w' (.slice ta tn tc) (nats n) ∧ Only [] w w' := by
  obtain ⟨q, hq⟩ : ∃ q, w.heap.size = q := ⟨_, rfl⟩
  have HL : Hid _ := hl
  have H0 : Hid (Cb (w.alloc (.cells (Cf.zero.cells (.slice none 0 0) (.slice none 0 0)).toArray 28)) q Cf.zero (.slice none 0 0) (.slice none 0 0) ∧ Only [] w (w.alloc (.cells (Cf.zero.cells (.slice none 0 0) (.slice none 0 0)).toArray 28)) ∧ RdO B (w.alloc (.cells (Cf.zero.cells (.slice none 0 0) (.slice none 0 0)).toArray 28)) (.slice ra rn rc) rules ∧ w.heap.size = q ∧ (w.alloc (.cells (Cf.zero.cells (.slice none 0 0) (.slice none 0 0)).toArray 28)).heap.size = q + 1 ∧ B ≤ q) := ⟨cb_new hq _, (Only.refl _ _).alloc _, h.only ((Only.refl [] _).alloc _) (by simp), hq, by simp [hq], by omega⟩
  clear h hB hl
  go_enter Try.func10, Try.ntmps10
  go_upto_region 0 with fail
  apply wp_region_lit
  refine op_val (w' := w.alloc (.cells (Cf.zero.cells (.slice none 0 0) (.slice none 0 0)).toArray 28)) rfl (.pointer (some ⟨w.heap.size, 0, none⟩)) (by kernel_rfl) ?_
  simp only [Act.put, List.setIfInBounds_toArray, List.set_cons_succ, List.set_cons_zero]
  refine wpList_nil ?_
  rw [hq]
  generalize w.alloc (.cells (Cf.zero.cells (.slice none 0 0) (.slice none 0 0)).toArray 28) = w1 at *
  clear hq
  go_upto_region 1 with fail
  apply wp_region_lit
  refine op_val (w' := w1) rfl (.int .i64 n) (by kernel_rfl) ?_
  simp only [Act.put, List.setIfInBounds_toArray, List.set_cons_succ, List.set_cons_zero]
  refine op_val (w' := w1) rfl (.slice ra rn rc) (by kernel_rfl) ?_
  simp only [Act.put, List.setIfInBounds_toArray, List.set_cons_succ, List.set_cons_zero]
  refine op_val (w' := w1) rfl ((cfTo n 0 rules).v (.slice ra rn rc) (.slice none 0 0)) (by kernel_rfl) ?_
  simp only [Act.put, List.setIfInBounds_toArray, List.set_cons_succ, List.set_cons_zero]
  refine op_val (w' := w1.alloc (.cells (Cf.zero.cells (.slice none 0 0) (.slice none 0 0)).toArray 28)) rfl (.pointer (some ⟨w1.heap.size, 0, none⟩)) (by kernel_rfl) ?_
  simp only [Act.put, List.setIfInBounds_toArray, List.set_cons_succ, List.set_cons_zero]
  rw [H0.out.2.2.2.2.1]
  refine op_storeCf (p := q + 1) (c := cfTo n 0 rules) (ra := ra) (rn := rn) (rc := rc) (ta := none) (tn := 0) (tc := 0) rfl (cb_new H0.out.2.2.2.2.1 _) (.tmp 5) (.tmp 9) rfl (by kernel_rfl) (by kernel_rfl) ?_
  intro w2 hb o2 hz
  have o12 : Only [] w1 w2 := ((Only.refl [] w1).alloc _).then o2 (fun x hx hl => by have h2 : x = q + 1 := (by simpa using hx); have := H0.out.2.2.2.2.1; omega)
  have H2 : Hid (Ond w w2 B q (.slice ra rn rc) (.slice none 0 0) n 0 rules) := ⟨H0.out.1.only o12 (by simp), hb, Own.nil elI _ _, H0.out.2.2.1.only o12 (by simp), H0.out.2.1.trans o12, H0.out.2.2.2.1, H0.out.2.2.2.2.2⟩
  clear H0 hb o2 hz o12
  simp only [Act.put, List.setIfInBounds_toArray, List.set_cons_succ, List.set_cons_zero]
  refine wpList_nil ?_
  go_wp2_with fail
  go_loopg [6] (n + 1) (fun gk vi wr => ∃ (i : Nat) (ta : Option Addr) (tc : Nat), vi = .int .i64 i ∧ i ≤ n ∧ n + 1 - i ≤ gk ∧ Hid (Ond w wr B q (.slice ra rn rc) (.slice ta i tc) n i rules))
  case atStart => exact ⟨0, none, 0, rfl, by omega, by omega, H2.out⟩
  case round =>
    clear H2
    obtain ⟨i, ta, tc, rfl, hi, hgk, HH⟩ := hrel
    by_cases hlt : i < n
    · have z1 : (i : Int) < (n : Int) := by omega
      go_upto_region 5 with fail
      apply wp_region_lit
      refine op_val (w' := wr) rfl (.pointer (some ⟨q + 1, 9, none⟩)) (by kernel_rfl) ?_
      simp only [Act.put, List.setIfInBounds_toArray, List.set_cons_succ, List.set_cons_zero]
      refine op_val (w' := wr) rfl (.slice ta i tc) (exec_ldI (a := ⟨q + 1, 9, none⟩) (.tmp 15) rfl (by kernel_rfl) (HH.out.conf.blk.cell 9)) ?_
      simp only [Act.put, List.setIfInBounds_toArray, List.set_cons_succ, List.set_cons_zero]
      refine op_val (w' := wr) rfl (.int .i64 i) (by kernel_rfl) ?_
      simp only [Act.put, List.setIfInBounds_toArray, List.set_cons_succ, List.set_cons_zero]
      refine op_val (w' := wr.alloc (.cells #[.int .i64 i] 3)) rfl (.slice (some ⟨wr.heap.size, 0, none⟩) 1 1) (by kernel_rfl) ?_
      simp only [Act.put, List.setIfInBounds_toArray, List.set_cons_succ, List.set_cons_zero]
      have o23 : Only [] wr (wr.alloc (.cells #[.int .i64 i] 3)) := (Only.refl _ _).alloc _
      have H3 := HH.out.then o23
      refine app_g elI_ok rfl (.tmp 16) (.tmp 18) rfl (by kernel_rfl) (by kernel_rfl) H3.toks (rdx_new elI_ok wr [(i : Int)] (by show 1 ≤ maxLen; decide)) (by rw [nats_len]; show i + 1 ≤ _; omega) (by have := H3.conf.blk.lt; omega) ?_
      intro v' w4 A
      rw [← nats_next] at A
      have hA : ∀ x ∈ (Value.slice ta i tc).ownBlock.toList, q + 2 ≤ x := fun x hx => (H3.toks.lt x (by simpa [Option.mem_toList] using hx)).1
      have H4 : Hid (Cb w4 q Cf.zero (.slice none 0 0) (.slice none 0 0) ∧ Cb w4 (q + 1) (cfTo n i rules) (.slice ra rn rc) (.slice ta i tc) ∧ Own elI (q + 2) w4 v' (nats (i + 1)) ∧ RdO B w4 (.slice ra rn rc) rules ∧ Only [] w w4) :=
        ⟨H3.res.only A.only (fun m => by have := hA _ m; omega), H3.conf.only A.only (fun m => by have := hA _ m; omega), A.row, H3.ops.only A.only (fun x hx => by have := hA _ hx; have := H3.le; omega), H3.only.then A.only (fun x hx hl => by have := hA _ hx; have := H3.base; omega)⟩
      have HB : Hid (w.heap.size = q ∧ B ≤ q) := ⟨H3.base, H3.le⟩
      obtain ⟨va, vc, hv', -, -⟩ := A.row.form
      rw [nats_len] at hv'
      subst hv'
      clear A H3 HH o23 hA
      simp only [Act.put, List.setIfInBounds_toArray, List.set_cons_succ, List.set_cons_zero]
      refine op_val (w' := w4) rfl (.pointer (some ⟨q + 1, 9, none⟩)) (by kernel_rfl) ?_
      simp only [Act.put, List.setIfInBounds_toArray, List.set_cons_succ, List.set_cons_zero]
      refine op_store1 rfl 26 (.tmp 20) (.tmp 19) rfl 9 (v := .slice va (i + 1) vc) (by kernel_rfl) (by kernel_rfl) H4.out.2.1.blk (by kernel_rfl) (by simp [Cf.cells]) rfl rfl ?_
      intro w5 hb o5 hz5
      have H5 : Hid (Ond w w5 B q (.slice ra rn rc) (.slice va (i + 1) vc) n (i + 1) rules) := by
        have hne : ∀ g, (Value.slice va (i + 1) vc).ownBlock = some g → g ∉ [q + 1] := fun g hg hm => by have := (H4.out.2.2.1.lt g hg).1; have h2 : g = q + 1 := (by simpa using hm); omega
        have hS : ∀ g ∈ [q + 1], B ≤ g := fun g hg => by have h2 : g = q + 1 := (by simpa using hg); have := HB.out.2; omega
        exact ⟨H4.out.1.only o5 (by simp), ⟨hb⟩, H4.out.2.2.1.only o5 hne, H4.out.2.2.2.1.only o5 hS, H4.out.2.2.2.2.then o5 (fun x hx hl => by have h2 : x = q + 1 := (by simpa using hx); have := HB.out.1; omega), HB.out.1, HB.out.2⟩
      clear hb o5 hz5 H4 HB
      simp only [Act.put, List.setIfInBounds_toArray, List.set_cons_succ, List.set_cons_zero]
      refine wpList_nil ?_
      go_wp2_with fail
      go_roundg (n + 1 - (i + 1))
      case measure => omega
      case rel => exact ⟨i + 1, va, vc, by go_num, by omega, by omega, H5.out⟩
    · have z1 : ¬ (i : Int) < (n : Int) := by omega
      have e : i = n := by omega
      subst e
      go_upto_region 6 with fail
      apply wp_region_lit
      refine opg_loadC (p := q + 1) (by kernel_rfl) (.tmp 5) rfl (by kernel_rfl) HH.out.conf.blk.whole ?_
      simp only [Act.put, List.setIfInBounds_toArray, List.set_cons_succ, List.set_cons_zero]
      refine op_storeCf (p := q) (c := cfTo i i rules) (ra := ra) (rn := rn) (rc := rc) (ta := ta) (tn := i) (tc := tc) rfl HH.out.res (.tmp 4) (.tmp 21) rfl (by kernel_rfl) (by kernel_rfl) ?_
      intro w6 hb o6 hz
      have hne : ∀ g, (Value.slice ta i tc).ownBlock = some g → g ∉ [q] := fun g hg hm => by have := (HH.out.toks.lt g hg).1; have h2 : g = q := (by simpa using hm); omega
      have hS : ∀ g ∈ [q], B ≤ g := fun g hg => by have h2 : g = q := (by simpa using hg); have := HH.out.le; omega
      have T6 : Own elI (q + 2) w6 (.slice ta i tc) (nats i) := HH.out.toks.only o6 hne
      have H6 : Hid (Cb w6 q (cf1 i rules) (.slice ra rn rc) (.slice ta i tc) ∧ Rd w6.heap.size w6 (cf1 i rules) (.slice ra rn rc) (.slice ta i tc) ∧ Own elI w.heap.size w6 (.slice ta i tc) (nats i) ∧ Only [] w w6) :=
        ⟨hb, ⟨(HH.out.ops.only o6 hS).upto (by have := hb.blk.lt; have := HH.out.le; omega), T6.rdn, HL.out, by show (nats i).length ≤ _; rw [nats_len]; omega⟩, T6.lower (by have := HH.out.base; omega), HH.out.only.then o6 (fun x hx hl => by have := HH.out.base; have h2 : x = q := (by simpa using hx); omega)⟩
      clear hb o6 hz HH hne hS T6
      refine wpList_nil ?_
      go_wp2_with fail
      exact bodyPost_ret (res_cf H6.out.1 Try.results10 rfl) rfl ⟨_, _, _, rfl, H6.out.2⟩
end Go.Proofs.Ytngbannidbijmaa
namespace Go.Proofs.Ytngbannidbijmaa
open Go.RowKit
set_option linter.unusedVariables false
set_option linter.unusedSimpArgs false

theorem res_cl {n : Nat} {fn : Func} {W : World} {p : Nat} {c : Cl} {tm : Array Value} (h : Blk W p c.cells) (hr : fn.results = #[.cell n 43]) (hp : tm.getD n undef = .pointer (some ⟨p, 0, none⟩)) : (results fn tm).run Try.prog W = .ok (.agg c.cells.toArray) W := by
  obtain ⟨t, ht⟩ := h
  have hu : ∃ f, Try.prog.underlying 43 = some (.struct f) := ⟨_, Try.underlying43⟩
  obtain ⟨f, hu⟩ := hu
  exact results_cell_row (P := Try.prog) hr tm W p t c.cells.toArray (0, 0) _ hp ht hu rfl (by kernel_rfl)
set_option maxRecDepth 100000 in
theorem cell_any (b x y : Int) (w : World) : Calls Try.prog 13 #[.int .i64 b, .int .i64 x, .int .i64 y] w fun e w' => e = .returned (.agg (Cl.cells ⟨true, ⟨b, x, y⟩⟩).toArray) ∧ Only [] w w' := by
  obtain ⟨q, hq⟩ : ∃ q, w.heap.size = q := ⟨_, rfl⟩
  have H0 : Hid (Only [] w (w.alloc (.cells Cl.zero.cells.toArray 43)) ∧ Blk (w.alloc (.cells Cl.zero.cells.toArray 43)) q Cl.zero.cells ∧ w.heap.size = q) := ⟨(Only.refl _ _).alloc _, hq ▸ Blk.new w _ _, hq⟩
  go_enter Try.func13, Try.ntmps13
  go_upto_region 0 with fail
  apply wp_region_lit
  refine op_val (w' := w.alloc (.cells Cl.zero.cells.toArray 43)) rfl (.pointer (some ⟨w.heap.size, 0, none⟩)) (by kernel_rfl) ?_
  simp only [Act.put, List.setIfInBounds_toArray, List.set_cons_succ, List.set_cons_zero]
  refine wpList_nil ?_
  rw [hq]
  generalize w.alloc (.cells Cl.zero.cells.toArray 43) = W at *
  clear hq
  go_upto_region 1 with fail
  apply wp_region_lit
  refine op_val (w' := W) rfl (.int .i64 b) (by kernel_rfl) ?_
  simp only [Act.put, List.setIfInBounds_toArray, List.set_cons_succ, List.set_cons_zero]
  refine op_val (w' := W) rfl (.int .i64 x) (by kernel_rfl) ?_
  simp only [Act.put, List.setIfInBounds_toArray, List.set_cons_succ, List.set_cons_zero]
  refine op_val (w' := W) rfl (.int .i64 y) (by kernel_rfl) ?_
  simp only [Act.put, List.setIfInBounds_toArray, List.set_cons_succ, List.set_cons_zero]
  refine op_val (w' := W) rfl (Inp.v ⟨b, x, y⟩) (by kernel_rfl) ?_
  simp only [Act.put, List.setIfInBounds_toArray, List.set_cons_succ, List.set_cons_zero]
  refine op_val (w' := W) rfl (.agg (Cl.cells ⟨true, ⟨b, x, y⟩⟩).toArray) (by kernel_rfl) ?_
  simp only [Act.put, List.setIfInBounds_toArray, List.set_cons_succ, List.set_cons_zero]
  refine op_store (vs := Cl.cells ⟨true, ⟨b, x, y⟩⟩) (cs := Cl.zero.cells) (b := q) rfl 43 (.tmp 6) (.tmp 11) rfl 0 (by kernel_rfl) rfl H0.out.2.1 info_cl (by simp [Cl.cells]) (elC_ok.one _) ?_
  intro w4 hb o4 hz
  have Z : Only [] w w4 := H0.out.1.then o4 (fun x hx hl => by have h2 : x = q := (by simpa using hx); have := H0.out.2.2; omega)
  have hb : Blk w4 q (Cl.cells ⟨true, ⟨b, x, y⟩⟩) := hb
  refine wpList_nil ?_
  clear H0
  go_wp2_with fail
  exact bodyPost_ret (res_cl hb Try.results13 rfl) rfl ⟨rfl, Z⟩
set_option maxRecDepth 100000 in
theorem exec_oneC {w : World} {o : Oper} {act : Act} (c : Cl) (x : Operand) (ho : o.op = .buildSlice 45 1 #[(0, x)]) (hx : act.eval x = .agg c.cells.toArray) : (execOp act.eval o).run Try.prog w = .ok (.value (.slice (some ⟨w.heap.size, 0, none⟩) 1 1)) (w.alloc (.cells c.cells.toArray 43)) := by
  obtain ⟨b0, b1, b2, b3⟩ := c
  simp only [execOp, ho, List.map_toArray, List.map_cons, List.map_nil, hx, Cl.cells]
  go_simp
theorem Rd.upto {B B' : Nat} {w : World} {c : Cf} {rv tv : Value} (h : Rd B w c rv tv) (hb : B ≤ B') : Rd B' w c rv tv := ⟨h.r.upto hb, h.t.lower hb, h.lr, h.lt⟩
def kc : Cf := cf1 1 []
def kcl : Cl := ⟨true, ⟨0, 64, 0⟩⟩
def ks : Gs := Step.step kc (Step.first kc) [kcl]
theorem ks_x : (ks.bs.getD 0 Body.zero).x = 2052 := by kernel_rfl
theorem ks_k : (ks.bs.getD 0 Body.zero).k = 1 := by kernel_rfl
theorem ks_f : ks.fr = 1 := by kernel_rfl
theorem kc_legal : Step.legal kc = true := by kernel_rfl
theorem ks_wf : Step.Wf ks := Step.step_wf (first_wf kc) _
theorem rdc_one {w : World} {g : Nat} {c : Cl} (h : Blk w g c.cells) : RdC w.heap.size w (.slice (some ⟨g, 0, none⟩) 1 1) [c] :=
  rdc_blk (xs := [c]) (ys := []) (by simpa [El.flat, elC] using h) (Nat.le_refl _) (by decide) h.lt
set_option maxRecDepth 100000 in
set_option maxHeartbeats 4000000 in
theorem known_any (w : World) : Calls Try.prog 15 #[] w fun e w' => e = .returned (.bool true) ∧ Only [] w w' := by
  have hnot : ∀ (x : Bool) (w : World), (Op.unary .not (.bool x)).run Try.prog w = .ok (.bool (!x)) w := fun _ _ => rfl
  go_enter Try.func15, Try.ntmps15
  go_upto_region 1 with fail
  apply wp_region_lit
  refine op_call (F := 10) (args := #[.int .i64 1, .slice none 0 0]) (w1 := w) rfl (by kernel_rfl) ?_
  refine (one_any (B := 0) (rules := []) 1 (by decide) ⟨none, 0, rfl, Nat.le_refl _, Or.inl rfl⟩ (by decide) (Nat.zero_le _)).mono ?_
  rintro e w1 ⟨ta, tn, tc, rfl, R1, -, o1⟩
  refine ⟨_, rfl, ?_⟩
  simp only [Act.put, List.setIfInBounds_toArray, List.set_cons_succ, List.set_cons_zero]
  refine op_val (w' := w1.alloc (.cells (Cf.zero.cells (.slice none 0 0) (.slice none 0 0)).toArray 28)) rfl (.pointer (some ⟨w1.heap.size, 0, none⟩)) (by kernel_rfl) ?_
  simp only [Act.put, List.setIfInBounds_toArray, List.set_cons_succ, List.set_cons_zero]
  obtain ⟨p, hp⟩ : ∃ p, w1.heap.size = p := ⟨_, rfl⟩
  rw [hp]
  refine op_storeCf (p := p) (c := kc) (ra := none) (rn := 0) (rc := 0) (ta := ta) (tn := tn) (tc := tc) rfl (cb_new hp _) (.tmp 1) (.tmp 3) rfl (by kernel_rfl) (by kernel_rfl) ?_
  intro w2 hb o2 hz
  have o12 : Only [] w1 w2 := ((Only.refl [] w1).alloc _).then o2 (fun x hx hl => by have h2 : x = p := (by simpa using hx); omega)
  have H2 : Hid (Cb w2 p kc (.slice none 0 0) (.slice ta tn tc) ∧ Rd p w2 kc (.slice none 0 0) (.slice ta tn tc) ∧ Only [] w w2 ∧ w.heap.size ≤ p) := ⟨hb, hp ▸ R1.only o12 (by simp), o1.trans o12, hp ▸ o1.size⟩
  clear hb R1 o1 o2 hz o12 hp
  simp only [Act.put, List.setIfInBounds_toArray, List.set_cons_succ, List.set_cons_zero]
  refine wpList_nil ?_
  go_upto_region 2 with fail
  have HV : Hid (∀ y, Only [] w2.drew y → Cb y p kc (.slice none 0 0) (.slice ta tn tc) ∧ Rd p y kc (.slice none 0 0) (.slice ta tn tc) ∧ Only [] w y ∧ p < y.heap.size ∧ w.heap.size ≤ p) := fun y hy => by
    have o := (only_drew w2).trans hy
    exact ⟨H2.out.1.only o (by simp), H2.out.2.1.only o (by simp), H2.out.2.2.1.trans o, (H2.out.1.only o (by simp)).blk.lt, H2.out.2.2.2⟩
  clear H2
  refine wp_region_free 7 (Only []) (Only.refl _) (Only.trans) [(1, .pointer (some ⟨p, 0, none⟩))] (by intro p hp; simp only [List.mem_cons, List.not_mem_nil, or_false] at hp; rcases hp with rfl <;> rfl) (by kernel_rfl) (by kernel_rfl) (by decide) (by kernel_rfl) (by kernel_rfl) ?_
  simp only [List.take_succ_cons, List.take_zero, List.drop_succ_cons, List.drop_zero]
  refine rf_val (kc.v (.slice none 0 0) (.slice ta tn tc)) (by first | rfl | exact ⟨by kernel_rfl, rfl⟩) (fun zA v hT hf => exec_loads (cs := kc.cells (.slice none 0 0) (.slice ta tn tc)) (g := p) (off := 0) 28 (.tmp 1) rfl (by simp at hf; simp [Act.eval, hf]) Try.underlying28 info_cf (HV.out v hT).1.blk.whole) ?_
  refine rf_val (kc.v (.slice none 0 0) (.slice ta tn tc)) (by first | rfl | exact ⟨by kernel_rfl, rfl⟩) (fun zA v hT hf => exec_loads (cs := kc.cells (.slice none 0 0) (.slice ta tn tc)) (g := p) (off := 0) 28 (.tmp 1) rfl (by simp at hf; simp [Act.eval, hf]) Try.underlying28 info_cf (HV.out v hT).1.blk.whole) ?_
  refine rf_eff (fun _ v => v = (Step.first kc).v) (by first | rfl | exact ⟨by kernel_rfl, rfl⟩) (fun _ _ _ _ h => h) (fun z2 y hT hf => ?_) ?_
  · simp at hf
    go_simp
    refine (first_any kc (HV.out y hT).2.1 (Nat.le_of_lt (HV.out y hT).2.2.2.1)).mono ?_
    rintro e y2 ⟨rfl, o⟩
    exact ⟨_, rfl, rfl, o⟩
  refine rf_eff (fun _ v => v = .agg kcl.cells.toArray) (by first | rfl | exact ⟨by kernel_rfl, rfl⟩) (fun _ _ _ _ h => h) (fun z2 y hT hf => ?_) ?_
  · simp at hf
    go_simp
    refine (cell_any 0 64 0 y).mono ?_
    rintro e y2 ⟨rfl, o⟩
    exact ⟨_, rfl, rfl, o⟩
  refine rf_eff (fun y v => ∃ g, v = .slice (some ⟨g, 0, none⟩) 1 1 ∧ Blk y g kcl.cells) (by first | rfl | exact ⟨by kernel_rfl, rfl⟩) (fun y y2 v hT h => ?_) (fun z2 y hT hf => ?_) ?_
  · obtain ⟨g, h1, h2⟩ := h
    exact ⟨g, h1, h2.only hT (by simp)⟩
  · have e7 : z2.eval (.tmp 7) = .agg kcl.cells.toArray := by simp at hf; simp [Act.eval, hf]
    rw [exec_oneC kcl (.tmp 7) rfl e7]
    exact ⟨⟨_, rfl, Blk.new y _ _⟩, trivial, (Only.refl _ _).alloc _⟩
  refine rf_eff (fun _ v => v = ks.v) (by first | rfl | exact ⟨by kernel_rfl, rfl⟩) (fun _ _ _ _ h => h) (fun z2 y hT hf => ?_) ?_
  · simp at hf
    obtain ⟨h1, h4, h6, ⟨g, h8, hg⟩, h7⟩ := hf
    go_simp
    refine (step_any kc (Step.first kc) ((HV.out y hT).2.1.upto (Nat.le_of_lt (HV.out y hT).2.2.2.1)) (first_wf kc) (rdc_one hg) (Nat.le_refl _)).mono ?_
    rintro e y2 ⟨rfl, o⟩
    exact ⟨_, rfl, rfl, o⟩
  refine rf_eff (fun y v => ∃ g, v = .pointer (some ⟨g, 0, none⟩) ∧ Sb y g Step.zero ∧ p < g) (by first | rfl | exact ⟨by kernel_rfl, rfl⟩) (fun y y2 v hT h => ?_) (fun z2 y hT hf => ?_) ?_
  · obtain ⟨g, h1, h2, h3⟩ := h
    exact ⟨g, h1, h2.only hT (by simp), h3⟩
  · exact ⟨⟨_, rfl, Sb.new Step.zero_wf y 37, (HV.out y hT).2.2.2.1⟩, trivial, (Only.refl _ _).alloc _⟩
  intro w3 hy
  simp only [FinA, Sp.R, forall_eq]
  simp only [Act.put, List.setIfInBounds_toArray, List.set_cons_succ, List.set_cons_zero]
  rintro v8 ⟨g8, rfl, -⟩ v2 ⟨q, rfl, hq, hql⟩
  refine op_storeS (p := q) (s := ks) rfl hq ks_wf (.tmp 2) (.tmp 9) rfl (by kernel_rfl) (by kernel_rfl) ?_
  intro w4 hb o4 hz
  have H3 := HV.out w3 hy
  have H4 : Hid (Cb w4 p kc (.slice none 0 0) (.slice ta tn tc) ∧ Rd p w4 kc (.slice none 0 0) (.slice ta tn tc) ∧ Only [] w w4 ∧ Sb w4 q ks) :=
    ⟨H3.1.only o4 (by simp; omega), H3.2.1.only o4 (fun x hx => by have h2 : x = q := (by simpa using hx); omega), H3.2.2.1.then o4 (fun x hx hl => by have h2 : x = q := (by simpa using hx); have := H3.2.2.2.2; omega), hb⟩
  clear hb o4 hz H3 hy HV hq hql
  simp only [Act.put, List.setIfInBounds_toArray, List.set_cons_succ, List.set_cons_zero]
  refine wpList_nil ?_
  go_upto_region 3 with fail
  apply wp_region_lit
  refine opg_loadC (p := p) (by kernel_rfl) (.tmp 1) rfl (by kernel_rfl) H4.out.1.blk.whole ?_
  simp only [Act.put, List.setIfInBounds_toArray, List.set_cons_succ, List.set_cons_zero]
  refine op_call (F := 16) (args := #[kc.v (.slice none 0 0) (.slice ta tn tc)]) (w1 := w4) rfl (by kernel_rfl) ?_
  refine (legal_any kc H4.out.2.1).mono ?_
  rintro x w5 ⟨rfl, o5⟩
  refine ⟨_, rfl, ?_⟩
  rw [kc_legal]
  have H5 : Hid (Only [] w w5 ∧ Sb w5 q ks) := ⟨H4.out.2.2.1.trans o5, H4.out.2.2.2.only o5 (by simp)⟩
  clear H4 o5
  have cx : w5.cell? ⟨q, 4, none⟩ = some (.int .i64 2052) := by rw [← ks_x]; exact H5.out.2.body (i := 0) (by decide) 2 _ rfl
  have ck : w5.cell? ⟨q, 2, none⟩ = some (.int .i64 1) := by rw [← ks_k]; exact H5.out.2.body (i := 0) (by decide) 0 _ rfl
  have cf : w5.cell? ⟨q, 0, none⟩ = some (.int .i64 1) := by rw [← ks_f]; exact H5.out.2.blk.cell 0
  simp only [Act.put, List.setIfInBounds_toArray, List.set_cons_succ, List.set_cons_zero]
  refine op_val (w' := w5) rfl (.bool true) (by kernel_rfl) ?_
  simp only [Act.put, List.setIfInBounds_toArray, List.set_cons_succ, List.set_cons_zero]
  refine opg_val (w' := w5) (by kernel_rfl) (.pointer (some ⟨q, 2, none⟩)) (by kernel_rfl) ?_
  simp only [Act.put, List.setIfInBounds_toArray, List.set_cons_succ, List.set_cons_zero]
  refine opg_val (w' := w5) (by kernel_rfl) (.pointer (some ⟨q, 2, none⟩)) (by kernel_rfl) ?_
  simp only [Act.put, List.setIfInBounds_toArray, List.set_cons_succ, List.set_cons_zero]
  refine opg_val (w' := w5) (by kernel_rfl) (.pointer (some ⟨q, 4, none⟩)) (by kernel_rfl) ?_
  simp only [Act.put, List.setIfInBounds_toArray, List.set_cons_succ, List.set_cons_zero]
  refine opg_val (w' := w5) (by kernel_rfl) (.int .i64 2052) (exec_int (a := ⟨q, 4, none⟩) (.tmp 15) rfl (by kernel_rfl) cx) ?_
  simp only [Act.put, List.setIfInBounds_toArray, List.set_cons_succ, List.set_cons_zero]
  refine opg_val (w' := w5) (by kernel_rfl) (.bool true) (by kernel_rfl) ?_
  simp only [Act.put, List.setIfInBounds_toArray, List.set_cons_succ, List.set_cons_zero]
  refine op_val (w' := w5) rfl (.bool true) (by kernel_rfl) ?_
  simp only [Act.put, List.setIfInBounds_toArray, List.set_cons_succ, List.set_cons_zero]
  refine op_val (w' := w5) rfl (.bool true) (by kernel_rfl) ?_
  simp only [Act.put, List.setIfInBounds_toArray, List.set_cons_succ, List.set_cons_zero]
  refine opg_val (w' := w5) (by kernel_rfl) (.pointer (some ⟨q, 0, none⟩)) (by kernel_rfl) ?_
  simp only [Act.put, List.setIfInBounds_toArray, List.set_cons_succ, List.set_cons_zero]
  refine opg_val (w' := w5) (by kernel_rfl) (.int .i64 1) (exec_int (a := ⟨q, 0, none⟩) (.tmp 20) rfl (by kernel_rfl) cf) ?_
  simp only [Act.put, List.setIfInBounds_toArray, List.set_cons_succ, List.set_cons_zero]
  refine opg_val (w' := w5) (by kernel_rfl) (.bool true) (by kernel_rfl) ?_
  simp only [Act.put, List.setIfInBounds_toArray, List.set_cons_succ, List.set_cons_zero]
  refine op_val (w' := w5) rfl (.bool true) (by kernel_rfl) ?_
  simp only [Act.put, List.setIfInBounds_toArray, List.set_cons_succ, List.set_cons_zero]
  refine op_val (w' := w5) rfl (.bool true) (by kernel_rfl) ?_
  simp only [Act.put, List.setIfInBounds_toArray, List.set_cons_succ, List.set_cons_zero]
  refine opg_val (w' := w5) (by kernel_rfl) (.pointer (some ⟨q, 2, none⟩)) (by kernel_rfl) ?_
  simp only [Act.put, List.setIfInBounds_toArray, List.set_cons_succ, List.set_cons_zero]
  refine opg_val (w' := w5) (by kernel_rfl) (.pointer (some ⟨q, 2, none⟩)) (by kernel_rfl) ?_
  simp only [Act.put, List.setIfInBounds_toArray, List.set_cons_succ, List.set_cons_zero]
  refine opg_val (w' := w5) (by kernel_rfl) (.pointer (some ⟨q, 2, none⟩)) (by kernel_rfl) ?_
  simp only [Act.put, List.setIfInBounds_toArray, List.set_cons_succ, List.set_cons_zero]
  refine opg_val (w' := w5) (by kernel_rfl) (.int .i64 1) (exec_int (a := ⟨q, 2, none⟩) (.tmp 27) rfl (by kernel_rfl) ck) ?_
  simp only [Act.put, List.setIfInBounds_toArray, List.set_cons_succ, List.set_cons_zero]
  refine opg_val (w' := w5) (by kernel_rfl) (.bool true) (by kernel_rfl) ?_
  simp only [Act.put, List.setIfInBounds_toArray, List.set_cons_succ, List.set_cons_zero]
  refine op_val (w' := w5) rfl (.bool true) (by kernel_rfl) ?_
  simp only [Act.put, List.setIfInBounds_toArray, List.set_cons_succ, List.set_cons_zero]
  refine op_val (w' := w5) rfl (.bool true) (by kernel_rfl) ?_
  simp only [Act.put, List.setIfInBounds_toArray, List.set_cons_succ, List.set_cons_zero]
  refine wpList_nil ?_
  clear cx ck cf
  go_wp2_with fail
  go_ret
  first | exact ⟨rfl, H5.out.1⟩ | exact ⟨_, rfl, H5.out.1⟩
end Go.Proofs.Ytngbannidbijmaa

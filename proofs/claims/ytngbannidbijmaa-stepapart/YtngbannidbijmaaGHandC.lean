/- The hand's Rules: such as may be. The hand's Config: legal. What came in of the hand's raw types. -/
import Derived.Test.YtngbannidbijmaaGHandR
import Derived.Test.YtngbannidbijmaaHandOp
import Derived.Test.YtngbannidbijmaaGStepOne
import Derived.Laws.Cover2
import Derived.Laws.FloatArith
import Derived.Test.YtngbannidbijmaaFrameN
namespace Go.Proofs.Ytngbannidbijmaa
open Go.RowKit
set_option linter.unusedVariables false
set_option linter.unusedSimpArgs false

/-- an op, as an element -/
def rOp : Rdr Op3 := fun _ _ cs o => cs = o.cells
theorem rOp_st : Stable rOp := ⟨fun h _ _ => h, fun h _ => h⟩
def OpOk (o : Op3) : Prop := (1 ≤ o.c ∧ o.c ≤ 13) ∧ (-1000000 ≤ o.a ∧ o.a ≤ 1000000) ∧ (-1000000 ≤ o.b ∧ o.b ≤ 1000000)
theorem ops_right {l : List Op3} (h : ∀ o ∈ l, OpOk o) (hl : l.length ≤ 16) : Rule.right l = true := by
  unfold Rule.right
  rw [Bool.and_eq_true, decide_eq_true_eq, Bool.not_eq_true', List.any_eq_false]
  refine ⟨hl, fun o ho => ?_⟩
  obtain ⟨h1, h2, h3⟩ := h o ho
  simp [Rule.wrong, Body.btw, h1, h2, h3]
theorem at_rop {g off n cap k : Nat} (hk : k < n) (w : World) : (Instr.indexAt 51 (.slice (some ⟨g, off, none⟩) n cap) (.int .i64 (k : Nat))).run Try.prog w = .ok (.pointer (some ⟨g, off + k * 3, none⟩)) w := by
  have hs : (sizeOf (Try.prog.elem 51)).run Try.prog w = .ok 3 w := by kernel_rfl
  rw [run_indexAt_slice (h := by kernel_rfl), if_pos ⟨by omega, by omega⟩, hs]
  simp [Result.andThen, Addr.add_lit]
theorem exec_atRo {w : World} {o : Oper} {act : Act} {g off n cap k : Nat} (hk : k < n) (x y : Operand) (ho : o.op = .indexAddr 51 x y) (hx : act.eval x = .slice (some ⟨g, off, none⟩) n cap) (hy : act.eval y = .int .i64 (k : Nat)) : (execOp act.eval o).run Try.prog w = .ok (.value (.pointer (some ⟨g, off + k * 3, none⟩))) w := by
  simp only [execOp, ho, hx, hy, Sem.run_bind, at_rop hk, Result.andThen_ok, Sem.run_pure]
theorem RdG.op {B : Nat} {w : World} {v : Value} {l : List Op3} (h : RdG 3 rOp B w v l) {i : Nat} {o : Op3} (ho : l[i]? = some o) : ∃ b off cap, v = .slice (some ⟨b, off, none⟩) l.length cap ∧ b < B ∧ b < w.heap.size ∧ ∀ j v, o.cells[j]? = some v → w.cell? ⟨b, off + i * 3 + j, none⟩ = some v := by
  obtain ⟨b, off, cap, h1, h2, h3, cs, rfl, hl, hc⟩ := h.get ho
  refine ⟨b, off, cap, h1, h2, h3, fun j v hj => ?_⟩
  have hj3 : j < 3 := by have := (List.getElem?_eq_some_iff.1 hj).1; simpa [Op3.cells] using this
  rw [Nat.add_assoc, hc j hj3, hj]
theorem info_op3 : (Try.prog.info? 23).map (·.size) = some 3 := by kernel_rfl
theorem info_rop : (Try.prog.info? 99).map (·.size) = some 3 := by kernel_rfl
theorem exec_ldO {w : World} {o : Oper} {act : Act} {a : Addr} {b : Option Addr} {n c : Nat} (x : Operand) (ho : o.op = .load 24 x) (hx : act.eval x = .pointer (some a)) (h : w.cell? a = some (.slice b n c)) : (execOp act.eval o).run Try.prog w = .ok (.value (.slice b n c)) w := by
  simp only [execOp, ho, hx]
  go_simp
/-- an op in a block of its own -/
structure Ob (w : World) (p : Nat) (o : Op3) : Prop where
  blk : Blk w p o.cells
theorem Ob.only {w w' : World} {p : Nat} {o : Op3} {S : List Nat} (h : Ob w p o) (k : Only S w w') (hn : p ∉ S) : Ob w' p o := ⟨h.blk.only k hn⟩
theorem op_storeO {w : World} {ops : Array Oper} {rest : List Oper} {o : Oper} {act : Act} {Q : Exit → Act → World → Prop} {p : Nat} {a0 a : Op3} (hgd : o.guard = none) (h : Ob w p a0) (x y : Operand) (ho : o.op = .store 23 x y) (hx : act.eval x = .pointer (some ⟨p, 0, none⟩)) (hy : act.eval y = a.v)
    (k : ∀ w', Ob w' p a → Only [p] w w' → w'.heap.size = w.heap.size → wpList Try.prog ops Q rest (act.put o.dst undef) w') : wpList Try.prog ops Q (o :: rest) act w := by
  refine op_store (vs := a.cells) (cs := a0.cells) hgd 23 x y ho 0 hx hy h.blk info_op3 (by simp [Op3.cells]) (by intro v hv; simp only [Op3.cells, List.mem_cons, List.not_mem_nil, or_false] at hv; rcases hv with rfl | rfl | rfl <;> rfl) ?_
  intro w' hb o2 hz
  rw [List.take_zero, List.nil_append, List.drop_of_length_le (by simp [Op3.cells]), List.append_nil] at hb
  exact k w' ⟨hb⟩ o2 hz
/-- where Rules stands -/
structure Hru (w W : World) (B : Nat) (lv ov : Value) (l : List Op3) (out : List Op3) : Prop where
  own : SO w.heap.size W ov out
  ok : ∀ o ∈ out, OpOk o
  rd : RdG 3 rOp B W lv l
  only : Only [] w W
  le : B ≤ w.heap.size
theorem Hru.then {w W W' : World} {B : Nat} {lv ov : Value} {l out : List Op3} (h : Hru w W B lv ov l out) (o : Only [] W W') : Hru w W' B lv ov l out :=
  ⟨h.own.only o (by simp), h.ok, h.rd.only rOp_st o (by simp), h.only.trans o, h.le⟩
theorem Hru.off {w W W' : World} {B t : Nat} {lv ov : Value} {l out : List Op3} (h : Hru w W B lv ov l out) (o : Only [t] W W') (ht : w.heap.size ≤ t) (hn : ov.ownBlock ≠ some t) : Hru w W' B lv ov l out :=
  ⟨h.own.only o (fun g hg hm => by have h2 : g = t := (by simpa using hm); exact hn (h2 ▸ hg)), h.ok, h.rd.only rOp_st o (fun x hx => by have h2 : x = t := (by simpa using hx); have := h.le; omega), h.only.then o (fun x hx hl => by have h2 : x = t := (by simpa using hx); omega), h.le⟩
theorem Hru.app {w W W' : World} {B : Nat} {lv ov ov' : Value} {l out : List Op3} {o : Op3} (h : Hru w W B lv ov l out) (k : OpOk o) (A : AppO w.heap.size W ov W' ov' (out ++ [o])) : Hru w W' B lv ov' l (out ++ [o]) := by
  have hA : ∀ x ∈ ov.ownBlock.toList, w.heap.size ≤ x := fun x hx => (h.own.lt x (by simpa [Option.mem_toList] using hx)).1
  refine ⟨A.row, fun a ha => ?_, h.rd.only rOp_st A.only (fun x hx => by have := hA x hx; have := h.le; omega), h.only.then A.only (fun x hx hl => by have := hA x hx; omega), h.le⟩
  rcases List.mem_append.1 ha with ha | ha
  · exact h.ok a ha
  · rw [List.mem_singleton] at ha; subst ha; exact k
set_option maxRecDepth 100000 in
set_option maxHeartbeats 4000000 in
theorem hrules_any {B : Nat} {w : World} {lv : Value} {l : List Op3} (h : RdG 3 rOp B w lv l) (hB : B ≤ w.heap.size) : Calls Try.prog 38 #[lv] w fun e w' => ∃ ra rn rc rules, e = .returned (.slice ra rn rc) ∧ SO w.heap.size w' (.slice ra rn rc) rules ∧ Rule.right rules = true ∧ Only [] w w' := by
  obtain ⟨a, cap, hv, hnc, hcap⟩ := h.form
  obtain ⟨m, hm⟩ : ∃ m, l.length = m := ⟨_, rfl⟩
  have HM : Hid (l.length = m) := hm
  rw [hm] at hv hnc
  subst hv
  have hm9 : m ≤ 9223372036854775807 := by omega
  have H0 : Hid (Hru w w B (.slice a m cap) (.slice none 0 0) l []) := ⟨SO.nil _ w, by simp, h, Only.refl _ _, hB⟩
  clear h hB hm hnc hcap
  go_enter Try.func38, Try.ntmps38
  go_wp2_with fail
  go_loopg [3, 4] 17 (fun gk vo vi wr => ∃ (i : Nat) (oa : Option Addr) (oc : Nat) (out : List Op3), vo = .slice oa i oc ∧ vi = .int .i64 i ∧ i ≤ 16 ∧ 17 - i ≤ gk ∧ Hid (Hru w wr B (.slice a m cap) (.slice oa i oc) l out ∧ out.length = i))
  case atStart => exact ⟨0, none, 0, [], rfl, rfl, by omega, by omega, H0.out, rfl⟩
  case round =>
    clear H0
    obtain ⟨i, oa, oc, out, rfl, rfl, hi, hgk, HH⟩ := hrel
    have z0 : (0 : Int) ≤ (i : Int) := by omega
    by_cases hl : i < m
    · have z2 : (i : Int) < (m : Int) := by omega
      by_cases hlt : i < 16
      · have z1 : (i : Int) < 16 := by omega
        obtain ⟨r, hr⟩ : ∃ r, l[i]? = some r := ⟨_, List.getElem?_eq_getElem (by rw [HM.out]; exact hl)⟩
        obtain ⟨b, off, cap', hv, hbB, hbl, hcz⟩ := HH.out.1.rd.op hr
        injection hv with e1 e2 e3
        subst e1 e3
        clear e2
        have CZ : Hid (∀ j v, r.cells[j]? = some v → wr.cell? ⟨b, off + i * 3 + j, none⟩ = some v) := hcz
        clear hcz hbB hbl hr
        go_upto_region 5 with fail
        apply wp_region_lit
        refine op_val (w' := wr) rfl (.slice (some ⟨b, off, none⟩) m cap) (by kernel_rfl) ?_
        simp only [Act.put, List.setIfInBounds_toArray, List.set_cons_succ, List.set_cons_zero]
        refine op_val (w' := wr) rfl (.int .i64 i) (by kernel_rfl) ?_
        simp only [Act.put, List.setIfInBounds_toArray, List.set_cons_succ, List.set_cons_zero]
        refine op_val (w' := wr) rfl (.pointer (some ⟨b, off + i * 3, none⟩)) (exec_atRo (cap := cap) hl (.tmp 16) (.tmp 17) rfl (by kernel_rfl) (by kernel_rfl)) ?_
        simp only [Act.put, List.setIfInBounds_toArray, List.set_cons_succ, List.set_cons_zero]
        refine opg_loads (by kernel_rfl) (cs := r.cells) (g := b) (off := off + i * 3) 99 (.tmp 18) rfl (by kernel_rfl) Try.underlying99 info_rop CZ.out ?_
        simp only [Act.put, List.setIfInBounds_toArray, List.set_cons_succ, List.set_cons_zero]
        refine op_call (F := 61) (args := #[r.v]) (w1 := wr) rfl (by kernel_rfl) ?_
        refine (hop_any r.c r.a r.b wr).mono ?_
        rintro e w2 ⟨⟨p, rfl⟩, o⟩
        refine ⟨_, rfl, ?_⟩
        simp only [Act.put, List.setIfInBounds_toArray, List.set_cons_succ, List.set_cons_zero]
        obtain ⟨t, ht⟩ : ∃ t, w2.heap.size = t := ⟨_, rfl⟩
        have H2 : Hid (Hru w w2 B (.slice (some ⟨b, off, none⟩) m cap) (.slice oa i oc) l out) := HH.out.1.then o
        have HL : Hid (out.length = i) := HH.out.2
        clear HH CZ o
        refine op_val (w' := w2.alloc (.cells (Op3.cells ⟨0, 0, 0⟩).toArray 23)) rfl (.pointer (some ⟨w2.heap.size, 0, none⟩)) (by kernel_rfl) ?_
        simp only [Act.put, List.setIfInBounds_toArray, List.set_cons_succ, List.set_cons_zero]
        rw [ht]
        refine op_storeO (p := t) (a := p) rfl (⟨ht ▸ Blk.new w2 _ _⟩ : Ob _ t ⟨0, 0, 0⟩) (.tmp 5) (.tmp 20) rfl (by kernel_rfl) (by kernel_rfl) ?_
        intro w3 hb3 o3 hz3
        have o23 : Only [] w2 w3 := ((Only.refl [] w2).alloc _).then o3 (fun x hx hl => by have h2 : x = t := (by simpa using hx); omega)
        have H3 : Hid (Hru w w3 B (.slice (some ⟨b, off, none⟩) m cap) (.slice oa i oc) l out ∧ Ob w3 t p ∧ w.heap.size ≤ t ∧ (Value.slice oa i oc).ownBlock ≠ some t) := ⟨H2.out.then o23, hb3, ht ▸ H2.out.only.size, fun e => by have := (H2.out.own.lt t e).2; omega⟩
        clear H2 hb3 o3 hz3 o23 ht
        simp only [Act.put, List.setIfInBounds_toArray, List.set_cons_succ, List.set_cons_zero]
        refine wpList_nil ?_
        have c0 : w3.cell? ⟨t, 0, none⟩ = some (.int .i64 p.c) := H3.out.2.1.blk.cell 0
        have c1 : w3.cell? ⟨t, 1, none⟩ = some (.int .i64 p.a) := H3.out.2.1.blk.cell 1
        have c2 : w3.cell? ⟨t, 2, none⟩ = some (.int .i64 p.b) := H3.out.2.1.blk.cell 2
        by_cases k1 : p.c < 1
        · go_upto_region 7 with fail
          clear c0 c1 c2
          apply wp_region_lit
          refine op_val (w' := w3) rfl (Op3.v ⟨13, 0, 0⟩) (by kernel_rfl) ?_
          simp only [Act.put, List.setIfInBounds_toArray, List.set_cons_succ, List.set_cons_zero]
          refine op_storeO (p := t) (a := ⟨13, 0, 0⟩) rfl H3.out.2.1 (.tmp 5) (.tmp 49) rfl (by kernel_rfl) (by kernel_rfl) ?_
          intro w4 hb4 o4 hz4
          have HC : Hid (Hru w w4 B (.slice (some ⟨b, off, none⟩) m cap) (.slice oa i oc) l out ∧ Ob w4 t ⟨13, 0, 0⟩ ∧ OpOk ⟨13, 0, 0⟩) := ⟨H3.out.1.off o4 H3.out.2.2.1 H3.out.2.2.2, hb4, by decide, by decide, by decide⟩
          clear H3 hb4 o4 hz4
          simp only [Act.put, List.setIfInBounds_toArray, List.set_cons_succ, List.set_cons_zero]
          refine wpList_nil ?_
          go_upto_region 8 with fail
          apply wp_region_lit
          refine op_val (w' := w4) rfl (.slice oa i oc) (by kernel_rfl) ?_
          simp only [Act.put, List.setIfInBounds_toArray, List.set_cons_succ, List.set_cons_zero]
          refine opg_loads (by kernel_rfl) (cs := (Op3.cells ⟨13, 0, 0⟩)) (g := t) (off := 0) 23 (.tmp 5) rfl (by kernel_rfl) Try.underlying23 info_op3 HC.out.2.1.blk.whole ?_
          simp only [Act.put, List.setIfInBounds_toArray, List.set_cons_succ, List.set_cons_zero]
          refine op_val (w' := w4.alloc (.cells (Op3.cells ⟨13, 0, 0⟩).toArray 23)) rfl (.slice (some ⟨w4.heap.size, 0, none⟩) 1 1) (by kernel_rfl) ?_
          simp only [Act.put, List.setIfInBounds_toArray, List.set_cons_succ, List.set_cons_zero]
          have H4 : Hid (Hru w (w4.alloc (.cells (Op3.cells ⟨13, 0, 0⟩).toArray 23)) B (.slice (some ⟨b, off, none⟩) m cap) (.slice oa i oc) l out) := HC.out.1.then ((Only.refl _ _).alloc _)
          refine app_o rfl (.tmp 50) (.tmp 52) rfl (by kernel_rfl) (by kernel_rfl) H4.out.own (rdp_new w4 [(⟨13, 0, 0⟩ : Op3)] (by show 1 ≤ maxLen; decide)) (by have := HL.out; show out.length + 1 ≤ _; omega) (by have := H4.out.only.size; exact this) ?_
          intro v' w5 A
          have H5 : Hid (Hru w w5 B (.slice (some ⟨b, off, none⟩) m cap) v' l (out ++ [(⟨13, 0, 0⟩ : Op3)])) := H4.out.app HC.out.2.2 A
          obtain ⟨va, vc, hv', -⟩ := A.row.form
          rw [List.length_append, HL.out] at hv'
          have hv' : v' = .slice va (i + 1) vc := hv'
          subst hv'
          clear A H4 HC
          simp only [Act.put, List.setIfInBounds_toArray, List.set_cons_succ, List.set_cons_zero]
          refine op_val (w' := w5) rfl (.slice va (i + 1) vc) (by kernel_rfl) ?_
          simp only [Act.put, List.setIfInBounds_toArray, List.set_cons_succ, List.set_cons_zero]
          refine wpList_nil ?_
          go_wp2_with fail
          go_roundg (17 - (i + 1))
          case measure => omega
          case rel => exact ⟨i + 1, va, vc, _, rfl, by go_num, by omega, by omega, H5.out, by rw [List.length_append, HL.out]; rfl⟩
        by_cases k2 : 13 < p.c
        · go_upto_region 7 with fail
          clear c0 c1 c2
          apply wp_region_lit
          refine op_val (w' := w3) rfl (Op3.v ⟨13, 0, 0⟩) (by kernel_rfl) ?_
          simp only [Act.put, List.setIfInBounds_toArray, List.set_cons_succ, List.set_cons_zero]
          refine op_storeO (p := t) (a := ⟨13, 0, 0⟩) rfl H3.out.2.1 (.tmp 5) (.tmp 49) rfl (by kernel_rfl) (by kernel_rfl) ?_
          intro w4 hb4 o4 hz4
          have HC : Hid (Hru w w4 B (.slice (some ⟨b, off, none⟩) m cap) (.slice oa i oc) l out ∧ Ob w4 t ⟨13, 0, 0⟩ ∧ OpOk ⟨13, 0, 0⟩) := ⟨H3.out.1.off o4 H3.out.2.2.1 H3.out.2.2.2, hb4, by decide, by decide, by decide⟩
          clear H3 hb4 o4 hz4
          simp only [Act.put, List.setIfInBounds_toArray, List.set_cons_succ, List.set_cons_zero]
          refine wpList_nil ?_
          go_upto_region 8 with fail
          apply wp_region_lit
          refine op_val (w' := w4) rfl (.slice oa i oc) (by kernel_rfl) ?_
          simp only [Act.put, List.setIfInBounds_toArray, List.set_cons_succ, List.set_cons_zero]
          refine opg_loads (by kernel_rfl) (cs := (Op3.cells ⟨13, 0, 0⟩)) (g := t) (off := 0) 23 (.tmp 5) rfl (by kernel_rfl) Try.underlying23 info_op3 HC.out.2.1.blk.whole ?_
          simp only [Act.put, List.setIfInBounds_toArray, List.set_cons_succ, List.set_cons_zero]
          refine op_val (w' := w4.alloc (.cells (Op3.cells ⟨13, 0, 0⟩).toArray 23)) rfl (.slice (some ⟨w4.heap.size, 0, none⟩) 1 1) (by kernel_rfl) ?_
          simp only [Act.put, List.setIfInBounds_toArray, List.set_cons_succ, List.set_cons_zero]
          have H4 : Hid (Hru w (w4.alloc (.cells (Op3.cells ⟨13, 0, 0⟩).toArray 23)) B (.slice (some ⟨b, off, none⟩) m cap) (.slice oa i oc) l out) := HC.out.1.then ((Only.refl _ _).alloc _)
          refine app_o rfl (.tmp 50) (.tmp 52) rfl (by kernel_rfl) (by kernel_rfl) H4.out.own (rdp_new w4 [(⟨13, 0, 0⟩ : Op3)] (by show 1 ≤ maxLen; decide)) (by have := HL.out; show out.length + 1 ≤ _; omega) (by have := H4.out.only.size; exact this) ?_
          intro v' w5 A
          have H5 : Hid (Hru w w5 B (.slice (some ⟨b, off, none⟩) m cap) v' l (out ++ [(⟨13, 0, 0⟩ : Op3)])) := H4.out.app HC.out.2.2 A
          obtain ⟨va, vc, hv', -⟩ := A.row.form
          rw [List.length_append, HL.out] at hv'
          have hv' : v' = .slice va (i + 1) vc := hv'
          subst hv'
          clear A H4 HC
          simp only [Act.put, List.setIfInBounds_toArray, List.set_cons_succ, List.set_cons_zero]
          refine op_val (w' := w5) rfl (.slice va (i + 1) vc) (by kernel_rfl) ?_
          simp only [Act.put, List.setIfInBounds_toArray, List.set_cons_succ, List.set_cons_zero]
          refine wpList_nil ?_
          go_wp2_with fail
          go_roundg (17 - (i + 1))
          case measure => omega
          case rel => exact ⟨i + 1, va, vc, _, rfl, by go_num, by omega, by omega, H5.out, by rw [List.length_append, HL.out]; rfl⟩
        by_cases k3 : p.a < -1000000
        · go_upto_region 7 with fail
          clear c0 c1 c2
          apply wp_region_lit
          refine op_val (w' := w3) rfl (Op3.v ⟨13, 0, 0⟩) (by kernel_rfl) ?_
          simp only [Act.put, List.setIfInBounds_toArray, List.set_cons_succ, List.set_cons_zero]
          refine op_storeO (p := t) (a := ⟨13, 0, 0⟩) rfl H3.out.2.1 (.tmp 5) (.tmp 49) rfl (by kernel_rfl) (by kernel_rfl) ?_
          intro w4 hb4 o4 hz4
          have HC : Hid (Hru w w4 B (.slice (some ⟨b, off, none⟩) m cap) (.slice oa i oc) l out ∧ Ob w4 t ⟨13, 0, 0⟩ ∧ OpOk ⟨13, 0, 0⟩) := ⟨H3.out.1.off o4 H3.out.2.2.1 H3.out.2.2.2, hb4, by decide, by decide, by decide⟩
          clear H3 hb4 o4 hz4
          simp only [Act.put, List.setIfInBounds_toArray, List.set_cons_succ, List.set_cons_zero]
          refine wpList_nil ?_
          go_upto_region 8 with fail
          apply wp_region_lit
          refine op_val (w' := w4) rfl (.slice oa i oc) (by kernel_rfl) ?_
          simp only [Act.put, List.setIfInBounds_toArray, List.set_cons_succ, List.set_cons_zero]
          refine opg_loads (by kernel_rfl) (cs := (Op3.cells ⟨13, 0, 0⟩)) (g := t) (off := 0) 23 (.tmp 5) rfl (by kernel_rfl) Try.underlying23 info_op3 HC.out.2.1.blk.whole ?_
          simp only [Act.put, List.setIfInBounds_toArray, List.set_cons_succ, List.set_cons_zero]
          refine op_val (w' := w4.alloc (.cells (Op3.cells ⟨13, 0, 0⟩).toArray 23)) rfl (.slice (some ⟨w4.heap.size, 0, none⟩) 1 1) (by kernel_rfl) ?_
          simp only [Act.put, List.setIfInBounds_toArray, List.set_cons_succ, List.set_cons_zero]
          have H4 : Hid (Hru w (w4.alloc (.cells (Op3.cells ⟨13, 0, 0⟩).toArray 23)) B (.slice (some ⟨b, off, none⟩) m cap) (.slice oa i oc) l out) := HC.out.1.then ((Only.refl _ _).alloc _)
          refine app_o rfl (.tmp 50) (.tmp 52) rfl (by kernel_rfl) (by kernel_rfl) H4.out.own (rdp_new w4 [(⟨13, 0, 0⟩ : Op3)] (by show 1 ≤ maxLen; decide)) (by have := HL.out; show out.length + 1 ≤ _; omega) (by have := H4.out.only.size; exact this) ?_
          intro v' w5 A
          have H5 : Hid (Hru w w5 B (.slice (some ⟨b, off, none⟩) m cap) v' l (out ++ [(⟨13, 0, 0⟩ : Op3)])) := H4.out.app HC.out.2.2 A
          obtain ⟨va, vc, hv', -⟩ := A.row.form
          rw [List.length_append, HL.out] at hv'
          have hv' : v' = .slice va (i + 1) vc := hv'
          subst hv'
          clear A H4 HC
          simp only [Act.put, List.setIfInBounds_toArray, List.set_cons_succ, List.set_cons_zero]
          refine op_val (w' := w5) rfl (.slice va (i + 1) vc) (by kernel_rfl) ?_
          simp only [Act.put, List.setIfInBounds_toArray, List.set_cons_succ, List.set_cons_zero]
          refine wpList_nil ?_
          go_wp2_with fail
          go_roundg (17 - (i + 1))
          case measure => omega
          case rel => exact ⟨i + 1, va, vc, _, rfl, by go_num, by omega, by omega, H5.out, by rw [List.length_append, HL.out]; rfl⟩
        by_cases k4 : 1000000 < p.a
        · go_upto_region 7 with fail
          clear c0 c1 c2
          apply wp_region_lit
          refine op_val (w' := w3) rfl (Op3.v ⟨13, 0, 0⟩) (by kernel_rfl) ?_
          simp only [Act.put, List.setIfInBounds_toArray, List.set_cons_succ, List.set_cons_zero]
          refine op_storeO (p := t) (a := ⟨13, 0, 0⟩) rfl H3.out.2.1 (.tmp 5) (.tmp 49) rfl (by kernel_rfl) (by kernel_rfl) ?_
          intro w4 hb4 o4 hz4
          have HC : Hid (Hru w w4 B (.slice (some ⟨b, off, none⟩) m cap) (.slice oa i oc) l out ∧ Ob w4 t ⟨13, 0, 0⟩ ∧ OpOk ⟨13, 0, 0⟩) := ⟨H3.out.1.off o4 H3.out.2.2.1 H3.out.2.2.2, hb4, by decide, by decide, by decide⟩
          clear H3 hb4 o4 hz4
          simp only [Act.put, List.setIfInBounds_toArray, List.set_cons_succ, List.set_cons_zero]
          refine wpList_nil ?_
          go_upto_region 8 with fail
          apply wp_region_lit
          refine op_val (w' := w4) rfl (.slice oa i oc) (by kernel_rfl) ?_
          simp only [Act.put, List.setIfInBounds_toArray, List.set_cons_succ, List.set_cons_zero]
          refine opg_loads (by kernel_rfl) (cs := (Op3.cells ⟨13, 0, 0⟩)) (g := t) (off := 0) 23 (.tmp 5) rfl (by kernel_rfl) Try.underlying23 info_op3 HC.out.2.1.blk.whole ?_
          simp only [Act.put, List.setIfInBounds_toArray, List.set_cons_succ, List.set_cons_zero]
          refine op_val (w' := w4.alloc (.cells (Op3.cells ⟨13, 0, 0⟩).toArray 23)) rfl (.slice (some ⟨w4.heap.size, 0, none⟩) 1 1) (by kernel_rfl) ?_
          simp only [Act.put, List.setIfInBounds_toArray, List.set_cons_succ, List.set_cons_zero]
          have H4 : Hid (Hru w (w4.alloc (.cells (Op3.cells ⟨13, 0, 0⟩).toArray 23)) B (.slice (some ⟨b, off, none⟩) m cap) (.slice oa i oc) l out) := HC.out.1.then ((Only.refl _ _).alloc _)
          refine app_o rfl (.tmp 50) (.tmp 52) rfl (by kernel_rfl) (by kernel_rfl) H4.out.own (rdp_new w4 [(⟨13, 0, 0⟩ : Op3)] (by show 1 ≤ maxLen; decide)) (by have := HL.out; show out.length + 1 ≤ _; omega) (by have := H4.out.only.size; exact this) ?_
          intro v' w5 A
          have H5 : Hid (Hru w w5 B (.slice (some ⟨b, off, none⟩) m cap) v' l (out ++ [(⟨13, 0, 0⟩ : Op3)])) := H4.out.app HC.out.2.2 A
          obtain ⟨va, vc, hv', -⟩ := A.row.form
          rw [List.length_append, HL.out] at hv'
          have hv' : v' = .slice va (i + 1) vc := hv'
          subst hv'
          clear A H4 HC
          simp only [Act.put, List.setIfInBounds_toArray, List.set_cons_succ, List.set_cons_zero]
          refine op_val (w' := w5) rfl (.slice va (i + 1) vc) (by kernel_rfl) ?_
          simp only [Act.put, List.setIfInBounds_toArray, List.set_cons_succ, List.set_cons_zero]
          refine wpList_nil ?_
          go_wp2_with fail
          go_roundg (17 - (i + 1))
          case measure => omega
          case rel => exact ⟨i + 1, va, vc, _, rfl, by go_num, by omega, by omega, H5.out, by rw [List.length_append, HL.out]; rfl⟩
        by_cases k5 : p.b < -1000000
        · go_upto_region 7 with fail
          clear c0 c1 c2
          apply wp_region_lit
          refine op_val (w' := w3) rfl (Op3.v ⟨13, 0, 0⟩) (by kernel_rfl) ?_
          simp only [Act.put, List.setIfInBounds_toArray, List.set_cons_succ, List.set_cons_zero]
          refine op_storeO (p := t) (a := ⟨13, 0, 0⟩) rfl H3.out.2.1 (.tmp 5) (.tmp 49) rfl (by kernel_rfl) (by kernel_rfl) ?_
          intro w4 hb4 o4 hz4
          have HC : Hid (Hru w w4 B (.slice (some ⟨b, off, none⟩) m cap) (.slice oa i oc) l out ∧ Ob w4 t ⟨13, 0, 0⟩ ∧ OpOk ⟨13, 0, 0⟩) := ⟨H3.out.1.off o4 H3.out.2.2.1 H3.out.2.2.2, hb4, by decide, by decide, by decide⟩
          clear H3 hb4 o4 hz4
          simp only [Act.put, List.setIfInBounds_toArray, List.set_cons_succ, List.set_cons_zero]
          refine wpList_nil ?_
          go_upto_region 8 with fail
          apply wp_region_lit
          refine op_val (w' := w4) rfl (.slice oa i oc) (by kernel_rfl) ?_
          simp only [Act.put, List.setIfInBounds_toArray, List.set_cons_succ, List.set_cons_zero]
          refine opg_loads (by kernel_rfl) (cs := (Op3.cells ⟨13, 0, 0⟩)) (g := t) (off := 0) 23 (.tmp 5) rfl (by kernel_rfl) Try.underlying23 info_op3 HC.out.2.1.blk.whole ?_
          simp only [Act.put, List.setIfInBounds_toArray, List.set_cons_succ, List.set_cons_zero]
          refine op_val (w' := w4.alloc (.cells (Op3.cells ⟨13, 0, 0⟩).toArray 23)) rfl (.slice (some ⟨w4.heap.size, 0, none⟩) 1 1) (by kernel_rfl) ?_
          simp only [Act.put, List.setIfInBounds_toArray, List.set_cons_succ, List.set_cons_zero]
          have H4 : Hid (Hru w (w4.alloc (.cells (Op3.cells ⟨13, 0, 0⟩).toArray 23)) B (.slice (some ⟨b, off, none⟩) m cap) (.slice oa i oc) l out) := HC.out.1.then ((Only.refl _ _).alloc _)
          refine app_o rfl (.tmp 50) (.tmp 52) rfl (by kernel_rfl) (by kernel_rfl) H4.out.own (rdp_new w4 [(⟨13, 0, 0⟩ : Op3)] (by show 1 ≤ maxLen; decide)) (by have := HL.out; show out.length + 1 ≤ _; omega) (by have := H4.out.only.size; exact this) ?_
          intro v' w5 A
          have H5 : Hid (Hru w w5 B (.slice (some ⟨b, off, none⟩) m cap) v' l (out ++ [(⟨13, 0, 0⟩ : Op3)])) := H4.out.app HC.out.2.2 A
          obtain ⟨va, vc, hv', -⟩ := A.row.form
          rw [List.length_append, HL.out] at hv'
          have hv' : v' = .slice va (i + 1) vc := hv'
          subst hv'
          clear A H4 HC
          simp only [Act.put, List.setIfInBounds_toArray, List.set_cons_succ, List.set_cons_zero]
          refine op_val (w' := w5) rfl (.slice va (i + 1) vc) (by kernel_rfl) ?_
          simp only [Act.put, List.setIfInBounds_toArray, List.set_cons_succ, List.set_cons_zero]
          refine wpList_nil ?_
          go_wp2_with fail
          go_roundg (17 - (i + 1))
          case measure => omega
          case rel => exact ⟨i + 1, va, vc, _, rfl, by go_num, by omega, by omega, H5.out, by rw [List.length_append, HL.out]; rfl⟩
        by_cases k6 : 1000000 < p.b
        · go_upto_region 7 with fail
          clear c0 c1 c2
          apply wp_region_lit
          refine op_val (w' := w3) rfl (Op3.v ⟨13, 0, 0⟩) (by kernel_rfl) ?_
          simp only [Act.put, List.setIfInBounds_toArray, List.set_cons_succ, List.set_cons_zero]
          refine op_storeO (p := t) (a := ⟨13, 0, 0⟩) rfl H3.out.2.1 (.tmp 5) (.tmp 49) rfl (by kernel_rfl) (by kernel_rfl) ?_
          intro w4 hb4 o4 hz4
          have HC : Hid (Hru w w4 B (.slice (some ⟨b, off, none⟩) m cap) (.slice oa i oc) l out ∧ Ob w4 t ⟨13, 0, 0⟩ ∧ OpOk ⟨13, 0, 0⟩) := ⟨H3.out.1.off o4 H3.out.2.2.1 H3.out.2.2.2, hb4, by decide, by decide, by decide⟩
          clear H3 hb4 o4 hz4
          simp only [Act.put, List.setIfInBounds_toArray, List.set_cons_succ, List.set_cons_zero]
          refine wpList_nil ?_
          go_upto_region 8 with fail
          apply wp_region_lit
          refine op_val (w' := w4) rfl (.slice oa i oc) (by kernel_rfl) ?_
          simp only [Act.put, List.setIfInBounds_toArray, List.set_cons_succ, List.set_cons_zero]
          refine opg_loads (by kernel_rfl) (cs := (Op3.cells ⟨13, 0, 0⟩)) (g := t) (off := 0) 23 (.tmp 5) rfl (by kernel_rfl) Try.underlying23 info_op3 HC.out.2.1.blk.whole ?_
          simp only [Act.put, List.setIfInBounds_toArray, List.set_cons_succ, List.set_cons_zero]
          refine op_val (w' := w4.alloc (.cells (Op3.cells ⟨13, 0, 0⟩).toArray 23)) rfl (.slice (some ⟨w4.heap.size, 0, none⟩) 1 1) (by kernel_rfl) ?_
          simp only [Act.put, List.setIfInBounds_toArray, List.set_cons_succ, List.set_cons_zero]
          have H4 : Hid (Hru w (w4.alloc (.cells (Op3.cells ⟨13, 0, 0⟩).toArray 23)) B (.slice (some ⟨b, off, none⟩) m cap) (.slice oa i oc) l out) := HC.out.1.then ((Only.refl _ _).alloc _)
          refine app_o rfl (.tmp 50) (.tmp 52) rfl (by kernel_rfl) (by kernel_rfl) H4.out.own (rdp_new w4 [(⟨13, 0, 0⟩ : Op3)] (by show 1 ≤ maxLen; decide)) (by have := HL.out; show out.length + 1 ≤ _; omega) (by have := H4.out.only.size; exact this) ?_
          intro v' w5 A
          have H5 : Hid (Hru w w5 B (.slice (some ⟨b, off, none⟩) m cap) v' l (out ++ [(⟨13, 0, 0⟩ : Op3)])) := H4.out.app HC.out.2.2 A
          obtain ⟨va, vc, hv', -⟩ := A.row.form
          rw [List.length_append, HL.out] at hv'
          have hv' : v' = .slice va (i + 1) vc := hv'
          subst hv'
          clear A H4 HC
          simp only [Act.put, List.setIfInBounds_toArray, List.set_cons_succ, List.set_cons_zero]
          refine op_val (w' := w5) rfl (.slice va (i + 1) vc) (by kernel_rfl) ?_
          simp only [Act.put, List.setIfInBounds_toArray, List.set_cons_succ, List.set_cons_zero]
          refine wpList_nil ?_
          go_wp2_with fail
          go_roundg (17 - (i + 1))
          case measure => omega
          case rel => exact ⟨i + 1, va, vc, _, rfl, by go_num, by omega, by omega, H5.out, by rw [List.length_append, HL.out]; rfl⟩
        have HC : Hid (Hru w w3 B (.slice (some ⟨b, off, none⟩) m cap) (.slice oa i oc) l out ∧ Ob w3 t p ∧ OpOk p) := ⟨H3.out.1, H3.out.2.1, ⟨by omega, by omega⟩, ⟨by omega, by omega⟩, ⟨by omega, by omega⟩⟩
        go_upto_region 8 with fail
        clear H3 c0 c1 c2
        apply wp_region_lit
        refine op_val (w' := w3) rfl (.slice oa i oc) (by kernel_rfl) ?_
        simp only [Act.put, List.setIfInBounds_toArray, List.set_cons_succ, List.set_cons_zero]
        refine opg_loads (by kernel_rfl) (cs := p.cells) (g := t) (off := 0) 23 (.tmp 5) rfl (by kernel_rfl) Try.underlying23 info_op3 HC.out.2.1.blk.whole ?_
        simp only [Act.put, List.setIfInBounds_toArray, List.set_cons_succ, List.set_cons_zero]
        refine op_val (w' := w3.alloc (.cells p.cells.toArray 23)) rfl (.slice (some ⟨w3.heap.size, 0, none⟩) 1 1) (by kernel_rfl) ?_
        simp only [Act.put, List.setIfInBounds_toArray, List.set_cons_succ, List.set_cons_zero]
        have H4 : Hid (Hru w (w3.alloc (.cells p.cells.toArray 23)) B (.slice (some ⟨b, off, none⟩) m cap) (.slice oa i oc) l out) := HC.out.1.then ((Only.refl _ _).alloc _)
        refine app_o rfl (.tmp 50) (.tmp 52) rfl (by kernel_rfl) (by kernel_rfl) H4.out.own (rdp_new w3 [p] (by show 1 ≤ maxLen; decide)) (by have := HL.out; show out.length + 1 ≤ _; omega) (by have := H4.out.only.size; exact this) ?_
        intro v' w5 A
        have H5 : Hid (Hru w w5 B (.slice (some ⟨b, off, none⟩) m cap) v' l (out ++ [p])) := H4.out.app HC.out.2.2 A
        obtain ⟨va, vc, hv', -⟩ := A.row.form
        rw [List.length_append, HL.out] at hv'
        have hv' : v' = .slice va (i + 1) vc := hv'
        subst hv'
        clear A H4 HC
        simp only [Act.put, List.setIfInBounds_toArray, List.set_cons_succ, List.set_cons_zero]
        refine op_val (w' := w5) rfl (.slice va (i + 1) vc) (by kernel_rfl) ?_
        simp only [Act.put, List.setIfInBounds_toArray, List.set_cons_succ, List.set_cons_zero]
        refine wpList_nil ?_
        go_wp2_with fail
        go_roundg (17 - (i + 1))
        case measure => omega
        case rel => exact ⟨i + 1, va, vc, _, rfl, by go_num, by omega, by omega, H5.out, by rw [List.length_append, HL.out]; rfl⟩
      · have z1 : ¬ (i : Int) < 16 := by omega
        have E : Hid _ := HH.out.1
        have HL : Hid (out.length = i) := HH.out.2
        go_wp2_with fail
        go_ret
        first | exact ⟨_, _, _, rfl, out, E.out.own, ops_right E.out.ok (by have := HL.out; omega), E.out.only⟩ | exact ⟨_, _, _, out, rfl, E.out.own, ops_right E.out.ok (by have := HL.out; omega), E.out.only⟩
    · have z2 : ¬ (i : Int) < (m : Int) := by omega
      have E : Hid _ := HH.out.1
      have HL : Hid (out.length = i) := HH.out.2
      go_wp2_with fail
      go_ret
      first | exact ⟨_, _, _, rfl, out, E.out.own, ops_right E.out.ok (by have := HL.out; omega), E.out.only⟩ | exact ⟨_, _, _, out, rfl, E.out.own, ops_right E.out.ok (by have := HL.out; omega), E.out.only⟩
end Go.Proofs.Ytngbannidbijmaa
namespace Go.Proofs.Ytngbannidbijmaa
open Go.RowKit
set_option linter.unusedVariables false
set_option linter.unusedSimpArgs false

/-- a raw config: seven numbers, and raw ops -/
structure Rcf where
  pl : Int
  pe : Int
  gr : Int
  st : Int
  fr : Int
  sd : Int
  ra : Int
def Rcf.cells (r : Rcf) (lv : Value) : List Value := [.int .i64 r.pl, .int .i64 r.pe, .int .i64 r.gr, .int .i64 r.st, .int .i64 r.fr, .int .i64 r.sd, .int .i64 r.ra, lv]
abbrev Rcf.v (r : Rcf) (lv : Value) : Value := .agg #[.int .i64 r.pl, .int .i64 r.pe, .int .i64 r.gr, .int .i64 r.st, .int .i64 r.fr, .int .i64 r.sd, .int .i64 r.ra, lv]
def I64 (n : Int) : Prop := -9223372036854775808 ≤ n ∧ n ≤ 9223372036854775807
structure Rcf.Ok (r : Rcf) : Prop where
  pl : I64 r.pl
  sd : I64 r.sd
  ra : I64 r.ra
def toksOf (r : Rcf) (n : Nat) : List Int := List.map (fun i : Nat => r.sd.tdiv 3 % 1000000 * 10 + (i : Int)) (List.range n)
theorem toksOf_len (r : Rcf) (n : Nat) : (toksOf r n).length = n := by simp [toksOf]
theorem toksOf_next (r : Rcf) (n : Nat) : toksOf r (n + 1) = toksOf r n ++ [r.sd.tdiv 3 % 1000000 * 10 + (n : Int)] := by simp [toksOf, List.range_succ]
theorem toksOf_get (r : Rcf) (n k : Nat) (h : k < n) : (toksOf r n).getD k 0 = r.sd.tdiv 3 % 1000000 * 10 + (k : Int) := by
  simp [toksOf, List.getD_eq_getElem?_getD, h]
theorem toksOf_ok (r : Rcf) (n : Nat) (hn : n ≤ 8) : ∀ k, k ≤ n → Step.tokens (toksOf r n) k = true := by
  intro k
  induction k with
  | zero => intro _; rfl
  | succ k ih =>
    intro hk
    rw [Step.tokens, ih (by omega), toksOf_get r n k (by omega)]
    simp only [Bool.true_and, Bool.and_eq_true, Body.btw, decide_eq_true_eq, Bool.not_eq_true']
    refine ⟨by omega, ?_⟩
    rw [List.contains_eq_mem, decide_eq_false_iff_not]
    intro hm
    obtain ⟨i, hi, e⟩ := List.getElem_of_mem hm
    rw [List.length_take, toksOf_len] at hi
    rw [List.getElem_take] at e
    simp [toksOf] at e
    omega
/-- rates and depths -/
def ratT (k : Nat) : Bool := match floatBits .quo .f64 (floatOfInt .f64 (k : Int)) 4616189618054758400 with
  | some z => Step.rate z
  | none => false
theorem ratT_all : (List.range 9).all ratT = true := by kernel_rfl
theorem rate_ok {k : Int} (h : 0 ≤ k ∧ k < 9) : ∃ z, floatBits .quo .f64 (floatOfInt .f64 k) 4616189618054758400 = some z ∧ Step.rate z = true := by
  have := List.all_eq_true.1 ratT_all k.toNat (by rw [List.mem_range]; omega)
  unfold ratT at this
  rw [show ((k.toNat : Nat) : Int) = k by omega] at this
  split at this
  · exact ⟨_, by assumption, this⟩
  · cases this
def depT (k : Nat) : Bool := match floatBits .quo .f64 (floatOfInt .f64 (k : Int)) 4611686018427387904 with
  | some h => (match floatBits .add .f64 4607182418800017408 h with | some z => Step.depth z | none => false)
  | none => false
theorem depT_all : (List.range 40).all depT = true := by kernel_rfl
theorem depth_ok {k : Int} (h : 0 ≤ k ∧ k < 40) : ∃ a z, floatBits .quo .f64 (floatOfInt .f64 k) 4611686018427387904 = some a ∧ floatBits .add .f64 4607182418800017408 a = some z ∧ Step.depth z = true := by
  have := List.all_eq_true.1 depT_all k.toNat (by rw [List.mem_range]; omega)
  unfold depT at this
  rw [show ((k.toNat : Nat) : Int) = k by omega] at this
  split at this
  · split at this
    · exact ⟨_, _, by assumption, by assumption, this⟩
    · cases this
  · cases this
theorem exec_cf {w : World} {o : Oper} {act : Act} {n : Int} (x : Operand) (s : TypeId) (hs : (Try.prog.underlying s).isSome = true) (ho : o.op = .convert s 25 x) (hx : act.eval x = .int .i64 n) : (execOp act.eval o).run Try.prog w = .ok (.value (.float .f64 (floatOfInt .f64 n))) w := by
  simp only [execOp, ho, hx, Sem.run_bind, run_convert_int_float (P := Try.prog) w s 25 .i64 .f64 n hs Try.underlying25, Result.andThen_ok, Sem.run_pure]
theorem info_rc : (Try.prog.info? 53).map (·.size) = some 8 := by kernel_rfl
theorem exec_ldR {w : World} {o : Oper} {act : Act} {a : Addr} {b : Option Addr} {n c : Nat} (x : Operand) (ho : o.op = .load 51 x) (hx : act.eval x = .pointer (some a)) (h : w.cell? a = some (.slice b n c)) : (execOp act.eval o).run Try.prog w = .ok (.value (.slice b n c)) w := by
  simp only [execOp, ho, hx]
  go_simp
set_option maxRecDepth 100000 in
theorem exec_oneI {w : World} {o : Oper} {act : Act} (n : Int) (x : Operand) (ho : o.op = .buildSlice 26 1 #[(0, x)]) (hx : act.eval x = .int .i64 n) : (execOp act.eval o).run Try.prog w = .ok (.value (.slice (some ⟨w.heap.size, 0, none⟩) 1 1)) (w.alloc (.cells #[.int .i64 n] 3)) := by
  simp only [execOp, ho, List.map_toArray, List.map_cons, List.map_nil, hx]
  go_simp
theorem rdx_blk {α : Type} {E : El α} (k : E.Ok) {w : World} {g : Nat} {xs : List α} (h : Blk w g (E.flat xs)) (hl : xs.length ≤ maxLen) : Rdx E w (.slice (some ⟨g, 0, none⟩) xs.length xs.length) xs :=
  ⟨_, xs.length, rfl, Nat.le_refl _, hl, Or.inr ⟨g, 0, rfl, h.lt, fun j u hj => by rw [Nat.zero_add, h.cell j]; exact hj⟩⟩
/-- a config whose numbers are fine, but for what is not laid yet -/
structure Cok (c : Cf) : Prop where
  pl : 1 ≤ c.pl ∧ c.pl ≤ 8
  pe : 1 ≤ c.pe ∧ c.pe ≤ 8
  gr : 0 ≤ c.gr ∧ c.gr ≤ 60
  st : 0 ≤ c.st ∧ c.st ≤ 100
  fr : 5 ≤ c.fr ∧ c.fr ≤ 600
  sd : 0 ≤ c.sd ∧ c.sd ≤ 2147483647
def c0 (r : Rcf) : Cf := ⟨1 + r.pl % 4, 1 + r.pe % 3, r.gr % 8, r.st % 6, 5 + r.fr % 90, r.sd % 2147483648, 0, 0, [], []⟩
theorem c0_ok (r : Rcf) : Cok (c0 r) := ⟨by show 1 ≤ 1 + r.pl % 4 ∧ 1 + r.pl % 4 ≤ 8; omega, by show 1 ≤ 1 + r.pe % 3 ∧ 1 + r.pe % 3 ≤ 8; omega, by show 0 ≤ r.gr % 8 ∧ r.gr % 8 ≤ 60; omega, by show 0 ≤ r.st % 6 ∧ r.st % 6 ≤ 100; omega, by show 5 ≤ 5 + r.fr % 90 ∧ 5 + r.fr % 90 ≤ 600; omega, by show 0 ≤ r.sd % 2147483648 ∧ r.sd % 2147483648 ≤ 2147483647; omega⟩
/-- where Config stands, ahead of its rules -/
structure Hcf (w W : World) (B q p : Nat) (r : Rcf) (lv : Value) (l : List Op3) (c : Cf) (rv tv : Value) : Prop where
  raw : Blk W q (r.cells lv)
  res : Cb W (q + 1) Cf.zero (.slice none 0 0) (.slice none 0 0)
  conf : Cb W p c rv tv
  rd : RdG 3 rOp B W lv l
  only : Only [] w W
  base : w.heap.size = q
  lt : q + 1 < p
  le : B ≤ q
theorem Hcf.then {w W W' : World} {B q p : Nat} {r : Rcf} {lv rv tv : Value} {l : List Op3} {c : Cf} (h : Hcf w W B q p r lv l c rv tv) (o : Only [] W W') : Hcf w W' B q p r lv l c rv tv :=
  ⟨h.raw.only o (by simp), h.res.only o (by simp), h.conf.only o (by simp), h.rd.only rOp_st o (by simp), h.only.trans o, h.base, h.lt, h.le⟩
theorem Hcf.put {w W W' : World} {B q p : Nat} {r : Rcf} {lv rv tv rv' tv' : Value} {l : List Op3} {c c' : Cf} (h : Hcf w W B q p r lv l c rv tv) (hb : Blk W' p (c'.cells rv' tv')) (o : Only [p] W W') : Hcf w W' B q p r lv l c' rv' tv' := by
  have h1 := h.lt
  have h2 := h.le
  have h3 := h.base
  exact ⟨h.raw.only o (by simp; omega), h.res.only o (by simp; omega), ⟨hb⟩, h.rd.only rOp_st o (fun x hx => by have h2 : x = p := (by simpa using hx); omega), h.only.then o (fun x hx hl => by have h2 : x = p := (by simpa using hx); omega), h.base, h.lt, h.le⟩
set_option maxRecDepth 100000 in
set_option maxHeartbeats 4000000 in
theorem hconfig_any {B : Nat} {w : World} {r : Rcf} {lv : Value} {l : List Op3} (ok : r.Ok) (h : RdG 3 rOp B w lv l) (hB : B ≤ w.heap.size) : Calls Try.prog 18 #[r.v lv] w fun e w' => ∃ c ra rn rc ta tn tc, e = .returned (c.v (.slice ra rn rc) (.slice ta tn tc)) ∧ Step.legal c = true ∧ 5 ≤ c.fr ∧ Rd w'.heap.size w' c (.slice ra rn rc) (.slice ta tn tc) ∧ Only [] w w' := by
  obtain ⟨q, hq⟩ : ∃ q, w.heap.size = q := ⟨_, rfl⟩
  obtain ⟨la, lc, hlv, -, -⟩ := h.form
  generalize l.length = ln at hlv
  subst hlv
  have H0 : Hid (Blk ((w.alloc (.cells (r.cells (.slice la ln lc)).toArray 53)).alloc (.cells (Cf.zero.cells (.slice none 0 0) (.slice none 0 0)).toArray 28)) q (r.cells (.slice la ln lc)) ∧ Cb ((w.alloc (.cells (r.cells (.slice la ln lc)).toArray 53)).alloc (.cells (Cf.zero.cells (.slice none 0 0) (.slice none 0 0)).toArray 28)) (q + 1) Cf.zero (.slice none 0 0) (.slice none 0 0) ∧ RdG 3 rOp B ((w.alloc (.cells (r.cells (.slice la ln lc)).toArray 53)).alloc (.cells (Cf.zero.cells (.slice none 0 0) (.slice none 0 0)).toArray 28)) (.slice la ln lc) l ∧ Only [] w ((w.alloc (.cells (r.cells (.slice la ln lc)).toArray 53)).alloc (.cells (Cf.zero.cells (.slice none 0 0) (.slice none 0 0)).toArray 28)) ∧ w.heap.size = q ∧ B ≤ q) :=
    ⟨hq ▸ (Blk.new w _ _).only ((Only.refl [] _).alloc _) (by simp), cb_new (by simp [hq]) _, h.only rOp_st (((Only.refl [] _).alloc _).alloc _) (by simp), ((Only.refl [] _).alloc _).alloc _, hq, hq ▸ hB⟩
  have OK : Hid _ := ok
  clear h hB ok
  go_enter Try.func18, Try.ntmps18
  go_upto_region 0 with fail
  apply wp_region_lit
  refine op_val (w' := w.alloc (.cells (r.cells (.slice la ln lc)).toArray 53)) rfl (.pointer (some ⟨w.heap.size, 0, none⟩)) (by kernel_rfl) ?_
  simp only [Act.put, List.setIfInBounds_toArray, List.set_cons_succ, List.set_cons_zero]
  refine op_val (w' := (w.alloc (.cells (r.cells (.slice la ln lc)).toArray 53)).alloc (.cells (Cf.zero.cells (.slice none 0 0) (.slice none 0 0)).toArray 28)) rfl (.pointer (some ⟨(w.alloc (.cells (r.cells (.slice la ln lc)).toArray 53)).heap.size, 0, none⟩)) (by kernel_rfl) ?_
  simp only [Act.put, List.setIfInBounds_toArray, List.set_cons_succ, List.set_cons_zero]
  refine wpList_nil ?_
  rw [show (w.alloc (.cells (r.cells (.slice la ln lc)).toArray 53)).heap.size = q + 1 by simp [hq], hq]
  generalize (w.alloc (.cells (r.cells (.slice la ln lc)).toArray 53)).alloc (.cells (Cf.zero.cells (.slice none 0 0) (.slice none 0 0)).toArray 28) = W at *
  clear hq
  go_upto_region 1 with fail
  have HV : Hid (∀ y, Only [] W.drew y → Blk y q (r.cells (.slice la ln lc)) ∧ q + 1 < y.heap.size) := fun y hy => by
    have o := (only_drew W).trans hy
    exact ⟨H0.out.1.only o (by simp), (H0.out.2.1.only o (by simp)).blk.lt⟩
  have p4 : IntKind.i64.wrap (1 + r.pl % 4) = 1 + r.pl % 4 := IntWalk.i64_in _ (by omega)
  have p3 : IntKind.i64.wrap (1 + r.pe % 3) = 1 + r.pe % 3 := IntWalk.i64_in _ (by omega)
  have p5 : IntKind.i64.wrap (5 + r.fr % 90) = 5 + r.fr % 90 := IntWalk.i64_in _ (by omega)
  refine wp_region_free 23 (Only []) (Only.refl _) (Only.trans) [(1, .pointer (some ⟨q, 0, none⟩))] (by intro p hp; simp only [List.mem_cons, List.not_mem_nil, or_false] at hp; rcases hp with rfl <;> rfl) (by kernel_rfl) (by kernel_rfl) (by decide) (by kernel_rfl) (by kernel_rfl) ?_
  simp only [List.take_succ_cons, List.take_zero, List.drop_succ_cons, List.drop_zero]
  refine rf_val (.pointer (some ⟨q, 0, none⟩)) (by first | rfl | exact ⟨by kernel_rfl, rfl⟩) (fun zA v hT hf => ?_) ?_
  · skip
    simp at hf
    go_simp
    try rfl
  refine rf_val (.int .i64 r.pl) (by first | rfl | exact ⟨by kernel_rfl, rfl⟩) (fun zA v hT hf => exec_int (a := ⟨q, 0, none⟩) (.tmp 5) rfl (by simp at hf; simp [Act.eval, hf]) ((HV.out v hT).1.cell 0)) ?_
  refine rf_eff (fun _ v => v = .int .i64 (r.pl % 4)) (by first | rfl | exact ⟨by kernel_rfl, rfl⟩) (fun _ _ _ _ h => h) (fun z2 y hT hf => ?_) ?_
  · simp at hf
    go_simp
    refine (pick_any _ _ (by omega) (by omega) _).mono ?_
    rintro e y2 ⟨rfl, rfl⟩
    exact ⟨_, rfl, rfl, Only.refl _ _⟩
  refine rf_val (.int .i64 (1 + r.pl % 4)) (by first | rfl | exact ⟨by kernel_rfl, rfl⟩) (fun zA v hT hf => ?_) ?_
  · skip
    simp at hf
    go_simp
    try rfl
  refine rf_val (.pointer (some ⟨q, 1, none⟩)) (by first | rfl | exact ⟨by kernel_rfl, rfl⟩) (fun zA v hT hf => ?_) ?_
  · skip
    simp at hf
    go_simp
    try rfl
  refine rf_val (.int .i64 r.pe) (by first | rfl | exact ⟨by kernel_rfl, rfl⟩) (fun zA v hT hf => exec_int (a := ⟨q, 1, none⟩) (.tmp 9) rfl (by simp at hf; simp [Act.eval, hf]) ((HV.out v hT).1.cell 1)) ?_
  refine rf_eff (fun _ v => v = .int .i64 (r.pe % 3)) (by first | rfl | exact ⟨by kernel_rfl, rfl⟩) (fun _ _ _ _ h => h) (fun z2 y hT hf => ?_) ?_
  · simp at hf
    go_simp
    refine (pick_any _ _ (by omega) (by omega) _).mono ?_
    rintro e y2 ⟨rfl, rfl⟩
    exact ⟨_, rfl, rfl, Only.refl _ _⟩
  refine rf_val (.int .i64 (1 + r.pe % 3)) (by first | rfl | exact ⟨by kernel_rfl, rfl⟩) (fun zA v hT hf => ?_) ?_
  · skip
    simp at hf
    go_simp
    try rfl
  refine rf_val (.pointer (some ⟨q, 2, none⟩)) (by first | rfl | exact ⟨by kernel_rfl, rfl⟩) (fun zA v hT hf => ?_) ?_
  · skip
    simp at hf
    go_simp
    try rfl
  refine rf_val (.int .i64 r.gr) (by first | rfl | exact ⟨by kernel_rfl, rfl⟩) (fun zA v hT hf => exec_int (a := ⟨q, 2, none⟩) (.tmp 13) rfl (by simp at hf; simp [Act.eval, hf]) ((HV.out v hT).1.cell 2)) ?_
  refine rf_eff (fun _ v => v = .int .i64 (r.gr % 8)) (by first | rfl | exact ⟨by kernel_rfl, rfl⟩) (fun _ _ _ _ h => h) (fun z2 y hT hf => ?_) ?_
  · simp at hf
    go_simp
    refine (pick_any _ _ (by omega) (by omega) _).mono ?_
    rintro e y2 ⟨rfl, rfl⟩
    exact ⟨_, rfl, rfl, Only.refl _ _⟩
  refine rf_val (.pointer (some ⟨q, 3, none⟩)) (by first | rfl | exact ⟨by kernel_rfl, rfl⟩) (fun zA v hT hf => ?_) ?_
  · skip
    simp at hf
    go_simp
    try rfl
  refine rf_val (.int .i64 r.st) (by first | rfl | exact ⟨by kernel_rfl, rfl⟩) (fun zA v hT hf => exec_int (a := ⟨q, 3, none⟩) (.tmp 16) rfl (by simp at hf; simp [Act.eval, hf]) ((HV.out v hT).1.cell 3)) ?_
  refine rf_eff (fun _ v => v = .int .i64 (r.st % 6)) (by first | rfl | exact ⟨by kernel_rfl, rfl⟩) (fun _ _ _ _ h => h) (fun z2 y hT hf => ?_) ?_
  · simp at hf
    go_simp
    refine (pick_any _ _ (by omega) (by omega) _).mono ?_
    rintro e y2 ⟨rfl, rfl⟩
    exact ⟨_, rfl, rfl, Only.refl _ _⟩
  refine rf_val (.pointer (some ⟨q, 4, none⟩)) (by first | rfl | exact ⟨by kernel_rfl, rfl⟩) (fun zA v hT hf => ?_) ?_
  · skip
    simp at hf
    go_simp
    try rfl
  refine rf_val (.int .i64 r.fr) (by first | rfl | exact ⟨by kernel_rfl, rfl⟩) (fun zA v hT hf => exec_int (a := ⟨q, 4, none⟩) (.tmp 19) rfl (by simp at hf; simp [Act.eval, hf]) ((HV.out v hT).1.cell 4)) ?_
  refine rf_eff (fun _ v => v = .int .i64 (r.fr % 90)) (by first | rfl | exact ⟨by kernel_rfl, rfl⟩) (fun _ _ _ _ h => h) (fun z2 y hT hf => ?_) ?_
  · simp at hf
    go_simp
    refine (pick_any _ _ (by omega) (by omega) _).mono ?_
    rintro e y2 ⟨rfl, rfl⟩
    exact ⟨_, rfl, rfl, Only.refl _ _⟩
  refine rf_val (.int .i64 (5 + r.fr % 90)) (by first | rfl | exact ⟨by kernel_rfl, rfl⟩) (fun zA v hT hf => ?_) ?_
  · skip
    simp at hf
    go_simp
    try rfl
  refine rf_val (.pointer (some ⟨q, 5, none⟩)) (by first | rfl | exact ⟨by kernel_rfl, rfl⟩) (fun zA v hT hf => ?_) ?_
  · skip
    simp at hf
    go_simp
    try rfl
  refine rf_val (.int .i64 r.sd) (by first | rfl | exact ⟨by kernel_rfl, rfl⟩) (fun zA v hT hf => exec_int (a := ⟨q, 5, none⟩) (.tmp 23) rfl (by simp at hf; simp [Act.eval, hf]) ((HV.out v hT).1.cell 5)) ?_
  refine rf_eff (fun _ v => v = .int .i64 (r.sd % 2147483648)) (by first | rfl | exact ⟨by kernel_rfl, rfl⟩) (fun _ _ _ _ h => h) (fun z2 y hT hf => ?_) ?_
  · simp at hf
    go_simp
    refine (pick_any _ _ (by omega) (by omega) _).mono ?_
    rintro e y2 ⟨rfl, rfl⟩
    exact ⟨_, rfl, rfl, Only.refl _ _⟩
  refine rf_val ((c0 r).v (.slice none 0 0) (.slice none 0 0)) (by first | rfl | exact ⟨by kernel_rfl, rfl⟩) (fun zA v hT hf => by simp at hf; go_simp; exact ⟨rfl, rfl, rfl, rfl, rfl, rfl, rfl, rfl⟩) ?_
  refine rf_eff (fun y v => ∃ g, v = .pointer (some ⟨g, 0, none⟩) ∧ Cb y g Cf.zero (.slice none 0 0) (.slice none 0 0) ∧ q + 1 < g) (by first | rfl | exact ⟨by kernel_rfl, rfl⟩) (fun y y2 v hT h => ?_) (fun z2 y hT hf => ?_) ?_
  · obtain ⟨g, h1, h2, h3⟩ := h
    exact ⟨g, h1, h2.only hT (by simp), h3⟩
  · exact ⟨⟨_, rfl, cb_new (w := y) (c := Cf.zero) (rv := .slice none 0 0) (tv := .slice none 0 0) rfl 28, (HV.out y hT).2⟩, trivial, (Only.refl _ _).alloc _⟩
  intro w1 hy
  simp only [FinA, Sp.R, forall_eq]
  simp only [Act.put, List.setIfInBounds_toArray, List.set_cons_succ, List.set_cons_zero]
  rintro v3 ⟨p, rfl, hp, hpl⟩
  have o1 := (only_drew W).trans hy
  have H1 : Hid (Hcf w w1 B q p r (.slice la ln lc) l Cf.zero (.slice none 0 0) (.slice none 0 0)) := ⟨H0.out.1.only o1 (by simp), H0.out.2.1.only o1 (by simp), hp, H0.out.2.2.1.only rOp_st o1 (by simp), H0.out.2.2.2.1.trans o1, H0.out.2.2.2.2.1, hpl, H0.out.2.2.2.2.2⟩
  clear HV H0 hp hpl hy o1 p3 p4 p5
  refine op_storeCf (p := p) (c := c0 r) (ra := none) (rn := 0) (rc := 0) (ta := none) (tn := 0) (tc := 0) rfl H1.out.conf (.tmp 3) (.tmp 26) rfl (by kernel_rfl) (by kernel_rfl) ?_
  intro w2 hb o2 hz
  have H2 : Hid (Hcf w w2 B q p r (.slice la ln lc) l (c0 r) (.slice none 0 0) (.slice none 0 0) ∧ Cok (c0 r)) := ⟨H1.out.put hb.blk o2, c0_ok r⟩
  generalize c0 r = c at *
  clear H1 hb o2 hz
  simp only [Act.put, List.setIfInBounds_toArray, List.set_cons_succ, List.set_cons_zero]
  refine wpList_nil ?_
  have cpl : w2.cell? ⟨q, 0, none⟩ = some (.int .i64 r.pl) := H2.out.1.raw.cell 0
  go_upto_if 30 with fail
  go_cut [] (fun wx => ∃ c : Cf, Hid (Hcf w wx B q p r (.slice la ln lc) l c (.slice none 0 0) (.slice none 0 0) ∧ Cok c))
  case first =>
    by_cases h11 : r.pl.tmod 11 = 10
    · have z11 : (r.pl.tmod 11 == 10) = true := by simpa using h11
      go_upto_region 3 with fail
      clear cpl z11
      have w11 : IntKind.i64.wrap (r.pl.tdiv 11) = r.pl.tdiv 11 := IntWalk.i64_in _ (tdiv_rng (by omega) OK.out.pl)
      have w12 : IntKind.i64.wrap (1 + r.pl.tdiv 11 % 8) = 1 + r.pl.tdiv 11 % 8 := IntWalk.i64_in _ (by omega)
      apply wp_region_lit
      refine op_val (w' := w2) rfl (.pointer (some ⟨q, 0, none⟩)) (by kernel_rfl) ?_
      simp only [Act.put, List.setIfInBounds_toArray, List.set_cons_succ, List.set_cons_zero]
      refine op_val (w' := w2) rfl (.int .i64 r.pl) (exec_int (a := ⟨q, 0, none⟩) (.tmp 31) rfl (by kernel_rfl) (H2.out.1.raw.cell 0)) ?_
      simp only [Act.put, List.setIfInBounds_toArray, List.set_cons_succ, List.set_cons_zero]
      refine op_val (w' := w2) rfl (.int .i64 (r.pl.tdiv 11)) (by simp only [execOp]; go_simp) ?_
      simp only [Act.put, List.setIfInBounds_toArray, List.set_cons_succ, List.set_cons_zero]
      refine op_call (F := 24) (args := #[.int .i64 (r.pl.tdiv 11), .int .i64 8]) (w1 := w2) rfl (by kernel_rfl) ?_
      refine (pick_any _ _ (by omega) (by omega) _).mono ?_
      rintro e w3 ⟨rfl, rfl⟩
      refine ⟨_, rfl, ?_⟩
      simp only [Act.put, List.setIfInBounds_toArray, List.set_cons_succ, List.set_cons_zero]
      refine op_val (w' := w2) rfl (.int .i64 (1 + r.pl.tdiv 11 % 8)) (by simp only [execOp]; go_simp) ?_
      simp only [Act.put, List.setIfInBounds_toArray, List.set_cons_succ, List.set_cons_zero]
      refine op_val (w' := w2) rfl (.pointer (some ⟨p, 0, none⟩)) (by kernel_rfl) ?_
      simp only [Act.put, List.setIfInBounds_toArray, List.set_cons_succ, List.set_cons_zero]
      refine op_store1 rfl 3 (.tmp 36) (.tmp 35) rfl 0 (v := .int .i64 (1 + r.pl.tdiv 11 % 8)) (by kernel_rfl) (by kernel_rfl) H2.out.1.conf.blk (by kernel_rfl) (by simp [Cf.cells]) rfl rfl ?_
      intro w4 hb o4 hz
      have H4 : Hid (Hcf w w4 B q p r (.slice la ln lc) l { c with pl := 1 + r.pl.tdiv 11 % 8 } (.slice none 0 0) (.slice none 0 0) ∧ Cok { c with pl := 1 + r.pl.tdiv 11 % 8 }) := ⟨H2.out.1.put hb o4, ⟨by show 1 ≤ 1 + r.pl.tdiv 11 % 8 ∧ 1 + r.pl.tdiv 11 % 8 ≤ 8; omega, H2.out.2.pe, H2.out.2.gr, H2.out.2.st, H2.out.2.fr, H2.out.2.sd⟩⟩
      clear w11 w12 hb o4 hz H2
      simp only [Act.put, List.setIfInBounds_toArray, List.set_cons_succ, List.set_cons_zero]
      refine wpList_nil ?_
      go_wp2_with fail
      go_meet
      exact ⟨_, H4.out⟩
    · have z11 : (r.pl.tmod 11 == 10) = false := by simpa using h11
      go_wp2_with fail
      go_meet
      exact ⟨_, H2.out⟩
  case rest =>
    clear H2 cpl
    obtain ⟨c, HC⟩ := hcut
    go_upto_region 4 with fail
    obtain ⟨ra, hra, hra2⟩ := rate_ok (k := r.ra % 9) ⟨by omega, by omega⟩
    obtain ⟨da, de, hda, hde, hde2⟩ := depth_ok (k := r.ra.tdiv 9 % 40) ⟨by omega, by omega⟩
    have HR : Hid (Step.rate ra = true) := hra2
    have HD : Hid (Step.depth de = true) := hde2
    have b1 := fun w => run_float_arith (P := Try.prog) w .quo 25 .f64 _ _ _ hra
    have b2 := fun w => run_float_arith (P := Try.prog) w .quo 25 .f64 _ _ _ hda
    have b3 := fun w => run_float_arith (P := Try.prog) w .add 25 .f64 _ _ _ hde
    clear hra hra2 hda hde hde2
    have w9 : IntKind.i64.wrap (r.ra.tdiv 9) = r.ra.tdiv 9 := IntWalk.i64_in _ (tdiv_rng (by omega) OK.out.ra)
    apply wp_region_lit
    refine op_val (w' := wc) rfl (.pointer (some ⟨q, 6, none⟩)) (by kernel_rfl) ?_
    simp only [Act.put, List.setIfInBounds_toArray, List.set_cons_succ, List.set_cons_zero]
    refine op_val (w' := wc) rfl (.int .i64 r.ra) (exec_int (a := ⟨q, 6, none⟩) (.tmp 37) rfl (by kernel_rfl) (HC.out.1.raw.cell 6)) ?_
    simp only [Act.put, List.setIfInBounds_toArray, List.set_cons_succ, List.set_cons_zero]
    refine op_call (F := 24) (args := #[.int .i64 r.ra, .int .i64 9]) (w1 := wc) rfl (by kernel_rfl) ?_
    refine (pick_any _ _ (by omega) (by omega) _).mono ?_
    rintro e w3 ⟨rfl, rfl⟩
    refine ⟨_, rfl, ?_⟩
    simp only [Act.put, List.setIfInBounds_toArray, List.set_cons_succ, List.set_cons_zero]
    refine op_val (w' := wc) rfl (.float .f64 (floatOfInt .f64 (r.ra % 9))) (exec_cf (.tmp 39) 3 (by rw [Try.underlying3]; rfl) rfl (by kernel_rfl)) ?_
    simp only [Act.put, List.setIfInBounds_toArray, List.set_cons_succ, List.set_cons_zero]
    refine op_val (w' := wc) rfl (.float .f64 ra) (by simp only [execOp]; go_simp) ?_
    simp only [Act.put, List.setIfInBounds_toArray, List.set_cons_succ, List.set_cons_zero]
    refine op_val (w' := wc) rfl (.pointer (some ⟨p, 6, none⟩)) (by kernel_rfl) ?_
    simp only [Act.put, List.setIfInBounds_toArray, List.set_cons_succ, List.set_cons_zero]
    refine op_store1 rfl 25 (.tmp 42) (.tmp 41) rfl 6 (v := .float .f64 ra) (by kernel_rfl) (by kernel_rfl) HC.out.1.conf.blk (by kernel_rfl) (by simp [Cf.cells]) rfl rfl ?_
    intro w4 hb o4 hz
    have H4 : Hid (Hcf w w4 B q p r (.slice la ln lc) l { c with ra := ra } (.slice none 0 0) (.slice none 0 0)) := HC.out.1.put hb o4
    have HK : Hid (Cok c) := HC.out.2
    clear hb o4 hz HC b1
    simp only [Act.put, List.setIfInBounds_toArray, List.set_cons_succ, List.set_cons_zero]
    refine wpList_nil ?_
    go_upto_region 5 with fail
    apply wp_region_lit
    refine op_val (w' := w4) rfl (.pointer (some ⟨q, 6, none⟩)) (by kernel_rfl) ?_
    simp only [Act.put, List.setIfInBounds_toArray, List.set_cons_succ, List.set_cons_zero]
    refine op_val (w' := w4) rfl (.int .i64 r.ra) (exec_int (a := ⟨q, 6, none⟩) (.tmp 43) rfl (by kernel_rfl) (H4.out.raw.cell 6)) ?_
    simp only [Act.put, List.setIfInBounds_toArray, List.set_cons_succ, List.set_cons_zero]
    refine op_val (w' := w4) rfl (.int .i64 (r.ra.tdiv 9)) (by simp only [execOp]; go_simp) ?_
    simp only [Act.put, List.setIfInBounds_toArray, List.set_cons_succ, List.set_cons_zero]
    refine op_call (F := 24) (args := #[.int .i64 (r.ra.tdiv 9), .int .i64 40]) (w1 := w4) rfl (by kernel_rfl) ?_
    refine (pick_any _ _ (by omega) (by omega) _).mono ?_
    rintro e w5 ⟨rfl, rfl⟩
    refine ⟨_, rfl, ?_⟩
    simp only [Act.put, List.setIfInBounds_toArray, List.set_cons_succ, List.set_cons_zero]
    refine op_val (w' := w4) rfl (.float .f64 (floatOfInt .f64 (r.ra.tdiv 9 % 40))) (exec_cf (.tmp 46) 3 (by rw [Try.underlying3]; rfl) rfl (by kernel_rfl)) ?_
    simp only [Act.put, List.setIfInBounds_toArray, List.set_cons_succ, List.set_cons_zero]
    refine op_val (w' := w4) rfl (.float .f64 da) (by simp only [execOp]; go_simp) ?_
    simp only [Act.put, List.setIfInBounds_toArray, List.set_cons_succ, List.set_cons_zero]
    refine op_val (w' := w4) rfl (.float .f64 de) (by simp only [execOp]; go_simp) ?_
    simp only [Act.put, List.setIfInBounds_toArray, List.set_cons_succ, List.set_cons_zero]
    refine op_val (w' := w4) rfl (.pointer (some ⟨p, 7, none⟩)) (by kernel_rfl) ?_
    simp only [Act.put, List.setIfInBounds_toArray, List.set_cons_succ, List.set_cons_zero]
    refine op_store1 rfl 25 (.tmp 50) (.tmp 49) rfl 7 (v := .float .f64 de) (by kernel_rfl) (by kernel_rfl) H4.out.conf.blk (by kernel_rfl) (by simp [Cf.cells]) rfl rfl ?_
    intro w5 hb o5 hz
    have H5 : Hid (Hcf w w5 B q p r (.slice la ln lc) l { c with ra := ra, de := de } (.slice none 0 0) (.slice none 0 0)) := H4.out.put hb o5
    clear hb o5 hz H4 b2 b3 w9
    simp only [Act.put, List.setIfInBounds_toArray, List.set_cons_succ, List.set_cons_zero]
    refine wpList_nil ?_
    have cra : w5.cell? ⟨q, 6, none⟩ = some (.int .i64 r.ra) := H5.out.raw.cell 6
    go_upto_if 54 with fail
    go_cut [] (fun wx => ∃ ra de : Nat, Hid (Hcf w wx B q p r (.slice la ln lc) l { c with ra := ra, de := de } (.slice none 0 0) (.slice none 0 0) ∧ Step.rate ra = true ∧ Step.depth de = true))
    case first =>
      by_cases h3 : 0 < r.ra.tmod 3
      · go_upto_region 7 with fail
        clear cra
        apply wp_region_lit
        refine op_val (w' := w5) rfl (.pointer (some ⟨p, 6, none⟩)) (by kernel_rfl) ?_
        simp only [Act.put, List.setIfInBounds_toArray, List.set_cons_succ, List.set_cons_zero]
        refine op_store1 rfl 25 (.tmp 55) (.const (.float .f64 4613937818241073152)) rfl 6 (v := .float .f64 4613937818241073152) (by kernel_rfl) (by kernel_rfl) H5.out.conf.blk (by kernel_rfl) (by simp [Cf.cells]) rfl rfl ?_
        intro w6 hb o6 hz
        have H6 : Hid (Hcf w w6 B q p r (.slice la ln lc) l { c with ra := 4613937818241073152, de := de } (.slice none 0 0) (.slice none 0 0)) := H5.out.put hb o6
        clear hb o6 hz H5
        simp only [Act.put, List.setIfInBounds_toArray, List.set_cons_succ, List.set_cons_zero]
        refine wpList_nil ?_
        go_upto_region 8 with fail
        apply wp_region_lit
        refine op_val (w' := w6) rfl (.pointer (some ⟨p, 7, none⟩)) (by kernel_rfl) ?_
        simp only [Act.put, List.setIfInBounds_toArray, List.set_cons_succ, List.set_cons_zero]
        refine op_store1 rfl 25 (.tmp 56) (.const (.float .f64 4632233691727265792)) rfl 7 (v := .float .f64 4632233691727265792) (by kernel_rfl) (by kernel_rfl) H6.out.conf.blk (by kernel_rfl) (by simp [Cf.cells]) rfl rfl ?_
        intro w7 hb o7 hz
        have H7 : Hid (Hcf w w7 B q p r (.slice la ln lc) l { c with ra := 4613937818241073152, de := 4632233691727265792 } (.slice none 0 0) (.slice none 0 0)) := H6.out.put hb o7
        clear hb o7 hz H6
        simp only [Act.put, List.setIfInBounds_toArray, List.set_cons_succ, List.set_cons_zero]
        refine wpList_nil ?_
        go_wp2_with fail
        go_meet
        exact ⟨_, _, H7.out, by kernel_rfl, by kernel_rfl⟩
      · go_wp2_with fail
        go_meet
        exact ⟨_, _, H5.out, HR.out, HD.out⟩
    case rest =>
      clear H5 cra HR HD
      obtain ⟨ra, de, HC⟩ := hcut
      go_upto_region 9 with fail
      apply wp_region_lit
      refine op_val (w' := wc) rfl (.pointer (some ⟨q, 7, none⟩)) (by kernel_rfl) ?_
      simp only [Act.put, List.setIfInBounds_toArray, List.set_cons_succ, List.set_cons_zero]
      refine op_val (w' := wc) rfl (.slice la ln lc) (exec_ldR (a := ⟨q, 7, none⟩) (.tmp 57) rfl (by kernel_rfl) (HC.out.1.raw.cell 7)) ?_
      simp only [Act.put, List.setIfInBounds_toArray, List.set_cons_succ, List.set_cons_zero]
      refine op_call (F := 38) (args := #[.slice la ln lc]) (w1 := wc) rfl (by kernel_rfl) ?_
      refine (hrules_any HC.out.1.rd (by have := HC.out.1.only.size; have := HC.out.1.base; have := HC.out.1.le; omega)).mono ?_
      rintro e w4 ⟨xa, xn, xc, rules, rfl, ho, hru, o⟩
      refine ⟨_, rfl, ?_⟩
      have H4 : Hid (Hcf w w4 B q p r (.slice la ln lc) l { c with ra := ra, de := de } (.slice none 0 0) (.slice none 0 0)) := HC.out.1.then o
      have HX : Hid (Rule.right rules = true ∧ Step.rate ra = true ∧ Step.depth de = true) := ⟨hru, HC.out.2⟩
      have HO : Hid (SO (p + 1) w4 (.slice xa xn xc) rules) := ho.lower (by have := HC.out.1.conf.blk.lt; omega)
      clear HC ho hru o
      simp only [Act.put, List.setIfInBounds_toArray, List.set_cons_succ, List.set_cons_zero]
      refine op_val (w' := w4) rfl (.pointer (some ⟨p, 8, none⟩)) (by kernel_rfl) ?_
      simp only [Act.put, List.setIfInBounds_toArray, List.set_cons_succ, List.set_cons_zero]
      refine op_store1 rfl 24 (.tmp 60) (.tmp 59) rfl 8 (v := .slice xa xn xc) (by kernel_rfl) (by kernel_rfl) H4.out.conf.blk (by kernel_rfl) (by simp [Cf.cells]) rfl rfl ?_
      intro w5 hb o5 hz
      have H5 : Hid (Hcf w w5 B q p r (.slice la ln lc) l { c with ra := ra, de := de, rules := rules, toks := toksOf r 0 } (.slice xa xn xc) (.slice none 0 0) ∧ SO (p + 1) w5 (.slice xa xn xc) rules) := ⟨H4.out.put hb o5, HO.out.only o5 (fun g hg hm => by have := (HO.out.lt g hg).1; have h2 : g = p := (by simpa using hm); omega)⟩
      clear hb o5 hz H4 HO
      simp only [Act.put, List.setIfInBounds_toArray, List.set_cons_succ, List.set_cons_zero]
      refine wpList_nil ?_
      obtain ⟨n, hn⟩ : ∃ n : Nat, c.pl = n := ⟨c.pl.toNat, by have := HK.out.pl; omega⟩
      have HN : Hid (c.pl = n ∧ n ≤ 8) := ⟨hn, by have := HK.out.pl; omega⟩
      have hn8 : n ≤ 8 := HN.out.2
      obtain ⟨T0, hT0⟩ : ∃ T0, w5.heap.size = T0 := ⟨_, rfl⟩
      have HT : Hid (p < T0 ∧ ∀ g, (Value.slice xa xn xc).ownBlock = some g → p < g ∧ g < T0) := ⟨hT0 ▸ H5.out.1.conf.blk.lt, fun g hg => by have := H5.out.2.lt g hg; omega⟩
      have HZ : Hid (T0 ≤ w5.heap.size) := by show _ ≤ _; omega
      clear hT0 hn
      go_wp2_with fail
      go_loopg [4] (n + 1) (fun gk vi wr => ∃ (i : Nat) (ta : Option Addr) (tc : Nat), vi = .int .i64 i ∧ i ≤ n ∧ n + 1 - i ≤ gk ∧ Hid (Hcf w wr B q p r (.slice la ln lc) l { c with ra := ra, de := de, rules := rules, toks := toksOf r i } (.slice xa xn xc) (.slice ta i tc) ∧ SO (p + 1) wr (.slice xa xn xc) rules ∧ Own elI T0 wr (.slice ta i tc) (toksOf r i) ∧ T0 ≤ wr.heap.size))
      case atStart => exact ⟨0, none, 0, rfl, by omega, by omega, H5.out.1, H5.out.2, Own.nil elI _ _, HZ.out⟩
      case round =>
        clear H5 HZ
        obtain ⟨i, ta, tc, rfl, hi, hgk, HH⟩ := hrel
        have cn : wr.cell? ⟨p, 0, none⟩ = some (.int .i64 n) := by rw [← HN.out.1]; exact HH.out.1.conf.blk.cell 0
        by_cases hlt : i < n
        · have z1 : (i : Int) < (n : Int) := by omega
          have w3 : IntKind.i64.wrap (r.sd.tdiv 3) = r.sd.tdiv 3 := IntWalk.i64_in _ (tdiv_rng (by omega) OK.out.sd)
          have w10 : IntKind.i64.wrap (r.sd.tdiv 3 % 1000000 * 10) = r.sd.tdiv 3 % 1000000 * 10 := IntWalk.i64_in _ (by omega)
          have wi : IntKind.i64.wrap (r.sd.tdiv 3 % 1000000 * 10 + (i : Int)) = r.sd.tdiv 3 % 1000000 * 10 + (i : Int) := IntWalk.i64_in _ (by omega)
          go_upto_region 13 with fail
          clear cn
          have HV : Hid (∀ y, Only [] wr.drew y → Hcf w y B q p r (.slice la ln lc) l { c with ra := ra, de := de, rules := rules, toks := toksOf r i } (.slice xa xn xc) (.slice ta i tc) ∧ SO (p + 1) y (.slice xa xn xc) rules ∧ Own elI T0 y (.slice ta i tc) (toksOf r i) ∧ T0 ≤ y.heap.size) := fun y hy => by
            have o := (only_drew wr).trans hy
            exact ⟨HH.out.1.then o, HH.out.2.1.only o (by simp), HH.out.2.2.1.only o (by simp), Nat.le_trans HH.out.2.2.2 o.size⟩
          clear HH
          refine wp_region_free 10 (Only []) (Only.refl _) (Only.trans) [(1, .pointer (some ⟨q, 0, none⟩)), (3, .pointer (some ⟨p, 0, none⟩)), (4, .int .i64 i)] (by intro p hp; simp only [List.mem_cons, List.not_mem_nil, or_false] at hp; rcases hp with rfl | rfl | rfl <;> rfl) (by kernel_rfl) (by kernel_rfl) (by decide) (by kernel_rfl) (by kernel_rfl) ?_
          simp only [List.take_succ_cons, List.take_zero, List.drop_succ_cons, List.drop_zero]
          refine rf_val (.pointer (some ⟨p, 9, none⟩)) (by first | rfl | exact ⟨by kernel_rfl, rfl⟩) (fun zA v hT hf => ?_) ?_
          · skip
            simp at hf
            go_simp
            try rfl
          refine rf_val (.slice ta i tc) (by first | rfl | exact ⟨by kernel_rfl, rfl⟩) (fun zA v hT hf => exec_ldI (a := ⟨p, 9, none⟩) (.tmp 67) rfl (by simp at hf; simp [Act.eval, hf]) ((HV.out v hT).1.conf.blk.cell 9)) ?_
          refine rf_val (.pointer (some ⟨q, 5, none⟩)) (by first | rfl | exact ⟨by kernel_rfl, rfl⟩) (fun zA v hT hf => ?_) ?_
          · skip
            simp at hf
            go_simp
            try rfl
          refine rf_val (.int .i64 r.sd) (by first | rfl | exact ⟨by kernel_rfl, rfl⟩) (fun zA v hT hf => exec_int (a := ⟨q, 5, none⟩) (.tmp 69) rfl (by simp at hf; simp [Act.eval, hf]) ((HV.out v hT).1.raw.cell 5)) ?_
          refine rf_val (.int .i64 (r.sd.tdiv 3)) (by first | rfl | exact ⟨by kernel_rfl, rfl⟩) (fun zA v hT hf => ?_) ?_
          · skip
            simp at hf
            go_simp
            try rfl
          refine rf_eff (fun _ v => v = .int .i64 (r.sd.tdiv 3 % 1000000)) (by first | rfl | exact ⟨by kernel_rfl, rfl⟩) (fun _ _ _ _ h => h) (fun z2 y hT hf => ?_) ?_
          · simp at hf
            go_simp
            refine (pick_any _ _ (by omega) (by omega) _).mono ?_
            rintro e y2 ⟨rfl, rfl⟩
            exact ⟨_, rfl, rfl, Only.refl _ _⟩
          refine rf_val (.int .i64 (r.sd.tdiv 3 % 1000000 * 10)) (by first | rfl | exact ⟨by kernel_rfl, rfl⟩) (fun zA v hT hf => ?_) ?_
          · skip
            simp at hf
            go_simp
            try rfl
          refine rf_val (.int .i64 i) (by first | rfl | exact ⟨by kernel_rfl, rfl⟩) (fun zA v hT hf => ?_) ?_
          · skip
            simp at hf
            go_simp
            try rfl
          refine rf_val (.int .i64 (r.sd.tdiv 3 % 1000000 * 10 + (i : Int))) (by first | rfl | exact ⟨by kernel_rfl, rfl⟩) (fun zA v hT hf => ?_) ?_
          · skip
            simp at hf
            go_simp
            try rfl
          refine rf_eff (fun y v => ∃ g, v = .slice (some ⟨g, 0, none⟩) 1 1 ∧ Blk y g (elI.flat [r.sd.tdiv 3 % 1000000 * 10 + (i : Int)])) (by first | rfl | exact ⟨by kernel_rfl, rfl⟩) (fun y y2 v hT h => ?_) (fun z2 y hT hf => ?_) ?_
          · obtain ⟨g, h1, h2⟩ := h
            exact ⟨g, h1, h2.only hT (by simp)⟩
          · have e75 : z2.eval (.tmp 75) = .int .i64 (r.sd.tdiv 3 % 1000000 * 10 + (i : Int)) := by simp at hf; simp [Act.eval, hf]
            rw [exec_oneI _ (.tmp 75) rfl e75]
            exact ⟨⟨_, rfl, Blk.new y _ _⟩, trivial, (Only.refl _ _).alloc _⟩
          intro w6 hy
          simp only [FinA, Sp.R, forall_eq]
          simp only [Act.put, List.setIfInBounds_toArray, List.set_cons_succ, List.set_cons_zero]
          rintro v76 ⟨g, rfl, hg⟩
          have H6 : Hid _ := HV.out w6 hy
          clear HV hy w3 w10 wi
          refine app_g elI_ok rfl (.tmp 68) (.tmp 76) rfl (by kernel_rfl) (by kernel_rfl) H6.out.2.2.1 (rdx_blk elI_ok (xs := [r.sd.tdiv 3 % 1000000 * 10 + (i : Int)]) hg (by show 1 ≤ maxLen; decide)) (by rw [toksOf_len]; show i + 1 ≤ _; omega) H6.out.2.2.2 ?_
          intro v' w7 A
          rw [← toksOf_next] at A
          have hA : ∀ x ∈ (Value.slice ta i tc).ownBlock.toList, T0 ≤ x := fun x hx => (H6.out.2.2.1.lt x (by simpa [Option.mem_toList] using hx)).1
          have hpT := HT.out.1
          have hB7 : ∀ x ∈ (Value.slice ta i tc).ownBlock.toList, B ≤ x := fun x hx => by have := hA x hx; have := H6.out.1.le; have := H6.out.1.lt; omega
          have H7 : Hid (Hcf w w7 B q p r (.slice la ln lc) l { c with ra := ra, de := de, rules := rules, toks := toksOf r i } (.slice xa xn xc) (.slice ta i tc) ∧ SO (p + 1) w7 (.slice xa xn xc) rules ∧ Own elI T0 w7 v' (toksOf r (i + 1)) ∧ T0 ≤ w7.heap.size) := by
            have q1 := H6.out.1
            have q2 := q1.lt
            have q3 := q1.base
            refine ⟨⟨q1.raw.only A.only (fun m => by have := hA _ m; omega), q1.res.only A.only (fun m => by have := hA _ m; omega), q1.conf.only A.only (fun m => by have := hA _ m; omega), q1.rd.only rOp_st A.only hB7, q1.only.then A.only (fun x hx hl => by have := hA _ hx; omega), q1.base, q1.lt, q1.le⟩, H6.out.2.1.only A.only (fun g hg hm => by have := hA _ hm; have := (HT.out.2 g hg).2; omega), A.row, Nat.le_trans H6.out.2.2.2 A.only.size⟩
          obtain ⟨va, vc, hv', -, -⟩ := A.row.form
          rw [toksOf_len] at hv'
          subst hv'
          clear A H6 hA hB7 hg
          simp only [Act.put, List.setIfInBounds_toArray, List.set_cons_succ, List.set_cons_zero]
          refine op_val (w' := w7) rfl (.pointer (some ⟨p, 9, none⟩)) (by kernel_rfl) ?_
          simp only [Act.put, List.setIfInBounds_toArray, List.set_cons_succ, List.set_cons_zero]
          refine op_store1 rfl 26 (.tmp 78) (.tmp 77) rfl 9 (v := .slice va (i + 1) vc) (by kernel_rfl) (by kernel_rfl) H7.out.1.conf.blk (by kernel_rfl) (by simp [Cf.cells]) rfl rfl ?_
          intro w8 hb o8 hz8
          have H8 : Hid (Hcf w w8 B q p r (.slice la ln lc) l { c with ra := ra, de := de, rules := rules, toks := toksOf r (i + 1) } (.slice xa xn xc) (.slice va (i + 1) vc) ∧ SO (p + 1) w8 (.slice xa xn xc) rules ∧ Own elI T0 w8 (.slice va (i + 1) vc) (toksOf r (i + 1)) ∧ T0 ≤ w8.heap.size) :=
            ⟨H7.out.1.put hb o8, H7.out.2.1.only o8 (fun g hg hm => by have := (HT.out.2 g hg).1; have h2 : g = p := (by simpa using hm); omega), H7.out.2.2.1.only o8 (fun g hg hm => by have := (H7.out.2.2.1.lt g hg).1; have h2 : g = p := (by simpa using hm); omega), Nat.le_trans H7.out.2.2.2 o8.size⟩
          clear hb o8 hz8 H7
          simp only [Act.put, List.setIfInBounds_toArray, List.set_cons_succ, List.set_cons_zero]
          refine wpList_nil ?_
          go_wp2_with fail
          go_roundg (n + 1 - (i + 1))
          case measure => omega
          case rel => exact ⟨i + 1, va, vc, by go_num, by omega, by omega, H8.out⟩
        · have z1 : ¬ (i : Int) < (n : Int) := by omega
          have e : i = n := by omega
          subst e
          go_upto_region 14 with fail
          clear cn
          apply wp_region_lit
          refine opg_loadC (p := p) (by kernel_rfl) (.tmp 3) rfl (by kernel_rfl) HH.out.1.conf.blk.whole ?_
          simp only [Act.put, List.setIfInBounds_toArray, List.set_cons_succ, List.set_cons_zero]
          refine op_storeCf (p := q + 1) (c := { c with ra := ra, de := de, rules := rules, toks := toksOf r i }) (ra := xa) (rn := xn) (rc := xc) (ta := ta) (tn := i) (tc := tc) rfl HH.out.1.res (.tmp 2) (.tmp 79) rfl (by kernel_rfl) (by kernel_rfl) ?_
          intro w6 hb o6 hz
          have LEG : Step.legal { c with ra := ra, de := de, rules := rules, toks := toksOf r i } = true := by
            have K := HK.out
            have X := HX.out
            unfold Step.legal
            have t1 := toksOf_ok r i (by omega) i (Nat.le_refl _)
            simp only [Bool.and_eq_true, Body.btw, decide_eq_true_eq, toksOf_len]
            exact ⟨K.pl, K.pe, K.gr, K.st, ⟨by have := K.fr; omega, K.fr.2⟩, K.sd, X.2.1, X.2.2, X.1, HN.out.1.symm, t1⟩
          have hq1 : q + 1 < p := HH.out.1.lt
          have hpT := HT.out.1
          have RD : Rd w6.heap.size w6 { c with ra := ra, de := de, rules := rules, toks := toksOf r i } (.slice xa xn xc) (.slice ta i tc) :=
            ⟨(HH.out.2.1.only o6 (fun g hg hm => by have := (HT.out.2 g hg).1; have h2 : g = q + 1 := (by simpa using hm); omega)).rd.rdo (Nat.le_refl _), (HH.out.2.2.1.only o6 (fun g hg hm => by have := (HH.out.2.2.1.lt g hg).1; have h2 : g = q + 1 := (by simpa using hm); omega)).rdn, by
              have := right_len LEG
              exact this, by show (toksOf r i).length ≤ _; rw [toksOf_len]; omega⟩
          have H6 : Hid (Cb w6 (q + 1) { c with ra := ra, de := de, rules := rules, toks := toksOf r i } (.slice xa xn xc) (.slice ta i tc) ∧ Step.legal { c with ra := ra, de := de, rules := rules, toks := toksOf r i } = true ∧ Rd w6.heap.size w6 { c with ra := ra, de := de, rules := rules, toks := toksOf r i } (.slice xa xn xc) (.slice ta i tc) ∧ Only [] w w6 ∧ 5 ≤ c.fr) :=
            ⟨hb, LEG, RD, HH.out.1.only.then o6 (fun x hx hl => by have := HH.out.1.base; have h2 : x = q + 1 := (by simpa using hx); omega), HK.out.fr.1⟩
          clear hb o6 hz HH LEG RD
          refine wpList_nil ?_
          go_wp2_with fail
          exact bodyPost_ret (res_cf H6.out.1 Try.results18 rfl) rfl ⟨_, _, _, _, _, _, _, rfl, H6.out.2.1, H6.out.2.2.2.2, H6.out.2.2.1, H6.out.2.2.2.1⟩
end Go.Proofs.Ytngbannidbijmaa
namespace Go.Proofs.Ytngbannidbijmaa
open Go.ChangeShapes Go.WideShapes Go.ChangeAt Go.RowKit Go.Deep
set_option linter.unusedVariables false

theorem wf_i64 {n : Int} (h : (Lit.int .i64 n).wf = true) : I64 n := by
  simp [Lit.wf, IntKind.min, IntKind.max, IntKind.bits, IntKind.signed] at h
  unfold I64; omega
theorem opens_ints : Opens 26 1 rInts := opens_slice Try.underlying26 (by kernel_rfl) (by decide) (opens_int Try.underlying3)
/-- a raw op -/
theorem three_of {α : Type} {cs : List α} (h : cs.length = 3) : ∃ a b c, cs = [a, b, c] := by
  match cs, h with
  | [a, b, c], _ => exact ⟨a, b, c, rfl⟩
theorem opens_rop : Opens 99 3 rOp := fun {H enc w base n cs x} hl h => by
  obtain ⟨a, b, c, rfl⟩ := three_of hl
  obtain ⟨x0, h0⟩ := open_field Try.underlying99 h (R := rInt .i64) 0 _ rfl (by kernel_rfl) (opens_int Try.underlying3) (by simp)
  obtain ⟨x1, h1⟩ := open_field Try.underlying99 h (R := rInt .i64) 1 _ rfl (by kernel_rfl) (opens_int Try.underlying3) (by simp)
  obtain ⟨x2, h2⟩ := open_field Try.underlying99 h (R := rInt .i64) 2 _ rfl (by kernel_rfl) (opens_int Try.underlying3) (by simp)
  have e0 := h0.1
  have e1 := h1.1
  have e2 := h2.1
  simp at e0 e1 e2
  exact ⟨⟨x0, x1, x2⟩, by simp [rOp, Op3.cells, e0, e1, e2]⟩
/-- a raw config -/
def rCfg : Rdr (Rcf × List Op3) := fun B w cs x => ∃ lv, cs = x.1.cells lv ∧ RdG 3 rOp B w lv x.2 ∧ x.1.Ok
theorem eight_of {α : Type} {cs : List α} (h : cs.length = 8) : ∃ a b c d e f g i, cs = [a, b, c, d, e, f, g, i] := by
  match cs, h with
  | [a, b, c, d, e, f, g, i], _ => exact ⟨a, b, c, d, e, f, g, i, rfl⟩
theorem opens_cfg : Opens 53 8 rCfg := fun {H enc w base n cs x} hl h => by
  obtain ⟨v0, v1, v2, v3, v4, v5, v6, v7, rfl⟩ := eight_of hl
  obtain ⟨x0, h0⟩ := open_field Try.underlying53 h (R := rInt .i64) 0 _ rfl (by kernel_rfl) (opens_int Try.underlying3) (by simp)
  obtain ⟨x1, h1⟩ := open_field Try.underlying53 h (R := rInt .i64) 1 _ rfl (by kernel_rfl) (opens_int Try.underlying3) (by simp)
  obtain ⟨x2, h2⟩ := open_field Try.underlying53 h (R := rInt .i64) 2 _ rfl (by kernel_rfl) (opens_int Try.underlying3) (by simp)
  obtain ⟨x3, h3⟩ := open_field Try.underlying53 h (R := rInt .i64) 3 _ rfl (by kernel_rfl) (opens_int Try.underlying3) (by simp)
  obtain ⟨x4, h4⟩ := open_field Try.underlying53 h (R := rInt .i64) 4 _ rfl (by kernel_rfl) (opens_int Try.underlying3) (by simp)
  obtain ⟨x5, h5⟩ := open_field Try.underlying53 h (R := rInt .i64) 5 _ rfl (by kernel_rfl) (opens_int Try.underlying3) (by simp)
  obtain ⟨x6, h6⟩ := open_field Try.underlying53 h (R := rInt .i64) 6 _ rfl (by kernel_rfl) (opens_int Try.underlying3) (by simp)
  obtain ⟨x7, h7⟩ := open_field Try.underlying53 h (R := rSlice 3 rOp) 7 _ rfl (by kernel_rfl) (opens_slice Try.underlying51 (by kernel_rfl) (by decide) opens_rop) (by simp)
  have e0 := h0.1
  have e1 := h1.1
  have e2 := h2.1
  have e3 := h3.1
  have e4 := h4.1
  have e5 := h5.1
  have e6 := h6.1
  obtain ⟨lv, e7, h7⟩ := h7
  simp at e0 e1 e2 e3 e4 e5 e6 e7
  exact ⟨(⟨x0, x1, x2, x3, x4, x5, x6⟩, x7), lv, by simp [Rcf.cells, e0, e1, e2, e3, e4, e5, e6, e7], h7, wf_i64 h0.2, wf_i64 h5.2, wf_i64 h6.2⟩
/-- cells of a row -/
def rCell : Rdr Cl := fun _ _ cs c => cs = c.cells
theorem rCell_st : Stable rCell := ⟨fun h _ _ => h, fun h _ => h⟩
theorem opens_inp : Opens 41 3 (fun _ _ cs (i : Inp) => cs = i.cells) := fun {H enc w base n cs x} hl h => by
  obtain ⟨a, b, c, rfl⟩ := three_of hl
  obtain ⟨x0, h0⟩ := open_field Try.underlying41 h (R := rInt .i64) 0 _ rfl (by kernel_rfl) (opens_int Try.underlying3) (by simp)
  obtain ⟨x1, h1⟩ := open_field Try.underlying41 h (R := rInt .i64) 1 _ rfl (by kernel_rfl) (opens_int Try.underlying3) (by simp)
  obtain ⟨x2, h2⟩ := open_field Try.underlying41 h (R := rInt .i64) 2 _ rfl (by kernel_rfl) (opens_int Try.underlying3) (by simp)
  have e0 := h0.1
  have e1 := h1.1
  have e2 := h2.1
  simp at e0 e1 e2
  exact ⟨⟨x0, x1, x2⟩, by simp [Inp.cells, e0, e1, e2]⟩
theorem four_of {α : Type} {cs : List α} (h : cs.length = 4) : ∃ a b c d, cs = [a, b, c, d] := by
  match cs, h with
  | [a, b, c, d], _ => exact ⟨a, b, c, d, rfl⟩
theorem opens_cell : Opens 43 4 rCell := fun {H enc w base n cs x} hl h => by
  obtain ⟨a, b, c, d, rfl⟩ := four_of hl
  obtain ⟨x0, h0⟩ := open_field Try.underlying43 h (R := rBool) 0 _ rfl (by kernel_rfl) (opens_bool Try.underlying4) (by simp)
  obtain ⟨x1, h1⟩ := open_field Try.underlying43 h (R := fun _ _ cs (i : Inp) => cs = i.cells) 1 _ rfl (by kernel_rfl) opens_inp (by simp)
  have e0 : _ = _ := h0
  have e1 := h1
  simp [Inp.cells] at e0 e1
  exact ⟨⟨x0, x1⟩, by simp [rCell, Cl.cells, e0, e1]⟩
theorem rdc_of {B : Nat} {w : World} {v : Value} {l : List Cl} (h : RdG 4 rCell B w v l) : RdC B w v l := by
  obtain ⟨a, cap, rfl, h1, h2, h⟩ := h
  refine ⟨a, cap, rfl, h1, h2, ?_⟩
  rcases h with h | ⟨b, off, rfl, hB, hb, hc⟩
  · exact Or.inl h
  · refine Or.inr ⟨b, off, rfl, hB, hb, fun i hi j v hj => ?_⟩
    obtain ⟨cs, rfl, _, q⟩ := hc i _ (List.getElem?_eq_getElem hi)
    have hj4 : j < 4 := by have := (List.getElem?_eq_some_iff.1 hj).1; simpa [Cl.cells] using this
    have e : l.getD i ⟨false, ⟨0, 0, 0⟩⟩ = l[i] := by simp [List.getD_eq_getElem?_getD, hi]
    rw [e] at hj
    rw [Nat.add_assoc, q j hj4, hj]
end Go.Proofs.Ytngbannidbijmaa

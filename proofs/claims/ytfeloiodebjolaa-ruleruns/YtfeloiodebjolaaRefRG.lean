/- The reference of chapter 12: Run. -/
import Derived.Test.YtfeloiodebjolaaRefRF
import Derived.Test.YtfeloiodebjolaaOneB
import Derived.Deep.DeepCutAuto
import Derived.Deep.CutBlock
namespace Go.Proofs.Ytfeloiodebjolaa
open Go.RowKit
set_option linter.unusedVariables false
set_option linter.unusedSimpArgs false

/-- what it leaves -/
def RefPost (w : World) (r : Ev × Int × Int × Bool) (x : Ending) (w' : World) : Prop :=
  (∃ v, x = .returned (.tuple #[r.1.v v, .int .i64 r.2.1, .int .i64 r.2.2.1, .bool r.2.2.2]) ∧ SR 0 w' v r.1.sh) ∧ Only [] w w'
theorem refPost_mk {w w' : World} {r : Ev × Int × Int × Bool} {e : Ev} {v : Value} {c a : Int} {b : Bool} {x : Ending} (hr : r = (e, c, a, b)) (hx : x = .returned (.tuple #[e.v v, .int .i64 c, .int .i64 a, .bool b])) (hs : SR 0 w' v e.sh) (o : Only [] w w') : RefPost w r x w' := by
  subst hr; exact ⟨⟨v, hx, hs⟩, o⟩
theorem idx0_at {t i : Nat} (hi : i < 4) (w : World) : (Instr.indexAt 32 (.pointer (some ⟨t, 0, none⟩)) (.int .i64 (i : Nat))).run Try.prog w = .ok (.pointer (some ⟨t, i, none⟩)) w := by
  have h4 : i = 0 ∨ i = 1 ∨ i = 2 ∨ i = 3 := by omega
  rcases h4 with rfl | rfl | rfl | rfl <;> (show _ = _; kernel_rfl)
theorem quad_at {w : World} {p : Nat} {b : Bd} (h : Blk w p [.int .i64 b.m0, .int .i64 b.m1, .int .i64 b.m2, .int .i64 b.m3]) (i : Nat) (hi : i < 4) : w.cell? ⟨p, i, none⟩ = some (.int .i64 (Rule.reg b i)) := by
  have h4 : i = 0 ∨ i = 1 ∨ i = 2 ∨ i = 3 := by omega
  rcases h4 with rfl | rfl | rfl | rfl
  · exact h.cell 0
  · exact h.cell 1
  · exact h.cell 2
  · exact h.cell 3
/-- an op is under way -/
structure Mid (wp wx : World) (q p1 p2 : Nat) (o : Op3) (b : Bd) (ex : Ev) (sv : Value) : Prop where
  cur : Eb wx q ex sv
  op : Three wx p1 (.int .i64 o.c) (.int .i64 o.a) (.int .i64 o.b)
  mem : Blk wx p2 [.int .i64 b.m0, .int .i64 b.m1, .int .i64 b.m2, .int .i64 b.m3]
  only : Only [q] wp wx
  l1 : q < p1
  l2 : q < p2
theorem Mid.then {wp wx wy : World} {q p1 p2 : Nat} {o : Op3} {b : Bd} {ex : Ev} {sv : Value} (h : Mid wp wx q p1 p2 o b ex sv) (u : Only [] wx wy) : Mid wp wy q p1 p2 o b ex sv :=
  ⟨h.cur.only u (by simp), h.op.only u (by simp), h.mem.only u (by simp), h.only.then u (by simp), h.l1, h.l2⟩
theorem Mid.turn {wp wx wy : World} {q p1 p2 : Nat} {o : Op3} {b : Bd} {ex ey : Ev} {sv sv2 : Value} (h : Mid wp wx q p1 p2 o b ex sv) (k : Eb wy q ey sv2) (u : Only [q] wx wy) : Mid wp wy q p1 p2 o b ey sv2 :=
  ⟨k, h.op.only u (by simp; have := h.l1; omega), h.mem.only u (by simp; have := h.l2; omega), h.only.trans u, h.l1, h.l2⟩
/-- behind the first switch -/
def AfterA (n at_ : Int) (o : Op3) (e' ex : Ev) (v : Int) : Bool → Prop
  | true => ((o.c == 8) = false ∧ (o.c == 9) = false ∧ (o.c == 10) = false ∧ (o.c == 12) = false ∧ (o.c == 13) = false) ∧ (0 ≤ o.a ∧ o.a ≤ 3) ∧ ex.sh = e'.sh ∧ Rule.act n at_ o e' = .next { ex with b := Rule.setr ex.b o.a (Rule.clamp v) } (at_ + 1)
  | false => ex = e' ∧ (o.c = 8 ∨ o.c = 9 ∨ o.c = 10 ∨ o.c = 12 ∨ o.c = 13)
theorem reg_rng2 {b : Bd} (h : Body.some b = true) (i : Nat) (hi : i < 4) : -1000000 ≤ Rule.reg b i ∧ Rule.reg b i ≤ 1000000 := by
  have hm : Body.mem b.m0 = true ∧ Body.mem b.m1 = true ∧ Body.mem b.m2 = true ∧ Body.mem b.m3 = true := by
    unfold Body.some at h
    simp only [Bool.and_eq_true] at h
    obtain ⟨⟨⟨⟨⟨⟨⟨⟨⟨⟨⟨h0, h1⟩, h2⟩, h3⟩, -⟩, -⟩, -⟩, -⟩, -⟩, -⟩, -⟩, -⟩ := h
    exact ⟨h0, h1, h2, h3⟩
  have h4 : i = 0 ∨ i = 1 ∨ i = 2 ∨ i = 3 := by omega
  rcases h4 with rfl | rfl | rfl | rfl
  · exact btw_in hm.1
  · exact btw_in hm.2.1
  · exact btw_in hm.2.2.1
  · exact btw_in hm.2.2.2
theorem effOk_of {P : Program} {T : World → World → Prop} {R : World → Value → Prop} {w w' : World} {r : Result Next} {v : Value} (h : r = .ok (.value v) w') (hR : R w' v) (hT : T w w') : effOk P T R (fun _ => True) w r := h ▸ ⟨hR, trivial, hT⟩
theorem abs_mul {x y : Int} (hx : -1000000 ≤ x ∧ x ≤ 1000000) (hy : -1000000 ≤ y ∧ y ≤ 1000000) : -1000000000000 ≤ x * y ∧ x * y ≤ 1000000000000 := by
  have h : (x * y).natAbs ≤ 1000000 * 1000000 := by rw [Int.natAbs_mul]; exact Nat.mul_le_mul (by omega) (by omega)
  omega
theorem tdiv_rng {x y : Int} (hx : -1000000 ≤ x ∧ x ≤ 1000000) : -1000000 ≤ x.tdiv y ∧ x.tdiv y ≤ 1000000 := by
  have h : (x.tdiv y).natAbs ≤ x.natAbs := by rw [Int.natAbs_tdiv]; exact Nat.div_le_self _ _
  omega
set_option maxRecDepth 100000 in
set_option maxHeartbeats 20000000 in
theorem rrun_any (e : Ev) (hk1 : e.b.k = 1) (hsh : e.sh = []) {w : World} {ov : Value} {l : List Op3} (ho : RdO w.heap.size w ov l) (hn : l.length ≤ 1000000) : Calls Try.prog 7 #[ov, e.v (.slice none 0 0)] w (RefPost w (Rule.run l e)) := by
  have hnot : ∀ (x : Bool) (w : World), (Op.unary .not (.bool x)).run Try.prog w = .ok (.bool (!x)) w := fun _ _ => rfl
  obtain ⟨oa, oc, hov, -⟩ := id ho
  obtain ⟨N, hN⟩ : ∃ N, l.length = N := ⟨_, rfl⟩
  have HN : Hid _ := hN
  rw [hN] at hov hn
  subst hov
  have HO : Hid (RdO w.heap.size w (.slice oa N oc) l) := ho
  have HK : Hid _ := hk1
  have HSH : Hid _ := hsh
  clear hN ho hk1 hsh
  have H0 : Hid (Eb ((w.alloc (.cells (e.cells (.slice none 0 0)).toArray 45)).alloc (.cells (Ev.zero.cells (.slice none 0 0)).toArray 45)) w.heap.size e (.slice none 0 0) ∧ Eb ((w.alloc (.cells (e.cells (.slice none 0 0)).toArray 45)).alloc (.cells (Ev.zero.cells (.slice none 0 0)).toArray 45)) (w.heap.size + 1) Ev.zero (.slice none 0 0) ∧ Only [] w ((w.alloc (.cells (e.cells (.slice none 0 0)).toArray 45)).alloc (.cells (Ev.zero.cells (.slice none 0 0)).toArray 45)) ∧ ((w.alloc (.cells (e.cells (.slice none 0 0)).toArray 45)).alloc (.cells (Ev.zero.cells (.slice none 0 0)).toArray 45)).heap.size = w.heap.size + 2) :=
    ⟨(Eb.new e _ _ _).only ((Only.refl [] _).alloc _) (by simp), Eb.newAt (w := w.alloc (.cells (e.cells (.slice none 0 0)).toArray 45)) (M := w.heap.size + 1) Ev.zero (.slice none 0 0) (by simp) 45, ((Only.refl [] _).alloc _).alloc _, by simp⟩
  go_enter Try.func7, Try.ntmps7
  go_upto_region 1 with fail
  change Code.wp _ _ _ _ ((w.alloc (.cells (e.cells (.slice none 0 0)).toArray 45)).alloc (.cells (Ev.zero.cells (.slice none 0 0)).toArray 45))
  generalize (w.alloc (.cells (e.cells (.slice none 0 0)).toArray 45)).alloc (.cells (Ev.zero.cells (.slice none 0 0)).toArray 45) = W at *
  obtain ⟨q, hq⟩ : ∃ q, w.heap.size = q := ⟨_, rfl⟩
  simp only [hq] at H0 ⊢
  have HQ : Hid _ := hq
  clear hq
  apply wp_region_lit
  refine opg_renv (p := q) (by kernel_rfl) (.tmp 3) rfl (by kernel_rfl) H0.out.1 ?_
  refine op_val (w' := W.alloc (.cells (Ev.zero.cells (.slice none 0 0)).toArray 45)) rfl (.pointer (some ⟨W.heap.size, 0, none⟩)) (by kernel_rfl) ?_
  refine op_storeR (p := W.heap.size) (e := e) (s := .slice none 0 0) rfl _ _ rfl rfl rfl (Eb.new Ev.zero _ _ _) rfl ?_
  intro w1 hb1 o1 z1
  refine wpList_nil ?_
  have o01 : Only [] W w1 := ((Only.refl [] W).alloc _).then o1 (fun u hu hl => by have h2 : u = W.heap.size := (by simpa using hu); omega)
  have hz1 : q + 3 ≤ w1.heap.size := by rw [z1]; simp; have := H0.out.2.2.2; omega
  have hb2 : Eb w1 (q + 2) e (.slice none 0 0) := by have h := H0.out.2.2.2; rw [← h]; exact hb1
  rw [show W.heap.size = q + 2 from H0.out.2.2.2]
  have H1 : Hid (Eb w1 q e (.slice none 0 0) ∧ Eb w1 (q + 1) Ev.zero (.slice none 0 0) ∧ Eb w1 (q + 2) e (.slice none 0 0) ∧ Only [] w w1 ∧ q + 3 ≤ w1.heap.size) := ⟨H0.out.1.only o01 (by simp), H0.out.2.1.only o01 (by simp), hb2, H0.out.2.2.1.trans o01, hz1⟩
  clear H0 hb1 o1 z1 o01 hz1 hb2
  obtain ⟨c0, c1, c2, c3, c4, c5, c6, c7, c8, c9, c10, c11⟩ : w1.cell? ⟨q, 0, none⟩ = some (.int .i64 e.b.k) ∧ w1.cell? ⟨q, 1, none⟩ = some (.int .i64 e.b.o) ∧ w1.cell? ⟨q, 2, none⟩ = some (.int .i64 e.b.x) ∧ w1.cell? ⟨q, 3, none⟩ = some (.int .i64 e.b.y) ∧ w1.cell? ⟨q, 4, none⟩ = some (.int .i64 e.b.vx) ∧ w1.cell? ⟨q, 5, none⟩ = some (.int .i64 e.b.vy) ∧ w1.cell? ⟨q, 6, none⟩ = some (.int .i64 e.b.age) ∧ w1.cell? ⟨q, 7, none⟩ = some (.int .i64 e.b.m0) ∧ w1.cell? ⟨q, 8, none⟩ = some (.int .i64 e.b.m1) ∧ w1.cell? ⟨q, 9, none⟩ = some (.int .i64 e.b.m2) ∧ w1.cell? ⟨q, 10, none⟩ = some (.int .i64 e.b.m3) ∧ w1.cell? ⟨q, 11, none⟩ = some (.int .i64 e.b.f) := by
    have := fun i => H1.out.1.blk.cell i
    exact ⟨this 0, this 1, this 2, this 3, this 4, this 5, this 6, this 7, this 8, this 9, this 10, this 11⟩
  go_wp2_with fail
  refine (rbody_any e.b HK.out _).mono ?_
  rintro x w2 ⟨rfl, o2⟩
  clear c0 c1 c2 c3 c4 c5 c6 c7 c8 c9 c10 c11
  have H2 : Hid (Eb w2 q e (.slice none 0 0) ∧ Eb w2 (q + 1) Ev.zero (.slice none 0 0) ∧ Eb w2 (q + 2) e (.slice none 0 0) ∧ Only [] w w2 ∧ q + 3 ≤ w2.heap.size) := ⟨H1.out.1.only o2 (by simp), H1.out.2.1.only o2 (by simp), H1.out.2.2.1.only o2 (by simp), H1.out.2.2.2.1.trans o2, Nat.le_trans H1.out.2.2.2.2 o2.size⟩
  clear H1 o2
  have c0 : w2.cell? ⟨q, 0, none⟩ = some (.int .i64 e.b.k) := H2.out.1.blk.cell 0
  have hk0 : (e.b.k == 0) = false := by rw [HK.out]; rfl
  obtain ⟨sb, hsb⟩ : ∃ sb, Body.some e.b = sb := ⟨_, rfl⟩
  have HSB : Hid _ := hsb
  rw [hsb]
  clear hsb
  cases sb
  · as_aux_lemma =>
      go_upto_region 4 with fail
      clear c0
      apply wp_region_lit
      refine opg_renv (p := q + 2) (by kernel_rfl) (.tmp 8) rfl (by kernel_rfl) H2.out.2.2.1 ?_
      refine op_storeR (p := q + 1) (e := e) (s := .slice none 0 0) rfl (.tmp 4) (.tmp 31) rfl (by kernel_rfl) (by kernel_rfl) H2.out.2.1 rfl ?_
      intro w3 hb3 o3 z3
      refine opg_v (by kernel_rfl) (.int .i64 0) (by kernel_rfl) ?_
      refine opg_v (by kernel_rfl) (.int .i64 0) (by kernel_rfl) ?_
      refine opg_v (by kernel_rfl) (.bool false) (by kernel_rfl) ?_
      refine wpList_nil ?_
      have H3 : Hid (Eb w3 (q + 1) e (.slice none 0 0) ∧ Only [] w w3) := ⟨hb3, H2.out.2.2.2.1.then o3 (fun u hu hl => by have h2 : u = q + 1 := (by simpa using hu); have := HQ.out; omega)⟩
      clear hb3 o3 z3 H2
      go_wp2_with fail
      exact bodyPost_ret (res_rrun H3.out.1 rfl rfl rfl rfl) rfl (refPost_mk (run_bad HSB.out) rfl (HSH.out ▸ SR.nil 0 _) H3.out.2)
  go_upto_region 5 with fail
  clear c0 hk0
  have H3 : Hid (RW w w2 q (.slice oa N oc) l e e (.slice none 0 0) 0 0) := ⟨H2.out.1, H2.out.2.1, H2.out.2.2.1, HSH.out ▸ SR.nil _ _, HO.out.only H2.out.2.2.2.1 (by simp), H2.out.2.2.2.1, HQ.out, H2.out.2.2.2.2, rfl, HSB.out, HK.out, Int.le_refl _, by omega, by rw [HSH.out]; simp, fun _ => rfl⟩
  clear H2
  go_wp2_with fail
  go_loopg [9, 10] 66 (fun gk va vk wr => ∃ (k : Nat) (a : Int) (e' : Ev) (sv : Value), va = .int .i64 a ∧ vk = .int .i64 k ∧ k ≤ 64 ∧ 66 - k ≤ gk ∧ Hid (RW w wr q (.slice oa N oc) l e e' sv k a))
  case atStart => exact ⟨0, 0, e, _, rfl, rfl, by omega, by omega, H3.out⟩
  case round =>
    clear H3
    obtain ⟨k, a, e', sv, rfl, rfl, hk, hg, HR⟩ := hrel
    obtain ⟨sa, sc, hsv, hM2⟩ := HR.out.row.form
    obtain ⟨M, hM⟩ : ∃ M, e'.sh.length = M := ⟨_, rfl⟩
    have HM : Hid _ := hM
    rw [hM] at hsv hM2
    subst hsv
    clear hM
    by_cases hlt : a < (N : Int)
    rotate_left
    · as_aux_lemma =>
        go_upto_region 62 with fail
        apply wp_region_lit
        refine opg_renv (p := q) (by kernel_rfl) (.tmp 3) rfl (by kernel_rfl) HR.out.cur ?_
        refine op_storeR (p := q + 1) (e := e') (s := .slice sa M sc) rfl (.tmp 4) (.tmp 217) rfl (by kernel_rfl) (by kernel_rfl) HR.out.res rfl ?_
        intro w3 hb3 o3 z3
        refine opg_v (by kernel_rfl) (.int .i64 0) (by kernel_rfl) ?_
        refine opg_v (by kernel_rfl) (.int .i64 0) (by kernel_rfl) ?_
        refine opg_v (by kernel_rfl) (.bool true) (by kernel_rfl) ?_
        refine wpList_nil ?_
        have hrun : Rule.run l e = (e', 0, 0, true) := run_done HSB.out (by rw [← HR.out.go]; exact go_end (by rw [HN.out]; exact hlt))
        have H4 : Hid (Eb w3 (q + 1) e' (.slice sa M sc) ∧ SR 0 w3 (.slice sa M sc) e'.sh ∧ Only [] w w3 ∧ Rule.run l e = (e', 0, 0, true)) := ⟨hb3, (HR.out.row.only o3 (fun g hg' hm => by have h2 : g = q + 1 := (by simpa using hm); have := (HR.out.row.lt g hg').1; omega)).lower (Nat.zero_le _), HR.out.only.then o3 (fun u hu hl => by have h2 : u = q + 1 := (by simpa using hu); have := HQ.out; omega), hrun⟩
        clear hb3 o3 z3 HR hrun
        go_wp2_with fail
        exact bodyPost_ret (res_rrun H4.out.1 rfl rfl rfl rfl) rfl (refPost_mk H4.out.2.2.2 rfl H4.out.2.1 H4.out.2.2.1)
    -- the op
    have ha0 : 0 ≤ a := HR.out.a0
    obtain ⟨i, hi⟩ : ∃ i : Nat, a = i := ⟨a.toNat, by omega⟩
    subst hi
    clear ha0
    have z0 : (0 : Int) ≤ (i : Int) := by omega
    obtain ⟨oc1, oa1, ob1, hop, e1, e2, e3, bb, off, hoa⟩ : ∃ c x y, l.getD (i : Int).toNat ⟨0, 0, 0⟩ = ⟨c, x, y⟩ ∧ (∃ bb off, oa = some ⟨bb, off, none⟩ ∧ wr.cell? ⟨bb, off + i * 3, none⟩ = some (.int .i64 c) ∧ wr.cell? ⟨bb, off + i * 3 + 1, none⟩ = some (.int .i64 x) ∧ wr.cell? ⟨bb, off + i * 3 + 2, none⟩ = some (.int .i64 y)) ∧ True ∧ True ∧ ∃ (bb off : Nat), True := by
      obtain ⟨oa', oc', e1, -, hr⟩ := HR.out.ops
      rcases hr with hr | ⟨b, off, e4, -, hb, hc⟩
      · have := HN.out; rw [hr] at this; simp at this; omega
      · have hil : i < l.length := by rw [HN.out]; omega
        obtain ⟨k1, k2, k3⟩ := hc i hil
        injection e1 with e1 e5 e6
        subst e1
        exact ⟨(l.getD i ⟨0, 0, 0⟩).c, (l.getD i ⟨0, 0, 0⟩).a, (l.getD i ⟨0, 0, 0⟩).b, rfl, ⟨b, off, e4, k1, k2, k3⟩, trivial, trivial, 0, 0, trivial⟩
    clear e2 e3 hoa bb off
    obtain ⟨bb, off, rfl, e1, e2, e3⟩ := e1
    have HOP : Hid _ := hop
    clear hop
    go_upto_region 9 with fail
    change Code.wp _ _ _ _ (wr.alloc (.cells #[.int .i64 oc1, .int .i64 oa1, .int .i64 ob1] 29))
    have H4 : Hid (RW w (wr.alloc (.cells #[.int .i64 oc1, .int .i64 oa1, .int .i64 ob1] 29)) q (.slice (some ⟨bb, off, none⟩) N oc) l e e' (.slice sa M sc) k (i : Int) ∧ Three (wr.alloc (.cells #[.int .i64 oc1, .int .i64 oa1, .int .i64 ob1] 29)) wr.heap.size (.int .i64 oc1) (.int .i64 oa1) (.int .i64 ob1) ∧ q < wr.heap.size) := ⟨HR.out.then ((Only.refl [] _).alloc _), Three.new _ _ _ _ _, by have := HR.out.sz; omega⟩
    clear HR e1 e2 e3
    generalize wr.alloc (.cells #[.int .i64 oc1, .int .i64 oa1, .int .i64 ob1] 29) = w3 at *
    generalize wr.heap.size = p1 at *
    by_cases h64 : 64 ≤ k
    · as_aux_lemma =>
        have zk : (64 : Int) ≤ (k : Int) := by omega
        have hke : k = 64 := by omega
        go_upto_region 10 with fail
        apply wp_region_lit
        refine opg_renv (p := q + 2) (by kernel_rfl) (.tmp 8) rfl (by kernel_rfl) H4.out.1.was ?_
        refine opg_v (by kernel_rfl) (.int .i64 (i : Int)) (by kernel_rfl) ?_
        refine op_storeR (p := q + 1) (e := e) (s := .slice none 0 0) rfl (.tmp 4) (.tmp 44) rfl (by kernel_rfl) (by kernel_rfl) H4.out.1.res rfl ?_
        intro w4 hb4 o4 z4
        refine opg_v (by kernel_rfl) (.int .i64 5) (by kernel_rfl) ?_
        refine opg_v (by kernel_rfl) (.int .i64 (i : Int)) (by kernel_rfl) ?_
        refine opg_v (by kernel_rfl) (.bool false) (by kernel_rfl) ?_
        refine wpList_nil ?_
        have hrun : Rule.run l e = (e, 5, (i : Int), false) := run_fault HSB.out (by rw [← H4.out.1.go, hke]; exact go_0 (by rw [HN.out]; exact hlt))
        have H5 : Hid (Eb w4 (q + 1) e (.slice none 0 0) ∧ Only [] w w4 ∧ Rule.run l e = (e, 5, (i : Int), false)) := ⟨hb4, H4.out.1.only.then o4 (fun u hu hl => by have h2 : u = q + 1 := (by simpa using hu); have := HQ.out; omega), hrun⟩
        clear hb4 o4 z4 H4 hrun
        go_wp2_with fail
        exact bodyPost_ret (res_rrun H5.out.1 rfl rfl rfl rfl) rfl (refPost_mk H5.out.2.2 rfl (HSH.out ▸ SR.nil 0 _) H5.out.2.1)
    have zk : ¬ (64 : Int) ≤ (k : Int) := by omega
    have hk64 : k < 64 := by omega
    go_upto_region 11 with fail
    apply wp_region_lit
    refine opg_three (p := p1) (by kernel_rfl) (.tmp 11) rfl (by kernel_rfl) H4.out.2.1 ?_
    refine opg_renv (p := q) (by kernel_rfl) (.tmp 3) rfl (by kernel_rfl) H4.out.1.cur ?_
    refine opg_v (by kernel_rfl) (.slice (some ⟨bb, off, none⟩) N oc) (by kernel_rfl) ?_
    refine opg_v (by kernel_rfl) (.int .i64 (N : Int)) (by kernel_rfl) ?_
    refine opg_call (F := 20) (args := #[.agg #[.int .i64 oc1, .int .i64 oa1, .int .i64 ob1], e'.v (.slice sa M sc), .int .i64 (N : Int)]) (w1 := w3) (by kernel_rfl) (by kernel_rfl) ?_
    refine (rfault_any oc1 oa1 ob1 (N : Int) e' sa M sc HM.out hM2 w3).mono ?_
    rintro x w4 ⟨rfl, o4⟩
    refine ⟨_, rfl, ?_⟩
    obtain ⟨fc, hfc⟩ : ∃ fc, Ref.flt (N : Int) ⟨oc1, oa1, ob1⟩ e' = fc := ⟨_, rfl⟩
    have HF : Hid _ := hfc
    rw [hfc]
    clear hfc
    refine opg_v (by kernel_rfl) (.int .i64 fc) (by kernel_rfl) ?_
    simp only [Act.put, List.setIfInBounds_toArray, List.set_cons_succ, List.set_cons_zero]
    refine wpList_nil ?_
    have H5 : Hid (RW w w4 q (.slice (some ⟨bb, off, none⟩) N oc) l e e' (.slice sa M sc) k (i : Int) ∧ Three w4 p1 (.int .i64 oc1) (.int .i64 oa1) (.int .i64 ob1) ∧ q < p1) := ⟨H4.out.1.then o4, H4.out.2.1.only o4 (by simp), H4.out.2.2⟩
    clear H4 o4
    by_cases hf0 : fc = 0
    rotate_left
    · as_aux_lemma =>
        have hfn : (fc != 0) = true := by simpa using hf0
        have hact : Rule.act l.length (i : Int) (l.getD (i : Int).toNat ⟨0, 0, 0⟩) e' = .fault fc := by rw [HOP.out, HN.out]; exact act_of_flt HF.out hf0
        have hrun : Rule.run l e = (e, fc, (i : Int), false) := run_fault HSB.out (by rw [← H5.out.1.go, show 64 - k = (63 - k) + 1 by omega]; exact go_f (by rw [HN.out]; exact hlt) hact)
        have HRUN : Hid _ := hrun
        clear hact hrun
        go_upto_region 13 with fail
        apply wp_region_lit
        refine opg_renv (p := q + 2) (by kernel_rfl) (.tmp 8) rfl (by kernel_rfl) H5.out.1.was ?_
        refine opg_v (by kernel_rfl) (.int .i64 fc) (by kernel_rfl) ?_
        refine opg_v (by kernel_rfl) (.int .i64 (i : Int)) (by kernel_rfl) ?_
        refine op_storeR (p := q + 1) (e := e) (s := .slice none 0 0) rfl (.tmp 4) (.tmp 53) rfl (by kernel_rfl) (by kernel_rfl) H5.out.1.res rfl ?_
        intro w5 hb5 o5 z5
        refine opg_v (by kernel_rfl) (.int .i64 fc) (by kernel_rfl) ?_
        refine opg_v (by kernel_rfl) (.int .i64 (i : Int)) (by kernel_rfl) ?_
        refine opg_v (by kernel_rfl) (.bool false) (by kernel_rfl) ?_
        refine wpList_nil ?_
        have H6 : Hid (Eb w5 (q + 1) e (.slice none 0 0) ∧ Only [] w w5) := ⟨hb5, H5.out.1.only.then o5 (fun u hu hl => by have h2 : u = q + 1 := (by simpa using hu); have := HQ.out; omega)⟩
        clear hb5 o5 z5 H5
        go_wp2_with fail
        exact bodyPost_ret (res_rrun H6.out.1 rfl rfl rfl rfl) rfl (refPost_mk HRUN.out rfl (HSH.out ▸ SR.nil 0 _) H6.out.2)
    subst hf0
    have c7 : w4.cell? ⟨q, 7, none⟩ = some (.int .i64 e'.b.m0) := H5.out.1.cur.blk.cell 7
    have c8 : w4.cell? ⟨q, 8, none⟩ = some (.int .i64 e'.b.m1) := H5.out.1.cur.blk.cell 8
    have c9 : w4.cell? ⟨q, 9, none⟩ = some (.int .i64 e'.b.m2) := H5.out.1.cur.blk.cell 9
    have c10 : w4.cell? ⟨q, 10, none⟩ = some (.int .i64 e'.b.m3) := H5.out.1.cur.blk.cell 10
    have wa : IntKind.i64.wrap ((i : Int) + 1) = (i : Int) + 1 := IntWalk.i64_in _ (by omega)
    go_upto_region 15 with fail
    change Code.wp _ _ _ _ (w4.alloc (.cells #[.int .i64 e'.b.m0, .int .i64 e'.b.m1, .int .i64 e'.b.m2, .int .i64 e'.b.m3] 32))
    have H6 : Hid (RW w (w4.alloc (.cells #[.int .i64 e'.b.m0, .int .i64 e'.b.m1, .int .i64 e'.b.m2, .int .i64 e'.b.m3] 32)) q (.slice (some ⟨bb, off, none⟩) N oc) l e e' (.slice sa M sc) k (i : Int) ∧ Mid (w4.alloc (.cells #[.int .i64 e'.b.m0, .int .i64 e'.b.m1, .int .i64 e'.b.m2, .int .i64 e'.b.m3] 32)) (w4.alloc (.cells #[.int .i64 e'.b.m0, .int .i64 e'.b.m1, .int .i64 e'.b.m2, .int .i64 e'.b.m3] 32)) q p1 w4.heap.size ⟨oc1, oa1, ob1⟩ e'.b e' (.slice sa M sc)) :=
      ⟨H5.out.1.then ((Only.refl [] _).alloc _), H5.out.1.cur.only ((Only.refl [] _).alloc _) (by simp), H5.out.2.1.only ((Only.refl [] _).alloc _) (by simp), Blk.new _ _ _, Only.refl _ _, H5.out.2.2, by have := H5.out.1.sz; omega⟩
    clear c7 c8 c9 c10 H5
    generalize w4.alloc (.cells #[.int .i64 e'.b.m0, .int .i64 e'.b.m1, .int .i64 e'.b.m2, .int .i64 e'.b.m3] 32) = w5 at *
    generalize w4.heap.size = p2 at *
    have f0 : w5.cell? ⟨p1, 0, none⟩ = some (.int .i64 oc1) := H6.out.2.op.cell0
    go_upto_block 2 with fail
    clear f0
    have HW : Hid (RW w w5 q (.slice (some ⟨bb, off, none⟩) N oc) l e e' (.slice sa M sc) k (i : Int)) := H6.out.1
    have H7 : Hid (Mid w5 w5 q p1 p2 ⟨oc1, oa1, ob1⟩ e'.b e' (.slice sa M sc)) := H6.out.2
    clear H6
    go_cut [15, 16] (fun v15 v16 wx => ∃ (v : Int) (b : Bool) (ex : Ev), v15 = .int .i64 v ∧ v16 = .bool b ∧ Hid (Mid w5 wx q p1 p2 ⟨oc1, oa1, ob1⟩ e'.b ex (.slice sa M sc) ∧ AfterA (N : Int) (i : Int) ⟨oc1, oa1, ob1⟩ e' ex v b))
    case first =>
      have f1 : w5.cell? ⟨p1, 1, none⟩ = some (.int .i64 oa1) := H7.out.op.cell1
      have f2 : w5.cell? ⟨p1, 2, none⟩ = some (.int .i64 ob1) := H7.out.op.cell2
      have hb13 : 1 ≤ oc1 ∧ oc1 ≤ 13 := by
        by_cases h : 1 ≤ oc1 ∧ oc1 ≤ 13
        · exact h
        · have h4 : Ref.flt (N : Int) ⟨oc1, oa1, ob1⟩ e' = 4 := by
            have c26 : ¬ (2 ≤ oc1 ∧ oc1 ≤ 6) := by omega
            have c1 : ¬ oc1 = 1 := by omega
            have c7 : ¬ oc1 = 7 := by omega
            have c8 : ¬ oc1 = 8 := by omega
            have c9 : ¬ oc1 = 9 := by omega
            have c10 : ¬ oc1 = 10 := by omega
            have c11 : ¬ oc1 = 11 := by omega
            have c12 : ¬ oc1 = 12 := by omega
            have c13 : ¬ oc1 = 13 := by omega
            simp [Ref.flt, Rule.act, c26, c1, c7, c8, c9, c10, c11, c12, c13]
          rw [HF.out] at h4; cases h4
      have h13 : oc1 = 1 ∨ oc1 = 2 ∨ oc1 = 3 ∨ oc1 = 4 ∨ oc1 = 5 ∨ oc1 = 6 ∨ oc1 = 7 ∨ oc1 = 8 ∨ oc1 = 9 ∨ oc1 = 10 ∨ oc1 = 11 ∨ oc1 = 12 ∨ oc1 = 13 := by omega
      clear hb13
      rcases h13 with rfl | rfl | rfl | rfl | rfl | rfl | rfl | rfl | rfl | rfl | rfl | rfl | rfl
      · as_aux_lemma =>
          have hA : Body.btw oa1 0 3 = true := by
            cases h : Body.btw oa1 0 3
            · have := HF.out; simp [Ref.flt, Rule.act, Rule.is, h] at this
            · rfl
          have hact : Rule.act (N : Int) (i : Int) ⟨1, oa1, ob1⟩ e' = .next { e' with b := Rule.setr e'.b oa1 (Rule.clamp ob1) } ((i : Int) + 1) := by simp [Rule.act, Rule.is, hA]
          have HACT : Hid _ := hact
          have HA := btw_in hA
          clear hact
          go_wp2_with fail
          go_meet
          exact ⟨ob1, true, e', rfl, rfl, H7.out, ⟨rfl, rfl, rfl, rfl, rfl⟩, HA, rfl, HACT.out⟩
      · as_aux_lemma =>
          have hA : Body.btw oa1 0 3 = true := by
            cases h : Body.btw oa1 0 3
            · have := HF.out; simp [Ref.flt, Rule.act, Rule.is, h] at this
            · rfl
          have hB : Body.btw ob1 0 3 = true := by
            cases h : Body.btw ob1 0 3
            · have := HF.out; simp [Ref.flt, Rule.act, Rule.is, h] at this
            · rfl
          obtain ⟨j, hj⟩ : ∃ j : Nat, ob1 = j := ⟨ob1.toNat, by have := btw_in hB; omega⟩
          have hj4 : j < 4 := by have := btw_in hB; omega
          subst hj
          obtain ⟨y, hy⟩ : ∃ y, Rule.reg e'.b (j : Nat) = y := ⟨_, rfl⟩
          have cy : w5.cell? ⟨p2, j, none⟩ = some (.int .i64 y) := by rw [← hy]; exact quad_at H7.out.mem j hj4
          have ixy := fun w => @idx0_at p2 j hj4 w
          have hact : Rule.act (N : Int) (i : Int) ⟨2, oa1, (j : Int)⟩ e' = .next { e' with b := Rule.setr e'.b oa1 (Rule.clamp y) } ((i : Int) + 1) := by simp [Rule.act, Rule.is, hA, hB, Rule.reckon, hy]
          have HACT : Hid _ := hact
          have HA := btw_in hA
          clear hact hy
          go_wp2_with fail
          go_meet
          exact ⟨y, true, e', rfl, rfl, H7.out, ⟨rfl, rfl, rfl, rfl, rfl⟩, HA, rfl, HACT.out⟩
      · as_aux_lemma =>
          have hA : Body.btw oa1 0 3 = true := by
            cases h : Body.btw oa1 0 3
            · have := HF.out; simp [Ref.flt, Rule.act, Rule.is, h] at this
            · rfl
          have hB : Body.btw ob1 0 3 = true := by
            cases h : Body.btw ob1 0 3
            · have := HF.out; simp [Ref.flt, Rule.act, Rule.is, h] at this
            · rfl
          obtain ⟨j, hj⟩ : ∃ j : Nat, ob1 = j := ⟨ob1.toNat, by have := btw_in hB; omega⟩
          have hj4 : j < 4 := by have := btw_in hB; omega
          subst hj
          obtain ⟨y, hy⟩ : ∃ y, Rule.reg e'.b (j : Nat) = y := ⟨_, rfl⟩
          have cy : w5.cell? ⟨p2, j, none⟩ = some (.int .i64 y) := by rw [← hy]; exact quad_at H7.out.mem j hj4
          have ixy := fun w => @idx0_at p2 j hj4 w
          obtain ⟨r, hr⟩ : ∃ r : Nat, oa1 = r := ⟨oa1.toNat, by have := btw_in hA; omega⟩
          have hr4 : r < 4 := by have := btw_in hA; omega
          subst hr
          obtain ⟨x, hx⟩ : ∃ x, Rule.reg e'.b (r : Nat) = x := ⟨_, rfl⟩
          have cx : w5.cell? ⟨p2, r, none⟩ = some (.int .i64 x) := by rw [← hx]; exact quad_at H7.out.mem r hr4
          have ixx := fun w => @idx0_at p2 r hr4 w
          have hact : Rule.act (N : Int) (i : Int) ⟨3, (r : Int), (j : Int)⟩ e' = .next { e' with b := Rule.setr e'.b (r : Int) (Rule.clamp (x + y)) } ((i : Int) + 1) := by simp [Rule.act, Rule.is, hA, hB, Rule.reckon, hx, hy]
          have hxr : -1000000 ≤ x ∧ x ≤ 1000000 := by rw [← hx]; exact reg_rng2 HW.out.ok r hr4
          have hyr : -1000000 ≤ y ∧ y ≤ 1000000 := by rw [← hy]; exact reg_rng2 HW.out.ok j hj4
          have wv : IntKind.i64.wrap (x + y) = x + y := IntWalk.i64_in _ (by omega)
          have HACT : Hid _ := hact
          have HX : Hid _ := hx
          have HY : Hid _ := hy
          have HA := btw_in hA
          clear hact hx hy hxr hyr f1 f2 cx cy
          go_wp2_with fail
          have FA : Hid (∀ z, Only [] w5.drew z → Mid w5 z q p1 p2 ⟨3, (r : Int), (j : Int)⟩ e'.b e' (.slice sa M sc)) := fun z hz => H7.out.then ((only_drew w5).trans hz)
          have CX : Hid (Rule.reg e'.b (r : Nat) = x ∧ Rule.reg e'.b (j : Nat) = y) := ⟨HX.out, HY.out⟩
          refine wp_region_free 10 (Only []) (Only.refl _) Only.trans [(11, .pointer (some ⟨p1, 0, none⟩)), (13, .pointer (some ⟨p2, 0, none⟩))] (by intro p hp; simp only [List.mem_cons, List.not_mem_nil, or_false] at hp; rcases hp with rfl | rfl <;> rfl) (by kernel_rfl) (by kernel_rfl) (by decide) (by kernel_rfl) (by kernel_rfl) ?_
          simp only [List.take_succ_cons, List.take_zero, List.drop_succ_cons, List.drop_zero]
          iterate 10 (
            apply rf_val
            · first | rfl | exact ⟨by kernel_rfl, rfl⟩
            · intro z v hT hf
              have g1 := (FA.out v hT).op.cell1
              have g2 := (FA.out v hT).op.cell2
              have cx : v.cell? ⟨p2, r, none⟩ = some (.int .i64 x) := by rw [← CX.out.1]; exact quad_at (FA.out v hT).mem r hr4
              have cy : v.cell? ⟨p2, j, none⟩ = some (.int .i64 y) := by rw [← CX.out.2]; exact quad_at (FA.out v hT).mem j hj4
              simp at hf
              go_simp
              try rfl)
          intro w6 hy6
          simp only [FinA, Sp.R, forall_eq]
          simp only [Act.put, List.setIfInBounds_toArray, List.set_cons_succ, List.set_cons_zero]
          refine wpList_nil ?_
          have H8 : Hid (Mid w5 w6 q p1 p2 ⟨3, (r : Int), (j : Int)⟩ e'.b e' (.slice sa M sc)) := FA.out w6 hy6
          clear hy6 FA H7 CX HX HY
          go_wp2_with fail
          go_meet
          exact ⟨x + y, true, e', rfl, rfl, H8.out, ⟨rfl, rfl, rfl, rfl, rfl⟩, HA, rfl, HACT.out⟩
      · as_aux_lemma =>
          have hA : Body.btw oa1 0 3 = true := by
            cases h : Body.btw oa1 0 3
            · have := HF.out; simp [Ref.flt, Rule.act, Rule.is, h] at this
            · rfl
          have hB : Body.btw ob1 0 3 = true := by
            cases h : Body.btw ob1 0 3
            · have := HF.out; simp [Ref.flt, Rule.act, Rule.is, h] at this
            · rfl
          obtain ⟨j, hj⟩ : ∃ j : Nat, ob1 = j := ⟨ob1.toNat, by have := btw_in hB; omega⟩
          have hj4 : j < 4 := by have := btw_in hB; omega
          subst hj
          obtain ⟨y, hy⟩ : ∃ y, Rule.reg e'.b (j : Nat) = y := ⟨_, rfl⟩
          have cy : w5.cell? ⟨p2, j, none⟩ = some (.int .i64 y) := by rw [← hy]; exact quad_at H7.out.mem j hj4
          have ixy := fun w => @idx0_at p2 j hj4 w
          obtain ⟨r, hr⟩ : ∃ r : Nat, oa1 = r := ⟨oa1.toNat, by have := btw_in hA; omega⟩
          have hr4 : r < 4 := by have := btw_in hA; omega
          subst hr
          obtain ⟨x, hx⟩ : ∃ x, Rule.reg e'.b (r : Nat) = x := ⟨_, rfl⟩
          have cx : w5.cell? ⟨p2, r, none⟩ = some (.int .i64 x) := by rw [← hx]; exact quad_at H7.out.mem r hr4
          have ixx := fun w => @idx0_at p2 r hr4 w
          have hact : Rule.act (N : Int) (i : Int) ⟨4, (r : Int), (j : Int)⟩ e' = .next { e' with b := Rule.setr e'.b (r : Int) (Rule.clamp (x - y)) } ((i : Int) + 1) := by simp [Rule.act, Rule.is, hA, hB, Rule.reckon, hx, hy]
          have hxr : -1000000 ≤ x ∧ x ≤ 1000000 := by rw [← hx]; exact reg_rng2 HW.out.ok r hr4
          have hyr : -1000000 ≤ y ∧ y ≤ 1000000 := by rw [← hy]; exact reg_rng2 HW.out.ok j hj4
          have wv : IntKind.i64.wrap (x - y) = x - y := IntWalk.i64_in _ (by omega)
          have HACT : Hid _ := hact
          have HX : Hid _ := hx
          have HY : Hid _ := hy
          have HA := btw_in hA
          clear hact hx hy hxr hyr f1 f2 cx cy
          go_wp2_with fail
          have FA : Hid (∀ z, Only [] w5.drew z → Mid w5 z q p1 p2 ⟨4, (r : Int), (j : Int)⟩ e'.b e' (.slice sa M sc)) := fun z hz => H7.out.then ((only_drew w5).trans hz)
          have CX : Hid (Rule.reg e'.b (r : Nat) = x ∧ Rule.reg e'.b (j : Nat) = y) := ⟨HX.out, HY.out⟩
          refine wp_region_free 10 (Only []) (Only.refl _) Only.trans [(11, .pointer (some ⟨p1, 0, none⟩)), (13, .pointer (some ⟨p2, 0, none⟩))] (by intro p hp; simp only [List.mem_cons, List.not_mem_nil, or_false] at hp; rcases hp with rfl | rfl <;> rfl) (by kernel_rfl) (by kernel_rfl) (by decide) (by kernel_rfl) (by kernel_rfl) ?_
          simp only [List.take_succ_cons, List.take_zero, List.drop_succ_cons, List.drop_zero]
          iterate 10 (
            apply rf_val
            · first | rfl | exact ⟨by kernel_rfl, rfl⟩
            · intro z v hT hf
              have g1 := (FA.out v hT).op.cell1
              have g2 := (FA.out v hT).op.cell2
              have cx : v.cell? ⟨p2, r, none⟩ = some (.int .i64 x) := by rw [← CX.out.1]; exact quad_at (FA.out v hT).mem r hr4
              have cy : v.cell? ⟨p2, j, none⟩ = some (.int .i64 y) := by rw [← CX.out.2]; exact quad_at (FA.out v hT).mem j hj4
              simp at hf
              go_simp
              try rfl)
          intro w6 hy6
          simp only [FinA, Sp.R, forall_eq]
          simp only [Act.put, List.setIfInBounds_toArray, List.set_cons_succ, List.set_cons_zero]
          refine wpList_nil ?_
          have H8 : Hid (Mid w5 w6 q p1 p2 ⟨4, (r : Int), (j : Int)⟩ e'.b e' (.slice sa M sc)) := FA.out w6 hy6
          clear hy6 FA H7 CX HX HY
          go_wp2_with fail
          go_meet
          exact ⟨x - y, true, e', rfl, rfl, H8.out, ⟨rfl, rfl, rfl, rfl, rfl⟩, HA, rfl, HACT.out⟩
      · as_aux_lemma =>
          have hA : Body.btw oa1 0 3 = true := by
            cases h : Body.btw oa1 0 3
            · have := HF.out; simp [Ref.flt, Rule.act, Rule.is, h] at this
            · rfl
          have hB : Body.btw ob1 0 3 = true := by
            cases h : Body.btw ob1 0 3
            · have := HF.out; simp [Ref.flt, Rule.act, Rule.is, h] at this
            · rfl
          obtain ⟨j, hj⟩ : ∃ j : Nat, ob1 = j := ⟨ob1.toNat, by have := btw_in hB; omega⟩
          have hj4 : j < 4 := by have := btw_in hB; omega
          subst hj
          obtain ⟨y, hy⟩ : ∃ y, Rule.reg e'.b (j : Nat) = y := ⟨_, rfl⟩
          have cy : w5.cell? ⟨p2, j, none⟩ = some (.int .i64 y) := by rw [← hy]; exact quad_at H7.out.mem j hj4
          have ixy := fun w => @idx0_at p2 j hj4 w
          obtain ⟨r, hr⟩ : ∃ r : Nat, oa1 = r := ⟨oa1.toNat, by have := btw_in hA; omega⟩
          have hr4 : r < 4 := by have := btw_in hA; omega
          subst hr
          obtain ⟨x, hx⟩ : ∃ x, Rule.reg e'.b (r : Nat) = x := ⟨_, rfl⟩
          have cx : w5.cell? ⟨p2, r, none⟩ = some (.int .i64 x) := by rw [← hx]; exact quad_at H7.out.mem r hr4
          have ixx := fun w => @idx0_at p2 r hr4 w
          have hact : Rule.act (N : Int) (i : Int) ⟨5, (r : Int), (j : Int)⟩ e' = .next { e' with b := Rule.setr e'.b (r : Int) (Rule.clamp (x * y)) } ((i : Int) + 1) := by simp [Rule.act, Rule.is, hA, hB, Rule.reckon, hx, hy]
          have hxr : -1000000 ≤ x ∧ x ≤ 1000000 := by rw [← hx]; exact reg_rng2 HW.out.ok r hr4
          have hyr : -1000000 ≤ y ∧ y ≤ 1000000 := by rw [← hy]; exact reg_rng2 HW.out.ok j hj4
          have wv : IntKind.i64.wrap (x * y) = x * y := IntWalk.i64_in _ (by have h1 := abs_mul hxr hyr; omega)
          have HACT : Hid _ := hact
          have HX : Hid _ := hx
          have HY : Hid _ := hy
          have HA := btw_in hA
          clear hact hx hy hxr hyr f1 f2 cx cy
          go_wp2_with fail
          have FA : Hid (∀ z, Only [] w5.drew z → Mid w5 z q p1 p2 ⟨5, (r : Int), (j : Int)⟩ e'.b e' (.slice sa M sc)) := fun z hz => H7.out.then ((only_drew w5).trans hz)
          have CX : Hid (Rule.reg e'.b (r : Nat) = x ∧ Rule.reg e'.b (j : Nat) = y) := ⟨HX.out, HY.out⟩
          refine wp_region_free 10 (Only []) (Only.refl _) Only.trans [(11, .pointer (some ⟨p1, 0, none⟩)), (13, .pointer (some ⟨p2, 0, none⟩))] (by intro p hp; simp only [List.mem_cons, List.not_mem_nil, or_false] at hp; rcases hp with rfl | rfl <;> rfl) (by kernel_rfl) (by kernel_rfl) (by decide) (by kernel_rfl) (by kernel_rfl) ?_
          simp only [List.take_succ_cons, List.take_zero, List.drop_succ_cons, List.drop_zero]
          iterate 10 (
            apply rf_val
            · first | rfl | exact ⟨by kernel_rfl, rfl⟩
            · intro z v hT hf
              have g1 := (FA.out v hT).op.cell1
              have g2 := (FA.out v hT).op.cell2
              have cx : v.cell? ⟨p2, r, none⟩ = some (.int .i64 x) := by rw [← CX.out.1]; exact quad_at (FA.out v hT).mem r hr4
              have cy : v.cell? ⟨p2, j, none⟩ = some (.int .i64 y) := by rw [← CX.out.2]; exact quad_at (FA.out v hT).mem j hj4
              simp at hf
              go_simp
              try rfl)
          intro w6 hy6
          simp only [FinA, Sp.R, forall_eq]
          simp only [Act.put, List.setIfInBounds_toArray, List.set_cons_succ, List.set_cons_zero]
          refine wpList_nil ?_
          have H8 : Hid (Mid w5 w6 q p1 p2 ⟨5, (r : Int), (j : Int)⟩ e'.b e' (.slice sa M sc)) := FA.out w6 hy6
          clear hy6 FA H7 CX HX HY
          go_wp2_with fail
          go_meet
          exact ⟨x * y, true, e', rfl, rfl, H8.out, ⟨rfl, rfl, rfl, rfl, rfl⟩, HA, rfl, HACT.out⟩
      · as_aux_lemma =>
          have hA : Body.btw oa1 0 3 = true := by
            cases h : Body.btw oa1 0 3
            · have := HF.out; simp [Ref.flt, Rule.act, Rule.is, h] at this
            · rfl
          have hB : Body.btw ob1 0 3 = true := by
            cases h : Body.btw ob1 0 3
            · have := HF.out; simp [Ref.flt, Rule.act, Rule.is, h] at this
            · rfl
          obtain ⟨j, hj⟩ : ∃ j : Nat, ob1 = j := ⟨ob1.toNat, by have := btw_in hB; omega⟩
          have hj4 : j < 4 := by have := btw_in hB; omega
          subst hj
          obtain ⟨y, hy⟩ : ∃ y, Rule.reg e'.b (j : Nat) = y := ⟨_, rfl⟩
          have cy : w5.cell? ⟨p2, j, none⟩ = some (.int .i64 y) := by rw [← hy]; exact quad_at H7.out.mem j hj4
          have ixy := fun w => @idx0_at p2 j hj4 w
          obtain ⟨r, hr⟩ : ∃ r : Nat, oa1 = r := ⟨oa1.toNat, by have := btw_in hA; omega⟩
          have hr4 : r < 4 := by have := btw_in hA; omega
          subst hr
          obtain ⟨x, hx⟩ : ∃ x, Rule.reg e'.b (r : Nat) = x := ⟨_, rfl⟩
          have cx : w5.cell? ⟨p2, r, none⟩ = some (.int .i64 x) := by rw [← hx]; exact quad_at H7.out.mem r hr4
          have ixx := fun w => @idx0_at p2 r hr4 w
          have hy0 : ¬ y = 0 := fun h => by have := HF.out; simp [Ref.flt, Rule.act, Rule.is, hA, hB, hy, h] at this
          have hact : Rule.act (N : Int) (i : Int) ⟨6, (r : Int), (j : Int)⟩ e' = .next { e' with b := Rule.setr e'.b (r : Int) (Rule.clamp (x.tdiv y)) } ((i : Int) + 1) := by simp [Rule.act, Rule.is, hA, hB, Rule.reckon, hx, hy, hy0]
          have hxr : -1000000 ≤ x ∧ x ≤ 1000000 := by rw [← hx]; exact reg_rng2 HW.out.ok r hr4
          have hyr : -1000000 ≤ y ∧ y ≤ 1000000 := by rw [← hy]; exact reg_rng2 HW.out.ok j hj4
          have wv : IntKind.i64.wrap (x.tdiv y) = x.tdiv y := IntWalk.i64_in _ (by have h1 := tdiv_rng hxr (y := y); omega)
          have HACT : Hid _ := hact
          have HX : Hid _ := hx
          have HY : Hid _ := hy
          have HA := btw_in hA
          clear hact hx hy hxr hyr f1 f2 cx cy
          go_wp2_with fail
          have FA : Hid (∀ z, Only [] w5.drew z → Mid w5 z q p1 p2 ⟨6, (r : Int), (j : Int)⟩ e'.b e' (.slice sa M sc)) := fun z hz => H7.out.then ((only_drew w5).trans hz)
          have CX : Hid (Rule.reg e'.b (r : Nat) = x ∧ Rule.reg e'.b (j : Nat) = y) := ⟨HX.out, HY.out⟩
          refine wp_region_free 10 (Only []) (Only.refl _) Only.trans [(11, .pointer (some ⟨p1, 0, none⟩)), (13, .pointer (some ⟨p2, 0, none⟩))] (by intro p hp; simp only [List.mem_cons, List.not_mem_nil, or_false] at hp; rcases hp with rfl | rfl <;> rfl) (by kernel_rfl) (by kernel_rfl) (by decide) (by kernel_rfl) (by kernel_rfl) ?_
          simp only [List.take_succ_cons, List.take_zero, List.drop_succ_cons, List.drop_zero]
          iterate 10 (
            apply rf_val
            · first | rfl | exact ⟨by kernel_rfl, rfl⟩
            · intro z v hT hf
              have g1 := (FA.out v hT).op.cell1
              have g2 := (FA.out v hT).op.cell2
              have cx : v.cell? ⟨p2, r, none⟩ = some (.int .i64 x) := by rw [← CX.out.1]; exact quad_at (FA.out v hT).mem r hr4
              have cy : v.cell? ⟨p2, j, none⟩ = some (.int .i64 y) := by rw [← CX.out.2]; exact quad_at (FA.out v hT).mem j hj4
              simp at hf
              go_simp
              try rfl)
          intro w6 hy6
          simp only [FinA, Sp.R, forall_eq]
          simp only [Act.put, List.setIfInBounds_toArray, List.set_cons_succ, List.set_cons_zero]
          refine wpList_nil ?_
          have H8 : Hid (Mid w5 w6 q p1 p2 ⟨6, (r : Int), (j : Int)⟩ e'.b e' (.slice sa M sc)) := FA.out w6 hy6
          clear hy6 FA H7 CX HX HY
          go_wp2_with fail
          go_meet
          exact ⟨x.tdiv y, true, e', rfl, rfl, H8.out, ⟨rfl, rfl, rfl, rfl, rfl⟩, HA, rfl, HACT.out⟩
      · as_aux_lemma =>
          have hA : Body.btw oa1 0 3 = true := by
            cases h : Body.btw oa1 0 3
            · have := HF.out; simp [Ref.flt, Rule.act, Rule.is, h] at this
            · rfl
          have hX : Body.btw ob1 0 7 = true := by
            cases h : Body.btw ob1 0 7
            · have := HF.out; simp [Ref.flt, Rule.act, Rule.is, hA, h] at this
            · rfl
          have hact : Rule.act (N : Int) (i : Int) ⟨7, oa1, ob1⟩ e' = .next { e' with b := Rule.setr e'.b oa1 (Rule.clamp (Rule.field e' ob1)) } ((i : Int) + 1) := by simp [Rule.act, Rule.is, hA, hX]
          have HACT : Hid _ := hact
          have HA := btw_in hA
          have HX := btw_in hX
          clear hact
          go_upto_region 33 with fail
          apply wp_region_lit
          refine opg_renv (p := q) (by kernel_rfl) (.tmp 3) rfl (by kernel_rfl) H7.out.cur ?_
          refine opg_v (by kernel_rfl) (.pointer (some ⟨p1, 2, none⟩)) (by kernel_rfl) ?_
          simp only [Act.put, List.setIfInBounds_toArray, List.set_cons_succ, List.set_cons_zero]
          refine opg_v (by kernel_rfl) (.int .i64 ob1) (by go_simp) ?_
          refine opg_call (F := 21) (args := #[e'.v (.slice sa M sc), .int .i64 ob1]) (w1 := w5) (by kernel_rfl) (by kernel_rfl) ?_
          refine (rfield_any e' (.slice sa M sc) ob1 HX.1 HX.2 w5).mono ?_
          rintro x w6 ⟨rfl, o6⟩
          refine ⟨_, rfl, ?_⟩
          obtain ⟨fv, hfv⟩ : ∃ fv, Rule.field e' ob1 = fv := ⟨_, rfl⟩
          have HFV : Hid _ := hfv
          rw [hfv]
          clear hfv
          refine opg_v (by kernel_rfl) (.int .i64 fv) (by kernel_rfl) ?_
          simp only [Act.put, List.setIfInBounds_toArray, List.set_cons_succ, List.set_cons_zero]
          refine wpList_nil ?_
          have H8 : Hid (Mid w5 w6 q p1 p2 ⟨7, oa1, ob1⟩ e'.b e' (.slice sa M sc)) := H7.out.then o6
          clear H7 o6 f1 f2
          go_wp2_with fail
          go_meet
          exact ⟨fv, true, e', rfl, rfl, H8.out, ⟨rfl, rfl, rfl, rfl, rfl⟩, HA, rfl, by rw [← HFV.out]; exact HACT.out⟩
      · as_aux_lemma =>
          go_wp2_with fail
          go_meet
          exact ⟨0, false, e', rfl, rfl, H7.out, rfl, by simp⟩
      · as_aux_lemma =>
          go_wp2_with fail
          go_meet
          exact ⟨0, false, e', rfl, rfl, H7.out, rfl, by simp⟩
      · as_aux_lemma =>
          go_wp2_with fail
          go_meet
          exact ⟨0, false, e', rfl, rfl, H7.out, rfl, by simp⟩
      · as_aux_lemma =>
          have hA : Body.btw oa1 0 3 = true := by
            cases h : Body.btw oa1 0 3
            · have := HF.out; simp [Ref.flt, Rule.act, Rule.is, h] at this
            · rfl
          have hB : Body.btw ob1 0 3 = true := by
            cases h : Body.btw ob1 0 3
            · have := HF.out; simp [Ref.flt, Rule.act, Rule.is, h] at this
            · rfl
          obtain ⟨j, hj⟩ : ∃ j : Nat, ob1 = j := ⟨ob1.toNat, by have := btw_in hB; omega⟩
          have hj4 : j < 4 := by have := btw_in hB; omega
          subst hj
          obtain ⟨y, hy⟩ : ∃ y, Rule.reg e'.b (j : Nat) = y := ⟨_, rfl⟩
          have hy1 : 1 ≤ y := by
            by_cases h : 1 ≤ y
            · exact h
            · have := HF.out; simp [Ref.flt, Rule.act, Rule.is, hA, hB, hy, h] at this
          have hact : Rule.act (N : Int) (i : Int) ⟨11, oa1, (j : Int)⟩ e' = .next { e' with d := Dice.next e'.d, b := Rule.setr e'.b oa1 (Rule.clamp (Dice.num (Dice.next e'.d) % y)) } ((i : Int) + 1) := by simp [Rule.act, Rule.is, hA, hB, hy, hy1]
          have HACT : Hid _ := hact
          have HA := btw_in hA
          have HY : Hid _ := hy
          clear hact hy f1 f2
          go_wp2_with fail
          have FA : Hid (∀ z, Only [] w5.drew z → Mid w5 z q p1 p2 ⟨11, oa1, (j : Int)⟩ e'.b e' (.slice sa M sc)) := fun z hz => H7.out.then ((only_drew w5).trans hz)
          obtain ⟨nd, hnd⟩ : ∃ nd, Dice.next e'.d = nd := ⟨_, rfl⟩
          obtain ⟨nv, hnv⟩ : ∃ nv, Dice.num (Dice.next e'.d) % y = nv := ⟨_, rfl⟩
          have HND : Hid _ := hnd
          have HNV : Hid _ := hnv
          clear hnd hnv
          refine wp_region_free 10 (Only []) (Only.refl _) Only.trans [(3, .pointer (some ⟨q, 0, none⟩)), (11, .pointer (some ⟨p1, 0, none⟩))] (by intro p hp; simp only [List.mem_cons, List.not_mem_nil, or_false] at hp; rcases hp with rfl | rfl <;> rfl) (by kernel_rfl) (by kernel_rfl) (by decide) (by kernel_rfl) (by kernel_rfl) ?_
          simp only [List.take_succ_cons, List.take_zero, List.drop_succ_cons, List.drop_zero]
          iterate 3 (
            apply rf_val
            · first | rfl | exact ⟨by kernel_rfl, rfl⟩
            · intro z v hT hf
              have g0 := (FA.out v hT).op.cell0
              have g1 := (FA.out v hT).op.cell1
              have g2 := (FA.out v hT).op.cell2
              have c15 : v.cell? ⟨q, 15, none⟩ = some (.int .u64 e'.d) := (FA.out v hT).cur.blk.cell 15
              simp at hf
              go_simp
              try rfl)
          refine rf_val (e'.v (.slice sa M sc)) (by first | rfl | exact ⟨by kernel_rfl, rfl⟩) (fun z v hT hf => ?_) ?_
          · have e3 : z.eval (.tmp 3) = .pointer (some ⟨q, 0, none⟩) := by simp at hf; simp [Act.eval, hf]
            exact exec_loads (cs := e'.cells (.slice sa M sc)) 45 (.tmp 3) rfl e3 Try.underlying45 info_renv (FA.out v hT).cur.cell
          refine rf_eff (fun _ v => v = .int .i64 y) (by first | rfl | exact ⟨by kernel_rfl, rfl⟩) (fun _ _ _ _ h => h) (fun z v hT hf => ?_) ?_
          · simp at hf
            go_simp
            refine (rrollOf_any ⟨11, oa1, (j : Int)⟩ j rfl hj4 e' (.slice sa M sc) _).mono ?_
            rintro x y2 ⟨rfl, o⟩
            rw [show Rule.reg e'.b (Op3.mk 11 oa1 (j : Int)).b = y from HY.out]
            exact ⟨_, rfl, rfl, o⟩
          refine rf_eff (fun _ v => v = .tuple #[.int .u64 nd, .int .i64 nv]) (by first | rfl | exact ⟨by kernel_rfl, rfl⟩) (fun _ _ _ _ h => h) (fun z v hT hf => ?_) ?_
          · simp at hf
            go_simp
            refine (rroll_any e'.d y hy1 _).mono ?_
            rintro x y2 ⟨rfl, rfl⟩
            rw [HNV.out, HND.out]
            exact ⟨_, rfl, rfl, only_drew _⟩
          iterate 4 (
            apply rf_val
            · first | rfl | exact ⟨by kernel_rfl, rfl⟩
            · intro z v hT hf
              simp at hf
              go_simp
              try rfl)
          intro w6 hy6
          simp only [FinA, Sp.R, forall_eq]
          simp only [Act.put, List.setIfInBounds_toArray, List.set_cons_succ, List.set_cons_zero]
          have H8 : Hid (Mid w5 w6 q p1 p2 ⟨11, oa1, (j : Int)⟩ e'.b e' (.slice sa M sc)) := FA.out w6 hy6
          clear hy6 FA H7
          have c15 : w6.cell? ⟨q, 15, none⟩ = some (.int .u64 e'.d) := H8.out.cur.blk.cell 15
          have fz := H8.out.cur.frozen
          go_wp2_with fail
          go_meet
          refine ⟨nv, true, { e' with d := nd }, rfl, rfl, H8.out.turn ⟨H8.out.cur.blk.set 15 _⟩ ((Only.refl _ _).setCell (by simp) _), ⟨rfl, rfl, rfl, rfl, rfl⟩, HA, rfl, ?_⟩
          rw [HACT.out, HNV.out, HND.out]
      · as_aux_lemma =>
          go_wp2_with fail
          go_meet
          exact ⟨0, false, e', rfl, rfl, H7.out, rfl, by simp⟩
      · as_aux_lemma =>
          go_wp2_with fail
          go_meet
          exact ⟨0, false, e', rfl, rfl, H7.out, rfl, by simp⟩
    case rest =>
      obtain ⟨v, b, ex, rfl, rfl, HC⟩ := hcut
      clear H7
      have f0 : wc.cell? ⟨p1, 0, none⟩ = some (.int .i64 oc1) := HC.out.1.op.cell0
      cases b
      · -- nothing is written
        obtain ⟨hex, hcs⟩ := (show ex = e' ∧ (oc1 = 8 ∨ oc1 = 9 ∨ oc1 = 10 ∨ oc1 = 12 ∨ oc1 = 13) from HC.out.2)
        subst hex
        have H8 : Hid (Mid w5 wc q p1 p2 ⟨oc1, oa1, ob1⟩ ex.b ex (.slice sa M sc)) := HC.out.1
        clear HC
        go_upto_block 3 with fail
        go_cut [14] (fun v14 wx => ∃ (a2 : Int) (e2 : Ev) (sv2 : Value), v14 = .int .i64 a2 ∧ Hid (RW w wx q (.slice (some ⟨bb, off, none⟩) N oc) l e e2 sv2 (k + 1) a2))
        case first =>
          have f1 : wc.cell? ⟨p1, 1, none⟩ = some (.int .i64 oa1) := H8.out.op.cell1
          have f2 : wc.cell? ⟨p1, 2, none⟩ = some (.int .i64 ob1) := H8.out.op.cell2
          have fz := H8.out.cur.frozen
          have O : Only [q] w5 wc := H8.out.only
          have OO : Hid _ := O
          clear O
          rcases hcs with rfl | rfl | rfl | rfl | rfl
          · as_aux_lemma =>
              have hB : Body.btw ob1 0 3 = true := by
                cases h : Body.btw ob1 0 3
                · have := HF.out; simp [Ref.flt, Rule.act, Rule.is, h] at this
                · rfl
              have hA : Body.btw oa1 0 3 = true := by
                cases h : Body.btw oa1 0 3
                · have := HF.out; simp [Ref.flt, Rule.act, Rule.is, h, hB] at this
                · rfl
              obtain ⟨j, hj⟩ : ∃ j : Nat, ob1 = j := ⟨ob1.toNat, by have := btw_in hB; omega⟩
              have hj4 : j < 4 := by have := btw_in hB; omega
              subst hj
              obtain ⟨y, hy⟩ : ∃ y, Rule.reg ex.b (j : Nat) = y := ⟨_, rfl⟩
              have cy : wc.cell? ⟨p2, j, none⟩ = some (.int .i64 y) := by rw [← hy]; exact quad_at H8.out.mem j hj4
              have ixy := fun w => @idx0_at p2 j hj4 w
              have hact : Rule.act (N : Int) (i : Int) ⟨8, oa1, (j : Int)⟩ ex = .next { ex with b := Rule.put ex.b oa1 y } ((i : Int) + 1) := by simp [Rule.act, Rule.is, hA, hB, hy]
              have HACT : Hid _ := hact
              have HA := btw_in hA
              clear hact hy
              have c2 : wc.cell? ⟨q, 2, none⟩ = some (.int .i64 ex.b.x) := H8.out.cur.blk.cell 2
              have c3 : wc.cell? ⟨q, 3, none⟩ = some (.int .i64 ex.b.y) := H8.out.cur.blk.cell 3
              have c4 : wc.cell? ⟨q, 4, none⟩ = some (.int .i64 ex.b.vx) := H8.out.cur.blk.cell 4
              have c5 : wc.cell? ⟨q, 5, none⟩ = some (.int .i64 ex.b.vy) := H8.out.cur.blk.cell 5
              have h4 : oa1 = 0 ∨ oa1 = 1 ∨ oa1 = 2 ∨ oa1 = 3 := by omega
              clear hA HA
              rcases h4 with rfl | rfl | rfl | rfl
              · go_wp2_with fail
                refine (fwithin_any _ _ _ _).mono ?_
                rintro x w' ⟨rfl, rfl⟩
                go_wp2_with fail
                go_meet
                have O2 : Only [q] w5 (World.setCell _ ⟨q, 2, none⟩ (.int .i64 (Body.within y 0 4095))) := OO.out.setCell (by simp) _
                exact ⟨_, _, _, rfl, HW.out.step (e2 := { ex with b := Rule.put ex.b 0 y }) hk64 (by rw [HN.out]; exact hlt) (by rw [HOP.out, HN.out]; exact HACT.out) ⟨H8.out.cur.blk.set 2 _⟩ O2 (HW.out.row.only O2 (fun g hg hm => by have h2 : g = q := (by simpa using hm); have := (HW.out.row.lt g hg).1; omega)) HW.out.none⟩
              · go_wp2_with fail
                refine (fwithin_any _ _ _ _).mono ?_
                rintro x w' ⟨rfl, rfl⟩
                go_wp2_with fail
                go_meet
                have O2 : Only [q] w5 (World.setCell _ ⟨q, 3, none⟩ (.int .i64 (Body.within y 0 4095))) := OO.out.setCell (by simp) _
                exact ⟨_, _, _, rfl, HW.out.step (e2 := { ex with b := Rule.put ex.b 1 y }) hk64 (by rw [HN.out]; exact hlt) (by rw [HOP.out, HN.out]; exact HACT.out) ⟨H8.out.cur.blk.set 3 _⟩ O2 (HW.out.row.only O2 (fun g hg hm => by have h2 : g = q := (by simpa using hm); have := (HW.out.row.lt g hg).1; omega)) HW.out.none⟩
              · go_wp2_with fail
                refine (fwithin_any _ _ _ _).mono ?_
                rintro x w' ⟨rfl, rfl⟩
                go_wp2_with fail
                go_meet
                have O2 : Only [q] w5 (World.setCell _ ⟨q, 4, none⟩ (.int .i64 (Body.within y (-64) 64))) := OO.out.setCell (by simp) _
                exact ⟨_, _, _, rfl, HW.out.step (e2 := { ex with b := Rule.put ex.b 2 y }) hk64 (by rw [HN.out]; exact hlt) (by rw [HOP.out, HN.out]; exact HACT.out) ⟨H8.out.cur.blk.set 4 _⟩ O2 (HW.out.row.only O2 (fun g hg hm => by have h2 : g = q := (by simpa using hm); have := (HW.out.row.lt g hg).1; omega)) HW.out.none⟩
              · go_wp2_with fail
                refine (fwithin_any _ _ _ _).mono ?_
                rintro x w' ⟨rfl, rfl⟩
                go_wp2_with fail
                go_meet
                have O2 : Only [q] w5 (World.setCell _ ⟨q, 5, none⟩ (.int .i64 (Body.within y (-64) 64))) := OO.out.setCell (by simp) _
                exact ⟨_, _, _, rfl, HW.out.step (e2 := { ex with b := Rule.put ex.b 3 y }) hk64 (by rw [HN.out]; exact hlt) (by rw [HOP.out, HN.out]; exact HACT.out) ⟨H8.out.cur.blk.set 5 _⟩ O2 (HW.out.row.only O2 (fun g hg hm => by have h2 : g = q := (by simpa using hm); have := (HW.out.row.lt g hg).1; omega)) HW.out.none⟩
          · as_aux_lemma =>
              have hA : Body.btw oa1 0 3 = true := by
                cases h : Body.btw oa1 0 3
                · have := HF.out; simp [Ref.flt, Rule.act, Rule.is, h] at this
                · rfl
              obtain ⟨r, hr⟩ : ∃ r : Nat, oa1 = r := ⟨oa1.toNat, by have := btw_in hA; omega⟩
              have hr4 : r < 4 := by have := btw_in hA; omega
              subst hr
              obtain ⟨x, hx⟩ : ∃ x, Rule.reg ex.b (r : Nat) = x := ⟨_, rfl⟩
              have cx : wc.cell? ⟨p2, r, none⟩ = some (.int .i64 x) := by rw [← hx]; exact quad_at H8.out.mem r hr4
              have ixx := fun w => @idx0_at p2 r hr4 w
              by_cases hz : x = 0
              · have hz2 : (x == 0) = true := by simpa using hz
                have hX : Body.btw ob1 0 (N : Int) = true := by
                  cases h : Body.btw ob1 0 (N : Int)
                  · have := HF.out; simp [Ref.flt, Rule.act, Rule.is, hA, hx, hz, h] at this
                  · rfl
                have hact : Rule.act (N : Int) (i : Int) ⟨9, (r : Int), ob1⟩ ex = .next ex ob1 := by simp [Rule.act, Rule.is, hA, hx, hz, hX]
                have HACT : Hid _ := hact
                clear hact hx hz hX
                go_wp2_with fail
                go_meet
                exact ⟨_, _, _, rfl, HW.out.step hk64 (by rw [HN.out]; exact hlt) (by rw [HOP.out, HN.out]; exact HACT.out) H8.out.cur OO.out (HW.out.row.only OO.out (fun g hg hm => by have h2 : g = q := (by simpa using hm); have := (HW.out.row.lt g hg).1; omega)) HW.out.none⟩
              · have hz2 : (x == 0) = false := by simpa using hz
                have hact : Rule.act (N : Int) (i : Int) ⟨9, (r : Int), ob1⟩ ex = .next ex ((i : Int) + 1) := by simp [Rule.act, Rule.is, hA, hx, hz]
                have HACT : Hid _ := hact
                clear hact hx hz
                go_wp2_with fail
                go_meet
                exact ⟨_, _, _, rfl, HW.out.step hk64 (by rw [HN.out]; exact hlt) (by rw [HOP.out, HN.out]; exact HACT.out) H8.out.cur OO.out (HW.out.row.only OO.out (fun g hg hm => by have h2 : g = q := (by simpa using hm); have := (HW.out.row.lt g hg).1; omega)) HW.out.none⟩
          · as_aux_lemma =>
              have hX : Body.btw ob1 0 (N : Int) = true := by
                cases h : Body.btw ob1 0 (N : Int)
                · have := HF.out; simp [Ref.flt, Rule.act, Rule.is, h] at this
                · rfl
              have hact : Rule.act (N : Int) (i : Int) ⟨10, oa1, ob1⟩ ex = .next ex ob1 := by simp [Rule.act, Rule.is, hX]
              have HACT : Hid _ := hact
              clear hact hX
              go_wp2_with fail
              go_meet
              exact ⟨_, _, _, rfl, HW.out.step hk64 (by rw [HN.out]; exact hlt) (by rw [HOP.out, HN.out]; exact HACT.out) H8.out.cur OO.out (HW.out.row.only OO.out (fun g hg hm => by have h2 : g = q := (by simpa using hm); have := (HW.out.row.lt g hg).1; omega)) HW.out.none⟩
          · as_aux_lemma =>
              have hA : Body.btw oa1 0 3 = true := by
                cases h : Body.btw oa1 0 3
                · have := HF.out; simp [Ref.flt, Rule.act, Rule.is, h] at this
                · rfl
              have hB : Body.btw ob1 0 3 = true := by
                cases h : Body.btw ob1 0 3
                · have := HF.out; simp [Ref.flt, Rule.act, Rule.is, h] at this
                · rfl
              obtain ⟨j, hj⟩ : ∃ j : Nat, ob1 = j := ⟨ob1.toNat, by have := btw_in hB; omega⟩
              have hj4 : j < 4 := by have := btw_in hB; omega
              subst hj
              obtain ⟨r, hr⟩ : ∃ r : Nat, oa1 = r := ⟨oa1.toNat, by have := btw_in hA; omega⟩
              have hr4 : r < 4 := by have := btw_in hA; omega
              subst hr
              obtain ⟨y, hy⟩ : ∃ y, Rule.reg ex.b (j : Nat) = y := ⟨_, rfl⟩
              obtain ⟨x, hx⟩ : ∃ x, Rule.reg ex.b (r : Nat) = x := ⟨_, rfl⟩
              have hroom : (ex.sh.length : Int) < ex.room := by
                by_cases h : (ex.sh.length : Int) < ex.room
                · exact h
                · have := HF.out; simp [Ref.flt, Rule.act, Rule.is, hA, hB, h] at this
              obtain ⟨S, hS⟩ : ∃ S, Body.shot ex.b x y = S := ⟨_, rfl⟩
              have hact : Rule.act (N : Int) (i : Int) ⟨12, (r : Int), (j : Int)⟩ ex = .next { ex with sh := ex.sh ++ [S] } ((i : Int) + 1) := by simp [Rule.act, Rule.is, hA, hB, hx, hy, hroom, hS]
              have HACT : Hid _ := hact
              have HS : Hid _ := hS
              have HX : Hid _ := hx
              have HY : Hid _ := hy
              have hlen : ex.sh.length ≤ 64 := by have := HW.out.len; omega
              have ixx := fun w => @idx0_at p2 r hr4 w
              have ixy := fun w => @idx0_at p2 j hj4 w
              clear hact hx hy hS f1 f2 fz hA hB hroom
              have SRc := HW.out.row.only OO.out (fun g hg hm => by have h2 : g = q := (by simpa using hm); have := (HW.out.row.lt g hg).1; omega)
              have hqw := HW.out.sz
              have FA : Hid (∀ z, Only [] wc.drew z → Mid w5 z q p1 p2 ⟨12, (r : Int), (j : Int)⟩ ex.b ex (.slice sa M sc) ∧ SR (q + 3) z (.slice sa M sc) ex.sh ∧ w5.heap.size ≤ z.heap.size) := fun z hz => by
                have o := (only_drew wc).trans hz
                exact ⟨H8.out.then o, SRc.only o (by simp), Nat.le_trans OO.out.size o.size⟩
              clear SRc
              go_wp2_with fail
              refine wp_region_free 16 (Only []) (Only.refl _) Only.trans [(3, .pointer (some ⟨q, 0, none⟩)), (11, .pointer (some ⟨p1, 0, none⟩)), (13, .pointer (some ⟨p2, 0, none⟩))] (by intro p hp; simp only [List.mem_cons, List.not_mem_nil, or_false] at hp; rcases hp with rfl | rfl | rfl <;> rfl) (by kernel_rfl) (by kernel_rfl) (by decide) (by kernel_rfl) (by kernel_rfl) ?_
              simp only [List.take_succ_cons, List.take_zero, List.drop_succ_cons, List.drop_zero]
              refine rf_eff (fun u v => (∃ g, v = .slice (some ⟨g, 0, none⟩) 0 0) ∧ SR w5.heap.size u v []) (by first | rfl | exact ⟨by kernel_rfl, rfl⟩) (fun u u2 v hT h => ⟨h.1, h.2.only hT (by simp)⟩) (fun z u hT hf => ?_) ?_
              · exact effOk_of (v := .slice (some ⟨u.heap.size, 0, none⟩) 0 0) (w' := u.alloc (.cells #[] 34)) (by kernel_rfl) ⟨⟨_, rfl⟩, SR.empty _ u (FA.out u hT).2.2⟩ ((Only.refl _ _).alloc _)
              iterate 2 (
                apply rf_val
                · first | rfl | exact ⟨by kernel_rfl, rfl⟩
                · intro z u hT hf
                  have c17 : u.cell? ⟨q, 17, none⟩ = some (.slice sa M sc) := (FA.out u hT).1.cur.blk.cell 17
                  simp at hf
                  go_simp
                  try rfl)
              refine rf_eff (fun u v => SR w5.heap.size u v ex.sh) (by first | rfl | exact ⟨by kernel_rfl, rfl⟩) (fun u u2 v hT h => h.only hT (by simp)) (fun z u hT hf => ?_) ?_
              · have h194 : (∃ g, z.eval (.tmp 194) = .slice (some ⟨g, 0, none⟩) 0 0) ∧ SR w5.heap.size u (z.eval (.tmp 194)) [] := by
                  simp at hf
                  simp only [Act.eval]
                  refine ⟨?_, ?_⟩
                  · simpa using hf.2.1.1
                  · simpa using hf.2.1.2
                have h196 : z.eval (.tmp 196) = .slice sa M sc := by simp at hf; simp [Act.eval, hf]
                obtain ⟨v', u', hr, k1, k2⟩ := app_fresh h194.1 h194.2 (FA.out u hT).2.2 (FA.out u hT).2.1.rd HW.out.none (by omega) 37
                refine effOk_of (v := v') (w' := u') ?_ k1 k2
                simp only [execOp, resolve, invoke, builtin, Sem.run_bind, Sem.run_pure, Result.andThen_ok, List.map_toArray, List.map_cons, List.map_nil, h196, hr]
              apply rf_val
              · first | rfl | exact ⟨by kernel_rfl, rfl⟩
              · intro z u hT hf
                simp at hf
                go_simp
                try rfl
              refine rf_val ex.b.v (by first | rfl | exact ⟨by kernel_rfl, rfl⟩) (fun z u hT hf => ?_) ?_
              · have e198 : z.eval (.tmp 198) = .pointer (some ⟨q, 0, none⟩) := by simp at hf; simp [Act.eval, hf]
                exact exec_loads (cs := ex.b.cells) 34 (.tmp 198) rfl e198 Try.underlying34 (by kernel_rfl) (FA.out u hT).1.cur.bodyCell
              iterate 8 (
                apply rf_val
                · first | rfl | exact ⟨by kernel_rfl, rfl⟩
                · intro z u hT hf
                  have g1 := (FA.out u hT).1.op.cell1
                  have g2 := (FA.out u hT).1.op.cell2
                  have cx : u.cell? ⟨p2, r, none⟩ = some (.int .i64 x) := by rw [← HX.out]; exact quad_at (FA.out u hT).1.mem r hr4
                  have cy : u.cell? ⟨p2, j, none⟩ = some (.int .i64 y) := by rw [← HY.out]; exact quad_at (FA.out u hT).1.mem j hj4
                  simp at hf
                  go_simp
                  try rfl)
              refine rf_eff (fun _ v => v = S.v) (by first | rfl | exact ⟨by kernel_rfl, rfl⟩) (fun _ _ _ _ h => h) (fun z u hT hf => ?_) ?_
              · simp at hf
                go_simp
                refine (rshoot_any ex.b x y HW.out.k1 HW.out.ok _).mono ?_
                rintro t u2 ⟨rfl, o⟩
                rw [HS.out]
                exact ⟨_, rfl, rfl, o⟩
              refine rf_eff (fun u v => RdS u v [S]) (by first | rfl | exact ⟨by kernel_rfl, rfl⟩) (fun u u2 v hT h => h.only hT (by simp)) (fun z u hT hf => ?_) ?_
              · have e208 : z.eval (.tmp 208) = S.v := by simp at hf; simpa [Act.eval] using hf.2
                exact effOk_of (exec_oneB S (.tmp 208) rfl e208) (rds_one (Bl.new S _ _)) ((Only.refl _ _).alloc _)
              intro w6 hy6
              simp only [FinA, Sp.R, forall_eq]
              rintro v194 - v197 hs1 v209 hr9
              simp only [Act.put, List.setIfInBounds_toArray, List.set_cons_succ, List.set_cons_zero]
              obtain ⟨ta, tn, tc, rfl⟩ := hs1.form2
              obtain ⟨ra, rc, hv9, -⟩ := id hr9
              subst hv9
              have H10 : Hid (Eb w6 q ex (.slice sa M sc) ∧ Only [q] w5 w6 ∧ SR w5.heap.size w6 (.slice ta tn tc) ex.sh ∧ RdS w6 (.slice ra [S].length rc) [S] ∧ w5.heap.size ≤ w6.heap.size) := ⟨(FA.out w6 hy6).1.cur, (FA.out w6 hy6).1.only, hs1, hr9, (FA.out w6 hy6).2.2⟩
              clear hy6 FA H8 hs1 f0 hr9
              refine app_s (v := .slice ta tn tc) (s := .slice ra [S].length rc) rfl (.tmp 197) (.tmp 209) rfl (by kernel_rfl) (by kernel_rfl) H10.out.2.2.1 H10.out.2.2.2.1 (by simp; omega) H10.out.2.2.2.2 ?_
              intro v8 w8 A
              have hqw5 : q < w5.heap.size := by omega
              have hAo : ∀ g ∈ (Value.slice ta tn tc).ownBlock.toList, w5.heap.size ≤ g := fun g hg => (H10.out.2.2.1.lt g (by simpa [Option.mem_toList] using hg)).1
              have H11 : Hid (Eb w8 q ex (.slice sa M sc) ∧ Only [q] w5 w8 ∧ SR w5.heap.size w8 v8 (ex.sh ++ [S])) := ⟨H10.out.1.only A.only (fun h => by have := hAo _ h; omega), H10.out.2.1.then A.only (fun g hg hl => by have := hAo g hg; omega), A.row⟩
              clear H10 A hAo
              obtain ⟨xa, xn, xc, rfl⟩ := H11.out.2.2.form2
              have c17 : w8.cell? ⟨q, 17, none⟩ = some (.slice sa M sc) := H11.out.1.blk.cell 17
              have fz := H11.out.1.frozen
              simp only [Act.put, List.setIfInBounds_toArray, List.set_cons_succ, List.set_cons_zero]
              refine opg_v (by kernel_rfl) (.pointer (some ⟨q, 17, none⟩)) (by kernel_rfl) ?_
              simp only [Act.put, List.setIfInBounds_toArray, List.set_cons_succ, List.set_cons_zero]
              go_wp2_with fail
              go_meet
              have O2 : Only [q] w5 (w8.setCell ⟨q, 17, none⟩ (.slice xa xn xc)) := H11.out.2.1.setCell (by simp) _
              have O3 : Only [q] w8 (w8.setCell ⟨q, 17, none⟩ (.slice xa xn xc)) := (Only.refl _ _).setCell (by simp) _
              exact ⟨_, _, _, rfl, HW.out.step (e2 := { ex with sh := ex.sh ++ [S] }) (sv2 := .slice xa xn xc) hk64 (by rw [HN.out]; exact hlt) (by rw [HOP.out, HN.out]; exact HACT.out) ⟨H11.out.1.blk.set 17 _⟩ O2 ((H11.out.2.2.only O3 (fun g hg hm => by have h2 : g = q := (by simpa using hm); have := (H11.out.2.2.lt g hg).1; omega)).lower hqw) (fun h => by simp at h)⟩
          · as_aux_lemma =>
              have hact : Rule.act (N : Int) (i : Int) ⟨13, oa1, ob1⟩ ex = .next ex (N : Int) := by simp [Rule.act, Rule.is]
              have HACT : Hid _ := hact
              clear hact
              go_wp2_with fail
              go_meet
              exact ⟨_, _, _, rfl, HW.out.step hk64 (by rw [HN.out]; exact hlt) (by rw [HOP.out, HN.out]; exact HACT.out) H8.out.cur OO.out (HW.out.row.only OO.out (fun g hg hm => by have h2 : g = q := (by simpa using hm); have := (HW.out.row.lt g hg).1; omega)) HW.out.none⟩
        case rest =>
          obtain ⟨a2, e2, sv2, rfl, HE⟩ := hcut
          have wk : IntKind.i64.wrap ((k : Int) + 1) = (k : Int) + 1 := IntWalk.i64_in _ (by omega)
          go_wp2_with fail
          go_roundg (65 - k)
          case measure => omega
          case rel => exact ⟨k + 1, a2, e2, sv2, rfl, by go_num, by omega, by omega, HE.out⟩
      · -- a register is written
        obtain ⟨⟨n8, n9, n10, n12, n13⟩, ⟨a0, a3⟩, hexs, hact⟩ := (show ((oc1 == 8) = false ∧ (oc1 == 9) = false ∧ (oc1 == 10) = false ∧ (oc1 == 12) = false ∧ (oc1 == 13) = false) ∧ (0 ≤ oa1 ∧ oa1 ≤ 3) ∧ ex.sh = e'.sh ∧ Rule.act (N : Int) (i : Int) ⟨oc1, oa1, ob1⟩ e' = .next { ex with b := Rule.setr ex.b oa1 (Rule.clamp v) } ((i : Int) + 1) from HC.out.2)
        have H8 : Hid (Mid w5 wc q p1 p2 ⟨oc1, oa1, ob1⟩ e'.b ex (.slice sa M sc)) := HC.out.1
        have HACT : Hid _ := hact
        have HEX : Hid _ := hexs
        clear HC hact hexs
        obtain ⟨r, hr⟩ : ∃ r : Nat, oa1 = r := ⟨oa1.toNat, by omega⟩
        have hr4 : r < 4 := by omega
        subst hr
        clear a0 a3
        go_wp2_with fail
        have FA : Hid (∀ z, Only [] wc.drew z → Mid w5 z q p1 p2 ⟨oc1, (r : Int), ob1⟩ e'.b ex (.slice sa M sc)) := fun z hz => H8.out.then ((only_drew wc).trans hz)
        have ixr := fun w => @idx_at q 7 r hr4 w
        refine wp_region_free 7 (Only []) (Only.refl _) Only.trans [(3, .pointer (some ⟨q, 0, none⟩)), (11, .pointer (some ⟨p1, 0, none⟩)), (15, .int .i64 v)] (by intro p hp; simp only [List.mem_cons, List.not_mem_nil, or_false] at hp; rcases hp with rfl | rfl | rfl <;> rfl) (by kernel_rfl) (by kernel_rfl) (by decide) (by kernel_rfl) (by kernel_rfl) ?_
        simp only [List.take_succ_cons, List.take_zero, List.drop_succ_cons, List.drop_zero]
        iterate 3 (
          apply rf_val
          · first | rfl | exact ⟨by kernel_rfl, rfl⟩
          · intro z y hT hf
            have g1 := (FA.out y hT).op.cell1
            simp at hf
            go_simp
            try rfl)
        refine rf_eff (fun _ x => x = .int .i64 (Rule.clamp v)) (by first | rfl | exact ⟨by kernel_rfl, rfl⟩) (fun _ _ _ _ h => h) (fun z y hT hf => ?_) ?_
        · simp at hf
          go_simp
          refine (fwithin_any _ _ _ _).mono ?_
          rintro x y2 ⟨rfl, rfl⟩
          exact ⟨_, rfl, rfl, Only.refl _ _⟩
        iterate 3 (
          apply rf_val
          · first | rfl | exact ⟨by kernel_rfl, rfl⟩
          · intro z y hT hf
            simp at hf
            go_simp
            try rfl)
        intro w6 hy6
        simp only [FinA, Sp.R, forall_eq]
        simp only [Act.put, List.setIfInBounds_toArray, List.set_cons_succ, List.set_cons_zero]
        have H9 : Hid (Mid w5 w6 q p1 p2 ⟨oc1, (r : Int), ob1⟩ e'.b ex (.slice sa M sc)) := FA.out w6 hy6
        clear hy6 FA H8 f0
        have cm := H9.out.cur.mem r hr4
        have fz := H9.out.cur.frozen
        obtain ⟨cv, hcv⟩ : ∃ cv, Rule.clamp v = cv := ⟨_, rfl⟩
        have HCV : Hid _ := hcv
        rw [hcv]
        clear hcv
        go_upto_region 40 with fail
        change Code.wp _ _ _ _ (w6.setCell ⟨q, 7 + r, none⟩ (.int .i64 cv))
        have O2 : Only [q] w6 (w6.setCell ⟨q, 7 + r, none⟩ (.int .i64 cv)) := (Only.refl _ _).setCell (by simp) _
        have H10 : Hid (RW w (w6.setCell ⟨q, 7 + r, none⟩ (.int .i64 cv)) q (.slice (some ⟨bb, off, none⟩) N oc) l e { ex with b := Rule.setr ex.b (r : Int) cv } (.slice sa M sc) (k + 1) ((i : Int) + 1) ∧ (w6.setCell ⟨q, 7 + r, none⟩ (.int .i64 cv)).cell? ⟨p1, 0, none⟩ = some (.int .i64 oc1)) := by
          have O3 : Only [q] w5 (w6.setCell ⟨q, 7 + r, none⟩ (.int .i64 cv)) := H9.out.only.trans O2
          have hrow := HW.out.row.only O3 (fun g hg hm => by have h2 : g = q := (by simpa using hm); have := (HW.out.row.lt g hg).1; omega)
          rw [← HEX.out] at hrow
          refine ⟨HW.out.step hk64 (by rw [HN.out]; exact hlt) (by rw [HOP.out, HN.out, HACT.out, HCV.out]) (H9.out.cur.setr r hr4 cv) O3 hrow (fun h => HW.out.none (by rw [← HEX.out]; exact h)), (H9.out.op.only O2 (by simp; have := H9.out.l1; omega)).cell0⟩
        clear H9 O2 cm fz ixr
        generalize w6.setCell ⟨q, 7 + r, none⟩ (.int .i64 cv) = w7 at *
        have f0 := H10.out.2
        have wk : IntKind.i64.wrap ((k : Int) + 1) = (k : Int) + 1 := IntWalk.i64_in _ (by omega)
        go_wp2_with fail
        go_roundg (65 - k)
        case measure => omega
        case rel => exact ⟨k + 1, _, _, _, rfl, by go_num, by omega, by omega, H10.out.1⟩
end Go.Proofs.Ytfeloiodebjolaa

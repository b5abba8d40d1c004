/- Package rule: the law's envOf: some Env. -/
import Derived.Test.YtfeloiodebjolaaRuleL
import Derived.Test.YtfeloiodebjolaaHandIn
import Derived.Test.YtfeloiodebjolaaEbMem
import Derived.Test.YtfeloiodebjolaaFrameE
import Derived.Deep.LoopGhost
import Derived.Deep.DeepCutAuto
import Derived.Deep.CutBlock
namespace Go.Proofs.Ytfeloiodebjolaa
open Go.RowKit
set_option linter.unusedVariables false

/-- what envOf has laid -/
structure Envd (w W : World) (q t : Nat) (r : Re) (e : Ev) : Prop where
  raw : Blk W q r.cells
  res : Eb W (q + 1) Ev.zero (.slice none 0 0)
  env : Eb W t e (.slice none 0 0)
  only : Only [] w W
  base : w.heap.size = q
  lt : q + 1 < t
  k : e.b.k = 1
  room : 0 ≤ e.room
  sh : e.sh = []
theorem Envd.turn {w W W' : World} {q t : Nat} {r : Re} {e e' : Ev} (h : Envd w W q t r e) (k : Eb W' t e' (.slice none 0 0)) (o : Only [t] W W') (hk : e'.b.k = e.b.k) (hr : e'.room = e.room) (hs : e'.sh = e.sh) : Envd w W' q t r e' :=
  ⟨h.raw.only o (by simp; have := h.lt; omega), h.res.only o (by simp; have := h.lt; omega), k, h.only.then o (fun u hu hl => by have h2 : u = t := (by simpa using hu); have := h.lt; have := h.base; omega), h.base, h.lt, by rw [hk]; exact h.k, by rw [hr]; exact h.room, by rw [hs]; exact h.sh⟩
theorem idxE {t i : Nat} (hi : i < 4) (w : World) : (Instr.indexAt 32 (.pointer (some ⟨t, 7, none⟩)) (.int .i64 (i : Nat))).run Try.prog w = .ok (.pointer (some ⟨t, 7 + i, none⟩)) w := by
  have h4 : i = 0 ∨ i = 1 ∨ i = 2 ∨ i = 3 := by omega
  rcases h4 with rfl | rfl | rfl | rfl <;> (show _ = _; kernel_rfl)
theorem born_k (o n : Int) : (Body.born o n).k = 1 := rfl
set_option maxRecDepth 100000 in
set_option maxHeartbeats 2000000 in
theorem envOf_any (r : Re) (ms : List Int) (w : World) (hm : CameI .i64 w r.m ms) : Calls Try.prog 5 #[r.v] w fun x w' => (∃ e : Ev, x = .returned (e.v (.slice none 0 0)) ∧ e.b.k = 1 ∧ 0 ≤ e.room ∧ e.sh = []) ∧ Only [] w w' := by
  obtain ⟨ma, mcap, hmv, hm1, hm2, hm3, hm4⟩ := hm
  have HM : Hid (r.m = .slice ma ms.length mcap ∧ (ms = [] ∨ ∃ b off, ma = some ⟨b, off, none⟩ ∧ b < w.heap.size ∧ ∀ i, i < ms.length → w.cell? ⟨b, off + i, none⟩ = some (.int .i64 (ms.getD i 0)))) := ⟨hmv, hm4⟩
  have hlen : ms.length ≤ 9223372036854775807 := by unfold maxLen at hm2; omega
  clear hmv hm1 hm2 hm3 hm4
  have H0 : Hid (Blk ((w.alloc (.cells r.cells.toArray 26)).alloc (.cells (Ev.zero.cells (.slice none 0 0)).toArray 39)) w.heap.size r.cells ∧ Eb ((w.alloc (.cells r.cells.toArray 26)).alloc (.cells (Ev.zero.cells (.slice none 0 0)).toArray 39)) (w.heap.size + 1) Ev.zero (.slice none 0 0) ∧ Only [] w ((w.alloc (.cells r.cells.toArray 26)).alloc (.cells (Ev.zero.cells (.slice none 0 0)).toArray 39))) :=
    ⟨(Blk.new w _ _).only ((Only.refl [] _).alloc _) (by simp), Eb.newAt Ev.zero _ (by simp) _, ((Only.refl [] _).alloc _).alloc _⟩
  go_enter Try.func5, Try.ntmps5
  go_wp2_with fail
  change Code.wp _ _ _ _ ((w.alloc (.cells r.cells.toArray 26)).alloc (.cells (Ev.zero.cells (.slice none 0 0)).toArray 39))
  generalize (w.alloc (.cells r.cells.toArray 26)).alloc (.cells (Ev.zero.cells (.slice none 0 0)).toArray 39) = W at *
  obtain ⟨q, hq⟩ : ∃ q, w.heap.size = q := ⟨_, rfl⟩
  simp only [hq] at H0 HM ⊢
  have HQ : Hid _ := hq
  clear hq
  have FA : Hid (∀ y, Only [] W.drew y → Blk y q r.cells ∧ Eb y (q + 1) Ev.zero (.slice none 0 0)) := fun y hy => ⟨H0.out.1.only ((only_drew W).trans hy) (by simp), H0.out.2.1.only ((only_drew W).trans hy) (by simp)⟩
  refine wp_region_free 16 (Only []) (Only.refl _) Only.trans [(1, .pointer (some ⟨q, 0, none⟩))] (by intro p hp; simp only [List.mem_cons, List.not_mem_nil, or_false] at hp; rcases hp with rfl; rfl) (by kernel_rfl) (by kernel_rfl) (by decide) (by kernel_rfl) (by kernel_rfl) ?_
  simp only [List.take_succ_cons, List.take_zero, List.drop_succ_cons, List.drop_zero]
  iterate 2 (
    apply rf_val
    · first | rfl | exact ⟨by kernel_rfl, rfl⟩
    · intro z y hT hf
      have c0 : y.cell? ⟨q, 0, none⟩ = some (.int .i64 r.x) := (FA.out y hT).1.cell 0
      simp at hf
      go_simp
      try rfl)
  refine rf_eff (fun _ v => v = .int .i64 (r.x % 4)) (by first | rfl | exact ⟨by kernel_rfl, rfl⟩) (fun _ _ _ _ h => h) (fun z y hT hf => ?_) ?_
  · simp at hf
    go_simp
    refine (pick_any _ _ (by omega) (by omega) _).mono ?_
    rintro e y2 ⟨rfl, rfl⟩
    exact ⟨_, rfl, rfl, Only.refl _ _⟩
  refine rf_eff (fun _ v => v = (Body.born (r.x % 4) 4).v) (by first | rfl | exact ⟨by kernel_rfl, rfl⟩) (fun _ _ _ _ h => h) (fun z y hT hf => ?_) ?_
  · simp at hf
    go_simp
    refine (born_any _ _ _).mono ?_
    rintro e y2 ⟨rfl, o⟩
    exact ⟨_, rfl, rfl, o⟩
  iterate 4 (
    apply rf_val
    · first | rfl | exact ⟨by kernel_rfl, rfl⟩
    · intro z y hT hf
      have c3 : y.cell? ⟨q, 3, none⟩ = some (.int .i64 r.bt) := (FA.out y hT).1.cell 3
      have c4 : y.cell? ⟨q, 4, none⟩ = some (.int .i64 r.sx) := (FA.out y hT).1.cell 4
      simp at hf
      go_simp
      try rfl)
  obtain ⟨ia, hia⟩ : ∃ v, r.bt % 256 = v := ⟨_, rfl⟩
  obtain ⟨ib, hib⟩ : ∃ v, r.sx % 129 - 64 = v := ⟨_, rfl⟩
  obtain ⟨ic, hic⟩ : ∃ v, wrap64 (r.sx.tdiv 129) % 129 - 64 = v := ⟨_, rfl⟩
  refine rf_eff (fun _ v => v = .agg #[.int .i64 ia, .int .i64 ib, .int .i64 ic]) (by first | rfl | exact ⟨by kernel_rfl, rfl⟩) (fun _ _ _ _ h => h) (fun z y hT hf => ?_) ?_
  · simp at hf
    go_simp
    refine (inp_any _ _ _).mono ?_
    rintro e y2 ⟨rfl, o⟩
    rw [hia, hib, hic]
    exact ⟨_, rfl, rfl, o⟩
  iterate 4 (
    apply rf_val
    · first | rfl | exact ⟨by kernel_rfl, rfl⟩
    · intro z y hT hf
      have c7 : y.cell? ⟨q, 7, none⟩ = some (.int .u64 r.d) := (FA.out y hT).1.cell 7
      have c5 : y.cell? ⟨q, 5, none⟩ = some (.int .i64 r.room) := (FA.out y hT).1.cell 5
      simp at hf
      go_simp
      try rfl)
  refine rf_eff (fun _ v => v = .int .i64 (r.room % 8)) (by first | rfl | exact ⟨by kernel_rfl, rfl⟩) (fun _ _ _ _ h => h) (fun z y hT hf => ?_) ?_
  · simp at hf
    go_simp
    refine (pick_any _ _ (by omega) (by omega) _).mono ?_
    rintro e y2 ⟨rfl, rfl⟩
    exact ⟨_, rfl, rfl, Only.refl _ _⟩
  obtain ⟨E, hE⟩ : ∃ E : Ev, E = ⟨Body.born (r.x % 4) 4, ia, ib, ic, r.d, r.room % 8, []⟩ := ⟨_, rfl⟩
  refine rf_val (E.v (.slice none 0 0)) (by first | rfl | exact ⟨by kernel_rfl, rfl⟩) (fun z y hT hf => ?_) ?_
  · rw [hE]
    simp at hf
    go_simp
  refine rf_eff (fun y v => ∃ g, v = .pointer (some ⟨g, 0, none⟩) ∧ Eb y g Ev.zero (.slice none 0 0) ∧ q + 1 < g) (by first | rfl | exact ⟨by kernel_rfl, rfl⟩) (fun y y2 v hT h => ?_) (fun z y hT hf => ?_) ?_
  · obtain ⟨g, h1, h2, h3⟩ := h
    exact ⟨g, h1, h2.only hT (by simp), h3⟩
  · have hl := (FA.out y hT).2.lt
    simp at hf
    go_simp
    first | exact ⟨⟨_, rfl, Eb.new Ev.zero _ _ _, hl⟩, (Only.refl _ _).alloc _⟩ | exact ⟨⟨Eb.new Ev.zero _ _ _, hl⟩, (Only.refl _ _).alloc _⟩ | exact ⟨Eb.new Ev.zero _ _ _, (Only.refl _ _).alloc _⟩
  intro w2 hy
  simp only [FinA, Sp.R, forall_eq]
  rintro v ⟨t, rfl, ht, hlt⟩
  simp only [Act.put, List.setIfInBounds_toArray, List.set_cons_succ, List.set_cons_zero]
  refine op_storeE (p := t) (e := E) (s := .slice none 0 0) rfl _ _ rfl rfl rfl ht rfl ?_
  intro w3 hb o3 hz3
  refine wpList_nil ?_
  have ek : E.b.k = 1 := by rw [hE]; rfl
  have er : 0 ≤ E.room := by rw [hE]; show 0 ≤ r.room % 8; omega
  have es : E.sh = [] := by rw [hE]
  have H3 : Hid (Envd w w3 q t r E) := ⟨(FA.out w2 hy).1.only o3 (by simp; omega), (FA.out w2 hy).2.only o3 (by simp; omega), hb, (H0.out.2.2.trans ((only_drew W).trans hy)).then o3 (fun u hu hl => by have h2 : u = t := (by simpa using hu); have := HQ.out; omega), HQ.out, hlt, ek, er, es⟩
  clear hb o3 hz3 hy FA H0 ht ek er es hE hia hib hic HQ
  have a0 : w3.cell? ⟨q, 0, none⟩ = some (.int .i64 r.x) := H3.out.raw.cell 0
  have a1 : w3.cell? ⟨q, 1, none⟩ = some (.int .i64 r.y) := H3.out.raw.cell 1
  have a2 : w3.cell? ⟨q, 2, none⟩ = some (.int .i64 r.vx) := H3.out.raw.cell 2
  have b2 : w3.cell? ⟨t, 2, none⟩ = some (.int .i64 E.b.x) := H3.out.env.blk.cell 2
  have b3 : w3.cell? ⟨t, 3, none⟩ = some (.int .i64 E.b.y) := H3.out.env.blk.cell 3
  have b4 : w3.cell? ⟨t, 4, none⟩ = some (.int .i64 E.b.vx) := H3.out.env.blk.cell 4
  have fz := H3.out.env.frozen
  have ne1 : ¬ q = t := by omega
  have ne2 : ¬ t = q := by omega
  have w1 : ∀ n : Int, IntKind.i64.wrap (n % 129 - 64) = n % 129 - 64 := fun n => IntWalk.i64_in _ (by omega)
  have wv := w1 r.vx
  go_wp2_with fail
  refine (pick_any _ _ (by omega) (by omega) _).mono ?_
  rintro x w' ⟨rfl, rfl⟩
  go_wp2_with fail
  refine (pick_any _ _ (by omega) (by omega) _).mono ?_
  rintro x w' ⟨rfl, rfl⟩
  go_wp2_with fail
  refine (pick_any _ _ (by omega) (by omega) _).mono ?_
  rintro x w' ⟨rfl, rfl⟩
  go_wp2_with fail
  have o4 : Only [t] w3 (((w3.setCell ⟨t, 2, none⟩ (.int .i64 (r.x % 4096))).setCell ⟨t, 3, none⟩ (.int .i64 (r.y % 4096))).setCell ⟨t, 4, none⟩ (.int .i64 (r.vx % 129 - 64))) := (((Only.refl _ _).setCell (by simp) _).setCell (by simp) _).setCell (by simp) _
  have H4 : Hid (Envd w (((w3.setCell ⟨t, 2, none⟩ (.int .i64 (r.x % 4096))).setCell ⟨t, 3, none⟩ (.int .i64 (r.y % 4096))).setCell ⟨t, 4, none⟩ (.int .i64 (r.vx % 129 - 64))) q t r { E with b := { E.b with x := r.x % 4096, y := r.y % 4096, vx := r.vx % 129 - 64 } }) :=
    H3.out.turn ⟨((H3.out.env.blk.set 2 _).set 3 _).set 4 _⟩ o4 rfl rfl rfl
  clear H3 a0 a1 a2 b2 b3 b4 fz w1 wv o4
  generalize ((w3.setCell ⟨t, 2, none⟩ (.int .i64 (r.x % 4096))).setCell ⟨t, 3, none⟩ (.int .i64 (r.y % 4096))).setCell ⟨t, 4, none⟩ (.int .i64 (r.vx % 129 - 64)) = w4 at *
  generalize ({ E with b := { E.b with x := r.x % 4096, y := r.y % 4096, vx := r.vx % 129 - 64 } } : Ev) = E4 at *
  obtain ⟨n, hn⟩ : ∃ n, ms.length = n := ⟨_, rfl⟩
  have HN : Hid _ := hn
  simp only [hn] at HM hlen
  clear hn
  go_loopg [4] 5 (fun gk vi wr => ∃ (i : Nat) (e : Ev), vi = .int .i64 i ∧ i ≤ 4 ∧ i ≤ n ∧ 5 - i ≤ gk ∧ Hid (Envd w wr q t r e))
  case atStart => exact ⟨0, E4, rfl, by omega, by omega, by omega, H4.out⟩
  case round =>
    clear H4
    obtain ⟨i, e, rfl, hi4, hin, hg, HE⟩ := hrel
    have c6 : wr.cell? ⟨q, 6, none⟩ = some (.slice ma n mcap) := by rw [← HM.out.1]; exact HE.out.raw.cell 6
    by_cases h1 : i < n
    · by_cases h2 : i < 4
      · have z1 : (i : Int) < (n : Int) := by omega
        have z2 : (i : Int) < 4 := by omega
        have z0 : (0 : Int) ≤ (i : Int) := by omega
        obtain ⟨bb, off, hma, hbb, hcc⟩ : ∃ bb off, ma = some ⟨bb, off, none⟩ ∧ bb < q ∧ w.cell? ⟨bb, off + i, none⟩ = some (.int .i64 (ms.getD i 0)) := by
          rcases HM.out.2 with h | ⟨b, off, g1, g2, g3⟩
          · have := HN.out; rw [h] at this; simp at this; omega
          · exact ⟨b, off, g1, g2, g3 i h1⟩
        subst hma
        generalize ms.getD i 0 = z at hcc
        have cz : wr.cell? ⟨bb, off + i, none⟩ = some (.int .i64 z) := by rw [← hcc]; exact HE.out.only.cell (by show bb < _; have := HE.out.base; omega) (by simp)
        have cm := HE.out.env.mem i h2
        have fz := HE.out.env.frozen
        have ix := fun w => @idxE t i h2 w
        have w1 : IntKind.i64.wrap (z % 41 - 20) = z % 41 - 20 := IntWalk.i64_in _ (by omega)
        have w2 : IntKind.i64.wrap (z % 2000001 - 1000000) = z % 2000001 - 1000000 := IntWalk.i64_in _ (by omega)
        have nb : ¬ bb = t := by omega
        have nb2 : ¬ t = bb := by omega
        clear hcc
        go_wp2_with fail
        refine (pick_any _ _ (by omega) (by omega) _).mono ?_
        rintro x w' ⟨rfl, rfl⟩
        go_upto_region 9 with fail
        have o5 : Only [t] wr (wr.setCell ⟨t, 7 + i, none⟩ (.int .i64 (z % 41 - 20))) := (Only.refl _ _).setCell (by simp) _
        have H5 : Hid (Envd w (wr.setCell ⟨t, 7 + i, none⟩ (.int .i64 (z % 41 - 20))) q t r { e with b := Rule.setr e.b i (z % 41 - 20) }) := HE.out.turn (HE.out.env.setr i h2 _) o5 (setr_same _ _ _).1 rfl rfl
        have cz5 : (wr.setCell ⟨t, 7 + i, none⟩ (.int .i64 (z % 41 - 20))).cell? ⟨bb, off + i, none⟩ = some (.int .i64 z) := by rw [← cz]; exact o5.cell (lt_of_cell cz) (by simpa using nb)
        clear HE c6 cz cm fz o5 w1
        generalize wr.setCell ⟨t, 7 + i, none⟩ (.int .i64 (z % 41 - 20)) = w5 at *
        generalize ({ e with b := Rule.setr e.b i (z % 41 - 20) } : Ev) = e5 at *
        have c6 : w5.cell? ⟨q, 6, none⟩ = some (.slice (some ⟨bb, off, none⟩) n mcap) := by rw [← HM.out.1]; exact H5.out.raw.cell 6
        have cm := H5.out.env.mem i h2
        have fz := H5.out.env.frozen
        obtain ⟨k, hk⟩ : ∃ k, (z.tmod 9 == 8) = k := ⟨_, rfl⟩
        cases k
        · go_wp2_with fail
          go_roundg (5 - (i + 1))
          case measure => omega
          case rel => exact ⟨i + 1, e5, by go_num, by omega, by omega, by omega, H5.out⟩
        · go_wp2_with fail
          refine (pick_any _ _ (by omega) (by omega) _).mono ?_
          rintro x w' ⟨rfl, rfl⟩
          go_wp2_with fail
          have o6 : Only [t] w5 (w5.setCell ⟨t, 7 + i, none⟩ (.int .i64 (z % 2000001 - 1000000))) := (Only.refl _ _).setCell (by simp) _
          go_roundg (5 - (i + 1))
          case measure => omega
          case rel => exact ⟨i + 1, { e5 with b := Rule.setr e5.b i (z % 2000001 - 1000000) }, by go_num, by omega, by omega, by omega, H5.out.turn (H5.out.env.setr i h2 _) o6 (setr_same _ _ _).1 rfl rfl⟩
      · have z1 : (i : Int) < (n : Int) := by omega
        have z2 : ¬ (i : Int) < 4 := by omega
        have cy : wr.cell? ⟨q, 1, none⟩ = some (.int .i64 r.y) := HE.out.raw.cell 1
        have cb : wr.cell? ⟨q, 8, none⟩ = some (.int .i64 r.bend) := HE.out.raw.cell 8
        have c3 : wr.cell? ⟨t, 3, none⟩ = some (.int .i64 e.b.y) := HE.out.env.blk.cell 3
        have fz := HE.out.env.frozen
        obtain ⟨k, hk⟩ : ∃ k, (r.bend.tmod 23 == 22) = k := ⟨_, rfl⟩
        cases k
        · go_upto_region 13 with fail
          apply wp_region_lit
          refine op_loads rfl (cs := e.cells (.slice none 0 0)) 39 _ rfl rfl Try.underlying39 info_env HE.out.env.cell ?_
          refine op_storeE (e := e) (s := .slice none 0 0) rfl _ _ rfl rfl rfl HE.out.res rfl ?_
          intro w8 hb o8 hz8
          refine wpList_nil ?_
          have H8 : Hid (Eb w8 (q + 1) e (.slice none 0 0) ∧ Only [] w w8) := ⟨hb, HE.out.only.then o8 (fun u hu hl => by have h2 : u = q + 1 := (by simpa using hu); have := HE.out.base; omega)⟩
          clear hb o8
          go_wp2_with fail
          exact bodyPost_ret (res_env H8.out.1 Try.results5 rfl) rfl ⟨⟨e, rfl, HE.out.k, HE.out.room, HE.out.sh⟩, H8.out.2⟩
        · go_upto_region 13 with fail
          have o6 : Only [t] wr (wr.setCell ⟨t, 3, none⟩ (.int .i64 r.y)) := (Only.refl _ _).setCell (by simp) _
          have H6 : Hid (Envd w (wr.setCell ⟨t, 3, none⟩ (.int .i64 r.y)) q t r { e with b := { e.b with y := r.y } }) := HE.out.turn ⟨HE.out.env.blk.set 3 _⟩ o6 rfl rfl rfl
          clear HE o6 fz c3 cb cy
          generalize wr.setCell ⟨t, 3, none⟩ (.int .i64 r.y) = w6 at *
          generalize ({ e with b := { e.b with y := r.y } } : Ev) = e6 at *
          apply wp_region_lit
          refine op_loads rfl (cs := e6.cells (.slice none 0 0)) 39 _ rfl rfl Try.underlying39 info_env H6.out.env.cell ?_
          refine op_storeE (e := e6) (s := .slice none 0 0) rfl _ _ rfl rfl rfl H6.out.res rfl ?_
          intro w8 hb o8 hz8
          refine wpList_nil ?_
          have H8 : Hid (Eb w8 (q + 1) e6 (.slice none 0 0) ∧ Only [] w w8) := ⟨hb, H6.out.only.then o8 (fun u hu hl => by have h2 : u = q + 1 := (by simpa using hu); have := H6.out.base; omega)⟩
          clear hb o8
          go_wp2_with fail
          exact bodyPost_ret (res_env H8.out.1 Try.results5 rfl) rfl ⟨⟨e6, rfl, H6.out.k, H6.out.room, H6.out.sh⟩, H8.out.2⟩
    · have z1 : ¬ (i : Int) < (n : Int) := by omega
      have cy : wr.cell? ⟨q, 1, none⟩ = some (.int .i64 r.y) := HE.out.raw.cell 1
      have cb : wr.cell? ⟨q, 8, none⟩ = some (.int .i64 r.bend) := HE.out.raw.cell 8
      have c3 : wr.cell? ⟨t, 3, none⟩ = some (.int .i64 e.b.y) := HE.out.env.blk.cell 3
      have fz := HE.out.env.frozen
      obtain ⟨k, hk⟩ : ∃ k, (r.bend.tmod 23 == 22) = k := ⟨_, rfl⟩
      cases k
      · go_upto_region 13 with fail
        apply wp_region_lit
        refine op_loads rfl (cs := e.cells (.slice none 0 0)) 39 _ rfl rfl Try.underlying39 info_env HE.out.env.cell ?_
        refine op_storeE (e := e) (s := .slice none 0 0) rfl _ _ rfl rfl rfl HE.out.res rfl ?_
        intro w8 hb o8 hz8
        refine wpList_nil ?_
        have H8 : Hid (Eb w8 (q + 1) e (.slice none 0 0) ∧ Only [] w w8) := ⟨hb, HE.out.only.then o8 (fun u hu hl => by have h2 : u = q + 1 := (by simpa using hu); have := HE.out.base; omega)⟩
        clear hb o8
        go_wp2_with fail
        exact bodyPost_ret (res_env H8.out.1 Try.results5 rfl) rfl ⟨⟨e, rfl, HE.out.k, HE.out.room, HE.out.sh⟩, H8.out.2⟩
      · go_upto_region 13 with fail
        have o6 : Only [t] wr (wr.setCell ⟨t, 3, none⟩ (.int .i64 r.y)) := (Only.refl _ _).setCell (by simp) _
        have H6 : Hid (Envd w (wr.setCell ⟨t, 3, none⟩ (.int .i64 r.y)) q t r { e with b := { e.b with y := r.y } }) := HE.out.turn ⟨HE.out.env.blk.set 3 _⟩ o6 rfl rfl rfl
        clear HE o6 fz c3 cb cy
        generalize wr.setCell ⟨t, 3, none⟩ (.int .i64 r.y) = w6 at *
        generalize ({ e with b := { e.b with y := r.y } } : Ev) = e6 at *
        apply wp_region_lit
        refine op_loads rfl (cs := e6.cells (.slice none 0 0)) 39 _ rfl rfl Try.underlying39 info_env H6.out.env.cell ?_
        refine op_storeE (e := e6) (s := .slice none 0 0) rfl _ _ rfl rfl rfl H6.out.res rfl ?_
        intro w8 hb o8 hz8
        refine wpList_nil ?_
        have H8 : Hid (Eb w8 (q + 1) e6 (.slice none 0 0) ∧ Only [] w w8) := ⟨hb, H6.out.only.then o8 (fun u hu hl => by have h2 : u = q + 1 := (by simpa using hu); have := H6.out.base; omega)⟩
        clear hb o8
        go_wp2_with fail
        exact bodyPost_ret (res_env H8.out.1 Try.results5 rfl) rfl ⟨⟨e6, rfl, H6.out.k, H6.out.room, H6.out.sh⟩, H8.out.2⟩
end Go.Proofs.Ytfeloiodebjolaa

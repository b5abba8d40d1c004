/- The hand's Op: some op. -/
import Derived.Test.YtngbannidbijmaaRule
import Derived.Test.YtngbannidbijmaaPick
import Derived.Test.YtngbannidbijmaaGRegBy
import Derived.Test.YtngbannidbijmaaBlkS
import Derived.Deep.DeepCutAuto
import Derived.Deep.CutBlock
namespace Go.Proofs.Ytngbannidbijmaa
open Go.RowKit
set_option linter.unusedVariables false

/-- what Op has laid: the raw one, what it will answer, the op -/
structure Oped (w W : World) (q t : Nat) (c a b x y z : Int) : Prop where
  raw : Three W q (.int .i64 c) (.int .i64 a) (.int .i64 b)
  res : Three W (q + 1) (.int .i64 0) (.int .i64 0) (.int .i64 0)
  op : Three W t (.int .i64 x) (.int .i64 y) (.int .i64 z)
  only : Only [] w W
  base : w.heap.size = q
  lt : q + 1 < t
theorem Oped.turn {w W W' : World} {q t : Nat} {c a b x y z x' y' z' : Int} (h : Oped w W q t c a b x y z) (k : Three W' t (.int .i64 x') (.int .i64 y') (.int .i64 z')) (o : Only [t] W W') : Oped w W' q t c a b x' y' z' :=
  ⟨h.raw.only o (by simp; have := h.lt; omega), h.res.only o (by simp; have := h.lt; omega), k, h.only.then o (fun u hu hl => by have h2 : u = t := (by simpa using hu); have := h.lt; have := h.base; omega), h.base, h.lt⟩
theorem three_set2 {w : World} {k : Nat} {x y z : Value} (h : Three w k x y z) (u : Value) : Three (w.setCell ⟨k, 2, none⟩ u) k x y u := by
  obtain ⟨t, h⟩ := h
  exact ⟨t, by simp [World.setCell, Array.getElem?_modify, h]⟩
theorem three_set1 {w : World} {k : Nat} {x y z : Value} (h : Three w k x y z) (u : Value) : Three (w.setCell ⟨k, 1, none⟩ u) k x u z := by
  obtain ⟨t, h⟩ := h
  exact ⟨t, by simp [World.setCell, Array.getElem?_modify, h]⟩
theorem three_set0 {w : World} {k : Nat} {x y z : Value} (h : Three w k x y z) (u : Value) : Three (w.setCell ⟨k, 0, none⟩ u) k u y z := by
  obtain ⟨t, h⟩ := h
  exact ⟨t, by simp [World.setCell, Array.getElem?_modify, h]⟩
theorem three_frozen {w : World} {k : Nat} {x y z : Value} (h : Three w k x y z) (i : Nat) : w.frozen? ⟨k, i, none⟩ = false := by
  obtain ⟨t, h⟩ := h; simp [World.frozen?, h]
set_option maxRecDepth 100000 in
set_option maxHeartbeats 2000000 in
theorem hop_any (c a b : Int) (w : World) : Calls Try.prog 61 #[.agg #[.int .i64 c, .int .i64 a, .int .i64 b]] w fun e w' => (∃ o : Op3, e = .returned o.v) ∧ Only [] w w' := by
  have H0 : Hid (Three ((w.alloc (.cells #[.int .i64 c, .int .i64 a, .int .i64 b] 99)).alloc (.cells #[.int .i64 0, .int .i64 0, .int .i64 0] 23)) w.heap.size (.int .i64 c) (.int .i64 a) (.int .i64 b) ∧ Three ((w.alloc (.cells #[.int .i64 c, .int .i64 a, .int .i64 b] 99)).alloc (.cells #[.int .i64 0, .int .i64 0, .int .i64 0] 23)) (w.heap.size + 1) (.int .i64 0) (.int .i64 0) (.int .i64 0) ∧ Only [] w ((w.alloc (.cells #[.int .i64 c, .int .i64 a, .int .i64 b] 99)).alloc (.cells #[.int .i64 0, .int .i64 0, .int .i64 0] 23))) := by
    refine ⟨(Three.new _ _ _ _ _).only ((Only.refl [] _).alloc _) (by simp), ?_, ((Only.refl [] _).alloc _).alloc _⟩
    have := Three.new (w.alloc (.cells #[.int .i64 c, .int .i64 a, .int .i64 b] 99)) (.int .i64 0) (.int .i64 0) (.int .i64 0) 23
    simpa using this
  go_enter Try.func61, Try.ntmps61
  go_wp2_with fail
  generalize (w.alloc (.cells #[.int .i64 c, .int .i64 a, .int .i64 b] 99)).alloc (.cells #[.int .i64 0, .int .i64 0, .int .i64 0] 23) = W at *
  obtain ⟨q, hq⟩ : ∃ q, w.heap.size = q := ⟨_, rfl⟩
  simp only [hq] at H0 ⊢
  have HQ : Hid _ := hq
  clear hq
  have FA : Hid (∀ y, Only [] W.drew y → Three y q (.int .i64 c) (.int .i64 a) (.int .i64 b) ∧ Three y (q + 1) (.int .i64 0) (.int .i64 0) (.int .i64 0)) := fun y hy => ⟨H0.out.1.only ((only_drew W).trans hy) (by simp), H0.out.2.1.only ((only_drew W).trans hy) (by simp)⟩
  have wr : ∀ n : Int, IntKind.i64.wrap (1 + n % 13) = 1 + n % 13 := fun n => IntWalk.i64_in _ (by omega)
  refine wp_region_free 12 (Only []) (Only.refl _) Only.trans [(1, .pointer (some ⟨q, 0, none⟩))] (by intro p hp; simp only [List.mem_cons, List.not_mem_nil, or_false] at hp; rcases hp with rfl; rfl) (by kernel_rfl) (by kernel_rfl) (by decide) (by kernel_rfl) (by kernel_rfl) ?_
  simp only [List.take_succ_cons, List.take_zero, List.drop_succ_cons, List.drop_zero]
  iterate 2 (
    apply rf_val
    · first | rfl | exact ⟨by kernel_rfl, rfl⟩
    · intro z y hT hf
      have c0 := (FA.out y hT).1.cell0
      simp at hf
      go_simp
      try rfl)
  refine rf_eff (fun _ v => v = .int .i64 (c % 13)) (by first | rfl | exact ⟨by kernel_rfl, rfl⟩) (fun _ _ _ _ h => h) (fun z y hT hf => ?_) ?_
  · simp at hf
    go_simp
    refine (pick_any _ _ (by omega) (by omega) _).mono ?_
    rintro e y2 ⟨rfl, rfl⟩
    exact ⟨_, rfl, rfl, Only.refl _ _⟩
  refine rf_val (.int .i64 (1 + c % 13)) (by first | rfl | exact ⟨by kernel_rfl, rfl⟩) (fun z y hT hf => ?_) ?_
  · have wc := wr c
    simp at hf
    go_simp
  iterate 2 (
    apply rf_val
    · first | rfl | exact ⟨by kernel_rfl, rfl⟩
    · intro z y hT hf
      have c0 := (FA.out y hT).1.cell1
      simp at hf
      go_simp
      try rfl)
  refine rf_eff (fun _ v => v = .int .i64 (a % 4)) (by first | rfl | exact ⟨by kernel_rfl, rfl⟩) (fun _ _ _ _ h => h) (fun z y hT hf => ?_) ?_
  · simp at hf
    go_simp
    refine (pick_any _ _ (by omega) (by omega) _).mono ?_
    rintro e y2 ⟨rfl, rfl⟩
    exact ⟨_, rfl, rfl, Only.refl _ _⟩
  iterate 2 (
    apply rf_val
    · first | rfl | exact ⟨by kernel_rfl, rfl⟩
    · intro z y hT hf
      have c0 := (FA.out y hT).1.cell2
      simp at hf
      go_simp
      try rfl)
  refine rf_eff (fun _ v => v = .int .i64 (b % 4)) (by first | rfl | exact ⟨by kernel_rfl, rfl⟩) (fun _ _ _ _ h => h) (fun z y hT hf => ?_) ?_
  · simp at hf
    go_simp
    refine (pick_any _ _ (by omega) (by omega) _).mono ?_
    rintro e y2 ⟨rfl, rfl⟩
    exact ⟨_, rfl, rfl, Only.refl _ _⟩
  apply rf_val
  · first | rfl | exact ⟨by kernel_rfl, rfl⟩
  · intro z y hT hf
    simp at hf
    go_simp
    try rfl
  refine rf_eff (fun y v => ∃ g, v = .pointer (some ⟨g, 0, none⟩) ∧ Three y g (.int .i64 0) (.int .i64 0) (.int .i64 0) ∧ q + 1 < g) (by first | rfl | exact ⟨by kernel_rfl, rfl⟩) (fun y y2 v hT h => ?_) (fun z y hT hf => ?_) ?_
  · obtain ⟨g, h1, h2, h3⟩ := h
    exact ⟨g, h1, h2.only hT (by simp), h3⟩
  · have hl := (FA.out y hT).2.lt
    simp at hf
    go_simp
    first | exact ⟨⟨_, rfl, Three.new _ _ _ _ _, hl⟩, (Only.refl _ _).alloc _⟩ | exact ⟨⟨Three.new _ _ _ _ _, hl⟩, (Only.refl _ _).alloc _⟩ | exact ⟨Three.new _ _ _ _ _, (Only.refl _ _).alloc _⟩
  intro w2 hy
  simp only [FinA, Sp.R, forall_eq]
  rintro v ⟨t, rfl, ht, hlt⟩
  simp only [Act.put, List.setIfInBounds_toArray, List.set_cons_succ, List.set_cons_zero]
  have H2 : Hid (Oped w w2 q t c a b 0 0 0) := ⟨(FA.out w2 hy).1, (FA.out w2 hy).2, ht, H0.out.2.2.trans ((only_drew W).trans hy), HQ.out, hlt⟩
  clear hy FA H0 ht wr HQ
  obtain ⟨d0, d1, d2⟩ := And.intro H2.out.op.cell0 (And.intro H2.out.op.cell1 H2.out.op.cell2)
  have fz := three_frozen H2.out.op
  go_upto_region 2 with fail
  have o3 : Only [t] w2 (((w2.setCell ⟨t, 0, none⟩ (.int .i64 (1 + c % 13))).setCell ⟨t, 1, none⟩ (.int .i64 (a % 4))).setCell ⟨t, 2, none⟩ (.int .i64 (b % 4))) := (((Only.refl _ _).setCell (by simp) _).setCell (by simp) _).setCell (by simp) _
  have H3 : Hid (Oped w (((w2.setCell ⟨t, 0, none⟩ (.int .i64 (1 + c % 13))).setCell ⟨t, 1, none⟩ (.int .i64 (a % 4))).setCell ⟨t, 2, none⟩ (.int .i64 (b % 4))) q t c a b (1 + c % 13) (a % 4) (b % 4)) := H2.out.turn (three_set2 (three_set1 (three_set0 H2.out.op _) _) _) o3
  clear H2 d0 d1 d2 fz o3
  generalize ((w2.setCell ⟨t, 0, none⟩ (.int .i64 (1 + c % 13))).setCell ⟨t, 1, none⟩ (.int .i64 (a % 4))).setCell ⟨t, 2, none⟩ (.int .i64 (b % 4)) = w3 at *
  generalize hx : 1 + c % 13 = x at *
  generalize hy : a % 4 = y at *
  generalize hz : b % 4 = z at *
  clear hx hy hz
  have d0 := H3.out.op.cell0
  go_upto_block 0 with fail
  go_cut [] (fun wx => Hid (∃ x y z, Oped w wx q t c a b x y z))
  case first =>
    have r2 := H3.out.raw.cell2
    have d2 := H3.out.op.cell2
    have fz := three_frozen H3.out.op
    have w1 : ∀ n : Int, IntKind.i64.wrap (n % 90 - 30) = n % 90 - 30 := fun n => IntWalk.i64_in _ (by omega)
    have wb := w1 b
    by_cases e1 : x = 1
    · subst e1
      go_wp2_with fail
      refine (pick_any _ _ (by omega) (by omega) _).mono ?_
      rintro e w' ⟨rfl, rfl⟩
      go_wp2_with fail
      go_meet
      exact ⟨_, _, _, H3.out.turn (three_set2 H3.out.op _) ((Only.refl _ _).setCell (by simp) _)⟩
    have n1 : (x == 1) = false := by simpa using e1
    by_cases e7 : x = 7
    · subst e7
      go_wp2_with fail
      refine (pick_any _ _ (by omega) (by omega) _).mono ?_
      rintro e w' ⟨rfl, rfl⟩
      go_wp2_with fail
      go_meet
      exact ⟨_, _, _, H3.out.turn (three_set2 H3.out.op _) ((Only.refl _ _).setCell (by simp) _)⟩
    have n7 : (x == 7) = false := by simpa using e7
    by_cases e9 : x = 9
    · subst e9
      go_wp2_with fail
      refine (pick_any _ _ (by omega) (by omega) _).mono ?_
      rintro e w' ⟨rfl, rfl⟩
      go_wp2_with fail
      go_meet
      exact ⟨_, _, _, H3.out.turn (three_set2 H3.out.op _) ((Only.refl _ _).setCell (by simp) _)⟩
    have n9 : (x == 9) = false := by simpa using e9
    by_cases e10 : x = 10
    · subst e10
      go_wp2_with fail
      refine (pick_any _ _ (by omega) (by omega) _).mono ?_
      rintro e w' ⟨rfl, rfl⟩
      go_wp2_with fail
      go_meet
      exact ⟨_, _, _, H3.out.turn (three_set2 H3.out.op _) ((Only.refl _ _).setCell (by simp) _)⟩
    have n10 : (x == 10) = false := by simpa using e10
    go_wp2_with fail
    go_meet
    exact ⟨_, _, _, H3.out⟩
  case rest =>
    obtain ⟨x, y, z, hO⟩ := hcut.out
    clear hcut H3 d0
    have H4 : Hid (Oped w wc q t c a b x y z) := hO
    clear hO
    have r0 := H4.out.raw.cell0
    have r1 := H4.out.raw.cell1
    have r2 := H4.out.raw.cell2
    have d0 := H4.out.op.cell0
    have d1 := H4.out.op.cell1
    have d2 := H4.out.op.cell2
    have fz := three_frozen H4.out.op
    go_wp2_with fail
    refine (pick_any _ _ (by omega) (by omega) _).mono ?_
    rintro e w' ⟨rfl, rfl⟩
    generalize c % 101 = k at *
    go_upto_block 1 with fail
    go_cut [] (fun wx => Hid (∃ x y z, Oped w wx q t c a b x y z))
    case first =>
      by_cases e1 : k = 97
      · subst e1
        go_wp2_with fail
        go_meet
        exact ⟨_, _, _, H4.out.turn (three_set1 H4.out.op _) ((Only.refl _ _).setCell (by simp) _)⟩
      have n1 : (k == 97) = false := by simpa using e1
      by_cases e2 : k = 98
      · subst e2
        go_wp2_with fail
        go_meet
        exact ⟨_, _, _, H4.out.turn (three_set2 H4.out.op _) ((Only.refl _ _).setCell (by simp) _)⟩
      have n2 : (k == 98) = false := by simpa using e2
      by_cases e3 : k = 99
      · subst e3
        go_wp2_with fail
        go_meet
        exact ⟨_, _, _, H4.out.turn (three_set0 H4.out.op _) ((Only.refl _ _).setCell (by simp) _)⟩
      have n3 : (k == 99) = false := by simpa using e3
      by_cases e4 : k = 100
      · subst e4
        go_wp2_with fail
        refine (pick_any _ _ (by omega) (by omega) _).mono ?_
        rintro e w' ⟨rfl, rfl⟩
        go_wp2_with fail
        go_meet
        exact ⟨_, _, _, H4.out.turn (three_set1 H4.out.op _) ((Only.refl _ _).setCell (by simp) _)⟩
      have n4 : (k == 100) = false := by simpa using e4
      go_wp2_with fail
      go_meet
      exact ⟨_, _, _, H4.out⟩
    case rest =>
      obtain ⟨x, y, z, hO⟩ := hcut.out
      clear hcut H4 r0 r1 r2 d0 d1 d2 fz
      rename_i wd
      have H5 : Hid _ := hO
      clear hO
      have d0 := H5.out.op.cell0
      have d1 := H5.out.op.cell1
      have d2 := H5.out.op.cell2
      have f0 := H5.out.res.cell0
      have f1 := H5.out.res.cell1
      have f2 := H5.out.res.cell2
      have fz := three_frozen H5.out.res
      go_wp2_with fail
      have oS : Only [q + 1] wc (((wc.setCell ⟨q + 1, 0, none⟩ (.int .i64 x)).setCell ⟨q + 1, 1, none⟩ (.int .i64 y)).setCell ⟨q + 1, 2, none⟩ (.int .i64 z)) := (((Only.refl _ _).setCell (by simp) _).setCell (by simp) _).setCell (by simp) _
      have X := three_set2 (three_set1 (three_set0 H5.out.res (.int .i64 x)) (.int .i64 y)) (.int .i64 z)
      have k0 := X.cell0
      have k1 := X.cell1
      have k2 := X.cell2
      refine bodyPost_ret (v := .agg #[.int .i64 x, .int .i64 y, .int .i64 z]) (by simp [results, Try.results61, go_sem, k0, k1, k2]) rfl ⟨⟨⟨x, y, z⟩, rfl⟩, H5.out.only.then oS fun u hu hl => ?_⟩
      have h2 : u = q + 1 := by simpa using hu
      have := H5.out.base
      omega
end Go.Proofs.Ytngbannidbijmaa

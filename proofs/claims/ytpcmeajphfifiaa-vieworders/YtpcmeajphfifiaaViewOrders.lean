/- Proved: ViewOrders returns true for every input. No condition. -/
import Derived.Test.YtpcmeajphfifiaaFloatsW
namespace Go.Proofs.Ytpcmeajphfifiaa.viewOrders
open Go.ChangeShapes Go.WideShapes Go.ChangeAt Go.RowKit Go.Sort
open Fl (V nn fin rg sg U IsOrd)
set_option linter.unusedVariables false

theorem sooner_q (a b : Nat) (ha : a < 2 ^ 64) (hb : b < 2 ^ 64) (w : World) :
    Calls Try.prog 16 #[.float .f64 a, .float .f64 b] w fun e w' => e = .returned (.bool (Fl.soon a b)) ∧ w' = w :=
  (sooner_any a b ha hb w).mono fun _ _ ⟨h1, h2⟩ => ⟨h1, h2.symm⟩

theorem info_bool : (Try.prog.info? 4).map (fun i => (i.zero, i.size, i.bytes)) = some (some (.bool false), 1, 1) := by kernel_rfl
theorem make_bools (n : Nat) (h : n ≤ 20) (w : World) : (Instr.makeSlice 38 (.int .i64 (n : Int)) (.int .i64 (n : Int))).run Try.prog w = .ok (.slice (some ⟨w.heap.size, 0, none⟩) n n) (w.alloc (.cells (madeCells #[.bool false] n) 4)) := by
  obtain ⟨i0, hi, hz0, hz1, hz2⟩ := info_parts info_bool
  have := run_make (P := Try.prog) w 38 4 i0 (.bool false) Try.underlying38 hi hz0 .i64 .i64 (n : Int) (n : Int) (by omega) (Int.le_refl _) (by rw [hz2]; omega) (by omega)
  rw [hz1] at this
  simpa [Value.cells] using this

/-- which places have stood among the first k -/
def hadL (n k : Nat) (o : List Nat) : List Value := (List.range n).map fun j => .bool (decide (j ∈ o.take k))
theorem hadL_get (n k : Nat) (o : List Nat) (j : Nat) (h : j < n) : (hadL n k o)[j]? = some (.bool (decide (j ∈ o.take k))) := by
  unfold hadL; rw [List.getElem?_map, List.getElem?_range h]; rfl
theorem hadL_0 (n : Nat) (o : List Nat) : (madeCells #[.bool false] n).toList = hadL n 0 o := by
  rw [toList_madeCells_one]
  apply List.ext_getElem
  · simp [hadL]
  · intro i h1 h2; simp [hadL]
theorem hadL_set (n k : Nat) (o : List Nat) (hk : k < o.length) (hx : o.getD k 0 < n) : (hadL n k o).set (o.getD k 0) (.bool true) = hadL n (k + 1) o := by
  have e : o.take (k + 1) = o.take k ++ [o.getD k 0] := by
    rw [List.take_add_one, List.getElem?_eq_getElem hk]; simp [hk]
  apply List.ext_getElem?
  intro j
  rw [List.getElem?_set]
  by_cases hj : j < n
  · rw [hadL_get n (k + 1) o j hj, e]
    by_cases c : o.getD k 0 = j
    · subst c
      rw [if_pos rfl, if_pos (by simpa [hadL] using hx)]; simp
    · rw [if_neg c, hadL_get n k o j hj]
      congr 2
      rw [decide_eq_decide, List.mem_append, List.mem_singleton]
      exact ⟨Or.inl, fun h => h.resolve_right (Ne.symm c)⟩
  · have e1 : (hadL n (k + 1) o)[j]? = none := List.getElem?_eq_none (by simp [hadL]; omega)
    have e2 : (hadL n k o)[j]? = none := List.getElem?_eq_none (by simp [hadL]; omega)
    rw [e1, e2, if_neg (by omega)]

theorem not_yet {ds o : List Nat} (h : IsOrd ds o) (k : Nat) (hk : k < o.length) : decide (o.getD k 0 ∈ o.take k) = false := by
  refine decide_eq_false fun hm => ?_
  obtain ⟨j, hj, e⟩ := List.getElem_of_mem hm
  rw [List.length_take] at hj
  rw [List.getElem_take] at e
  have : o.getD k 0 = o[k] := by simp [hk]
  rw [this] at e
  have := (List.getElem_inj h.nodup).1 e
  omega
theorem place_lt {ds o : List Nat} (h : IsOrd ds o) (k : Nat) (hk : k < o.length) : o.getD k 0 < ds.length := by
  have : o.getD k 0 = o[k] := by simp [hk]
  rw [this]; exact h.lt (List.getElem_mem hk)
theorem pair {ds o : List Nat} (h : IsOrd ds o) (j k : Nat) (hjk : j < k) (hk : k < o.length) : Fl.before ds (o.getD j 0) (o.getD k 0) := by
  have e1 : o.getD k 0 = o[k] := by simp [hk]
  have e2 : o.getD j 0 = o[j] := by simp [show j < o.length by omega]
  rw [e1, e2]
  exact List.pairwise_iff_getElem.1 h.sorted j k (by omega) hk hjk

set_option maxHeartbeats 2500000 in
set_option maxRecDepth 100000 in
theorem walk (s0 : Value) (a0 : List Int) (s1 : Value) (a1 : List Nat) (w : World) (w0 : CameI .i64 w s0 a0) (w1 : CameF w s1 a1) :
    Calls Try.prog 5 #[s0, s1] w fun e w' => e = .returned (.bool true) ∧ Below w.heap.size w w' := by
  obtain ⟨L, hL⟩ : ∃ L, L = min a0.length 20 := ⟨_, rfl⟩
  have hL20 : L ≤ 20 := by omega
  obtain ⟨ds, hds⟩ : ∃ ds, ds = fls a0 a1 L := ⟨_, rfl⟩
  have hlen : ds.length = L := by rw [hds]; exact fls_len _ _ _
  have hlt : ∀ k, ds.getD k 0 < 2 ^ 64 := fun k => by rw [hds]; exact fls_lt _ _ (by obtain ⟨_, _, _, _, _, h, _⟩ := w1; exact h) _ _
  have hfl := floats_any s0 s1 a0 a1 w w0 w1
  rw [← hL, ← hds] at hfl
  clear hL hds w0 w1
  have HL : Aside (ds.length = L) := hlen
  have HT : Aside (∀ k, ds.getD k 0 < 2 ^ 64) := hlt
  clear hlen hlt
  go_enter Try.func5, Try.ntmps5
  go_wp2_with fail
  refine hfl.mono ?_
  rintro e w1 ⟨vd, rfl, hown, hb1⟩
  clear hfl
  have hF := frow_own hown HL.out
  have hvd : ∃ ad cd, vd = .slice ad L cd := by
    rcases hown.2 with ⟨rfl, h⟩ | ⟨g, cap, _, rfl, _⟩
    · exact ⟨none, 0, by rw [h]⟩
    · exact ⟨_, cap, rfl⟩
  obtain ⟨ad, cd, rfl⟩ := hvd
  have HF : Aside (FRow w1 (.slice ad L cd) ds) := hF
  have HB1 : Aside (Below w.heap.size w w1) := hb1
  clear hown hF hb1
  go_wp2_with fail
  refine (order_any _ ds _ HF.out (by rw [HL.out]; omega) HT.out).mono ?_
  rintro e w2 ⟨o, vo, ho, rfl, hp, hb2⟩
  have HO : Aside (IsOrd ds o) := ho
  have HOL : Aside (o.length = L) := by show _ = _; rw [ho.length]; exact HL.out
  have HP : Aside (PRow w1.heap.size w2 vo o) := hp
  have HB2 : Aside (Below w1.heap.size w1 w2) := hb2
  have hvo : ∃ go co, vo = .slice (some ⟨go, 0, none⟩) L co := by obtain ⟨g, cap, h, _⟩ := hp; exact ⟨g, cap, by rw [← HOL.out]; exact h⟩
  obtain ⟨go, co, rfl⟩ := hvo
  clear ho hp hb2
  go_wp2_with fail
  refine (known_any _).mono ?_
  rintro e w3 ⟨rfl, hb3⟩
  have HB3 : Aside (Below w2.heap.size w2 w3) := hb3
  clear hb3
  have hmk := make_bools L hL20
  go_wp2
  have HC : Aside (go < w3.heap.size ∧ ∀ k, k < L → w3.cell? ⟨go, k, none⟩ = some (.int .i64 ((o.getD k 0 : Nat) : Int))) := by
    obtain ⟨g, cap, h, _, h2, h3⟩ := HP.out
    have hg : go = g := by simpa [Value.ownBlock] using congrArg Value.ownBlock h
    subst hg
    refine ⟨Nat.lt_of_lt_of_le h2 HB3.out.size, fun k hk => ?_⟩
    rw [HB3.out.cell h2]
    exact h3 k (by rw [HOL.out]; exact hk)
  have HD : Aside (∀ k, k < L → ∃ gd, ad = some ⟨gd, 0, none⟩ ∧ gd < w3.heap.size ∧ ∀ j, j < L → w3.cell? ⟨gd, j, none⟩ = some (.float .f64 (ds.getD j 0))) := by
    intro k hk
    rcases HF.out with ⟨h, _⟩ | ⟨_, g, cap, h, h2, h3⟩
    · exfalso
      have := HL.out
      rw [h] at this
      simp at this; omega
    · refine ⟨g, by simpa using (by injection h : ad = some ⟨g, 0, none⟩), Nat.lt_of_lt_of_le (Nat.lt_of_lt_of_le h2 HB2.out.size) HB3.out.size, fun j hj => ?_⟩
      rw [HB3.out.cell (Nat.lt_of_lt_of_le h2 HB2.out.size), HB2.out.cell h2]
      exact h3 j (by rw [HL.out]; exact hj)
  clear hmk
  go_loopg [29] L (fun gk vi wr => ∃ k : Nat, vi = .int .i64 k ∧ k ≤ L ∧ L - k ≤ gk ∧ Aside (Below w3.heap.size w3 wr ∧ wr.ownsRow w3.heap.size 4 1 (.slice (some ⟨w3.heap.size, 0, none⟩) L L) L (hadL L k o)))
  case atStart =>
    refine ⟨0, rfl, by omega, by omega, (Below.refl _ _).alloc (Nat.le_refl _) _, ?_⟩
    rw [← hadL_0]
    exact World.ownsRow_lit w3 _ L (Nat.le_refl _) (by unfold maxLen; omega) (by rw [size_madeCells]; simp)
  case round =>
    obtain ⟨k, rfl, hk, hg, HR⟩ := hrel
    by_cases hltk : k < L
    · have z1 : (k : Int) < (L : Int) := by omega
      obtain ⟨gd, rfl, hgd, hcd⟩ := HD.out k hltk
      have HCD : Aside _ := hcd
      clear hcd
      have hxl : o.getD k 0 < L := by rw [← HL.out]; exact place_lt HO.out k (by rw [HOL.out]; exact hltk)
      have c1 : wr.cell? ⟨go, k, none⟩ = some (.int .i64 ((o.getD k 0 : Nat) : Int)) := (HR.out.1.cell HC.out.1).trans (HC.out.2 k hltk)
      have c2 : wr.cell? ⟨w3.heap.size, o.getD k 0, none⟩ = some (.bool false) := by
        rw [HR.out.2.cellAt _ (by omega), hadL_get _ _ _ _ hxl, not_yet HO.out k (by rw [HOL.out]; exact hltk)]
      have f2 := HR.out.2.frozenAt (o.getD k 0)
      obtain ⟨x, hx⟩ : ∃ x, x = o.getD k 0 := ⟨_, rfl⟩
      rw [← hx] at hxl c1 c2 f2
      have HX : Aside (x = o.getD k 0) := hx
      clear hx
      have z2 : (x : Int) < (L : Int) := by omega
      have zd1 : decide ((x : Int) < 0) = false := decide_eq_false (by omega)
      have zd2 : decide (L ≤ x) = false := decide_eq_false (by omega)
      go_wp2
      clear c1 c2 f2 zd1 zd2
      have HQ : Aside (Below w3.heap.size w3 (wr.setCell ⟨w3.heap.size, x, none⟩ (.bool true)) ∧ (wr.setCell ⟨w3.heap.size, x, none⟩ (.bool true)).ownsRow w3.heap.size 4 1 (.slice (some ⟨w3.heap.size, 0, none⟩) L L) L (hadL L (k + 1) o)) := by
        refine ⟨HR.out.1.setCell (Nat.le_refl _) _, ?_⟩
        rw [← hadL_set L k o (by rw [HOL.out]; exact hltk) (by rw [← HX.out]; exact hxl), ← HX.out]
        exact (HR.out.2.stored x _).1
      clear HR
      generalize wr.setCell ⟨w3.heap.size, x, none⟩ (.bool true) = wq at HQ ⊢
      go_loopg [9] k (fun g2 vj wr2 => ∃ j q : Nat, vj = .int .i64 j ∧ j ≤ k ∧ k - j ≤ g2 ∧ Aside (wr2 = wq.drewN q))
      case atStart => exact ⟨0, 0, rfl, by omega, by omega, rfl⟩
      case round =>
        obtain ⟨j, q, rfl, hj, hg2, HW⟩ := hrel
        by_cases hltj : j < k
        · have y1 : (j : Int) < (k : Int) := by omega
          have hyl : o.getD j 0 < L := by rw [← HL.out]; exact place_lt HO.out j (by rw [HOL.out]; omega)
          have hbf := pair HO.out j k hltj (by rw [HOL.out]; exact hltk)
          obtain ⟨y, hy⟩ : ∃ y, y = o.getD j 0 := ⟨_, rfl⟩
          rw [← hy] at hyl hbf
          rw [← HX.out] at hbf
          have y2 : (y : Int) < (L : Int) := by omega
          have y3 : (j : Int) < (L : Int) := by omega
          have base : ∀ a : Addr, a.block < w3.heap.size → wr.cell? a = w3.cell? a := fun a ha => by rw [HW.out]; exact HQ.out.1.cell ha
          have c1 : wr.cell? ⟨go, k, none⟩ = some (.int .i64 (x : Int)) := by rw [base _ HC.out.1, HC.out.2 k hltk, ← HX.out]
          have c2 : wr.cell? ⟨go, j, none⟩ = some (.int .i64 (y : Int)) := by rw [base _ HC.out.1, HC.out.2 j (by omega), ← hy]
          have c3 : wr.cell? ⟨gd, x, none⟩ = some (.float .f64 (ds.getD x 0)) := by rw [base _ hgd, HCD.out x hxl]
          have c4 : wr.cell? ⟨gd, y, none⟩ = some (.float .f64 (ds.getD y 0)) := by rw [base _ hgd, HCD.out y hyl]
          have l1 := HT.out x
          have l2 := HT.out y
          have s1 : Fl.soon (ds.getD x 0) (ds.getD y 0) = false := decide_eq_false (by unfold Fl.before at hbf; omega)
          have s2 : Fl.soon (ds.getD y 0) (ds.getD x 0) = false → y < x := fun h => by
            have h := of_decide_eq_false h
            unfold Fl.before at hbf; omega
          have S2 : Aside _ := s2
          clear base hy hbf s2
          generalize ds.getD x 0 = dx at c3 l1 s1 S2
          generalize ds.getD y 0 = dy at c4 l2 s1 S2
          cases s3 : Fl.soon dy dx
          · have hyx := S2.out s3
            have zz : decide ((x : Int) < (y : Int)) = false := decide_eq_false (by omega)
            have zz2 : ¬ (x : Int) < (y : Int) := by omega
            have q1 : ∀ W : World, Calls Try.prog 16 #[.float .f64 dx, .float .f64 dy] W fun e w' => e = .returned (.bool false) ∧ w' = W := fun W => by
              have := sooner_q dx dy l1 l2 W
              rwa [s1] at this
            have q2 : ∀ W : World, Calls Try.prog 16 #[.float .f64 dy, .float .f64 dx] W fun e w' => e = .returned (.bool false) ∧ w' = W := fun W => by
              have := sooner_q dy dx l2 l1 W
              rwa [s3] at this
            clear l1 l2 s1 s3
            go_wp2_with fail
            go_big_quiet (first | (go_at_call 16; with_reducible exact Calls.quiet_of_same (q1 _)) | (go_at_call 16; with_reducible exact Calls.quiet_of_same (q2 _)))
            go_wp2
            go_roundg (k - (j + 1))
            case measure => omega
            case rel => exact ⟨j + 1, q + nq, by go_num, by omega, Nat.le_refl _, by show _ = _; rw [HW.out, World.drewN_drewN]⟩
          · skip
            have q1 : ∀ W : World, Calls Try.prog 16 #[.float .f64 dx, .float .f64 dy] W fun e w' => e = .returned (.bool false) ∧ w' = W := fun W => by
              have := sooner_q dx dy l1 l2 W
              rwa [s1] at this
            have q2 : ∀ W : World, Calls Try.prog 16 #[.float .f64 dy, .float .f64 dx] W fun e w' => e = .returned (.bool true) ∧ w' = W := fun W => by
              have := sooner_q dy dx l2 l1 W
              rwa [s3] at this
            clear l1 l2 s1 s3
            go_wp2_with fail
            go_big_quiet (first | (go_at_call 16; with_reducible exact Calls.quiet_of_same (q1 _)) | (go_at_call 16; with_reducible exact Calls.quiet_of_same (q2 _)))
            go_wp2
            go_roundg (k - (j + 1))
            case measure => omega
            case rel => exact ⟨j + 1, q + nq, by go_num, by omega, Nat.le_refl _, by show _ = _; rw [HW.out, World.drewN_drewN]⟩
        · obtain rfl : j = k := by omega
          have y1 : ¬ (j : Int) < (j : Int) := by omega
          go_wp2
          go_roundg (L - (j + 1))
          case measure => omega
          case rel => exact ⟨j + 1, by go_num, by omega, Nat.le_refl _, by rw [HW.out]; exact below_drewN HQ.out.1 _, by rw [HW.out]; exact HQ.out.2⟩
    · obtain rfl : k = L := by omega
      have z1 : ¬ (k : Int) < (k : Int) := by omega
      go_wp2
      go_ret
      exact ⟨rfl, (HB1.out.trans (HB2.out.mono HB1.out.size)).trans ((HB3.out.mono (Nat.le_trans HB1.out.size HB2.out.size)).trans (HR.out.1.mono (Nat.le_trans HB1.out.size (Nat.le_trans HB2.out.size HB3.out.size))))⟩

set_option maxRecDepth 100000 in
theorem lifted (os : Os) (started : os.Started) (H : Type) (enc : TypeId × Value → H) :
    ReturnsInHanded {} Try.checked os 5 .any (Rows.viewOrdersSpec.pre6 enc Try.prog Try.f5 Rows.viewOrdersRow.domain false) (Rows.viewOrdersSpec.post enc Try.prog Try.f5 false true false false) := by
  refine returnsInHanded_of_change (C := Try.checked) own started (by kernel_rfl) Try.func5
    (ChangeSpec.witness6 (enc := enc) (C := Try.checked) false ⟨#[], #[.slice none 0 0, .slice none 0 0], []⟩ 8 (by kernel_rfl) (by kernel_rfl) (by kernel_rfl) (by kernel_rfl)) ?_
  intro W base args ds gs before hval0 hW hcnd _
  have hval : ∀ (j : Nat) t v, Try.f5.params[j]? = some t → args[j]? = some v → Value.okWide Try.prog W .any base t v := hval0
  have hW' := hW
  obtain ⟨p, q, hA0, hV, rfl, hfz, hnd⟩ := hW
  have hA : DataW.TrodAll enc Try.prog W 0 (fun _ => true) true Try.f5.params.toList args.toList ds p := hA0
  rw [Try.params5] at hA hval
  obtain ⟨v0, vs0, d0, ds0, p0, q0, hargs, rfl, rfl, h0, r0⟩ := trodAll_cons hA
  obtain ⟨v1, vs1, d1, ds1, p1, q1, rfl, rfl, rfl, h1, r1⟩ := trodAll_cons r0
  obtain ⟨rfl, rfl, rfl⟩ := trodAll_nil r1
  obtain rfl : args = #[v0, v1] := by cases args; simp_all
  obtain ⟨rfl, rfl⟩ := trodVars_none hV
  obtain ⟨e0, len0, cap0, rfl⟩ := okWide_slice Try.underlying32 (hval 0 32 v0 rfl rfl)
  have k0 := h0
  have lt0 : ∀ x ∈ p0, x.block < W.heap.size := by obtain ⟨m, hm⟩ := k0; exact DataW.trod_lt m _ _ _ hm
  obtain ⟨a0, w0⟩ := came_i Try.underlying32 Try.underlying3 (by kernel_rfl) h0
  obtain ⟨e1, len1, cap1, rfl⟩ := okWide_slice Try.underlying34 (hval 1 34 v1 rfl rfl)
  have k1 := h1
  have lt1 : ∀ x ∈ p1, x.block < W.heap.size := by obtain ⟨m, hm⟩ := k1; exact DataW.trod_lt m _ _ _ hm
  obtain ⟨a1, w1⟩ := came_f Try.underlying34 Try.underlying22 (by kernel_rfl) h1
  clear hA0 hval0
  refine (walk _ a0 _ a1 W w0 w1).mono fun e W' ⟨he, bel⟩ => ?_
  subst he
  exact ⟨_, rfl, _, _, _, [], _, [], hW', trodAll_mk1 (shut_bool Try.underlying4 _), (trodAll_cons_mk (Below.trod laidOut (by kernel_rfl) (of_decide_eq_true (by kernel_rfl)) k0 bel lt0) (trodAll_cons_mk (Below.trod laidOut (by kernel_rfl) (of_decide_eq_true (by kernel_rfl)) k1 bel lt1) trodAll_mk0)), rfl, bel.frame _, fun h => by cases h⟩

theorem over : Rows.viewOrdersRow.holds Try.pinned (OpenSpec.ofChange Rows.viewOrdersSpec) :=
  OpenClaim.holds_of_wide 5 Try.f5 rfl rfl rfl rfl rfl rfl rfl ⟨rfl, rfl, rfl, rfl, rfl⟩ rfl rfl rfl rfl rfl (by kernel_rfl) Try.func5 (by kernel_rfl)
    (of_decide_eq_true (by kernel_rfl)) (by unfold Func.isWrapper; first | (rw [if_pos (by decide +kernel)]; kernel_rfl) | (rw [if_neg (by decide +kernel)]; exact ⟨rfl, rfl⟩))
    (fun os started H enc _ => lifted os started H enc)

/-- THE STATEMENT -/
theorem proved : Rows.ViewOrdersSaid := over
end Go.Proofs.Ytpcmeajphfifiaa.viewOrders

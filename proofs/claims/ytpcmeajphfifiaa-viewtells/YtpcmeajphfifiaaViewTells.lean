/- Proved: ViewTells returns true for every input. No condition. -/
import Derived.Test.YtpcmeajphfifiaaRefOrder
namespace Go.Proofs.Ytpcmeajphfifiaa.viewTells
open Go.ChangeShapes Go.WideShapes Go.ChangeAt Go.RowKit Go.Sort
open Fl (V nn fin rg sg U IsOrd)
set_option linter.unusedVariables false

theorem lt_of_wf {x : Nat} (h : (Lit.float .f64 x).wf = true) : x < 18446744073709551616 := by
  simpa [Lit.wf] using h

set_option maxHeartbeats 2000000 in
set_option maxRecDepth 100000 in
theorem rorder_0 (a : Option Addr) (cap : Nat) (w : World) :
    Calls Try.prog 24 #[.slice a 0 cap] w fun e w' => e = .returned (.slice none 0 0) ∧ w = w' := by
  go_enter Try.func24, Try.ntmps24
  go_wp2
  refine wp_loop_rounds 1 ?_
  rw [rounds_succ]
  go_wp2
  go_ret
  exact ⟨rfl, rfl⟩

theorem nrow_ints {w : World} {base : Nat} {e : TypeId} {v : Value} {n : Nat} {xs : List Nat} (h : w.ownsRow base e 1 v n (intsN xs)) (hl : xs.length = n) : NRow w v xs := by
  rcases h.2 with ⟨rfl, h0⟩ | ⟨g, cap, cur, rfl, h1, h2, h3, h4, h5, h6⟩
  · exact Or.inl ⟨List.eq_nil_of_length_eq_zero (by omega), _, _, rfl⟩
  · refine Or.inr ⟨g, cap, by rw [hl], fun k hk => ?_⟩
    rw [World.ownsRow.cellAt h k (by omega)]
    unfold intsN
    rw [List.getElem?_map, List.getElem?_eq_getElem hk]
    simp [hk]

theorem rorder_any (v : Value) (ds : List Nat) (w : World) (h : FRow w v ds) (hn : ds.length ≤ 20) (hlt : ∀ k, ds.getD k 0 < 2 ^ 64) :
    Calls Try.prog 24 #[v] w fun e w' => ∃ o v, IsOrd ds o ∧ e = .returned v ∧ NRow w' v o ∧ Below w.heap.size w w' := by
  rcases h with ⟨rfl, a, cap, rfl⟩ | ⟨hne, g, cap, rfl, hg, hc⟩
  · exact (rorder_0 a cap w).mono fun e w' ⟨h1, h2⟩ => ⟨[], _, Fl.isOrd_nil, h1, Or.inl ⟨rfl, _, _, rfl⟩, by rw [← h2]; exact Below.refl _ _⟩
  · exact (rorder_pos ds ds.length rfl hn hlt w g cap hg hc).mono fun e w' ⟨o, v, h1, h2, h3, h4⟩ => ⟨o, v, h1, h2, nrow_ints h3 h1.length, h4⟩

theorem CameI.below {k : IntKind} {w w' : World} {v : Value} {zs : List Int} (h : CameI k w v zs) (hb : Below w.heap.size w w') : CameI k w' v zs := by
  obtain ⟨a, cap, h1, h2, h3, h4, h5⟩ := h
  refine ⟨a, cap, h1, h2, h3, h4, ?_⟩
  rcases h5 with h5 | ⟨b, off, h5, h6, h7⟩
  · exact Or.inl h5
  · exact Or.inr ⟨b, off, h5, Nat.lt_of_lt_of_le h6 hb.size, fun i hi => (hb.cell h6).trans (h7 i hi)⟩
theorem CameF.below {w w' : World} {v : Value} {zs : List Nat} (h : CameF w v zs) (hb : Below w.heap.size w w') : CameF w' v zs := by
  obtain ⟨a, cap, h1, h2, h3, h4, h5⟩ := h
  refine ⟨a, cap, h1, h2, h3, h4, ?_⟩
  rcases h5 with h5 | ⟨b, off, h5, h6, h7⟩
  · exact Or.inl h5
  · exact Or.inr ⟨b, off, h5, Nat.lt_of_lt_of_le h6 hb.size, fun i hi => (hb.cell h6).trans (h7 i hi)⟩
theorem PRow.below {B : Nat} {w w' : World} {v : Value} {o : List Nat} (h : PRow B w v o) (hb : Below w.heap.size w w') : PRow B w' v o := by
  obtain ⟨g, c, h1, h2, h3, h4⟩ := h
  exact ⟨g, c, h1, h2, Nat.lt_of_lt_of_le h3 hb.size, fun k hk => (hb.cell h3).trans (h4 k hk)⟩

set_option maxHeartbeats 4000000 in
set_option maxRecDepth 100000 in
theorem walk (a0 : Int) (a1 : Int) (a2 : Int) (a3 : Nat) (a4 : Nat) (a5 : Nat) (s6 : Value) (a6 : List Int) (s7 : Value) (a7 : List Nat) (w : World) (w0 : (Lit.int .i64 a0).wf = true) (w1 : (Lit.int .i64 a1).wf = true) (w2 : (Lit.int .i64 a2).wf = true) (w3 : (Lit.float .f64 a3).wf = true) (w4 : (Lit.float .f64 a4).wf = true) (w5 : (Lit.float .f64 a5).wf = true) (w6 : CameI .i64 w s6 a6) (w7 : CameF w s7 a7) :
    Calls Try.prog 4 #[.int .i64 a0, .int .i64 a1, .int .i64 a2, .float .f64 a3, .float .f64 a4, .float .f64 a5, s6, s7] w fun e w' => e = .returned (.bool true) ∧ Below w.heap.size w w' := by
  have l3 := lt_of_wf w3
  have l4 := lt_of_wf w4
  have l5 := lt_of_wf w5
  obtain ⟨ds, hds⟩ : ∃ ds, ds = fls a6 a7 (min a6.length 20) := ⟨_, rfl⟩
  have HLN : Aside (ds.length ≤ 20) := by show _ ≤ _; rw [hds, fls_len]; omega
  have HLT : Aside (∀ k, ds.getD k 0 < 2 ^ 64) := fun k => by rw [hds]; exact fls_lt _ _ (by obtain ⟨_, _, _, _, _, h, _⟩ := w7; exact h) _ _
  have HFL : Aside (∀ W, Below w.heap.size w W → Calls Try.prog 23 #[s6, s7] W fun e w' => ∃ v, e = .returned v ∧ FRow w' v ds ∧ Below W.heap.size W w') := fun W hW =>
    (floats_any s6 s7 a6 a7 W (CameI.below w6 hW) (CameF.below w7 hW)).mono fun e w' ⟨v, h1, h2, h3⟩ => ⟨v, h1, by rw [hds]; exact frow_own h2 (fls_len _ _ _), h3⟩
  clear w0 w1 w2 w3 w4 w5 w6 w7 hds
  go_enter Try.func4, Try.ntmps4
  go_wp2_with fail
  refine (handf_any _ _ l3 _).mono ?_
  rintro e w' ⟨p, lp, rfl, rfl⟩
  go_wp2_with fail
  refine (handf_any _ _ l4 _).mono ?_
  rintro e w' ⟨q, lq, rfl, rfl⟩
  go_wp2_with fail
  refine (handf_any _ _ l5 _).mono ?_
  rintro e w' ⟨t, lt, rfl, rfl⟩
  clear l3 l4 l5
  have k1 := alk_self (Fl.btw p q t)
  go_wp2_with fail
  refine (known_any _).mono ?_
  rintro e w1 ⟨rfl, hb⟩
  have HB1 : Aside (Below w.heap.size w w1) := hb
  clear hb
  go_wp2_with (first
    | (go_at_call 14; refine (between_any _ _ _ lp lq _).mono ?_; rintro e w' ⟨rfl, rfl⟩)
    | (go_at_call 21; refine (rbetween_any _ _ _ lp _).mono ?_; rintro e w' ⟨rfl, rfl⟩)
    | (go_at_call 20; refine (alike_any _ _ _).mono ?_; rintro e w' ⟨rfl, rfl⟩)
    | (go_at_call 16; refine (sooner_any _ _ lp lq _).mono ?_; rintro e w' ⟨rfl, rfl⟩)
    | (go_at_call 22; refine (rsooner_any _ _ lp lq _).mono ?_; rintro e w' ⟨rfl, rfl⟩))
  refine (HFL.out _ HB1.out).mono ?_
  rintro e w2 ⟨v2, rfl, f2, hb⟩
  have F2 : Aside (FRow w2 v2 ds) := f2
  have HB2 : Aside (Below w1.heap.size w1 w2) := hb
  clear f2 hb
  go_wp2_with fail
  refine (order_any _ ds _ F2.out (Nat.le_trans HLN.out (by decide)) HLT.out).mono ?_
  rintro e w3 ⟨o, vo, ho, rfl, hp, hb⟩
  have HO : Aside (IsOrd ds o) := ho
  have HP : Aside (PRow w2.heap.size w3 vo o) := hp
  have HB3 : Aside (Below w2.heap.size w2 w3) := hb
  clear ho hp hb
  go_wp2_with fail
  refine (HFL.out _ (below_step (below_step HB1.out HB2.out) HB3.out)).mono ?_
  rintro e w4 ⟨v4, rfl, f4, hb⟩
  have F4 : Aside (FRow w4 v4 ds) := f4
  have HB4 : Aside (Below w3.heap.size w3 w4) := hb
  clear f4 hb
  go_wp2_with fail
  refine (rorder_any _ ds _ F4.out HLN.out HLT.out).mono ?_
  rintro e w5 ⟨o5, v5, ho, rfl, hn, hb⟩
  obtain rfl := ho.unique HO.out
  have HN : Aside (NRow w5 v5 o5) := hn
  have HB5 : Aside (Below w4.heap.size w4 w5) := hb
  clear ho hn hb
  go_wp2_with fail
  refine (same_any _ _ o5 (by rw [HO.out.length]; have := HLN.out; omega) _ (PRow.below HP.out (below_step HB4.out HB5.out)).n HN.out).mono ?_
  rintro e w6 ⟨rfl, q6, rfl⟩
  go_wp2
  go_ret
  refine ⟨rfl, below_drewN ?_ _⟩
  exact below_step (below_step (below_step (below_step HB1.out HB2.out) HB3.out) HB4.out) HB5.out

set_option maxRecDepth 100000 in
theorem lifted (os : Os) (started : os.Started) (H : Type) (enc : TypeId × Value → H) :
    ReturnsInHanded {} Try.checked os 4 .any (Rows.viewTellsSpec.pre6 enc Try.prog Try.f4 Rows.viewTellsRow.domain false) (Rows.viewTellsSpec.post enc Try.prog Try.f4 false true false false) := by
  refine returnsInHanded_of_change (C := Try.checked) own started (by kernel_rfl) Try.func4
    (ChangeSpec.witness6 (enc := enc) (C := Try.checked) false ⟨#[], #[.int .i64 0, .int .i64 0, .int .i64 0, .float .f64 0, .float .f64 0, .float .f64 0, .slice none 0 0, .slice none 0 0], []⟩ 8 (by kernel_rfl) (by kernel_rfl) (by kernel_rfl) (by kernel_rfl)) ?_
  intro W base args ds gs before hval0 hW hcnd _
  have hval : ∀ (j : Nat) t v, Try.f4.params[j]? = some t → args[j]? = some v → Value.okWide Try.prog W .any base t v := hval0
  have hW' := hW
  obtain ⟨p, q, hA0, hV, rfl, hfz, hnd⟩ := hW
  have hA : DataW.TrodAll enc Try.prog W 0 (fun _ => true) true Try.f4.params.toList args.toList ds p := hA0
  rw [Try.params4] at hA hval
  obtain ⟨v0, vs0, d0, ds0, p0, q0, hargs, rfl, rfl, h0, r0⟩ := trodAll_cons hA
  obtain ⟨v1, vs1, d1, ds1, p1, q1, rfl, rfl, rfl, h1, r1⟩ := trodAll_cons r0
  obtain ⟨v2, vs2, d2, ds2, p2, q2, rfl, rfl, rfl, h2, r2⟩ := trodAll_cons r1
  obtain ⟨v3, vs3, d3, ds3, p3, q3, rfl, rfl, rfl, h3, r3⟩ := trodAll_cons r2
  obtain ⟨v4, vs4, d4, ds4, p4, q4, rfl, rfl, rfl, h4, r4⟩ := trodAll_cons r3
  obtain ⟨v5, vs5, d5, ds5, p5, q5, rfl, rfl, rfl, h5, r5⟩ := trodAll_cons r4
  obtain ⟨v6, vs6, d6, ds6, p6, q6, rfl, rfl, rfl, h6, r6⟩ := trodAll_cons r5
  obtain ⟨v7, vs7, d7, ds7, p7, q7, rfl, rfl, rfl, h7, r7⟩ := trodAll_cons r6
  obtain ⟨rfl, rfl, rfl⟩ := trodAll_nil r7
  obtain rfl : args = #[v0, v1, v2, v3, v4, v5, v6, v7] := by cases args; simp_all
  obtain ⟨rfl, rfl⟩ := trodVars_none hV
  obtain ⟨a0, rfl, rfl, rfl, w0⟩ := open_int Try.underlying3 (hval 0 3 v0 rfl rfl) h0
  obtain ⟨a1, rfl, rfl, rfl, w1⟩ := open_int Try.underlying3 (hval 1 3 v1 rfl rfl) h1
  obtain ⟨a2, rfl, rfl, rfl, w2⟩ := open_int Try.underlying3 (hval 2 3 v2 rfl rfl) h2
  obtain ⟨a3, rfl, rfl, rfl, w3⟩ := open_float Try.underlying22 (hval 3 22 v3 rfl rfl) h3
  obtain ⟨a4, rfl, rfl, rfl, w4⟩ := open_float Try.underlying22 (hval 4 22 v4 rfl rfl) h4
  obtain ⟨a5, rfl, rfl, rfl, w5⟩ := open_float Try.underlying22 (hval 5 22 v5 rfl rfl) h5
  obtain ⟨e6, len6, cap6, rfl⟩ := okWide_slice Try.underlying32 (hval 6 32 v6 rfl rfl)
  have k6 := h6
  have lt6 : ∀ x ∈ p6, x.block < W.heap.size := by obtain ⟨m, hm⟩ := k6; exact DataW.trod_lt m _ _ _ hm
  obtain ⟨a6, w6⟩ := came_i Try.underlying32 Try.underlying3 (by kernel_rfl) h6
  obtain ⟨e7, len7, cap7, rfl⟩ := okWide_slice Try.underlying34 (hval 7 34 v7 rfl rfl)
  have k7 := h7
  have lt7 : ∀ x ∈ p7, x.block < W.heap.size := by obtain ⟨m, hm⟩ := k7; exact DataW.trod_lt m _ _ _ hm
  obtain ⟨a7, w7⟩ := came_f Try.underlying34 Try.underlying22 (by kernel_rfl) h7
  clear hA0 hval0
  refine (walk a0 a1 a2 a3 a4 a5 _ a6 _ a7 W w0 w1 w2 w3 w4 w5 w6 w7).mono fun e W' ⟨he, bel⟩ => ?_
  subst he
  exact ⟨_, rfl, _, _, _, [], _, [], hW', trodAll_mk1 (shut_bool Try.underlying4 _), (trodAll_cons_mk (shut_int Try.underlying3 w0) (trodAll_cons_mk (shut_int Try.underlying3 w1) (trodAll_cons_mk (shut_int Try.underlying3 w2) (trodAll_cons_mk (shut_float Try.underlying22 w3) (trodAll_cons_mk (shut_float Try.underlying22 w4) (trodAll_cons_mk (shut_float Try.underlying22 w5) (trodAll_cons_mk (Below.trod laidOut (by kernel_rfl) (of_decide_eq_true (by kernel_rfl)) k6 bel lt6) (trodAll_cons_mk (Below.trod laidOut (by kernel_rfl) (of_decide_eq_true (by kernel_rfl)) k7 bel lt7) trodAll_mk0)))))))), rfl, bel.frame _, fun h => by cases h⟩

theorem over : Rows.viewTellsRow.holds Try.pinned (OpenSpec.ofChange Rows.viewTellsSpec) :=
  OpenClaim.holds_of_wide 4 Try.f4 rfl rfl rfl rfl rfl rfl rfl ⟨rfl, rfl, rfl, rfl, rfl⟩ rfl rfl rfl rfl rfl (by kernel_rfl) Try.func4 (by kernel_rfl)
    (of_decide_eq_true (by kernel_rfl)) (by unfold Func.isWrapper; first | (rw [if_pos (by decide +kernel)]; kernel_rfl) | (rw [if_neg (by decide +kernel)]; exact ⟨rfl, rfl⟩))
    (fun os started H enc _ => lifted os started H enc)

/-- THE STATEMENT -/
theorem proved : Rows.ViewTellsSaid := over
end Go.Proofs.Ytpcmeajphfifiaa.viewTells

/- Proved: TagKeeps returns true, for every two keys, bytes, place and turn. No condition. -/
import Derived.Test.YtcfekpedaiemiaaTagK
import Derived.Test.YtcfekpedaiemiaaFew
import Derived.Test.YtcfekpedaiemiaaPick
import Derived.Test.YtcfekpedaiemiaaFrameB
namespace Go.Proofs.Ytcfekpedaiemiaa.tagKeeps
open Go.ChangeShapes Go.WideShapes Go.ChangeAt Go.RowKit Tag
set_option linter.unusedVariables false

theorem res_emod (a b : Int) : decide (res (a % 2147483647) = res b) = (a % 2147483647 == b % 2147483647) := by
  have h1 := res_cast (a % 2147483647)
  have h2 := res_cast b
  rw [Bool.eq_iff_iff, decide_eq_true_eq, beq_iff_eq]
  omega
theorem beq_nat (t : Nat) : ((t : Int) == 0) = decide (t = 0) := by
  rw [Bool.eq_iff_iff, decide_eq_true_eq, beq_iff_eq]; omega

set_option maxRecDepth 100000 in
set_option maxHeartbeats 800000 in
theorem walk (a0 : Int) (a1 : Int) (s2 : Value) (a2 : List Int) (a3 : Int) (a4 : Int) (w : World) (w0 : (Lit.int .i64 a0).wf = true) (w1 : (Lit.int .i64 a1).wf = true) (w2 : CameI .u8 w s2 a2) (w3 : (Lit.int .i64 a3).wf = true) (w4 : (Lit.int .u8 a4).wf = true) :
    Calls Try.prog 5 #[.int .i64 a0, .int .i64 a1, s2, .int .i64 a3, .int .u8 a4] w fun e w' => e = .returned (.bool true) ∧ Below w.heap.size w w' := by
  have hnot : ∀ (x : Bool) (w : World), (Op.unary .not (.bool x)).run Try.prog w = .ok (.bool (!x)) w := fun _ _ => rfl
  obtain ⟨bs0, -, hb0⟩ := came_bytes w2
  have r3 := wf_u8 w4
  obtain ⟨t, rfl⟩ : ∃ t : Nat, a4 = t := ⟨a4.toNat, by omega⟩
  have ht : t < 256 := by omega
  clear w0 w1 w2 w3 w4 r3
  have h8 := hb0.lt
  obtain ⟨va, vc, ev, hvc⟩ := hb0.form
  subst ev
  have HB : Hid _ := hb0
  clear hb0
  obtain ⟨bs, ebs⟩ : ∃ bs, bs0.take 300 = bs := ⟨_, rfl⟩
  have hl : bs.length ≤ 300 := by rw [← ebs, List.length_take]; omega
  have H8 : Hid (∀ x ∈ bs, x < 256) := by show ∀ x ∈ bs, x < 256; intro x hx; rw [← ebs] at hx; exact h8 x (List.mem_of_mem_take hx)
  have EB : Hid _ := ebs
  clear ebs h8
  obtain ⟨Z, eZ⟩ : ∃ Z, close a0 bs = Z := ⟨_, rfl⟩
  have hZ : Z.length = bs.length + 4 := by rw [← eZ, close_length]
  have HZ8 : Hid (∀ x ∈ Z, x < 256) := eZ ▸ close_lt a0 bs H8.out
  have opA : Hid (opens a0 Z = true) := eZ ▸ opens_self a0 bs H8.out
  have bdA : Hid (body a0 Z = bs) := by
    show body a0 Z = bs
    unfold body
    rw [opA.out, if_pos rfl, ← eZ, close_take]
  have opO : Hid (∀ k, opens k Z = decide (res k = res a0)) := by show ∀ k, _; intro k; rw [← eZ]; exact opens_other a0 k bs H8.out
  have opT : Hid (∀ i b, i < Z.length → b < 256 → opens a0 (Z.set i b) = decide (Z.getD i 0 = b)) := by show ∀ i b, _; rw [← eZ]; exact fun i b hi hb => opens_turn a0 bs i b H8.out hi hb
  have EZ : Hid _ := eZ
  clear eZ
  go_enter Try.func5, Try.ntmps5
  go_wp2_with fail
  refine (few_any _ bs0 300 w HB.out (by rw [EB.out]; omega)).mono ?_
  rintro e x1 ⟨v1, rfl, r1, o1⟩
  rw [EB.out] at r1
  have R1 : Hid _ := r1
  have O1 : Hid _ := o1
  obtain ⟨a1', c1', e1', -⟩ := (r1.readC H8.out).form
  subst e1'
  have RD1 : Hid _ := r1.read H8.out
  clear r1 o1
  go_wp2_with fail
  refine (close_any a0 _ bs x1 RD1.out (by omega)).mono ?_
  rintro e x2 ⟨v2, rfl, r2, o2⟩
  rw [EZ.out] at r2
  obtain ⟨g2, c2, rfl, b2, l2⟩ := r2.form (by omega)
  have R2 : Hid _ := r2.readC HZ8.out
  have O2 : Hid _ := o2
  clear r2 o2
  rw [hZ]
  go_wp2_with fail
  refine (known_any x2).mono ?_
  rintro e x3 ⟨rfl, o3⟩
  have O3 : Hid _ := o3
  clear o3
  go_wp2_with fail
  have rz3 := R2.out.only O3.out (by simp)
  rw [hZ] at rz3
  have R3 : Hid _ := rz3
  clear rz3
  refine (open_any a0 _ Z x3 R3.out (by omega)).mono ?_
  rintro e x4 ⟨v4, rfl, r4, o4⟩
  rw [bdA.out] at r4
  rw [opA.out]
  have O4 : Hid _ := o4
  have cv4 := (r4.read H8.out).conv
  have cv1 := (RD1.out.only ((O2.out.trans O3.out).trans o4) (by simp)).conv
  clear r4 o4
  obtain ⟨S, hS⟩ : ∃ S, str bs = S := ⟨_, rfl⟩
  rw [hS] at cv4 cv1
  have HS : Hid _ := hS
  clear hS
  go_wp2_with fail
  refine (pick_any _ _ (by omega) (by omega) _).mono ?_
  rintro e w' ⟨rfl, rfl⟩
  clear cv4 cv1
  have rz4 := R3.out.only O4.out (by simp)
  have R4 : Hid _ := rz4
  clear rz4
  go_wp2_with fail
  refine (open_any (a1 % 2147483647) _ Z x4 R4.out (by omega)).mono ?_
  rintro e x5 ⟨v5, rfl, r5, o5⟩
  rw [opO.out, res_emod]
  have O5 : Hid _ := o5
  have rz5 := R4.out.only o5 (by simp)
  have R5 : Hid _ := rz5
  clear r5 o5 rz5
  obtain ⟨q, hq⟩ : ∃ q, (a1 % 2147483647 == a0 % 2147483647) = q := ⟨_, rfl⟩
  rw [hq]
  go_wp2_with fail
  refine (pick_any _ _ (by omega) (by omega) _).mono ?_
  rintro e w' ⟨rfl, rfl⟩
  have A5 : Hid (RowB x5.heap.size (x5.alloc (.cells #[] 5)) (.slice (some ⟨x5.heap.size, 0, none⟩) 0 0) [] ∧ ReadB (x5.alloc (.cells #[] 5)) (.slice (some ⟨g2, 0, none⟩) (bs.length + 4) c2) Z) :=
    ⟨rowB_empty _ x5 (Nat.le_refl _), (R5.out.only ((Only.refl [] x5).alloc (.cells #[] 5)) (by simp)).read⟩
  go_wp2_with (at_builtin; refine app_bytes rfl _ _ rfl rfl rfl A5.out.1 A5.out.2 (by simp; omega) (by simp) ?_)
  intro v6 x6 A6
  have r6 : RowB x5.heap.size x6 v6 Z := by simpa [RowB] using A6.row
  obtain ⟨g6, c6, rfl, b6, l6⟩ := r6.form (by omega)
  have o6 : Only [] x5 x6 := ((Only.refl [] x5).alloc _).then A6.only (by simp [Value.ownBlock])
  rw [hZ] at r6 ⊢
  have R6 : Hid _ := r6
  have O6 : Hid _ := o6
  have HZ : Hid _ := hZ
  clear A6 A5 r6 o6 hq hZ
  go_wp2_with fail
  refine (pick_any _ _ (by omega) (by omega) _).mono ?_
  rintro e w' ⟨rfl, rfl⟩
  have p1 := Int.emod_nonneg a3 (show (bs.length : Int) + 4 ≠ 0 by omega)
  have p2 := Int.emod_lt_of_pos a3 (show (0 : Int) < (bs.length : Int) + 4 by omega)
  obtain ⟨j, hj⟩ : ∃ j : Nat, a3 % ((bs.length : Int) + 4) = j := ⟨(a3 % ((bs.length : Int) + 4)).toNat, by omega⟩
  rw [hj] at p2
  rw [hj]
  have hjl : j < Z.length := by rw [HZ.out]; omega
  clear hj p1
  obtain ⟨q1, q2⟩ := RowB.byte R6.out j hjl
  obtain ⟨x, hx⟩ : ∃ x, Z.getD j 0 = x := ⟨_, rfl⟩
  have hx8 : x < 256 := by rw [← hx]; exact HZ8.out _ (by simp [List.getD_eq_getElem?_getD, hjl])
  rw [hx] at q1
  have HX : Hid _ := hx
  have HJL : Hid _ := hjl
  clear hx hjl
  have hxor := u8_xor_nat x t hx8 ht
  go_wp2_with fail
  have T := RowB.turn R6.out j (x ^^^ t)
  have hxt : x ^^^ t < 256 := Nat.xor_lt_two_pow (n := 8) hx8 ht
  have opD := opT.out j (x ^^^ t) HJL.out hxt
  rw [HX.out] at opD
  obtain ⟨D, hD⟩ : ∃ D, Z.set j (x ^^^ t) = D := ⟨_, rfl⟩
  have hD8 : ∀ u ∈ D, u < 256 := by
    intro u hu
    rw [← hD] at hu
    rcases List.mem_or_eq_of_mem_set hu with h | h
    · exact HZ8.out u h
    · omega
  have hDl : D.length = bs.length + 4 := by rw [← hD, List.length_set]; exact HZ.out
  rw [hD] at T opD
  obtain ⟨y, hy⟩ : ∃ y, x6.setCell ⟨g6, j, none⟩ (.int .u8 ((x ^^^ t : Nat) : Int)) = y := ⟨_, rfl⟩
  rw [hy] at T
  rw [hy]
  have oy : Only [] x5 y := O6.out.then T.2 (by
    intro k hk hl
    rw [List.mem_singleton] at hk
    omega)
  have OY : Hid _ := oy
  have RD : Hid _ := RowB.readC T.1 hD8
  have opD' : opens a0 D = decide (t = 0) := by
    rw [opD, Bool.eq_iff_iff, decide_eq_true_eq, decide_eq_true_eq, ← xor_same x t]
    exact eq_comm
  have OPD : Hid _ := opD'
  have HD : Hid _ := hD
  clear hy hD T q1 q2 hxor R6 O6 HX hxt hD8 p2 HJL opD opD' oy b6 l6
  refine (open_any a0 _ D y RD.out (by omega)).mono ?_
  rintro e x7 ⟨v7, rfl, r7, o7⟩
  have O7 : Hid (Only [] x5 x7) := OY.out.trans o7
  have cvz := ((R5.out.only O7.out (by simp)).read).conv
  have rb7 := RD1.out.only ((((O2.out.trans O3.out).trans O4.out).trans O5.out).trans O7.out) (by simp)
  have RB7 : Hid _ := rb7
  have OW : Hid (Only [] w x7) := ((((O1.out.trans O2.out).trans O3.out).trans O4.out).trans O5.out).trans O7.out
  obtain ⟨SZ, hSZ⟩ : ∃ S, str Z = S := ⟨_, rfl⟩
  rw [hSZ] at cvz
  have CVZ : Hid (∀ x8, Only [] x7 x8 → (convert 22 9 (.slice (some ⟨g2, 0, none⟩) (bs.length + 4) c2)).run Try.prog x8 = .ok (.string SZ) x8) := by
    show ∀ x8, _ → _
    intro x8 o8
    have := ((R5.out.only (O7.out.trans o8) (by simp)).read).conv
    rw [hSZ] at this
    exact this
  have HSZ : Hid _ := hSZ
  clear hSZ cvz rb7 o7
  by_cases h0 : t = 0
  · subst h0
    rw [OPD.out, decide_eq_true rfl]
    clear r7
    go_wp2_with fail
    have JW : Hid (∀ y, Only [] x7.drew y → Only [] x7 y) := by show ∀ y, _ → _; exact fun y hy => (only_drew x7).trans hy
    refine wp_region_by (Only []) (Only.refl []) Only.trans [(0, .int .i64 a0), (2, .slice a1' bs.length c1'), (4, .int .u8 0), (11, .slice (some ⟨g2, 0, none⟩) (bs.length + 4) c2), (17, v7), (18, .bool true)] (by intro p hp; simp only [List.mem_cons, List.not_mem_nil, or_false] at hp; rcases hp with rfl | rfl | rfl | rfl | rfl | rfl <;> rfl) (by kernel_rfl) (by kernel_rfl) (fun _ => True) trivial ?_
    repeat (
      apply rb_val
      · first | rfl | exact ⟨by kernel_rfl, rfl⟩
      · intro a y hT hf
        have cvz := CVZ.out y (JW.out y hT)
        simp at hf
        go_simp
        try rfl)
    repeat (
      apply rb_skip
      · exact ⟨by kernel_rfl, rfl⟩)
    repeat (
      apply rb_val
      · first | rfl | exact ⟨by kernel_rfl, rfl⟩
      · intro a y hT hf
        have cvz := CVZ.out y (JW.out y hT)
        simp at hf
        go_simp
        try rfl)
    refine rb_call (fun w v => ReadB w v Z) (fun _ => True) (by first | rfl | exact ⟨by kernel_rfl, rfl⟩) (by kernel_rfl) (fun w w' v o h => h.only o (by simp)) (fun a y _ hT hf => ?_) ?_
    · simp at hf
      go_simp
      refine (close_any a0 _ bs _ (RB7.out.only (JW.out y hT) (by simp)) (by omega)).mono ?_
      rintro e y2 ⟨v2, rfl, r2, o2⟩
      rw [EZ.out] at r2
      exact ⟨v2, rfl, r2.read HZ8.out, o2⟩
    apply rb_val
    · first | rfl | exact ⟨by kernel_rfl, rfl⟩
    · intro a y hT hf
      simp at hf
      have cv := hf.2.1.conv
      rw [HSZ.out] at cv
      go_simp
      try rfl
    repeat (
      apply rb_val
      · first | rfl | exact ⟨by kernel_rfl, rfl⟩
      · intro a y hT hf
        have cvz := CVZ.out y (JW.out y hT)
        simp at hf
        go_simp
        try rfl)
    intro y _ hy
    simp only [FinA, Sp.R, forall_eq]
    intro va _
    simp only [Act.put, List.setIfInBounds_toArray, List.set_cons_succ, List.set_cons_zero]
    go_wp2_with fail
    go_ret
    exact ⟨rfl, (OW.out.trans (JW.out y hy)).below (Nat.le_refl _) (by simp)⟩
  · rw [OPD.out, decide_eq_false h0]
    have bd : body a0 D = [] := by unfold body; rw [OPD.out, decide_eq_false h0]; rfl
    rw [bd] at r7
    obtain ⟨a7, c7, e7, -⟩ := (r7.readC (by simp)).form
    subst e7
    have z1 : ((t : Int) == 0) = false := by rw [beq_eq_false_iff_ne]; omega
    clear r7 h0 bd
    go_wp2_with fail
    have JW : Hid (∀ y, Only [] x7.drew y → Only [] x7 y) := by show ∀ y, _ → _; exact fun y hy => (only_drew x7).trans hy
    refine wp_region_by (Only []) (Only.refl []) Only.trans [(0, .int .i64 a0), (2, .slice a1' bs.length c1'), (4, .int .u8 (t : Int)), (11, .slice (some ⟨g2, 0, none⟩) (bs.length + 4) c2), (17, .slice a7 0 c7), (18, .bool false)] (by intro p hp; simp only [List.mem_cons, List.not_mem_nil, or_false] at hp; rcases hp with rfl | rfl | rfl | rfl | rfl | rfl <;> rfl) (by kernel_rfl) (by kernel_rfl) (fun _ => True) trivial ?_
    repeat (
      apply rb_val
      · first | rfl | exact ⟨by kernel_rfl, rfl⟩
      · intro a y hT hf
        have cvz := CVZ.out y (JW.out y hT)
        simp at hf
        go_simp
        try rfl)
    refine rb_call (fun w v => ReadB w v Z) (fun _ => True) (by first | rfl | exact ⟨by kernel_rfl, rfl⟩) (by kernel_rfl) (fun w w' v o h => h.only o (by simp)) (fun a y _ hT hf => ?_) ?_
    · simp at hf
      go_simp
      refine (close_any a0 _ bs _ (RB7.out.only (JW.out y hT) (by simp)) (by omega)).mono ?_
      rintro e y2 ⟨v2, rfl, r2, o2⟩
      rw [EZ.out] at r2
      exact ⟨v2, rfl, r2.read HZ8.out, o2⟩
    apply rb_val
    · first | rfl | exact ⟨by kernel_rfl, rfl⟩
    · intro a y hT hf
      simp at hf
      have cv := hf.2.1.conv
      rw [HSZ.out] at cv
      go_simp
      try rfl
    repeat (
      apply rb_val
      · first | rfl | exact ⟨by kernel_rfl, rfl⟩
      · intro a y hT hf
        have cvz := CVZ.out y (JW.out y hT)
        simp at hf
        go_simp
        try rfl)
    intro y _ hy
    simp only [FinA, Sp.R, forall_eq]
    intro va _
    simp only [Act.put, List.setIfInBounds_toArray, List.set_cons_succ, List.set_cons_zero]
    go_wp2_with fail
    go_ret
    exact ⟨rfl, (OW.out.trans (JW.out y hy)).below (Nat.le_refl _) (by simp)⟩

set_option maxRecDepth 100000 in
theorem lifted (os : Os) (started : os.Started) (H : Type) (enc : TypeId × Value → H) :
    ReturnsInHanded {} Try.checked os 5 .any (Rows.tagKeepsSpec.pre6 enc Try.prog Try.f5 Rows.tagKeepsRow.domain false) (Rows.tagKeepsSpec.post enc Try.prog Try.f5 false true false false) := by
  refine returnsInHanded_of_change (C := Try.checked) own started (by kernel_rfl) Try.func5
    (ChangeSpec.witness6 (enc := enc) (C := Try.checked) false ⟨#[], #[.int .i64 0, .int .i64 0, .slice none 0 0, .int .i64 0, .int .u8 0], []⟩ 8 (by kernel_rfl) (by kernel_rfl) (by kernel_rfl) (by kernel_rfl)) ?_
  intro W base args ds gs before hval0 hW hcnd _
  have hval : ∀ (j : Nat) t v, Try.f5.params[j]? = some t → args[j]? = some v → Value.okWide Try.prog W .any base t v := hval0
  have hW' := hW
  obtain ⟨p, q, hA0, hV, rfl, hfz, hnd⟩ := hW
  have hA : DataW.TrodAll enc Try.prog W 0 (fun _ => true) true Try.f5.params.toList args.toList ds p := hA0
  rw [Try.params5] at hA hval
  obtain ⟨v0, vs0, d0, ds0, p0, q0, hargs, rfl, rfl, h0, r0⟩ := trodAll_cons hA
  obtain ⟨v1, vs1, d1, ds1, p1, q1, rfl, rfl, rfl, h1, r1⟩ := trodAll_cons r0
  obtain ⟨v2, vs2, d2, ds2, p2, q2, rfl, rfl, rfl, h2, r2⟩ := trodAll_cons r1
  obtain ⟨v3, vs3, d3, ds3, p3, q3, rfl, rfl, rfl, h3, r3⟩ := trodAll_cons r2
  obtain ⟨v4, vs4, d4, ds4, p4, q4, rfl, rfl, rfl, h4, r4⟩ := trodAll_cons r3
  obtain ⟨rfl, rfl, rfl⟩ := trodAll_nil r4
  obtain rfl : args = #[v0, v1, v2, v3, v4] := by cases args; simp_all
  obtain ⟨rfl, rfl⟩ := trodVars_none hV
  obtain ⟨a0, rfl, rfl, rfl, w0⟩ := open_int Try.underlying3 (hval 0 3 v0 rfl rfl) h0
  obtain ⟨a1, rfl, rfl, rfl, w1⟩ := open_int Try.underlying3 (hval 1 3 v1 rfl rfl) h1
  obtain ⟨e2, len2, cap2, rfl⟩ := okWide_slice Try.underlying22 (hval 2 22 v2 rfl rfl)
  have k2 := h2
  have lt2 : ∀ x ∈ p2, x.block < W.heap.size := by obtain ⟨m, hm⟩ := k2; exact DataW.trod_lt m _ _ _ hm
  obtain ⟨a2, w2⟩ := came_i Try.underlying22 Try.underlying5 (by kernel_rfl) h2
  obtain ⟨a3, rfl, rfl, rfl, w3⟩ := open_int Try.underlying3 (hval 3 3 v3 rfl rfl) h3
  obtain ⟨a4, rfl, rfl, rfl, w4⟩ := open_int Try.underlying5 (hval 4 5 v4 rfl rfl) h4
  clear hA0 hval0
  refine (walk a0 a1 _ a2 a3 a4 W w0 w1 w2 w3 w4).mono fun e W' ⟨he, bel⟩ => ?_
  subst he
  exact ⟨_, rfl, _, _, _, [], _, [], hW', trodAll_mk1 (shut_bool Try.underlying4 _), (trodAll_cons_mk (shut_int Try.underlying3 w0) (trodAll_cons_mk (shut_int Try.underlying3 w1) (trodAll_cons_mk (Below.trod laidOut (by kernel_rfl) (of_decide_eq_true (by kernel_rfl)) k2 bel lt2) (trodAll_cons_mk (shut_int Try.underlying3 w3) (trodAll_cons_mk (shut_int Try.underlying5 w4) trodAll_mk0))))), rfl, bel.frame _, fun h => by cases h⟩

theorem over : Rows.tagKeepsRow.holds Try.pinned (OpenSpec.ofChange Rows.tagKeepsSpec) :=
  OpenClaim.holds_of_wide 5 Try.f5 rfl rfl rfl rfl rfl rfl rfl ⟨rfl, rfl, rfl, rfl, rfl⟩ rfl rfl rfl rfl rfl (by kernel_rfl) Try.func5 (by kernel_rfl)
    (of_decide_eq_true (by kernel_rfl)) (by unfold Func.isWrapper; first | (rw [if_pos (by decide +kernel)]; kernel_rfl) | (rw [if_neg (by decide +kernel)]; exact ⟨rfl, rfl⟩))
    (fun os started H enc _ => lifted os started H enc)

/-- THE STATEMENT -/
theorem proved : Rows.TagKeepsSaid := over
end Go.Proofs.Ytcfekpedaiemiaa.tagKeeps

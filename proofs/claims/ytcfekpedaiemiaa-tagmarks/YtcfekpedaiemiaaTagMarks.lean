/- Proved: TagMarks returns true, for every key, bytes, place and turn. No condition. -/
import Derived.Test.YtcfekpedaiemiaaTagK
import Derived.Test.YtcfekpedaiemiaaFew
import Derived.Test.YtcfekpedaiemiaaPick
import Derived.Test.YtcfekpedaiemiaaFrameB
namespace Go.Proofs.Ytcfekpedaiemiaa.tagMarks
open Go.ChangeShapes Go.WideShapes Go.ChangeAt Go.RowKit Tag
set_option linter.unusedVariables false

theorem set_same (bs : List Nat) (j : Nat) : bs.set j (bs.getD j 0) = bs := by
  apply List.ext_getElem?
  intro i
  rw [List.getElem?_set]
  split
  · rename_i h
    subst h
    split
    · rename_i h
      rw [List.getD_eq_getElem?_getD, List.getElem?_eq_getElem h, Option.getD_some]
    · rename_i h
      exact (List.getElem?_eq_none (by omega)).symm
  · rfl
set_option maxRecDepth 100000 in
set_option maxHeartbeats 800000 in
theorem walk (a0 : Int) (s1 : Value) (a1 : List Int) (a2 : Int) (a3 : Int) (w : World) (w0 : (Lit.int .i64 a0).wf = true) (w1 : CameI .u8 w s1 a1) (w2 : (Lit.int .i64 a2).wf = true) (w3 : (Lit.int .u8 a3).wf = true) :
    Calls Try.prog 6 #[.int .i64 a0, s1, .int .i64 a2, .int .u8 a3] w fun e w' => e = .returned (.bool true) ∧ Below w.heap.size w w' := by
  have hnot : ∀ (x : Bool) (w : World), (Op.unary .not (.bool x)).run Try.prog w = .ok (.bool (!x)) w := fun _ _ => rfl
  obtain ⟨bs0, -, hb0⟩ := came_bytes w1
  have r3 := wf_u8 w3
  obtain ⟨t, rfl⟩ : ∃ t : Nat, a3 = t := ⟨a3.toNat, by omega⟩
  have ht : t < 256 := by omega
  clear w0 w1 w2 w3 r3
  have h8 := hb0.lt
  have hlen := hb0.len
  obtain ⟨va, vc, ev, hvc⟩ := hb0.form
  subst ev
  have HB : Hid _ := hb0
  clear hb0
  obtain ⟨bs, ebs⟩ : ∃ bs, bs0.take 200 = bs := ⟨_, rfl⟩
  have hl : bs.length ≤ 200 := by rw [← ebs, List.length_take]; omega
  have H8 : Hid (∀ x ∈ bs, x < 256) := by show ∀ x ∈ bs, x < 256; intro x hx; rw [← ebs] at hx; exact h8 x (List.mem_of_mem_take hx)
  have EB : Hid _ := ebs
  clear ebs h8
  go_enter Try.func6, Try.ntmps6
  go_wp2_with fail
  refine (known_any w).mono ?_
  rintro e x1 ⟨rfl, o1⟩
  have O1 : Hid _ := o1
  clear o1
  go_wp2_with fail
  refine (few_any _ bs0 200 x1 (HB.out.only O1.out (by simp)) (by rw [EB.out]; omega)).mono ?_
  rintro e x2 ⟨v2, rfl, r2, o2⟩
  rw [EB.out] at r2
  have R2 : Hid _ := r2
  have O2 : Hid _ := o2
  clear r2 o2
  go_wp2_with fail
  refine (few_any _ bs0 200 x2 (HB.out.only (O1.out.trans O2.out) (by simp)) (by rw [EB.out]; omega)).mono ?_
  rintro e x3 ⟨v3, rfl, r3, o3⟩
  rw [EB.out] at r3
  have R3 : Hid _ := r3
  have O3 : Hid _ := o3
  clear r3 o3
  by_cases h0 : bs = []
  · obtain ⟨a2, c2, e2, _⟩ := (RowB.readC R2.out H8.out).form
    rw [h0] at e2
    subst e2
    go_wp2_with fail
    have rr := (RowB.read R2.out H8.out).only O3.out (by simp)
    rw [h0] at rr
    refine (mark_any _ [] x3 rr (by decide)).mono ?_
    rintro e w' ⟨rfl, rfl⟩
    clear rr
    go_wp2_with fail
    refine (mark_any _ [] x3 (readC_nil x3).read (by decide)).mono ?_
    rintro e w' ⟨rfl, rfl⟩
    go_wp2_with fail
    go_ret
    exact ⟨rfl, ((O1.out.trans O2.out).trans O3.out).below (Nat.le_refl _) (by simp)⟩
  · have hpos : 0 < bs.length := List.length_pos_iff.2 h0
    clear h0
    obtain ⟨g2, c2, rfl, b2, l2⟩ := RowB.form R2.out hpos
    obtain ⟨g3, c3, rfl, b3, l3⟩ := RowB.form R3.out hpos
    have z0 : ¬ (bs.length : Int) = 0 := by omega
    go_wp2_with fail
    refine (pick_any _ _ (by omega) (by omega) _).mono ?_
    rintro e w' ⟨rfl, rfl⟩
    have p1 := Int.emod_nonneg a2 (show (bs.length : Int) ≠ 0 by omega)
    have p2 := Int.emod_lt_of_pos a2 (show (0 : Int) < (bs.length : Int) by omega)
    obtain ⟨j, hj⟩ : ∃ j : Nat, a2 % (bs.length : Int) = j := ⟨(a2 % (bs.length : Int)).toNat, by omega⟩
    rw [hj] at p2
    rw [hj]
    have hjl : j < bs.length := by omega
    clear hj p1
    obtain ⟨q1, q2⟩ := RowB.byte R3.out j hjl
    obtain ⟨x, hx⟩ : ∃ x, bs.getD j 0 = x := ⟨_, rfl⟩
    have hx8 : x < 256 := by rw [← hx]; exact H8.out _ (by simp [List.getD_eq_getElem?_getD, hjl])
    rw [hx] at q1
    have HX : Hid _ := hx
    clear hx
    have hxor := u8_xor_nat x t hx8 ht
    go_wp2_with fail
    have T := RowB.turn R3.out j (x ^^^ t)
    have hxt : x ^^^ t < 256 := Nat.xor_lt_two_pow (n := 8) hx8 ht
    obtain ⟨D, hD⟩ : ∃ D, bs.set j (x ^^^ t) = D := ⟨_, rfl⟩
    have hD8 : ∀ u ∈ D, u < 256 := by
      intro u hu
      rw [← hD] at hu
      rcases List.mem_or_eq_of_mem_set hu with h | h
      · exact H8.out u h
      · omega
    have hDl : D.length ≤ 200 := by rw [← hD, List.length_set]; exact hl
    rw [hD] at T
    obtain ⟨y, hy⟩ : ∃ y, x3.setCell ⟨g3, j, none⟩ (.int .u8 ((x ^^^ t : Nat) : Int)) = y := ⟨_, rfl⟩
    rw [hy] at T
    rw [hy]
    have RA : Hid (ReadB y (.slice (some ⟨g2, 0, none⟩) bs.length c2) bs) := ((RowB.read R2.out H8.out).only O3.out (by simp)).only T.2 (by simp [Value.ownBlock]; omega)
    have RD : Hid (ReadB y (.slice (some ⟨g3, 0, none⟩) bs.length c3) D) := RowB.read T.1 hD8
    have OY : Hid (Only [] w y) := ((O1.out.trans O2.out).trans O3.out).then T.2 (by
      intro k hk hl
      rw [List.mem_singleton] at hk
      have := O1.out.size
      have := O2.out.size
      omega)
    have m1 := mark_lt bs
    have s1 := sum_lt a0 bs
    have EQ : Hid (t = 0 → D = bs) := by
      show t = 0 → D = bs
      intro h
      rw [← hD, h, Nat.xor_zero, ← HX.out]
      exact set_same bs j
    have NE : Hid (¬ t = 0 → ¬ Tag.mark bs = Tag.mark D ∧ ¬ sum a0 bs = sum a0 D) := by
      show ¬ t = 0 → _
      intro h
      have hne : ¬ x = x ^^^ t := fun e => h ((xor_same x t).1 e.symm)
      exact ⟨fun e => hne (HX.out ▸ mark_turn bs j (x ^^^ t) hjl H8.out hxt (hD ▸ e)), fun e => hne (HX.out ▸ sum_turn a0 bs j (x ^^^ t) hjl H8.out hxt (hD ▸ e))⟩
    clear hD hy T q1 q2 hxor R2 R3 O1 O2 O3 b2 b3 l2 l3 HX hxt hD8 p2 hjl
    refine (mark_any _ bs y RA.out (by omega)).mono ?_
    rintro e w' ⟨rfl, rfl⟩
    by_cases h0 : t = 0
    · have e0 := EQ.out h0
      subst h0
      subst e0
      go_wp2_with fail
      refine (sum_any a0 _ D y RA.out (by omega)).mono ?_
      rintro e w' ⟨rfl, rfl⟩
      go_wp2_with fail
      refine (sum_any a0 _ D y RD.out (by omega)).mono ?_
      rintro e w' ⟨rfl, rfl⟩
      go_wp2_with fail
      refine (mark_any _ D y RD.out (by omega)).mono ?_
      rintro e w' ⟨rfl, rfl⟩
      obtain ⟨m, em⟩ : ∃ m, Tag.mark D = m := ⟨_, rfl⟩
      obtain ⟨s, es⟩ : ∃ s, sum a0 D = s := ⟨_, rfl⟩
      rw [em] at m1 ⊢
      rw [es] at s1 ⊢
      have ES : Hid _ := es
      clear em es
      have y1 : (0 : Int) ≤ (m : Int) := by omega
      have y2 : (m : Int) < 4611686018427387904 := by omega
      have y3 : (0 : Int) ≤ (s : Int) := by omega
      have y4 : (s : Int) < 2147483647 := by omega
      go_wp2_with fail
      refine (sum_any a0 _ D y RA.out (by omega)).mono ?_
      rintro e w' ⟨rfl, rfl⟩
      rw [ES.out]
      go_wp2_with fail
      refine (sum_any a0 _ D y RA.out (by omega)).mono ?_
      rintro e w' ⟨rfl, rfl⟩
      rw [ES.out]
      go_wp2_with fail
      go_ret
      exact ⟨rfl, OY.out.below (Nat.le_refl _) (by simp)⟩
    · have n0 := NE.out h0
      have z1 : ((t : Int) == 0) = false := by rw [beq_eq_false_iff_ne]; omega
      rw [z1]
      go_wp2_with fail
      refine (sum_any a0 _ bs y RA.out (by omega)).mono ?_
      rintro e w' ⟨rfl, rfl⟩
      go_wp2_with fail
      refine (sum_any a0 _ D y RD.out (by omega)).mono ?_
      rintro e w' ⟨rfl, rfl⟩
      obtain ⟨m, em⟩ : ∃ m, Tag.mark bs = m := ⟨_, rfl⟩
      obtain ⟨s, es⟩ : ∃ s, sum a0 bs = s := ⟨_, rfl⟩
      obtain ⟨m', em'⟩ : ∃ m', Tag.mark D = m' := ⟨_, rfl⟩
      obtain ⟨s', es'⟩ : ∃ s', sum a0 D = s' := ⟨_, rfl⟩
      rw [em, em', es, es'] at n0
      rw [em] at m1 ⊢
      rw [es] at s1 ⊢
      rw [es']
      have ES : Hid _ := es
      have EM : Hid _ := em'
      clear em es em' es'
      have y1 : (0 : Int) ≤ (m : Int) := by omega
      have y2 : (m : Int) < 4611686018427387904 := by omega
      have y3 : (0 : Int) ≤ (s : Int) := by omega
      have y4 : (s : Int) < 2147483647 := by omega
      have y5 : ((s : Int) == (s' : Int)) = false := by rw [beq_eq_false_iff_ne]; omega
      have y6 : ((m : Int) == (m' : Int)) = false := by rw [beq_eq_false_iff_ne]; omega
      clear n0 h0 z0
      go_wp2_with fail
      refine (mark_any _ D y RD.out (by omega)).mono ?_
      rintro e w' ⟨rfl, rfl⟩
      rw [EM.out]
      go_wp2_with fail
      refine (sum_any a0 _ bs y RA.out (by omega)).mono ?_
      rintro e w' ⟨rfl, rfl⟩
      rw [ES.out]
      go_wp2_with fail
      refine (sum_any a0 _ bs y RA.out (by omega)).mono ?_
      rintro e w' ⟨rfl, rfl⟩
      rw [ES.out]
      go_wp2_with fail
      go_ret
      exact ⟨rfl, OY.out.below (Nat.le_refl _) (by simp)⟩

set_option maxRecDepth 100000 in
theorem lifted (os : Os) (started : os.Started) (H : Type) (enc : TypeId × Value → H) :
    ReturnsInHanded {} Try.checked os 6 .any (Rows.tagMarksSpec.pre6 enc Try.prog Try.f6 Rows.tagMarksRow.domain false) (Rows.tagMarksSpec.post enc Try.prog Try.f6 false true false false) := by
  refine returnsInHanded_of_change (C := Try.checked) own started (by kernel_rfl) Try.func6
    (ChangeSpec.witness6 (enc := enc) (C := Try.checked) false ⟨#[], #[.int .i64 0, .slice none 0 0, .int .i64 0, .int .u8 0], []⟩ 8 (by kernel_rfl) (by kernel_rfl) (by kernel_rfl) (by kernel_rfl)) ?_
  intro W base args ds gs before hval0 hW hcnd _
  have hval : ∀ (j : Nat) t v, Try.f6.params[j]? = some t → args[j]? = some v → Value.okWide Try.prog W .any base t v := hval0
  have hW' := hW
  obtain ⟨p, q, hA0, hV, rfl, hfz, hnd⟩ := hW
  have hA : DataW.TrodAll enc Try.prog W 0 (fun _ => true) true Try.f6.params.toList args.toList ds p := hA0
  rw [Try.params6] at hA hval
  obtain ⟨v0, vs0, d0, ds0, p0, q0, hargs, rfl, rfl, h0, r0⟩ := trodAll_cons hA
  obtain ⟨v1, vs1, d1, ds1, p1, q1, rfl, rfl, rfl, h1, r1⟩ := trodAll_cons r0
  obtain ⟨v2, vs2, d2, ds2, p2, q2, rfl, rfl, rfl, h2, r2⟩ := trodAll_cons r1
  obtain ⟨v3, vs3, d3, ds3, p3, q3, rfl, rfl, rfl, h3, r3⟩ := trodAll_cons r2
  obtain ⟨rfl, rfl, rfl⟩ := trodAll_nil r3
  obtain rfl : args = #[v0, v1, v2, v3] := by cases args; simp_all
  obtain ⟨rfl, rfl⟩ := trodVars_none hV
  obtain ⟨a0, rfl, rfl, rfl, w0⟩ := open_int Try.underlying3 (hval 0 3 v0 rfl rfl) h0
  obtain ⟨e1, len1, cap1, rfl⟩ := okWide_slice Try.underlying22 (hval 1 22 v1 rfl rfl)
  have k1 := h1
  have lt1 : ∀ x ∈ p1, x.block < W.heap.size := by obtain ⟨m, hm⟩ := k1; exact DataW.trod_lt m _ _ _ hm
  obtain ⟨a1, w1⟩ := came_i Try.underlying22 Try.underlying5 (by kernel_rfl) h1
  obtain ⟨a2, rfl, rfl, rfl, w2⟩ := open_int Try.underlying3 (hval 2 3 v2 rfl rfl) h2
  obtain ⟨a3, rfl, rfl, rfl, w3⟩ := open_int Try.underlying5 (hval 3 5 v3 rfl rfl) h3
  clear hA0 hval0
  refine (walk a0 _ a1 a2 a3 W w0 w1 w2 w3).mono fun e W' ⟨he, bel⟩ => ?_
  subst he
  exact ⟨_, rfl, _, _, _, [], _, [], hW', trodAll_mk1 (shut_bool Try.underlying4 _), (trodAll_cons_mk (shut_int Try.underlying3 w0) (trodAll_cons_mk (Below.trod laidOut (by kernel_rfl) (of_decide_eq_true (by kernel_rfl)) k1 bel lt1) (trodAll_cons_mk (shut_int Try.underlying3 w2) (trodAll_cons_mk (shut_int Try.underlying5 w3) trodAll_mk0)))), rfl, bel.frame _, fun h => by cases h⟩

theorem over : Rows.tagMarksRow.holds Try.pinned (OpenSpec.ofChange Rows.tagMarksSpec) :=
  OpenClaim.holds_of_wide 6 Try.f6 rfl rfl rfl rfl rfl rfl rfl ⟨rfl, rfl, rfl, rfl, rfl⟩ rfl rfl rfl rfl rfl (by kernel_rfl) Try.func6 (by kernel_rfl)
    (of_decide_eq_true (by kernel_rfl)) (by unfold Func.isWrapper; first | (rw [if_pos (by decide +kernel)]; kernel_rfl) | (rw [if_neg (by decide +kernel)]; exact ⟨rfl, rfl⟩))
    (fun os started H enc _ => lifted os started H enc)

/-- THE STATEMENT -/
theorem proved : Rows.TagMarksSaid := over
end Go.Proofs.Ytcfekpedaiemiaa.tagMarks

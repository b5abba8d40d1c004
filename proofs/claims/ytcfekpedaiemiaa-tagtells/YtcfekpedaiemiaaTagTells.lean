/- Proved: TagTells returns true, for every key, bytes, other bytes, places and turn. No condition. -/
import Derived.Test.YtcfekpedaiemiaaTagK
import Derived.Test.YtcfekpedaiemiaaRefTag
import Derived.Test.YtcfekpedaiemiaaFew
import Derived.Test.YtcfekpedaiemiaaPick
import Derived.Test.YtcfekpedaiemiaaFrameB
import Derived.Test.YtcfekpedaiemiaaFrameS
namespace Go.Proofs.Ytcfekpedaiemiaa.tagTells
open Go.ChangeShapes Go.WideShapes Go.ChangeAt Go.RowKit Tag
set_option linter.unusedVariables false

/-- what z is, made whatever way -/
structure Made (w wx : World) (v : Value) (z : List Nat) : Prop where
  row : RowB w.heap.size wx v z
  only : Only [] w wx
  lt : ∀ x ∈ z, x < 256
  len : z.length ≤ 140737488351236
structure Loop (w wr : World) (g c n : Nat) (z : List Nat) : Prop where
  made : Made w wr (.slice (some ⟨g, 0, none⟩) n c) z
  len : z.length = n

theorem Loop.turn {w wr : World} {g c n : Nat} {z : List Nat} (h : Loop w wr g c n z) (j b : Nat) (hb : b < 256) (hg : w.heap.size ≤ g) : Loop w (wr.setCell ⟨g, j, none⟩ (.int .u8 (b : Int))) g c n (z.set j b) := by
  have T := RowB.turn h.made.row j b
  refine ⟨⟨T.1, h.made.only.then T.2 ?_, ?_, ?_⟩, ?_⟩
  · intro k hk hl
    rw [List.mem_singleton] at hk
    omega
  · intro u hu
    rcases List.mem_or_eq_of_mem_set hu with e | e
    · exact h.made.lt u e
    · omega
  · rw [List.length_set]; exact h.made.len
  · rw [List.length_set]; exact h.len

set_option maxRecDepth 100000 in
set_option maxHeartbeats 800000 in
theorem walk (a0 : Int) (s1 : Value) (a1 : List Int) (s2 : Value) (a2 : List Int) (a3 : Bool) (s4 : Value) (a4 : List Int) (a5 : Int) (w : World) (w0 : (Lit.int .i64 a0).wf = true) (w1 : CameI .u8 w s1 a1) (w2 : CameI .u8 w s2 a2) (w4 : CameI .i64 w s4 a4) (w5 : (Lit.int .u8 a5).wf = true) (z1 : a1.length * 1 ≤ 140737488351232) (z2 : a2.length * 1 ≤ 140737488351232) (z4 : a4.length * 8 ≤ 140737488351232) :
    Calls Try.prog 4 #[.int .i64 a0, s1, s2, .bool a3, s4, .int .u8 a5] w fun e w' => e = .returned (.bool true) ∧ Below w.heap.size w w' := by
  have hnot : ∀ (x : Bool) (w : World), (Op.unary .not (.bool x)).run Try.prog w = .ok (.bool (!x)) w := fun _ _ => rfl
  obtain ⟨bs, l1, hb1⟩ := came_bytes w1
  obtain ⟨rs, l2, hb2⟩ := came_bytes w2
  have hl1 : bs.length ≤ 140737488351232 := by omega
  have hl2 : rs.length ≤ 140737488351232 := by omega
  have r5 := wf_u8 w5
  obtain ⟨t, rfl⟩ : ∃ t : Nat, a5 = t := ⟨a5.toNat, by omega⟩
  have ht : t < 256 := by omega
  obtain ⟨a4', c4, e4, -, -, -, h4⟩ := w4
  subst e4
  have H4 : Hid _ := h4
  clear w0 w1 w2 w5 r5 l1 l2 z1 z2 h4
  have hn4 : a4.length ≤ 17592186043904 := by omega
  clear z4
  obtain ⟨va, vc, ev, -⟩ := hb1.form
  subst ev
  obtain ⟨ua, uc, eu, -⟩ := hb2.form
  subst eu
  have HB1 : Hid _ := hb1
  have HB2 : Hid _ := hb2
  clear hb1 hb2
  go_enter Try.func4, Try.ntmps4
  go_wp2_with fail
  refine (few_any _ rs rs.length w HB2.out (by rw [List.take_length]; omega)).mono ?_
  rintro e x1 ⟨v1, rfl, r1, o1⟩
  rw [List.take_length] at r1
  have M1 : Hid (Made w x1 v1 rs) := ⟨r1, o1, HB2.out.lt, by omega⟩
  clear r1 o1
  go_upto_if 23 with fail
  go_cut [13] (fun v13 wx => ∃ z, Hid (Made w wx v13 z))
  case first =>
    cases a3
    · go_wp2_with fail
      go_meet
      exact ⟨rs, M1⟩
    · go_wp2_with fail
      refine (rclose_any a0 _ bs x1 ((HB1.out.only M1.out.only (by simp)).read) (by omega)).mono ?_
      rintro e x2 ⟨v2, rfl, r2, o2⟩
      have hZ := close_length a0 bs
      obtain ⟨g, c, e2, hg, -⟩ := r2.form (by omega)
      subst e2
      rw [hZ] at r2 ⊢
      have hgw : w.heap.size ≤ g := Nat.le_trans M1.out.only.size hg
      have L2 : Hid (Loop w x2 g c (bs.length + 4) (close a0 bs)) := ⟨⟨r2.lower M1.out.only.size, M1.out.only.trans o2, close_lt a0 bs HB1.out.lt, by omega⟩, hZ⟩
      clear r2 o2 M1 hg hZ
      go_wp2_with fail
      go_loopg [14] 3 (fun gk v14 wr => ∃ (j : Nat) (z : List Nat), v14 = .int .i64 j ∧ j ≤ 2 ∧ 3 - j ≤ gk ∧ Hid (Loop w wr g c (bs.length + 4) z))
      case atStart => exact ⟨0, close a0 bs, rfl, by omega, by omega, L2⟩
      case round =>
        clear L2
        obtain ⟨j, z, rfl, hj, hgk, LZ⟩ := hrel
        by_cases h1 : j < a4.length ∧ j < 2
        · obtain ⟨h1, h2⟩ := h1
          have y1 : (j : Int) < (a4.length : Int) := by omega
          have y2 : (j : Int) < 2 := by omega
          rcases H4.out with h0 | ⟨b4, off4, rfl, hb4, hc4⟩
          · rw [h0] at h1; simp at h1
          · have c4 : wr.cell? ⟨b4, off4 + j, none⟩ = some (.int .i64 (a4.getD j 0)) := by
              rw [LZ.out.made.only.cell (p := ⟨b4, off4 + j, none⟩) hb4 (by simp)]; exact hc4 j h1
            obtain ⟨m, hm⟩ : ∃ m, a4.getD j 0 = m := ⟨_, rfl⟩
            rw [hm] at c4
            clear hm hc4
            go_wp2_with fail
            refine (pick_any _ _ (by omega) (by omega) _).mono ?_
            rintro e w' ⟨rfl, rfl⟩
            have p1 := Int.emod_nonneg m (show (bs.length : Int) + 4 ≠ 0 by omega)
            have p2 := Int.emod_lt_of_pos m (show (0 : Int) < (bs.length : Int) + 4 by omega)
            obtain ⟨i, hi⟩ : ∃ i : Nat, m % ((bs.length : Int) + 4) = i := ⟨(m % ((bs.length : Int) + 4)).toNat, by omega⟩
            rw [hi] at p2
            rw [hi]
            clear hi p1
            obtain ⟨q1, q2⟩ := RowB.byte LZ.out.made.row i (by rw [LZ.out.len]; omega)
            obtain ⟨x, hx⟩ : ∃ x, z.getD i 0 = x := ⟨_, rfl⟩
            have hx8 : x < 256 := by rw [← hx]; exact LZ.out.made.lt _ (by have := LZ.out.len; simp [List.getD_eq_getElem?_getD, show i < z.length by omega])
            rw [hx] at q1
            clear hx
            have hxor := u8_xor_nat x t hx8 ht
            go_wp2_with fail
            have LT : Hid _ := LZ.out.turn i (x ^^^ t) (Nat.xor_lt_two_pow (n := 8) hx8 ht) hgw
            clear LZ q1 q2 hxor c4
            go_roundg (3 - (j + 1))
            case measure => omega
            case rel => exact ⟨j + 1, _, rfl, by omega, Nat.le_refl _, LT⟩
        · have MZ : Hid _ := LZ.out.made
          clear LZ
          by_cases y1 : (j : Int) < (a4.length : Int)
          · have y2 : ¬ (j : Int) < 2 := by omega
            clear h1
            go_wp2_with fail
            go_meet
            exact ⟨z, MZ⟩
          · clear h1
            go_wp2_with fail
            go_meet
            exact ⟨z, MZ⟩
  case rest =>
  obtain ⟨z, MZ⟩ := hcut
  clear M1
  have hlz := MZ.out.len
  go_wp2_with fail
  refine (open_any a0 _ z wc (MZ.out.row.readC MZ.out.lt) (by omega)).mono ?_
  rintro e x3 ⟨v3, rfl, r3, o3⟩
  have O3 : Hid _ := o3
  have R3 : Hid _ := r3
  clear r3 o3
  obtain ⟨o, ho⟩ : ∃ o, opens a0 z = o := ⟨_, rfl⟩
  rw [ho]
  have HO : Hid _ := ho
  clear ho
  go_wp2_with fail
  refine (ropen_any a0 _ z x3 ((MZ.out.row.readC MZ.out.lt).only O3.out (by simp)) (by omega)).mono ?_
  rintro e x4 ⟨v4, rfl, r4, o4⟩
  rw [HO.out]
  have hbd : ∀ x ∈ body a0 z, x < 256 := by
    intro x hx
    unfold body at hx
    split at hx
    · exact MZ.out.lt x (List.mem_of_mem_take hx)
    · simp at hx
  have rp := (RowB.read R3.out hbd).only o4 (by simp)
  have rq := RowB.read r4 hbd
  have OW : Hid (Only [] w x4) := (MZ.out.only.trans O3.out).trans o4
  obtain ⟨SB, hSB⟩ : ∃ S, str (body a0 z) = S := ⟨_, rfl⟩
  have CVP : Hid (∀ y, Only [] x4 y → (convert 22 9 v3).run Try.prog y = .ok (.string SB) y) := by
    show ∀ y, _ → _
    intro y hy
    have := (rp.only hy (by simp)).conv
    rw [hSB] at this
    exact this
  have CVQ : Hid (∀ y, Only [] x4 y → (convert 22 9 v4).run Try.prog y = .ok (.string SB) y) := by
    show ∀ y, _ → _
    intro y hy
    have := (rq.only hy (by simp)).conv
    rw [hSB] at this
    exact this
  have RB : Hid _ := (HB1.out.only OW.out (by simp)).read
  obtain ⟨S, hS⟩ : ∃ S, sum a0 bs = S := ⟨_, rfl⟩
  obtain ⟨M, hM⟩ : ∃ M, Tag.mark bs = M := ⟨_, rfl⟩
  obtain ⟨C, hC⟩ : ∃ C, str (close a0 bs) = C := ⟨_, rfl⟩
  have ES : Hid _ := hS
  have EM : Hid _ := hM
  have EC : Hid _ := hC
  have JW : Hid (∀ y, Only [] x4.drew y → Only [] x4 y) := by show ∀ y, _ → _; exact fun y hy => (only_drew x4).trans hy
  clear hS hM hC hSB rp rq r4 o4 hbd R3 O3 MZ HO hlz
  go_wp2_with fail
  refine wp_region_by (Only []) (Only.refl []) Only.trans [(0, .int .i64 a0), (1, .slice va bs.length vc), (15, v3), (16, .bool o), (17, v4), (18, .bool o)] (by intro p hp; simp only [List.mem_cons, List.not_mem_nil, or_false] at hp; rcases hp with rfl | rfl | rfl | rfl | rfl | rfl <;> rfl) (by kernel_rfl) (by kernel_rfl) (fun _ => True) trivial ?_
  refine rb_call (fun _ v => v = .bool true) (fun _ => True) (by first | rfl | exact ⟨by kernel_rfl, rfl⟩) (by kernel_rfl) (fun _ _ _ _ h => h) (fun a y _ hT hf => ?_) ?_
  · simp at hf
    go_simp
    refine (known_any y).mono ?_
    rintro e y2 ⟨rfl, o2⟩
    exact ⟨_, rfl, rfl, o2⟩
  repeat (
    apply rb_val
    · first | rfl | exact ⟨by kernel_rfl, rfl⟩
    · intro a y hT hf
      have cvp := CVP.out y (JW.out y hT)
      have cvq := CVQ.out y (JW.out y hT)
      simp at hf
      go_simp
      try rfl)
  refine rb_call (fun _ v => v = .int .i64 (S : Nat)) (fun _ => True) (by first | rfl | exact ⟨by kernel_rfl, rfl⟩) (by kernel_rfl) (fun _ _ _ _ h => h) (fun a y _ hT hf => ?_) ?_
  · simp at hf
    go_simp
    refine (sum_any a0 _ bs _ (RB.out.only (JW.out y hT) (by simp)) (by omega)).mono ?_
    rintro e w' ⟨rfl, rfl⟩
    exact ⟨_, rfl, by rw [ES.out], Only.refl _ _⟩
  repeat (
    apply rb_val
    · first | rfl | exact ⟨by kernel_rfl, rfl⟩
    · intro a y hT hf
      have cvp := CVP.out y (JW.out y hT)
      have cvq := CVQ.out y (JW.out y hT)
      simp at hf
      go_simp
      try rfl)
  refine rb_call (fun _ v => v = .int .i64 (S : Nat)) (fun _ => True) (by first | rfl | exact ⟨by kernel_rfl, rfl⟩) (by kernel_rfl) (fun _ _ _ _ h => h) (fun a y _ hT hf => ?_) ?_
  · simp at hf
    go_simp
    refine (rsum_any a0 _ bs _ (RB.out.only (JW.out y hT) (by simp)) (by omega)).mono ?_
    rintro e w' ⟨rfl, rfl⟩
    exact ⟨_, rfl, by rw [ES.out], Only.refl _ _⟩
  repeat (
    apply rb_val
    · first | rfl | exact ⟨by kernel_rfl, rfl⟩
    · intro a y hT hf
      have cvp := CVP.out y (JW.out y hT)
      have cvq := CVQ.out y (JW.out y hT)
      simp at hf
      go_simp
      try rfl)
  refine rb_call (fun _ v => v = .int .i64 (M : Nat)) (fun _ => True) (by first | rfl | exact ⟨by kernel_rfl, rfl⟩) (by kernel_rfl) (fun _ _ _ _ h => h) (fun a y _ hT hf => ?_) ?_
  · simp at hf
    go_simp
    refine (mark_any _ bs _ (RB.out.only (JW.out y hT) (by simp)) (by omega)).mono ?_
    rintro e w' ⟨rfl, rfl⟩
    exact ⟨_, rfl, by rw [EM.out], Only.refl _ _⟩
  repeat (
    apply rb_val
    · first | rfl | exact ⟨by kernel_rfl, rfl⟩
    · intro a y hT hf
      have cvp := CVP.out y (JW.out y hT)
      have cvq := CVQ.out y (JW.out y hT)
      simp at hf
      go_simp
      try rfl)
  refine rb_call (fun _ v => v = .int .i64 (M : Nat)) (fun _ => True) (by first | rfl | exact ⟨by kernel_rfl, rfl⟩) (by kernel_rfl) (fun _ _ _ _ h => h) (fun a y _ hT hf => ?_) ?_
  · simp at hf
    go_simp
    refine (rmark_any _ bs _ (RB.out.only (JW.out y hT) (by simp)) (by omega)).mono ?_
    rintro e w' ⟨rfl, rfl⟩
    exact ⟨_, rfl, by rw [EM.out], Only.refl _ _⟩
  repeat (
    apply rb_val
    · first | rfl | exact ⟨by kernel_rfl, rfl⟩
    · intro a y hT hf
      have cvp := CVP.out y (JW.out y hT)
      have cvq := CVQ.out y (JW.out y hT)
      simp at hf
      go_simp
      try rfl)
  refine rb_call (fun w v => ReadB w v (close a0 bs)) (fun _ => True) (by first | rfl | exact ⟨by kernel_rfl, rfl⟩) (by kernel_rfl) (fun w w' v o h => h.only o (by simp)) (fun a y _ hT hf => ?_) ?_
  · simp at hf
    go_simp
    refine (close_any a0 _ bs _ (RB.out.only (JW.out y hT) (by simp)) (by omega)).mono ?_
    rintro e y2 ⟨v2, rfl, r2, o2⟩
    exact ⟨v2, rfl, r2.read (close_lt a0 bs HB1.out.lt), o2⟩
  apply rb_val
  · first | rfl | exact ⟨by kernel_rfl, rfl⟩
  · intro a y hT hf
    simp at hf
    have cv := hf.2.1.conv
    rw [EC.out] at cv
    go_simp
    try rfl
  repeat (
    apply rb_val
    · first | rfl | exact ⟨by kernel_rfl, rfl⟩
    · intro a y hT hf
      have cvp := CVP.out y (JW.out y hT)
      have cvq := CVQ.out y (JW.out y hT)
      simp at hf
      go_simp
      try rfl)
  refine rb_call (fun w v => ReadB w v (close a0 bs)) (fun _ => True) (by first | rfl | exact ⟨by kernel_rfl, rfl⟩) (by kernel_rfl) (fun w w' v o h => h.only o (by simp)) (fun a y _ hT hf => ?_) ?_
  · simp at hf
    go_simp
    refine (rclose_any a0 _ bs _ (RB.out.only (JW.out y hT) (by simp)) (by omega)).mono ?_
    rintro e y2 ⟨v2, rfl, r2, o2⟩
    exact ⟨v2, rfl, r2.read (close_lt a0 bs HB1.out.lt), o2⟩
  apply rb_val
  · first | rfl | exact ⟨by kernel_rfl, rfl⟩
  · intro a y hT hf
    simp at hf
    have cv := hf.2.1.conv
    rw [EC.out] at cv
    go_simp
    try rfl
  repeat (
    apply rb_val
    · first | rfl | exact ⟨by kernel_rfl, rfl⟩
    · intro a y hT hf
      have cvp := CVP.out y (JW.out y hT)
      have cvq := CVQ.out y (JW.out y hT)
      simp at hf
      go_simp
      try rfl)
  intro y _ hy
  simp only [FinA, Sp.R, forall_eq]
  intro va _ vb _
  simp only [Act.put, List.setIfInBounds_toArray, List.set_cons_succ, List.set_cons_zero]
  go_wp2_with fail
  go_ret
  exact ⟨rfl, (OW.out.trans (JW.out y hy)).below (Nat.le_refl _) (by simp)⟩

set_option maxRecDepth 100000 in
theorem lifted (os : Os) (started : os.Started) (H : Type) (enc : TypeId × Value → H) :
    ReturnsInHanded {} Try.checked os 4 .any (Rows.tagTellsSpec.pre6 enc Try.prog Try.f4 Rows.tagTellsRow.domain false) (Rows.tagTellsSpec.post enc Try.prog Try.f4 false true false false) := by
  refine returnsInHanded_of_change_sized (C := Try.checked) own started (by kernel_rfl) Try.func4
    (ChangeSpec.witness6 (enc := enc) (C := Try.checked) false ⟨#[], #[.int .i64 0, .slice none 0 0, .slice none 0 0, .bool false, .slice none 0 0, .int .u8 0], []⟩ 8 (by kernel_rfl) (by kernel_rfl) (by kernel_rfl) (by kernel_rfl)) ?_
  intro W base args ds gs before hval0 hW hcnd hsz0 _
  have hsz : (DataW.weightsEach Try.prog (Try.f4.params.toList ++ Rows.tagTellsSpec.plain.varTypes Try.prog) (ds ++ gs)).all (· ≤ reachBytes) = true := hsz0
  have hval : ∀ (j : Nat) t v, Try.f4.params[j]? = some t → args[j]? = some v → Value.okWide Try.prog W .any base t v := hval0
  have hW' := hW
  obtain ⟨p, q, hA0, hV, rfl, hfz, hnd⟩ := hW
  have hA : DataW.TrodAll enc Try.prog W 0 (fun _ => true) true Try.f4.params.toList args.toList ds p := hA0
  rw [Try.params4] at hA hval hsz
  obtain ⟨v0, vs0, d0, ds0, p0, q0, hargs, rfl, rfl, h0, r0⟩ := trodAll_cons hA
  obtain ⟨v1, vs1, d1, ds1, p1, q1, rfl, rfl, rfl, h1, r1⟩ := trodAll_cons r0
  obtain ⟨v2, vs2, d2, ds2, p2, q2, rfl, rfl, rfl, h2, r2⟩ := trodAll_cons r1
  obtain ⟨v3, vs3, d3, ds3, p3, q3, rfl, rfl, rfl, h3, r3⟩ := trodAll_cons r2
  obtain ⟨v4, vs4, d4, ds4, p4, q4, rfl, rfl, rfl, h4, r4⟩ := trodAll_cons r3
  obtain ⟨v5, vs5, d5, ds5, p5, q5, rfl, rfl, rfl, h5, r5⟩ := trodAll_cons r4
  obtain ⟨rfl, rfl, rfl⟩ := trodAll_nil r5
  obtain rfl : args = #[v0, v1, v2, v3, v4, v5] := by cases args; simp_all
  obtain ⟨rfl, rfl⟩ := trodVars_none hV
  obtain ⟨a0, rfl, rfl, rfl, w0⟩ := open_int Try.underlying3 (hval 0 3 v0 rfl rfl) h0
  obtain ⟨e1, len1, cap1, rfl⟩ := okWide_slice Try.underlying22 (hval 1 22 v1 rfl rfl)
  have k1 := h1
  have lt1 : ∀ x ∈ p1, x.block < W.heap.size := by obtain ⟨m, hm⟩ := k1; exact DataW.trod_lt m _ _ _ hm
  obtain ⟨a1, w1, s1⟩ := came_is Try.underlying22 Try.underlying5 (by kernel_rfl) h1
  have z1 : a1.length * 1 ≤ 140737488351232 := by
    rcases s1 with h | ⟨es, sp, hd, hle⟩
    · rw [h]; simp
    · subst hd
      have b := sized_slice hsz (j := 1) (t := 22) (e := 5) rfl rfl Try.underlying22
      rw [show Try.prog.bytesOf 5 = 1 by kernel_rfl] at b
      simp only [reachBytes] at b
      omega
  obtain ⟨e2, len2, cap2, rfl⟩ := okWide_slice Try.underlying22 (hval 2 22 v2 rfl rfl)
  have k2 := h2
  have lt2 : ∀ x ∈ p2, x.block < W.heap.size := by obtain ⟨m, hm⟩ := k2; exact DataW.trod_lt m _ _ _ hm
  obtain ⟨a2, w2, s2⟩ := came_is Try.underlying22 Try.underlying5 (by kernel_rfl) h2
  have z2 : a2.length * 1 ≤ 140737488351232 := by
    rcases s2 with h | ⟨es, sp, hd, hle⟩
    · rw [h]; simp
    · subst hd
      have b := sized_slice hsz (j := 2) (t := 22) (e := 5) rfl rfl Try.underlying22
      rw [show Try.prog.bytesOf 5 = 1 by kernel_rfl] at b
      simp only [reachBytes] at b
      omega
  obtain ⟨a3, rfl, rfl, rfl⟩ := open_bool Try.underlying4 (hval 3 4 v3 rfl rfl) h3
  obtain ⟨e4, len4, cap4, rfl⟩ := okWide_slice Try.underlying29 (hval 4 29 v4 rfl rfl)
  have k4 := h4
  have lt4 : ∀ x ∈ p4, x.block < W.heap.size := by obtain ⟨m, hm⟩ := k4; exact DataW.trod_lt m _ _ _ hm
  obtain ⟨a4, w4, s4⟩ := came_is Try.underlying29 Try.underlying3 (by kernel_rfl) h4
  have z4 : a4.length * 8 ≤ 140737488351232 := by
    rcases s4 with h | ⟨es, sp, hd, hle⟩
    · rw [h]; simp
    · subst hd
      have b := sized_slice hsz (j := 4) (t := 29) (e := 3) rfl rfl Try.underlying29
      rw [show Try.prog.bytesOf 3 = 8 by kernel_rfl] at b
      simp only [reachBytes] at b
      omega
  obtain ⟨a5, rfl, rfl, rfl, w5⟩ := open_int Try.underlying5 (hval 5 5 v5 rfl rfl) h5
  clear hA0 hval0
  refine (walk a0 _ a1 _ a2 a3 _ a4 a5 W w0 w1 w2 w4 w5 z1 z2 z4).mono fun e W' ⟨he, bel⟩ => ?_
  subst he
  exact ⟨_, rfl, _, _, _, [], _, [], hW', trodAll_mk1 (shut_bool Try.underlying4 _), (trodAll_cons_mk (shut_int Try.underlying3 w0) (trodAll_cons_mk (Below.trod laidOut (by kernel_rfl) (of_decide_eq_true (by kernel_rfl)) k1 bel lt1) (trodAll_cons_mk (Below.trod laidOut (by kernel_rfl) (of_decide_eq_true (by kernel_rfl)) k2 bel lt2) (trodAll_cons_mk (shut_bool Try.underlying4 _) (trodAll_cons_mk (Below.trod laidOut (by kernel_rfl) (of_decide_eq_true (by kernel_rfl)) k4 bel lt4) (trodAll_cons_mk (shut_int Try.underlying5 w5) trodAll_mk0)))))), rfl, bel.frame _, fun h => by cases h⟩

theorem over : Rows.tagTellsRow.holds Try.pinned (OpenSpec.ofChange Rows.tagTellsSpec) :=
  OpenClaim.holds_of_wide 4 Try.f4 rfl rfl rfl rfl rfl rfl rfl ⟨rfl, rfl, rfl, rfl, rfl⟩ rfl rfl rfl rfl rfl (by kernel_rfl) Try.func4 (by kernel_rfl)
    (of_decide_eq_true (by kernel_rfl)) (by unfold Func.isWrapper; first | (rw [if_pos (by decide +kernel)]; kernel_rfl) | (rw [if_neg (by decide +kernel)]; exact ⟨rfl, rfl⟩))
    (fun os started H enc _ => lifted os started H enc)

/-- THE STATEMENT -/
theorem proved : Rows.TagTellsSaid := over
end Go.Proofs.Ytcfekpedaiemiaa.tagTells

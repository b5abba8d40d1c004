/- Proved: BitsJoins returns true, for every two numbers and every three ints. No condition. -/
import Derived.Test.YtaamobhlbahnhaaBitsTwo
import Derived.Test.YtaamobhlbahnhaaRegBy3
import Derived.Test.YtaamobhlbahnhaaPick
import Derived.Test.YtaamobhlbahnhaaFrame
import Derived.Deep.RegionWith
namespace Go.Proofs.Ytaamobhlbahnhaa.bitsJoins
open Go.ChangeShapes Go.WideShapes Go.ChangeAt Go.RowKit Bit
set_option linter.unusedVariables false

theorem join (v t N K M : Nat) (hK : K ≤ N) : (([] : List Bool) ++ bitsOf v N) ++ bitsOf t M = ((([] : List Bool) ++ bitsOf (v / 2 ^ (N - K)) K) ++ bitsOf v (N - K)) ++ bitsOf t M := by
  have := bitsOf_add v K (N - K)
  rw [show K + (N - K) = N by omega] at this
  simp [this]
theorem sz_nat (n : Nat) (h : n ≤ 64) : sz (n : Int) = n := by unfold sz; omega

set_option maxRecDepth 100000 in
set_option maxHeartbeats 4000000 in
theorem walk (a0 : Int) (a1 : Int) (a2 : Int) (a3 : Int) (a4 : Int) (w : World) (w0 : (Lit.int .u64 a0).wf = true) (w1 : (Lit.int .u64 a1).wf = true) (w2 : (Lit.int .i64 a2).wf = true) (w3 : (Lit.int .i64 a3).wf = true) (w4 : (Lit.int .i64 a4).wf = true) :
    Calls Try.prog 7 #[.int .u64 a0, .int .u64 a1, .int .i64 a2, .int .i64 a3, .int .i64 a4] w fun e w' => e = .returned (.bool true) ∧ Below w.heap.size w w' := by
  have hnot : ∀ (x : Bool) (w : World), (Op.unary .not (.bool x)).run Try.prog w = .ok (.bool (!x)) w := fun _ _ => rfl
  have r0 : 0 ≤ a0 ∧ a0 < 18446744073709551616 := wf_u64 w0
  have r1 : 0 ≤ a1 ∧ a1 < 18446744073709551616 := wf_u64 w1
  obtain ⟨v, rfl⟩ : ∃ v : Nat, a0 = v := ⟨a0.toNat, by omega⟩
  obtain ⟨t, rfl⟩ : ∃ v : Nat, a1 = v := ⟨a1.toNat, by omega⟩
  clear w0 w1 w2 w3 w4
  go_enter Try.func7, Try.ntmps7
  go_wp2_with fail
  refine (newWriter_any w).mono ?_
  rintro e x1 ⟨rfl, h1, o1, s1⟩
  have H1 : Hid _ := And.intro h1 (And.intro o1 s1)
  clear h1 o1 s1
  go_wp2_with fail
  refine (newWriter_any x1).mono ?_
  rintro e x2 ⟨rfl, h2, o2, s2⟩
  have T0 : Hid _ := TwoWr.start H1.out.1 H1.out.2.1 H1.out.2.2 h2 o2
  clear H1 h2 o2 s2
  generalize x1.heap.size = bb at *
  obtain ⟨ba, hba⟩ : ∃ ba, w.heap.size = ba := ⟨_, rfl⟩
  rw [hba] at T0
  rw [hba]
  have HBA : Hid _ := hba
  clear hba
  go_wp2_with fail
  refine (known_any x2).mono ?_
  rintro e x3 ⟨rfl, o3⟩
  have T1 : Hid _ := T0.out.keep o3
  clear T0 o3
  go_wp2_with fail
  refine (pick_any _ _ (by omega) (by omega) _).mono ?_
  rintro e w' ⟨rfl, rfl⟩
  obtain ⟨N, hN⟩ : ∃ N : Nat, a2 % 64 + 1 = N := ⟨(a2 % 64 + 1).toNat, by omega⟩
  have hN1 : 1 ≤ N ∧ N ≤ 64 := by omega
  have hN2 : a2 % 64 = (N : Int) - 1 := by omega
  rw [hN2]
  clear hN hN2
  go_wp2_with fail
  rw [show (1 : Int) + ((N : Int) - 1) = N by omega]
  refine (pick_any _ _ (by omega) (by omega) _).mono ?_
  rintro e w' ⟨rfl, rfl⟩
  have kb1 := Int.emod_nonneg a3 (show (N : Int) + 1 ≠ 0 by omega)
  have kb2 := Int.emod_lt_of_pos a3 (show (0 : Int) < (N : Int) + 1 by omega)
  obtain ⟨K, hK⟩ : ∃ K : Nat, a3 % ((N : Int) + 1) = K := ⟨(a3 % ((N : Int) + 1)).toNat, by omega⟩
  rw [hK]
  have hK1 : K ≤ N := by omega
  clear hK kb1 kb2
  go_wp2_with fail
  refine (pick_any _ _ (by omega) (by omega) _).mono ?_
  rintro e w' ⟨rfl, rfl⟩
  obtain ⟨M, hM⟩ : ∃ M : Nat, a4 % 65 = M := ⟨(a4 % 65).toNat, by omega⟩
  rw [hM]
  have hM1 : M ≤ 64 := by omega
  clear hM
  obtain ⟨J, rfl⟩ : ∃ J, N = J + K := ⟨N - K, by omega⟩
  have v0 : (0 : Int) ≤ (v : Int) / 2 ^ J := Int.ediv_nonneg (by omega) (Int.le_of_lt (Int.pow_pos (by decide)))
  have v1 : (v : Int) / 2 ^ J < 18446744073709551616 := Int.lt_of_le_of_lt (Int.ediv_le_self _ (by omega)) (by omega)
  have V : Hid _ := And.intro v0 v1
  clear v0 v1
  have BL : ∀ {x : World} {sa sb la lb}, TwoWr w ba bb x sa sb la lb → w.heap.size ≤ x.heap.size := fun h => h.only.size
  go_wp2_with fail
  rw [show ((J : Int) + (K : Int)) = ((J + K : Nat) : Int) by omega]
  refine (put_any _ ba v _ (by omega) _ (by simp) _ x3 T1.out.wa (BL T1.out)).mono ?_
  rintro e x4 ⟨rfl, sa4, h4, m4⟩
  have T2 : Hid _ := T1.out.put h4 m4
  clear h4 m4 T1
  rw [sz_nat _ hN1.2] at T2
  go_wp2_with fail
  refine (put_any _ ba t _ (by omega) _ (by simp; omega) _ x4 T2.out.wa (BL T2.out)).mono ?_
  rintro e x5 ⟨rfl, sa5, h5, m5⟩
  have T3 : Hid _ := T2.out.put h5 m5
  clear h5 m5 T2
  rw [sz_nat _ hM1] at T3
  go_wp2_with fail
  have ev : (v : Int) / 2 ^ J = ((v / 2 ^ J : Nat) : Int) := by simp
  have lv : v / 2 ^ J < 18446744073709551616 := Nat.lt_of_le_of_lt (Nat.div_le_self _ _) (by omega)
  rw [ev]
  clear ev V
  refine (put_any _ bb (v / 2 ^ J) _ lv _ (by simp) _ x5 T3.out.wb (BL T3.out)).mono ?_
  rintro e x6 ⟨rfl, sb6, h6, m6⟩
  have T4 : Hid _ := (T3.out.swap.put h6 m6).swap
  clear h6 m6 T3
  rw [sz_nat _ (by omega)] at T4
  go_wp2_with fail
  refine (put_any _ bb v _ (by omega) _ (by simp; omega) _ x6 T4.out.wb (BL T4.out)).mono ?_
  rintro e x7 ⟨rfl, sb7, h7, m7⟩
  have T5 : Hid _ := (T4.out.swap.put h7 m7).swap
  clear h7 m7 T4
  rw [sz_nat _ (by omega)] at T5
  go_wp2_with fail
  refine (put_any _ bb t _ (by omega) _ (by simp; omega) _ x7 T5.out.wb (BL T5.out)).mono ?_
  rintro e x8 ⟨rfl, sb8, h8, m8⟩
  have T6 : Hid _ := (T5.out.swap.put h8 m8).swap
  clear h8 m8 T5
  rw [sz_nat _ hM1] at T6
  go_wp2_with fail
  rw [show J + K = J + K from rfl, join v t (J + K) K M hK1, show J + K - K = J by omega] at T6
  obtain ⟨L, hL⟩ : ∃ L, ((([] : List Bool) ++ bitsOf (v / 2 ^ J) K) ++ bitsOf v J) ++ bitsOf t M = L := ⟨_, rfl⟩
  have hZ : L.length = J + K + M := by rw [← hL]; simp; omega
  rw [hL] at T6
  obtain ⟨N, hN⟩ : ∃ N, J + K = N := ⟨_, rfl⟩
  rw [show (J : Int) + (K : Int) = (N : Int) by omega]
  obtain ⟨Z, hZ2⟩ : ∃ Z, L.length = Z := ⟨_, rfl⟩
  have hw : IntKind.i64.wrap ((N : Int) + (M : Int)) = (Z : Int) := by rw [IntWalk.i64_in _ (by omega)]; omega
  have lZ : L.length ≤ 1000000000 := by omega
  have T7 : Hid _ := T6.out.keep (only_drew x8)
  have LZ : Hid _ := hZ2
  clear hL hZ hN hZ2 T6 hnot BL
  obtain ⟨S, hS⟩ : ∃ S, str (pack L) = S := ⟨_, rfl⟩
  have HS : Hid _ := hS
  clear hS
  refine wp_region_by (Only []) (Only.refl []) Only.trans [(2, .int .i64 (N : Int)), (4, .int .i64 (M : Int)), (11, .pointer (some ⟨ba, 0, none⟩)), (12, .pointer (some ⟨bb, 0, none⟩))] (by intro p hp; simp only [List.mem_cons, List.not_mem_nil, or_false] at hp; rcases hp with rfl | rfl | rfl | rfl <;> rfl) (by kernel_rfl) (by kernel_rfl) (fun _ => True) trivial ?_
  repeat (
    apply rb_val
    · first | rfl | exact ⟨by kernel_rfl, rfl⟩
    · intro a w hT hf
      simp at hf
      go_simp
      try rfl)
  refine rb_call (fun w v => ReadB w v (pack L)) (fun _ => True) (by first | rfl | exact ⟨by kernel_rfl, rfl⟩) (by kernel_rfl) (fun w w' v o h => h.only o (by simp)) (fun a w _ hT hf => ?_) ?_
  · simp at hf
    go_simp
    refine (bytes_any _ ba sa5 L lZ _ (T7.out.keep hT).wa).mono ?_
    rintro e ya ⟨va, rfl, ra, oa⟩
    exact ⟨va, rfl, ra.read (pack_lt _), oa⟩
  apply rb_val
  · first | rfl | exact ⟨by kernel_rfl, rfl⟩
  · intro a w hT hf
    simp at hf
    have cv := hf.2.conv
    rw [HS.out] at cv
    go_simp
    try rfl
  repeat (
    apply rb_val
    · first | rfl | exact ⟨by kernel_rfl, rfl⟩
    · intro a w hT hf
      simp at hf
      go_simp
      try rfl)
  refine rb_call (fun w v => ReadB w v (pack L)) (fun _ => True) (by first | rfl | exact ⟨by kernel_rfl, rfl⟩) (by kernel_rfl) (fun w w' v o h => h.only o (by simp)) (fun a w _ hT hf => ?_) ?_
  · simp at hf
    go_simp
    refine (bytes_any _ bb sb8 L lZ _ (T7.out.keep hT).wb).mono ?_
    rintro e ya ⟨va, rfl, ra, oa⟩
    exact ⟨va, rfl, ra.read (pack_lt _), oa⟩
  apply rb_val
  · first | rfl | exact ⟨by kernel_rfl, rfl⟩
  · intro a w hT hf
    simp at hf
    have cv := hf.2.conv
    rw [HS.out] at cv
    go_simp
    try rfl
  repeat (
    apply rb_val
    · first | rfl | exact ⟨by kernel_rfl, rfl⟩
    · intro a w hT hf
      simp at hf
      go_simp
      try rfl)
  refine rb_call (fun _ v => v = .int .i64 (Z : Int)) (fun _ => True) (by first | rfl | exact ⟨by kernel_rfl, rfl⟩) (by kernel_rfl) (fun _ _ _ _ h => h) (fun a w _ hT hf => ?_) ?_
  · simp at hf
    go_simp
    refine (len_any _ ba sa5 L _ (T7.out.keep hT).wa).mono ?_
    rintro e w' ⟨rfl, rfl⟩
    exact ⟨_, rfl, by rw [LZ.out], Only.refl _ _⟩
  repeat (
    apply rb_val
    · first | rfl | exact ⟨by kernel_rfl, rfl⟩
    · intro a w hT hf
      simp at hf
      go_simp
      try rfl)
  refine rb_call (fun _ v => v = .int .i64 (Z : Int)) (fun _ => True) (by first | rfl | exact ⟨by kernel_rfl, rfl⟩) (by kernel_rfl) (fun _ _ _ _ h => h) (fun a w _ hT hf => ?_) ?_
  · simp at hf
    go_simp
    refine (len_any _ bb sb8 L _ (T7.out.keep hT).wb).mono ?_
    rintro e w' ⟨rfl, rfl⟩
    exact ⟨_, rfl, by rw [LZ.out], Only.refl _ _⟩
  repeat (
    apply rb_val
    · first | rfl | exact ⟨by kernel_rfl, rfl⟩
    · intro a w hT hf
      simp at hf
      go_simp
      try rfl)
  intro y _ hy
  simp only [FinA, Sp.R, forall_eq]
  intro va _ vb _
  simp only [Act.put, List.setIfInBounds_toArray, List.set_cons_succ, List.set_cons_zero]
  go_wp2_with fail
  go_ret
  exact ⟨rfl, (T7.out.keep hy).only.below (Nat.le_refl _) (by simp)⟩

set_option maxRecDepth 100000 in
theorem lifted (os : Os) (started : os.Started) (H : Type) (enc : TypeId × Value → H) :
    ReturnsInHanded {} Try.checked os 7 .any (Rows.bitsJoinsSpec.pre6 enc Try.prog Try.f7 Rows.bitsJoinsRow.domain false) (Rows.bitsJoinsSpec.post enc Try.prog Try.f7 false true false false) := by
  refine returnsInHanded_of_change (C := Try.checked) own started (by kernel_rfl) Try.func7
    (ChangeSpec.witness6 (enc := enc) (C := Try.checked) false ⟨#[], #[.int .u64 0, .int .u64 0, .int .i64 0, .int .i64 0, .int .i64 0], []⟩ 8 (by kernel_rfl) (by kernel_rfl) (by kernel_rfl) (by kernel_rfl)) ?_
  intro W base args ds gs before hval0 hW hcnd _
  have hval : ∀ (j : Nat) t v, Try.f7.params[j]? = some t → args[j]? = some v → Value.okWide Try.prog W .any base t v := hval0
  have hW' := hW
  obtain ⟨p, q, hA0, hV, rfl, hfz, hnd⟩ := hW
  have hA : DataW.TrodAll enc Try.prog W 0 (fun _ => true) true Try.f7.params.toList args.toList ds p := hA0
  rw [Try.params7] at hA hval
  obtain ⟨v0, vs0, d0, ds0, p0, q0, hargs, rfl, rfl, h0, r0⟩ := trodAll_cons hA
  obtain ⟨v1, vs1, d1, ds1, p1, q1, rfl, rfl, rfl, h1, r1⟩ := trodAll_cons r0
  obtain ⟨v2, vs2, d2, ds2, p2, q2, rfl, rfl, rfl, h2, r2⟩ := trodAll_cons r1
  obtain ⟨v3, vs3, d3, ds3, p3, q3, rfl, rfl, rfl, h3, r3⟩ := trodAll_cons r2
  obtain ⟨v4, vs4, d4, ds4, p4, q4, rfl, rfl, rfl, h4, r4⟩ := trodAll_cons r3
  obtain ⟨rfl, rfl, rfl⟩ := trodAll_nil r4
  obtain rfl : args = #[v0, v1, v2, v3, v4] := by cases args; simp_all
  obtain ⟨rfl, rfl⟩ := trodVars_none hV
  obtain ⟨a0, rfl, rfl, rfl, w0⟩ := open_int Try.underlying27 (hval 0 27 v0 rfl rfl) h0
  obtain ⟨a1, rfl, rfl, rfl, w1⟩ := open_int Try.underlying27 (hval 1 27 v1 rfl rfl) h1
  obtain ⟨a2, rfl, rfl, rfl, w2⟩ := open_int Try.underlying3 (hval 2 3 v2 rfl rfl) h2
  obtain ⟨a3, rfl, rfl, rfl, w3⟩ := open_int Try.underlying3 (hval 3 3 v3 rfl rfl) h3
  obtain ⟨a4, rfl, rfl, rfl, w4⟩ := open_int Try.underlying3 (hval 4 3 v4 rfl rfl) h4
  clear hA0 hval0
  refine (walk a0 a1 a2 a3 a4 W w0 w1 w2 w3 w4).mono fun e W' ⟨he, bel⟩ => ?_
  subst he
  exact ⟨_, rfl, _, _, _, [], _, [], hW', trodAll_mk1 (shut_bool Try.underlying4 _), (trodAll_cons_mk (shut_int Try.underlying27 w0) (trodAll_cons_mk (shut_int Try.underlying27 w1) (trodAll_cons_mk (shut_int Try.underlying3 w2) (trodAll_cons_mk (shut_int Try.underlying3 w3) (trodAll_cons_mk (shut_int Try.underlying3 w4) trodAll_mk0))))), rfl, bel.frame _, fun h => by cases h⟩

theorem over : Rows.bitsJoinsRow.holds Try.pinned (OpenSpec.ofChange Rows.bitsJoinsSpec) :=
  OpenClaim.holds_of_wide 7 Try.f7 rfl rfl rfl rfl rfl rfl rfl ⟨rfl, rfl, rfl, rfl, rfl⟩ rfl rfl rfl rfl rfl (by kernel_rfl) Try.func7 (by kernel_rfl)
    (of_decide_eq_true (by kernel_rfl)) (by unfold Func.isWrapper; first | (rw [if_pos (by decide +kernel)]; kernel_rfl) | (rw [if_neg (by decide +kernel)]; exact ⟨rfl, rfl⟩))
    (fun os started H enc _ => lifted os started H enc)

/-- THE STATEMENT -/
theorem proved : Rows.BitsJoinsSaid := over
end Go.Proofs.Ytaamobhlbahnhaa.bitsJoins

/- Proved: BitsLays returns true, for every list of Fields. No condition. -/
import Derived.Test.YtaamobhlbahnhaaFieldE
import Derived.Test.YtaamobhlbahnhaaRefBytes
import Derived.Test.YtaamobhlbahnhaaRegBy3
namespace Go.Proofs.Ytaamobhlbahnhaa.bitsLays
open Go.ChangeShapes Go.WideShapes Go.ChangeAt Go.RowKit Bit
set_option linter.unusedVariables false

structure Pair (w0 : World) (ba bb : Nat) (w : World) (sa sb : Value) (la lb : List Bool) : Prop where
  wa : Wr w0.heap.size w ba sa la
  rb : Rf w0.heap.size w bb sb lb
  na : sa.ownBlock ≠ some bb
  nb : sb.ownBlock ≠ some ba
  ab : ∀ g, sa.ownBlock = some g → sb.ownBlock ≠ some g
  ne : ba ≠ bb
  oa : w0.heap.size ≤ ba
  ob : w0.heap.size ≤ bb
  only : Only [] w0 w
section
variable {w0 : World} {ba bb : Nat} {w w' : World} {sa sa' sb sb' : Value} {la la' lb lb' : List Bool}
theorem Pair.keep (h : Pair w0 ba bb w sa sb la lb) (o : Only [] w w') : Pair w0 ba bb w' sa sb la lb :=
  ⟨h.wa.only o (by simp) (by simp), h.rb.only o (by simp) (by simp), h.na, h.nb, h.ab, h.ne, h.oa, h.ob, h.only.trans o⟩
theorem Pair.putA (h : Pair w0 ba bb w sa sb la lb) (k : Wr w0.heap.size w' ba sa' la') (m : Moved ba w w' sa sa') : Pair w0 ba bb w' sa' sb la' lb := by
  have l1 := h.rb.var.lt
  refine ⟨k, ?_, m.ne l1 h.na, h.nb, fun g hg e => ?_, h.ne, h.oa, h.ob, m.own h.only h.oa h.wa.from⟩
  · refine h.rb.only m.only ?_ fun g hg => ?_
    · simp [Option.mem_toList]; exact ⟨fun e => h.ne e.symm, fun e => h.na e⟩
    · simp [Option.mem_toList]; exact ⟨fun e => h.nb (e ▸ hg), fun e => h.ab g e hg⟩
  · rcases m.row g hg with c | c
    · exact h.ab g c e
    · have := h.rb.lt g e; omega
theorem Pair.putB (h : Pair w0 ba bb w sa sb la lb) (k : Rf w0.heap.size w' bb sb' lb') (m : Moved bb w w' sb sb') : Pair w0 ba bb w' sa sb' la lb' := by
  have l1 := h.wa.two.lt
  refine ⟨?_, k, h.na, m.ne l1 h.nb, fun g hg e => ?_, h.ne, h.oa, h.ob, m.own h.only h.ob h.rb.from⟩
  · refine h.wa.only m.only ?_ fun g hg => ?_
    · simp [Option.mem_toList]; exact ⟨h.ne, fun e => h.nb e⟩
    · simp [Option.mem_toList]; exact ⟨fun e => h.na (e ▸ hg), fun e => h.ab g hg e⟩
  · rcases m.row g e with c | c
    · exact h.ab g hg c
    · have := h.wa.lt g hg; omega
end
/-- the bits of the i-th, of all -/
def fb (V : Nat → Nat) (N : Nat → Int) (i : Nat) : List Bool := bitsOf (V i) (sz (szr (N i)))
def all (V : Nat → Nat) (N : Nat → Int) : Nat → List Bool
  | 0 => []
  | i + 1 => all V N i ++ fb V N i
theorem all_len (V : Nat → Nat) (N : Nat → Int) (i : Nat) : (all V N i).length ≤ 64 * i := by
  induction i with
  | zero => simp [all]
  | succ i ih => rw [all, List.length_append, fb, bitsOf_length]; have := sz_le (szr (N i)); omega
theorem signed_same (v : Nat) (hv : v < 18446744073709551616) : (IntKind.i64.wrap (v : Int) % 18446744073709551616).toNat = v := by rw [wrap_i64]; omega

set_option maxRecDepth 100000 in
set_option maxHeartbeats 4000000 in
theorem walk (s0 : Value) (n0 : Nat) (a0 : Nat → List Value) (w : World) (w0 : CameG 3 FieldE w s0 n0 a0) :
    Calls Try.prog 4 #[s0] w fun e w' => e = .returned (.bool true) ∧ Below w.heap.size w w' := by
  have hnot : ∀ (x : Bool) (w : World), (Op.unary .not (.bool x)).run Try.prog w = .ok (.bool (!x)) w := fun _ _ => rfl
  obtain ⟨a, cap, V, N, G, rfl, hn0, fl⟩ := flds_of w0
  clear w0 a0
  have FL : Hid (Flds w.heap.size w a n0 V N G) := fl
  clear fl
  obtain ⟨M, hM⟩ : ∃ M, min n0 30 = M := ⟨_, rfl⟩
  have hM30 : M ≤ 30 := by omega
  have HM : Hid _ := hM
  clear hM
  go_enter Try.func4, Try.ntmps4
  go_wp2_with fail
  refine (newWriter_any w).mono ?_
  rintro e x1 ⟨rfl, h1, o1, s1⟩
  have H1 : Hid _ := And.intro h1 o1
  clear h1 o1 s1
  go_wp2_with fail
  refine (known_any x1).mono ?_
  rintro e x2 ⟨rfl, o2⟩
  have H2 : Hid (Wr w.heap.size x2 w.heap.size (.slice none 0 0) [] ∧ Only [] w x2) := ⟨H1.out.1.only o2 (by simp) (by simp), H1.out.2.trans o2⟩
  clear o2 H1
  obtain ⟨B, hB⟩ : ∃ B, w.heap.size = B := ⟨_, rfl⟩
  have HB : Hid _ := hB
  rw [hB] at FL
  rw [hB]
  clear hB
  go_upto_block 0 with fail
  obtain ⟨x3, e3⟩ : ∃ x3, x3 = x2.alloc (.cells #[.slice none 0 0] 43) := ⟨_, rfl⟩
  have o3 : Only [] x2 x3 := e3 ▸ (Only.refl _ _).alloc _
  have P0 : Hid (Pair w B x2.heap.size x3 (.slice none 0 0) (.slice none 0 0) [] []) := by
    have hw := H2.out.1.two.lt
    have hs := H2.out.2.size
    have h := H2.out.1.only o3 (by simp) (by simp)
    rw [HB.out] at hw h hs
    refine ⟨by rw [HB.out]; exact h, ⟨e3 ▸ Var.new _ _ _, World.ownsRow_nil _ _ _ _, by simp [Value.ownBlock]⟩, by simp [Value.ownBlock], by simp [Value.ownBlock], by simp [Value.ownBlock], by omega, by rw [HB.out]; exact Nat.le_refl _, by rw [HB.out]; omega, H2.out.2.trans o3⟩
  rw [← e3]
  clear e3 o3 H2
  generalize x2.heap.size = bb at *
  go_wp2_with fail
  go_loopg [5] 31 (fun gk vi wr => ∃ (j : Nat) (sa sb : Value), vi = .int .i64 j ∧ j ≤ M ∧ 31 - j ≤ gk ∧ Hid (Pair w B bb wr sa sb (all V N j) (all V N j)))
  case atStart => exact ⟨0, _, _, rfl, by omega, by omega, P0.out⟩
  case round =>
    obtain ⟨j, sa, sb, rfl, hj, hg, HR⟩ := hrel
    have hal := all_len V N j
    by_cases hlt : j < M
    · have z0 : (0 : Int) ≤ (j : Int) := by omega
      have z1 : (j : Int) < (n0 : Int) := by have := HM.out; omega
      have z2 : (j : Int) < 30 := by omega
      obtain ⟨hV, b, o, rfl, hbB, hbw, c0, c1, c2⟩ := Flds.only FL.out HR.out.only (by simp) j (by omega)
      go_upto_if 29 with fail
      go_cut [] (fun wx => ∃ sa sb, Hid (Pair w B bb wx sa sb (all V N (j + 1)) (all V N (j + 1))))
      case first =>
       obtain ⟨gj, hgj⟩ : ∃ gj, G j = gj := ⟨_, rfl⟩
       rw [hgj] at c2 ⊢
       clear hgj
       cases gj
       · go_wp2_with fail
         go_still_tail 12, (by kernel_rfl)
         still_call ((szr_any _ _).mono fun _ _ h => ⟨h.1, h.2.symm⟩)
         repeat still_step
         refine wpStill_nil ?_
         change wpList _ _ _ _ _ wr.drew
         have P1 : Hid _ := HR.out.keep (only_drew wr)
         have c0 : wr.drew.cell? ⟨b, o + j * 3, none⟩ = some (.int .u64 (V j : Nat)) := c0
         have c1 : wr.drew.cell? ⟨b, o + j * 3 + 1, none⟩ = some (.int .i64 (N j)) := c1
         have hbw1 : b < wr.drew.heap.size := hbw
         clear HR
         generalize wr.drew = y1 at *
         go_wp2_with fail
         refine (put_any _ B (V j) _ hV (all V N j) (by omega) sa y1 P1.out.wa P1.out.only.size).mono ?_
         rintro e y2 ⟨rfl, sa2, h2, m2⟩
         have P2 : Hid (Pair w B bb y2 sa2 sb (all V N (j + 1)) (all V N j)) := P1.out.putA h2 m2
         have hS : ∀ g ∈ B :: sa.ownBlock.toList, B ≤ g := fun g hg => by
           rcases List.mem_cons.1 hg with rfl | hg
           · exact Nat.le_refl _
           · have := P1.out.wa.from g (by simpa [Option.mem_toList] using hg); have := HB.out; omega
         have hbn : b ∉ B :: sa.ownBlock.toList := fun h => by have := hS b h; omega
         have d0 : y2.cell? ⟨b, o + j * 3, none⟩ = some (.int .u64 (V j : Nat)) := (m2.only.cell (p := ⟨b, o + j * 3, none⟩) hbw1 hbn).trans c0
         have d1 : y2.cell? ⟨b, o + j * 3 + 1, none⟩ = some (.int .i64 (N j)) := (m2.only.cell (p := ⟨b, o + j * 3 + 1, none⟩) hbw1 hbn).trans c1
         have hbw2 : b < y2.heap.size := Nat.lt_of_lt_of_le hbw1 m2.only.size
         clear h2 m2 P1 hS hbn c0 c1
         go_wp2_with fail
         go_still_tail 12, (by kernel_rfl)
         still_call ((szr_any _ _).mono fun _ _ h => ⟨h.1, h.2.symm⟩)
         repeat still_step
         refine wpStill_nil ?_
         change wpList _ _ _ _ _ y2.drew
         have P3 : Hid _ := P2.out.keep (only_drew y2)
         clear P2 d0 d1 hbw2
         generalize y2.drew = y3 at *
         go_wp2_with fail
         refine (rput_any _ bb (V j) _ hV (all V N j) (by omega) sb y3 P3.out.rb P3.out.only.size).mono ?_
         rintro e y4 ⟨rfl, sb4, h4, m4⟩
         have P4 : Hid (Pair w B bb y4 sa2 sb4 (all V N (j + 1)) (all V N (j + 1))) := P3.out.putB h4 m4
         clear h4 m4 P3
         go_wp2_with fail
         go_meet
         exact ⟨sa2, sb4, P4.out⟩
       · go_wp2_with fail
         go_still_tail 13, (by kernel_rfl)
         still_call ((szr_any _ _).mono fun _ _ h => ⟨h.1, h.2.symm⟩)
         repeat still_step
         refine wpStill_nil ?_
         change wpList _ _ _ _ _ wr.drew
         have P1 : Hid _ := HR.out.keep (only_drew wr)
         have c0 : wr.drew.cell? ⟨b, o + j * 3, none⟩ = some (.int .u64 (V j : Nat)) := c0
         have c1 : wr.drew.cell? ⟨b, o + j * 3 + 1, none⟩ = some (.int .i64 (N j)) := c1
         have hbw1 : b < wr.drew.heap.size := hbw
         clear HR
         generalize wr.drew = y1 at *
         go_wp2_with fail
         try rw [← IntWalk.i64_left]
         refine (signed_any _ B _ _ (all V N j) (by omega) sa y1 P1.out.wa P1.out.only.size).mono ?_
         rintro e y2 ⟨rfl, sa2, h2, m2⟩
         rw [signed_same (V j) hV] at h2
         have P2 : Hid (Pair w B bb y2 sa2 sb (all V N (j + 1)) (all V N j)) := P1.out.putA h2 m2
         have hS : ∀ g ∈ B :: sa.ownBlock.toList, B ≤ g := fun g hg => by
           rcases List.mem_cons.1 hg with rfl | hg
           · exact Nat.le_refl _
           · have := P1.out.wa.from g (by simpa [Option.mem_toList] using hg); have := HB.out; omega
         have hbn : b ∉ B :: sa.ownBlock.toList := fun h => by have := hS b h; omega
         have d0 : y2.cell? ⟨b, o + j * 3, none⟩ = some (.int .u64 (V j : Nat)) := (m2.only.cell (p := ⟨b, o + j * 3, none⟩) hbw1 hbn).trans c0
         have d1 : y2.cell? ⟨b, o + j * 3 + 1, none⟩ = some (.int .i64 (N j)) := (m2.only.cell (p := ⟨b, o + j * 3 + 1, none⟩) hbw1 hbn).trans c1
         have hbw2 : b < y2.heap.size := Nat.lt_of_lt_of_le hbw1 m2.only.size
         clear h2 m2 P1 hS hbn c0 c1
         go_wp2_with fail
         go_still_tail 13, (by kernel_rfl)
         still_call ((szr_any _ _).mono fun _ _ h => ⟨h.1, h.2.symm⟩)
         repeat still_step
         refine wpStill_nil ?_
         change wpList _ _ _ _ _ y2.drew
         have P3 : Hid _ := P2.out.keep (only_drew y2)
         clear P2 d0 d1 hbw2
         generalize y2.drew = y3 at *
         go_wp2_with fail
         try rw [← IntWalk.i64_left]
         refine (rsigned_any _ bb _ _ (all V N j) (by omega) sb y3 P3.out.rb P3.out.only.size).mono ?_
         rintro e y4 ⟨rfl, sb4, h4, m4⟩
         rw [signed_same (V j) hV] at h4
         have P4 : Hid (Pair w B bb y4 sa2 sb4 (all V N (j + 1)) (all V N (j + 1))) := P3.out.putB h4 m4
         clear h4 m4 P3
         go_wp2_with fail
         go_meet
         exact ⟨sa2, sb4, P4.out⟩
      case rest =>
        obtain ⟨sa1, sb1, P5'⟩ := hcut
        have hal1 := all_len V N (j + 1)
        clear HR c0 c1 c2
        obtain ⟨L, hL⟩ : ∃ L, all V N (j + 1) = L := ⟨_, rfl⟩
        rw [hL] at P5' hal1
        have HL : Hid _ := hL
        obtain ⟨Z, hZ⟩ : ∃ Z, L.length = Z := ⟨_, rfl⟩
        have LZ : Hid _ := hZ
        have lZ : L.length ≤ 1000000000 := by omega
        obtain ⟨a5, c5, hsb⟩ : ∃ a5 c5, sb1 = .slice a5 Z c5 := by
          rcases P5'.out.rb.row.2 with ⟨h, h0⟩ | ⟨g, cap, cur, h, _⟩
          · exact ⟨none, 0, by rw [h, ← hZ, h0]⟩
          · exact ⟨_, cap, by rw [h, hZ]⟩
        subst hsb
        have P5 : Hid _ := P5'.out.keep (only_drew wc)
        obtain ⟨S, hS⟩ : ∃ S, str (pack L) = S := ⟨_, rfl⟩
        have HS : Hid _ := hS
        clear hL hZ P5' hS hnot
        go_wp2_with fail
        refine wp_region_by (Only []) (Only.refl []) Only.trans [(3, .pointer (some ⟨B, 0, none⟩)), (4, .pointer (some ⟨bb, 0, none⟩))] (by intro p hp; simp only [List.mem_cons, List.not_mem_nil, or_false] at hp; rcases hp with rfl | rfl <;> rfl) (by kernel_rfl) (by kernel_rfl) (fun _ => True) trivial ?_
        repeat (
          apply rb_val
          · first | rfl | exact ⟨by kernel_rfl, rfl⟩
          · intro a y hT hf
            have hcy := (P5.out.keep hT).rb.var.cell
            simp at hf
            go_simp
            try rfl)
        refine rb_call (fun y v => ReadB y v (pack L)) (fun _ => True) (by first | rfl | exact ⟨by kernel_rfl, rfl⟩) (by kernel_rfl) (fun y y' v o h => h.only o (by simp)) (fun a y _ hT hf => ?_) ?_
        · simp at hf
          go_simp
          refine (bytes_any _ B sa1 L lZ _ (P5.out.keep hT).wa).mono ?_
          rintro e ya ⟨va, rfl, ra, oa⟩
          exact ⟨va, rfl, ra.read (pack_lt _), oa⟩
        apply rb_val
        · first | rfl | exact ⟨by kernel_rfl, rfl⟩
        · intro a y hT hf
          simp at hf
          have cv := hf.2.conv
          rw [HS.out] at cv
          go_simp
          try rfl
        repeat (
          apply rb_val
          · first | rfl | exact ⟨by kernel_rfl, rfl⟩
          · intro a y hT hf
            have hcy := (P5.out.keep hT).rb.var.cell
            simp at hf
            go_simp
            try rfl)
        refine rb_call (fun y v => ReadB y v (pack L)) (fun _ => True) (by first | rfl | exact ⟨by kernel_rfl, rfl⟩) (by kernel_rfl) (fun y y' v o h => h.only o (by simp)) (fun a y _ hT hf => ?_) ?_
        · simp at hf
          go_simp
          refine (rbytes_any _ bb _ L lZ _ (P5.out.keep hT).rb).mono ?_
          rintro e ya ⟨va, rfl, ra, oa⟩
          exact ⟨va, rfl, ra.read (pack_lt _), oa⟩
        apply rb_val
        · first | rfl | exact ⟨by kernel_rfl, rfl⟩
        · intro a y hT hf
          simp at hf
          have cv := hf.2.conv
          rw [HS.out] at cv
          go_simp
          try rfl
        repeat (
          apply rb_val
          · first | rfl | exact ⟨by kernel_rfl, rfl⟩
          · intro a y hT hf
            have hcy := (P5.out.keep hT).rb.var.cell
            simp at hf
            go_simp
            try rfl)
        refine rb_call (fun _ v => v = .int .i64 (Z : Int)) (fun _ => True) (by first | rfl | exact ⟨by kernel_rfl, rfl⟩) (by kernel_rfl) (fun _ _ _ _ h => h) (fun a y _ hT hf => ?_) ?_
        · simp at hf
          go_simp
          refine (len_any _ B sa1 L _ (P5.out.keep hT).wa).mono ?_
          rintro e w' ⟨rfl, rfl⟩
          exact ⟨_, rfl, by rw [LZ.out], Only.refl _ _⟩
        repeat (
          apply rb_val
          · first | rfl | exact ⟨by kernel_rfl, rfl⟩
          · intro a y hT hf
            have hcy := (P5.out.keep hT).rb.var.cell
            simp at hf
            go_simp
            try rfl)
        intro y _ hy
        simp only [FinA, Sp.R, forall_eq]
        intro va _ vb _
        simp only [Act.put, List.setIfInBounds_toArray, List.set_cons_succ, List.set_cons_zero]
        have P6 : Hid (Pair w B bb y sa1 (.slice a5 Z c5) (all V N (j + 1)) (all V N (j + 1))) := by rw [HL.out]; exact P5.out.keep hy
        clear hy P5
        go_wp2_with fail
        go_roundg (31 - (j + 1))
        case measure => omega
        case rel => exact ⟨j + 1, _, _, by go_num, by omega, Nat.le_refl _, P6.out⟩
    · obtain rfl : j = M := by omega
      have HF : Hid (¬ ((j : Int) < (n0 : Int) ∧ (j : Int) < 30)) := by have := HM.out; show ¬ _; omega
      by_cases z1 : (j : Int) < (n0 : Int)
      · have z2 : ¬ (j : Int) < 30 := fun h => HF.out ⟨z1, h⟩
        go_wp2_with fail
        go_ret
        exact ⟨rfl, HR.out.only.below (Nat.le_refl _) (by simp)⟩
      · go_wp2_with fail
        go_ret
        exact ⟨rfl, HR.out.only.below (Nat.le_refl _) (by simp)⟩

set_option maxRecDepth 100000 in
theorem lifted (os : Os) (started : os.Started) (H : Type) (enc : TypeId × Value → H) :
    ReturnsInHanded {} Try.checked os 4 .any (Rows.bitsLaysSpec.pre6 enc Try.prog Try.f4 Rows.bitsLaysRow.domain false) (Rows.bitsLaysSpec.post enc Try.prog Try.f4 false true false false) := by
  refine returnsInHanded_of_change (C := Try.checked) own started (by kernel_rfl) Try.func4
    (ChangeSpec.witness6 (enc := enc) (C := Try.checked) false ⟨#[], #[.slice none 0 0], []⟩ 8 (by kernel_rfl) (by kernel_rfl) (by kernel_rfl) (by kernel_rfl)) ?_
  intro W base args ds gs before hval0 hW hcnd _
  have hval : ∀ (j : Nat) t v, Try.f4.params[j]? = some t → args[j]? = some v → Value.okWide Try.prog W .any base t v := hval0
  have hW' := hW
  obtain ⟨p, q, hA0, hV, rfl, hfz, hnd⟩ := hW
  have hA : DataW.TrodAll enc Try.prog W 0 (fun _ => true) true Try.f4.params.toList args.toList ds p := hA0
  rw [Try.params4] at hA hval
  obtain ⟨v0, vs0, d0, ds0, p0, q0, hargs, rfl, rfl, h0, r0⟩ := trodAll_cons hA
  obtain ⟨rfl, rfl, rfl⟩ := trodAll_nil r0
  obtain rfl : args = #[v0] := by cases args; simp_all
  obtain ⟨rfl, rfl⟩ := trodVars_none hV
  obtain ⟨e0, len0, cap0, rfl⟩ := okWide_slice Try.underlying39 (hval 0 39 v0 rfl rfl)
  have k0 := h0
  have lt0 : ∀ x ∈ p0, x.block < W.heap.size := by obtain ⟨m, hm⟩ := k0; exact DataW.trod_lt m _ _ _ hm
  obtain ⟨a0, w0⟩ := came_g (c := 3) (E := FieldE) Try.underlying39 (by kernel_rfl) (by decide) fieldE h0
  clear hA0 hval0
  refine (walk _ _ a0 W w0).mono fun e W' ⟨he, bel⟩ => ?_
  subst he
  exact ⟨_, rfl, _, _, _, [], _, [], hW', trodAll_mk1 (shut_bool Try.underlying4 _), (trodAll_cons_mk (Below.trod laidOut (by kernel_rfl) (of_decide_eq_true (by kernel_rfl)) k0 bel lt0) trodAll_mk0), rfl, bel.frame _, fun h => by cases h⟩

theorem over : Rows.bitsLaysRow.holds Try.pinned (OpenSpec.ofChange Rows.bitsLaysSpec) :=
  OpenClaim.holds_of_wide 4 Try.f4 rfl rfl rfl rfl rfl rfl rfl ⟨rfl, rfl, rfl, rfl, rfl⟩ rfl rfl rfl rfl rfl (by kernel_rfl) Try.func4 (by kernel_rfl)
    (of_decide_eq_true (by kernel_rfl)) (by unfold Func.isWrapper; first | (rw [if_pos (by decide +kernel)]; kernel_rfl) | (rw [if_neg (by decide +kernel)]; exact ⟨rfl, rfl⟩))
    (fun os started H enc _ => lifted os started H enc)

/-- THE STATEMENT -/
theorem proved : Rows.BitsLaysSaid := over
end Go.Proofs.Ytaamobhlbahnhaa.bitsLays

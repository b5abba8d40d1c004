/- Proved: BitsKnown returns true. No condition. -/
import Derived.Test.YtaamobhlbahnhaaBitsK
import Derived.Test.YtaamobhlbahnhaaFrame
import Derived.Laws.EntriesVeiled
namespace Go.Proofs.Ytaamobhlbahnhaa.bitsKnown
open Go.ChangeShapes Go.WideShapes Go.ChangeAt Go.RowKit Bit
set_option linter.unusedVariables false

def KL : List Bool := (((([] ++ bitsOf ((-1 : Int) % 18446744073709551616).toNat (sz 5)) ++ bitsOf 9223372036854775808 (sz 64)) ++ bitsOf 7 (sz 0)) ++ bitsOf 7 (sz (-2))) ++ bitsOf 3 (sz 99)
theorem KL_len : KL.length = 133 := by decide +kernel
def KB : List Nat := pack KL
theorem KB_len : KB.length = 17 := by decide +kernel
theorem k1 : sgn 5 (takenN KB 0 5) = -1 := by decide +kernel
theorem k2 : takenN KB 5 64 = 9223372036854775808 := by decide +kernel
theorem k3 : takenN KB 69 64 = 3 := by decide +kernel
theorem k4 : takenN KB 133 0 = 0 := by decide +kernel
theorem k5 : sgn 0 (takenN KB 133 0) = 0 := by decide +kernel
theorem k6 : takenN KB 133 3 = 0 := by decide +kernel

theorem lack1 (q b : Nat) (sv : Value) (w : World) (hq : Var w q (.pointer (some ⟨b, 0, none⟩))) (h : Rd w b sv KB 133) :
    Calls Try.prog 19 #[.pointer (some ⟨q, 0, none⟩)] w fun e w' => e = .panicked [{ v := thrownV 100 133, recovered := false }] ∧ Only [] w w' := by
  have c := hq.cell
  go_enter Try.func19, Try.ntmps19
  go_wp2_with fail
  refine (get_lack b sv KB 133 4 (by rw [KB_len]; omega) w h (by rw [KB_len]; decide)).mono ?_
  rintro e w1 ⟨rfl, h2⟩
  exact ⟨rfl, rfl, h2⟩
theorem lack2 (q b : Nat) (sv : Value) (w : World) (hq : Var w q (.pointer (some ⟨b, 0, none⟩))) (h : Rd w b sv KB 136) :
    Calls Try.prog 20 #[.pointer (some ⟨q, 0, none⟩)] w fun e w' => e = .panicked [{ v := thrownV 100 136, recovered := false }] ∧ Only [] w w' := by
  have c := hq.cell
  go_enter Try.func20, Try.ntmps20
  go_wp2_with fail
  refine (sget_lack b sv KB 136 1 (by rw [KB_len]; omega) w h (by rw [KB_len]; decide)).mono ?_
  rintro e w1 ⟨rfl, h2⟩
  exact ⟨rfl, rfl, h2⟩

/-- what is known between two calls -/
structure St (w : World) (b q : Nat) (sv : Value) (w' : World) (p : Nat) : Prop where
  rd : Rd w' b sv KB p
  var : Var w' q (.pointer (some ⟨b, 0, none⟩))
  only : Only [] w w'
theorem St.keep {w w1 w2 : World} {b q : Nat} {sv : Value} {p : Nat} (h : St w b q sv w1 p) (o : Only [] w1 w2) : St w b q sv w2 p := ⟨h.rd.only o (by simp) (by simp), h.var.only o (by simp), h.only.trans o⟩
theorem St.next {w w1 w2 : World} {b q : Nat} {sv : Value} {p p' : Nat} (h : St w b q sv w1 p) (r : Rd w2 b sv KB p') (o : Only [b] w1 w2) (bw : w.heap.size ≤ b) (n : b ≠ q) : St w b q sv w2 p' :=
  ⟨r, h.var.only o (by simpa using fun e => n (Eq.symm e)), h.only.then o (by simp; omega)⟩

set_option maxRecDepth 100000 in
set_option maxHeartbeats 4000000 in
theorem walk  (w : World) : Calls Try.prog 3 #[] w fun e w' => e = .returned (.bool true) ∧ Below w.heap.size w w' := by
  have hmf : ∀ (fn : Fn) (first cap : Array Value) (w : World), (Instr.makeFunc fn first cap).run Try.prog w = .ok (.func fn first cap) w := fun _ _ _ _ => rfl
  have hnot : ∀ (x : Bool) (w : World), (Op.unary .not (.bool x)).run Try.prog w = .ok (.bool (!x)) w := fun _ _ => rfl
  go_enter Try.func3, Try.ntmps3
  go_wp2_with fail
  refine (newWriter_any w).mono ?_
  rintro e w1 ⟨rfl, h1, o1, s1⟩
  have H1 : Hid _ := And.intro h1 o1
  clear h1 o1 s1
  go_wp2_with fail
  refine (known_any w1).mono ?_
  rintro e w2 ⟨rfl, o2⟩
  have H2 : Hid (Wr w.heap.size w2 w.heap.size (.slice none 0 0) [] ∧ Only [] w w2) := ⟨H1.out.1.only o2 (by simp) (by simp), H1.out.2.trans o2⟩
  clear o2 H1
  obtain ⟨B, hB⟩ : ∃ B, w.heap.size = B := ⟨_, rfl⟩
  have HB : Hid _ := hB
  rw [hB] at H2 ⊢
  have B2 : B ≤ w2.heap.size := by have := H2.out.2.size; omega
  clear hB
  go_wp2_with fail
  refine (signed_any B B (-1) 5 [] (by simp) _ w2 H2.out.1 B2).mono ?_
  rintro e w3 ⟨rfl, sv3, h3, m3⟩
  have H3 : Hid _ := And.intro h3 (m3.own H2.out.2 (by rw [HB.out]; exact Nat.le_refl _) (by simp [Value.ownBlock]))
  have B3 : B ≤ w3.heap.size := by have := m3.only.size; omega
  clear h3 m3
  go_wp2_with fail
  refine (put_any B B 9223372036854775808 64 (by omega) _ (by decide) sv3 w3 H3.out.1 B3).mono ?_
  rintro e w4 ⟨rfl, sv4, h4, m4⟩
  have H4 : Hid _ := And.intro h4 (m4.own H3.out.2 (by rw [HB.out]; exact Nat.le_refl _) (by rw [HB.out]; exact H3.out.1.from))
  have B4 : B ≤ w4.heap.size := by have := m4.only.size; omega
  clear h4 m4
  go_wp2_with fail
  refine (put_any B B 7 0 (by omega) _ (by decide +kernel) sv4 w4 H4.out.1 B4).mono ?_
  rintro e w5 ⟨rfl, sv5, h5, m5⟩
  have H5 : Hid _ := And.intro h5 (m5.own H4.out.2 (by rw [HB.out]; exact Nat.le_refl _) (by rw [HB.out]; exact H4.out.1.from))
  have B5 : B ≤ w5.heap.size := by have := m5.only.size; omega
  clear h5 m5
  go_wp2_with fail
  refine (put_any B B 7 (-2) (by omega) _ (by decide +kernel) sv5 w5 H5.out.1 B5).mono ?_
  rintro e w6 ⟨rfl, sv6, h6, m6⟩
  have H6 : Hid _ := And.intro h6 (m6.own H5.out.2 (by rw [HB.out]; exact Nat.le_refl _) (by rw [HB.out]; exact H5.out.1.from))
  have B6 : B ≤ w6.heap.size := by have := m6.only.size; omega
  clear h6 m6
  go_wp2_with fail
  refine (put_any B B 3 99 (by omega) _ (by decide +kernel) sv6 w6 H6.out.1 B6).mono ?_
  rintro e w7 ⟨rfl, sv7, h7, m7⟩
  have H7 : Hid (Wr B w7 B sv7 KL ∧ Only [] w w7) := And.intro h7 (m7.own H6.out.2 (by rw [HB.out]; exact Nat.le_refl _) (by rw [HB.out]; exact H6.out.1.from))
  clear h7 m7 H2 H3 H4 H5 H6
  go_wp2_with fail
  refine (bytes_any B B sv7 KL (by rw [KL_len]; omega) w7 H7.out.1).mono ?_
  rintro e w8 ⟨v8, rfl, h8, o8⟩
  have H8 : Hid (RowB w7.heap.size w8 v8 KB ∧ Wr B w8 B sv7 KL ∧ Only [] w w8) := ⟨h8, H7.out.1.only o8 (by simp) (by simp), H7.out.2.trans o8⟩
  clear h8 o8 H7
  go_wp2_with fail
  refine (newReader_any v8 KB w8 (H8.out.1.read (pack_lt _)) (by rw [KB_len]; omega)).mono ?_
  rintro e w9 ⟨b, sv, rfl, hb, hsv, h9, o9⟩
  have H9 : Hid (Rd w9 b sv KB 0 ∧ Wr B w9 B sv7 KL ∧ Only [] w w9) := ⟨h9, H8.out.2.1.only o9 (by simp) (by simp), H8.out.2.2.trans o9⟩
  have lb : b < w9.heap.size := h9.two.lt
  have bw : w.heap.size ≤ b := by have := H8.out.2.2.size; omega
  clear h9 o9 H8 hsv
  go_wp2_with fail
  obtain ⟨w10, e10⟩ : ∃ w10, w10 = w9.alloc (.cells #[.pointer (some ⟨b, 0, none⟩)] 28) := ⟨_, rfl⟩
  have o10 : Only [] w9 w10 := e10 ▸ (Only.refl _ _).alloc _
  have A : Hid (St w b w9.heap.size sv w10 0 ∧ Wr B w10 B sv7 KL) := by
    refine ⟨⟨H9.out.1.only o10 (by simp) (by simp), e10 ▸ Var.new _ _ _, H9.out.2.2.trans o10⟩, H9.out.2.1.only o10 (by simp) (by simp)⟩
  have s10 : w10.heap.size = w9.heap.size + 1 := by rw [e10]; simp
  rw [← e10]
  have hq : b < w9.heap.size := lb
  have wq : w.heap.size ≤ w9.heap.size := by omega
  clear e10 o10 H9
  obtain ⟨q, hqq⟩ : ∃ q, w9.heap.size = q := ⟨_, rfl⟩
  rw [hqq] at A hq s10 lb wq ⊢
  have lq : q < w10.heap.size := by omega
  clear hqq s10
  have hbq : b ≠ q := by omega
  refine (len_any B B sv7 KL w10 A.out.2).mono ?_
  rintro e w' ⟨rfl, rfl⟩
  rw [KL_len]
  have S0 : Hid _ := A.out.1
  clear A
  have c0 := S0.out.var.cell
  go_wp2_with fail
  refine (sget_any b sv KB 0 5 (by rw [KB_len]; omega) _ S0.out.rd (by rw [KB_len]; decide)).mono ?_
  rintro e w11 ⟨rfl, h11, o11⟩
  have S1 : Hid (St w b q sv w11 5) := S0.out.next h11 o11 bw hbq
  rw [show sz 5 = 5 from rfl, k1]
  clear h11 o11 c0
  have c0 := S1.out.var.cell
  go_wp2_with fail
  refine (get_any b sv KB 5 64 (by rw [KB_len]; omega) _ S1.out.rd (by rw [KB_len]; decide)).mono ?_
  rintro e w12 ⟨rfl, h12, o12⟩
  have S2 : Hid (St w b q sv w12 69) := S1.out.next h12 o12 bw hbq
  rw [show sz 64 = 64 from rfl, k2]
  clear h12 o12 c0
  have c0 := S2.out.var.cell
  go_wp2_with fail
  refine (get_any b sv KB 69 64 (by rw [KB_len]; omega) _ S2.out.rd (by rw [KB_len]; decide)).mono ?_
  rintro e w13 ⟨rfl, h13, o13⟩
  have S3 : Hid (St w b q sv w13 133) := S2.out.next h13 o13 bw hbq
  rw [show sz 64 = 64 from rfl, k3]
  clear h13 o13 c0
  have c0 := S3.out.var.cell
  go_wp2_with fail
  refine (left_any b sv KB 133 (by rw [KB_len]; omega) _ S3.out.rd).mono ?_
  rintro e w14 ⟨rfl, m, rfl⟩
  have S4 : Hid (St w b q sv (w13.drewN m) 133) := S3.out.keep (only_drewN _ _)
  rw [KB_len, show 8 * 17 - 133 = 3 from rfl]
  clear c0
  generalize w13.drewN m = w14 at *
  have c0 := S4.out.var.cell
  go_wp2_with fail
  refine (get_any b sv KB 133 0 (by rw [KB_len]; omega) _ S4.out.rd (by rw [KB_len]; decide)).mono ?_
  rintro e w15 ⟨rfl, h15, o15⟩
  have S5 : Hid (St w b q sv w15 133) := S4.out.next h15 o15 bw hbq
  rw [show sz 0 = 0 from rfl, k4]
  clear h15 o15 c0
  have lq5 : q < w15.heap.size := S5.out.var.lt
  go_wp2_with fail
  refine catch_any 19 _ [] _ (by simp) (by simp) (by simp [go_sem]) ?_
  have ic := inCatch_only w15
  refine (lack1 q b sv _ (S5.out.var.only ic (by simp)) (S5.out.rd.only ic (by simp) (by simp))).mono ?_
  rintro e w16 ⟨rfl, o16⟩
  refine ⟨o16, _, .thrown 100 133 [] (by simp), ?_⟩
  intro w17 o17
  have S6 : Hid (St w b q sv w17 133) := S5.out.keep ((ic.trans o16).then o17 (by simp))
  clear ic o16 o17
  have l17 : q < w17.heap.size := S6.out.var.lt
  have c0 := fun o => (S6.out.var.alloc o).cell
  go_wp2_with fail
  clear c0
  obtain ⟨w18, e18⟩ : ∃ w18, w18 = w17.alloc (.cells #[.int .i64 100, .int .i64 133] 36) := ⟨_, rfl⟩
  have o18 : Only [] w17 w18 := e18 ▸ (Only.refl _ _).alloc _
  have f18 : Two w18 w17.heap.size (.int .i64 100) (.int .i64 133) := e18 ▸ Two.new _ _ _ _
  have S7 : Hid (St w b q sv w18 133) := S6.out.keep o18
  rw [← e18]
  clear e18 o18 S6
  obtain ⟨u, hu⟩ : ∃ u, w17.heap.size = u := ⟨_, rfl⟩
  rw [hu] at f18 l17 ⊢
  have bu : b ≠ u := by omega
  clear hu
  refine (sget_any b sv KB 133 0 (by rw [KB_len]; omega) _ S7.out.rd (by rw [KB_len]; decide)).mono ?_
  rintro e w19 ⟨rfl, h19, o19⟩
  have S8 : Hid (St w b q sv w19 133) := S7.out.next h19 o19 bw hbq
  have f19 := f18.only o19 (by simpa using fun e => bu (Eq.symm e))
  rw [show sz 0 = 0 from rfl, k5]
  clear h19 o19 f18
  have c0 := S8.out.var.cell
  go_wp2_with fail
  refine (get_any b sv KB 133 3 (by rw [KB_len]; omega) _ S8.out.rd (by rw [KB_len]; decide)).mono ?_
  rintro e w20 ⟨rfl, h20, o20⟩
  have S9 : Hid (St w b q sv w20 136) := S8.out.next h20 o20 bw hbq
  have f20 := f19.only o20 (by simpa using fun e => bu (Eq.symm e))
  rw [show sz 3 = 3 from rfl, k6]
  clear h20 o20 f19 c0
  have lq9 : q < w20.heap.size := S9.out.var.lt
  go_wp2_with fail
  refine catch_any 20 _ [] _ (by simp) (by simp) (by simp [go_sem]) ?_
  have ic := inCatch_only w20
  refine (lack2 q b sv _ (S9.out.var.only ic (by simp)) (S9.out.rd.only ic (by simp) (by simp))).mono ?_
  rintro e w21 ⟨rfl, o21⟩
  refine ⟨o21, _, .thrown 100 136 [] (by simp), ?_⟩
  intro w22 o22
  have o : Only [] w20 w22 := (ic.trans o21).then o22 (by simp)
  have S10 : Hid (St w b q sv w22 136) := S9.out.keep o
  have f22 := f20.only o (by simp)
  clear ic o21 o22 o f20
  have l22 : q < w22.heap.size := S10.out.var.lt
  have c0 := fun o => (S10.out.var.alloc o).cell
  have c1 := fun o => (f22.alloc o).cell0
  have c2 := fun o => (f22.alloc o).cell1
  go_wp2_with fail
  have oe : Only [] w22 (w22.alloc (.cells #[.int .i64 100, .int .i64 136] 36)) := (Only.refl _ _).alloc _
  have S11 : Hid (St w b q sv (w22.alloc (.cells #[.int .i64 100, .int .i64 136] 36)) 136) := S10.out.keep oe
  refine (left_any b sv KB 136 (by rw [KB_len]; omega) _ S11.out.rd).mono ?_
  rintro e w23 ⟨rfl, m, rfl⟩
  have o23 := (S11.out.keep (only_drewN _ m)).only
  rw [KB_len, show 8 * 17 - 136 = 0 from rfl]
  have O23 : Hid _ := o23
  clear o23 S11 S10 c0 c1 c2 oe
  generalize (w22.alloc (.cells #[.int .i64 100, .int .i64 136] 36)).drewN m = w24 at *
  go_wp2_with fail
  go_ret
  exact ⟨rfl, O23.out.below (Nat.le_refl _) (by simp)⟩

set_option maxRecDepth 100000 in
theorem lifted (os : Os) (started : os.Started) (H : Type) (enc : TypeId × Value → H) :
    ReturnsInHanded {} Try.checked os 3 .any (Rows.bitsKnownSpec.pre6 enc Try.prog Try.f3 Rows.bitsKnownRow.domain false) (Rows.bitsKnownSpec.post enc Try.prog Try.f3 false true false false) := by
  refine returnsInHanded_of_change (C := Try.checked) own started (by kernel_rfl) Try.func3
    (ChangeSpec.witness6 (enc := enc) (C := Try.checked) false ⟨#[], #[], []⟩ 8 (by kernel_rfl) (by kernel_rfl) (by kernel_rfl) (by kernel_rfl)) ?_
  intro W base args ds gs before hval0 hW hcnd _
  have hval : ∀ (j : Nat) t v, Try.f3.params[j]? = some t → args[j]? = some v → Value.okWide Try.prog W .any base t v := hval0
  have hW' := hW
  obtain ⟨p, q, hA0, hV, rfl, hfz, hnd⟩ := hW
  have hA : DataW.TrodAll enc Try.prog W 0 (fun _ => true) true Try.f3.params.toList args.toList ds p := hA0
  rw [Try.params3] at hA hval
  obtain ⟨rfl, rfl, rfl⟩ := trodAll_none hA
  obtain ⟨rfl, rfl⟩ := trodVars_none hV
  clear hA0 hval0
  refine (walk  W ).mono fun e W' ⟨he, bel⟩ => ?_
  subst he
  exact ⟨_, rfl, _, _, _, [], _, [], hW', trodAll_mk1 (shut_bool Try.underlying4 _), trodAll_mk0, rfl, bel.frame _, fun h => by cases h⟩

theorem over : Rows.bitsKnownRow.holds Try.pinned (OpenSpec.ofChange Rows.bitsKnownSpec) :=
  OpenClaim.holds_of_wide 3 Try.f3 rfl rfl rfl rfl rfl rfl rfl ⟨rfl, rfl, rfl, rfl, rfl⟩ rfl rfl rfl rfl rfl (by kernel_rfl) Try.func3 (by kernel_rfl)
    (of_decide_eq_true (by kernel_rfl)) (by unfold Func.isWrapper; first | (rw [if_pos (by decide +kernel)]; kernel_rfl) | (rw [if_neg (by decide +kernel)]; exact ⟨rfl, rfl⟩))
    (fun os started H enc _ => lifted os started H enc)

/-- THE STATEMENT -/
theorem proved : Rows.BitsKnownSaid := over
end Go.Proofs.Ytaamobhlbahnhaa.bitsKnown

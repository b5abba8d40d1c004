/- The reference's reader: Signed; the hand's Few. -/
import Derived.Test.YtaamobhlbahnhaaRefRead
import Derived.Test.YtaamobhlbahnhaaRefBits
namespace Go.Proofs.Ytaamobhlbahnhaa
open Go.RowKit Bit

theorem top_bit (T m : Nat) (h : T < 2 ^ (m + 1)) : T.testBit m = decide (2 ^ m ≤ T) := by
  have p := Nat.two_pow_pos m
  rw [Nat.testBit_eq_decide_div_mod_eq]
  by_cases hm : 2 ^ m ≤ T
  · have : T / 2 ^ m = 1 := by
      rw [Nat.pow_succ] at h
      apply Nat.div_eq_of_lt_le <;> omega
    rw [this]; simp [hm]
  · rw [Nat.div_eq_of_lt (by omega)]; simp [hm]
theorem sg1 (T m : Nat) (hm : m ≤ 63) (h : T < 2 ^ m) : IntKind.i64.wrap (T : Int) = sgn (m + 1) T := by
  have := Nat.pow_le_pow_right (show 0 < 2 by decide) hm
  have e : (2 : Nat) ^ 63 = 9223372036854775808 := by decide
  rw [wrap_i64]
  unfold sgn
  rw [if_neg (by omega), if_pos (by simpa using h)]
  omega
theorem sg2 (T m : Nat) (hm : m + 1 < 64) (h : T < 2 ^ (m + 1)) (h2 : 2 ^ m ≤ T) : IntKind.i64.wrap (IntKind.i64.wrap (T : Int) - IntKind.i64.wrap ((2 : Int) ^ (m + 1))) = sgn (m + 1) T := by
  have p1 : (2 : Int) ^ (m + 1) = ((2 ^ (m + 1) : Nat) : Int) := by simp
  have l1 := Nat.pow_le_pow_right (show 0 < 2 by decide) (show m + 1 ≤ 63 by omega)
  have e : (2 : Nat) ^ 63 = 9223372036854775808 := by decide
  have s : 2 ^ (m + 1) = 2 * 2 ^ m := by rw [Nat.pow_succ]; omega
  rw [wrap_i64, wrap_i64, wrap_i64, p1]
  unfold sgn
  rw [if_neg (by omega), if_neg (by simpa using h2), p1]
  rw [e] at l1
  generalize 2 ^ (m + 1) = A at *
  generalize 2 ^ m = C at *
  omega
theorem sg3 (T : Nat) (h : T < 2 ^ 64) (h2 : 2 ^ 63 ≤ T) : IntKind.i64.wrap (T : Int) = sgn 64 T := by
  have e : (2 : Nat) ^ 64 = 18446744073709551616 := by decide
  have e2 : (2 : Nat) ^ 63 = 9223372036854775808 := by decide
  have e3 : (2 : Int) ^ 64 = 18446744073709551616 := by decide
  rw [wrap_i64]
  unfold sgn
  rw [if_neg (by omega), if_neg (by show ¬ T < 2 ^ 63; omega), e3]
  omega

def RSPost (b : Nat) (sv : Value) (bs : List Nat) (p k : Nat) (w : World) (e : Ending) (w' : World) : Prop :=
  e = .returned (.int .i64 (sgn k (takenN bs p k))) ∧ RR w' b sv bs (p + k) false ∧ Only [b] w w'
def RSLackPost (b : Nat) (sv : Value) (bs : List Nat) (p : Nat) (w : World) (e : Ending) (w' : World) : Prop :=
  e = .returned (.int .i64 0) ∧ RR w' b sv bs p true ∧ Only [b] w w'

set_option maxHeartbeats 1000000 in
theorem rsget_any (b : Nat) (sv : Value) (bs : List Nat) (p : Nat) (n : Int) (hl : bs.length ≤ 1099511627776) (w : World) (h : RR w b sv bs p false) (hk : p + sz n ≤ 8 * bs.length) :
    Calls Try.prog 27 #[.pointer (some ⟨b, 0, none⟩), .int .i64 n] w (RSPost b sv bs p (sz n) w) := by
  have H : Hid _ := h
  have hN := sz_le n
  clear h
  go_enter Try.func27, Try.ntmps27
  go_wp2_with fail
  refine (rget_any b sv bs p n hl w H.out hk).mono ?_
  rintro e w1 ⟨rfl, h1, h2⟩
  have HH : Hid _ := And.intro h1 h2
  have tl := taken_lt bs p (sz n)
  obtain ⟨T, hT⟩ : ∃ T, takenN bs p (sz n) = T := ⟨_, rfl⟩
  rw [hT] at tl
  rw [hT]
  have HT : Hid _ := hT
  clear h1 h2 hk H hT
  go_upto_region 2 with fail
  go_cut [1] (fun v1 wx => wx = w1 ∧ v1 = .int .i64 (sz n : Int))
  case first =>
    rcases (show n < 0 ∨ (0 ≤ n ∧ n ≤ 64) ∨ 64 < n by omega) with h | h | h
    all_goals
      go_wp2_with fail
      all_goals
        go_meet
        refine ⟨rfl, ?_⟩
        congr 1
        unfold sz
        omega
  case rest =>
    obtain ⟨rfl, rfl⟩ := hcut
    generalize sz n = N at *
    cases N with
    | zero =>
      go_wp2_with fail
      go_ret
      exact ⟨by rw [HT.out]; exact ret_num (by simp [sgn]), HH.out.1, HH.out.2⟩
    | succ m =>
      have z0 : ¬ ((m : Int) + 1) = 0 := by omega
      have z1 : ((m : Int) + 1 == 0) = false := by simpa using z0
      have lT : T < 18446744073709551616 := by
        have := Nat.pow_le_pow_right (show 0 < 2 by decide) hN
        have e : (2 : Nat) ^ 64 = 18446744073709551616 := by decide
        omega
      have hbit := bit_and T m lT
      rw [top_bit T m tl] at hbit
      by_cases hm : 2 ^ m ≤ T
      · rw [decide_eq_true hm] at hbit
        simp only [Bool.toNat_true] at hbit
        by_cases h64 : m + 1 < 64
        · have z2 : (m : Int) + 1 < 64 := by omega
          have S2 : Hid _ := sg2 T m h64 tl hm
          clear tl hm
          go_wp2_with fail
          go_ret
          refine ⟨?_, HH.out.1, HH.out.2⟩
          rw [HT.out]
          refine ret_num ?_
          rw [← S2.out]
          simp only [IntWalk.i64_left]
        · have z2 : ¬ (m : Int) + 1 < 64 := by omega
          have S3 : Hid (IntKind.i64.wrap (T : Int) = sgn (m + 1) T) := by
            obtain rfl : m = 63 := by omega
            exact sg3 T tl hm
          clear tl hm
          go_wp2_with fail
          go_ret
          refine ⟨?_, HH.out.1, HH.out.2⟩
          rw [HT.out]
          refine ret_num ?_
          rw [← S3.out]
          simp only [IntWalk.i64_left]
      · rw [decide_eq_false hm] at hbit
        simp only [Bool.toNat_false] at hbit
        have S1 : Hid _ := sg1 T m (by omega) (by omega)
        clear tl hm
        go_wp2_with fail
        go_ret
        refine ⟨?_, HH.out.1, HH.out.2⟩
        rw [HT.out]
        refine ret_num ?_
        rw [← S1.out]
        simp only [IntWalk.i64_left]

set_option maxHeartbeats 1000000 in
theorem rsget_lack (b : Nat) (sv : Value) (bs : List Nat) (p : Nat) (n : Int) (hl : bs.length ≤ 1099511627776) (w : World) (h : RR w b sv bs p false) (hk : 8 * bs.length < p + sz n) :
    Calls Try.prog 27 #[.pointer (some ⟨b, 0, none⟩), .int .i64 n] w (RSLackPost b sv bs p w) := by
  have H : Hid _ := h
  have hN := sz_le n
  have hN0 : 0 < sz n := by have := h.le; omega
  clear h
  go_enter Try.func27, Try.ntmps27
  go_wp2_with fail
  refine (rget_lack b sv bs p n hl w H.out hk).mono ?_
  rintro e w1 ⟨rfl, h1, h2⟩
  have HH : Hid _ := And.intro h1 h2
  clear h1 h2 hk H
  go_upto_region 2 with fail
  go_cut [1] (fun v1 wx => wx = w1 ∧ v1 = .int .i64 (sz n : Int))
  case first =>
    rcases (show n < 0 ∨ (0 ≤ n ∧ n ≤ 64) ∨ 64 < n by omega) with h | h | h
    all_goals
      go_wp2_with fail
      all_goals
        go_meet
        refine ⟨rfl, ?_⟩
        congr 1
        unfold sz
        omega
  case rest =>
    obtain ⟨rfl, rfl⟩ := hcut
    generalize sz n = N at *
    have z0 : ¬ (N : Int) = 0 := by omega
    have z1 : ((N : Int) == 0) = false := by simpa using z0
    have z2 : 1 ≤ N := by omega
    have hbit : bits BinOp.and IntKind.u64 0 1 = 0 := by decide
    go_wp2_with fail
    go_ret
    exact ⟨rfl, HH.out.1, HH.out.2⟩

/-- the hand's Few of bytes that came in -/
def FewPost (w : World) (bs : List Nat) (e : Ending) (w' : World) : Prop := ∃ v, e = .returned v ∧ RowB w.heap.size w' v bs ∧ Only [] w w'
set_option maxHeartbeats 1000000 in
theorem few_any (a : Option Addr) (cap : Nat) (bs : List Nat) (n : Nat) (w : World) (h : ReadB w (.slice a bs.length cap) bs) (hc : bs.length ≤ cap) (hm : cap ≤ 9223372036854775807) (hn : n ≤ 1000) :
    Calls Try.prog 25 #[.slice a bs.length cap, .int .i64 n] w (FewPost w (bs.take n)) := by
  obtain ⟨h8, a', cap', e, h⟩ := h
  simp only [Value.slice.injEq, true_and] at e
  obtain ⟨rfl, rfl⟩ := e
  obtain ⟨K, hK⟩ : ∃ K, min bs.length n = K := ⟨_, rfl⟩
  have hlen : (bs.take n).length = K := by rw [List.length_take]; omega
  have z1 : (0 : Int) ≤ (K : Int) := by omega
  have z2 : (K : Int) ≤ (cap : Int) := by omega
  have lK : K ≤ 1000 := by omega
  have LEN : Hid _ := hlen
  obtain ⟨i0, hi, hz0, hz1, hz2⟩ := info_parts info_u8
  have A : Hid (∀ ad, a = some ad → ∀ j u, (bv (bs.take n))[j]? = some u → (w.alloc (.cells #[] 5)).cell? (ad.add j) = some u) := by
    show ∀ ad, _ → ∀ j u, _ → _
    intro ad had j u hj
    have hjn : j < K := by
      have := (List.getElem?_eq_some_iff.1 hj).1
      simp only [bv_length] at this
      omega
    rcases h with rfl | ⟨b, off, hab, hb, hcc⟩
    · simp at hK; omega
    · rw [had] at hab
      injection hab with hab
      subst hab
      rw [Addr.add_lit]
      refine Lib.cell?_alloc_some _ ?_
      rw [hcc j (by omega), ← hj, bv_get (bs.take n) j (bs.getD j 0) (by simp [List.getD_eq_getElem?_getD, show j < n by omega, show j < bs.length by omega])]
  have HK : Hid _ := hK
  have HN : Hid (a = none → bs = []) := fun e => by
    rcases h with h | ⟨b, off, hab, _⟩
    · exact h
    · rw [e] at hab; cases hab
  clear h h8 hlen hK
  have FIN : Hid (∀ v' w1, w1.ownsRow w.heap.size 5 1 v' K (bv (bs.take n)) → (w.alloc (.cells #[] 5)).grownBy w1 (Value.slice (some ⟨w.heap.size, 0, none⟩) 0 0).ownBlock → FewPost w (bs.take n) (.returned v') w1) := by
    show ∀ v' w1, _ → _ → _
    intro v' w1 hown hgrow
    refine ⟨v', rfl, ?_, ((Only.refl [] w).alloc _).then (grown_only hgrow) (by simp [Value.ownBlock])⟩
    unfold RowB
    rw [LEN.out]
    exact hown
  cases a with
  | none =>
    obtain rfl := HN.out rfl
    have hK0 : K = 0 := by have := HK.out; simp at this; omega
    have zn : ¬ (n : Int) < 0 := by omega
    go_enter Try.func25, Try.ntmps25
    go_wp2_with fail
    go_ret
    refine ⟨_, rfl, ?_, (Only.refl [] w).alloc _⟩
    unfold RowB
    simpa [bv] using World.ownsRow_made w #[] 0 (Nat.le_refl _) (Nat.zero_le _) rfl
  | some ad =>
    have A2 : Hid _ := A.out ad rfl
    clear A
    by_cases hnl : n < bs.length
    · have hnl' : (n : Int) < (bs.length : Int) := by omega
      obtain rfl : K = n := by have := HK.out; omega
      go_enter Try.func25, Try.ntmps25
      go_wp2_with (at_builtin; refine wpList_append_own _ rfl _ _ 30 rfl w.heap.size 5 i0 (.int .u8 0) 1 1 Try.underlying30 hi hz0 hz1 hz2 rfl (by decide) _ _ _ rfl (World.ownsRow_made w #[] 0 (Nat.le_refl _) (Nat.zero_le _) rfl) ad K cap (bv (bs.take K)) rfl ?qc1 A2.out (bv_one _) ?qc4 ?qc5 ?qc6 ?_)
      case qc1 => rw [bv_length, LEN.out]; omega
      case qc4 => unfold maxLen; omega
      case qc5 => omega
      case qc6 => simp
      intro v' w1 hown hgrow hnil
      have FF : Hid _ := FIN.out v' w1 hown hgrow
      clear hown hgrow hnil
      go_wp2_with fail
      go_ret
      exact FF.out
    · have hnl' : ¬ (n : Int) < (bs.length : Int) := by omega
      obtain rfl : K = bs.length := by have := HK.out; omega
      go_enter Try.func25, Try.ntmps25
      go_wp2_with (at_builtin; refine wpList_append_own _ rfl _ _ 30 rfl w.heap.size 5 i0 (.int .u8 0) 1 1 Try.underlying30 hi hz0 hz1 hz2 rfl (by decide) _ _ _ rfl (World.ownsRow_made w #[] 0 (Nat.le_refl _) (Nat.zero_le _) rfl) ad bs.length cap (bv (bs.take n)) rfl ?qd1 A2.out (bv_one _) ?qd4 ?qd5 ?qd6 ?_)
      case qd1 => omega
      case qd4 => unfold maxLen; omega
      case qd5 => omega
      intro v' w1 hown hgrow hnil
      have FF : Hid _ := FIN.out v' w1 hown hgrow
      clear hown hgrow hnil
      go_wp2_with fail
      go_ret
      exact FF.out
end Go.Proofs.Ytaamobhlbahnhaa

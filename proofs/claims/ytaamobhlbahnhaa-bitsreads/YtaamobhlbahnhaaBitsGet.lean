/- Package bits: Get. -/
import Derived.Test.YtaamobhlbahnhaaBitsR
import Derived.Deep.QuietTactic
import Derived.Deep.RegionWith
namespace Go.Proofs.Ytaamobhlbahnhaa
open Go.RowKit Bit

/-- what n bits at p are -/
def takenN (bs : List Nat) (p n : Nat) : Nat := num (((bitsB bs).drop p).take n)
def GetPost (b : Nat) (sv : Value) (bs : List Nat) (p k : Nat) (w : World) (e : Ending) (w' : World) : Prop :=
  e = .returned (.int .u64 (takenN bs p k : Nat)) ∧ Rd w' b sv bs (p + k) ∧ Only [b] w w'
def LackPost (p : Nat) (w : World) (e : Ending) (w' : World) : Prop := e = .panicked [{ v := thrownV 100 p, recovered := false }] ∧ Only [] w w'

set_option maxHeartbeats 1000000 in
theorem get_lack (b : Nat) (sv : Value) (bs : List Nat) (p : Nat) (n : Int) (hl : bs.length ≤ 1099511627776) (w : World) (h : Rd w b sv bs p) (hk : 8 * bs.length < p + sz n) :
    Calls Try.prog 16 #[.pointer (some ⟨b, 0, none⟩), .int .i64 n] w (LackPost p w) := by
  have le := h.le
  have H : Hid _ := h
  have c1 := h.two.cell1
  have hN := sz_le n
  clear h
  go_enter Try.func16, Try.ntmps16
  go_wp2_with fail
  refine (size_any _ _).mono ?_
  rintro e w' ⟨rfl, rfl⟩
  go_wp2_with fail
  generalize sz n = N at *
  have hleft := fun W hW => left_any b sv bs p hl W hW
  obtain ⟨R, hR⟩ : ∃ R, 8 * bs.length - p = R := ⟨_, rfl⟩
  rw [hR] at hleft
  have HL : Hid _ := hleft
  have z1 : decide (N ≤ R) = false := by simp; omega
  have z2 : ¬ (N : Int) ≤ (R : Int) := by omega
  clear hleft hR
  refine wp_region_any (by kernel_rfl) ?_
  change wpAny _ _ _ _ _ _ _ (World.drew _)
  refine wpAny_take (i := 0) (v := ?_) rfl (by kernel_rfl) (by kernel_rfl) (by kernel_rfl) (fun _ _ _ h => h) (Or.inl ⟨by rfl, by intro w; go_simp; try with_reducible rfl⟩) ?_
  refine wpAny_take (i := 1) (v := ?_) rfl (by kernel_rfl) (by kernel_rfl) (by kernel_rfl) (fun _ _ _ h => h) (Or.inl ⟨by rfl, by intro w; go_simp; try with_reducible rfl⟩) ?_
  refine wpAny_take (i := 4) (v := ?_) rfl (by kernel_rfl) (by kernel_rfl) (by kernel_rfl) (fun _ _ _ h => h) (Or.inl ⟨by rfl, by intro w; go_simp; try with_reducible rfl⟩) ?_
  refine wpAny_take (i := 5) (v := ?_) rfl (by kernel_rfl) (by kernel_rfl) (by kernel_rfl) (fun _ _ _ h => h) (Or.inl ⟨by rfl, by intro w; go_simp; try with_reducible rfl⟩) ?_
  refine wpAny_take (i := 6) (v := ?_) rfl (by kernel_rfl) (by kernel_rfl) (by kernel_rfl) (fun _ _ _ h => h) (Or.inl ⟨by rfl, by intro w; go_simp; try with_reducible rfl⟩) ?_
  refine wpAny_ready (rs := [2, 7]) (by kernel_rfl) (by simp) ?_
  refine AllReady.cons rfl (fun K hK => ?_) ?_
  · go_simp
    refine (HL.out _ (H.out.drewN 1)).mono ?_
    rintro e w' ⟨rfl, m, rfl⟩
    go_wp2_with fail
    refine wpAny_take (i := 3) (v := ?_) rfl (by kernel_rfl) (by kernel_rfl) (by kernel_rfl) (fun _ _ _ h => h) (Or.inl ⟨by rfl, by intro w; go_simp; try with_reducible rfl⟩) ?_
    refine wpAny_ready (rs := [7]) (by kernel_rfl) (by simp) ?_
    refine AllReady.cons rfl (fun K hK => ?_) AllReady.nil
    go_simp
    refine hK _ _ ?_
    clear hK K
    refine wpAny_ready (rs := [8]) (by kernel_rfl) (by simp) ?_
    refine AllReady.cons rfl (fun K hK => ?_) AllReady.nil
    go_simp
    refine (must_not _ _ _).mono ?_
    rintro e w' ⟨rfl, rfl⟩
    exact ⟨rfl, rfl, only_drewN _ _⟩
  · refine AllReady.cons rfl (fun K hK => ?_) AllReady.nil
    go_simp
    refine hK _ _ ?_
    clear hK K
    refine wpAny_ready (rs := [2]) (by kernel_rfl) (by simp) ?_
    refine AllReady.cons rfl (fun K hK => ?_) AllReady.nil
    go_simp
    refine (HL.out _ (H.out.drewN 1)).mono ?_
    rintro e w' ⟨rfl, m, rfl⟩
    go_wp2_with fail
    refine wpAny_take (i := 3) (v := ?_) rfl (by kernel_rfl) (by kernel_rfl) (by kernel_rfl) (fun _ _ _ h => h) (Or.inl ⟨by rfl, by intro w; go_simp; try with_reducible rfl⟩) ?_
    refine wpAny_ready (rs := [8]) (by kernel_rfl) (by simp) ?_
    refine AllReady.cons rfl (fun K hK => ?_) AllReady.nil
    go_simp
    refine (must_not _ _ _).mono ?_
    rintro e w' ⟨rfl, rfl⟩
    exact ⟨rfl, rfl, only_drewN _ _⟩

theorem taken_lt (bs : List Nat) (p n : Nat) : takenN bs p n < 2 ^ n := by
  unfold takenN
  refine Nat.lt_of_lt_of_le (num_lt _) (Nat.pow_le_pow_right (by decide) ?_)
  rw [List.length_take]; omega
theorem taken_step (bs : List Nat) (p d k : Nat) (h : p + d + k ≤ 8 * bs.length) (h8 : (p + d) % 8 + k ≤ 8) (hk : 0 < k) :
    takenN bs p (d + k) = takenN bs p d * 2 ^ k + bs.getD ((p + d) / 8) 0 / 2 ^ (8 - (p + d) % 8 - k) % 2 ^ k := by
  unfold takenN
  have e := bitsB_part bs (p + d) k (by omega) h8
  rw [List.take_add, num_app, List.drop_drop, e, num_bitsOf, bitsOf_length]

theorem get_num (T x t s d : Nat) (hT : T < 2 ^ d) (hd : d + t ≤ 64) :
    bits BinOp.or IntKind.u64 (IntKind.u64.wrap ((T : Int) * 2 ^ t)) ((x : Int) / 2 ^ s % 2 ^ t) = ((T * 2 ^ t + x / 2 ^ s % 2 ^ t : Nat) : Int) := by
  have e1 : (T : Int) * 2 ^ t = ((T * 2 ^ t : Nat) : Int) := by simp
  have e2 : ((x : Int) / 2 ^ s % 2 ^ t) = ((x / 2 ^ s % 2 ^ t : Nat) : Int) := by simp
  have l1 : T * 2 ^ t + 2 ^ t ≤ 18446744073709551616 := by
    have h1 : (T + 1) * 2 ^ t ≤ 2 ^ d * 2 ^ t := Nat.mul_le_mul_right _ hT
    have h2 : 2 ^ d * 2 ^ t ≤ 2 ^ 64 := by rw [← Nat.pow_add]; exact Nat.pow_le_pow_right (by decide) hd
    rw [Nat.add_mul, Nat.one_mul] at h1
    have h3 : (2 : Nat) ^ 64 = 18446744073709551616 := by decide
    omega
  have l2 : x / 2 ^ s % 2 ^ t < 2 ^ t := Nat.mod_lt _ (Nat.two_pow_pos _)
  rw [e1, e2, wrap_u64]
  have l3 := Nat.two_pow_pos t
  have hor := Nat.two_pow_add_eq_or_of_lt l2 T
  rw [Nat.mul_comm] at hor
  rw [hor]
  generalize T * 2 ^ t = A at *
  generalize x / 2 ^ s % 2 ^ t = C at *
  rw [show (A : Int) % 18446744073709551616 = A by omega]
  exact u64_or_nat A C (by omega) (by omega)

set_option maxHeartbeats 1000000 in
theorem get_any (b : Nat) (sv : Value) (bs : List Nat) (p : Nat) (n : Int) (hl : bs.length ≤ 1099511627776) (w : World) (h : Rd w b sv bs p) (hk : p + sz n ≤ 8 * bs.length) :
    Calls Try.prog 16 #[.pointer (some ⟨b, 0, none⟩), .int .i64 n] w (GetPost b sv bs p (sz n) w) := by
  have le := h.le
  have H : Hid _ := h
  have c1 := h.two.cell1
  have hN := sz_le n
  clear h
  go_enter Try.func16, Try.ntmps16
  go_wp2_with fail
  refine (size_any _ _).mono ?_
  rintro e w' ⟨rfl, rfl⟩
  go_wp2_with fail
  generalize sz n = N at *
  have hleft := fun W hW => left_any b sv bs p hl W hW
  obtain ⟨R, hR⟩ : ∃ R, 8 * bs.length - p = R := ⟨_, rfl⟩
  rw [hR] at hleft
  have HL : Hid _ := hleft
  have z1 : decide (N ≤ R) = true := by simp; omega
  have z2 : (N : Int) ≤ (R : Int) := by omega
  clear hleft hR
  have hmust := fun W => must_ok 100 p W
  go_quiet (first
    | ((go_at_call 17; exact Calls.quiet_of (HL.out _ (H.out.drewN _))))
    | ((go_at_call 34; exact Calls.quiet_of_same (hmust _))))
  go_wp2_with fail
  have HW : Hid (Rd (w.drewN nq) b sv bs p ∧ Only [b] w (w.drewN nq)) := ⟨H.out.drewN _, (only_drewN w nq).weaken (by simp)⟩
  clear c1 hmust z1 z2 HL
  generalize w.drewN nq = w1 at *
  go_loopg [1, 5] 65 (fun gk vn vv wr => ∃ (k d : Nat), vn = .int .i64 k ∧ vv = .int .u64 (takenN bs p d : Nat) ∧ d + k = N ∧ k ≤ gk ∧ Hid (Rd wr b sv bs (p + d) ∧ Only [b] w wr))
  case atStart => exact ⟨N, 0, rfl, by simp [takenN, num], by omega, by omega, HW.out.1, HW.out.2⟩
  case round =>
    obtain ⟨k, d, rfl, rfl, hd, hg, HR⟩ := hrel
    by_cases h0 : k = 0
    · subst h0
      obtain rfl : N = d := by omega
      have tl := taken_lt bs p N
      go_wp2_with fail
      go_ret
      exact ⟨rfl, HR.out.1, HR.out.2⟩
    · have z1 : (0 : Int) < (k : Int) := by omega
      have tl := taken_lt bs p d
      have q0 := HR.out.1.two.cell0
      have q1 := HR.out.1.two.cell1
      have hle := HR.out.1.le
      obtain ⟨h8, a, cap, rfl, hrd⟩ := HR.out.1.read
      obtain ⟨g, off, rfl, hgl, hcells⟩ : ∃ g off, a = some ⟨g, off, none⟩ ∧ g < wr.heap.size ∧ ∀ i, i < bs.length → wr.cell? ⟨g, off + i, none⟩ = some (.int .u8 (bs.getD i 0 : Nat)) := by
        rcases hrd with rfl | h
        · simp at hk hle; omega
        · exact h
      obtain ⟨q, hq⟩ : ∃ q, p + d = q := ⟨_, rfl⟩
      have hq2 : q + k ≤ 8 * bs.length := by omega
      have hbyte := hcells (q / 8) (by omega)
      have hb8 : bs.getD (q / 8) 0 < 256 := by
        rw [List.getD_eq_getElem?_getD, List.getElem?_eq_getElem (by omega)]
        exact h8 _ (List.getElem_mem _)
      obtain ⟨x, hx⟩ : ∃ x, bs.getD (q / 8) 0 = x := ⟨_, rfl⟩
      rw [hx] at hb8 hbyte
      rw [hq] at q1
      have HX : Hid _ := hx
      have HQ : Hid _ := hq
      have H8 : Hid _ := h8
      have ap := HR.out.1.apart
      have AP : Hid (g ≠ b) := by show ¬ _; simpa [Value.ownBlock] using ap
      clear hx hq h8 hrd hcells ap
      have lq : q ≤ 8796093022208 := by omega
      go_wp2_with fail
      refine (room_any q lq _).mono ?_
      rintro e w' ⟨rfl, rfl⟩
      obtain ⟨r, hr⟩ : ∃ r, 8 - q % 8 = r := ⟨_, rfl⟩
      have hr1 : 1 ≤ r ∧ r ≤ 8 := by omega
      rw [hr]
      have Hr : Hid _ := hr
      clear hr
      go_upto_region 8 with fail
      go_cut [7] (fun v7 wx => wx = wr ∧ ∃ t : Nat, v7 = .int .i64 t ∧ 1 ≤ t ∧ t ≤ k ∧ t ≤ r)
      case first =>
        by_cases hkr : k ≤ r
        · have hkr' : ¬ (r : Int) < k := by omega
          go_wp2_with fail
          go_meet
          exact ⟨rfl, k, rfl, by omega, Nat.le_refl _, hkr⟩
        · have hkr' : (r : Int) < k := by omega
          go_wp2_with fail
          go_meet
          exact ⟨rfl, r, rfl, by omega, by omega, Nat.le_refl _⟩
      case rest =>
        obtain ⟨rfl, t, rfl, ht1, ht2, ht3⟩ := hcut
        obtain ⟨m, rfl⟩ : ∃ m, k = m + t := ⟨k - t, by omega⟩
        obtain ⟨s, rfl⟩ : ∃ s, r = s + t := ⟨r - t, by omega⟩
        obtain ⟨j, hj⟩ : ∃ j, q / 8 = j := ⟨_, rfl⟩
        rw [hj] at hbyte
        have hw1 : IntKind.i64.wrap ((q : Int) / 8) = (j : Int) := by rw [IntWalk.i64_in _ (by omega)]; omega
        have hw1' : IntKind.i64.wrap ((q : Int).tdiv 8) = (j : Int) := by rw [Int.tdiv_eq_ediv_of_nonneg (by omega)]; exact hw1
        have hw2 : IntKind.i64.wrap (s : Int) = s := IntWalk.i64_in _ (by omega)
        have hjl : (j : Int) < (bs.length : Int) := by omega
        have HJ : Hid _ := hj
        obtain ⟨T, hT⟩ : ∃ T, takenN bs p d = T := ⟨_, rfl⟩
        rw [hT] at tl ⊢
        have HT : Hid _ := hT
        have H0 : Hid _ := h0
        clear hj hT h0 z1
        go_wp2_with fail
        have v0 : (0 : Int) ≤ (x : Int) / 2 ^ s := Int.ediv_nonneg (by omega) (Int.le_of_lt (Int.pow_pos (by decide)))
        have v1 : (x : Int) / 2 ^ s < 18446744073709551616 := Int.lt_of_le_of_lt (Int.ediv_le_self _ (by omega)) (by omega)
        have V : Hid _ := And.intro v0 v1
        clear v0 v1
        have hwx : IntKind.u64.wrap (x : Int) = x := by rw [wrap_u64]; omega
        go_quiet ((go_at_call 32; exact Calls.quiet_of_same (low_int _ _ V.out.1 V.out.2 (by omega) _)))
        have hT2 := taken_step bs p d t (by have := HQ.out; omega) (by have := HQ.out; have := Hr.out; rw [HQ.out]; omega) ht1
        rw [HQ.out, HX.out, HT.out, show 8 - q % 8 - t = s by have := Hr.out; omega] at hT2
        rw [get_num T x t s d tl (by omega), ← hT2]
        have HD : Hid (Rd (wc.drewN nq) b (.slice (some ⟨g, off, none⟩) bs.length cap) bs q ∧ Only [b] w (wc.drewN nq)) := by
          have := HR.out.1.drewN nq
          rw [HQ.out] at this
          exact ⟨this, HR.out.2.then (only_drewN wc nq) (by simp)⟩
        clear hT2 q0 q1 hbyte HR hwx hw1 hw1' hw2
        generalize wc.drewN nq = w2 at *
        have s1 := HD.out.1.two.cell1
        have s2 := HD.out.1.two.frozen 1
        go_wp2_with fail
        go_roundg m
        case measure => omega
        case rel =>
          have oS : Only [b] w2 (w2.setCell ⟨b, 1, none⟩ (.int .i64 (q + t))) := (Only.refl _ _).setCell (by simp) _
          refine ⟨m, d + t, rfl, rfl, by omega, Nat.le_refl _, ?_, HD.out.2.trans oS⟩
          refine ⟨?_, HD.out.1.read.only oS (fun x hx => ?_), HD.out.1.apart, by have := HQ.out; omega⟩
          · have := HD.out.1.two.set1 (.int .i64 ((p + (d + t) : Nat) : Int))
            rw [show ((p + (d + t) : Nat) : Int) = (q : Int) + t by have := HQ.out; omega] at this ⊢
            exact this
          · have hx : g = x := by simpa [Value.ownBlock] using hx
            subst hx
            simpa using AP.out
end Go.Proofs.Ytaamobhlbahnhaa

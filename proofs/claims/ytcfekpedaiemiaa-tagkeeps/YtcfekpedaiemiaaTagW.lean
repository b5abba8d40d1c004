/- Package tag: residue, Sum, told. -/
import Derived.Test.YtcfekpedaiemiaaByteRow
import Derived.Test.YtcfekpedaiemiaaTagMath
import Derived.Deep.LoopGhost
import Derived.Laws.Shifts
import Derived.Laws.BitsAllLaws
namespace Go.Proofs.Ytcfekpedaiemiaa
open Go.RowKit Tag

theorem ret_i {k : IntKind} {a b : Int} (h : a = b) : Ending.returned (.int k a) = .returned (.int k b) := by rw [h]

theorem residue_any (n : Int) (w : World) : Calls Try.prog 20 #[.int .i64 n] w fun e w' => e = .returned (.int .i64 (res n : Nat)) ∧ w = w' := by
  have b1 : -2147483647 < n.tmod 2147483647 ∧ n.tmod 2147483647 < 2147483647 := ⟨Int.lt_tmod_of_pos n (by decide), Int.tmod_lt_of_pos n (by decide)⟩
  have e : (n.tmod 2147483647 + 2147483647) % 2147483647 = (res n : Nat) := by rw [res_cast]; have := Int.tmod_def n 2147483647; omega
  have H : Hid _ := e
  clear e
  go_enter Try.func20, Try.ntmps20
  go_wp2
  go_ret
  exact ⟨ret_i H.out, rfl⟩

theorem sum_any (k : Int) (v : Value) (bs : List Nat) (w : World) (h : ReadB w v bs) (hl : bs.length ≤ 140737488355328) :
    Calls Try.prog 9 #[.int .i64 k, v] w fun e w' => e = .returned (.int .i64 (sum k bs : Nat)) ∧ w = w' := by
  obtain ⟨h8, a, cap, rfl, h⟩ := h
  have H8 : Hid _ := h8
  have HH : Hid _ := h
  have hr := res_lt k
  clear h8 h
  go_enter Try.func9, Try.ntmps9
  go_wp2_with fail
  refine (residue_any _ _).mono ?_
  rintro e w' ⟨rfl, rfl⟩
  go_wp2_with fail
  go_loopg [5, 13] (bs.length + 1) (fun gk v5 v13 wr => wr = w ∧ ∃ (j s : Nat), v5 = .int .i64 s ∧ v13 = .int .i64 j ∧ j ≤ bs.length ∧ bs.length + 1 - j ≤ gk ∧ s ≤ 2147483647 ∧ Hid (s = sumH (res k + 1) (bs.take j)))
  case atStart => exact ⟨rfl, 0, res k + 1, rfl, rfl, by omega, by omega, by omega, by show _ = _; simp [sumH]⟩
  case round =>
    obtain ⟨rfl, j, s, rfl, rfl, hj, hg, hs, HS⟩ := hrel
    by_cases hjl : j < bs.length
    · have z1 : (j : Int) < (bs.length : Int) := by omega
      rcases HH.out with h0 | ⟨b, off, rfl, hb, hc⟩
      · rw [h0] at hjl; simp at hjl
      · have c1 := hc j hjl
        have hx : bs.getD j 0 < 256 := H8.out _ (by simp [List.getD_eq_getElem?_getD, hjl])
        obtain ⟨x, hx2⟩ : ∃ x, bs.getD j 0 = x := ⟨_, rfl⟩
        rw [hx2] at c1 hx
        have HX : Hid _ := hx2
        clear hx2 hc
        go_wp2_with fail
        go_roundg (bs.length - j)
        case measure => omega
        case rel =>
          refine ⟨rfl, j + 1, stepN s x, ?_, rfl, by omega, by omega, by unfold stepN; omega, ?_⟩
          · unfold stepN; congr 1
          · show _ = _
            rw [sumH_take _ _ _ hjl, ← HS.out, HX.out]
    · obtain rfl : j = bs.length := by omega
      go_wp2_with fail
      go_ret
      refine ⟨ret_i ?_, rfl⟩
      have := HS.out
      rw [List.take_length] at this
      unfold sum
      rw [← this]
      omega

theorem or_num (s x : Nat) (hs : s < 1099511627776) (hx : x < 256) : bits BinOp.or IntKind.i64 ((s : Int) * 256) (x : Int) = ((s * 256 + x : Nat) : Int) := by
  have e : ((s : Int) * 256) = ((s * 256 : Nat) : Int) := by simp
  rw [e]
  show IntKind.i64.wrap ((BitVec.ofInt 64 ((s * 256 : Nat) : Int) ||| BitVec.ofInt 64 (x : Int)).toNat : Int) = _
  rw [BitVec.toNat_or, ofInt_u64 _ (by omega), ofInt_u64 _ (by omega), nat_join 8 (s * 256) x (by simp) hx, IntKind.wrap_i64]
  omega
theorem told_any (v : Value) (bs : List Nat) (w : World) (h : ReadB w v bs) (hl : bs.length ≤ 6) :
    Calls Try.prog 18 #[v] w fun e w' => e = .returned (.int .i64 (toldN 0 bs : Nat)) ∧ w = w' := by
  obtain ⟨h8, a, cap, rfl, h⟩ := h
  have H8 : Hid _ := h8
  have HH : Hid _ := h
  clear h8 h
  go_enter Try.func18, Try.ntmps18
  go_wp2_with fail
  go_loopg [3, 8] (bs.length + 1) (fun gk v3 v8 wr => wr = w ∧ ∃ (j s : Nat), v3 = .int .i64 s ∧ v8 = .int .i64 j ∧ j ≤ bs.length ∧ bs.length + 1 - j ≤ gk ∧ Hid (s = toldN 0 (bs.take j)))
  case atStart => exact ⟨rfl, 0, 0, rfl, rfl, by omega, by omega, by show _ = _; simp [toldN]⟩
  case round =>
    obtain ⟨rfl, j, s, rfl, rfl, hj, hg, HS⟩ := hrel
    by_cases hjl : j < bs.length
    · have z1 : (j : Int) < (bs.length : Int) := by omega
      rcases HH.out with h0 | ⟨b, off, rfl, hb, hc⟩
      · rw [h0] at hjl; simp at hjl
      · have c1 := hc j hjl
        have hx : bs.getD j 0 < 256 := H8.out _ (by simp [List.getD_eq_getElem?_getD, hjl])
        obtain ⟨x, hx2⟩ : ∃ x, bs.getD j 0 = x := ⟨_, rfl⟩
        rw [hx2] at c1 hx
        have HX : Hid _ := hx2
        clear hx2 hc
        have hs : s < 1099511627776 := by
          have h1 := toldN_lt (bs.take j) 0 0 (fun x hx => H8.out x (List.mem_of_mem_take hx)) (by decide)
          rw [← HS.out, List.length_take, Nat.min_eq_left (by omega)] at h1
          have h2 : 256 ^ (0 + j) ≤ 256 ^ 5 := Nat.pow_le_pow_right (by decide) (by omega)
          exact Nat.lt_of_lt_of_le h1 h2
        go_wp2_with fail
        go_roundg (bs.length - j)
        case measure => omega
        case rel =>
          refine ⟨rfl, j + 1, s * 256 + x, ?_, rfl, by omega, by omega, ?_⟩
          · rw [or_num s x hs hx]
          · show _ = _
            rw [toldN_take _ _ _ hjl, ← HS.out, HX.out]
    · obtain rfl : j = bs.length := by omega
      go_wp2_with fail
      go_ret
      refine ⟨ret_i ?_, rfl⟩
      have := HS.out
      rw [List.take_length] at this
      rw [this]
end Go.Proofs.Ytcfekpedaiemiaa

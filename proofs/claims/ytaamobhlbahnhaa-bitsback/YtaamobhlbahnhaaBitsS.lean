/- Package bits: a Reader's Signed. -/
import Derived.Test.YtaamobhlbahnhaaBitsGet
namespace Go.Proofs.Ytaamobhlbahnhaa
open Go.RowKit Bit

theorem sgn_num (k T : Nat) (hk : k ≤ 64) (hT : T < 2 ^ k) :
    IntKind.i64.wrap (IntKind.u64.wrap ((T : Int) * 2 ^ (64 - k))) / 2 ^ (64 - k) = sgn k T := by
  unfold sgn
  by_cases h0 : k = 0
  · subst h0
    have : T = 0 := by simpa using hT
    subst this
    simp [wrap_u64, wrap_i64]
  · rw [if_neg h0]
    have p0 : (2 : Int) ^ (64 - k) = ((2 ^ (64 - k) : Nat) : Int) := by simp
    have p1 : (2 : Int) ^ k = ((2 ^ k : Nat) : Int) := by simp
    have e1 : 2 ^ k * 2 ^ (64 - k) = 18446744073709551616 := by rw [← Nat.pow_add, show k + (64 - k) = 64 by omega]
    have e2 : 2 ^ (k - 1) * 2 ^ (64 - k) = 9223372036854775808 := by rw [← Nat.pow_add, show k - 1 + (64 - k) = 63 by omega]
    have hpos := Nat.two_pow_pos (64 - k)
    have hlt : T * 2 ^ (64 - k) < 18446744073709551616 := by rw [← e1]; exact Nat.mul_lt_mul_of_pos_right hT hpos
    have e3 : (T : Int) * ((2 ^ (64 - k) : Nat) : Int) = ((T * 2 ^ (64 - k) : Nat) : Int) := by rw [Int.natCast_mul]
    rw [p0, e3, wrap_u64, wrap_i64, p1]
    by_cases h : T < 2 ^ (k - 1)
    · rw [if_pos h]
      have h2 : T * 2 ^ (64 - k) < 9223372036854775808 := by rw [← e2]; exact Nat.mul_lt_mul_of_pos_right h hpos
      have h3 : ((T * 2 ^ (64 - k) : Nat) : Int) / ((2 ^ (64 - k) : Nat) : Int) = (T : Int) := by
        rw [← Int.natCast_ediv, Nat.mul_div_cancel _ hpos]
      generalize T * 2 ^ (64 - k) = A at *
      rw [show ((A : Int) % 18446744073709551616 + 9223372036854775808) % 18446744073709551616 - 9223372036854775808 = (A : Int) by omega]
      exact h3
    · rw [if_neg h]
      have h2 : 9223372036854775808 ≤ T * 2 ^ (64 - k) := by rw [← e2]; exact Nat.mul_le_mul_right _ (by omega)
      have h3 : ((T : Int) - ((2 ^ k : Nat) : Int)) * ((2 ^ (64 - k) : Nat) : Int) = ((T * 2 ^ (64 - k) : Nat) : Int) - 18446744073709551616 := by
        rw [Int.sub_mul, ← Int.natCast_mul, ← Int.natCast_mul, e1]; rfl
      have h4 : ((T * 2 ^ (64 - k) : Nat) : Int) % 18446744073709551616 = ((T * 2 ^ (64 - k) : Nat) : Int) := by omega
      rw [h4, show (((T * 2 ^ (64 - k) : Nat) : Int) + 9223372036854775808) % 18446744073709551616 - 9223372036854775808 = ((T * 2 ^ (64 - k) : Nat) : Int) - 18446744073709551616 by omega, ← h3]
      exact Int.mul_ediv_cancel _ (by omega)

def SGetPost (b : Nat) (sv : Value) (bs : List Nat) (p k : Nat) (w : World) (e : Ending) (w' : World) : Prop :=
  e = .returned (.int .i64 (sgn k (takenN bs p k))) ∧ Rd w' b sv bs (p + k) ∧ Only [b] w w'
theorem sget_any (b : Nat) (sv : Value) (bs : List Nat) (p : Nat) (n : Int) (hl : bs.length ≤ 1099511627776) (w : World) (h : Rd w b sv bs p) (hk : p + sz n ≤ 8 * bs.length) :
    Calls Try.prog 15 #[.pointer (some ⟨b, 0, none⟩), .int .i64 n] w (SGetPost b sv bs p (sz n) w) := by
  have H : Hid _ := h
  have hN := sz_le n
  clear h
  go_enter Try.func15, Try.ntmps15
  go_wp2_with fail
  refine (size_any _ _).mono ?_
  rintro e w' ⟨rfl, rfl⟩
  go_wp2_with fail
  refine (get_any b sv bs p n hl w H.out hk).mono ?_
  rintro e w1 ⟨rfl, h1, h2⟩
  have HH : Hid _ := And.intro h1 h2
  have tl := taken_lt bs p (sz n)
  have sg := sgn_num (sz n) (takenN bs p (sz n)) hN tl
  have SG : Hid _ := sg
  clear h1 h2 sg tl hk H
  obtain ⟨T, hT⟩ : ∃ T, takenN bs p (sz n) = T := ⟨_, rfl⟩
  rw [hT] at SG
  rw [hT]
  have HT : Hid _ := hT
  clear hT
  generalize sz n = N at *
  go_wp2_with fail
  go_ret
  have e := SG.out
  rw [IntWalk.i64_left] at e
  exact ⟨by rw [HT.out]; exact ret_num e, HH.out.1, HH.out.2⟩

theorem sget_lack (b : Nat) (sv : Value) (bs : List Nat) (p : Nat) (n : Int) (hl : bs.length ≤ 1099511627776) (w : World) (h : Rd w b sv bs p) (hk : 8 * bs.length < p + sz n) :
    Calls Try.prog 15 #[.pointer (some ⟨b, 0, none⟩), .int .i64 n] w (LackPost p w) := by
  have H : Hid _ := h
  have hN := sz_le n
  clear h
  go_enter Try.func15, Try.ntmps15
  go_wp2_with fail
  refine (size_any _ _).mono ?_
  rintro e w' ⟨rfl, rfl⟩
  go_wp2_with fail
  refine (get_lack b sv bs p n hl w H.out hk).mono ?_
  rintro e w1 ⟨rfl, h2⟩
  exact ⟨rfl, rfl, h2⟩
end Go.Proofs.Ytaamobhlbahnhaa

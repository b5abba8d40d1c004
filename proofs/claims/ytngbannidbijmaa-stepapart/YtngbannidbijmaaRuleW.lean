/- Package rule: what an op does, but Fire. -/
import Derived.Test.YtngbannidbijmaaRule
namespace Go.Proofs.Ytngbannidbijmaa
open Go.RowKit
set_option linter.unusedVariables false

/-- what a machine has, beside its ops -/
def Mch.e (m : Mch) (sh : List Bd) : Ev := ⟨m.b, m.t, m.ix, m.iy, m.d, m.room, sh⟩
theorem clamp_rng (n : Int) : -1000000 ≤ Rule.clamp n ∧ Rule.clamp n ≤ 1000000 := by unfold Rule.clamp Body.within; split <;> split <;> omega
theorem ret_r {a b : Int} (h : a = b) : Ending.returned (.int .i64 a) = .returned (.int .i64 b) := by rw [h]

theorem reckon_2 {w : World} {p : Nat} {m : Mch} (h : Mb w p m) (a b : Int) (ha : -1000000 ≤ a ∧ a ≤ 1000000) (hb : -1000000 ≤ b ∧ b ≤ 1000000) : Calls Try.prog 97 #[.pointer (some ⟨p, 0, none⟩), .int .i64 2, .int .i64 a, .int .i64 b] w fun e w' => e = .returned (.int .i64 (b)) ∧ w' = w := by
  have H : Hid _ := h
  clear h
  go_enter Try.func97, Try.ntmps97
  go_wp2_with fail
  go_ret
  exact ⟨rfl, rfl⟩
theorem reckon_3 {w : World} {p : Nat} {m : Mch} (h : Mb w p m) (a b : Int) (ha : -1000000 ≤ a ∧ a ≤ 1000000) (hb : -1000000 ≤ b ∧ b ≤ 1000000) : Calls Try.prog 97 #[.pointer (some ⟨p, 0, none⟩), .int .i64 3, .int .i64 a, .int .i64 b] w fun e w' => e = .returned (.int .i64 (a + b)) ∧ w' = w := by
  have mw : IntKind.i64.wrap (a + b) = a + b := IntWalk.i64_in _ (by omega)
  have H : Hid _ := h
  clear h
  go_enter Try.func97, Try.ntmps97
  go_wp2_with fail
  go_ret
  exact ⟨rfl, rfl⟩
theorem reckon_4 {w : World} {p : Nat} {m : Mch} (h : Mb w p m) (a b : Int) (ha : -1000000 ≤ a ∧ a ≤ 1000000) (hb : -1000000 ≤ b ∧ b ≤ 1000000) : Calls Try.prog 97 #[.pointer (some ⟨p, 0, none⟩), .int .i64 4, .int .i64 a, .int .i64 b] w fun e w' => e = .returned (.int .i64 (a - b)) ∧ w' = w := by
  have mw : IntKind.i64.wrap (a - b) = a - b := IntWalk.i64_in _ (by omega)
  have H : Hid _ := h
  clear h
  go_enter Try.func97, Try.ntmps97
  go_wp2_with fail
  go_ret
  exact ⟨rfl, rfl⟩
theorem reckon_5 {w : World} {p : Nat} {m : Mch} (h : Mb w p m) (a b : Int) (ha : -1000000 ≤ a ∧ a ≤ 1000000) (hb : -1000000 ≤ b ∧ b ≤ 1000000) : Calls Try.prog 97 #[.pointer (some ⟨p, 0, none⟩), .int .i64 5, .int .i64 a, .int .i64 b] w fun e w' => e = .returned (.int .i64 (a * b)) ∧ w' = w := by
  have m1 : -1000000000000 ≤ a * b ∧ a * b ≤ 1000000000000 := by
    have k1 : (a * b).natAbs ≤ 1000000 * 1000000 := by rw [Int.natAbs_mul]; exact Nat.mul_le_mul (by omega) (by omega)
    omega
  have mw : IntKind.i64.wrap (a * b) = a * b := IntWalk.i64_in _ (by omega)
  have H : Hid _ := h
  clear h
  go_enter Try.func97, Try.ntmps97
  go_wp2_with fail
  go_ret
  exact ⟨rfl, rfl⟩
theorem reckon_6 {w : World} {p : Nat} {m : Mch} (h : Mb w p m) (a b : Int) (ha : -1000000 ≤ a ∧ a ≤ 1000000) (hb : -1000000 ≤ b ∧ b ≤ 1000000) (h0 : b ≠ 0) : Calls Try.prog 97 #[.pointer (some ⟨p, 0, none⟩), .int .i64 6, .int .i64 a, .int .i64 b] w fun e w' => e = .returned (.int .i64 (a.tdiv b)) ∧ w' = w := by
  have hz : (b != 0) = true := by simpa using h0
  have MW : Hid (IntKind.i64.wrap (a.tdiv b) = a.tdiv b) := IntWalk.i64_in _ (by
    have q1 : (a.tdiv b).natAbs ≤ a.natAbs := by rw [Int.natAbs_tdiv]; exact Nat.div_le_self _ _
    generalize a.tdiv b = t at q1
    omega)
  have H : Hid _ := h
  have hz2 : ¬ b = 0 := h0
  clear h ha hb h0
  go_enter Try.func97, Try.ntmps97
  go_wp2_with fail
  refine (mmust_yes H.out _).mono ?_
  rintro e w' ⟨rfl, rfl⟩
  go_wp2_with fail
  go_ret
  exact ⟨ret_r ((IntWalk.i64_left _).symm.trans MW.out), rfl⟩
theorem reckon_0 {w : World} {p : Nat} {m : Mch} (h : Mb w p m) (a : Int) : Calls Try.prog 97 #[.pointer (some ⟨p, 0, none⟩), .int .i64 6, .int .i64 a, .int .i64 0] w fun e w' => e = broke 1 m.at_ ∧ w' = w := by
  have H : Hid _ := h
  clear h
  go_enter Try.func97, Try.ntmps97
  go_wp2_with fail
  refine (mmust_no H.out _).mono ?_
  rintro e w' ⟨rfl, rfl⟩
  exact ⟨rfl, rfl, rfl⟩
theorem reckon_any {w : World} {p : Nat} {m : Mch} (h : Mb w p m) (c a b : Int) (hc : 2 ≤ c ∧ c ≤ 6) (ha : -1000000 ≤ a ∧ a ≤ 1000000) (hb : -1000000 ≤ b ∧ b ≤ 1000000) (h0 : ¬ (c = 6 ∧ b = 0)) : Calls Try.prog 97 #[.pointer (some ⟨p, 0, none⟩), .int .i64 c, .int .i64 a, .int .i64 b] w fun e w' => e = .returned (.int .i64 (Rule.reckon c a b)) ∧ w' = w := by
  have h5 : c = 2 ∨ c = 3 ∨ c = 4 ∨ c = 5 ∨ c = 6 := by omega
  rcases h5 with rfl | rfl | rfl | rfl | rfl
  · exact reckon_2 h a b ha hb
  · exact reckon_3 h a b ha hb
  · exact reckon_4 h a b ha hb
  · exact reckon_5 h a b ha hb
  · exact reckon_6 h a b ha hb (fun e => h0 ⟨rfl, e⟩)
theorem field_0 {w : World} {p : Nat} {m : Mch} (h : Mb w p m) (sh : List Bd) : Calls Try.prog 98 #[.pointer (some ⟨p, 0, none⟩), .int .i64 0] w fun e w' => e = .returned (.int .i64 (Rule.field (m.e sh) 0)) ∧ w' = w := by
  obtain ⟨c1, c2, c3, c4, c5, c6, c7, c8, c9, c10, c11, c12⟩ := h.body
  obtain ⟨c13, c14, c15⟩ := h.inp
  clear h
  go_enter Try.func98, Try.ntmps98
  go_wp2_with fail
  go_ret
  exact ⟨rfl, rfl⟩
theorem field_1 {w : World} {p : Nat} {m : Mch} (h : Mb w p m) (sh : List Bd) : Calls Try.prog 98 #[.pointer (some ⟨p, 0, none⟩), .int .i64 1] w fun e w' => e = .returned (.int .i64 (Rule.field (m.e sh) 1)) ∧ w' = w := by
  obtain ⟨c1, c2, c3, c4, c5, c6, c7, c8, c9, c10, c11, c12⟩ := h.body
  obtain ⟨c13, c14, c15⟩ := h.inp
  clear h
  go_enter Try.func98, Try.ntmps98
  go_wp2_with fail
  go_ret
  exact ⟨rfl, rfl⟩
theorem field_2 {w : World} {p : Nat} {m : Mch} (h : Mb w p m) (sh : List Bd) : Calls Try.prog 98 #[.pointer (some ⟨p, 0, none⟩), .int .i64 2] w fun e w' => e = .returned (.int .i64 (Rule.field (m.e sh) 2)) ∧ w' = w := by
  obtain ⟨c1, c2, c3, c4, c5, c6, c7, c8, c9, c10, c11, c12⟩ := h.body
  obtain ⟨c13, c14, c15⟩ := h.inp
  clear h
  go_enter Try.func98, Try.ntmps98
  go_wp2_with fail
  go_ret
  exact ⟨rfl, rfl⟩
theorem field_3 {w : World} {p : Nat} {m : Mch} (h : Mb w p m) (sh : List Bd) : Calls Try.prog 98 #[.pointer (some ⟨p, 0, none⟩), .int .i64 3] w fun e w' => e = .returned (.int .i64 (Rule.field (m.e sh) 3)) ∧ w' = w := by
  obtain ⟨c1, c2, c3, c4, c5, c6, c7, c8, c9, c10, c11, c12⟩ := h.body
  obtain ⟨c13, c14, c15⟩ := h.inp
  clear h
  go_enter Try.func98, Try.ntmps98
  go_wp2_with fail
  go_ret
  exact ⟨rfl, rfl⟩
theorem field_4 {w : World} {p : Nat} {m : Mch} (h : Mb w p m) (sh : List Bd) : Calls Try.prog 98 #[.pointer (some ⟨p, 0, none⟩), .int .i64 4] w fun e w' => e = .returned (.int .i64 (Rule.field (m.e sh) 4)) ∧ w' = w := by
  obtain ⟨c1, c2, c3, c4, c5, c6, c7, c8, c9, c10, c11, c12⟩ := h.body
  obtain ⟨c13, c14, c15⟩ := h.inp
  clear h
  go_enter Try.func98, Try.ntmps98
  go_wp2_with fail
  go_ret
  exact ⟨rfl, rfl⟩
theorem field_5 {w : World} {p : Nat} {m : Mch} (h : Mb w p m) (sh : List Bd) : Calls Try.prog 98 #[.pointer (some ⟨p, 0, none⟩), .int .i64 5] w fun e w' => e = .returned (.int .i64 (Rule.field (m.e sh) 5)) ∧ w' = w := by
  obtain ⟨c1, c2, c3, c4, c5, c6, c7, c8, c9, c10, c11, c12⟩ := h.body
  obtain ⟨c13, c14, c15⟩ := h.inp
  clear h
  go_enter Try.func98, Try.ntmps98
  go_wp2_with fail
  go_ret
  exact ⟨rfl, rfl⟩
theorem field_6 {w : World} {p : Nat} {m : Mch} (h : Mb w p m) (sh : List Bd) : Calls Try.prog 98 #[.pointer (some ⟨p, 0, none⟩), .int .i64 6] w fun e w' => e = .returned (.int .i64 (Rule.field (m.e sh) 6)) ∧ w' = w := by
  obtain ⟨c1, c2, c3, c4, c5, c6, c7, c8, c9, c10, c11, c12⟩ := h.body
  obtain ⟨c13, c14, c15⟩ := h.inp
  clear h
  go_enter Try.func98, Try.ntmps98
  go_wp2_with fail
  go_ret
  exact ⟨rfl, rfl⟩
theorem field_7 {w : World} {p : Nat} {m : Mch} (h : Mb w p m) (sh : List Bd) : Calls Try.prog 98 #[.pointer (some ⟨p, 0, none⟩), .int .i64 7] w fun e w' => e = .returned (.int .i64 (Rule.field (m.e sh) 7)) ∧ w' = w := by
  obtain ⟨c1, c2, c3, c4, c5, c6, c7, c8, c9, c10, c11, c12⟩ := h.body
  obtain ⟨c13, c14, c15⟩ := h.inp
  clear h
  go_enter Try.func98, Try.ntmps98
  go_wp2_with fail
  go_ret
  exact ⟨rfl, rfl⟩
theorem field_yes {w : World} {p : Nat} {m : Mch} (h : Mb w p m) (sh : List Bd) (k : Int) (hk : Body.btw k 0 7 = true) : Calls Try.prog 98 #[.pointer (some ⟨p, 0, none⟩), .int .i64 k] w fun e w' => e = .returned (.int .i64 (Rule.field (m.e sh) k)) ∧ w' = w := by
  simp only [Body.btw, Bool.and_eq_true, decide_eq_true_eq] at hk
  have h8 : k = 0 ∨ k = 1 ∨ k = 2 ∨ k = 3 ∨ k = 4 ∨ k = 5 ∨ k = 6 ∨ k = 7 := by omega
  rcases h8 with rfl | rfl | rfl | rfl | rfl | rfl | rfl | rfl
  · exact field_0 h sh
  · exact field_1 h sh
  · exact field_2 h sh
  · exact field_3 h sh
  · exact field_4 h sh
  · exact field_5 h sh
  · exact field_6 h sh
  · exact field_7 h sh
theorem field_no {w : World} {p : Nat} {m : Mch} (h : Mb w p m) (k : Int) (hk : Body.btw k 0 7 = false) : Calls Try.prog 98 #[.pointer (some ⟨p, 0, none⟩), .int .i64 k] w fun e w' => e = broke 3 m.at_ ∧ w' = w := by
  simp only [Body.btw, Bool.and_eq_false_iff, decide_eq_false_iff_not] at hk
  have n0 : (k == 0) = false := by simp; omega
  have n1 : (k == 1) = false := by simp; omega
  have n2 : (k == 2) = false := by simp; omega
  have n3 : (k == 3) = false := by simp; omega
  have n4 : (k == 4) = false := by simp; omega
  have n5 : (k == 5) = false := by simp; omega
  have n6 : (k == 6) = false := by simp; omega
  have n7 : (k == 7) = false := by simp; omega
  have H : Hid _ := h
  clear h hk
  go_enter Try.func98, Try.ntmps98
  go_wp2_with fail
  refine (mmust_no H.out _).mono ?_
  rintro e w' ⟨rfl, rfl⟩
  exact ⟨rfl, rfl, rfl⟩
theorem put_0 {w : World} {p : Nat} {m : Mch} (h : Mb w p m) (v : Int) : Calls Try.prog 99 #[.pointer (some ⟨p, 0, none⟩), .int .i64 0, .int .i64 v] w fun e w' => e = .returned (.tuple #[]) ∧ Mb w' p { m with b := Rule.put m.b 0 v } ∧ Only [p] w w' ∧ w'.heap.size = w.heap.size := by
  have H : Hid _ := h
  have fz := h.frozen
  obtain ⟨c1, c2, c3, c4, c5, c6, c7, c8, c9, c10, c11, c12⟩ := h.body
  clear h
  go_enter Try.func99, Try.ntmps99
  go_wp2_with fail
  refine (asPlace_any _ _).mono ?_
  rintro e w' ⟨rfl, rfl⟩
  go_wp2_with fail
  go_end0
  exact ⟨rfl, H.out.setx _, (Only.refl _ _).setCell (by simp) _, by simp [World.setCell]⟩
theorem put_1 {w : World} {p : Nat} {m : Mch} (h : Mb w p m) (v : Int) : Calls Try.prog 99 #[.pointer (some ⟨p, 0, none⟩), .int .i64 1, .int .i64 v] w fun e w' => e = .returned (.tuple #[]) ∧ Mb w' p { m with b := Rule.put m.b 1 v } ∧ Only [p] w w' ∧ w'.heap.size = w.heap.size := by
  have H : Hid _ := h
  have fz := h.frozen
  obtain ⟨c1, c2, c3, c4, c5, c6, c7, c8, c9, c10, c11, c12⟩ := h.body
  clear h
  go_enter Try.func99, Try.ntmps99
  go_wp2_with fail
  refine (asPlace_any _ _).mono ?_
  rintro e w' ⟨rfl, rfl⟩
  go_wp2_with fail
  go_end0
  exact ⟨rfl, H.out.sety _, (Only.refl _ _).setCell (by simp) _, by simp [World.setCell]⟩
theorem put_2 {w : World} {p : Nat} {m : Mch} (h : Mb w p m) (v : Int) : Calls Try.prog 99 #[.pointer (some ⟨p, 0, none⟩), .int .i64 2, .int .i64 v] w fun e w' => e = .returned (.tuple #[]) ∧ Mb w' p { m with b := Rule.put m.b 2 v } ∧ Only [p] w w' ∧ w'.heap.size = w.heap.size := by
  have H : Hid _ := h
  have fz := h.frozen
  obtain ⟨c1, c2, c3, c4, c5, c6, c7, c8, c9, c10, c11, c12⟩ := h.body
  clear h
  go_enter Try.func99, Try.ntmps99
  go_wp2_with fail
  refine (rasSpeed_any _ _).mono ?_
  rintro e w' ⟨rfl, rfl⟩
  go_wp2_with fail
  go_end0
  exact ⟨rfl, H.out.setvx _, (Only.refl _ _).setCell (by simp) _, by simp [World.setCell]⟩
theorem put_3 {w : World} {p : Nat} {m : Mch} (h : Mb w p m) (v : Int) : Calls Try.prog 99 #[.pointer (some ⟨p, 0, none⟩), .int .i64 3, .int .i64 v] w fun e w' => e = .returned (.tuple #[]) ∧ Mb w' p { m with b := Rule.put m.b 3 v } ∧ Only [p] w w' ∧ w'.heap.size = w.heap.size := by
  have H : Hid _ := h
  have fz := h.frozen
  obtain ⟨c1, c2, c3, c4, c5, c6, c7, c8, c9, c10, c11, c12⟩ := h.body
  clear h
  go_enter Try.func99, Try.ntmps99
  go_wp2_with fail
  refine (rasSpeed_any _ _).mono ?_
  rintro e w' ⟨rfl, rfl⟩
  go_wp2_with fail
  go_end0
  exact ⟨rfl, H.out.setvy _, (Only.refl _ _).setCell (by simp) _, by simp [World.setCell]⟩
theorem put_yes {w : World} {p : Nat} {m : Mch} (h : Mb w p m) (k v : Int) (hk : Rule.is k = true) : Calls Try.prog 99 #[.pointer (some ⟨p, 0, none⟩), .int .i64 k, .int .i64 v] w fun e w' => e = .returned (.tuple #[]) ∧ Mb w' p { m with b := Rule.put m.b k v } ∧ Only [p] w w' ∧ w'.heap.size = w.heap.size := by
  simp only [Rule.is, Body.btw, Bool.and_eq_true, decide_eq_true_eq] at hk
  have h4 : k = 0 ∨ k = 1 ∨ k = 2 ∨ k = 3 := by omega
  rcases h4 with rfl | rfl | rfl | rfl
  · exact put_0 h v
  · exact put_1 h v
  · exact put_2 h v
  · exact put_3 h v
theorem put_no {w : World} {p : Nat} {m : Mch} (h : Mb w p m) (k v : Int) (hk : Rule.is k = false) : Calls Try.prog 99 #[.pointer (some ⟨p, 0, none⟩), .int .i64 k, .int .i64 v] w fun e w' => e = broke 3 m.at_ ∧ w' = w := by
  simp only [Rule.is, Body.btw, Bool.and_eq_false_iff, decide_eq_false_iff_not] at hk
  have n0 : (k == 0) = false := by simp; omega
  have n1 : (k == 1) = false := by simp; omega
  have n2 : (k == 2) = false := by simp; omega
  have n3 : (k == 3) = false := by simp; omega
  have H : Hid _ := h
  clear h hk
  go_enter Try.func99, Try.ntmps99
  go_wp2_with fail
  refine (mmust_no H.out _).mono ?_
  rintro e w' ⟨rfl, rfl⟩
  exact ⟨rfl, rfl, rfl⟩
theorem place_yes {w : World} {p : Nat} {m : Mch} (h : Mb w p m) (a : Option Addr) (n cap : Nat) (ho : m.ops = .slice a n cap) (hn : n ≤ 9223372036854775807) (k : Int) (hk : Body.btw k 0 n = true) : Calls Try.prog 100 #[.pointer (some ⟨p, 0, none⟩), .int .i64 k] w fun e w' => e = .returned (.int .i64 k) ∧ w' = w := by
  have c0 := h.ops
  rw [ho] at c0
  have H : Hid _ := h
  clear h ho
  go_enter Try.func100, Try.ntmps100
  go_wp2_with fail
  refine (rbetween_any _ _ _ _).mono ?_
  rintro e w' ⟨rfl, rfl⟩
  rw [hk]
  go_wp2_with fail
  refine (mmust_yes H.out _).mono ?_
  rintro e w' ⟨rfl, rfl⟩
  go_wp2_with fail
  go_ret
  exact ⟨rfl, rfl⟩
theorem place_no {w : World} {p : Nat} {m : Mch} (h : Mb w p m) (a : Option Addr) (n cap : Nat) (ho : m.ops = .slice a n cap) (hn : n ≤ 9223372036854775807) (k : Int) (hk : Body.btw k 0 n = false) : Calls Try.prog 100 #[.pointer (some ⟨p, 0, none⟩), .int .i64 k] w fun e w' => e = broke 4 m.at_ ∧ w' = w := by
  have c0 := h.ops
  rw [ho] at c0
  have H : Hid _ := h
  clear h ho
  go_enter Try.func100, Try.ntmps100
  go_wp2_with fail
  refine (rbetween_any _ _ _ _).mono ?_
  rintro e w' ⟨rfl, rfl⟩
  rw [hk]
  go_wp2_with fail
  refine (mmust_no H.out _).mono ?_
  rintro e w' ⟨rfl, rfl⟩
  exact ⟨rfl, rfl, rfl⟩
theorem roll_no {w : World} {p : Nat} {m : Mch} (h : Mb w p m) (k : Nat) (n : Int) (hn : ¬ 1 ≤ n) : Calls Try.prog 101 #[.pointer (some ⟨p, 0, none⟩), .pointer (some ⟨p, 8 + k, none⟩), .int .i64 n] w fun e w' => e = broke 6 m.at_ ∧ w' = w := by
  have H : Hid _ := h
  clear h
  go_enter Try.func101, Try.ntmps101
  go_wp2_with fail
  refine (mmust_no H.out _).mono ?_
  rintro e w' ⟨rfl, rfl⟩
  exact ⟨rfl, rfl, rfl⟩
theorem mroll_any {w : World} {p : Nat} {m : Mch} (h : Mb w p m) (k : Nat) (hk : k < 4) (n : Int) (hn : 1 ≤ n) : Calls Try.prog 101 #[.pointer (some ⟨p, 0, none⟩), .pointer (some ⟨p, 8 + k, none⟩), .int .i64 n] w fun e w' => e = .returned (.tuple #[]) ∧ Mb w' p { m with d := Dice.next m.d, b := Rule.setr m.b k (Rule.clamp (Dice.num (Dice.next m.d) % n)) } ∧ Only [p] w w' ∧ w'.heap.size = w.heap.size := by
  have H : Hid _ := h
  have c16 := h.d
  clear h
  go_enter Try.func101, Try.ntmps101
  go_wp2_with fail
  refine (mmust_yes H.out _).mono ?_
  rintro e w' ⟨rfl, rfl⟩
  go_wp2_with fail
  refine (roll_any _ _ hn _).mono ?_
  rintro e w1 ⟨rfl, rfl⟩
  have H1 : Hid (Mb w'.drew p m ∧ Only [] w' w'.drew) := ⟨H.out.only (only_drew _) (by simp), only_drew _⟩
  have S1 : w'.drew.heap.size = w'.heap.size := rfl
  clear H c16
  generalize w'.drew = w2 at *
  have fz := H1.out.1.frozen
  have c16 := H1.out.1.d
  have cm := H1.out.1.mem k hk
  have ne : ¬ 8 + k = 16 := by omega
  have ne2 : ¬ 16 = 8 + k := by omega
  go_wp2_with fail
  refine (asReg_any _ _).mono ?_
  rintro e w3 ⟨rfl, rfl⟩
  go_wp2_with fail
  go_end0
  refine ⟨rfl, ?_, (H1.out.2.weaken (by simp)).trans (((Only.refl _ _).setCell (by simp) _).setCell (by simp) _), by simp [World.setCell, S1]⟩
  exact (H1.out.1.setd (Dice.next m.d)).setr k hk _
end Go.Proofs.Ytngbannidbijmaa

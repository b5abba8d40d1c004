/- Package window: a Window as plain data, and in memory. -/
import Derived.Test.YtfikpkoocbiinaaSeqA
import Derived.Test.YtfikpkoocbiinaaOwn
import Derived.Laws.Shifts
import Derived.Laws.BitsAllLaws
import Derived.Lib.Hide
import Derived.BigQuiet
import Derived.BigRegion
import Derived.RegionTactic
import Derived.StillTailTactics
namespace Go.Proofs.Ytfikpkoocbiinaa
open Go.RowKit

namespace Win
def bit (b : Nat) : Nat := 2 ^ (b - 1) % 2 ^ 64
/-- what a Window knows -/
structure S where
  any : Bool
  last : Int
  bits : Nat
deriving DecidableEq
def none : S := ⟨false, 0, 0⟩
def S.fill (s : S) (b : Nat) : S × Int :=
  if 64 < b then (s, 3) else
  if b = 0 ∨ s.bits &&& bit b ≠ 0 then (s, 2) else
  (⟨s.any, s.last, s.bits ||| bit b⟩, 1)
def S.note (s : S) (n : Int) : S × Int :=
  if s.any = false then (⟨true, norm n, s.bits⟩, 1) else
  if 0 < ahead n s.last then (⟨true, norm n, s.bits * 2 ^ (ahead n s.last).toNat % 2 ^ 64 ||| bit (ahead n s.last).toNat⟩, 1)
  else s.fill (- ahead n s.last).toNat
end Win

theorem Win.bit_lt (b : Nat) : bit b < 18446744073709551616 := by unfold bit; exact Nat.mod_lt _ (by decide)
theorem shl_num (x y : Nat) : IntKind.u64.wrap ((x : Int) * 2 ^ min y 64) = ((x * 2 ^ y % 2 ^ 64 : Nat) : Int) := by
  have : IntKind.u64.wrap ((x : Int) * 2 ^ min y 64) = ((x * 2 ^ min y 64 % 2 ^ 64 : Nat) : Int) := by
    simp [IntKind.wrap, IntKind.bits, IntKind.signed]
  rw [this]
  rcases Nat.le_total y 64 with h | h
  · rw [Nat.min_eq_left h]
  · obtain ⟨t, rfl⟩ : ∃ t, y = 64 + t := ⟨y - 64, by omega⟩
    rw [Nat.min_eq_right h, Nat.pow_add, Nat.mul_left_comm x, Nat.mul_mod_left, Nat.mul_mod_right]
theorem one_num (y : Nat) : IntKind.u64.wrap (2 ^ min y 64) = ((Win.bit (y + 1) : Nat) : Int) := by
  have := shl_num 1 y
  rw [Nat.one_mul] at this
  simpa [Win.bit] using this
theorem bit_any (b : Nat) (h1 : 1 ≤ b) (h2 : b ≤ 32768) (w : World) : Calls Try.prog 19 #[.int .i64 b] w fun e w' => e = .returned (.int .u64 (Win.bit b)) ∧ w' = w := by
  obtain ⟨c, rfl⟩ : ∃ c, b = c + 1 := ⟨b - 1, by omega⟩
  go_enter Try.func19, Try.ntmps19
  go_wp2
  go_ret
  exact ⟨ret_s (one_num c), rfl⟩

/-- a Window in memory -/
structure Wn (w : World) (b : Nat) (s : Win.S) : Prop where
  three : Three w b (.bool s.any) (.int .i64 s.last) (.int .u64 s.bits)
  lt : s.bits < 18446744073709551616
theorem Wn.only {w w' : World} {b : Nat} {s : Win.S} {L : List Nat} (h : Wn w b s) (o : Only L w w') (hb : b ∉ L) : Wn w' b s := ⟨h.three.only o hb, h.lt⟩
theorem Three.set0 {x y z : Value} {k : Nat} {w : World} (h : Three w k x y z) (u : Value) : Three (w.setCell ⟨k, 0, none⟩ u) k u y z := by
  obtain ⟨t, h⟩ := h
  exact ⟨t, by simp [World.setCell, Array.getElem?_modify, h]⟩
theorem Three.set1 {x y z : Value} {k : Nat} {w : World} (h : Three w k x y z) (u : Value) : Three (w.setCell ⟨k, 1, none⟩ u) k x u z := by
  obtain ⟨t, h⟩ := h
  exact ⟨t, by simp [World.setCell, Array.getElem?_modify, h]⟩
theorem Three.set2 {x y z : Value} {k : Nat} {w : World} (h : Three w k x y z) (u : Value) : Three (w.setCell ⟨k, 2, none⟩ u) k x y u := by
  obtain ⟨t, h⟩ := h
  exact ⟨t, by simp [World.setCell, Array.getElem?_modify, h]⟩
theorem Three.frozen {x y z : Value} {k : Nat} {w : World} (h : Three w k x y z) (i : Nat) : w.frozen? ⟨k, i, none⟩ = false := by
  obtain ⟨t, h⟩ := h; simp [World.frozen?, h]

theorem any_any (b : Nat) (s : Win.S) (w : World) (h : Wn w b s) : Calls Try.prog 7 #[.pointer (some ⟨b, 0, none⟩)] w fun e w' => e = .returned (.bool s.any) ∧ w' = w := by
  have c := h.three.cell0
  go_enter Try.func7, Try.ntmps7
  go_wp2
  go_ret
  exact ⟨rfl, rfl⟩
theorem last_any (b : Nat) (s : Win.S) (w : World) (h : Wn w b s) : Calls Try.prog 11 #[.pointer (some ⟨b, 0, none⟩)] w fun e w' => e = .returned (.int .i64 s.last) ∧ w' = w := by
  have c := h.three.cell1
  go_enter Try.func11, Try.ntmps11
  go_wp2
  go_ret
  exact ⟨rfl, rfl⟩
theorem bits_any (b : Nat) (s : Win.S) (w : World) (h : Wn w b s) : Calls Try.prog 9 #[.pointer (some ⟨b, 0, none⟩)] w fun e w' => e = .returned (.int .u64 s.bits) ∧ w' = w := by
  have c := h.three.cell2
  go_enter Try.func9, Try.ntmps9
  go_wp2
  go_ret
  exact ⟨rfl, rfl⟩
def NotePost (b : Nat) (w : World) (r : Win.S × Int) (e : Ending) (w' : World) : Prop := e = .returned (.int .i64 r.2) ∧ Wn w' b r.1 ∧ Only [b] w w' ∧ w'.heap.size = w.heap.size

theorem fill_any (b : Nat) (s : Win.S) (k : Nat) (hk : k ≤ 32768) (w : World) (h : Wn w b s) : Calls Try.prog 20 #[.pointer (some ⟨b, 0, none⟩), .int .i64 k] w (NotePost b w (s.fill k)) := by
  have c2 := h.three.cell2
  have hf := h.three.frozen 2
  have hand : bits BinOp.and IntKind.u64 (s.bits : Int) (Win.bit k : Int) = ((s.bits &&& Win.bit k : Nat) : Int) := u64_and_nat _ _ h.lt (Win.bit_lt k)
  have hor : bits BinOp.or IntKind.u64 (s.bits : Int) (Win.bit k : Int) = ((s.bits ||| Win.bit k : Nat) : Int) := u64_or_nat _ _ h.lt (Win.bit_lt k)
  have H : Hid _ := h
  clear h
  by_cases k64 : 64 < k
  · have e : s.fill k = (s, 3) := by rw [Win.S.fill, if_pos k64]
    rw [e]
    clear e
    go_enter Try.func20, Try.ntmps20
    go_wp2
    go_ret
    exact ⟨rfl, H.out, Only.refl _ _, rfl⟩
  by_cases k0 : k = 0
  · subst k0
    have e : s.fill 0 = (s, 2) := by rw [Win.S.fill, if_neg (by omega), if_pos (Or.inl rfl)]
    rw [e]
    clear e hand hor
    go_enter Try.func20, Try.ntmps20
    go_wp2_with fail
    go_quiet (fail)
    go_wp2_with fail
    go_ret
    exact ⟨rfl, H.out.only (only_drewN _ _) (by simp), (only_drewN _ _).weaken (by simp), rfl⟩
  have q := bit_any k (by omega) hk
  have BL : Hid (Win.bit k < 2 ^ 64) := Win.bit_lt k
  by_cases kb : s.bits &&& Win.bit k = 0
  · have e : s.fill k = (⟨s.any, s.last, s.bits ||| Win.bit k⟩, 1) := by rw [Win.S.fill, if_neg k64, if_neg (by simp [k0, kb])]
    rw [e]
    rw [kb] at hand
    clear e
    generalize Win.bit k = B at *
    go_enter Try.func20, Try.ntmps20
    go_wp2_with fail
    go_quiet ((go_at_call 19; exact Calls.quiet_of_same (q _)))
    go_wp2_with fail
    have H2 : Hid (Wn (w.drewN nq) b s ∧ Only [] w (w.drewN nq) ∧ (w.drewN nq).heap.size = w.heap.size) := ⟨H.out.only (only_drewN _ _) (by simp), only_drewN _ _, rfl⟩
    clear H c2 hf
    generalize w.drewN nq = w2 at *
    have c2 := H2.out.1.three.cell2
    have hf := H2.out.1.three.frozen 2
    go_still_tail 9, (by kernel_rfl)
    still_call (q _)
    repeat still_step
    refine wpStill_nil ?_
    change wpList _ _ _ _ _ w2.drew
    have H3 : Hid (Wn w2.drew b s ∧ Only [] w w2.drew ∧ w2.drew.heap.size = w.heap.size) := ⟨H2.out.1.only (only_drew _) (by simp), H2.out.2.1.drew, H2.out.2.2⟩
    clear H2 c2 hf
    generalize w2.drew = w3 at *
    have c2 := H3.out.1.three.cell2
    have hf := H3.out.1.three.frozen 2
    go_wp2_with fail
    go_ret
    refine ⟨rfl, ⟨H3.out.1.three.set2 _, Nat.or_lt_two_pow (n := 64) H3.out.1.lt BL.out⟩, ?_, ?_⟩
    · exact (H3.out.2.1.weaken (by simp)).trans ((Only.refl _ _).setCell (by simp) _)
    · simp [World.setCell]; exact H3.out.2.2
  · have e : s.fill k = (s, 2) := by rw [Win.S.fill, if_neg k64, if_pos (Or.inr kb)]
    rw [e]
    clear e hor
    obtain ⟨A, hA⟩ : ∃ A, s.bits &&& Win.bit k = A := ⟨_, rfl⟩
    rw [hA] at hand kb
    have kb1 : ((A : Int) == 0) = false := by simp; omega
    have kb2 : ((A : Int) != 0) = true := by simp; omega
    clear hA kb
    generalize Win.bit k = B at *
    go_enter Try.func20, Try.ntmps20
    go_wp2_with fail
    go_quiet ((go_at_call 19; exact Calls.quiet_of_same (q _)))
    go_wp2_with fail
    go_ret
    exact ⟨rfl, H.out.only (only_drewN _ _) (by simp), (only_drewN _ _).weaken (by simp), rfl⟩

theorem ahead_norm (n l : Int) : ahead (norm n) l = ahead n l := by unfold ahead norm; omega
theorem note_any (b : Nat) (s : Win.S) (n : Int) (w : World) (h : Wn w b s) : Calls Try.prog 8 #[.pointer (some ⟨b, 0, none⟩), .int .i64 n] w (NotePost b w (s.note n)) := by
  have c0 := h.three.cell0
  have c1 := h.three.cell1
  have f0 := h.three.frozen 0
  by_cases ha : s.any = false
  · have e : s.note n = (⟨true, norm n, s.bits⟩, 1) := by rw [Win.S.note, if_pos ha]
    rw [e]
    rw [ha] at c0
    have t1 := h.three.set0 (.bool true)
    have f1 := t1.frozen 1
    have k1 := t1.cell1
    have H : Hid _ := And.intro h t1
    clear h e t1
    go_enter Try.func8, Try.ntmps8
    go_wp2_with fail
    refine (norm_any _ _).mono ?_
    rintro e w' ⟨rfl, rfl⟩
    go_wp2_with fail
    go_ret
    refine ⟨rfl, ⟨H.out.2.set1 _, H.out.1.lt⟩, ?_, ?_⟩
    · exact ((Only.refl _ _).setCell (by simp) _).setCell (by simp) _
    · simp [World.setCell]
  have ha : s.any = true := by simpa using ha
  rw [ha] at c0
  have rg := ahead_rng n s.last
  by_cases hd : 0 < ahead n s.last
  · obtain ⟨d, ed⟩ : ∃ d : Nat, ahead n s.last = d := ⟨(ahead n s.last).toNat, by omega⟩
    have e : s.note n = (⟨true, norm n, s.bits * 2 ^ d % 2 ^ 64 ||| Win.bit d⟩, 1) := by
      rw [Win.S.note, if_neg (by rw [ha]; decide), if_pos hd, ed, Int.toNat_natCast]
    rw [e]
    have en := ahead_norm n s.last
    rw [ed] at hd rg en
    have q := bit_any d (by omega) (by omega)
    have BL := Win.bit_lt d
    have ML : s.bits * 2 ^ d % 2 ^ 64 < 18446744073709551616 := Nat.mod_lt _ (by decide)
    have hor : bits BinOp.or IntKind.u64 (IntKind.u64.wrap ((s.bits : Int) * 2 ^ min d 64)) (Win.bit d : Int) = ((s.bits * 2 ^ d % 2 ^ 64 ||| Win.bit d : Nat) : Int) := by
      rw [shl_num]; exact u64_or_nat _ _ ML BL
    have OL : Hid (s.bits * 2 ^ d % 2 ^ 64 ||| Win.bit d < 18446744073709551616) := Nat.or_lt_two_pow (n := 64) ML BL
    generalize (s.bits * 2 ^ d % 2 ^ 64 ||| Win.bit d) = R at *
    generalize Win.bit d = B at *
    have f1 := h.three.frozen 1
    have t1 := h.three.set1 (.int .i64 (norm n))
    have o1 : Only [b] w (w.setCell ⟨b, 1, none⟩ (.int .i64 (norm n))) := (Only.refl _ _).setCell (by simp) _
    have s1 : (w.setCell ⟨b, 1, none⟩ (.int .i64 (norm n))).heap.size = w.heap.size := by simp [World.setCell]
    have H : Hid _ := And.intro t1 (And.intro o1 s1)
    clear h e t1 o1 s1 ed BL ML
    go_enter Try.func8, Try.ntmps8
    go_wp2_with fail
    refine (norm_any _ _).mono ?_
    rintro e w' ⟨rfl, rfl⟩
    go_wp2_with fail
    refine (ahead_any _ _ _).mono ?_
    rintro e w' ⟨rfl, rfl⟩
    rw [en]
    go_wp2_with fail
    clear c0 c1 f0 f1
    generalize w.setCell ⟨b, 1, none⟩ (.int .i64 (norm n)) = w2 at *
    have c2 := H.out.1.cell2
    go_still_tail 12, (by kernel_rfl)
    still_call (q _)
    repeat still_step
    refine wpStill_nil ?_
    change wpList _ _ _ _ _ w2.drew
    have H3 : Hid (Three w2.drew b (.bool s.any) (.int .i64 (norm n)) (.int .u64 s.bits) ∧ Only [b] w w2.drew ∧ w2.drew.heap.size = w.heap.size) := ⟨H.out.1.only (only_drew _) (by simp), H.out.2.1.drew, H.out.2.2⟩
    clear H c2
    generalize w2.drew = w3 at *
    have c2 := H3.out.1.cell2
    have hf := H3.out.1.frozen 2
    go_wp2_with fail
    go_ret
    have t2 := H3.out.1.set2 (.int .u64 R)
    rw [ha] at t2
    refine ⟨rfl, ⟨t2, OL.out⟩, ?_, ?_⟩
    · exact H3.out.2.1.trans ((Only.refl _ _).setCell (by simp) _)
    · simp [World.setCell]; exact H3.out.2.2
  · obtain ⟨d, ed⟩ : ∃ d : Nat, ahead n s.last = -(d : Int) := ⟨(-ahead n s.last).toNat, by omega⟩
    have e : s.note n = s.fill d := by
      rw [Win.S.note, if_neg (by rw [ha]; decide), if_neg hd, ed, Int.neg_neg, Int.toNat_natCast]
    rw [e]
    have en := ahead_norm n s.last
    rw [ed] at hd rg en
    have q := fill_any b s d (by omega) w h
    clear h e ed
    go_enter Try.func8, Try.ntmps8
    go_wp2_with fail
    refine (norm_any _ _).mono ?_
    rintro e w' ⟨rfl, rfl⟩
    go_wp2_with fail
    refine (ahead_any _ _ _).mono ?_
    rintro e w' ⟨rfl, rfl⟩
    rw [en]
    go_wp2_with fail
    refine (ahead_any _ _ _).mono ?_
    rintro e w' ⟨rfl, rfl⟩
    rw [en]
    go_wp2_with fail
    refine q.mono ?_
    rintro e w2 ⟨rfl, h2⟩
    have H2 : Hid _ := h2
    clear h2
    go_wp2_with fail
    go_ret
    exact ⟨rfl, H2.out⟩

def Win.covers (l : Int) (B : Nat) (n : Int) : Bool := decide (ahead l n = 0 ∨ 0 < ahead l n ∧ B &&& Win.bit (ahead l n).toNat ≠ 0)
theorem covers_any (l : Int) (B : Nat) (hB : B < 18446744073709551616) (n : Int) (w : World) : Calls Try.prog 12 #[.int .i64 l, .int .u64 B, .int .i64 n] w fun e w' => e = .returned (.bool (Win.covers l B n)) ∧ w = w' := by
  have rg := ahead_rng l n
  unfold Win.covers
  obtain ⟨d, ed⟩ : ∃ d, ahead l n = d := ⟨_, rfl⟩
  rw [ed] at rg ⊢
  rcases (show d = 0 ∨ d < 0 ∨ 0 < d by omega) with h | h | h
  · subst h
    rw [decide_eq_true (Or.inl rfl)]
    clear rg hB
    go_enter Try.func12, Try.ntmps12
    go_wp2_with fail
    refine (ahead_any _ _ _).mono ?_
    rintro e w' ⟨rfl, rfl⟩
    rw [ed]
    go_wp2_with fail
    go_ret
    exact ⟨rfl, rfl⟩
  · rw [decide_eq_false (by omega)]
    have h0 : (d == 0) = false := by simp; omega
    clear hB
    go_enter Try.func12, Try.ntmps12
    go_wp2_with fail
    refine (ahead_any _ _ _).mono ?_
    rintro e w' ⟨rfl, rfl⟩
    rw [ed]
    go_wp2_with fail
    go_ret
    exact ⟨rfl, rfl⟩
  · obtain ⟨k, rfl⟩ : ∃ k : Nat, d = k := ⟨d.toNat, by omega⟩
    rw [Int.toNat_natCast]
    have q := bit_any k (by omega) (by omega)
    have hand : bits BinOp.and IntKind.u64 (B : Int) (Win.bit k : Int) = ((B &&& Win.bit k : Nat) : Int) := u64_and_nat _ _ hB (Win.bit_lt k)
    generalize Win.bit k = C at *
    have h0 : ((k : Int) == 0) = false := by simp; omega
    have E : Hid ((decide ((k : Int) = 0 ∨ (0 : Int) < k ∧ B &&& C ≠ 0)) = (((B &&& C : Nat) : Int) != 0)) := by
      show _ = _
      by_cases z : B &&& C = 0
      · rw [z, decide_eq_false (by omega)]; rfl
      · rw [decide_eq_true (by omega)]; symm; simp; omega
    rw [E.out]
    generalize B &&& C = A at *
    clear hB
    go_enter Try.func12, Try.ntmps12
    go_wp2_with fail
    refine (ahead_any _ _ _).mono ?_
    rintro e w' ⟨rfl, rfl⟩
    rw [ed]
    go_wp2_with fail
    refine (q _).mono ?_
    rintro e w' ⟨rfl, hw⟩
    subst hw
    go_wp2_with fail
    go_ret
    exact ⟨rfl, rfl⟩
end Go.Proofs.Ytfikpkoocbiinaa

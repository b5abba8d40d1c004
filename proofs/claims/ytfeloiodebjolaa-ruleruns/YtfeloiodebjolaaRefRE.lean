/- The reference of chapter 12: fault. Made by tools/reffault.py. -/
import Derived.Test.YtfeloiodebjolaaRefRB
import Derived.Test.YtfeloiodebjolaaM44
namespace Go.Proofs.Ytfeloiodebjolaa
open Go.RowKit
set_option linter.unusedVariables false
set_option linter.unusedSimpArgs false

/-- the fault of an op, ahead of it; 0: none -/
def Ref.flt (n : Int) (o : Op3) (e : Ev) : Int := match Rule.act n 0 o e with
  | .fault c => c
  | .next _ _ => 0
theorem btw_in {n lo hi : Int} (h : Body.btw n lo hi = true) : lo ≤ n ∧ n ≤ hi := by simpa [Body.btw] using h

set_option maxRecDepth 100000 in
set_option maxHeartbeats 20000000 in
theorem rfault_1 (a b n : Int) (e : Ev) (sa : Option Addr) (N sc : Nat) (hN : e.sh.length = N) (hN2 : N ≤ 9223372036854775807) (w : World) : Calls Try.prog 20 #[.agg #[.int .i64 1, .int .i64 a, .int .i64 b], e.v (.slice sa N sc), .int .i64 n] w fun x w' => x = .returned (.int .i64 (Ref.flt n ⟨1, a, b⟩ e)) ∧ Only [] w w' := by
  have hnot : ∀ (x : Bool) (w : World), (Op.unary .not (.bool x)).run Try.prog w = .ok (.bool (!x)) w := fun _ _ => rfl
  have HN : Hid _ := hN
  clear hN
  have H0 : Hid (Three ((w.alloc (.cells #[.int .i64 1, .int .i64 a, .int .i64 b] 29)).alloc (.cells (e.cells (.slice sa N sc)).toArray 45)) w.heap.size (.int .i64 1) (.int .i64 a) (.int .i64 b) ∧ Eb ((w.alloc (.cells #[.int .i64 1, .int .i64 a, .int .i64 b] 29)).alloc (.cells (e.cells (.slice sa N sc)).toArray 45)) (w.heap.size + 1) e (.slice sa N sc) ∧ Only [] w ((w.alloc (.cells #[.int .i64 1, .int .i64 a, .int .i64 b] 29)).alloc (.cells (e.cells (.slice sa N sc)).toArray 45))) :=
    ⟨(Three.new _ _ _ _ _).only ((Only.refl [] _).alloc _) (by simp), Eb.newAt e _ (by simp) _, ((Only.refl [] _).alloc _).alloc _⟩
  go_enter Try.func20, Try.ntmps20
  go_upto_region 1 with fail
  change Code.wp _ _ _ _ ((w.alloc (.cells #[.int .i64 1, .int .i64 a, .int .i64 b] 29)).alloc (.cells (e.cells (.slice sa N sc)).toArray 45))
  generalize (w.alloc (.cells #[.int .i64 1, .int .i64 a, .int .i64 b] 29)).alloc (.cells (e.cells (.slice sa N sc)).toArray 45) = W at *
  obtain ⟨q, hq⟩ : ∃ q, w.heap.size = q := ⟨_, rfl⟩
  simp only [hq] at H0 ⊢
  clear hq
  have f0 := H0.out.1.cell0
  have f1 := H0.out.1.cell1
  have f2 := H0.out.1.cell2
  obtain ⟨pA, hA⟩ : ∃ p, Body.btw a 0 3 = p := ⟨_, rfl⟩
  obtain ⟨pB, hB⟩ : ∃ p, Body.btw b 0 3 = p := ⟨_, rfl⟩
  have htr : True := trivial
  · clear htr
    have hc13 : Body.btw 1 1 13 = true := rfl
    have hna : Ref.na 1 = true := rfl
    have hnb : Ref.nb 1 = false := rfl
    cases pA
    · have HF : Hid (Ref.flt n ⟨1, a, b⟩ e = 2) := by
        show _ = _
        simp [Ref.flt, Rule.act, Rule.is, hA]
      go_wp2_with fail
      repeat (first | (refine (names_any _ _).mono ?_; rintro x w' ⟨rfl, rfl⟩; simp only [hna, hnb]; go_wp2_with fail) | (refine (ris_any _ _ _ _).mono ?_; rintro x w' ⟨rfl, rfl⟩; simp only [hc13, hA]; go_wp2_with fail) | (refine (rreg_any _ _).mono ?_; rintro x w' ⟨rfl, rfl⟩; simp only [hc13, hA]; go_wp2_with fail))
      go_ret
      exact ⟨by rw [HF.out]; rfl, H0.out.2.2⟩
    have HF : Hid (Ref.flt n ⟨1, a, b⟩ e = 0) := by
      show _ = _
      simp [Ref.flt, Rule.act, Rule.is, hA]
    go_wp2_with fail
    repeat (first | (refine (names_any _ _).mono ?_; rintro x w' ⟨rfl, rfl⟩; simp only [hna, hnb]; go_wp2_with fail) | (refine (ris_any _ _ _ _).mono ?_; rintro x w' ⟨rfl, rfl⟩; simp only [hc13, hA]; go_wp2_with fail) | (refine (rreg_any _ _).mono ?_; rintro x w' ⟨rfl, rfl⟩; simp only [hc13, hA]; go_wp2_with fail))
    go_ret
    exact ⟨by rw [HF.out]; rfl, H0.out.2.2⟩
set_option maxRecDepth 100000 in
set_option maxHeartbeats 20000000 in
theorem rfault_2 (a b n : Int) (e : Ev) (sa : Option Addr) (N sc : Nat) (hN : e.sh.length = N) (hN2 : N ≤ 9223372036854775807) (w : World) : Calls Try.prog 20 #[.agg #[.int .i64 2, .int .i64 a, .int .i64 b], e.v (.slice sa N sc), .int .i64 n] w fun x w' => x = .returned (.int .i64 (Ref.flt n ⟨2, a, b⟩ e)) ∧ Only [] w w' := by
  have hnot : ∀ (x : Bool) (w : World), (Op.unary .not (.bool x)).run Try.prog w = .ok (.bool (!x)) w := fun _ _ => rfl
  have HN : Hid _ := hN
  clear hN
  have H0 : Hid (Three ((w.alloc (.cells #[.int .i64 2, .int .i64 a, .int .i64 b] 29)).alloc (.cells (e.cells (.slice sa N sc)).toArray 45)) w.heap.size (.int .i64 2) (.int .i64 a) (.int .i64 b) ∧ Eb ((w.alloc (.cells #[.int .i64 2, .int .i64 a, .int .i64 b] 29)).alloc (.cells (e.cells (.slice sa N sc)).toArray 45)) (w.heap.size + 1) e (.slice sa N sc) ∧ Only [] w ((w.alloc (.cells #[.int .i64 2, .int .i64 a, .int .i64 b] 29)).alloc (.cells (e.cells (.slice sa N sc)).toArray 45))) :=
    ⟨(Three.new _ _ _ _ _).only ((Only.refl [] _).alloc _) (by simp), Eb.newAt e _ (by simp) _, ((Only.refl [] _).alloc _).alloc _⟩
  go_enter Try.func20, Try.ntmps20
  go_upto_region 1 with fail
  change Code.wp _ _ _ _ ((w.alloc (.cells #[.int .i64 2, .int .i64 a, .int .i64 b] 29)).alloc (.cells (e.cells (.slice sa N sc)).toArray 45))
  generalize (w.alloc (.cells #[.int .i64 2, .int .i64 a, .int .i64 b] 29)).alloc (.cells (e.cells (.slice sa N sc)).toArray 45) = W at *
  obtain ⟨q, hq⟩ : ∃ q, w.heap.size = q := ⟨_, rfl⟩
  simp only [hq] at H0 ⊢
  clear hq
  have f0 := H0.out.1.cell0
  have f1 := H0.out.1.cell1
  have f2 := H0.out.1.cell2
  obtain ⟨pA, hA⟩ : ∃ p, Body.btw a 0 3 = p := ⟨_, rfl⟩
  obtain ⟨pB, hB⟩ : ∃ p, Body.btw b 0 3 = p := ⟨_, rfl⟩
  have htr : True := trivial
  · clear htr
    have hc13 : Body.btw 2 1 13 = true := rfl
    have hna : Ref.na 2 = true := rfl
    have hnb : Ref.nb 2 = true := rfl
    cases pA
    · have HF : Hid (Ref.flt n ⟨2, a, b⟩ e = 2) := by
        show _ = _
        simp [Ref.flt, Rule.act, Rule.is, hA]
      go_wp2_with fail
      repeat (first | (refine (names_any _ _).mono ?_; rintro x w' ⟨rfl, rfl⟩; simp only [hna, hnb]; go_wp2_with fail) | (refine (ris_any _ _ _ _).mono ?_; rintro x w' ⟨rfl, rfl⟩; simp only [hc13, hA]; go_wp2_with fail) | (refine (rreg_any _ _).mono ?_; rintro x w' ⟨rfl, rfl⟩; simp only [hc13, hA]; go_wp2_with fail))
      go_ret
      exact ⟨by rw [HF.out]; rfl, H0.out.2.2⟩
    cases pB
    · have HF : Hid (Ref.flt n ⟨2, a, b⟩ e = 2) := by
        show _ = _
        simp [Ref.flt, Rule.act, Rule.is, hA, hB]
      go_wp2_with fail
      repeat (first | (refine (names_any _ _).mono ?_; rintro x w' ⟨rfl, rfl⟩; simp only [hna, hnb]; go_wp2_with fail) | (refine (ris_any _ _ _ _).mono ?_; rintro x w' ⟨rfl, rfl⟩; simp only [hc13, hA, hB]; go_wp2_with fail) | (refine (rreg_any _ _).mono ?_; rintro x w' ⟨rfl, rfl⟩; simp only [hc13, hA, hB]; go_wp2_with fail))
      go_ret
      exact ⟨by rw [HF.out]; rfl, H0.out.2.2⟩
    have HF : Hid (Ref.flt n ⟨2, a, b⟩ e = 0) := by
      show _ = _
      simp [Ref.flt, Rule.act, Rule.is, hA, hB]
    go_wp2_with fail
    repeat (first | (refine (names_any _ _).mono ?_; rintro x w' ⟨rfl, rfl⟩; simp only [hna, hnb]; go_wp2_with fail) | (refine (ris_any _ _ _ _).mono ?_; rintro x w' ⟨rfl, rfl⟩; simp only [hc13, hA, hB]; go_wp2_with fail) | (refine (rreg_any _ _).mono ?_; rintro x w' ⟨rfl, rfl⟩; simp only [hc13, hA, hB]; go_wp2_with fail))
    go_ret
    exact ⟨by rw [HF.out]; rfl, H0.out.2.2⟩
set_option maxRecDepth 100000 in
set_option maxHeartbeats 20000000 in
theorem rfault_3 (a b n : Int) (e : Ev) (sa : Option Addr) (N sc : Nat) (hN : e.sh.length = N) (hN2 : N ≤ 9223372036854775807) (w : World) : Calls Try.prog 20 #[.agg #[.int .i64 3, .int .i64 a, .int .i64 b], e.v (.slice sa N sc), .int .i64 n] w fun x w' => x = .returned (.int .i64 (Ref.flt n ⟨3, a, b⟩ e)) ∧ Only [] w w' := by
  have hnot : ∀ (x : Bool) (w : World), (Op.unary .not (.bool x)).run Try.prog w = .ok (.bool (!x)) w := fun _ _ => rfl
  have HN : Hid _ := hN
  clear hN
  have H0 : Hid (Three ((w.alloc (.cells #[.int .i64 3, .int .i64 a, .int .i64 b] 29)).alloc (.cells (e.cells (.slice sa N sc)).toArray 45)) w.heap.size (.int .i64 3) (.int .i64 a) (.int .i64 b) ∧ Eb ((w.alloc (.cells #[.int .i64 3, .int .i64 a, .int .i64 b] 29)).alloc (.cells (e.cells (.slice sa N sc)).toArray 45)) (w.heap.size + 1) e (.slice sa N sc) ∧ Only [] w ((w.alloc (.cells #[.int .i64 3, .int .i64 a, .int .i64 b] 29)).alloc (.cells (e.cells (.slice sa N sc)).toArray 45))) :=
    ⟨(Three.new _ _ _ _ _).only ((Only.refl [] _).alloc _) (by simp), Eb.newAt e _ (by simp) _, ((Only.refl [] _).alloc _).alloc _⟩
  go_enter Try.func20, Try.ntmps20
  go_upto_region 1 with fail
  change Code.wp _ _ _ _ ((w.alloc (.cells #[.int .i64 3, .int .i64 a, .int .i64 b] 29)).alloc (.cells (e.cells (.slice sa N sc)).toArray 45))
  generalize (w.alloc (.cells #[.int .i64 3, .int .i64 a, .int .i64 b] 29)).alloc (.cells (e.cells (.slice sa N sc)).toArray 45) = W at *
  obtain ⟨q, hq⟩ : ∃ q, w.heap.size = q := ⟨_, rfl⟩
  simp only [hq] at H0 ⊢
  clear hq
  have f0 := H0.out.1.cell0
  have f1 := H0.out.1.cell1
  have f2 := H0.out.1.cell2
  obtain ⟨pA, hA⟩ : ∃ p, Body.btw a 0 3 = p := ⟨_, rfl⟩
  obtain ⟨pB, hB⟩ : ∃ p, Body.btw b 0 3 = p := ⟨_, rfl⟩
  have htr : True := trivial
  · clear htr
    have hc13 : Body.btw 3 1 13 = true := rfl
    have hna : Ref.na 3 = true := rfl
    have hnb : Ref.nb 3 = true := rfl
    cases pA
    · have HF : Hid (Ref.flt n ⟨3, a, b⟩ e = 2) := by
        show _ = _
        simp [Ref.flt, Rule.act, Rule.is, hA]
      go_wp2_with fail
      repeat (first | (refine (names_any _ _).mono ?_; rintro x w' ⟨rfl, rfl⟩; simp only [hna, hnb]; go_wp2_with fail) | (refine (ris_any _ _ _ _).mono ?_; rintro x w' ⟨rfl, rfl⟩; simp only [hc13, hA]; go_wp2_with fail) | (refine (rreg_any _ _).mono ?_; rintro x w' ⟨rfl, rfl⟩; simp only [hc13, hA]; go_wp2_with fail))
      go_ret
      exact ⟨by rw [HF.out]; rfl, H0.out.2.2⟩
    cases pB
    · have HF : Hid (Ref.flt n ⟨3, a, b⟩ e = 2) := by
        show _ = _
        simp [Ref.flt, Rule.act, Rule.is, hA, hB]
      go_wp2_with fail
      repeat (first | (refine (names_any _ _).mono ?_; rintro x w' ⟨rfl, rfl⟩; simp only [hna, hnb]; go_wp2_with fail) | (refine (ris_any _ _ _ _).mono ?_; rintro x w' ⟨rfl, rfl⟩; simp only [hc13, hA, hB]; go_wp2_with fail) | (refine (rreg_any _ _).mono ?_; rintro x w' ⟨rfl, rfl⟩; simp only [hc13, hA, hB]; go_wp2_with fail))
      go_ret
      exact ⟨by rw [HF.out]; rfl, H0.out.2.2⟩
    have HF : Hid (Ref.flt n ⟨3, a, b⟩ e = 0) := by
      show _ = _
      simp [Ref.flt, Rule.act, Rule.is, hA, hB]
    go_wp2_with fail
    repeat (first | (refine (names_any _ _).mono ?_; rintro x w' ⟨rfl, rfl⟩; simp only [hna, hnb]; go_wp2_with fail) | (refine (ris_any _ _ _ _).mono ?_; rintro x w' ⟨rfl, rfl⟩; simp only [hc13, hA, hB]; go_wp2_with fail) | (refine (rreg_any _ _).mono ?_; rintro x w' ⟨rfl, rfl⟩; simp only [hc13, hA, hB]; go_wp2_with fail))
    go_ret
    exact ⟨by rw [HF.out]; rfl, H0.out.2.2⟩
set_option maxRecDepth 100000 in
set_option maxHeartbeats 20000000 in
theorem rfault_4 (a b n : Int) (e : Ev) (sa : Option Addr) (N sc : Nat) (hN : e.sh.length = N) (hN2 : N ≤ 9223372036854775807) (w : World) : Calls Try.prog 20 #[.agg #[.int .i64 4, .int .i64 a, .int .i64 b], e.v (.slice sa N sc), .int .i64 n] w fun x w' => x = .returned (.int .i64 (Ref.flt n ⟨4, a, b⟩ e)) ∧ Only [] w w' := by
  have hnot : ∀ (x : Bool) (w : World), (Op.unary .not (.bool x)).run Try.prog w = .ok (.bool (!x)) w := fun _ _ => rfl
  have HN : Hid _ := hN
  clear hN
  have H0 : Hid (Three ((w.alloc (.cells #[.int .i64 4, .int .i64 a, .int .i64 b] 29)).alloc (.cells (e.cells (.slice sa N sc)).toArray 45)) w.heap.size (.int .i64 4) (.int .i64 a) (.int .i64 b) ∧ Eb ((w.alloc (.cells #[.int .i64 4, .int .i64 a, .int .i64 b] 29)).alloc (.cells (e.cells (.slice sa N sc)).toArray 45)) (w.heap.size + 1) e (.slice sa N sc) ∧ Only [] w ((w.alloc (.cells #[.int .i64 4, .int .i64 a, .int .i64 b] 29)).alloc (.cells (e.cells (.slice sa N sc)).toArray 45))) :=
    ⟨(Three.new _ _ _ _ _).only ((Only.refl [] _).alloc _) (by simp), Eb.newAt e _ (by simp) _, ((Only.refl [] _).alloc _).alloc _⟩
  go_enter Try.func20, Try.ntmps20
  go_upto_region 1 with fail
  change Code.wp _ _ _ _ ((w.alloc (.cells #[.int .i64 4, .int .i64 a, .int .i64 b] 29)).alloc (.cells (e.cells (.slice sa N sc)).toArray 45))
  generalize (w.alloc (.cells #[.int .i64 4, .int .i64 a, .int .i64 b] 29)).alloc (.cells (e.cells (.slice sa N sc)).toArray 45) = W at *
  obtain ⟨q, hq⟩ : ∃ q, w.heap.size = q := ⟨_, rfl⟩
  simp only [hq] at H0 ⊢
  clear hq
  have f0 := H0.out.1.cell0
  have f1 := H0.out.1.cell1
  have f2 := H0.out.1.cell2
  obtain ⟨pA, hA⟩ : ∃ p, Body.btw a 0 3 = p := ⟨_, rfl⟩
  obtain ⟨pB, hB⟩ : ∃ p, Body.btw b 0 3 = p := ⟨_, rfl⟩
  have htr : True := trivial
  · clear htr
    have hc13 : Body.btw 4 1 13 = true := rfl
    have hna : Ref.na 4 = true := rfl
    have hnb : Ref.nb 4 = true := rfl
    cases pA
    · have HF : Hid (Ref.flt n ⟨4, a, b⟩ e = 2) := by
        show _ = _
        simp [Ref.flt, Rule.act, Rule.is, hA]
      go_wp2_with fail
      repeat (first | (refine (names_any _ _).mono ?_; rintro x w' ⟨rfl, rfl⟩; simp only [hna, hnb]; go_wp2_with fail) | (refine (ris_any _ _ _ _).mono ?_; rintro x w' ⟨rfl, rfl⟩; simp only [hc13, hA]; go_wp2_with fail) | (refine (rreg_any _ _).mono ?_; rintro x w' ⟨rfl, rfl⟩; simp only [hc13, hA]; go_wp2_with fail))
      go_ret
      exact ⟨by rw [HF.out]; rfl, H0.out.2.2⟩
    cases pB
    · have HF : Hid (Ref.flt n ⟨4, a, b⟩ e = 2) := by
        show _ = _
        simp [Ref.flt, Rule.act, Rule.is, hA, hB]
      go_wp2_with fail
      repeat (first | (refine (names_any _ _).mono ?_; rintro x w' ⟨rfl, rfl⟩; simp only [hna, hnb]; go_wp2_with fail) | (refine (ris_any _ _ _ _).mono ?_; rintro x w' ⟨rfl, rfl⟩; simp only [hc13, hA, hB]; go_wp2_with fail) | (refine (rreg_any _ _).mono ?_; rintro x w' ⟨rfl, rfl⟩; simp only [hc13, hA, hB]; go_wp2_with fail))
      go_ret
      exact ⟨by rw [HF.out]; rfl, H0.out.2.2⟩
    have HF : Hid (Ref.flt n ⟨4, a, b⟩ e = 0) := by
      show _ = _
      simp [Ref.flt, Rule.act, Rule.is, hA, hB]
    go_wp2_with fail
    repeat (first | (refine (names_any _ _).mono ?_; rintro x w' ⟨rfl, rfl⟩; simp only [hna, hnb]; go_wp2_with fail) | (refine (ris_any _ _ _ _).mono ?_; rintro x w' ⟨rfl, rfl⟩; simp only [hc13, hA, hB]; go_wp2_with fail) | (refine (rreg_any _ _).mono ?_; rintro x w' ⟨rfl, rfl⟩; simp only [hc13, hA, hB]; go_wp2_with fail))
    go_ret
    exact ⟨by rw [HF.out]; rfl, H0.out.2.2⟩
set_option maxRecDepth 100000 in
set_option maxHeartbeats 20000000 in
theorem rfault_5 (a b n : Int) (e : Ev) (sa : Option Addr) (N sc : Nat) (hN : e.sh.length = N) (hN2 : N ≤ 9223372036854775807) (w : World) : Calls Try.prog 20 #[.agg #[.int .i64 5, .int .i64 a, .int .i64 b], e.v (.slice sa N sc), .int .i64 n] w fun x w' => x = .returned (.int .i64 (Ref.flt n ⟨5, a, b⟩ e)) ∧ Only [] w w' := by
  have hnot : ∀ (x : Bool) (w : World), (Op.unary .not (.bool x)).run Try.prog w = .ok (.bool (!x)) w := fun _ _ => rfl
  have HN : Hid _ := hN
  clear hN
  have H0 : Hid (Three ((w.alloc (.cells #[.int .i64 5, .int .i64 a, .int .i64 b] 29)).alloc (.cells (e.cells (.slice sa N sc)).toArray 45)) w.heap.size (.int .i64 5) (.int .i64 a) (.int .i64 b) ∧ Eb ((w.alloc (.cells #[.int .i64 5, .int .i64 a, .int .i64 b] 29)).alloc (.cells (e.cells (.slice sa N sc)).toArray 45)) (w.heap.size + 1) e (.slice sa N sc) ∧ Only [] w ((w.alloc (.cells #[.int .i64 5, .int .i64 a, .int .i64 b] 29)).alloc (.cells (e.cells (.slice sa N sc)).toArray 45))) :=
    ⟨(Three.new _ _ _ _ _).only ((Only.refl [] _).alloc _) (by simp), Eb.newAt e _ (by simp) _, ((Only.refl [] _).alloc _).alloc _⟩
  go_enter Try.func20, Try.ntmps20
  go_upto_region 1 with fail
  change Code.wp _ _ _ _ ((w.alloc (.cells #[.int .i64 5, .int .i64 a, .int .i64 b] 29)).alloc (.cells (e.cells (.slice sa N sc)).toArray 45))
  generalize (w.alloc (.cells #[.int .i64 5, .int .i64 a, .int .i64 b] 29)).alloc (.cells (e.cells (.slice sa N sc)).toArray 45) = W at *
  obtain ⟨q, hq⟩ : ∃ q, w.heap.size = q := ⟨_, rfl⟩
  simp only [hq] at H0 ⊢
  clear hq
  have f0 := H0.out.1.cell0
  have f1 := H0.out.1.cell1
  have f2 := H0.out.1.cell2
  obtain ⟨pA, hA⟩ : ∃ p, Body.btw a 0 3 = p := ⟨_, rfl⟩
  obtain ⟨pB, hB⟩ : ∃ p, Body.btw b 0 3 = p := ⟨_, rfl⟩
  have htr : True := trivial
  · clear htr
    have hc13 : Body.btw 5 1 13 = true := rfl
    have hna : Ref.na 5 = true := rfl
    have hnb : Ref.nb 5 = true := rfl
    cases pA
    · have HF : Hid (Ref.flt n ⟨5, a, b⟩ e = 2) := by
        show _ = _
        simp [Ref.flt, Rule.act, Rule.is, hA]
      go_wp2_with fail
      repeat (first | (refine (names_any _ _).mono ?_; rintro x w' ⟨rfl, rfl⟩; simp only [hna, hnb]; go_wp2_with fail) | (refine (ris_any _ _ _ _).mono ?_; rintro x w' ⟨rfl, rfl⟩; simp only [hc13, hA]; go_wp2_with fail) | (refine (rreg_any _ _).mono ?_; rintro x w' ⟨rfl, rfl⟩; simp only [hc13, hA]; go_wp2_with fail))
      go_ret
      exact ⟨by rw [HF.out]; rfl, H0.out.2.2⟩
    cases pB
    · have HF : Hid (Ref.flt n ⟨5, a, b⟩ e = 2) := by
        show _ = _
        simp [Ref.flt, Rule.act, Rule.is, hA, hB]
      go_wp2_with fail
      repeat (first | (refine (names_any _ _).mono ?_; rintro x w' ⟨rfl, rfl⟩; simp only [hna, hnb]; go_wp2_with fail) | (refine (ris_any _ _ _ _).mono ?_; rintro x w' ⟨rfl, rfl⟩; simp only [hc13, hA, hB]; go_wp2_with fail) | (refine (rreg_any _ _).mono ?_; rintro x w' ⟨rfl, rfl⟩; simp only [hc13, hA, hB]; go_wp2_with fail))
      go_ret
      exact ⟨by rw [HF.out]; rfl, H0.out.2.2⟩
    have HF : Hid (Ref.flt n ⟨5, a, b⟩ e = 0) := by
      show _ = _
      simp [Ref.flt, Rule.act, Rule.is, hA, hB]
    go_wp2_with fail
    repeat (first | (refine (names_any _ _).mono ?_; rintro x w' ⟨rfl, rfl⟩; simp only [hna, hnb]; go_wp2_with fail) | (refine (ris_any _ _ _ _).mono ?_; rintro x w' ⟨rfl, rfl⟩; simp only [hc13, hA, hB]; go_wp2_with fail) | (refine (rreg_any _ _).mono ?_; rintro x w' ⟨rfl, rfl⟩; simp only [hc13, hA, hB]; go_wp2_with fail))
    go_ret
    exact ⟨by rw [HF.out]; rfl, H0.out.2.2⟩
set_option maxRecDepth 100000 in
set_option maxHeartbeats 20000000 in
theorem rfault_6 (a b n : Int) (e : Ev) (sa : Option Addr) (N sc : Nat) (hN : e.sh.length = N) (hN2 : N ≤ 9223372036854775807) (w : World) : Calls Try.prog 20 #[.agg #[.int .i64 6, .int .i64 a, .int .i64 b], e.v (.slice sa N sc), .int .i64 n] w fun x w' => x = .returned (.int .i64 (Ref.flt n ⟨6, a, b⟩ e)) ∧ Only [] w w' := by
  have hnot : ∀ (x : Bool) (w : World), (Op.unary .not (.bool x)).run Try.prog w = .ok (.bool (!x)) w := fun _ _ => rfl
  have HN : Hid _ := hN
  clear hN
  have H0 : Hid (Three ((w.alloc (.cells #[.int .i64 6, .int .i64 a, .int .i64 b] 29)).alloc (.cells (e.cells (.slice sa N sc)).toArray 45)) w.heap.size (.int .i64 6) (.int .i64 a) (.int .i64 b) ∧ Eb ((w.alloc (.cells #[.int .i64 6, .int .i64 a, .int .i64 b] 29)).alloc (.cells (e.cells (.slice sa N sc)).toArray 45)) (w.heap.size + 1) e (.slice sa N sc) ∧ Only [] w ((w.alloc (.cells #[.int .i64 6, .int .i64 a, .int .i64 b] 29)).alloc (.cells (e.cells (.slice sa N sc)).toArray 45))) :=
    ⟨(Three.new _ _ _ _ _).only ((Only.refl [] _).alloc _) (by simp), Eb.newAt e _ (by simp) _, ((Only.refl [] _).alloc _).alloc _⟩
  go_enter Try.func20, Try.ntmps20
  go_upto_region 1 with fail
  change Code.wp _ _ _ _ ((w.alloc (.cells #[.int .i64 6, .int .i64 a, .int .i64 b] 29)).alloc (.cells (e.cells (.slice sa N sc)).toArray 45))
  generalize (w.alloc (.cells #[.int .i64 6, .int .i64 a, .int .i64 b] 29)).alloc (.cells (e.cells (.slice sa N sc)).toArray 45) = W at *
  obtain ⟨q, hq⟩ : ∃ q, w.heap.size = q := ⟨_, rfl⟩
  simp only [hq] at H0 ⊢
  clear hq
  have f0 := H0.out.1.cell0
  have f1 := H0.out.1.cell1
  have f2 := H0.out.1.cell2
  obtain ⟨pA, hA⟩ : ∃ p, Body.btw a 0 3 = p := ⟨_, rfl⟩
  obtain ⟨pB, hB⟩ : ∃ p, Body.btw b 0 3 = p := ⟨_, rfl⟩
  have htr : True := trivial
  · clear htr
    have hc13 : Body.btw 6 1 13 = true := rfl
    have hna : Ref.na 6 = true := rfl
    have hnb : Ref.nb 6 = true := rfl
    cases pA
    · have HF : Hid (Ref.flt n ⟨6, a, b⟩ e = 2) := by
        show _ = _
        simp [Ref.flt, Rule.act, Rule.is, hA]
      go_wp2_with fail
      repeat (first | (refine (names_any _ _).mono ?_; rintro x w' ⟨rfl, rfl⟩; simp only [hna, hnb]; go_wp2_with fail) | (refine (ris_any _ _ _ _).mono ?_; rintro x w' ⟨rfl, rfl⟩; simp only [hc13, hA]; go_wp2_with fail) | (refine (rreg_any _ _).mono ?_; rintro x w' ⟨rfl, rfl⟩; simp only [hc13, hA]; go_wp2_with fail))
      go_ret
      exact ⟨by rw [HF.out]; rfl, H0.out.2.2⟩
    cases pB
    · have HF : Hid (Ref.flt n ⟨6, a, b⟩ e = 2) := by
        show _ = _
        simp [Ref.flt, Rule.act, Rule.is, hA, hB]
      go_wp2_with fail
      repeat (first | (refine (names_any _ _).mono ?_; rintro x w' ⟨rfl, rfl⟩; simp only [hna, hnb]; go_wp2_with fail) | (refine (ris_any _ _ _ _).mono ?_; rintro x w' ⟨rfl, rfl⟩; simp only [hc13, hA, hB]; go_wp2_with fail) | (refine (rreg_any _ _).mono ?_; rintro x w' ⟨rfl, rfl⟩; simp only [hc13, hA, hB]; go_wp2_with fail))
      go_ret
      exact ⟨by rw [HF.out]; rfl, H0.out.2.2⟩
    obtain ⟨j, hj⟩ : ∃ j : Nat, b = j := ⟨b.toNat, by have := btw_in hB; omega⟩
    have hj4 : j < 4 := by have := btw_in hB; omega
    subst hj
    obtain ⟨m, hm⟩ : ∃ m, Rule.reg e.b (j : Nat) = m := ⟨_, rfl⟩
    have cm : W.cell? ⟨q + 1, 7 + j, none⟩ = some (.int .i64 m) := by rw [← hm]; exact H0.out.2.1.mem j hj4
    have ix := fun w => @idx_at (q + 1) 7 j hj4 w
    have HM : Hid _ := hm
    by_cases hz : m = 0
    · have hz2 : (m == 0) = true := by simpa using hz
      have HF : Hid (Ref.flt n ⟨6, a, (j : Int)⟩ e = 1) := by
        show _ = _
        simp [Ref.flt, Rule.act, Rule.is, hA, hB, hm, hz]
      clear hm
      go_wp2_with fail
      repeat (first | (refine (names_any _ _).mono ?_; rintro x w' ⟨rfl, rfl⟩; simp only [hna, hnb]; go_wp2_with fail) | (refine (ris_any _ _ _ _).mono ?_; rintro x w' ⟨rfl, rfl⟩; simp only [hc13, hA, hB]; go_wp2_with fail) | (refine (rreg_any _ _).mono ?_; rintro x w' ⟨rfl, rfl⟩; simp only [hc13, hA, hB]; go_wp2_with fail))
      go_ret
      exact ⟨by rw [HF.out]; rfl, H0.out.2.2⟩
    have hz2 : (m == 0) = false := by simpa using hz
    have HF : Hid (Ref.flt n ⟨6, a, (j : Int)⟩ e = 0) := by
      show _ = _
      simp [Ref.flt, Rule.act, Rule.is, hA, hB, hm, hz]
    clear hm
    go_wp2_with fail
    repeat (first | (refine (names_any _ _).mono ?_; rintro x w' ⟨rfl, rfl⟩; simp only [hna, hnb]; go_wp2_with fail) | (refine (ris_any _ _ _ _).mono ?_; rintro x w' ⟨rfl, rfl⟩; simp only [hc13, hA, hB]; go_wp2_with fail) | (refine (rreg_any _ _).mono ?_; rintro x w' ⟨rfl, rfl⟩; simp only [hc13, hA, hB]; go_wp2_with fail))
    go_ret
    exact ⟨by rw [HF.out]; rfl, H0.out.2.2⟩
set_option maxRecDepth 100000 in
set_option maxHeartbeats 20000000 in
theorem rfault_7 (a b n : Int) (e : Ev) (sa : Option Addr) (N sc : Nat) (hN : e.sh.length = N) (hN2 : N ≤ 9223372036854775807) (w : World) : Calls Try.prog 20 #[.agg #[.int .i64 7, .int .i64 a, .int .i64 b], e.v (.slice sa N sc), .int .i64 n] w fun x w' => x = .returned (.int .i64 (Ref.flt n ⟨7, a, b⟩ e)) ∧ Only [] w w' := by
  have hnot : ∀ (x : Bool) (w : World), (Op.unary .not (.bool x)).run Try.prog w = .ok (.bool (!x)) w := fun _ _ => rfl
  have HN : Hid _ := hN
  clear hN
  have H0 : Hid (Three ((w.alloc (.cells #[.int .i64 7, .int .i64 a, .int .i64 b] 29)).alloc (.cells (e.cells (.slice sa N sc)).toArray 45)) w.heap.size (.int .i64 7) (.int .i64 a) (.int .i64 b) ∧ Eb ((w.alloc (.cells #[.int .i64 7, .int .i64 a, .int .i64 b] 29)).alloc (.cells (e.cells (.slice sa N sc)).toArray 45)) (w.heap.size + 1) e (.slice sa N sc) ∧ Only [] w ((w.alloc (.cells #[.int .i64 7, .int .i64 a, .int .i64 b] 29)).alloc (.cells (e.cells (.slice sa N sc)).toArray 45))) :=
    ⟨(Three.new _ _ _ _ _).only ((Only.refl [] _).alloc _) (by simp), Eb.newAt e _ (by simp) _, ((Only.refl [] _).alloc _).alloc _⟩
  go_enter Try.func20, Try.ntmps20
  go_upto_region 1 with fail
  change Code.wp _ _ _ _ ((w.alloc (.cells #[.int .i64 7, .int .i64 a, .int .i64 b] 29)).alloc (.cells (e.cells (.slice sa N sc)).toArray 45))
  generalize (w.alloc (.cells #[.int .i64 7, .int .i64 a, .int .i64 b] 29)).alloc (.cells (e.cells (.slice sa N sc)).toArray 45) = W at *
  obtain ⟨q, hq⟩ : ∃ q, w.heap.size = q := ⟨_, rfl⟩
  simp only [hq] at H0 ⊢
  clear hq
  have f0 := H0.out.1.cell0
  have f1 := H0.out.1.cell1
  have f2 := H0.out.1.cell2
  obtain ⟨pA, hA⟩ : ∃ p, Body.btw a 0 3 = p := ⟨_, rfl⟩
  obtain ⟨pB, hB⟩ : ∃ p, Body.btw b 0 3 = p := ⟨_, rfl⟩
  have htr : True := trivial
  · clear htr
    have hc13 : Body.btw 7 1 13 = true := rfl
    have hna : Ref.na 7 = true := rfl
    have hnb : Ref.nb 7 = false := rfl
    cases pA
    · have HF : Hid (Ref.flt n ⟨7, a, b⟩ e = 2) := by
        show _ = _
        simp [Ref.flt, Rule.act, Rule.is, hA]
      go_wp2_with fail
      repeat (first | (refine (names_any _ _).mono ?_; rintro x w' ⟨rfl, rfl⟩; simp only [hna, hnb]; go_wp2_with fail) | (refine (ris_any _ _ _ _).mono ?_; rintro x w' ⟨rfl, rfl⟩; simp only [hc13, hA]; go_wp2_with fail) | (refine (rreg_any _ _).mono ?_; rintro x w' ⟨rfl, rfl⟩; simp only [hc13, hA]; go_wp2_with fail))
      go_ret
      exact ⟨by rw [HF.out]; rfl, H0.out.2.2⟩
    obtain ⟨pX, hX⟩ : ∃ p, Body.btw b 0 7 = p := ⟨_, rfl⟩
    cases pX
    · have HF : Hid (Ref.flt n ⟨7, a, b⟩ e = 3) := by
        show _ = _
        simp [Ref.flt, Rule.act, Rule.is, hA, hX]
      go_wp2_with fail
      repeat (first | (refine (names_any _ _).mono ?_; rintro x w' ⟨rfl, rfl⟩; simp only [hna, hnb]; go_wp2_with fail) | (refine (ris_any _ _ _ _).mono ?_; rintro x w' ⟨rfl, rfl⟩; simp only [hc13, hA, hX]; go_wp2_with fail) | (refine (rreg_any _ _).mono ?_; rintro x w' ⟨rfl, rfl⟩; simp only [hc13, hA, hX]; go_wp2_with fail))
      go_ret
      exact ⟨by rw [HF.out]; rfl, H0.out.2.2⟩
    have HF : Hid (Ref.flt n ⟨7, a, b⟩ e = 0) := by
      show _ = _
      simp [Ref.flt, Rule.act, Rule.is, hA, hX]
    go_wp2_with fail
    repeat (first | (refine (names_any _ _).mono ?_; rintro x w' ⟨rfl, rfl⟩; simp only [hna, hnb]; go_wp2_with fail) | (refine (ris_any _ _ _ _).mono ?_; rintro x w' ⟨rfl, rfl⟩; simp only [hc13, hA, hX]; go_wp2_with fail) | (refine (rreg_any _ _).mono ?_; rintro x w' ⟨rfl, rfl⟩; simp only [hc13, hA, hX]; go_wp2_with fail))
    go_ret
    exact ⟨by rw [HF.out]; rfl, H0.out.2.2⟩
set_option maxRecDepth 100000 in
set_option maxHeartbeats 20000000 in
theorem rfault_8 (a b n : Int) (e : Ev) (sa : Option Addr) (N sc : Nat) (hN : e.sh.length = N) (hN2 : N ≤ 9223372036854775807) (w : World) : Calls Try.prog 20 #[.agg #[.int .i64 8, .int .i64 a, .int .i64 b], e.v (.slice sa N sc), .int .i64 n] w fun x w' => x = .returned (.int .i64 (Ref.flt n ⟨8, a, b⟩ e)) ∧ Only [] w w' := by
  have hnot : ∀ (x : Bool) (w : World), (Op.unary .not (.bool x)).run Try.prog w = .ok (.bool (!x)) w := fun _ _ => rfl
  have HN : Hid _ := hN
  clear hN
  have H0 : Hid (Three ((w.alloc (.cells #[.int .i64 8, .int .i64 a, .int .i64 b] 29)).alloc (.cells (e.cells (.slice sa N sc)).toArray 45)) w.heap.size (.int .i64 8) (.int .i64 a) (.int .i64 b) ∧ Eb ((w.alloc (.cells #[.int .i64 8, .int .i64 a, .int .i64 b] 29)).alloc (.cells (e.cells (.slice sa N sc)).toArray 45)) (w.heap.size + 1) e (.slice sa N sc) ∧ Only [] w ((w.alloc (.cells #[.int .i64 8, .int .i64 a, .int .i64 b] 29)).alloc (.cells (e.cells (.slice sa N sc)).toArray 45))) :=
    ⟨(Three.new _ _ _ _ _).only ((Only.refl [] _).alloc _) (by simp), Eb.newAt e _ (by simp) _, ((Only.refl [] _).alloc _).alloc _⟩
  go_enter Try.func20, Try.ntmps20
  go_upto_region 1 with fail
  change Code.wp _ _ _ _ ((w.alloc (.cells #[.int .i64 8, .int .i64 a, .int .i64 b] 29)).alloc (.cells (e.cells (.slice sa N sc)).toArray 45))
  generalize (w.alloc (.cells #[.int .i64 8, .int .i64 a, .int .i64 b] 29)).alloc (.cells (e.cells (.slice sa N sc)).toArray 45) = W at *
  obtain ⟨q, hq⟩ : ∃ q, w.heap.size = q := ⟨_, rfl⟩
  simp only [hq] at H0 ⊢
  clear hq
  have f0 := H0.out.1.cell0
  have f1 := H0.out.1.cell1
  have f2 := H0.out.1.cell2
  obtain ⟨pA, hA⟩ : ∃ p, Body.btw a 0 3 = p := ⟨_, rfl⟩
  obtain ⟨pB, hB⟩ : ∃ p, Body.btw b 0 3 = p := ⟨_, rfl⟩
  have htr : True := trivial
  · clear htr
    have hc13 : Body.btw 8 1 13 = true := rfl
    have hna : Ref.na 8 = false := rfl
    have hnb : Ref.nb 8 = true := rfl
    cases pB
    · have HF : Hid (Ref.flt n ⟨8, a, b⟩ e = 2) := by
        show _ = _
        simp [Ref.flt, Rule.act, Rule.is, hB]
      go_wp2_with fail
      repeat (first | (refine (names_any _ _).mono ?_; rintro x w' ⟨rfl, rfl⟩; simp only [hna, hnb]; go_wp2_with fail) | (refine (ris_any _ _ _ _).mono ?_; rintro x w' ⟨rfl, rfl⟩; simp only [hc13, hB]; go_wp2_with fail) | (refine (rreg_any _ _).mono ?_; rintro x w' ⟨rfl, rfl⟩; simp only [hc13, hB]; go_wp2_with fail))
      go_ret
      exact ⟨by rw [HF.out]; rfl, H0.out.2.2⟩
    cases pA
    · have HF : Hid (Ref.flt n ⟨8, a, b⟩ e = 3) := by
        show _ = _
        simp [Ref.flt, Rule.act, Rule.is, hA, hB]
      go_wp2_with fail
      repeat (first | (refine (names_any _ _).mono ?_; rintro x w' ⟨rfl, rfl⟩; simp only [hna, hnb]; go_wp2_with fail) | (refine (ris_any _ _ _ _).mono ?_; rintro x w' ⟨rfl, rfl⟩; simp only [hc13, hA, hB]; go_wp2_with fail) | (refine (rreg_any _ _).mono ?_; rintro x w' ⟨rfl, rfl⟩; simp only [hc13, hA, hB]; go_wp2_with fail))
      go_ret
      exact ⟨by rw [HF.out]; rfl, H0.out.2.2⟩
    have HF : Hid (Ref.flt n ⟨8, a, b⟩ e = 0) := by
      show _ = _
      simp [Ref.flt, Rule.act, Rule.is, hA, hB]
    go_wp2_with fail
    repeat (first | (refine (names_any _ _).mono ?_; rintro x w' ⟨rfl, rfl⟩; simp only [hna, hnb]; go_wp2_with fail) | (refine (ris_any _ _ _ _).mono ?_; rintro x w' ⟨rfl, rfl⟩; simp only [hc13, hA, hB]; go_wp2_with fail) | (refine (rreg_any _ _).mono ?_; rintro x w' ⟨rfl, rfl⟩; simp only [hc13, hA, hB]; go_wp2_with fail))
    go_ret
    exact ⟨by rw [HF.out]; rfl, H0.out.2.2⟩
set_option maxRecDepth 100000 in
set_option maxHeartbeats 20000000 in
theorem rfault_9 (a b n : Int) (e : Ev) (sa : Option Addr) (N sc : Nat) (hN : e.sh.length = N) (hN2 : N ≤ 9223372036854775807) (w : World) : Calls Try.prog 20 #[.agg #[.int .i64 9, .int .i64 a, .int .i64 b], e.v (.slice sa N sc), .int .i64 n] w fun x w' => x = .returned (.int .i64 (Ref.flt n ⟨9, a, b⟩ e)) ∧ Only [] w w' := by
  have hnot : ∀ (x : Bool) (w : World), (Op.unary .not (.bool x)).run Try.prog w = .ok (.bool (!x)) w := fun _ _ => rfl
  have HN : Hid _ := hN
  clear hN
  have H0 : Hid (Three ((w.alloc (.cells #[.int .i64 9, .int .i64 a, .int .i64 b] 29)).alloc (.cells (e.cells (.slice sa N sc)).toArray 45)) w.heap.size (.int .i64 9) (.int .i64 a) (.int .i64 b) ∧ Eb ((w.alloc (.cells #[.int .i64 9, .int .i64 a, .int .i64 b] 29)).alloc (.cells (e.cells (.slice sa N sc)).toArray 45)) (w.heap.size + 1) e (.slice sa N sc) ∧ Only [] w ((w.alloc (.cells #[.int .i64 9, .int .i64 a, .int .i64 b] 29)).alloc (.cells (e.cells (.slice sa N sc)).toArray 45))) :=
    ⟨(Three.new _ _ _ _ _).only ((Only.refl [] _).alloc _) (by simp), Eb.newAt e _ (by simp) _, ((Only.refl [] _).alloc _).alloc _⟩
  go_enter Try.func20, Try.ntmps20
  go_upto_region 1 with fail
  change Code.wp _ _ _ _ ((w.alloc (.cells #[.int .i64 9, .int .i64 a, .int .i64 b] 29)).alloc (.cells (e.cells (.slice sa N sc)).toArray 45))
  generalize (w.alloc (.cells #[.int .i64 9, .int .i64 a, .int .i64 b] 29)).alloc (.cells (e.cells (.slice sa N sc)).toArray 45) = W at *
  obtain ⟨q, hq⟩ : ∃ q, w.heap.size = q := ⟨_, rfl⟩
  simp only [hq] at H0 ⊢
  clear hq
  have f0 := H0.out.1.cell0
  have f1 := H0.out.1.cell1
  have f2 := H0.out.1.cell2
  obtain ⟨pA, hA⟩ : ∃ p, Body.btw a 0 3 = p := ⟨_, rfl⟩
  obtain ⟨pB, hB⟩ : ∃ p, Body.btw b 0 3 = p := ⟨_, rfl⟩
  have htr : True := trivial
  · clear htr
    have hc13 : Body.btw 9 1 13 = true := rfl
    have hna : Ref.na 9 = true := rfl
    have hnb : Ref.nb 9 = false := rfl
    cases pA
    · have HF : Hid (Ref.flt n ⟨9, a, b⟩ e = 2) := by
        show _ = _
        simp [Ref.flt, Rule.act, Rule.is, hA]
      go_wp2_with fail
      repeat (first | (refine (names_any _ _).mono ?_; rintro x w' ⟨rfl, rfl⟩; simp only [hna, hnb]; go_wp2_with fail) | (refine (ris_any _ _ _ _).mono ?_; rintro x w' ⟨rfl, rfl⟩; simp only [hc13, hA]; go_wp2_with fail) | (refine (rreg_any _ _).mono ?_; rintro x w' ⟨rfl, rfl⟩; simp only [hc13, hA]; go_wp2_with fail))
      go_ret
      exact ⟨by rw [HF.out]; rfl, H0.out.2.2⟩
    obtain ⟨j, hj⟩ : ∃ j : Nat, a = j := ⟨a.toNat, by have := btw_in hA; omega⟩
    have hj4 : j < 4 := by have := btw_in hA; omega
    subst hj
    obtain ⟨m, hm⟩ : ∃ m, Rule.reg e.b (j : Nat) = m := ⟨_, rfl⟩
    have cm : W.cell? ⟨q + 1, 7 + j, none⟩ = some (.int .i64 m) := by rw [← hm]; exact H0.out.2.1.mem j hj4
    have ix := fun w => @idx_at (q + 1) 7 j hj4 w
    have HM : Hid _ := hm
    by_cases hz : m = 0
    · have hz2 : (m == 0) = true := by simpa using hz
      obtain ⟨pN, hX⟩ : ∃ p, Body.btw b 0 n = p := ⟨_, rfl⟩
      cases pN
      · have HF : Hid (Ref.flt n ⟨9, (j : Int), b⟩ e = 4) := by
          show _ = _
          simp [Ref.flt, Rule.act, Rule.is, hA, hX, hm, hz]
        clear hm
        go_wp2_with fail
        repeat (first | (refine (names_any _ _).mono ?_; rintro x w' ⟨rfl, rfl⟩; simp only [hna, hnb]; go_wp2_with fail) | (refine (ris_any _ _ _ _).mono ?_; rintro x w' ⟨rfl, rfl⟩; simp only [hc13, hA, hX]; go_wp2_with fail) | (refine (rreg_any _ _).mono ?_; rintro x w' ⟨rfl, rfl⟩; simp only [hc13, hA, hX]; go_wp2_with fail))
        go_ret
        exact ⟨by rw [HF.out]; rfl, H0.out.2.2⟩
      have HF : Hid (Ref.flt n ⟨9, (j : Int), b⟩ e = 0) := by
        show _ = _
        simp [Ref.flt, Rule.act, Rule.is, hA, hX, hm, hz]
      clear hm
      go_wp2_with fail
      repeat (first | (refine (names_any _ _).mono ?_; rintro x w' ⟨rfl, rfl⟩; simp only [hna, hnb]; go_wp2_with fail) | (refine (ris_any _ _ _ _).mono ?_; rintro x w' ⟨rfl, rfl⟩; simp only [hc13, hA, hX]; go_wp2_with fail) | (refine (rreg_any _ _).mono ?_; rintro x w' ⟨rfl, rfl⟩; simp only [hc13, hA, hX]; go_wp2_with fail))
      go_ret
      exact ⟨by rw [HF.out]; rfl, H0.out.2.2⟩
    have hz2 : (m == 0) = false := by simpa using hz
    have HF : Hid (Ref.flt n ⟨9, (j : Int), b⟩ e = 0) := by
      show _ = _
      simp [Ref.flt, Rule.act, Rule.is, hA, hm, hz]
    clear hm
    go_wp2_with fail
    repeat (first | (refine (names_any _ _).mono ?_; rintro x w' ⟨rfl, rfl⟩; simp only [hna, hnb]; go_wp2_with fail) | (refine (ris_any _ _ _ _).mono ?_; rintro x w' ⟨rfl, rfl⟩; simp only [hc13, hA]; go_wp2_with fail) | (refine (rreg_any _ _).mono ?_; rintro x w' ⟨rfl, rfl⟩; simp only [hc13, hA]; go_wp2_with fail))
    go_ret
    exact ⟨by rw [HF.out]; rfl, H0.out.2.2⟩
set_option maxRecDepth 100000 in
set_option maxHeartbeats 20000000 in
theorem rfault_10 (a b n : Int) (e : Ev) (sa : Option Addr) (N sc : Nat) (hN : e.sh.length = N) (hN2 : N ≤ 9223372036854775807) (w : World) : Calls Try.prog 20 #[.agg #[.int .i64 10, .int .i64 a, .int .i64 b], e.v (.slice sa N sc), .int .i64 n] w fun x w' => x = .returned (.int .i64 (Ref.flt n ⟨10, a, b⟩ e)) ∧ Only [] w w' := by
  have hnot : ∀ (x : Bool) (w : World), (Op.unary .not (.bool x)).run Try.prog w = .ok (.bool (!x)) w := fun _ _ => rfl
  have HN : Hid _ := hN
  clear hN
  have H0 : Hid (Three ((w.alloc (.cells #[.int .i64 10, .int .i64 a, .int .i64 b] 29)).alloc (.cells (e.cells (.slice sa N sc)).toArray 45)) w.heap.size (.int .i64 10) (.int .i64 a) (.int .i64 b) ∧ Eb ((w.alloc (.cells #[.int .i64 10, .int .i64 a, .int .i64 b] 29)).alloc (.cells (e.cells (.slice sa N sc)).toArray 45)) (w.heap.size + 1) e (.slice sa N sc) ∧ Only [] w ((w.alloc (.cells #[.int .i64 10, .int .i64 a, .int .i64 b] 29)).alloc (.cells (e.cells (.slice sa N sc)).toArray 45))) :=
    ⟨(Three.new _ _ _ _ _).only ((Only.refl [] _).alloc _) (by simp), Eb.newAt e _ (by simp) _, ((Only.refl [] _).alloc _).alloc _⟩
  go_enter Try.func20, Try.ntmps20
  go_upto_region 1 with fail
  change Code.wp _ _ _ _ ((w.alloc (.cells #[.int .i64 10, .int .i64 a, .int .i64 b] 29)).alloc (.cells (e.cells (.slice sa N sc)).toArray 45))
  generalize (w.alloc (.cells #[.int .i64 10, .int .i64 a, .int .i64 b] 29)).alloc (.cells (e.cells (.slice sa N sc)).toArray 45) = W at *
  obtain ⟨q, hq⟩ : ∃ q, w.heap.size = q := ⟨_, rfl⟩
  simp only [hq] at H0 ⊢
  clear hq
  have f0 := H0.out.1.cell0
  have f1 := H0.out.1.cell1
  have f2 := H0.out.1.cell2
  obtain ⟨pA, hA⟩ : ∃ p, Body.btw a 0 3 = p := ⟨_, rfl⟩
  obtain ⟨pB, hB⟩ : ∃ p, Body.btw b 0 3 = p := ⟨_, rfl⟩
  have htr : True := trivial
  · clear htr
    have hc13 : Body.btw 10 1 13 = true := rfl
    have hna : Ref.na 10 = false := rfl
    have hnb : Ref.nb 10 = false := rfl
    obtain ⟨pN, hX⟩ : ∃ p, Body.btw b 0 n = p := ⟨_, rfl⟩
    cases pN
    · have HF : Hid (Ref.flt n ⟨10, a, b⟩ e = 4) := by
        show _ = _
        simp [Ref.flt, Rule.act, Rule.is, hX]
      go_wp2_with fail
      repeat (first | (refine (names_any _ _).mono ?_; rintro x w' ⟨rfl, rfl⟩; simp only [hna, hnb]; go_wp2_with fail) | (refine (ris_any _ _ _ _).mono ?_; rintro x w' ⟨rfl, rfl⟩; simp only [hc13, hX]; go_wp2_with fail) | (refine (rreg_any _ _).mono ?_; rintro x w' ⟨rfl, rfl⟩; simp only [hc13, hX]; go_wp2_with fail))
      go_ret
      exact ⟨by rw [HF.out]; rfl, H0.out.2.2⟩
    · have HF : Hid (Ref.flt n ⟨10, a, b⟩ e = 0) := by
        show _ = _
        simp [Ref.flt, Rule.act, Rule.is, hX]
      go_wp2_with fail
      repeat (first | (refine (names_any _ _).mono ?_; rintro x w' ⟨rfl, rfl⟩; simp only [hna, hnb]; go_wp2_with fail) | (refine (ris_any _ _ _ _).mono ?_; rintro x w' ⟨rfl, rfl⟩; simp only [hc13, hX]; go_wp2_with fail) | (refine (rreg_any _ _).mono ?_; rintro x w' ⟨rfl, rfl⟩; simp only [hc13, hX]; go_wp2_with fail))
      go_ret
      exact ⟨by rw [HF.out]; rfl, H0.out.2.2⟩
set_option maxRecDepth 100000 in
set_option maxHeartbeats 20000000 in
theorem rfault_11 (a b n : Int) (e : Ev) (sa : Option Addr) (N sc : Nat) (hN : e.sh.length = N) (hN2 : N ≤ 9223372036854775807) (w : World) : Calls Try.prog 20 #[.agg #[.int .i64 11, .int .i64 a, .int .i64 b], e.v (.slice sa N sc), .int .i64 n] w fun x w' => x = .returned (.int .i64 (Ref.flt n ⟨11, a, b⟩ e)) ∧ Only [] w w' := by
  have hnot : ∀ (x : Bool) (w : World), (Op.unary .not (.bool x)).run Try.prog w = .ok (.bool (!x)) w := fun _ _ => rfl
  have HN : Hid _ := hN
  clear hN
  have H0 : Hid (Three ((w.alloc (.cells #[.int .i64 11, .int .i64 a, .int .i64 b] 29)).alloc (.cells (e.cells (.slice sa N sc)).toArray 45)) w.heap.size (.int .i64 11) (.int .i64 a) (.int .i64 b) ∧ Eb ((w.alloc (.cells #[.int .i64 11, .int .i64 a, .int .i64 b] 29)).alloc (.cells (e.cells (.slice sa N sc)).toArray 45)) (w.heap.size + 1) e (.slice sa N sc) ∧ Only [] w ((w.alloc (.cells #[.int .i64 11, .int .i64 a, .int .i64 b] 29)).alloc (.cells (e.cells (.slice sa N sc)).toArray 45))) :=
    ⟨(Three.new _ _ _ _ _).only ((Only.refl [] _).alloc _) (by simp), Eb.newAt e _ (by simp) _, ((Only.refl [] _).alloc _).alloc _⟩
  go_enter Try.func20, Try.ntmps20
  go_upto_region 1 with fail
  change Code.wp _ _ _ _ ((w.alloc (.cells #[.int .i64 11, .int .i64 a, .int .i64 b] 29)).alloc (.cells (e.cells (.slice sa N sc)).toArray 45))
  generalize (w.alloc (.cells #[.int .i64 11, .int .i64 a, .int .i64 b] 29)).alloc (.cells (e.cells (.slice sa N sc)).toArray 45) = W at *
  obtain ⟨q, hq⟩ : ∃ q, w.heap.size = q := ⟨_, rfl⟩
  simp only [hq] at H0 ⊢
  clear hq
  have f0 := H0.out.1.cell0
  have f1 := H0.out.1.cell1
  have f2 := H0.out.1.cell2
  obtain ⟨pA, hA⟩ : ∃ p, Body.btw a 0 3 = p := ⟨_, rfl⟩
  obtain ⟨pB, hB⟩ : ∃ p, Body.btw b 0 3 = p := ⟨_, rfl⟩
  have htr : True := trivial
  · clear htr
    have hc13 : Body.btw 11 1 13 = true := rfl
    have hna : Ref.na 11 = true := rfl
    have hnb : Ref.nb 11 = true := rfl
    cases pA
    · have HF : Hid (Ref.flt n ⟨11, a, b⟩ e = 2) := by
        show _ = _
        simp [Ref.flt, Rule.act, Rule.is, hA]
      go_wp2_with fail
      repeat (first | (refine (names_any _ _).mono ?_; rintro x w' ⟨rfl, rfl⟩; simp only [hna, hnb]; go_wp2_with fail) | (refine (ris_any _ _ _ _).mono ?_; rintro x w' ⟨rfl, rfl⟩; simp only [hc13, hA]; go_wp2_with fail) | (refine (rreg_any _ _).mono ?_; rintro x w' ⟨rfl, rfl⟩; simp only [hc13, hA]; go_wp2_with fail))
      go_ret
      exact ⟨by rw [HF.out]; rfl, H0.out.2.2⟩
    cases pB
    · have HF : Hid (Ref.flt n ⟨11, a, b⟩ e = 2) := by
        show _ = _
        simp [Ref.flt, Rule.act, Rule.is, hA, hB]
      go_wp2_with fail
      repeat (first | (refine (names_any _ _).mono ?_; rintro x w' ⟨rfl, rfl⟩; simp only [hna, hnb]; go_wp2_with fail) | (refine (ris_any _ _ _ _).mono ?_; rintro x w' ⟨rfl, rfl⟩; simp only [hc13, hA, hB]; go_wp2_with fail) | (refine (rreg_any _ _).mono ?_; rintro x w' ⟨rfl, rfl⟩; simp only [hc13, hA, hB]; go_wp2_with fail))
      go_ret
      exact ⟨by rw [HF.out]; rfl, H0.out.2.2⟩
    obtain ⟨j, hj⟩ : ∃ j : Nat, b = j := ⟨b.toNat, by have := btw_in hB; omega⟩
    have hj4 : j < 4 := by have := btw_in hB; omega
    subst hj
    obtain ⟨m, hm⟩ : ∃ m, Rule.reg e.b (j : Nat) = m := ⟨_, rfl⟩
    have cm : W.cell? ⟨q + 1, 7 + j, none⟩ = some (.int .i64 m) := by rw [← hm]; exact H0.out.2.1.mem j hj4
    have ix := fun w => @idx_at (q + 1) 7 j hj4 w
    have HM : Hid _ := hm
    by_cases hz : m < 1
    · have hz2 : ¬ 1 ≤ m := by omega
      have HF : Hid (Ref.flt n ⟨11, a, (j : Int)⟩ e = 6) := by
        show _ = _
        simp [Ref.flt, Rule.act, Rule.is, hA, hB, hm, hz2]
      clear hm
      go_wp2_with fail
      refine (names_any _ _).mono ?_
      rintro x w' ⟨rfl, rfl⟩
      simp only [hna, hnb]
      go_wp2_with fail
      refine (ris_any _ _ _ _).mono ?_
      rintro x w' ⟨rfl, rfl⟩
      simp only [hc13]
      go_wp2_with fail
      refine (rreg_any _ _).mono ?_
      rintro x w' ⟨rfl, rfl⟩
      simp only [hA]
      go_wp2_with fail
      refine (rreg_any _ _).mono ?_
      rintro x w' ⟨rfl, rfl⟩
      simp only [hB]
      go_upto_region 10 with fail
      apply wp_region_lit
      refine opg_v (by kernel_rfl) (.pointer (some ⟨q, 0, none⟩)) (by kernel_rfl) ?_
      simp only [Act.put, List.setIfInBounds_toArray, List.set_cons_succ, List.set_cons_zero]
      refine opg_v (by kernel_rfl) (.int .i64 11) (by go_simp) ?_
      simp only [Act.put, List.setIfInBounds_toArray, List.set_cons_succ, List.set_cons_zero]
      refine opg_v (by kernel_rfl) (.bool true) (by kernel_rfl) ?_
      simp only [Act.put, List.setIfInBounds_toArray, List.set_cons_succ, List.set_cons_zero]
      refine opg_v (by kernel_rfl) (.bool true) (by kernel_rfl) ?_
      simp only [Act.put, List.setIfInBounds_toArray, List.set_cons_succ, List.set_cons_zero]
      refine opg_three (p := q) (by kernel_rfl) (.tmp 3) rfl (by kernel_rfl) H0.out.1 ?_
      simp only [Act.put, List.setIfInBounds_toArray, List.set_cons_succ, List.set_cons_zero]
      refine opg_renv (p := q + 1) (by kernel_rfl) (.tmp 4) rfl (by kernel_rfl) H0.out.2.1 ?_
      simp only [Act.put, List.setIfInBounds_toArray, List.set_cons_succ, List.set_cons_zero]
      refine opg_call (F := 23) (args := #[Op3.v ⟨11, a, (j : Int)⟩, e.v (.slice sa N sc)]) (w1 := w') (by kernel_rfl) (by kernel_rfl) ?_
      refine (rrollOf_any ⟨11, a, (j : Int)⟩ j rfl hj4 e (.slice sa N sc) _).mono ?_
      rintro x w9 ⟨rfl, o9⟩
      refine ⟨_, rfl, ?_⟩
      rw [show Rule.reg e.b (Op3.mk 11 a (j : Int)).b = m from HM.out]
      simp only [Act.put, List.setIfInBounds_toArray, List.set_cons_succ, List.set_cons_zero]
      clear f0 f1 f2
      have H9 := H0.out.2.2.trans o9
      have f0 := (H0.out.1.only o9 (by simp)).cell0
      have f1 := (H0.out.1.only o9 (by simp)).cell1
      have f2 := (H0.out.1.only o9 (by simp)).cell2
      have H9' : Hid _ := H9
      clear H9 cm o9
      go_wp2_with fail
      go_ret
      exact ⟨by rw [HF.out]; rfl, H9'.out⟩
    have hz2 : 1 ≤ m := by omega
    have HF : Hid (Ref.flt n ⟨11, a, (j : Int)⟩ e = 0) := by
      show _ = _
      simp [Ref.flt, Rule.act, Rule.is, hA, hB, hm, hz2]
    clear hm
    go_wp2_with fail
    refine (names_any _ _).mono ?_
    rintro x w' ⟨rfl, rfl⟩
    simp only [hna, hnb]
    go_wp2_with fail
    refine (ris_any _ _ _ _).mono ?_
    rintro x w' ⟨rfl, rfl⟩
    simp only [hc13]
    go_wp2_with fail
    refine (rreg_any _ _).mono ?_
    rintro x w' ⟨rfl, rfl⟩
    simp only [hA]
    go_wp2_with fail
    refine (rreg_any _ _).mono ?_
    rintro x w' ⟨rfl, rfl⟩
    simp only [hB]
    go_upto_region 10 with fail
    apply wp_region_lit
    refine opg_v (by kernel_rfl) (.pointer (some ⟨q, 0, none⟩)) (by kernel_rfl) ?_
    simp only [Act.put, List.setIfInBounds_toArray, List.set_cons_succ, List.set_cons_zero]
    refine opg_v (by kernel_rfl) (.int .i64 11) (by go_simp) ?_
    simp only [Act.put, List.setIfInBounds_toArray, List.set_cons_succ, List.set_cons_zero]
    refine opg_v (by kernel_rfl) (.bool true) (by kernel_rfl) ?_
    simp only [Act.put, List.setIfInBounds_toArray, List.set_cons_succ, List.set_cons_zero]
    refine opg_v (by kernel_rfl) (.bool true) (by kernel_rfl) ?_
    simp only [Act.put, List.setIfInBounds_toArray, List.set_cons_succ, List.set_cons_zero]
    refine opg_three (p := q) (by kernel_rfl) (.tmp 3) rfl (by kernel_rfl) H0.out.1 ?_
    simp only [Act.put, List.setIfInBounds_toArray, List.set_cons_succ, List.set_cons_zero]
    refine opg_renv (p := q + 1) (by kernel_rfl) (.tmp 4) rfl (by kernel_rfl) H0.out.2.1 ?_
    simp only [Act.put, List.setIfInBounds_toArray, List.set_cons_succ, List.set_cons_zero]
    refine opg_call (F := 23) (args := #[Op3.v ⟨11, a, (j : Int)⟩, e.v (.slice sa N sc)]) (w1 := w') (by kernel_rfl) (by kernel_rfl) ?_
    refine (rrollOf_any ⟨11, a, (j : Int)⟩ j rfl hj4 e (.slice sa N sc) _).mono ?_
    rintro x w9 ⟨rfl, o9⟩
    refine ⟨_, rfl, ?_⟩
    rw [show Rule.reg e.b (Op3.mk 11 a (j : Int)).b = m from HM.out]
    simp only [Act.put, List.setIfInBounds_toArray, List.set_cons_succ, List.set_cons_zero]
    clear f0 f1 f2
    have H9 := H0.out.2.2.trans o9
    have f0 := (H0.out.1.only o9 (by simp)).cell0
    have f1 := (H0.out.1.only o9 (by simp)).cell1
    have f2 := (H0.out.1.only o9 (by simp)).cell2
    have H9' : Hid _ := H9
    clear H9 cm o9
    go_wp2_with fail
    go_ret
    exact ⟨by rw [HF.out]; rfl, H9'.out⟩
set_option maxRecDepth 100000 in
set_option maxHeartbeats 20000000 in
theorem rfault_12 (a b n : Int) (e : Ev) (sa : Option Addr) (N sc : Nat) (hN : e.sh.length = N) (hN2 : N ≤ 9223372036854775807) (w : World) : Calls Try.prog 20 #[.agg #[.int .i64 12, .int .i64 a, .int .i64 b], e.v (.slice sa N sc), .int .i64 n] w fun x w' => x = .returned (.int .i64 (Ref.flt n ⟨12, a, b⟩ e)) ∧ Only [] w w' := by
  have hnot : ∀ (x : Bool) (w : World), (Op.unary .not (.bool x)).run Try.prog w = .ok (.bool (!x)) w := fun _ _ => rfl
  have HN : Hid _ := hN
  clear hN
  have H0 : Hid (Three ((w.alloc (.cells #[.int .i64 12, .int .i64 a, .int .i64 b] 29)).alloc (.cells (e.cells (.slice sa N sc)).toArray 45)) w.heap.size (.int .i64 12) (.int .i64 a) (.int .i64 b) ∧ Eb ((w.alloc (.cells #[.int .i64 12, .int .i64 a, .int .i64 b] 29)).alloc (.cells (e.cells (.slice sa N sc)).toArray 45)) (w.heap.size + 1) e (.slice sa N sc) ∧ Only [] w ((w.alloc (.cells #[.int .i64 12, .int .i64 a, .int .i64 b] 29)).alloc (.cells (e.cells (.slice sa N sc)).toArray 45))) :=
    ⟨(Three.new _ _ _ _ _).only ((Only.refl [] _).alloc _) (by simp), Eb.newAt e _ (by simp) _, ((Only.refl [] _).alloc _).alloc _⟩
  go_enter Try.func20, Try.ntmps20
  go_upto_region 1 with fail
  change Code.wp _ _ _ _ ((w.alloc (.cells #[.int .i64 12, .int .i64 a, .int .i64 b] 29)).alloc (.cells (e.cells (.slice sa N sc)).toArray 45))
  generalize (w.alloc (.cells #[.int .i64 12, .int .i64 a, .int .i64 b] 29)).alloc (.cells (e.cells (.slice sa N sc)).toArray 45) = W at *
  obtain ⟨q, hq⟩ : ∃ q, w.heap.size = q := ⟨_, rfl⟩
  simp only [hq] at H0 ⊢
  clear hq
  have f0 := H0.out.1.cell0
  have f1 := H0.out.1.cell1
  have f2 := H0.out.1.cell2
  obtain ⟨pA, hA⟩ : ∃ p, Body.btw a 0 3 = p := ⟨_, rfl⟩
  obtain ⟨pB, hB⟩ : ∃ p, Body.btw b 0 3 = p := ⟨_, rfl⟩
  have htr : True := trivial
  · clear htr
    have hc13 : Body.btw 12 1 13 = true := rfl
    have hna : Ref.na 12 = true := rfl
    have hnb : Ref.nb 12 = true := rfl
    cases pA
    · have HF : Hid (Ref.flt n ⟨12, a, b⟩ e = 2) := by
        show _ = _
        simp [Ref.flt, Rule.act, Rule.is, hA]
      go_wp2_with fail
      repeat (first | (refine (names_any _ _).mono ?_; rintro x w' ⟨rfl, rfl⟩; simp only [hna, hnb]; go_wp2_with fail) | (refine (ris_any _ _ _ _).mono ?_; rintro x w' ⟨rfl, rfl⟩; simp only [hc13, hA]; go_wp2_with fail) | (refine (rreg_any _ _).mono ?_; rintro x w' ⟨rfl, rfl⟩; simp only [hc13, hA]; go_wp2_with fail))
      go_ret
      exact ⟨by rw [HF.out]; rfl, H0.out.2.2⟩
    cases pB
    · have HF : Hid (Ref.flt n ⟨12, a, b⟩ e = 2) := by
        show _ = _
        simp [Ref.flt, Rule.act, Rule.is, hA, hB]
      go_wp2_with fail
      repeat (first | (refine (names_any _ _).mono ?_; rintro x w' ⟨rfl, rfl⟩; simp only [hna, hnb]; go_wp2_with fail) | (refine (ris_any _ _ _ _).mono ?_; rintro x w' ⟨rfl, rfl⟩; simp only [hc13, hA, hB]; go_wp2_with fail) | (refine (rreg_any _ _).mono ?_; rintro x w' ⟨rfl, rfl⟩; simp only [hc13, hA, hB]; go_wp2_with fail))
      go_ret
      exact ⟨by rw [HF.out]; rfl, H0.out.2.2⟩
    have g16 : W.cell? ⟨q + 1, 16, none⟩ = some (.int .i64 e.room) := H0.out.2.1.blk.cell 16
    have g17 : W.cell? ⟨q + 1, 17, none⟩ = some (.slice sa N sc) := H0.out.2.1.blk.cell 17
    by_cases hr : e.room ≤ (N : Int)
    · have hr2 : ¬ ((e.sh.length : Int) < e.room) := by rw [HN.out]; omega
      have HF : Hid (Ref.flt n ⟨12, a, b⟩ e = 7) := by
        show _ = _
        simp [Ref.flt, Rule.act, Rule.is, hA, hB, hr2]
      go_wp2_with fail
      repeat (first | (refine (names_any _ _).mono ?_; rintro x w' ⟨rfl, rfl⟩; simp only [hna, hnb]; go_wp2_with fail) | (refine (ris_any _ _ _ _).mono ?_; rintro x w' ⟨rfl, rfl⟩; simp only [hc13, hA, hB]; go_wp2_with fail) | (refine (rreg_any _ _).mono ?_; rintro x w' ⟨rfl, rfl⟩; simp only [hc13, hA, hB]; go_wp2_with fail))
      go_ret
      exact ⟨by rw [HF.out]; rfl, H0.out.2.2⟩
    have hr2 : (e.sh.length : Int) < e.room := by rw [HN.out]; omega
    have HF : Hid (Ref.flt n ⟨12, a, b⟩ e = 0) := by
      show _ = _
      simp [Ref.flt, Rule.act, Rule.is, hA, hB, hr2]
    go_wp2_with fail
    repeat (first | (refine (names_any _ _).mono ?_; rintro x w' ⟨rfl, rfl⟩; simp only [hna, hnb]; go_wp2_with fail) | (refine (ris_any _ _ _ _).mono ?_; rintro x w' ⟨rfl, rfl⟩; simp only [hc13, hA, hB]; go_wp2_with fail) | (refine (rreg_any _ _).mono ?_; rintro x w' ⟨rfl, rfl⟩; simp only [hc13, hA, hB]; go_wp2_with fail))
    go_ret
    exact ⟨by rw [HF.out]; rfl, H0.out.2.2⟩
set_option maxRecDepth 100000 in
set_option maxHeartbeats 20000000 in
theorem rfault_13 (a b n : Int) (e : Ev) (sa : Option Addr) (N sc : Nat) (hN : e.sh.length = N) (hN2 : N ≤ 9223372036854775807) (w : World) : Calls Try.prog 20 #[.agg #[.int .i64 13, .int .i64 a, .int .i64 b], e.v (.slice sa N sc), .int .i64 n] w fun x w' => x = .returned (.int .i64 (Ref.flt n ⟨13, a, b⟩ e)) ∧ Only [] w w' := by
  have hnot : ∀ (x : Bool) (w : World), (Op.unary .not (.bool x)).run Try.prog w = .ok (.bool (!x)) w := fun _ _ => rfl
  have HN : Hid _ := hN
  clear hN
  have H0 : Hid (Three ((w.alloc (.cells #[.int .i64 13, .int .i64 a, .int .i64 b] 29)).alloc (.cells (e.cells (.slice sa N sc)).toArray 45)) w.heap.size (.int .i64 13) (.int .i64 a) (.int .i64 b) ∧ Eb ((w.alloc (.cells #[.int .i64 13, .int .i64 a, .int .i64 b] 29)).alloc (.cells (e.cells (.slice sa N sc)).toArray 45)) (w.heap.size + 1) e (.slice sa N sc) ∧ Only [] w ((w.alloc (.cells #[.int .i64 13, .int .i64 a, .int .i64 b] 29)).alloc (.cells (e.cells (.slice sa N sc)).toArray 45))) :=
    ⟨(Three.new _ _ _ _ _).only ((Only.refl [] _).alloc _) (by simp), Eb.newAt e _ (by simp) _, ((Only.refl [] _).alloc _).alloc _⟩
  go_enter Try.func20, Try.ntmps20
  go_upto_region 1 with fail
  change Code.wp _ _ _ _ ((w.alloc (.cells #[.int .i64 13, .int .i64 a, .int .i64 b] 29)).alloc (.cells (e.cells (.slice sa N sc)).toArray 45))
  generalize (w.alloc (.cells #[.int .i64 13, .int .i64 a, .int .i64 b] 29)).alloc (.cells (e.cells (.slice sa N sc)).toArray 45) = W at *
  obtain ⟨q, hq⟩ : ∃ q, w.heap.size = q := ⟨_, rfl⟩
  simp only [hq] at H0 ⊢
  clear hq
  have f0 := H0.out.1.cell0
  have f1 := H0.out.1.cell1
  have f2 := H0.out.1.cell2
  obtain ⟨pA, hA⟩ : ∃ p, Body.btw a 0 3 = p := ⟨_, rfl⟩
  obtain ⟨pB, hB⟩ : ∃ p, Body.btw b 0 3 = p := ⟨_, rfl⟩
  have htr : True := trivial
  · clear htr
    have hc13 : Body.btw 13 1 13 = true := rfl
    have hna : Ref.na 13 = false := rfl
    have hnb : Ref.nb 13 = false := rfl
    have HF : Hid (Ref.flt n ⟨13, a, b⟩ e = 0) := by
      show _ = _
      simp [Ref.flt, Rule.act, Rule.is]
    go_wp2_with fail
    repeat (first | (refine (names_any _ _).mono ?_; rintro x w' ⟨rfl, rfl⟩; simp only [hna, hnb]; go_wp2_with fail) | (refine (ris_any _ _ _ _).mono ?_; rintro x w' ⟨rfl, rfl⟩; simp only [hc13]; go_wp2_with fail) | (refine (rreg_any _ _).mono ?_; rintro x w' ⟨rfl, rfl⟩; simp only [hc13]; go_wp2_with fail))
    go_ret
    exact ⟨by rw [HF.out]; rfl, H0.out.2.2⟩
set_option maxRecDepth 100000 in
set_option maxHeartbeats 20000000 in
theorem rfault_bad (c a b n : Int) (e : Ev) (sa : Option Addr) (N sc : Nat) (hN : e.sh.length = N) (hN2 : N ≤ 9223372036854775807) (hc : Body.btw c 1 13 = false) (w : World) : Calls Try.prog 20 #[.agg #[.int .i64 c, .int .i64 a, .int .i64 b], e.v (.slice sa N sc), .int .i64 n] w fun x w' => x = .returned (.int .i64 (Ref.flt n ⟨c, a, b⟩ e)) ∧ Only [] w w' := by
  have hnot : ∀ (x : Bool) (w : World), (Op.unary .not (.bool x)).run Try.prog w = .ok (.bool (!x)) w := fun _ _ => rfl
  have HN : Hid _ := hN
  clear hN
  have H0 : Hid (Three ((w.alloc (.cells #[.int .i64 c, .int .i64 a, .int .i64 b] 29)).alloc (.cells (e.cells (.slice sa N sc)).toArray 45)) w.heap.size (.int .i64 c) (.int .i64 a) (.int .i64 b) ∧ Eb ((w.alloc (.cells #[.int .i64 c, .int .i64 a, .int .i64 b] 29)).alloc (.cells (e.cells (.slice sa N sc)).toArray 45)) (w.heap.size + 1) e (.slice sa N sc) ∧ Only [] w ((w.alloc (.cells #[.int .i64 c, .int .i64 a, .int .i64 b] 29)).alloc (.cells (e.cells (.slice sa N sc)).toArray 45))) :=
    ⟨(Three.new _ _ _ _ _).only ((Only.refl [] _).alloc _) (by simp), Eb.newAt e _ (by simp) _, ((Only.refl [] _).alloc _).alloc _⟩
  go_enter Try.func20, Try.ntmps20
  go_upto_region 1 with fail
  change Code.wp _ _ _ _ ((w.alloc (.cells #[.int .i64 c, .int .i64 a, .int .i64 b] 29)).alloc (.cells (e.cells (.slice sa N sc)).toArray 45))
  generalize (w.alloc (.cells #[.int .i64 c, .int .i64 a, .int .i64 b] 29)).alloc (.cells (e.cells (.slice sa N sc)).toArray 45) = W at *
  obtain ⟨q, hq⟩ : ∃ q, w.heap.size = q := ⟨_, rfl⟩
  simp only [hq] at H0 ⊢
  clear hq
  have f0 := H0.out.1.cell0
  have f1 := H0.out.1.cell1
  have f2 := H0.out.1.cell2
  have HF : Hid (Ref.flt n ⟨c, a, b⟩ e = 4) := by
    have h0 : ¬ (1 ≤ c ∧ c ≤ 13) := by
      rintro ⟨h1, h2⟩
      have : Body.btw c 1 13 = true := by simp [Body.btw, h1, h2]
      rw [hc] at this; cases this
    have hc26 : ¬ (2 ≤ c ∧ c ≤ 6) := by omega
    have c1 : ¬ c = 1 := by omega
    have c7 : ¬ c = 7 := by omega
    have c8 : ¬ c = 8 := by omega
    have c9 : ¬ c = 9 := by omega
    have c10 : ¬ c = 10 := by omega
    have c11 : ¬ c = 11 := by omega
    have c12 : ¬ c = 12 := by omega
    have c13 : ¬ c = 13 := by omega
    show _ = _
    simp [Ref.flt, Rule.act, c1, hc26, c7, c8, c9, c10, c11, c12, c13]
  go_wp2_with fail
  refine (names_any _ _).mono ?_
  rintro x w' ⟨rfl, rfl⟩
  go_wp2_with fail
  refine (ris_any _ _ _ _).mono ?_
  rintro x w' ⟨rfl, rfl⟩
  rw [hc]
  go_wp2_with fail
  go_ret
  exact ⟨by rw [HF.out]; rfl, H0.out.2.2⟩
theorem rfault_any (c a b n : Int) (e : Ev) (sa : Option Addr) (N sc : Nat) (hN : e.sh.length = N) (hN2 : N ≤ 9223372036854775807) (w : World) : Calls Try.prog 20 #[.agg #[.int .i64 c, .int .i64 a, .int .i64 b], e.v (.slice sa N sc), .int .i64 n] w fun x w' => x = .returned (.int .i64 (Ref.flt n ⟨c, a, b⟩ e)) ∧ Only [] w w' := by
  by_cases hc : Body.btw c 1 13 = true
  rotate_left
  · exact rfault_bad c a b n e sa N sc hN hN2 (by simpa using hc) w
  have hb := btw_in hc
  have h13 : c = 1 ∨ c = 2 ∨ c = 3 ∨ c = 4 ∨ c = 5 ∨ c = 6 ∨ c = 7 ∨ c = 8 ∨ c = 9 ∨ c = 10 ∨ c = 11 ∨ c = 12 ∨ c = 13 := by omega
  rcases h13 with rfl | rfl | rfl | rfl | rfl | rfl | rfl | rfl | rfl | rfl | rfl | rfl | rfl
  · exact rfault_1 a b n e sa N sc hN hN2 w
  · exact rfault_2 a b n e sa N sc hN hN2 w
  · exact rfault_3 a b n e sa N sc hN hN2 w
  · exact rfault_4 a b n e sa N sc hN hN2 w
  · exact rfault_5 a b n e sa N sc hN hN2 w
  · exact rfault_6 a b n e sa N sc hN hN2 w
  · exact rfault_7 a b n e sa N sc hN hN2 w
  · exact rfault_8 a b n e sa N sc hN hN2 w
  · exact rfault_9 a b n e sa N sc hN hN2 w
  · exact rfault_10 a b n e sa N sc hN hN2 w
  · exact rfault_11 a b n e sa N sc hN hN2 w
  · exact rfault_12 a b n e sa N sc hN hN2 w
  · exact rfault_13 a b n e sa N sc hN hN2 w
end Go.Proofs.Ytfeloiodebjolaa

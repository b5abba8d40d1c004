/- What the inner function of TrapMusts does. -/
import Derived.Test.YtakcajmkgdoofaaTrapK
import Derived.Test.YtakcajmkgdoofaaFrame2
import Derived.Deep.LoopGhost
import Derived.BigQuiet
import Derived.StillTailTactics
namespace Go.Proofs.Ytakcajmkgdoofaa.trapMusts
open Go.ChangeShapes Go.WideShapes Go.ChangeAt Go.RowKit

/-- the place is not ok -/
def bad (ok : List Bool) (i : Nat) : Bool := decide (i < ok.length) && !(ok.getD i true)
theorem first_bad (ok : List Bool) (K : Nat) : ∃ f, f ≤ K ∧ (∀ i, i < f → bad ok i = false) ∧ (f < K → bad ok f = true) := by
  induction K with
  | zero => exact ⟨0, Nat.le_refl _, fun i h => by omega, fun h => by omega⟩
  | succ K ih =>
    obtain ⟨f, h1, h2, h3⟩ := ih
    by_cases hf : f < K
    · exact ⟨f, by omega, h2, fun _ => h3 hf⟩
    · obtain rfl : f = K := by omega
      by_cases hb : bad ok f = true
      · exact ⟨f, by omega, h2, fun _ => hb⟩
      · refine ⟨f + 1, by omega, fun i hi => ?_, fun h => by omega⟩
        by_cases e : i = f
        · subst e; simpa using hb
        · exact h2 i (by omega)
def endOf (l : List Int) (f K : Nat) : Ending := if f < K then .panicked [{ v := thrownV (l.getD f 0) f, recovered := false }] else .returned (.tuple #[])

set_option maxHeartbeats 2000000 in
theorem musts_any (bl bo bd : Nat) (ao0 ao1 : Option Addr) (n0 c0 n1 c1 : Nat) (l : List Int) (ok : List Bool) (ho : ok.length = n1) (m0 : n0 ≤ 9223372036854775807) (w : World)
    (vl : Var w bl (.slice ao0 n0 c0)) (vo : Var w bo (.slice ao1 n1 c1)) (vd : Var w bd (.int .i64 0)) (dl : bl ≠ bd) (dob : bo ≠ bd)
    (hc0 : ∀ i, i < n0 → ∃ b o, ao0 = some ⟨b, o, none⟩ ∧ b < w.heap.size ∧ b ≠ bd ∧ w.cell? ⟨b, o + i, none⟩ = some (.int .i64 (l.getD i 0)))
    (hc1 : ∀ i, i < n1 → ∃ b o, ao1 = some ⟨b, o, none⟩ ∧ b < w.heap.size ∧ b ≠ bd ∧ w.cell? ⟨b, o + i, none⟩ = some (.bool (ok.getD i true)))
    (K f : Nat) (hK : K = min n0 30) (hf : f ≤ K) (hb1 : ∀ i, i < f → bad ok i = false) (hb2 : f < K → bad ok f = true) :
    Calls Try.prog 29 #[.pointer (some ⟨bl, 0, none⟩), .pointer (some ⟨bo, 0, none⟩), .pointer (some ⟨bd, 0, none⟩)] w fun e w' =>
      e = endOf l f K ∧ Only [bd] w w' ∧ Var w' bd (.int .i64 f) := by
  have H0 : Hid _ := hc0
  have H1 : Hid _ := hc1
  have B1 : Hid _ := hb1
  have B2 : Hid _ := hb2
  have HK : Hid _ := hK
  clear hc0 hc1 hb1 hb2
  have hK30 : K ≤ 30 := by omega
  clear hK
  go_enter Try.func29, Try.ntmps29
  go_wp2_with fail
  go_loopg [3] 31 (fun gk vi wr => ∃ k : Nat, vi = .int .i64 k ∧ k ≤ f ∧ 31 - k ≤ gk ∧ Hid (Only [bd] w wr ∧ Var wr bd (.int .i64 k)))
  case atStart => exact ⟨0, rfl, by omega, by omega, Only.refl _ _, vd⟩
  case round =>
    obtain ⟨k, rfl, hk, hg, HR⟩ := hrel
    have q0 := (vl.only HR.out.1 (by simpa using dl)).cell
    have q1 := (vo.only HR.out.1 (by simpa using dob)).cell
    have q2 := HR.out.2.cell
    have q3 := HR.out.2.frozen
    by_cases hlt : k < K
    · have z1 : (k : Int) < (n0 : Int) := by have := HK.out; omega
      have z2 : (k : Int) < 30 := by omega
      obtain ⟨b0, o0, rfl, lb0, db0, hc0⟩ := H0.out k (by omega)
      have hcell : wr.cell? ⟨b0, o0 + k, none⟩ = some (.int .i64 (l.getD k 0)) := (HR.out.1.cell lb0 (by simpa using db0)).trans hc0
      clear hc0 H0
      generalize hLk : l.getD k 0 = Lk at hcell
      have HL : Hid _ := hLk
      clear hLk
      by_cases hr : k < n1
      · have z3 : ¬ (n1 : Int) ≤ (k : Int) := by omega
        have z5 : decide (n1 ≤ k) = false := by simp; omega
        obtain ⟨b1, o1, rfl, lb1, db1, hc1⟩ := H1.out k hr
        have hcell2 : wr.cell? ⟨b1, o1 + k, none⟩ = some (.bool (ok.getD k true)) := (HR.out.1.cell lb1 (by simpa using db1)).trans hc1
        clear hc1 H1
        generalize hOk : ok.getD k true = Ok at hcell2
        have HO : Hid _ := hOk
        clear hOk
        cases hv : Ok
        · have hbad : bad ok k = true := by
            have := HO.out
            rw [hv] at this
            unfold bad
            rw [this, decide_eq_true (by omega)]; rfl
          have hkf : k = f := by
            rcases Nat.lt_or_ge k f with g | g
            · have := B1.out k g; rw [hbad] at this; cases this
            · omega
          subst hkf
          rw [hv] at hcell2
          go_wp2_with fail
          go_still_tail 15, (by kernel_rfl)
          change wpList _ _ _ _ _ wr.drew
          have HR2 : Hid (Only [bd] w wr.drew ∧ Var wr.drew bd (.int .i64 k)) := ⟨HR.out.1.drew, HR.out.2.drew⟩
          generalize wr.drew = w2 at *
          go_wp2_with fail
          refine (must_not _ _ _).mono ?_
          rintro e w' ⟨rfl, rfl⟩
          refine ⟨rfl, ?_, HR2.out.1, HR2.out.2⟩
          rw [endOf, if_pos hlt, HL.out]
        · have hkf : k < f := by
            rcases Nat.lt_or_ge k f with g | g
            · exact g
            · obtain rfl : k = f := by omega
              have := B2.out hlt
              have h2 := HO.out
              rw [hv] at h2
              unfold bad at this
              rw [h2] at this
              simp at this
          rw [hv] at hcell2
          go_wp2_with fail
          go_still_tail 15, (by kernel_rfl)
          change wpList _ _ _ _ _ wr.drew
          have HR2 : Hid (Only [bd] w wr.drew ∧ Var wr.drew bd (.int .i64 k)) := ⟨HR.out.1.drew, HR.out.2.drew⟩
          generalize wr.drew = w2 at *
          have q2 := HR2.out.2.cell
          have q3 := HR2.out.2.frozen
          go_wp2_with fail
          refine (must_ok _ _ _).mono ?_
          rintro e w' ⟨rfl, rfl⟩
          go_wp2_with fail
          go_roundg (31 - (k + 1))
          case measure => omega
          case rel => exact ⟨k + 1, by go_num, by omega, Nat.le_refl _, HR2.out.1.setCell (by simp) _, HR2.out.2.set _⟩
      · have z5 : decide (n1 ≤ k) = true := by simp; omega
        have hkf : k < f := by
          rcases Nat.lt_or_ge k f with g | g
          · exact g
          · obtain rfl : k = f := by omega
            have := B2.out hlt
            unfold bad at this
            rw [decide_eq_false (by omega)] at this
            simp at this
        go_wp2_with fail
        go_still_tail 15, (by kernel_rfl)
        change wpList _ _ _ _ _ wr.drew
        have HR2 : Hid (Only [bd] w wr.drew ∧ Var wr.drew bd (.int .i64 k)) := ⟨HR.out.1.drew, HR.out.2.drew⟩
        generalize wr.drew = w2 at *
        have q2 := HR2.out.2.cell
        have q3 := HR2.out.2.frozen
        go_wp2_with fail
        refine (must_ok _ _ _).mono ?_
        rintro e w' ⟨rfl, rfl⟩
        go_wp2_with fail
        go_roundg (31 - (k + 1))
        case measure => omega
        case rel => exact ⟨k + 1, by go_num, by omega, Nat.le_refl _, HR2.out.1.setCell (by simp) _, HR2.out.2.set _⟩
    · obtain rfl : k = f := by omega
      have HF : Hid (¬ ((k : Int) < (n0 : Int) ∧ (k : Int) < 30)) := by have := HK.out; show ¬ _; omega
      have he : Hid (endOf l k K = .returned (.tuple #[])) := by show _ = _; rw [endOf, if_neg hlt]
      by_cases z1 : (k : Int) < (n0 : Int)
      · have z2 : ¬ (k : Int) < 30 := fun h => HF.out ⟨z1, h⟩
        go_wp2_with fail
        go_end0
        exact ⟨he.out.symm, HR.out.1, HR.out.2⟩
      · go_wp2_with fail
        go_end0
        exact ⟨he.out.symm, HR.out.1, HR.out.2⟩
end Go.Proofs.Ytakcajmkgdoofaa.trapMusts

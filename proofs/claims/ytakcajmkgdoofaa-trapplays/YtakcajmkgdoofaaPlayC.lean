/- TrapPlays: what is done within a Catch. -/
import Derived.Test.YtakcajmkgdoofaaPlayS
import Derived.Deep.LoopGhost
import Derived.BigQuiet
import Derived.BigRegion
import Derived.RegionTactic
namespace Go.Proofs.Ytakcajmkgdoofaa.trapPlays
open Go.RowKit

/-- the acts that came in -/
def Acts (B : Nat) (w : World) (ao : Option Addr) (n0 : Nat) (X : Nat → Nat → Int) : Prop :=
  ∀ i, i < n0 → ∃ b o, ao = some ⟨b, o, none⟩ ∧ b < B ∧ b < w.heap.size ∧ ∀ j, j < 3 → w.cell? ⟨b, o + (i * 3 + j), none⟩ = some (.int .i64 (X i j))
theorem Acts.only {B : Nat} {w w' : World} {ao : Option Addr} {n0 : Nat} {X : Nat → Nat → Int} {S : List Nat} (h : Acts B w ao n0 X) (o : Only S w w') (hS : ∀ g ∈ S, B ≤ g) : Acts B w' ao n0 X := fun i hi => by
  obtain ⟨b, p, h1, h2, h3, h4⟩ := h i hi
  refine ⟨b, p, h1, h2, Nat.lt_of_lt_of_le h3 o.size, fun j hj => ?_⟩
  rw [o.cell h3 fun hm => by have := hS b hm; omega]
  exact h4 j hj

/-- what a run comes to -/
def RunPost (X : Nat → Nat → Int) (N B bp : Nat) (sl : Value) (w : World) (fv : Value) (i d : Nat) (e : Ending) (w' : World) : Prop :=
  e = .returned (.tuple #[]) ∧ ∃ j fv', i ≤ j ∧ j ≤ N ∧ Moved bp w w' fv fv' ∧ Play w' bp sl j (cnt X j) fv' ∧ FR B w' fv' (flt X j) ∧ (j < N → dep X j = d - 1 ∧ i < j)
def RunSpec (X : Nat → Nat → Int) (N B bp : Nat) (ao : Option Addr) (n0 c0 i d : Nat) : Prop :=
  ∀ (w : World) (fv : Value), Acts B w ao n0 X → Play w bp (.slice ao n0 c0) i (cnt X i) fv → FR B w fv (flt X i) → fv.ownBlock ≠ some bp → (i < N → dep X i = d) →
    Calls Try.prog 23 #[.pointer (some ⟨bp, 0, none⟩), .int .i64 d] w (RunPost X N B bp (.slice ao n0 c0) w fv i d)
/-- what is done within its Catch -/
def InPost (X : Nat → Nat → Int) (N B bp : Nat) (sl : Value) (w : World) (fv : Value) (i d : Nat) (e : Ending) (w' : World) : Prop :=
  ∃ j fv', i ≤ j ∧ j ≤ N ∧ Moved bp w w' fv fv' ∧ Play w' bp sl j (cnt X j) fv' ∧ (j < N → dep X j = d - 1 ∧ i < j) ∧
    ((e = .returned (.tuple #[]) ∧ FR B w' fv' (flt X j)) ∨ ∃ c a fs, e = .panicked [{ v := thrownV c a, recovered := false }] ∧ FR B w' fv' fs ∧ flt X j = fs ++ [(c, a)])

set_option maxHeartbeats 4000000 in
theorem in_any (X : Nat → Nat → Int) (N B bp : Nat) (ao : Option Addr) (n0 c0 : Nat) (hN : N = min n0 40) (i d : Nat) (hi : i ≤ N) (hd : d ≤ 6) (bq bd : Nat) (hB : B ≤ bp) (dq : bq ≠ bp) (dd : bd ≠ bp) (m0 : n0 ≤ 9223372036854775807)
    (hrec : d < 6 → ∀ j, i < j → j ≤ N → RunSpec X N B bp ao n0 c0 j (d + 1))
    (w : World) (fv : Value) (acts : Acts B w ao n0 X) (pl : Play w bp (.slice ao n0 c0) i (cnt X i) fv) (fr : FR B w fv (flt X i)) (hg0 : fv.ownBlock ≠ some bp) (hq0 : fv.ownBlock ≠ some bq) (hd0 : fv.ownBlock ≠ some bd)
    (hdep : i < N → dep X i = d) (vq : Var w bq (.pointer (some ⟨bp, 0, none⟩))) (vd : Var w bd (.int .i64 d)) :
    Calls Try.prog 38 #[.pointer (some ⟨bq, 0, none⟩), .pointer (some ⟨bd, 0, none⟩)] w (InPost X N B bp (.slice ao n0 c0) w fv i d) := by
  have HREC : Hid _ := hrec
  have HN : Hid _ := hN
  have ACTS : Hid _ := acts
  have HDEP : Hid _ := hdep
  have N40 : N ≤ 40 := by omega
  have Bw := pl.lt
  clear hrec hN acts hdep
  have PL : Hid _ := pl
  have FRR : Hid _ := fr
  clear pl fr
  go_enter Try.func38, Try.ntmps38
  go_wp2_with fail
  go_loopg [] 41 (fun gk wr => ∃ j fv', i ≤ j ∧ j ≤ N ∧ 41 - j ≤ gk ∧ Hid (Moved bp w wr fv fv' ∧ Play wr bp (.slice ao n0 c0) j (cnt X j) fv' ∧ FR B wr fv' (flt X j) ∧ (j < N → dep X j = d)))
  case atStart => exact ⟨i, fv, Nat.le_refl _, hi, by omega, Moved.refl _ _ _, PL.out, FRR.out, HDEP.out⟩
  case round =>
    obtain ⟨j, fv', hij, hjN, hgk, HR⟩ := hrel
    have q0 := (vq.only HR.out.1.only (by simp [Option.mem_toList]; exact ⟨dq, fun h => hq0 h⟩)).cell
    have q1 := HR.out.2.1.cell0
    have q2 := HR.out.2.1.cell1
    by_cases hlt : j < N
    · have z1 : (j : Int) < (n0 : Int) := by have := HN.out; omega
      have z2 : (j : Int) < 40 := by omega
      go_wp2_with fail
      go_quiet (fail)
      go_wp2_with fail
      have od := only_drewN wr nq
      have HR1 : Hid (Moved bp w (wr.drewN nq) fv fv' ∧ Play (wr.drewN nq) bp (.slice ao n0 c0) j (cnt X j) fv' ∧ FR B (wr.drewN nq) fv' (flt X j) ∧ (j < N → dep X j = d)) :=
        ⟨HR.out.1.more od (by simp), HR.out.2.1.only od (by simp), HR.out.2.2.1.only od (by simp), HR.out.2.2.2⟩
      clear od q0 q1 q2 HR
      generalize wr.drewN nq = w1 at *
      have vq1 := vq.only HR1.out.1.only (by simp [Option.mem_toList]; exact ⟨dq, fun h => hq0 h⟩)
      have q0 := vq1.cell
      have q1 := HR1.out.2.1.cell0
      have q2 := HR1.out.2.1.cell1
      have on : Only (bp :: fv.ownBlock.toList) w w1 := HR1.out.1.only
      have hS : ∀ g ∈ bp :: fv.ownBlock.toList, B ≤ g := fun g hg => by
        rcases List.mem_cons.1 hg with rfl | hg
        · exact hB
        · exact (World.ownsRow.lt FRR.out g (by simpa [Option.mem_toList] using hg)).1
      obtain ⟨b, o, hao, hb, hlb, hc⟩ := Acts.only ACTS.out on hS j (by omega)
      have k0 : w1.cell? ⟨b, o + j * 3, none⟩ = some (.int .i64 (X j 0)) := hc 0 (by omega)
      have k1 : w1.cell? ⟨b, o + j * 3 + 1, none⟩ = some (.int .i64 (X j 1)) := hc 1 (by omega)
      have k2 : w1.cell? ⟨b, o + j * 3 + 2, none⟩ = some (.int .i64 (X j 2)) := hc 2 (by omega)
      have lp := HR1.out.2.1.lt
      have lq := vq1.lt
      have al := fun ob => (Only.refl [] w1).alloc ob
      have q0' := fun ob => ((al ob).cell (p := ⟨bq, 0, none⟩) lq (by simp)).trans q0
      have q1' := fun ob => ((al ob).cell (p := ⟨bp, 0, none⟩) lp (by simp)).trans q1
      have q2' := fun ob => ((al ob).cell (p := ⟨bp, 1, none⟩) lp (by simp)).trans q2
      have k0' := fun ob => ((al ob).cell (p := ⟨b, o + j * 3, none⟩) hlb (by simp)).trans k0
      have k1' := fun ob => ((al ob).cell (p := ⟨b, o + j * 3 + 1, none⟩) hlb (by simp)).trans k1
      have k2' := fun ob => ((al ob).cell (p := ⟨b, o + j * 3 + 2, none⟩) hlb (by simp)).trans k2
      subst hao
      have HS : Hid _ := hS
      clear hS on hc vq1 al
      go_region
      obtain ⟨w2, e2⟩ : ∃ w2, w2 = (w1.alloc (.cells #[.int .i64 (X j 0), .int .i64 (X j 1), .int .i64 (X j 2)] 37)).drew := ⟨_, rfl⟩
      have o2 : Only [] w1 w2 := e2 ▸ ((Only.refl [] w1).alloc _).drew
      have x2 : Three w2 w1.heap.size (.int .i64 (X j 0)) (.int .i64 (X j 1)) (.int .i64 (X j 2)) := e2 ▸ (Three.new w1 _ _ _ _).only (only_drew _) (by simp)
      have HR2 : Hid (Moved bp w w2 fv fv' ∧ Play w2 bp (.slice (some ⟨b, o, none⟩) n0 c0) j (cnt X j) fv' ∧ FR B w2 fv' (flt X j) ∧ (j < N → dep X j = d)) :=
        ⟨HR1.out.1.more o2 (by simp), HR1.out.2.1.only o2 (by simp), HR1.out.2.2.1.only o2 (by simp), HR1.out.2.2.2⟩
      rw [← e2]
      clear e2 o2 HR1 q0' q1' q2' k0' k1' k2' q0 q1 q2 k0 k1 k2
      have lx : bp < w1.heap.size := lp
      generalize w1.heap.size = bx at *
      have vq2 := vq.only HR2.out.1.only (by simp [Option.mem_toList]; exact ⟨dq, fun h => hq0 h⟩)
      have vd2 := vd.only HR2.out.1.only (by simp [Option.mem_toList]; exact ⟨dd, fun h => hd0 h⟩)
      have q0 := vq2.cell
      have q2 := HR2.out.2.1.cell1
      have q3 := HR2.out.2.1.frozen 1
      have oS : Only [bp] w2 (w2.setCell ⟨bp, 1, none⟩ (.int .i64 (j + 1))) := (Only.refl _ _).setCell (by simp) _
      have x3 := x2.only oS (by simp; omega)
      have k0 := x3.cell0
      have HP : Hid (Play (w2.setCell ⟨bp, 1, none⟩ (.int .i64 (j + 1))) bp (.slice (some ⟨b, o, none⟩) n0 c0) (j + 1) (cnt X j) fv') := HR2.out.2.1.set1 (j + 1)
      go_wp2_with fail
      refine (pick_any _ _ (by omega) (by omega) _).mono ?_
      rintro e w' ⟨rfl, rfl⟩
      have ne3 : ∀ g, fv'.ownBlock = some g → g ∉ [bp] := fun g hg => by
        have := HR2.out.1.ne Bw hg0
        simp; rintro rfl; exact this hg
      have HR3 : Hid (Moved bp w (w2.setCell ⟨bp, 1, none⟩ (.int .i64 (j + 1))) fv fv' ∧ Play (w2.setCell ⟨bp, 1, none⟩ (.int .i64 (j + 1))) bp (.slice (some ⟨b, o, none⟩) n0 c0) (j + 1) (cnt X j) fv' ∧ FR B (w2.setCell ⟨bp, 1, none⟩ (.int .i64 (j + 1))) fv' (flt X j)) :=
        ⟨HR2.out.1.trans (Moved.of_only oS), HP.out, HR2.out.2.2.1.only oS ne3⟩
      have hdj : dep X j = d := HR2.out.2.2.2 hlt
      clear HP oS q0 q2 q3 vq2 vd2 x2 k0 ne3 HR2
      generalize w2.setCell ⟨bp, 1, none⟩ (.int .i64 (j + 1)) = w3 at *
      have vq3 := vq.only HR3.out.1.only (by simp [Option.mem_toList]; exact ⟨dq, fun h => hq0 h⟩)
      have vd3 := vd.only HR3.out.1.only (by simp [Option.mem_toList]; exact ⟨dd, fun h => hd0 h⟩)
      have q0 := vq3.cell
      have qd := vd3.cell
      have k1 := x3.cell1
      have k2 := x3.cell2
      have q2 := HR3.out.2.1.cell2
      have q3 := HR3.out.2.1.frozen 2
      have q1 := HR3.out.2.1.cell1
      have kb := kind_bd X j
      obtain ⟨k, hk⟩ : ∃ k, X j 0 % 8 = k := ⟨_, rfl⟩
      have HK : Hid (kind X j = k) := hk
      rw [hk]
      clear hk
      have hkb : 0 ≤ k ∧ k < 8 := by have := HK.out; omega
      clear kb
      have HDJ : Hid _ := hdj
      clear hdj
      have D1 : Hid _ := bounds X j
      have cb : cnt X j ≤ 40 := by have := D1.out.2.1; omega
      have Xb : True := trivial
      rcases (show k = 0 ∨ k = 1 ∨ k = 2 ∨ k = 3 ∨ k = 4 ∨ k = 5 ∨ k = 6 ∨ k = 7 by omega) with rfl | rfl | rfl | rfl | rfl | rfl | rfl | rfl
      · have A := at_0 X j HK.out
        rw [HDJ.out] at A
        have AA : Hid _ := A
        clear A
        by_cases h6 : d < 6
        · have h6' : (d : Int) < 6 := by omega
          go_wp2_with fail
          have hrun := HREC.out h6 (j + 1) (by omega) (by omega) w3 fv' (Acts.only ACTS.out HR3.out.1.only HS.out) (by rw [AA.out.2.1]; exact HR3.out.2.1) (by rw [AA.out.2.2]; exact HR3.out.2.2) (HR3.out.1.ne Bw hg0) (fun _ => by rw [AA.out.1]; omega)
          refine Calls.mono (w := w3) hrun ?_
          clear hrun
          rintro e w4 ⟨rfl, j', fv'', g1, g2, g3, g4, g5, g6⟩
          have G3 : Hid _ := g3
          have G4 : Hid _ := g4
          have G5 : Hid _ := g5
          have G6 : Hid _ := g6
          clear g3 g4 g5 g6
          go_wp2_with fail
          go_roundg (41 - j')
          case measure => omega
          case rel => exact ⟨j', fv'', by omega, g2, Nat.le_refl _, HR3.out.1.trans G3.out, G4.out, G5.out, fun h => by have := (G6.out h).1; omega⟩
        · have h6' : ¬ (d : Int) < 6 := by omega
          go_wp2_with fail
          go_roundg (41 - (j + 1))
          case measure => omega
          case rel =>
            refine ⟨j + 1, fv', by omega, by omega, Nat.le_refl _, HR3.out.1, ?_, ?_, fun _ => by rw [AA.out.1]; omega⟩
            · rw [AA.out.2.1]; exact HR3.out.2.1
            · rw [AA.out.2.2]; exact HR3.out.2.2
      · have A := at_1 X j HK.out
        rw [HDJ.out] at A
        have AA : Hid _ := A
        clear A
        go_wp2_with fail
        refine bodyPost_ret (results_none rfl _ _ _) rfl ?_
        refine ⟨j + 1, fv', by omega, by omega, HR3.out.1, ?_, fun _ => ⟨AA.out.1, by omega⟩, Or.inl ⟨rfl, ?_⟩⟩
        · rw [AA.out.2.1]; exact HR3.out.2.1
        · rw [AA.out.2.2]; exact HR3.out.2.2
      · have A := at_t X j (Or.inl HK.out)
        rw [HDJ.out] at A
        have AA : Hid _ := A
        clear A
        go_wp2_with fail
        refine (throw_any _ _ _).mono ?_
        rintro e w' ⟨rfl, rfl⟩
        refine ⟨rfl, j + 1, fv', by omega, by omega, HR3.out.1, ?_, fun _ => ⟨AA.out.1, by omega⟩, Or.inr ⟨X j 1, X j 2, flt X j, rfl, HR3.out.2.2, AA.out.2.2⟩⟩
        rw [AA.out.2.1]; exact HR3.out.2.1
      · by_cases ht : (X j 1).tmod 2 = 0
        · have A := at_n X j (by rw [HK.out]; omega) (by rw [HK.out]; omega) ht
          rw [HDJ.out] at A
          have AA : Hid _ := A
          clear A
          go_wp2_with fail
          refine (must_ok _ _ _).mono ?_
          rintro e w' ⟨rfl, rfl⟩
          go_wp2_with fail
          go_roundg (41 - (j + 1))
          case measure => omega
          case rel =>
            refine ⟨j + 1, fv', by omega, by omega, Nat.le_refl _, HR3.out.1, ?_, ?_, fun _ => AA.out.1⟩
            · rw [AA.out.2.1]; exact HR3.out.2.1
            · rw [AA.out.2.2]; exact HR3.out.2.2
        · have A := at_t X j (Or.inr ⟨by rw [HK.out]; omega, by rw [HK.out]; omega, ht⟩)
          rw [HDJ.out] at A
          have AA : Hid _ := A
          clear A
          have ht2 : ((X j 1).tmod 2 == 0) = false := by simpa using ht
          go_wp2_with fail
          refine (must_not _ _ _).mono ?_
          rintro e w' ⟨rfl, rfl⟩
          refine ⟨rfl, j + 1, fv', by omega, by omega, HR3.out.1, ?_, fun _ => ⟨AA.out.1, by omega⟩, Or.inr ⟨X j 1, X j 2, flt X j, rfl, HR3.out.2.2, AA.out.2.2⟩⟩
          rw [AA.out.2.1]; exact HR3.out.2.1
      · by_cases ht : (X j 1).tmod 2 = 0
        · have A := at_n X j (by rw [HK.out]; omega) (by rw [HK.out]; omega) ht
          rw [HDJ.out] at A
          have AA : Hid _ := A
          clear A
          go_wp2_with fail
          refine (must_ok _ _ _).mono ?_
          rintro e w' ⟨rfl, rfl⟩
          go_wp2_with fail
          go_roundg (41 - (j + 1))
          case measure => omega
          case rel =>
            refine ⟨j + 1, fv', by omega, by omega, Nat.le_refl _, HR3.out.1, ?_, ?_, fun _ => AA.out.1⟩
            · rw [AA.out.2.1]; exact HR3.out.2.1
            · rw [AA.out.2.2]; exact HR3.out.2.2
        · have A := at_t X j (Or.inr ⟨by rw [HK.out]; omega, by rw [HK.out]; omega, ht⟩)
          rw [HDJ.out] at A
          have AA : Hid _ := A
          clear A
          have ht2 : ((X j 1).tmod 2 == 0) = false := by simpa using ht
          go_wp2_with fail
          refine (must_not _ _ _).mono ?_
          rintro e w' ⟨rfl, rfl⟩
          refine ⟨rfl, j + 1, fv', by omega, by omega, HR3.out.1, ?_, fun _ => ⟨AA.out.1, by omega⟩, Or.inr ⟨X j 1, X j 2, flt X j, rfl, HR3.out.2.2, AA.out.2.2⟩⟩
          rw [AA.out.2.1]; exact HR3.out.2.1
      · have A := at_5 X j (by rw [HK.out]; omega)
        rw [HDJ.out] at A
        have AA : Hid _ := A
        clear A
        go_wp2_with fail
        have oC : Only [bp] w3 (w3.setCell ⟨bp, 2, none⟩ (.int .i64 (cnt X j + 1))) := (Only.refl _ _).setCell (by simp) _
        have pC : Play (w3.setCell ⟨bp, 2, none⟩ (.int .i64 (cnt X j + 1))) bp (.slice (some ⟨b, o, none⟩) n0 c0) (j + 1) (cnt X j + 1) fv' := HR3.out.2.1.set2 (cnt X j + 1)
        go_roundg (41 - (j + 1))
        case measure => omega
        case rel =>
          refine ⟨j + 1, fv', by omega, by omega, Nat.le_refl _, HR3.out.1.trans (Moved.of_only oC), ?_, ?_, fun _ => AA.out.1⟩
          · rw [AA.out.2.1]; exact pC
          · rw [AA.out.2.2]
            refine HR3.out.2.2.only oC fun g hg => ?_
            have := HR3.out.1.ne Bw hg0
            simp; rintro rfl; exact this hg
      · have A := at_5 X j (by rw [HK.out]; omega)
        rw [HDJ.out] at A
        have AA : Hid _ := A
        clear A
        go_wp2_with fail
        have oC : Only [bp] w3 (w3.setCell ⟨bp, 2, none⟩ (.int .i64 (cnt X j + 1))) := (Only.refl _ _).setCell (by simp) _
        have pC : Play (w3.setCell ⟨bp, 2, none⟩ (.int .i64 (cnt X j + 1))) bp (.slice (some ⟨b, o, none⟩) n0 c0) (j + 1) (cnt X j + 1) fv' := HR3.out.2.1.set2 (cnt X j + 1)
        go_roundg (41 - (j + 1))
        case measure => omega
        case rel =>
          refine ⟨j + 1, fv', by omega, by omega, Nat.le_refl _, HR3.out.1.trans (Moved.of_only oC), ?_, ?_, fun _ => AA.out.1⟩
          · rw [AA.out.2.1]; exact pC
          · rw [AA.out.2.2]
            refine HR3.out.2.2.only oC fun g hg => ?_
            have := HR3.out.1.ne Bw hg0
            simp; rintro rfl; exact this hg
      · have A := at_5 X j (by rw [HK.out]; omega)
        rw [HDJ.out] at A
        have AA : Hid _ := A
        clear A
        go_wp2_with fail
        have oC : Only [bp] w3 (w3.setCell ⟨bp, 2, none⟩ (.int .i64 (cnt X j + 1))) := (Only.refl _ _).setCell (by simp) _
        have pC : Play (w3.setCell ⟨bp, 2, none⟩ (.int .i64 (cnt X j + 1))) bp (.slice (some ⟨b, o, none⟩) n0 c0) (j + 1) (cnt X j + 1) fv' := HR3.out.2.1.set2 (cnt X j + 1)
        go_roundg (41 - (j + 1))
        case measure => omega
        case rel =>
          refine ⟨j + 1, fv', by omega, by omega, Nat.le_refl _, HR3.out.1.trans (Moved.of_only oC), ?_, ?_, fun _ => AA.out.1⟩
          · rw [AA.out.2.1]; exact pC
          · rw [AA.out.2.2]
            refine HR3.out.2.2.only oC fun g hg => ?_
            have := HR3.out.1.ne Bw hg0
            simp; rintro rfl; exact this hg
    · obtain rfl : j = N := by omega
      have HF : Hid (¬ ((j : Int) < (n0 : Int) ∧ (j : Int) < 40)) := by have := HN.out; show ¬ _; omega
      by_cases z1 : (j : Int) < (n0 : Int)
      · have z2 : ¬ (j : Int) < 40 := fun h => HF.out ⟨z1, h⟩
        go_wp2_with fail
        go_quiet (fail)
        go_wp2_with fail
        have od := only_drewN wr nq
        go_end0
        exact ⟨j, fv', hij, Nat.le_refl _, HR.out.1.more od (by simp), HR.out.2.1.only od (by simp), fun h => absurd h (by omega), Or.inl ⟨rfl, HR.out.2.2.1.only od (by simp)⟩⟩
      · have z3 : decide (j < n0) = false := by simp; omega
        go_wp2_with fail
        go_quiet (fail)
        go_wp2_with fail
        have od := only_drewN wr nq
        go_end0
        exact ⟨j, fv', hij, Nat.le_refl _, HR.out.1.more od (by simp), HR.out.2.1.only od (by simp), fun h => absurd h (by omega), Or.inl ⟨rfl, HR.out.2.2.1.only od (by simp)⟩⟩
end Go.Proofs.Ytakcajmkgdoofaa.trapPlays

/- What BitsReads does within its Catch. -/
import Derived.Test.YtaamobhlbahnhaaFieldE
import Derived.Test.YtaamobhlbahnhaaRefRead2
import Derived.Laws.EntriesVeiled
namespace Go.Proofs.Ytaamobhlbahnhaa.bitsReads
open Go.RowKit Bit

/-- what the closure gets -/
def gotV (G : Bool) (K T : Nat) : Int := if G then IntKind.u64.wrap (sgn K T) else T
/-- where the closure's variables lie -/
structure Env (w : World) (bl bi br bg b : Nat) (a : Option Addr) (n cap j : Nat) (sv : Value) (bs : List Nat) (p : Nat) (Nj : Int) (Gj : Bool) : Prop where
  vl : Var w bl (.slice a n cap)
  vi : Var w bi (.int .i64 j)
  vr : Var w br (.pointer (some ⟨b, 0, none⟩))
  vg : Var w bg (.int .u64 0)
  rd : Rd w b sv bs p
  at_ : ∃ b0 o, a = some ⟨b0, o, none⟩ ∧ b0 < w.heap.size ∧ b0 ≠ b ∧ b0 ≠ bg ∧ w.cell? ⟨b0, o + j * 3 + 1, none⟩ = some (.int .i64 Nj) ∧ w.cell? ⟨b0, o + j * 3 + 2, none⟩ = some (.bool Gj)
  n1 : bl ≠ b ∧ bi ≠ b ∧ br ≠ b ∧ bg ≠ b
  n2 : bl ≠ bg ∧ bi ≠ bg ∧ br ≠ bg
  n3 : sv.ownBlock ≠ some bg

def InPost (w : World) (bg b : Nat) (sv : Value) (bs : List Nat) (p K : Nat) (val : Int) (e : Ending) (w' : World) : Prop :=
  e = .returned (.tuple #[]) ∧ Only [b, bg] w w' ∧ Rd w' b sv bs (p + K) ∧ Var w' bg (.int .u64 val)

set_option maxRecDepth 100000 in
set_option maxHeartbeats 2000000 in
theorem in_any (w : World) (bl bi br bg b : Nat) (a : Option Addr) (n cap j : Nat) (sv : Value) (bs : List Nat) (p : Nat) (Nj : Int) (Gj : Bool) (E : Env w bl bi br bg b a n cap j sv bs p Nj Gj) (hj : j < n) (hl : bs.length ≤ 1000)
    (hk : p + sz (szr Nj) ≤ 8 * bs.length) :
    Calls Try.prog 26 #[.pointer (some ⟨bl, 0, none⟩), .pointer (some ⟨bi, 0, none⟩), .pointer (some ⟨br, 0, none⟩), .pointer (some ⟨bg, 0, none⟩)] w (InPost w bg b sv bs p (sz (szr Nj)) (gotV Gj (sz (szr Nj)) (takenN bs p (sz (szr Nj))))) := by
  have c1 := E.vl.cell
  have c2 := E.vi.cell
  have c3 := E.vr.cell
  obtain ⟨b0, o, rfl, hb0, d1, d2, c4, c5⟩ := E.at_
  have z0 : (0 : Int) ≤ (j : Int) := by omega
  have z1 : (j : Int) < (n : Int) := by omega
  have HE : Hid _ := E
  have HV : Hid (∀ y, Only [b, bg] w.drew y → y.cell? ⟨bl, 0, none⟩ = some (.slice (some ⟨b0, o, none⟩) n cap) ∧ y.cell? ⟨bi, 0, none⟩ = some (.int .i64 j) ∧ y.cell? ⟨br, 0, none⟩ = some (.pointer (some ⟨b, 0, none⟩)) ∧ y.cell? ⟨b0, o + j * 3 + 1, none⟩ = some (.int .i64 Nj)) := by
    show ∀ y, _ → _
    intro y hy
    have oo : Only [b, bg] w y := ((only_drew w).weaken (by simp)).trans hy
    refine ⟨(E.vl.only oo (by simp; exact ⟨E.n1.1, E.n2.1⟩)).cell, (E.vi.only oo (by simp; exact ⟨E.n1.2.1, E.n2.2.1⟩)).cell, (E.vr.only oo (by simp; exact ⟨E.n1.2.2.1, E.n2.2.2⟩)).cell, ?_⟩
    rw [oo.cell (p := ⟨b0, o + j * 3 + 1, none⟩) hb0 (by simp; exact ⟨d1, d2⟩)]; exact c4
  have HJ0 : Hid (Rd w.drew b sv bs p ∧ Var w.drew bg (.int .u64 0)) := ⟨E.rd.only (only_drew w) (by simp) (by simp), E.vg.only (only_drew w) (by simp)⟩
  clear E
  obtain ⟨K, hK⟩ : ∃ K, sz (szr Nj) = K := ⟨_, rfl⟩
  rw [hK] at hk
  rw [hK]
  have HK : Hid _ := hK
  clear hK
  obtain ⟨T, hT⟩ : ∃ T, takenN bs p K = T := ⟨_, rfl⟩
  rw [hT]
  have HT : Hid _ := hT
  clear hT
  cases Gj
  · go_enter Try.func26, Try.ntmps26
    go_wp2_with fail
    refine wp_region_by (Only [b, bg]) (Only.refl _) Only.trans [(0, .pointer (some ⟨bl, 0, none⟩)), (1, .pointer (some ⟨bi, 0, none⟩)), (2, .pointer (some ⟨br, 0, none⟩)), (3, .pointer (some ⟨bg, 0, none⟩))] (by intro p hp; simp only [List.mem_cons, List.not_mem_nil, or_false] at hp; rcases hp with rfl | rfl | rfl | rfl <;> rfl) (by kernel_rfl) (by kernel_rfl) (fun y => Rd y b sv bs p ∧ Var y bg (.int .u64 0)) HJ0.out ?_
    repeat (
      apply rb_val
      · first | rfl | exact ⟨by kernel_rfl, rfl⟩
      · intro a y hT hf
        have hcy := HV.out y hT
        simp at hf
        go_simp
        try rfl)
    refine rb_call (fun _ v => v = .int .i64 (szr Nj)) (fun y => Rd y b sv bs p ∧ Var y bg (.int .u64 0)) (by first | rfl | exact ⟨by kernel_rfl, rfl⟩) (by kernel_rfl) (fun _ _ _ _ h => h) (fun a y hJ hT hf => ?_) ?_
    · simp at hf
      go_simp
      refine (szr_any _ _).mono ?_
      rintro e y' ⟨rfl, rfl⟩
      exact ⟨_, rfl, rfl, hJ, Only.refl _ _⟩
    refine rb_call (fun _ v => v = .int .u64 (T : Nat)) (fun y => Rd y b sv bs (p + K) ∧ Var y bg (.int .u64 0)) (by first | rfl | exact ⟨by kernel_rfl, rfl⟩) (by kernel_rfl) (fun _ _ _ _ h => h) (fun a y hJ hT hf => ?_) ?_
    · simp at hf
      go_simp
      refine (get_any b sv bs p (szr Nj) (by omega) _ hJ.1 (by rw [HK.out]; exact hk)).mono ?_
      rintro e y2 ⟨rfl, r2, o2⟩
      rw [HK.out] at r2
      exact ⟨_, rfl, by rw [HK.out, HT.out], ⟨r2, hJ.2.only o2 (by simpa using HE.out.n1.2.2.2)⟩, o2.weaken (by simp)⟩
    refine rb_call (fun _ v => v = undef) (fun y => Rd y b sv bs (p + K) ∧ Var y bg (.int .u64 (T : Nat))) (by first | rfl | exact ⟨by kernel_rfl, rfl⟩) (by kernel_rfl) (fun _ _ _ _ h => h) (fun a y hJ hT hf => ?_) ?_
    · have g1 := hJ.2.cell
      have g2 := hJ.2.frozen
      simp at hf
      go_simp
      have oS : Only [bg] y (y.setCell ⟨bg, 0, none⟩ (.int .u64 (T : Nat))) := (Only.refl _ _).setCell (by simp) _
      have hsv : ∀ g, sv.ownBlock = some g → g ∉ [bg] := fun g hg hm => HE.out.n3 ((by simpa using hm : g = bg) ▸ hg)
      exact ⟨⟨hJ.1.only oS (by simpa using fun e => HE.out.n1.2.2.2 (Eq.symm e)) hsv, hJ.2.set _⟩, oS.weaken (by simp)⟩
    intro y hJ hy
    simp only [FinA, Sp.R, forall_eq]
    simp only [Act.put, List.setIfInBounds_toArray, List.set_cons_succ, List.set_cons_zero]
    go_wp2_with fail
    go_end0
    exact ⟨rfl, ((only_drew w).weaken (by simp)).trans hy, hJ.1, hJ.2⟩
  · go_enter Try.func26, Try.ntmps26
    go_wp2_with fail
    refine wp_region_by (Only [b, bg]) (Only.refl _) Only.trans [(0, .pointer (some ⟨bl, 0, none⟩)), (1, .pointer (some ⟨bi, 0, none⟩)), (2, .pointer (some ⟨br, 0, none⟩)), (3, .pointer (some ⟨bg, 0, none⟩))] (by intro p hp; simp only [List.mem_cons, List.not_mem_nil, or_false] at hp; rcases hp with rfl | rfl | rfl | rfl <;> rfl) (by kernel_rfl) (by kernel_rfl) (fun y => Rd y b sv bs p ∧ Var y bg (.int .u64 0)) HJ0.out ?_
    repeat (
      apply rb_val
      · first | rfl | exact ⟨by kernel_rfl, rfl⟩
      · intro a y hT hf
        have hcy := HV.out y hT
        simp at hf
        go_simp
        try rfl)
    refine rb_call (fun _ v => v = .int .i64 (szr Nj)) (fun y => Rd y b sv bs p ∧ Var y bg (.int .u64 0)) (by first | rfl | exact ⟨by kernel_rfl, rfl⟩) (by kernel_rfl) (fun _ _ _ _ h => h) (fun a y hJ hT hf => ?_) ?_
    · simp at hf
      go_simp
      refine (szr_any _ _).mono ?_
      rintro e y' ⟨rfl, rfl⟩
      exact ⟨_, rfl, rfl, hJ, Only.refl _ _⟩
    refine rb_call (fun _ v => v = .int .i64 (sgn K T)) (fun y => Rd y b sv bs (p + K) ∧ Var y bg (.int .u64 0)) (by first | rfl | exact ⟨by kernel_rfl, rfl⟩) (by kernel_rfl) (fun _ _ _ _ h => h) (fun a y hJ hT hf => ?_) ?_
    · simp at hf
      go_simp
      refine (sget_any b sv bs p (szr Nj) (by omega) _ hJ.1 (by rw [HK.out]; exact hk)).mono ?_
      rintro e y2 ⟨rfl, r2, o2⟩
      rw [HK.out] at r2
      exact ⟨_, rfl, by rw [HK.out, HT.out], ⟨r2, hJ.2.only o2 (by simpa using HE.out.n1.2.2.2)⟩, o2.weaken (by simp)⟩
    apply rb_val
    · first | rfl | exact ⟨by kernel_rfl, rfl⟩
    · intro a y hT hf
      simp at hf
      go_simp
      try rfl
    refine rb_call (fun _ v => v = undef) (fun y => Rd y b sv bs (p + K) ∧ Var y bg (.int .u64 (IntKind.u64.wrap (sgn K T)))) (by first | rfl | exact ⟨by kernel_rfl, rfl⟩) (by kernel_rfl) (fun _ _ _ _ h => h) (fun a y hJ hT hf => ?_) ?_
    · have g1 := hJ.2.cell
      have g2 := hJ.2.frozen
      simp at hf
      go_simp
      have oS : Only [bg] y (y.setCell ⟨bg, 0, none⟩ (.int .u64 (IntKind.u64.wrap (sgn K T)))) := (Only.refl _ _).setCell (by simp) _
      have hsv : ∀ g, sv.ownBlock = some g → g ∉ [bg] := fun g hg hm => HE.out.n3 ((by simpa using hm : g = bg) ▸ hg)
      exact ⟨⟨hJ.1.only oS (by simpa using fun e => HE.out.n1.2.2.2 (Eq.symm e)) hsv, hJ.2.set _⟩, oS.weaken (by simp)⟩
    intro y hJ hy
    simp only [FinA, Sp.R, forall_eq]
    simp only [Act.put, List.setIfInBounds_toArray, List.set_cons_succ, List.set_cons_zero]
    go_wp2_with fail
    go_end0
    exact ⟨rfl, ((only_drew w).weaken (by simp)).trans hy, hJ.1, hJ.2⟩

def LackedPost (p : Nat) (w : World) (e : Ending) (w' : World) : Prop := e = .panicked [{ v := thrownV 100 p, recovered := false }] ∧ Only [] w w'
set_option maxRecDepth 100000 in
set_option maxHeartbeats 2000000 in
theorem in_lack (w : World) (bl bi br bg b : Nat) (a : Option Addr) (n cap j : Nat) (sv : Value) (bs : List Nat) (p : Nat) (Nj : Int) (Gj : Bool) (E : Env w bl bi br bg b a n cap j sv bs p Nj Gj) (hj : j < n) (hl : bs.length ≤ 1000)
    (hk : 8 * bs.length < p + sz (szr Nj)) :
    Calls Try.prog 26 #[.pointer (some ⟨bl, 0, none⟩), .pointer (some ⟨bi, 0, none⟩), .pointer (some ⟨br, 0, none⟩), .pointer (some ⟨bg, 0, none⟩)] w (LackedPost p w) := by
  have c1 := E.vl.cell
  have c2 := E.vi.cell
  have c3 := E.vr.cell
  obtain ⟨b0, o, rfl, hb0, d1, d2, c4, c5⟩ := E.at_
  have z0 : (0 : Int) ≤ (j : Int) := by omega
  have z1 : (j : Int) < (n : Int) := by omega
  have HV : Hid (∀ y, Only [] w.drew y → y.cell? ⟨bl, 0, none⟩ = some (.slice (some ⟨b0, o, none⟩) n cap) ∧ y.cell? ⟨bi, 0, none⟩ = some (.int .i64 j) ∧ y.cell? ⟨br, 0, none⟩ = some (.pointer (some ⟨b, 0, none⟩)) ∧ y.cell? ⟨b0, o + j * 3 + 1, none⟩ = some (.int .i64 Nj)) := by
    show ∀ y, _ → _
    intro y hy
    have oo : Only [] w y := (only_drew w).trans hy
    refine ⟨(E.vl.only oo (by simp)).cell, (E.vi.only oo (by simp)).cell, (E.vr.only oo (by simp)).cell, ?_⟩
    rw [oo.cell (p := ⟨b0, o + j * 3 + 1, none⟩) hb0 (by simp)]; exact c4
  have HR : Hid _ := E.rd
  clear E
  cases Gj
  · go_enter Try.func26, Try.ntmps26
    go_wp2_with fail
    refine wp_region_dies (fun chain y => chain = [{ v := thrownV 100 p, recovered := false }] ∧ Only [] w y) (by rintro chain a' y hd ⟨rfl, ho⟩; exact ⟨hd, rfl, ho⟩) (Only []) (Only.refl _) Only.trans [(0, .pointer (some ⟨bl, 0, none⟩)), (1, .pointer (some ⟨bi, 0, none⟩)), (2, .pointer (some ⟨br, 0, none⟩)), (3, .pointer (some ⟨bg, 0, none⟩))] (by intro p hp; simp only [List.mem_cons, List.not_mem_nil, or_false] at hp; rcases hp with rfl | rfl | rfl | rfl <;> rfl) (by kernel_rfl) (by kernel_rfl) (fun _ => True) trivial ?_
    repeat (
      apply rb_val
      · first | rfl | exact ⟨by kernel_rfl, rfl⟩
      · intro a y hT hf
        have hcy := HV.out y hT
        simp at hf
        go_simp
        try rfl)
    refine rb_call (fun _ v => v = .int .i64 (szr Nj)) (fun _ => True) (by first | rfl | exact ⟨by kernel_rfl, rfl⟩) (by kernel_rfl) (fun _ _ _ _ h => h) (fun a y hJ hT hf => ?_) ?_
    · simp at hf
      go_simp
      refine (szr_any _ _).mono ?_
      rintro e y' ⟨rfl, rfl⟩
      exact ⟨_, rfl, rfl, Only.refl _ _⟩
    refine rb_die (by first | rfl | exact ⟨by kernel_rfl, rfl⟩) (by kernel_rfl) (fun a y hJ hT hf => ?_) ?_
    · have od : Only [] w y := (only_drew w).trans hT
      simp at hf
      go_simp
      refine (get_lack b sv bs p (szr Nj) (by omega) _ (HR.out.only od (by simp) (by simp)) hk).mono ?_
      rintro e y2 ⟨rfl, o2⟩
      exact ⟨_, rfl, rfl, od.trans o2⟩
    repeat (
      refine rb_val undef (by first | rfl | exact ⟨by kernel_rfl, rfl⟩) (fun a y hT hf => ?_) ?_
      · simp at hf)
    intro y hJ
    exact hJ.elim
  · go_enter Try.func26, Try.ntmps26
    go_wp2_with fail
    refine wp_region_dies (fun chain y => chain = [{ v := thrownV 100 p, recovered := false }] ∧ Only [] w y) (by rintro chain a' y hd ⟨rfl, ho⟩; exact ⟨hd, rfl, ho⟩) (Only []) (Only.refl _) Only.trans [(0, .pointer (some ⟨bl, 0, none⟩)), (1, .pointer (some ⟨bi, 0, none⟩)), (2, .pointer (some ⟨br, 0, none⟩)), (3, .pointer (some ⟨bg, 0, none⟩))] (by intro p hp; simp only [List.mem_cons, List.not_mem_nil, or_false] at hp; rcases hp with rfl | rfl | rfl | rfl <;> rfl) (by kernel_rfl) (by kernel_rfl) (fun _ => True) trivial ?_
    repeat (
      apply rb_val
      · first | rfl | exact ⟨by kernel_rfl, rfl⟩
      · intro a y hT hf
        have hcy := HV.out y hT
        simp at hf
        go_simp
        try rfl)
    refine rb_call (fun _ v => v = .int .i64 (szr Nj)) (fun _ => True) (by first | rfl | exact ⟨by kernel_rfl, rfl⟩) (by kernel_rfl) (fun _ _ _ _ h => h) (fun a y hJ hT hf => ?_) ?_
    · simp at hf
      go_simp
      refine (szr_any _ _).mono ?_
      rintro e y' ⟨rfl, rfl⟩
      exact ⟨_, rfl, rfl, Only.refl _ _⟩
    refine rb_die (by first | rfl | exact ⟨by kernel_rfl, rfl⟩) (by kernel_rfl) (fun a y hJ hT hf => ?_) ?_
    · have od : Only [] w y := (only_drew w).trans hT
      simp at hf
      go_simp
      refine (sget_lack b sv bs p (szr Nj) (by omega) _ (HR.out.only od (by simp) (by simp)) hk).mono ?_
      rintro e y2 ⟨rfl, o2⟩
      exact ⟨_, rfl, rfl, od.trans o2⟩
    repeat (
      refine rb_val undef (by first | rfl | exact ⟨by kernel_rfl, rfl⟩) (fun a y hT hf => ?_) ?_
      · simp at hf)
    intro y hJ
    exact hJ.elim
end Go.Proofs.Ytaamobhlbahnhaa.bitsReads

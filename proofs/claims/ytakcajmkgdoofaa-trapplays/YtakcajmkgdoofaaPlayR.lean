/- TrapPlays: a run. -/
import Derived.Test.YtakcajmkgdoofaaPlayC
import Derived.Deep.RegionHeld3
import Derived.Deep.RegionLaw
namespace Go.Proofs.Ytakcajmkgdoofaa.trapPlays
open Go.RowKit

theorem info_fault : (Try.prog.info? 24).map (fun i => (i.zero, i.size, i.bytes)) = some (some (.agg #[.int .i64 0, .int .i64 0]), 2, 16) := by kernel_rfl

set_option maxHeartbeats 4000000 in
theorem run_any (X : Nat → Nat → Int) (N B bp : Nat) (ao : Option Addr) (n0 c0 : Nat) (hN : N = min n0 40) (i d : Nat) (hi : i ≤ N) (hd : d ≤ 6) (hB : B ≤ bp) (m0 : n0 ≤ 9223372036854775807)
    (hrec : d < 6 → ∀ j, i < j → j ≤ N → RunSpec X N B bp ao n0 c0 j (d + 1)) : RunSpec X N B bp ao n0 c0 i d := by
  intro w fv acts pl fr hg0 hdep
  have hmf : ∀ (fn : Fn) (first cap : Array Value) (w : World), (Instr.makeFunc fn first cap).run Try.prog w = .ok (.func fn first cap) w := fun _ _ _ _ => rfl
  have lb := pl.lt
  have lr : ∀ g, fv.ownBlock = some g → B ≤ g ∧ g < w.heap.size := World.ownsRow.lt fr
  have HREC : Hid _ := hrec
  have HN : Hid _ := hN
  have ACTS : Hid _ := acts
  have HDEP : Hid _ := hdep
  have PL : Hid _ := pl
  have FRR : Hid _ := fr
  have LR : Hid _ := lr
  clear hrec hN acts hdep pl fr lr
  go_enter Try.func23, Try.ntmps23
  go_wp2_with fail
  obtain ⟨w1, e1⟩ : ∃ w1, w1 = (w.alloc (.cells #[.pointer (some ⟨bp, 0, none⟩)] 31)).alloc (.cells #[.int .i64 d] 3) := ⟨_, rfl⟩
  have o1 : Only [] w w1 := e1 ▸ ((Only.refl [] w).alloc _).alloc _
  have v1 : Var w1 w.heap.size (.pointer (some ⟨bp, 0, none⟩)) := e1 ▸ (Var.new _ _ _).alloc _
  have v2 : Var w1 (w.heap.size + 1) (.int .i64 d) := e1 ▸ Var.newAt (by simp) _ _
  have s1 : w1.heap.size = w.heap.size + 2 := by rw [e1]; simp
  rw [← e1]
  clear e1
  have hmem : ∀ x, x ∈ bp :: fv.ownBlock.toList → x < w.heap.size := fun x hx => by
    rcases List.mem_cons.1 hx with rfl | hx
    · exact lb
    · exact (LR.out x (by simpa [Option.mem_toList] using hx)).2
  refine catch_any 38 _ (bp :: fv.ownBlock.toList) _ (fun h => by have := hmem _ h; omega) (fun h => by have := hmem _ h; omega) (by simp [go_sem]) ?_
  have i1 : Only [] w (inCatch w1) := o1.trans (inCatch_only w1)
  have ic := inCatch_only w1
  refine (in_any X N B bp ao n0 c0 HN.out i d hi hd w.heap.size (w.heap.size + 1) hB (by omega) (by omega) m0 HREC.out (inCatch w1) fv (Acts.only ACTS.out i1 (by simp)) (Play.only PL.out i1 (by simp)) (FR.only FRR.out i1 (by simp)) hg0
    (fun h => by have := (LR.out _ h).2; omega) (fun h => by have := (LR.out _ h).2; omega) HDEP.out (v1.only ic (by simp)) (v2.only ic (by simp))).mono ?_
  rintro e w2 ⟨j, fv', hij, hjN, mv, pl2, hdj, hend⟩
  have MV : Hid _ := mv
  have ne1 : fv'.ownBlock ≠ some w1.heap.size := mv.ne (by rw [inCatch_size]; omega) (fun h => by have := (LR.out _ h).2; omega)
  have ne2 : fv'.ownBlock ≠ some (w1.heap.size + 1) := mv.ne (by rw [inCatch_size]; omega) (fun h => by have := (LR.out _ h).2; omega)
  refine ⟨mv.only, ?_⟩
  rcases hend with ⟨rfl, fr2⟩ | ⟨c, a, fs, rfl, fr2, hfl⟩
  · refine ⟨_, .none _, fun w3 o3 => ?_⟩
    have M3 : Hid (Moved bp w w3 fv fv' ∧ Play w3 bp (.slice ao n0 c0) j (cnt X j) fv' ∧ FR B w3 fv' (flt X j)) := by
      refine ⟨?_, pl2.only o3 (by simp; omega), fr2.only o3 fun g hg => by simp; constructor <;> (rintro rfl; first | exact ne1 hg | exact ne2 hg)⟩
      exact ((Moved.of_only (i1.weaken (by simp))).trans MV.out).more o3 (by simp; omega)
    clear o3 fr2 pl2 mv MV hmem v1 v2 ic i1 o1 ne1 ne2
    have HDJ : Hid _ := hdj
    clear hdj
    go_wp2_with fail
    go_end0
    have o4 := (Only.refl [] w3).alloc (.cells #[.int .i64 0, .int .i64 0] 24)
    exact ⟨rfl, j, fv', hij, hjN, M3.out.1.more o4 (by simp), M3.out.2.1.only o4 (by simp), M3.out.2.2.only o4 (by simp), HDJ.out⟩
  · refine ⟨_, .thrown c a [] (by simp), fun w3 o3 => ?_⟩
    have M3 : Hid (Moved bp w w3 fv fv' ∧ Play w3 bp (.slice ao n0 c0) j (cnt X j) fv' ∧ FR B w3 fv' fs) := by
      refine ⟨?_, pl2.only o3 (by simp; omega), fr2.only o3 fun g hg => by simp; constructor <;> (rintro rfl; first | exact ne1 hg | exact ne2 hg)⟩
      exact ((Moved.of_only (i1.weaken (by simp))).trans MV.out).more o3 (by simp; omega)
    have vq := ((v1.only ic (by simp)).only MV.out.only (fun h => by have := hmem _ h; omega)).only o3 (by simp; omega)
    have nq : fv'.ownBlock ≠ some w.heap.size := MV.out.ne (by rw [inCatch_size]; omega) (fun h => by have := (LR.out _ h).2; omega)
    have np : fv'.ownBlock ≠ some bp := MV.out.ne (by rw [inCatch_size]; omega) hg0
    clear o3 fr2 pl2 mv MV hmem v1 v2 ic i1 o1 ne1 ne2
    have HDJ : Hid _ := hdj
    have HFL : Hid _ := hfl
    clear hdj hfl
    go_wp2_with fail
    obtain ⟨w4, e4⟩ : ∃ w4, w4 = w3.alloc (.cells #[.int .i64 c, .int .i64 a] 24) := ⟨_, rfl⟩
    have o4 : Only [] w3 w4 := e4 ▸ (Only.refl [] w3).alloc _
    have f4 : Two w4 w3.heap.size (.int .i64 c) (.int .i64 a) := e4 ▸ Two.new _ _ _ _
    have M4 : Hid (Moved bp w w4 fv fv' ∧ Play w4 bp (.slice ao n0 c0) j (cnt X j) fv' ∧ FR B w4 fv' fs) := ⟨M3.out.1.more o4 (by simp), M3.out.2.1.only o4 (by simp), M3.out.2.2.only o4 (by simp)⟩
    have vq4 := vq.only o4 (by simp)
    have nf : fv'.ownBlock ≠ some w3.heap.size := fun h => by have := (World.ownsRow.lt M3.out.2.2 _ h).2; omega
    have s4 : w4.heap.size = w3.heap.size + 1 := by rw [e4]; simp
    rw [← e4]
    have lq : w.heap.size < w3.heap.size := vq.lt
    clear e4 o4 M3 vq
    generalize w3.heap.size = bf at *
    have q0 := vq4.cell
    have q1 := M4.out.2.1.cell3
    have q2 := f4.cell0
    have q3 := f4.cell1
    have al := fun ob => (Only.refl [] w4).alloc ob
    have lb4 := M4.out.2.1.lt
    have q0' := fun ob => ((al ob).cell (p := ⟨w.heap.size, 0, none⟩) vq4.lt (by simp)).trans q0
    have q1' := fun ob => ((al ob).cell (p := ⟨bp, 3, none⟩) lb4 (by simp)).trans q1
    clear al
    obtain ⟨i0, hi0, hz0, hz1, hz2⟩ := info_parts info_fault
    obtain ⟨w5, e5⟩ : ∃ w5, w5 = (w4.alloc (.cells #[.int .i64 c, .int .i64 a] 24)).drew := ⟨_, rfl⟩
    have o5 : Only [] w4 w5 := e5 ▸ ((Only.refl [] w4).alloc _).drew
    have t5 : Two w5 (bf + 1) (.int .i64 c) (.int .i64 a) := by
      have := (Two.new w4 (.int .i64 c) (.int .i64 a) 24).only (only_drew _) (by simp)
      rw [s4] at this
      exact e5 ▸ this
    have s5 : w5.heap.size = bf + 2 := by rw [e5]; show (w4.alloc _).heap.size = _; simp [s4]
    have own5 : w5.ownsRow B 24 2 fv' fs.length (flat fs) := M4.out.2.2.only o5 (by simp)
    have news5 : ∀ k u, [Value.int .i64 c, Value.int .i64 a][k]? = some u → w5.cell? ((⟨bf + 1, 0, none⟩ : Addr).add k) = some u := fun k u hk => by
      match k, hk with
      | 0, hk => simp at hk; subst hk; simpa [Addr.add] using t5.cell0
      | 1, hk => simp at hk; subst hk; simpa [Addr.add] using t5.cell1
      | k + 2, hk => simp at hk
    have FW : Hid (∀ w6, w5.grownBy w6 fv'.ownBlock → w6.cell? ⟨w.heap.size, 0, none⟩ = some (.pointer (some ⟨bp, 0, none⟩)) ∧ w6.cell? ⟨bp, 3, none⟩ = some fv' ∧ w6.frozen? ⟨bp, 3, none⟩ = false) := fun w6 hg => by
      have og := grown_only hg
      have v6 := (vq4.only o5 (by simp)).only og (by simp [Option.mem_toList]; exact nq)
      have p6 := (M4.out.2.1.only o5 (by simp)).only og (by simp [Option.mem_toList]; exact np)
      exact ⟨v6.cell, p6.cell3, p6.frozen 3⟩
    have lf : fs.length ≤ 40 := by
      have h1 := (bounds X j).2.2
      rw [HFL.out, List.length_append, List.length_singleton] at h1
      have h2 := HN.out
      omega
    have FIN : Hid (∀ g cap w6, (w6.ownsRow B 24 2 (.slice (some ⟨g, 0, none⟩) (fs.length + 1) cap) (fs.length + 1) (flat fs ++ [.int .i64 c, .int .i64 a]) ∧ w5.grownBy w6 fv'.ownBlock ∧ (fv'.ownBlock = some g ∨ g = bf + 2)) →
        RunPost X N B bp (.slice ao n0 c0) w fv i d (.returned (.tuple #[])) (w6.setCell ⟨bp, 3, none⟩ (.slice (some ⟨g, 0, none⟩) (fs.length + 1) cap))) := fun g cap w6 ⟨h1, h2, h3⟩ => by
      have og := grown_only h2
      have oS : Only [bp] w6 (w6.setCell ⟨bp, 3, none⟩ (.slice (some ⟨g, 0, none⟩) (fs.length + 1) cap)) := (Only.refl _ _).setCell (by simp) _
      have p6 := (M4.out.2.1.only o5 (by simp)).only og (by simp [Option.mem_toList]; exact np)
      have mv6 : Moved bp w5 w6 fv' (.slice (some ⟨g, 0, none⟩) (fs.length + 1) cap) := ⟨og.weaken (fun k hk _ => List.mem_cons_of_mem _ hk), fun x hx => by
        have hx : g = x := by simpa [Value.ownBlock] using hx
        subst hx
        rcases h3 with h3 | h3
        · exact Or.inl h3
        · right; omega⟩
      have gne : g ≠ bp := fun e => by
        subst e
        rcases h3 with h3 | h3
        · exact np h3
        · omega
      refine ⟨rfl, j, _, hij, hjN, ((M4.out.1.more o5 (by simp)).trans mv6).trans (Moved.of_only oS), p6.set3 _, ?_, HDJ.out⟩
      unfold FR
      rw [HFL.out, List.length_append, List.length_singleton, flat_app]
      refine own_only h1 oS fun x hx => ?_
      have hx : g = x := by simpa [Value.ownBlock] using hx
      subst hx
      simpa using gne
    have OWN : Hid _ := own5
    have NEWS : Hid _ := news5
    have S5 : Hid _ := s5
    have O5 : Hid _ := o5
    have ONE : Hid (∀ u ∈ [Value.int .i64 c, Value.int .i64 a], u.oneCell' = true) := by intro u hu; simp at hu; rcases hu with rfl | rfl <;> rfl
    have E5 : Hid _ := e5
    have BB : B ≤ w5.heap.size := by omega
    clear own5 news5 s5 o5 t5 e5
    go_region_law (
      rw [← E5.out]
      refine step_append_lies w5 rfl (.tmp 16) (.tmp 18) 32 rfl B 24 i0 (.agg #[.int .i64 0, .int .i64 0]) 2 16 Try.underlying32 hi0 hz0 hz1 hz2 rfl (by decide) fv' fs.length (flat fs) (by simp [Act.eval]) OWN.out ⟨bf + 1, 0, none⟩ 1 1 [.int .i64 c, .int .i64 a] (by simp [Act.eval]) rfl NEWS.out ONE.out (by decide) (by unfold maxLen; omega) (by omega) BB (bf + 2) S5.out ?_
      intro g cap w6 hown hgrow hat hlt
      have r0 := (FW.out w6 hgrow).1
      have r1 := (FW.out w6 hgrow).2.1
      have r2 := (FW.out w6 hgrow).2.2
      have HH : Hid (w6.ownsRow B 24 2 (.slice (some ⟨g, 0, none⟩) (fs.length + 1) cap) (fs.length + 1) (flat fs ++ [.int .i64 c, .int .i64 a]) ∧ w5.grownBy w6 fv'.ownBlock ∧ (fv'.ownBlock = some g ∨ g = bf + 2)) := ⟨hown, hgrow, hat⟩
      clear hown hgrow hat hlt)
    all_goals
      go_end0
      exact FIN.out _ _ _ HH.out

theorem runs_all (X : Nat → Nat → Int) (N B bp : Nat) (ao : Option Addr) (n0 c0 : Nat) (hN : N = min n0 40) (hB : B ≤ bp) (m0 : n0 ≤ 9223372036854775807) (m : Nat) : ∀ i d, N - i ≤ m → i ≤ N → d ≤ 6 → RunSpec X N B bp ao n0 c0 i d := by
  induction m with
  | zero => exact fun i d h1 h2 h3 => run_any X N B bp ao n0 c0 hN i d h2 h3 hB m0 fun _ j h4 h5 => by omega
  | succ m ih => exact fun i d h1 h2 h3 => run_any X N B bp ao n0 c0 hN i d h2 h3 hB m0 fun h6 j h4 h5 => ih j (d + 1) (by omega) h5 (by omega)
end Go.Proofs.Ytakcajmkgdoofaa.trapPlays

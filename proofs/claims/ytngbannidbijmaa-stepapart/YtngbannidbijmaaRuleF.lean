/- Package rule: Fire. -/
import Derived.Test.YtngbannidbijmaaRuleW
import Derived.Test.YtngbannidbijmaaBodyRow
import Derived.Test.YtngbannidbijmaaGRegBy
namespace Go.Proofs.Ytngbannidbijmaa
open Go.RowKit
set_option linter.unusedVariables false

/-- what is so of a machine in whatever later memory -/
def Kept (p : Nat) (m : Mch) (w : World) : Prop := Mb w p m
set_option maxRecDepth 100000 in
set_option maxHeartbeats 1000000 in
theorem fire_no {w : World} {p : Nat} {m : Mch} (h : Mb w p m) (a : Option Addr) (n cap : Nat) (hs : m.sh = .slice a n cap) (hn : n ≤ 9223372036854775807) (hr : ¬ (n : Int) < m.room) (x y : Int) : Calls Try.prog 102 #[.pointer (some ⟨p, 0, none⟩), .int .i64 x, .int .i64 y] w fun e w' => e = broke 7 m.at_ ∧ Only [] w w' := by
  have H : Hid (∀ y, Only [] w.drew y → Mb y p m) := fun y hy => h.only ((only_drew w).trans hy) (by simp)
  have HR : Hid (decide ((n : Int) < m.room) = false) := (by simpa using hr : decide ((n : Int) < m.room) = false)
  clear h hr
  go_enter Try.func102, Try.ntmps102
  go_wp2_with fail
  refine wp_region_fate (fun chain y => chain = [{ v := thrownV 7 m.at_, recovered := false }] ∧ Only [] w y) (by rintro chain a' y hd ⟨rfl, ho⟩; exact ⟨hd, rfl, ho⟩) 14 (Only []) (Only.refl []) Only.trans [(0, .pointer (some ⟨p, 0, none⟩))] (by intro p hp; simp only [List.mem_cons, List.not_mem_nil, or_false] at hp; rcases hp with rfl; rfl) (by kernel_rfl) (by kernel_rfl) (by decide) (by kernel_rfl) (by kernel_rfl) ?_
  simp only [List.take_succ_cons, List.take_zero, List.drop_succ_cons, List.drop_zero]
  repeat (
    apply rd_val
    · first | rfl | exact ⟨by kernel_rfl, rfl⟩
    · intro z y hT hf
      have c17 := (H.out y hT).room
      have c18 := (H.out y hT).sh
      rw [hs] at c18
      simp at hf
      go_simp
      try rfl)
  refine rd_die (by first | rfl | exact ⟨by kernel_rfl, rfl⟩) (fun z y hT hf => ?_) ?_
  · simp at hf
    go_simp
    rw [HR.out]
    refine (mmust_no (H.out y hT) _).mono ?_
    rintro e y2 ⟨rfl, rfl⟩
    exact ⟨_, rfl, rfl, (only_drew w).trans hT⟩
  intro y hy
  simp only [FinA, Sp.R, forall_eq]
  intro v hv
  exact hv.elim

set_option maxRecDepth 100000 in
set_option maxHeartbeats 1000000 in
theorem fire_in {w : World} {p B : Nat} {m : Mch} {xs : List Bd} (h : Mb w p m) (hs : SR B w m.sh xs) (hp : m.sh.ownBlock ≠ some p) (hB : B ≤ p) (g cap : Nat) (ha : m.sh = .slice (some ⟨g, 0, none⟩) xs.length cap) (hroom : xs.length + 1 ≤ cap) (hl : xs.length ≤ 1000000) (hr : (xs.length : Int) < m.room) (hb : Body.some m.b = true) (x yy : Int) : Calls Try.prog 102 #[.pointer (some ⟨p, 0, none⟩), .int .i64 x, .int .i64 yy] w fun e w' => e = .returned (.tuple #[]) ∧ ∃ v, Mb w' p { m with sh := v } ∧ SR B w' v (xs ++ [Body.shot m.b x yy]) ∧ v.ownBlock ≠ some p ∧ Moved p w w' m.sh v := by
  have hn : xs.length ≤ 9223372036854775807 := by omega
  have H : Hid (∀ y, Only [] w.drew y → Mb y p m) := fun y hy => h.only ((only_drew w).trans hy) (by simp)
  have HR : Hid (decide ((xs.length : Int) < m.room) = true) := (by simpa using hr : decide ((xs.length : Int) < m.room) = true)
  have H0 : Hid (Mb w p m ∧ SR B w m.sh xs) := ⟨h, hs⟩
  have lp := h.lt
  clear h hr
  have HA : Hid _ := ha
  clear ha
  go_enter Try.func102, Try.ntmps102
  go_wp2_with fail
  refine wp_region_free 14 (Only []) (Only.refl []) Only.trans [(0, .pointer (some ⟨p, 0, none⟩))] (by intro p hp; simp only [List.mem_cons, List.not_mem_nil, or_false] at hp; rcases hp with rfl; rfl) (by kernel_rfl) (by kernel_rfl) (by decide) (by kernel_rfl) (by kernel_rfl) ?_
  simp only [List.take_succ_cons, List.take_zero, List.drop_succ_cons, List.drop_zero]
  repeat (
    apply rf_val
    · first | rfl | exact ⟨by kernel_rfl, rfl⟩
    · intro z y hT hf
      have c17 := (H.out y hT).room
      have c18 := (H.out y hT).sh
      rw [HA.out] at c18
      simp at hf
      go_simp
      try rfl)
  refine rf_eff (fun _ v => v = .tuple #[]) (by first | rfl | exact ⟨by kernel_rfl, rfl⟩) (fun _ _ _ _ h => h) (fun z y hT hf => ?_) ?_
  · simp at hf
    go_simp
    rw [HR.out]
    refine (mmust_yes (H.out y hT) _).mono ?_
    rintro e y2 ⟨rfl, rfl⟩
    exact ⟨_, rfl, rfl, Only.refl _ _⟩
  intro w1 hy
  simp only [FinA, Sp.R, forall_eq]
  simp only [Act.put, List.setIfInBounds_toArray, List.set_cons_succ, List.set_cons_zero]
  have o1 : Only [] w w1 := (only_drew w).trans hy
  have H1 : Hid (Mb w1 p m ∧ SR B w1 m.sh xs ∧ Only [] w w1) := ⟨H0.out.1.only o1 (by simp), H0.out.2.only o1 (by simp), o1⟩
  clear hy o1 H H0
  go_wp2_with fail
  have HV : Hid (∀ y, Only m.sh.ownBlock.toList w1.drew y → Mb y p m) := fun y hy => H1.out.1.only (((only_drew w1).weaken (by simp)).trans hy) (by simp [Option.mem_toList]; exact hp)
  refine wp_region_tail (fun _ _ => False) (fun _ _ _ _ h => h.elim) 16 (Only m.sh.ownBlock.toList) (Only.refl _) Only.trans [(0, .pointer (some ⟨p, 0, none⟩)), (1, .int .i64 x), (2, .int .i64 yy)] (by intro p hp; simp only [List.mem_cons, List.not_mem_nil, or_false] at hp; rcases hp with rfl | rfl | rfl <;> rfl) (by kernel_rfl) (by kernel_rfl) (by decide) (by kernel_rfl) (by kernel_rfl) (fun y => SR B y m.sh xs ∧ Only [] w y) ⟨H1.out.2.1.only (only_drew _) (by simp), H1.out.2.2.trans (only_drew _)⟩ ?_
  simp only [List.take_succ_cons, List.take_zero, List.drop_succ_cons, List.drop_zero]
  repeat (
    apply rb_val
    · first | rfl | exact ⟨by kernel_rfl, rfl⟩
    · intro z y hT hf
      have c18 := (HV.out y hT).sh
      obtain ⟨c1, c2, c3, c4, c5, c6, c7, c8, c9, c10, c11, c12⟩ := (HV.out y hT).body
      simp at hf
      go_simp
      try rfl)
  refine rb_call (fun _ v => v = (Body.shot m.b x yy).v) (fun y => SR B y m.sh xs ∧ Only [] w y) (by first | rfl | exact ⟨by kernel_rfl, rfl⟩) (by kernel_rfl) (fun _ _ _ _ h => h) (fun z y hJ hT hf => ?_) ?_
  · simp at hf
    go_simp
    refine (shoot_any m.b _ _ _).mono ?_
    rintro e y2 ⟨rfl, o⟩
    rw [Body.shoot_yes hb]
    exact ⟨_, rfl, rfl, ⟨hJ.1.only o (by simp), hJ.2.trans o⟩, o.weaken (by simp)⟩
  refine rb_call (fun y v => RdS y v [Body.shot m.b x yy] ∧ ∀ g, v.ownBlock = some g → ¬ m.sh.ownBlock = some g) (fun y => SR B y m.sh xs ∧ Only [] w y) (by first | rfl | exact ⟨by kernel_rfl, rfl⟩) (by kernel_rfl) (fun y y2 v hT h => ⟨h.1.only hT (fun g hg => by have := h.2 g hg; simp [Option.mem_toList]; exact this), h.2⟩) (fun z y hJ hT hf => ?_) ?_
  · simp at hf
    go_simp
    exact ⟨⟨rds_one (Bl.new _ _ _), fun k hk h2 => by have := (hJ.1.lt k h2).2; have hk2 : some y.heap.size = some k := hk; injection hk2 with hk2; omega⟩, ⟨hJ.1.only ((Only.refl [] _).alloc _) (by simp), hJ.2.alloc _⟩, (Only.refl _ _).alloc _⟩
  refine rb_call (fun _ v => v = .slice (some ⟨g, 0, none⟩) (xs.length + 1) cap) (fun y => SR B y (.slice (some ⟨g, 0, none⟩) (xs.length + 1) cap) (xs ++ [Body.shot m.b x yy]) ∧ Only [g] w y) (by first | rfl | exact ⟨by kernel_rfl, rfl⟩) (by kernel_rfl) (fun _ _ _ _ h => h) (fun z y hJ hT hf => ?_) ?_
  · have e25 : z.eval (.tmp 25) = m.sh := by simp at hf; simpa [Act.eval] using hf.2.1
    have e34 : RdS y (z.eval (.tmp 34)) [Body.shot m.b x yy] := by simp at hf; simpa [Act.eval] using hf.2.2.1.1
    rw [HA.out] at e25
    have hS := hJ.1
    rw [HA.out] at hS
    obtain ⟨y2, hrun, k1, k2⟩ := run_app_in hS e34 (by simp) hroom (by simp; omega) (by have := hJ.2.size; omega) 70
    simp only [execOp, resolve, invoke, builtin, Sem.run_bind, Sem.run_pure, Result.andThen_ok, List.map_toArray, List.map_cons, List.map_nil, e25, hrun]
    exact ⟨rfl, ⟨k1, (hJ.2.weaken (by simp)).trans k2⟩, k2.weaken (by rw [HA.out]; simp [Value.ownBlock])⟩
  intro w2 hJ hy
  simp only [FinA, Sp.R, forall_eq]
  intro s hrd _
  simp only [Act.put, List.setIfInBounds_toArray, List.set_cons_succ, List.set_cons_zero]
  have hm2 : Mb w2 p m := HV.out w2 hy
  have hg : g ≠ p := fun e => hp (by rw [HA.out, e]; rfl)
  have fz := hm2.frozen
  have c18 := hm2.sh
  have H3 : Hid (Mb w2 p m ∧ SR B w2 (.slice (some ⟨g, 0, none⟩) (xs.length + 1) cap) (xs ++ [Body.shot m.b x yy]) ∧ Only [g] w w2) := ⟨hm2, hJ.1, hJ.2⟩
  clear hm2 hrd hJ hy H1 HV hs hp
  go_wp2_with fail
  go_end0
  obtain ⟨hm3, hr3, o2⟩ := H3.out
  have oS : Only [p] w2 (w2.setCell ⟨p, 18, none⟩ (.slice (some ⟨g, 0, none⟩) (xs.length + 1) cap)) := (Only.refl _ _).setCell (by simp) _
  refine ⟨rfl, _, hm3.setsh _, hr3.only oS (fun k hk hm => hg (by have h1 : g = k := (by simpa [Value.ownBlock] using hk); have h2 : k = p := (by simpa using hm); omega)), (fun e => hg (by simpa [Value.ownBlock] using e)), ?_, ?_⟩
  · rw [HA.out]
    exact (o2.weaken (by simp [Value.ownBlock])).trans (oS.weaken (by simp))
  · intro k hk
    left; rw [HA.out]; exact hk
set_option maxRecDepth 100000 in
set_option maxHeartbeats 1000000 in
theorem fire_new {w : World} {p B : Nat} {m : Mch} {xs : List Bd} (h : Mb w p m) (hs : SR B w m.sh xs) (hp : m.sh.ownBlock ≠ some p) (hB : B ≤ p) (hno : ∀ g n cap, m.sh = .slice (some g) n cap → ¬ n + 1 ≤ cap) (hl : xs.length ≤ 1000000) (hr : (xs.length : Int) < m.room) (hb : Body.some m.b = true) (x yy : Int) : Calls Try.prog 102 #[.pointer (some ⟨p, 0, none⟩), .int .i64 x, .int .i64 yy] w fun e w' => e = .returned (.tuple #[]) ∧ ∃ v, Mb w' p { m with sh := v } ∧ SR B w' v (xs ++ [Body.shot m.b x yy]) ∧ v.ownBlock ≠ some p ∧ Moved p w w' m.sh v := by
  obtain ⟨a, cap, ha, hn⟩ := hs.form
  have H : Hid (∀ y, Only [] w.drew y → Mb y p m) := fun y hy => h.only ((only_drew w).trans hy) (by simp)
  have HR : Hid (decide ((xs.length : Int) < m.room) = true) := (by simpa using hr : decide ((xs.length : Int) < m.room) = true)
  have H0 : Hid (Mb w p m ∧ SR B w m.sh xs) := ⟨h, hs⟩
  have lp := h.lt
  clear h hr
  have HA : Hid _ := ha
  clear ha
  go_enter Try.func102, Try.ntmps102
  go_wp2_with fail
  refine wp_region_free 14 (Only []) (Only.refl []) Only.trans [(0, .pointer (some ⟨p, 0, none⟩))] (by intro p hp; simp only [List.mem_cons, List.not_mem_nil, or_false] at hp; rcases hp with rfl; rfl) (by kernel_rfl) (by kernel_rfl) (by decide) (by kernel_rfl) (by kernel_rfl) ?_
  simp only [List.take_succ_cons, List.take_zero, List.drop_succ_cons, List.drop_zero]
  repeat (
    apply rf_val
    · first | rfl | exact ⟨by kernel_rfl, rfl⟩
    · intro z y hT hf
      have c17 := (H.out y hT).room
      have c18 := (H.out y hT).sh
      rw [HA.out] at c18
      simp at hf
      go_simp
      try rfl)
  refine rf_eff (fun _ v => v = .tuple #[]) (by first | rfl | exact ⟨by kernel_rfl, rfl⟩) (fun _ _ _ _ h => h) (fun z y hT hf => ?_) ?_
  · simp at hf
    go_simp
    rw [HR.out]
    refine (mmust_yes (H.out y hT) _).mono ?_
    rintro e y2 ⟨rfl, rfl⟩
    exact ⟨_, rfl, rfl, Only.refl _ _⟩
  intro w1 hy
  simp only [FinA, Sp.R, forall_eq]
  simp only [Act.put, List.setIfInBounds_toArray, List.set_cons_succ, List.set_cons_zero]
  have o1 : Only [] w w1 := (only_drew w).trans hy
  have H1 : Hid (Mb w1 p m ∧ SR B w1 m.sh xs ∧ Only [] w w1) := ⟨H0.out.1.only o1 (by simp), H0.out.2.only o1 (by simp), o1⟩
  clear hy o1 H H0
  go_wp2_with fail
  have HV : Hid (∀ y, Only [] w1.drew y → Mb y p m) := fun y hy => H1.out.1.only (((only_drew w1).weaken (by simp)).trans hy) (by simp)
  refine wp_region_tail (fun _ _ => False) (fun _ _ _ _ h => h.elim) 16 (Only []) (Only.refl _) Only.trans [(0, .pointer (some ⟨p, 0, none⟩)), (1, .int .i64 x), (2, .int .i64 yy)] (by intro p hp; simp only [List.mem_cons, List.not_mem_nil, or_false] at hp; rcases hp with rfl | rfl | rfl <;> rfl) (by kernel_rfl) (by kernel_rfl) (by decide) (by kernel_rfl) (by kernel_rfl) (fun y => SR B y m.sh xs ∧ Only [] w y) ⟨H1.out.2.1.only (only_drew _) (by simp), H1.out.2.2.trans (only_drew _)⟩ ?_
  simp only [List.take_succ_cons, List.take_zero, List.drop_succ_cons, List.drop_zero]
  repeat (
    apply rb_val
    · first | rfl | exact ⟨by kernel_rfl, rfl⟩
    · intro z y hT hf
      have c18 := (HV.out y hT).sh
      obtain ⟨c1, c2, c3, c4, c5, c6, c7, c8, c9, c10, c11, c12⟩ := (HV.out y hT).body
      simp at hf
      go_simp
      try rfl)
  refine rb_call (fun _ v => v = (Body.shot m.b x yy).v) (fun y => SR B y m.sh xs ∧ Only [] w y) (by first | rfl | exact ⟨by kernel_rfl, rfl⟩) (by kernel_rfl) (fun _ _ _ _ h => h) (fun z y hJ hT hf => ?_) ?_
  · simp at hf
    go_simp
    refine (shoot_any m.b _ _ _).mono ?_
    rintro e y2 ⟨rfl, o⟩
    rw [Body.shoot_yes hb]
    exact ⟨_, rfl, rfl, ⟨hJ.1.only o (by simp), hJ.2.trans o⟩, o.weaken (by simp)⟩
  refine rb_call (fun y v => RdS y v [Body.shot m.b x yy] ∧ ∀ g, v.ownBlock = some g → ¬ m.sh.ownBlock = some g) (fun y => SR B y m.sh xs ∧ Only [] w y) (by first | rfl | exact ⟨by kernel_rfl, rfl⟩) (by kernel_rfl) (fun y y2 v hT h => ⟨h.1.only hT (fun g hg => by have := h.2 g hg; simp), h.2⟩) (fun z y hJ hT hf => ?_) ?_
  · simp at hf
    go_simp
    exact ⟨⟨rds_one (Bl.new _ _ _), fun k hk h2 => by have := (hJ.1.lt k h2).2; have hk2 : some y.heap.size = some k := hk; injection hk2 with hk2; omega⟩, ⟨hJ.1.only ((Only.refl [] _).alloc _) (by simp), hJ.2.alloc _⟩, (Only.refl _ _).alloc _⟩
  refine rb_call (fun y v => SR B y v (xs ++ [Body.shot m.b x yy]) ∧ ∀ g, v.ownBlock = some g → w.heap.size ≤ g) (fun y => True) (by first | rfl | exact ⟨by kernel_rfl, rfl⟩) (by kernel_rfl) (fun y y2 v hT h => ⟨h.1.only hT (by simp), h.2⟩) (fun z y hJ hT hf => ?_) ?_
  · have e25 : z.eval (.tmp 25) = m.sh := by simp at hf; simpa [Act.eval] using hf.2.1
    have e34 : RdS y (z.eval (.tmp 34)) [Body.shot m.b x yy] := by simp at hf; simpa [Act.eval] using hf.2.2.1.1
    obtain ⟨v', y2, hrun, k1, k2, k3⟩ := run_app_new hJ.1 e34 (by simp) hno (by simp; omega) (by have := hJ.2.size; omega) 70
    simp only [execOp, resolve, invoke, builtin, Sem.run_bind, Sem.run_pure, Result.andThen_ok, List.map_toArray, List.map_cons, List.map_nil, e25, hrun]
    exact ⟨⟨k1, fun g hg => by rw [k3] at hg; injection hg with hg; have := hJ.2.size; omega⟩, trivial, k2⟩
  intro w2 hJ hy
  simp only [FinA, Sp.R, forall_eq]
  intro s hrd v' ⟨hv1, hv2⟩ _
  simp only [Act.put, List.setIfInBounds_toArray, List.set_cons_succ, List.set_cons_zero]
  have hm2 : Mb w2 p m := HV.out w2 hy
  obtain ⟨a2, n2, cap2, rfl⟩ := hv1.form2
  have fz := hm2.frozen
  have c18 := hm2.sh
  have H3 : Hid (Mb w2 p m ∧ SR B w2 (.slice a2 n2 cap2) (xs ++ [Body.shot m.b x yy]) ∧ Only [] w w2 ∧ ∀ g, (Value.slice a2 n2 cap2).ownBlock = some g → w.heap.size ≤ g) := ⟨hm2, hv1, H1.out.2.2.trans ((only_drew w1).trans hy), hv2⟩
  clear hm2 hrd hv1 hv2 hy H1 HV hs hp hJ
  go_wp2_with fail
  go_end0
  obtain ⟨hm3, hr3, o2, hv⟩ := H3.out
  have oS : Only [p] w2 (w2.setCell ⟨p, 18, none⟩ (.slice a2 n2 cap2)) := (Only.refl _ _).setCell (by simp) _
  refine ⟨rfl, _, hm3.setsh _, hr3.only oS (fun k hk hm => by have h2 : k = p := (by simpa using hm); have := hv k hk; omega), (fun e => by have := hv _ e; omega), ?_, ?_⟩
  · exact (o2.weaken (by simp)).trans (oS.weaken (by simp))
  · intro k hk
    right; exact hv k hk
theorem fire_yes {w : World} {p B : Nat} {m : Mch} {xs : List Bd} (h : Mb w p m) (hs : SR B w m.sh xs) (hp : m.sh.ownBlock ≠ some p) (hB : B ≤ p) (hl : xs.length ≤ 1000000) (hr : (xs.length : Int) < m.room) (hb : Body.some m.b = true) (x yy : Int) : Calls Try.prog 102 #[.pointer (some ⟨p, 0, none⟩), .int .i64 x, .int .i64 yy] w fun e w' => e = .returned (.tuple #[]) ∧ ∃ v, Mb w' p { m with sh := v } ∧ SR B w' v (xs ++ [Body.shot m.b x yy]) ∧ v.ownBlock ≠ some p ∧ Moved p w w' m.sh v := by
  by_cases hroom : ∃ g cap, m.sh = .slice (some ⟨g, 0, none⟩) xs.length cap ∧ xs.length + 1 ≤ cap
  · obtain ⟨g, cap, h1, h2⟩ := hroom
    exact fire_in h hs hp hB g cap h1 h2 hl hr hb x yy
  · refine fire_new h hs hp hB (fun g n cap e hle => hroom ?_) hl hr hb x yy
    rcases hs.2 with ⟨e2, _⟩ | ⟨g', cap', cur, e2, _⟩
    · rw [e] at e2; cases e2
    · rw [e] at e2
      injection e2 with e3 e4 e5
      injection e3 with e3
      subst e4 e5 e3
      exact ⟨g', _, e, hle⟩
end Go.Proofs.Ytngbannidbijmaa

/- Proved: BodyStays returns true for every input. No condition. -/
import Derived.Test.YtpbckiijmoellaaBodyK
import Derived.Test.YtpbckiijmoellaaBodyS
import Derived.Test.YtpbckiijmoellaaOfW
import Derived.Test.YtpbckiijmoellaaRegF
import Derived.Test.YtpbckiijmoellaaFrameC
import Derived.Deep.LoopGhost
import Derived.Deep.DeepCutAuto
import Derived.Deep.CutBlock
namespace Go.Proofs.Ytpbckiijmoellaa.bodyStays
open Go.ChangeShapes Go.WideShapes Go.ChangeAt Go.RowKit
set_option linter.unusedVariables false
abbrev al (w : World) (b : Bd) : World := w.alloc (.cells #[.int .i64 b.k, .int .i64 b.o, .int .i64 b.x, .int .i64 b.y, .int .i64 b.vx, .int .i64 b.vy, .int .i64 b.age, .int .i64 b.m0, .int .i64 b.m1, .int .i64 b.m2, .int .i64 b.m3, .int .i64 b.f] 27)
abbrev ar (w : World) (r : Rw) : World := w.alloc (.cells #[.int .i64 r.c0, .int .i64 r.c1, .int .i64 r.c2, .int .i64 r.c3, .int .i64 r.c4, .int .i64 r.c5, .int .i64 r.c6, .int .i64 r.c7, .int .i64 r.c8, .int .i64 r.c9] 23)

/-- the two bodies, in memory -/
structure Two (w x : World) (pa pb : Nat) (a b : Bd) : Prop where
  one : Bl x pa a
  two : Bl x pb b
  only : Only [] w x
  le : w.heap.size ≤ pa
theorem Two.then {w x y : World} {pa pb : Nat} {a b : Bd} (h : Two w x pa pb a b) (o : Only [] x y) : Two w y pa pb a b := ⟨h.one.only o (by simp), h.two.only o (by simp), h.only.trans o, h.le⟩
/-- what a push leaves -/
structure Pushed (a p : Bd) : Prop where
  some : Body.some p = true
  k : p.k = a.k
  o : p.o = a.o
  m0 : p.m0 = a.m0
  m1 : p.m1 = a.m1
  m2 : p.m2 = a.m2
  m3 : p.m3 = a.m3
theorem pushed_ok {a p : Bd} {x y : Int} (h : Body.some a = true) (hp : Body.pushed a x y = p) : Pushed a p := by
  subst hp
  exact ⟨(Body.some_iff _).2 (((Body.some_iff _).1 h).pushed x y), rfl, rfl, rfl, rfl, rfl, rfl⟩
/-- what becomes of it -/
theorem moved {p : Bd} (h : Body.some p = true) :
    (p.k = 1 ∧ ∃ x y vx vy g, Body.move p = (⟨1, p.o, x, y, vx, vy, g, p.m0, p.m1, p.m2, p.m3, p.f⟩, true) ∧ Body.some ⟨1, p.o, x, y, vx, vy, g, p.m0, p.m1, p.m2, p.m3, p.f⟩ = true) ∨
    (p.k = 2 ∧ Body.move p = (Body.zero, false)) ∨
    (p.k = 2 ∧ ∃ g, g ≤ 40 ∧ Body.move p = (⟨2, p.o, p.x + p.vx, p.y + p.vy, p.vx, p.vy, g, p.m0, p.m1, p.m2, p.m3, p.f⟩, true) ∧ Body.some ⟨2, p.o, p.x + p.vx, p.y + p.vy, p.vx, p.vy, g, p.m0, p.m1, p.m2, p.m3, p.f⟩ = true) := by
  have K := (Body.some_iff _).1 h
  rcases K.k with k | k
  · left
    have e := Body.move_player h k
    have s := (Body.some_iff _).2 K.kept
    unfold Body.kept Body.fly at e s
    rw [k] at e s
    exact ⟨k, _, _, _, _, _, e, s⟩
  · right
    cases g : Body.gone p
    · right
      have e := Body.move_on h (by omega) g
      have s := K.fly g
      have s1 := (Body.some_iff _).2 s.1
      unfold Body.fly at e s1
      rw [k] at e s1
      exact ⟨k, _, s.2, e, s1⟩
    · left
      exact ⟨k, Body.move_gone h (by omega) g⟩
/-- in a round: the body, and what it was -/
structure Round (w x : World) (pa pw : Nat) (a was : Bd) : Prop where
  one : Bl x pa a
  was : Bl x pw was
  only : Only [] w x
  le : w.heap.size ≤ pa
  lt : pa < pw
theorem Round.then {w x y : World} {pa pw : Nat} {a b : Bd} (h : Round w x pa pw a b) (o : Only [] x y) : Round w y pa pw a b := ⟨h.one.only o (by simp), h.was.only o (by simp), h.only.trans o, h.le, h.lt⟩
theorem Round.turn {w x : World} {pa pw : Nat} {a b : Bd} (h : Round w x pa pw a b) (c : Bd) : Round w (putB x pa c) pa pw c b :=
  ⟨putB_bl h.one c, h.was.only (putB_only x pa c) (by have := h.lt; simp; omega), h.only.then (putB_only x pa c) (by have := h.le; simp; omega), h.le, h.lt⟩
set_option maxRecDepth 100000 in
set_option maxHeartbeats 4000000 in
theorem walk (a0 : Rw) (a1 : Rw) (s2 : Value) (a2 : List Int) (w : World) (w2 : CameI .i64 w s2 a2) :
    Calls Try.prog 3 #[a0.v, a1.v, s2] w fun e w' => e = .returned (.bool true) ∧ Below w.heap.size w w' := by
  have hnot : ∀ (x : Bool) (w : World), (Op.unary .not (.bool x)).run Try.prog w = .ok (.bool (!x)) w := fun _ _ => rfl
  obtain ⟨ao, cap, rfl, hcap, hcm, _, hcl⟩ := w2
  have HC : Hid (∀ i, i < a2.length → ∃ b o, ao = some ⟨b, o, none⟩ ∧ b < w.heap.size ∧ w.cell? ⟨b, o + i, none⟩ = some (.int .i64 (a2.getD i 0))) := fun i hi => by
    rcases hcl with h | ⟨b, o, h1, h2, h3⟩
    · rw [h] at hi; simp at hi
    · exact ⟨b, o, h1, h2, h3 i hi⟩
  clear hcl
  have m0 : a2.length ≤ 9223372036854775807 := by simp only [maxLen] at hcm; omega
  clear hcm
  generalize hn : a2.length = n at *
  clear hn
  go_enter Try.func3, Try.ntmps3
  go_wp2_with fail
  have H0 : Hid (Rl (ar (ar w a0) a1) (w.heap.size + 1) a1 ∧ Only [] w (ar (ar w a0) a1)) := ⟨by have := Rl.new a1 (ar w a0) 23; simpa using this, ((Only.refl [] w).alloc _).alloc _⟩
  refine (of_any a0 _).mono ?_
  rintro e x1 ⟨⟨a, rfl⟩, o1⟩
  have H1 : Hid (Rl x1 (w.heap.size + 1) a1 ∧ Only [] w x1) := ⟨H0.out.1.only o1 (by simp), H0.out.2.trans o1⟩
  clear o1 H0
  obtain ⟨d0, d1, d2, d3, d4, d5, d6, d7, d8, d9⟩ := H1.out.1.all
  have lt := H1.out.1.lt
  generalize w.heap.size + 1 = B1 at *
  go_wp2_with fail
  have H2 : Hid (Bl (al x1 a) x1.heap.size a ∧ Only [] w (al x1 a)) := ⟨Bl.new a _ _, H1.out.2.alloc _⟩
  have hle := H1.out.2.size
  clear d0 d1 d2 d3 d4 d5 d6 d7 d8 d9 H1
  refine (of_any a1 _).mono ?_
  rintro e x2 ⟨⟨b, rfl⟩, o2⟩
  have H3 : Hid (Bl x2 x1.heap.size a ∧ Only [] w x2 ∧ w.heap.size ≤ x1.heap.size) := ⟨H2.out.1.only o2 (by simp), H2.out.2.trans o2, hle⟩
  clear o2 H2 lt hle
  generalize x1.heap.size = pa at *
  go_wp2_with fail
  have H4 : Hid (Two w (al x2 b) pa x2.heap.size a b) := ⟨H3.out.1.only ((Only.refl [] _).alloc _) (by simp), Bl.new b _ _, H3.out.2.1.alloc _, H3.out.2.2⟩
  clear H3
  refine (known_any _).mono ?_
  rintro e x3 ⟨rfl, o3⟩
  have H5 : Hid (Two w x3 pa x2.heap.size a b) := H4.out.then o3
  clear o3 H4
  generalize x2.heap.size = pb at *
  obtain ⟨c0, c1, c2, c3, c4, c5, c6, c7, c8, c9, c10, c11⟩ := H5.out.one.all
  go_wp2_with fail
  clear c0 c1 c2 c3 c4 c5 c6 c7 c8 c9 c10 c11
  refine (right_any a _).mono ?_
  rintro e x4 ⟨rfl, o4⟩
  have H6 : Hid (Two w x4 pa pb a b) := H5.out.then o4
  clear o4 H5
  obtain ⟨ra, hra⟩ : ∃ ra, Body.right a = ra := ⟨_, rfl⟩
  have HA : Hid _ := hra
  change (a == Body.zero || Body.some a) = ra at hra
  rw [hra]
  clear hra
  cases ra
  · go_wp2_with fail
    refine (known_any _).mono ?_
    rintro e x5 ⟨rfl, o5⟩
    have O : Hid (Only [] w x5) := H6.out.only.trans o5
    clear o5
    go_wp2_with fail
    go_ret
    exact ⟨rfl, O.out.below (Nat.le_refl _) (by simp)⟩
  obtain ⟨c0, c1, c2, c3, c4, c5, c6, c7, c8, c9, c10, c11⟩ := H6.out.two.all
  go_wp2_with fail
  clear c0 c1 c2 c3 c4 c5 c6 c7 c8 c9 c10 c11
  refine (right_any b _).mono ?_
  rintro e x5 ⟨rfl, o5⟩
  have H7 : Hid (Two w x5 pa pb a b) := H6.out.then o5
  clear o5 H6
  obtain ⟨rb, hrb⟩ : ∃ rb, Body.right b = rb := ⟨_, rfl⟩
  change (b == Body.zero || Body.some b) = rb at hrb
  rw [hrb]
  clear hrb
  cases rb
  · go_wp2_with fail
    refine (known_any _).mono ?_
    rintro e x6 ⟨rfl, o6⟩
    have O : Hid (Only [] w x6) := H7.out.only.trans o6
    clear o6
    go_wp2_with fail
    go_ret
    exact ⟨rfl, O.out.below (Nat.le_refl _) (by simp)⟩
  go_upto_region 5 with fail
  obtain ⟨h, hh⟩ : ∃ h, Body.hit a b = h := ⟨_, rfl⟩
  have hh2 : Body.hit b a = h := by rw [hit_symm]; exact hh
  have HH : Hid (Body.hit a b = h ∧ Body.hit b a = h) := ⟨hh, hh2⟩
  clear hh hh2
  have FA : Hid (∀ y, Only [] x5.drew y → y.cell? ⟨pa, 0, none⟩ = some (.int .i64 a.k) ∧ y.cell? ⟨pa, 1, none⟩ = some (.int .i64 a.o) ∧ y.cell? ⟨pa, 2, none⟩ = some (.int .i64 a.x) ∧ y.cell? ⟨pa, 3, none⟩ = some (.int .i64 a.y) ∧ y.cell? ⟨pa, 4, none⟩ = some (.int .i64 a.vx) ∧ y.cell? ⟨pa, 5, none⟩ = some (.int .i64 a.vy) ∧ y.cell? ⟨pa, 6, none⟩ = some (.int .i64 a.age) ∧ y.cell? ⟨pa, 7, none⟩ = some (.int .i64 a.m0) ∧ y.cell? ⟨pa, 8, none⟩ = some (.int .i64 a.m1) ∧ y.cell? ⟨pa, 9, none⟩ = some (.int .i64 a.m2) ∧ y.cell? ⟨pa, 10, none⟩ = some (.int .i64 a.m3) ∧ y.cell? ⟨pa, 11, none⟩ = some (.int .i64 a.f) ∧ y.cell? ⟨pb, 0, none⟩ = some (.int .i64 b.k) ∧ y.cell? ⟨pb, 1, none⟩ = some (.int .i64 b.o) ∧ y.cell? ⟨pb, 2, none⟩ = some (.int .i64 b.x) ∧ y.cell? ⟨pb, 3, none⟩ = some (.int .i64 b.y) ∧ y.cell? ⟨pb, 4, none⟩ = some (.int .i64 b.vx) ∧ y.cell? ⟨pb, 5, none⟩ = some (.int .i64 b.vy) ∧ y.cell? ⟨pb, 6, none⟩ = some (.int .i64 b.age) ∧ y.cell? ⟨pb, 7, none⟩ = some (.int .i64 b.m0) ∧ y.cell? ⟨pb, 8, none⟩ = some (.int .i64 b.m1) ∧ y.cell? ⟨pb, 9, none⟩ = some (.int .i64 b.m2) ∧ y.cell? ⟨pb, 10, none⟩ = some (.int .i64 b.m3) ∧ y.cell? ⟨pb, 11, none⟩ = some (.int .i64 b.f)) := fun y hT => by
    obtain ⟨c0, c1, c2, c3, c4, c5, c6, c7, c8, c9, c10, c11⟩ := (H7.out.one.only ((only_drew x5).trans hT) (by simp)).all
    obtain ⟨r0, r1, r2, r3, r4, r5, r6, r7, r8, r9, r10, r11⟩ := (H7.out.two.only ((only_drew x5).trans hT) (by simp)).all
    exact ⟨c0, c1, c2, c3, c4, c5, c6, c7, c8, c9, c10, c11, r0, r1, r2, r3, r4, r5, r6, r7, r8, r9, r10, r11⟩
  refine wp_region_free 12 (Only []) (Only.refl []) Only.trans [(7, .pointer (some ⟨pa, 0, none⟩)), (8, .pointer (some ⟨pb, 0, none⟩))] (by intro p hp; simp only [List.mem_cons, List.not_mem_nil, or_false] at hp; rcases hp with rfl | rfl <;> rfl) (by kernel_rfl) (by kernel_rfl) (by decide) (by kernel_rfl) (by kernel_rfl) ?_
  simp only [List.take_succ_cons, List.take_zero, List.drop_succ_cons, List.drop_zero]
  repeat (
    apply rf_val
    · first | rfl | exact ⟨by kernel_rfl, rfl⟩
    · intro z y hT hf
      obtain ⟨c0, c1, c2, c3, c4, c5, c6, c7, c8, c9, c10, c11, r0, r1, r2, r3, r4, r5, r6, r7, r8, r9, r10, r11⟩ := FA.out y hT
      simp at hf
      go_simp
      try rfl)
  refine rf_eff (fun _ v => v = .bool h) (by first | rfl | exact ⟨by kernel_rfl, rfl⟩) (fun _ _ _ _ h => h) (fun z y hT hf => ?_) ?_
  · simp at hf
    go_simp
    refine (hit_any a b _).mono ?_
    rintro e y2 ⟨rfl, o⟩
    rw [HH.out.1]
    exact ⟨_, rfl, rfl, o⟩
  repeat (
    apply rf_val
    · first | rfl | exact ⟨by kernel_rfl, rfl⟩
    · intro z y hT hf
      obtain ⟨c0, c1, c2, c3, c4, c5, c6, c7, c8, c9, c10, c11, r0, r1, r2, r3, r4, r5, r6, r7, r8, r9, r10, r11⟩ := FA.out y hT
      simp at hf
      go_simp
      try rfl)
  refine rf_eff (fun _ v => v = .bool h) (by first | rfl | exact ⟨by kernel_rfl, rfl⟩) (fun _ _ _ _ h => h) (fun z y hT hf => ?_) ?_
  · simp at hf
    go_simp
    refine (hit_any b a _).mono ?_
    rintro e y2 ⟨rfl, o⟩
    rw [HH.out.2]
    exact ⟨_, rfl, rfl, o⟩
  refine rf_val (.bool false) (by first | rfl | exact ⟨by kernel_rfl, rfl⟩) ?_ ?_
  · intro z y hT hf
    simp at hf
    go_simp
  refine rf_val (.bool false) (by first | rfl | exact ⟨by kernel_rfl, rfl⟩) ?_ ?_
  · intro z y hT hf
    simp at hf
    go_simp
  repeat (
    apply rf_val
    · first | rfl | exact ⟨by kernel_rfl, rfl⟩
    · intro z y hT hf
      obtain ⟨c0, c1, c2, c3, c4, c5, c6, c7, c8, c9, c10, c11, r0, r1, r2, r3, r4, r5, r6, r7, r8, r9, r10, r11⟩ := FA.out y hT
      simp at hf
      go_simp
      try rfl)
  refine rf_eff (fun _ v => v = .bool false) (by first | rfl | exact ⟨by kernel_rfl, rfl⟩) (fun _ _ _ _ h => h) (fun z y hT hf => ?_) ?_
  · simp at hf
    go_simp
    refine (hit_any a a _).mono ?_
    rintro e y2 ⟨rfl, o⟩
    rw [hit_self]
    exact ⟨_, rfl, rfl, o⟩
  repeat (
    apply rf_val
    · first | rfl | exact ⟨by kernel_rfl, rfl⟩
    · intro z y hT hf
      obtain ⟨c0, c1, c2, c3, c4, c5, c6, c7, c8, c9, c10, c11, r0, r1, r2, r3, r4, r5, r6, r7, r8, r9, r10, r11⟩ := FA.out y hT
      simp at hf
      go_simp
      try rfl)
  intro y hy
  simp only [FinA, Sp.R, forall_eq]
  have H8 : Hid (Bl y pa a ∧ Only [] w y ∧ w.heap.size ≤ pa) := ⟨(H7.out.then ((only_drew x5).trans hy)).one, (H7.out.then ((only_drew x5).trans hy)).only, H7.out.le⟩
  clear hy FA H7 HH
  simp only [Act.put, List.setIfInBounds_toArray, List.set_cons_succ, List.set_cons_zero]
  go_wp2_with fail
  go_loopg [9] 51 (fun gk vi wr => ∃ j : Nat, vi = .int .i64 j ∧ j ≤ 50 ∧ 51 - j ≤ gk ∧ Hid (∃ a, Body.right a = true ∧ Bl wr pa a ∧ Only [] w wr ∧ w.heap.size ≤ pa))
  case atStart => exact ⟨0, rfl, by omega, by omega, a, HA.out, H8.out⟩
  case round =>
    clear H8 HA
    obtain ⟨j, rfl, hj, hg, HR⟩ := hrel
    obtain ⟨a, hra, hb⟩ := HR.out
    have HA : Hid _ := hra
    have HB : Hid _ := hb
    clear hra hb HR
    generalize wr = W0 at *
    have k0 := HB.out.1.all.1
    by_cases z1 : j < n
    rotate_left
    · go_wp2_with fail
      go_ret
      exact ⟨rfl, HB.out.2.1.below (Nat.le_refl _) (by simp)⟩
    by_cases z2 : j < 50
    rotate_left
    · go_wp2_with fail
      go_ret
      exact ⟨rfl, HB.out.2.1.below (Nat.le_refl _) (by simp)⟩
    by_cases z3 : a.k = 0
    · go_wp2_with fail
      go_ret
      exact ⟨rfl, HB.out.2.1.below (Nat.le_refl _) (by simp)⟩
    obtain ⟨d0, d1, d2, d3, d4, d5, d6, d7, d8, d9, d10, d11⟩ := HB.out.1.all
    go_upto_region 11 with fail
    clear k0 d0 d1 d2 d3 d4 d5 d6 d7 d8 d9 d10 d11
    have HS : Hid (Body.some a = true) := Body.right_some HA.out z3
    obtain ⟨bk, o, hao, hbk, hc⟩ := HC.out j z1
    subst hao
    obtain ⟨v, hv⟩ : ∃ v, a2.getD j 0 = v := ⟨_, rfl⟩
    rw [hv] at hc
    have H1 : Hid (Round w (al W0 a) pa W0.heap.size a a ∧ (al W0 a).cell? ⟨bk, o + j, none⟩ = some (.int .i64 v)) := ⟨⟨HB.out.1.only ((Only.refl [] _).alloc _) (by simp), Bl.new a _ _, HB.out.2.1.alloc _, HB.out.2.2, HB.out.1.lt⟩, by rw [← hc]; exact (HB.out.2.1.alloc _).cell hbk (by simp)⟩
    clear hc hbk hv HB HA
    change Code.wp _ _ _ _ (al W0 a)
    generalize al W0 a = W1 at *
    generalize W0.heap.size = pw at *
    have FA : Hid (∀ y, Only [] W1.drew y → y.cell? ⟨pa, 0, none⟩ = some (.int .i64 a.k) ∧ y.cell? ⟨pa, 1, none⟩ = some (.int .i64 a.o) ∧ y.cell? ⟨pa, 2, none⟩ = some (.int .i64 a.x) ∧ y.cell? ⟨pa, 3, none⟩ = some (.int .i64 a.y) ∧ y.cell? ⟨pa, 4, none⟩ = some (.int .i64 a.vx) ∧ y.cell? ⟨pa, 5, none⟩ = some (.int .i64 a.vy) ∧ y.cell? ⟨pa, 6, none⟩ = some (.int .i64 a.age) ∧ y.cell? ⟨pa, 7, none⟩ = some (.int .i64 a.m0) ∧ y.cell? ⟨pa, 8, none⟩ = some (.int .i64 a.m1) ∧ y.cell? ⟨pa, 9, none⟩ = some (.int .i64 a.m2) ∧ y.cell? ⟨pa, 10, none⟩ = some (.int .i64 a.m3) ∧ y.cell? ⟨pa, 11, none⟩ = some (.int .i64 a.f) ∧ y.cell? ⟨bk, o + j, none⟩ = some (.int .i64 v)) := fun y hT => by
      have o := (only_drew W1).trans hT
      obtain ⟨c0, c1, c2, c3, c4, c5, c6, c7, c8, c9, c10, c11⟩ := (H1.out.1.one.only o (by simp)).all
      refine ⟨c0, c1, c2, c3, c4, c5, c6, c7, c8, c9, c10, c11, ?_⟩
      rw [o.cell (lt_of_cell H1.out.2) (by simp)]
      exact H1.out.2
    obtain ⟨p, hp⟩ : ∃ p, Body.push a v (IntKind.i64.wrap (v.tdiv 3)) = p := ⟨_, rfl⟩
    have HP : Hid _ := hp
    clear hp
    refine wp_region_free 11 (Only []) (Only.refl []) Only.trans [(2, .slice (some ⟨bk, o, none⟩) n cap), (7, .pointer (some ⟨pa, 0, none⟩)), (9, .int .i64 j)] (by intro p hp; simp only [List.mem_cons, List.not_mem_nil, or_false] at hp; rcases hp with rfl | rfl | rfl <;> rfl) (by kernel_rfl) (by kernel_rfl) (by decide) (by kernel_rfl) (by kernel_rfl) ?_
    simp only [List.take_succ_cons, List.take_zero, List.drop_succ_cons, List.drop_zero]
    repeat (
      apply rf_val
      · first | rfl | exact ⟨by kernel_rfl, rfl⟩
      · intro z y hT hf
        obtain ⟨c0, c1, c2, c3, c4, c5, c6, c7, c8, c9, c10, c11, cv⟩ := FA.out y hT
        simp at hf
        go_simp
        try rfl)
    refine rf_eff (fun _ v => v = p.v) (by first | rfl | exact ⟨by kernel_rfl, rfl⟩) (fun _ _ _ _ h => h) (fun z y hT hf => ?_) ?_
    · simp at hf
      go_simp
      refine (push_any a _ _ _).mono ?_
      rintro e y2 ⟨rfl, o⟩
      rw [HP.out]
      exact ⟨_, rfl, rfl, o⟩
    intro W2 hy
    simp only [FinA, Sp.R, forall_eq]
    have H2 : Hid (Round w W2 pa pw a a) := H1.out.1.then ((only_drew W1).trans hy)
    clear hy FA H1
    simp only [Act.put, List.setIfInBounds_toArray, List.set_cons_succ, List.set_cons_zero]
    have HK : Hid (Pushed a p) := by rw [Body.push_yes HS.out] at HP; exact pushed_ok HS.out HP.out
    clear HP HS
    obtain ⟨c0, c1, c2, c3, c4, c5, c6, c7, c8, c9, c10, c11⟩ := H2.out.one.all
    have fz := H2.out.one.frozen
    go_upto_region 12 with fail
    have H3 : Hid (Round w (putB W2 pa p) pa pw p a) := H2.out.turn p
    change Code.wp _ _ _ _ (putB W2 pa p)
    generalize putB W2 pa p = W3 at *
    clear H2 fz c0 c1 c2 c3 c4 c5 c6 c7 c8 c9 c10 c11
    obtain ⟨c0, c1, c2, c3, c4, c5, c6, c7, c8, c9, c10, c11⟩ := H3.out.one.all
    go_wp2_with fail
    clear c0 c1 c2 c3 c4 c5 c6 c7 c8 c9 c10 c11
    have RP : Hid ((p == Body.zero || Body.some p) = true) := Body.right_of HK.out.some
    refine (move_any p _).mono ?_
    rintro e W4 ⟨rfl, o4⟩
    have H4 : Hid (Round w W4 pa pw p a) := H3.out.then o4
    clear o4 H3
    rcases moved HK.out.some with ⟨hk, x, y, vx, vy, g, hE, hS⟩ | ⟨hk, hE⟩ | ⟨hk, g, hg40, hE, hS⟩
    · have E : Hid _ := hE
      have KK : Hid _ := hk
      clear hk
      have SM : Hid _ := hS
      clear hE hS
      have RM : Hid (((⟨1, p.o, x, y, vx, vy, g, p.m0, p.m1, p.m2, p.m3, p.f⟩ : Bd) == Body.zero || Body.some ⟨1, p.o, x, y, vx, vy, g, p.m0, p.m1, p.m2, p.m3, p.f⟩) = true) := Body.right_of SM.out
      rw [E.out]
      have H5 : Hid (Round w (al W4 ⟨1, p.o, x, y, vx, vy, g, p.m0, p.m1, p.m2, p.m3, p.f⟩) pa pw p a ∧ Bl (al W4 ⟨1, p.o, x, y, vx, vy, g, p.m0, p.m1, p.m2, p.m3, p.f⟩) W4.heap.size ⟨1, p.o, x, y, vx, vy, g, p.m0, p.m1, p.m2, p.m3, p.f⟩ ∧ pa < W4.heap.size ∧ pw < W4.heap.size) := ⟨H4.out.then ((Only.refl [] _).alloc _), Bl.new ⟨1, p.o, x, y, vx, vy, g, p.m0, p.m1, p.m2, p.m3, p.f⟩ _ _, H4.out.one.lt, H4.out.was.lt⟩
      clear H4
      obtain ⟨c0, c1, c2, c3, c4, c5, c6, c7, c8, c9, c10, c11⟩ := H5.out.1.one.all
      go_upto_region 13 with fail
      change Code.wp _ _ _ _ (al W4 ⟨1, p.o, x, y, vx, vy, g, p.m0, p.m1, p.m2, p.m3, p.f⟩)
      generalize al W4 ⟨1, p.o, x, y, vx, vy, g, p.m0, p.m1, p.m2, p.m3, p.f⟩ = W5 at *
      generalize W4.heap.size = pm at *
      go_wp2_with fail
      clear c0 c1 c2 c3 c4 c5 c6 c7 c8 c9 c10 c11
      refine (right_any p _).mono ?_
      rintro e W6 ⟨rfl, o6⟩
      rw [RP.out]
      have H6 : Hid (Round w W6 pa pw p a ∧ Bl W6 pm ⟨1, p.o, x, y, vx, vy, g, p.m0, p.m1, p.m2, p.m3, p.f⟩ ∧ pa < pm ∧ pw < pm) := ⟨H5.out.1.then o6, H5.out.2.1.only o6 (by simp), H5.out.2.2⟩
      clear o6 H5
      obtain ⟨f0, f1, f2, f3, f4, f5, f6, f7, f8, f9, f10, f11⟩ := H6.out.2.1.all
      dsimp only [Body.zero] at f0 f1 f2 f3 f4 f5 f6 f7 f8 f9 f10 f11
      go_wp2_with fail
      clear f0 f1 f2 f3 f4 f5 f6 f7 f8 f9 f10 f11
      refine (right_any ⟨1, p.o, x, y, vx, vy, g, p.m0, p.m1, p.m2, p.m3, p.f⟩ _).mono ?_
      rintro e W7 ⟨rfl, o7⟩
      rw [RM.out]
      have H7 : Hid (Round w W7 pa pw p a ∧ Bl W7 pm ⟨1, p.o, x, y, vx, vy, g, p.m0, p.m1, p.m2, p.m3, p.f⟩ ∧ pa < pm ∧ pw < pm) := ⟨H6.out.1.then o7, H6.out.2.1.only o7 (by simp), H6.out.2.2⟩
      clear o7 H6
      obtain ⟨c0, c1, c2, c3, c4, c5, c6, c7, c8, c9, c10, c11⟩ := H7.out.1.one.all
      obtain ⟨e0, e1, e2, e3, e4, e5, e6, e7, e8, e9, e10, e11⟩ := H7.out.1.was.all
      obtain ⟨f0, f1, f2, f3, f4, f5, f6, f7, f8, f9, f10, f11⟩ := H7.out.2.1.all
      dsimp only [Body.zero] at f0 f1 f2 f3 f4 f5 f6 f7 f8 f9 f10 f11
      rw [← HK.out.k, KK.out] at e0
      rw [← HK.out.o] at e1
      rw [← HK.out.m0] at e7
      rw [← HK.out.m1] at e8
      rw [← HK.out.m2] at e9
      rw [← HK.out.m3] at e10
      rw [KK.out] at c0
      have fz := H7.out.1.one.frozen
      have nm := neq_mem p.m0 p.m1 p.m2 p.m3
      go_wp2_with fail
      go_roundg (50 - (j + 1) + 1)
      case measure => omega
      case rel =>
        refine ⟨j + 1, by go_num, by omega, by omega, ⟨1, p.o, x, y, vx, vy, g, p.m0, p.m1, p.m2, p.m3, p.f⟩, RM.out, ?_⟩
        exact ⟨(H7.out.1.turn ⟨1, p.o, x, y, vx, vy, g, p.m0, p.m1, p.m2, p.m3, p.f⟩).one, (H7.out.1.turn ⟨1, p.o, x, y, vx, vy, g, p.m0, p.m1, p.m2, p.m3, p.f⟩).only, H7.out.1.le⟩
    · have E : Hid _ := hE
      have KK : Hid _ := hk
      clear hk
      clear hE
      have RM : Hid (((Body.zero : Bd) == Body.zero || Body.some Body.zero) = true) := (rfl : (Body.zero == Body.zero || Body.some Body.zero) = true)
      rw [E.out]
      have H5 : Hid (Round w (al W4 Body.zero) pa pw p a ∧ Bl (al W4 Body.zero) W4.heap.size Body.zero ∧ pa < W4.heap.size ∧ pw < W4.heap.size) := ⟨H4.out.then ((Only.refl [] _).alloc _), Bl.new Body.zero _ _, H4.out.one.lt, H4.out.was.lt⟩
      clear H4
      obtain ⟨c0, c1, c2, c3, c4, c5, c6, c7, c8, c9, c10, c11⟩ := H5.out.1.one.all
      go_upto_region 13 with fail
      change Code.wp _ _ _ _ (al W4 Body.zero)
      generalize al W4 Body.zero = W5 at *
      generalize W4.heap.size = pm at *
      go_wp2_with fail
      clear c0 c1 c2 c3 c4 c5 c6 c7 c8 c9 c10 c11
      refine (right_any p _).mono ?_
      rintro e W6 ⟨rfl, o6⟩
      rw [RP.out]
      have H6 : Hid (Round w W6 pa pw p a ∧ Bl W6 pm Body.zero ∧ pa < pm ∧ pw < pm) := ⟨H5.out.1.then o6, H5.out.2.1.only o6 (by simp), H5.out.2.2⟩
      clear o6 H5
      obtain ⟨f0, f1, f2, f3, f4, f5, f6, f7, f8, f9, f10, f11⟩ := H6.out.2.1.all
      dsimp only [Body.zero] at f0 f1 f2 f3 f4 f5 f6 f7 f8 f9 f10 f11
      go_wp2_with fail
      clear f0 f1 f2 f3 f4 f5 f6 f7 f8 f9 f10 f11
      refine (right_any Body.zero _).mono ?_
      rintro e W7 ⟨rfl, o7⟩
      rw [RM.out]
      have H7 : Hid (Round w W7 pa pw p a ∧ Bl W7 pm Body.zero ∧ pa < pm ∧ pw < pm) := ⟨H6.out.1.then o7, H6.out.2.1.only o7 (by simp), H6.out.2.2⟩
      clear o7 H6
      obtain ⟨c0, c1, c2, c3, c4, c5, c6, c7, c8, c9, c10, c11⟩ := H7.out.1.one.all
      obtain ⟨e0, e1, e2, e3, e4, e5, e6, e7, e8, e9, e10, e11⟩ := H7.out.1.was.all
      obtain ⟨f0, f1, f2, f3, f4, f5, f6, f7, f8, f9, f10, f11⟩ := H7.out.2.1.all
      dsimp only [Body.zero] at f0 f1 f2 f3 f4 f5 f6 f7 f8 f9 f10 f11
      rw [← HK.out.k, KK.out] at e0
      rw [← HK.out.o] at e1
      rw [← HK.out.m0] at e7
      rw [← HK.out.m1] at e8
      rw [← HK.out.m2] at e9
      rw [← HK.out.m3] at e10
      rw [KK.out] at c0
      have fz := H7.out.1.one.frozen
      have nm := neq_mem p.m0 p.m1 p.m2 p.m3
      go_wp2_with fail
      go_roundg (50 - (j + 1) + 1)
      case measure => omega
      case rel =>
        refine ⟨j + 1, by go_num, by omega, by omega, Body.zero, RM.out, ?_⟩
        exact ⟨(H7.out.1.turn Body.zero).one, (H7.out.1.turn Body.zero).only, H7.out.1.le⟩
    · have E : Hid _ := hE
      have KK : Hid _ := hk
      clear hk
      have SM : Hid _ := hS
      clear hE hS
      have RM : Hid (((⟨2, p.o, p.x + p.vx, p.y + p.vy, p.vx, p.vy, g, p.m0, p.m1, p.m2, p.m3, p.f⟩ : Bd) == Body.zero || Body.some ⟨2, p.o, p.x + p.vx, p.y + p.vy, p.vx, p.vy, g, p.m0, p.m1, p.m2, p.m3, p.f⟩) = true) := Body.right_of SM.out
      rw [E.out]
      have H5 : Hid (Round w (al W4 ⟨2, p.o, p.x + p.vx, p.y + p.vy, p.vx, p.vy, g, p.m0, p.m1, p.m2, p.m3, p.f⟩) pa pw p a ∧ Bl (al W4 ⟨2, p.o, p.x + p.vx, p.y + p.vy, p.vx, p.vy, g, p.m0, p.m1, p.m2, p.m3, p.f⟩) W4.heap.size ⟨2, p.o, p.x + p.vx, p.y + p.vy, p.vx, p.vy, g, p.m0, p.m1, p.m2, p.m3, p.f⟩ ∧ pa < W4.heap.size ∧ pw < W4.heap.size) := ⟨H4.out.then ((Only.refl [] _).alloc _), Bl.new ⟨2, p.o, p.x + p.vx, p.y + p.vy, p.vx, p.vy, g, p.m0, p.m1, p.m2, p.m3, p.f⟩ _ _, H4.out.one.lt, H4.out.was.lt⟩
      clear H4
      obtain ⟨c0, c1, c2, c3, c4, c5, c6, c7, c8, c9, c10, c11⟩ := H5.out.1.one.all
      go_upto_region 13 with fail
      change Code.wp _ _ _ _ (al W4 ⟨2, p.o, p.x + p.vx, p.y + p.vy, p.vx, p.vy, g, p.m0, p.m1, p.m2, p.m3, p.f⟩)
      generalize al W4 ⟨2, p.o, p.x + p.vx, p.y + p.vy, p.vx, p.vy, g, p.m0, p.m1, p.m2, p.m3, p.f⟩ = W5 at *
      generalize W4.heap.size = pm at *
      go_wp2_with fail
      clear c0 c1 c2 c3 c4 c5 c6 c7 c8 c9 c10 c11
      refine (right_any p _).mono ?_
      rintro e W6 ⟨rfl, o6⟩
      rw [RP.out]
      have H6 : Hid (Round w W6 pa pw p a ∧ Bl W6 pm ⟨2, p.o, p.x + p.vx, p.y + p.vy, p.vx, p.vy, g, p.m0, p.m1, p.m2, p.m3, p.f⟩ ∧ pa < pm ∧ pw < pm) := ⟨H5.out.1.then o6, H5.out.2.1.only o6 (by simp), H5.out.2.2⟩
      clear o6 H5
      obtain ⟨f0, f1, f2, f3, f4, f5, f6, f7, f8, f9, f10, f11⟩ := H6.out.2.1.all
      dsimp only [Body.zero] at f0 f1 f2 f3 f4 f5 f6 f7 f8 f9 f10 f11
      go_wp2_with fail
      clear f0 f1 f2 f3 f4 f5 f6 f7 f8 f9 f10 f11
      refine (right_any ⟨2, p.o, p.x + p.vx, p.y + p.vy, p.vx, p.vy, g, p.m0, p.m1, p.m2, p.m3, p.f⟩ _).mono ?_
      rintro e W7 ⟨rfl, o7⟩
      rw [RM.out]
      have H7 : Hid (Round w W7 pa pw p a ∧ Bl W7 pm ⟨2, p.o, p.x + p.vx, p.y + p.vy, p.vx, p.vy, g, p.m0, p.m1, p.m2, p.m3, p.f⟩ ∧ pa < pm ∧ pw < pm) := ⟨H6.out.1.then o7, H6.out.2.1.only o7 (by simp), H6.out.2.2⟩
      clear o7 H6
      obtain ⟨c0, c1, c2, c3, c4, c5, c6, c7, c8, c9, c10, c11⟩ := H7.out.1.one.all
      obtain ⟨e0, e1, e2, e3, e4, e5, e6, e7, e8, e9, e10, e11⟩ := H7.out.1.was.all
      obtain ⟨f0, f1, f2, f3, f4, f5, f6, f7, f8, f9, f10, f11⟩ := H7.out.2.1.all
      dsimp only [Body.zero] at f0 f1 f2 f3 f4 f5 f6 f7 f8 f9 f10 f11
      rw [← HK.out.k, KK.out] at e0
      rw [← HK.out.o] at e1
      rw [← HK.out.m0] at e7
      rw [← HK.out.m1] at e8
      rw [← HK.out.m2] at e9
      rw [← HK.out.m3] at e10
      rw [KK.out] at c0
      have fz := H7.out.1.one.frozen
      have nm := neq_mem p.m0 p.m1 p.m2 p.m3
      obtain ⟨v1, v2⟩ := ((Body.some_iff p).1 HK.out.some).x
      obtain ⟨v3, v4⟩ := ((Body.some_iff p).1 HK.out.some).y
      obtain ⟨v5, v6⟩ := ((Body.some_iff p).1 HK.out.some).vx
      obtain ⟨v7, v8⟩ := ((Body.some_iff p).1 HK.out.some).vy
      go_wp2_with fail
      go_roundg (50 - (j + 1) + 1)
      case measure => omega
      case rel =>
        refine ⟨j + 1, by go_num, by omega, by omega, ⟨2, p.o, p.x + p.vx, p.y + p.vy, p.vx, p.vy, g, p.m0, p.m1, p.m2, p.m3, p.f⟩, RM.out, ?_⟩
        exact ⟨(H7.out.1.turn ⟨2, p.o, p.x + p.vx, p.y + p.vy, p.vx, p.vy, g, p.m0, p.m1, p.m2, p.m3, p.f⟩).one, (H7.out.1.turn ⟨2, p.o, p.x + p.vx, p.y + p.vy, p.vx, p.vy, g, p.m0, p.m1, p.m2, p.m3, p.f⟩).only, H7.out.1.le⟩
set_option maxRecDepth 100000 in
theorem lifted (os : Os) (started : os.Started) (H : Type) (enc : TypeId × Value → H) :
    ReturnsInHanded {} Try.checked os 3 .any (Rows.bodyStaysSpec.pre6 enc Try.prog Try.f3 Rows.bodyStaysRow.domain false) (Rows.bodyStaysSpec.post enc Try.prog Try.f3 false true false false) := by
  refine returnsInHanded_of_change (C := Try.checked) own started (by kernel_rfl) Try.func3
    (ChangeSpec.witness6 (enc := enc) (C := Try.checked) false ⟨#[], #[.agg #[.int .i64 0, .int .i64 0, .int .i64 0, .int .i64 0, .int .i64 0, .int .i64 0, .int .i64 0, .int .i64 0, .int .i64 0, .int .i64 0], .agg #[.int .i64 0, .int .i64 0, .int .i64 0, .int .i64 0, .int .i64 0, .int .i64 0, .int .i64 0, .int .i64 0, .int .i64 0, .int .i64 0], .slice none 0 0], []⟩ 8 (by kernel_rfl) (by kernel_rfl) (by kernel_rfl) (by kernel_rfl)) ?_
  intro W base args ds gs before hval0 hW hcnd _
  have hval : ∀ (j : Nat) t v, Try.f3.params[j]? = some t → args[j]? = some v → Value.okWide Try.prog W .any base t v := hval0
  have hW' := hW
  obtain ⟨p, q, hA0, hV, rfl, hfz, hnd⟩ := hW
  have hA : DataW.TrodAll enc Try.prog W 0 (fun _ => true) true Try.f3.params.toList args.toList ds p := hA0
  rw [Try.params3] at hA hval
  obtain ⟨v0, vs0, d0, ds0, p0, q0, hargs, rfl, rfl, h0, r0⟩ := trodAll_cons hA
  obtain ⟨v1, vs1, d1, ds1, p1, q1, rfl, rfl, rfl, h1, r1⟩ := trodAll_cons r0
  obtain ⟨v2, vs2, d2, ds2, p2, q2, rfl, rfl, rfl, h2, r2⟩ := trodAll_cons r1
  obtain ⟨rfl, rfl, rfl⟩ := trodAll_nil r2
  obtain rfl : args = #[v0, v1, v2] := by cases args; simp_all
  obtain ⟨rfl, rfl⟩ := trodVars_none hV
  have k0 := h0
  have lt0 : ∀ x ∈ p0, x.block < W.heap.size := by obtain ⟨m, hm⟩ := k0; exact DataW.trod_lt m _ _ _ hm
  obtain ⟨a0, rfl⟩ := came_ten Try.underlying23 (by kernel_rfl) (by kernel_rfl) Try.underlying3 (hval 0 23 v0 rfl rfl)
  have k1 := h1
  have lt1 : ∀ x ∈ p1, x.block < W.heap.size := by obtain ⟨m, hm⟩ := k1; exact DataW.trod_lt m _ _ _ hm
  obtain ⟨a1, rfl⟩ := came_ten Try.underlying23 (by kernel_rfl) (by kernel_rfl) Try.underlying3 (hval 1 23 v1 rfl rfl)
  obtain ⟨e2, len2, cap2, rfl⟩ := okWide_slice Try.underlying24 (hval 2 24 v2 rfl rfl)
  have k2 := h2
  have lt2 : ∀ x ∈ p2, x.block < W.heap.size := by obtain ⟨m, hm⟩ := k2; exact DataW.trod_lt m _ _ _ hm
  obtain ⟨a2, w2⟩ := came_i Try.underlying24 Try.underlying3 (by kernel_rfl) h2
  clear hA0 hval0
  refine (walk a0 a1 _ a2 W w2).mono fun e W' ⟨he, bel⟩ => ?_
  subst he
  exact ⟨_, rfl, _, _, _, [], _, [], hW', trodAll_mk1 (shut_bool Try.underlying4 _), (trodAll_cons_mk (Below.trod laidOut (by kernel_rfl) (of_decide_eq_true (by kernel_rfl)) k0 bel lt0) (trodAll_cons_mk (Below.trod laidOut (by kernel_rfl) (of_decide_eq_true (by kernel_rfl)) k1 bel lt1) (trodAll_cons_mk (Below.trod laidOut (by kernel_rfl) (of_decide_eq_true (by kernel_rfl)) k2 bel lt2) trodAll_mk0))), rfl, bel.frame _, fun h => by cases h⟩

theorem over : Rows.bodyStaysRow.holds Try.pinned (OpenSpec.ofChange Rows.bodyStaysSpec) :=
  OpenClaim.holds_of_wide 3 Try.f3 rfl rfl rfl rfl rfl rfl rfl ⟨rfl, rfl, rfl, rfl, rfl⟩ rfl rfl rfl rfl rfl (by kernel_rfl) Try.func3 (by kernel_rfl)
    (of_decide_eq_true (by kernel_rfl)) (by unfold Func.isWrapper; first | (rw [if_pos (by decide +kernel)]; kernel_rfl) | (rw [if_neg (by decide +kernel)]; exact ⟨rfl, rfl⟩))
    (fun os started H enc _ => lifted os started H enc)

/-- THE STATEMENT -/
theorem proved : Rows.BodyStaysSaid := over
end Go.Proofs.Ytpbckiijmoellaa.bodyStays

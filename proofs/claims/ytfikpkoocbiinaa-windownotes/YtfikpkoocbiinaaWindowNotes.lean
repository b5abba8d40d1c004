/- Proved: WindowNotes returns true for every input. No condition. -/
import Derived.Test.YtfikpkoocbiinaaWinK
import Derived.Test.YtfikpkoocbiinaaRefWinB
import Derived.Test.YtfikpkoocbiinaaRegBy3
import Derived.Test.YtfikpkoocbiinaaPick
import Derived.Test.YtfikpkoocbiinaaFrame
import Derived.Deep.LoopGhost
namespace Go.Proofs.Ytfikpkoocbiinaa.windowNotes
open Go.ChangeShapes Go.WideShapes Go.ChangeAt Go.RowKit
set_option linter.unusedVariables false

theorem near_any (b n : Int) (w : World) : Calls Try.prog 14 #[.int .i64 b, .int .i64 n] w fun e w' => (∃ z, e = .returned (.int .i64 z)) ∧ w = w' := by
  by_cases h : n.tmod 17 = 16
  · go_enter Try.func14, Try.ntmps14
    go_wp2
    go_ret
    exact ⟨⟨_, rfl⟩, rfl⟩
  · have h2 : (n.tmod 17 == 16) = false := by simpa using h
    go_enter Try.func14, Try.ntmps14
    go_wp2
    go_ret
    exact ⟨⟨_, rfl⟩, rfl⟩
def ZW : List Value := .bool false :: .int .i64 0 :: (List.replicate 65 false).map Value.bool
/-- where both have noted the same -/
structure St (w : World) (B b : Nat) (y : World) (s : Win.S) (r : Win.R) : Prop where
  wn : Wn y B s
  rw : Rw y b r
  same : Win.Same s r
  only : Only [] w y
/-- how memory goes on, within the region -/
def T (B b : Nat) (s : Win.S) (r : Win.R) (x y : World) : Prop := Only [B, b] x y ∧ (Wn x B s → Wn y B s) ∧ (Rw x b r → Rw y b r)
theorem T.refl {B b : Nat} {s : Win.S} {r : Win.R} (x : World) : T B b s r x x := ⟨Only.refl _ _, id, id⟩
theorem T.trans {B b : Nat} {s : Win.S} {r : Win.R} {x y z : World} (h : T B b s r x y) (k : T B b s r y z) : T B b s r x z := ⟨h.1.trans k.1, k.2.1 ∘ h.2.1, k.2.2 ∘ h.2.2⟩

/-- what both answer, once they have noted -/
structure Facts (B b : Nat) (s : Win.S) (r : Win.R) (z : Int) (s' : Win.S) (r' : Win.R) (c : Int) (A : Bool) (L : Int) (X : Nat) : Prop where
  n1 : ∀ y, Wn y B s → Calls Try.prog 8 #[.pointer (some ⟨B, 0, none⟩), .int .i64 z] y fun e y' => e = .returned (.int .i64 c) ∧ Wn y' B s' ∧ Only [B] y y'
  n2 : ∀ y, Rw y b r → Calls Try.prog 15 #[.pointer (some ⟨b, 0, none⟩), .int .i64 z] y fun e y' => e = .returned (.int .i64 c) ∧ Rw y' b r' ∧ Only [b] y y'
  a1 : ∀ y, Wn y B s' → Calls Try.prog 7 #[.pointer (some ⟨B, 0, none⟩)] y fun e y' => e = .returned (.bool A) ∧ y' = y
  a2 : ∀ y, Rw y b r' → y.cell? ⟨b, 0, none⟩ = some (.bool A)
  l1 : ∀ y, Wn y B s' → Calls Try.prog 11 #[.pointer (some ⟨B, 0, none⟩)] y fun e y' => e = .returned (.int .i64 L) ∧ y' = y
  l2 : ∀ y, Rw y b r' → y.cell? ⟨b, 1, none⟩ = some (.int .i64 L)
  b1 : ∀ y, Wn y B s' → Calls Try.prog 9 #[.pointer (some ⟨B, 0, none⟩)] y fun e y' => e = .returned (.int .u64 X) ∧ y' = y
  b2 : ∀ y, Rw y b r' → Calls Try.prog 16 #[.pointer (some ⟨b, 0, none⟩)] y fun e y' => e = .returned (.int .u64 X) ∧ y' = y
  same : Win.Same s' r'
theorem held_all {c : Value} {p : Prop} {K : Value → Prop} : (∀ v, v = c ∧ p → K v) ↔ (p → K c) := ⟨fun h hp => h c ⟨rfl, hp⟩, fun h v ⟨e, hp⟩ => e ▸ h hp⟩
theorem facts (B b : Nat) (s : Win.S) (r : Win.R) (z : Int) (h : Win.Same s r) : ∃ s' r' c A L X, Facts B b s r z s' r' c A L X := by
  have k := h.note z
  refine ⟨(s.note z).1, (r.note z).1, (s.note z).2, (s.note z).1.any, (s.note z).1.last, (s.note z).1.bits, ?_⟩
  refine ⟨fun y hy => (note_any B s z y hy).mono fun e y' ⟨h1, h2, h3, _⟩ => ⟨h1, h2, h3⟩, fun y hy => ?_, fun y hy => any_any B _ y hy, fun y hy => ?_, fun y hy => last_any B _ y hy, fun y hy => ?_, fun y hy => bits_any B _ y hy, fun y hy => rbits_any b _ _ k.1 y hy, k.1⟩
  · have := rnote_any b r h.len z y hy
    unfold RNotePost at this
    rw [← k.2] at this
    exact this
  · rw [k.1.any]; exact Blk.cell hy 0
  · rw [k.1.last]; exact Blk.cell hy 1

set_option maxRecDepth 100000 in
set_option maxHeartbeats 4000000 in
theorem walk (a0 : Int) (s1 : Value) (a1 : List Int) (w : World) (w0 : (Lit.int .i64 a0).wf = true) (w1 : CameI .i64 w s1 a1) :
    Calls Try.prog 4 #[.int .i64 a0, s1] w fun e w' => e = .returned (.bool true) ∧ Below w.heap.size w w' := by
  obtain ⟨ao, cap, rfl, hcap, hcm, _, hcl⟩ := w1
  have HC : Hid (∀ i, i < a1.length → ∃ b o, ao = some ⟨b, o, none⟩ ∧ b < w.heap.size ∧ w.cell? ⟨b, o + i, none⟩ = some (.int .i64 (a1.getD i 0))) := fun i hi => by
    rcases hcl with h | ⟨b, o, h1, h2, h3⟩
    · rw [h] at hi; simp at hi
    · exact ⟨b, o, h1, h2, h3 i hi⟩
  clear hcl
  have m0 : a1.length ≤ 9223372036854775807 := by simp only [maxLen] at hcm; omega
  clear hcm
  generalize hn : a1.length = n at *
  clear hn w0
  go_enter Try.func4, Try.ntmps4
  go_upto_region 2 with fail
  obtain ⟨x0, e0⟩ : ∃ x0, x0 = w.alloc (.cells #[.bool false, .int .i64 0, .int .u64 0] 24) := ⟨_, rfl⟩
  have H0 : Hid (Wn x0 w.heap.size Win.none ∧ Only [] w x0 ∧ x0.heap.size = w.heap.size + 1) := ⟨e0 ▸ Wn.new _ _, e0 ▸ (Only.refl _ _).alloc _, by rw [e0]; simp⟩
  rw [← e0]
  clear e0
  apply wp_region_lit
  refine op_val (w' := x0) rfl (.agg ZW.toArray) (by kernel_rfl) ?_
  refine op_val (w' := x0.alloc (.cells ZW.toArray 34)) rfl (.pointer (some ⟨x0.heap.size, 0, none⟩)) (by kernel_rfl) ?_
  obtain ⟨x1, e1⟩ : ∃ x1, x1 = x0.alloc (.cells ZW.toArray 34) := ⟨_, rfl⟩
  obtain ⟨b, hb⟩ : ∃ b, x0.heap.size = b := ⟨_, rfl⟩
  have H1 : Hid (St w w.heap.size b x1 Win.none Win.R.none) := by
    have o1 : Only [] x0 x1 := e1 ▸ (Only.refl _ _).alloc _
    refine ⟨H0.out.1.only o1 (by simp), ?_, Win.Same.none, H0.out.2.1.trans o1⟩
    rw [← hb, e1]
    exact Blk.new x0 _ _
  rw [← e1, hb]
  have lb : w.heap.size + 1 = b := by have := H0.out.2.2; omega
  clear e1 H0 hb
  obtain ⟨B, hB⟩ : ∃ B, w.heap.size = B := ⟨_, rfl⟩
  rw [hB] at H1 lb ⊢
  go_wp2_with fail
  refine (pick_any _ _ (by omega) (by omega) _).mono ?_
  rintro e w' ⟨rfl, rfl⟩
  go_wp2_with fail
  generalize a0 % 70000 = b0
  go_loopg [0, 7] 61 (fun gk vb vi wr => ∃ (k : Nat) (s : Win.S) (r : Win.R) (β : Int), vb = .int .i64 β ∧ vi = .int .i64 k ∧ k ≤ 60 ∧ k ≤ n ∧ 61 - k ≤ gk ∧ Hid (St w B b wr s r))
  case atStart => exact ⟨0, _, _, _, rfl, rfl, by omega, by omega, by omega, H1.out⟩
  case round =>
    obtain ⟨k, s, r, β, rfl, rfl, hk, hkn, hg, HR⟩ := hrel
    by_cases c1 : k < n
    · by_cases c2 : k < 60
      · have z1 : (k : Int) < (n : Int) := by omega
        have z2 : (k : Int) < 60 := by omega
        obtain ⟨bb, o0, rfl, lbb, hc⟩ := HC.out k c1
        have hcell : wr.cell? ⟨bb, o0 + k, none⟩ = some (.int .i64 (a1.getD k 0)) := (HR.out.only.cell lbb (by simp)).trans hc
        clear hc HC
        generalize a1.getD k 0 = x at hcell
        go_wp2_with fail
        refine (pick_any _ _ (by omega) (by omega) _).mono ?_
        rintro e w' ⟨rfl, rfl⟩
        go_wp2_with fail
        refine (near_any _ _ _).mono ?_
        rintro e w' ⟨⟨z, rfl⟩, rfl⟩
        go_wp2_with fail
        obtain ⟨s', r', c, A, L, X, F0⟩ := facts B b s r z HR.out.same
        have F : Hid _ := F0
        clear F0
        have D : Hid (St w B b wr.drew s r) := ⟨HR.out.wn.only (only_drew _) (by simp), HR.out.rw.only (only_drew _) (by simp), HR.out.same, HR.out.only.drew⟩
        obtain ⟨I, iu, iw, is⟩ : ∃ I : World → Prop, (∀ y, I y → Wn y B s' ∧ Rw y b r') ∧ (∀ y, Wn y B s' → Rw y b r' → I y) ∧ ∀ y y', T B b s' r' y y' → I y → I y' :=
          ⟨fun y => Wn y B s' ∧ Rw y b r', fun _ h => h, fun _ h1 h2 => ⟨h1, h2⟩, fun _ _ t h => ⟨t.2.1 h.1, t.2.2 h.2⟩⟩
        have IU : Hid _ := iu
        have IW : Hid _ := iw
        have IS : Hid _ := is
        clear iu iw is
        refine wp_region_by (T B b s' r') T.refl T.trans [(5, .pointer (some ⟨B, 0, none⟩)), (6, .pointer (some ⟨b, 0, none⟩)), (8, .int .i64 z)] (by intro p hp; simp only [List.mem_cons, List.not_mem_nil, or_false] at hp; rcases hp with rfl | rfl | rfl <;> rfl) (by kernel_rfl) (by kernel_rfl) (fun y => Wn y B s ∧ Rw y b r) ⟨D.out.wn, D.out.rw⟩ ?_
        apply rb_val
        · first | rfl | exact ⟨by kernel_rfl, rfl⟩
        · intro a y hT hf
          simp at hf
          go_simp
          try rfl
        refine rb_call (fun y v => v = .int .i64 c ∧ Wn y B s') (fun y => Rw y b r) (by first | rfl | exact ⟨by kernel_rfl, rfl⟩) (by kernel_rfl) (fun y y' v t h => ⟨h.1, t.2.1 h.2⟩) (fun a y hJ hT hf => ?_) ?_
        · simp at hf
          go_simp
          refine (F.out.n1 y hJ.1).mono ?_
          rintro e y' ⟨rfl, h1, h2⟩
          exact ⟨_, rfl, ⟨rfl, h1⟩, hJ.2.only h2 (by simp; omega), h2.weaken (by simp), fun _ => h1, fun h => h.only h2 (by simp; omega)⟩
        apply rb_val
        · first | rfl | exact ⟨by kernel_rfl, rfl⟩
        · intro a y hT hf
          simp at hf
          go_simp
          try rfl
        apply rb_val
        · first | rfl | exact ⟨by kernel_rfl, rfl⟩
        · intro a y hT hf
          simp at hf
          go_simp
          try rfl
        refine rb_call (fun y v => v = .int .i64 c ∧ Rw y b r') (fun y => True) (by first | rfl | exact ⟨by kernel_rfl, rfl⟩) (by kernel_rfl) (fun y y' v t h => ⟨h.1, t.2.2 h.2⟩) (fun a y hJ hT hf => ?_) ?_
        · simp at hf
          go_simp
          refine (F.out.n2 y hJ).mono ?_
          rintro e y' ⟨rfl, h1, h2⟩
          exact ⟨_, rfl, ⟨rfl, h1⟩, h2.weaken (by simp), fun h => h.only h2 (by simp; omega), fun _ => h1⟩
        -- held
        refine rb_held (.bool false) I (by first | rfl | exact ⟨by kernel_rfl, rfl⟩) IS.out (fun a y hT hf => ?_) ?_
        · simp at hf
          have hI : I y := IW.out y (by first | exact hf.1 | exact hf.2 | exact hf.2.1 | exact hf.2.1.2 | exact hf.2.2 | exact hf.2.2.1 | exact hf.2.2.2 | exact hf.2.2.2.1 | exact hf.2.2.2.2 | exact hf.2.2.2.2.1 | exact hf.2.2.2.2.2) (by first | exact hf.1 | exact hf.2 | exact hf.2.1 | exact hf.2.1.2 | exact hf.2.2 | exact hf.2.2.1 | exact hf.2.2.2 | exact hf.2.2.2.1 | exact hf.2.2.2.2 | exact hf.2.2.2.2.1 | exact hf.2.2.2.2.2)
          go_simp
          try exact hI
        refine rb_held (.bool false) I (by first | rfl | exact ⟨by kernel_rfl, rfl⟩) IS.out (fun a y hT hf => ?_) ?_
        · simp at hf
          have hI : I y := by first | exact hf.1 | exact hf.2 | exact hf.2.1 | exact hf.2.1.2 | exact hf.2.2 | exact hf.2.2.1 | exact hf.2.2.2 | exact hf.2.2.2.1 | exact hf.2.2.2.2 | exact hf.2.2.2.2.1 | exact hf.2.2.2.2.2
          go_simp
          try exact hI
        refine rb_held (.bool A) I (by first | rfl | exact ⟨by kernel_rfl, rfl⟩) IS.out (fun a y hT hf => ?_) ?_
        · simp at hf
          have hI : I y := by first | exact hf.1 | exact hf.2 | exact hf.2.1 | exact hf.2.1.2 | exact hf.2.2 | exact hf.2.2.1 | exact hf.2.2.2 | exact hf.2.2.2.1 | exact hf.2.2.2.2 | exact hf.2.2.2.2.1 | exact hf.2.2.2.2.2
          go_simp
          first | exact ⟨hI, F.out.a1 y (IU.out y hI).1⟩ | exact F.out.a1 y (IU.out y hI).1
        refine rb_held (.pointer (some ⟨b, 0, none⟩)) I (by first | rfl | exact ⟨by kernel_rfl, rfl⟩) IS.out (fun a y hT hf => ?_) ?_
        · simp at hf
          have hI : I y := by first | exact hf.1 | exact hf.2 | exact hf.2.1 | exact hf.2.1.2 | exact hf.2.2 | exact hf.2.2.1 | exact hf.2.2.2 | exact hf.2.2.2.1 | exact hf.2.2.2.2 | exact hf.2.2.2.2.1 | exact hf.2.2.2.2.2
          go_simp
          try exact hI
        refine rb_held (.pointer (some ⟨b, 0, none⟩)) I (by first | rfl | exact ⟨by kernel_rfl, rfl⟩) IS.out (fun a y hT hf => ?_) ?_
        · simp at hf
          have hI : I y := by first | exact hf.1 | exact hf.2 | exact hf.2.1 | exact hf.2.1.2 | exact hf.2.2 | exact hf.2.2.1 | exact hf.2.2.2 | exact hf.2.2.2.1 | exact hf.2.2.2.2 | exact hf.2.2.2.2.1 | exact hf.2.2.2.2.2
          go_simp
          try exact hI
        refine rb_held (.pointer (some ⟨b, 0, none⟩)) I (by first | rfl | exact ⟨by kernel_rfl, rfl⟩) IS.out (fun a y hT hf => ?_) ?_
        · simp at hf
          have hI : I y := by first | exact hf.1 | exact hf.2 | exact hf.2.1 | exact hf.2.1.2 | exact hf.2.2 | exact hf.2.2.1 | exact hf.2.2.2 | exact hf.2.2.2.1 | exact hf.2.2.2.2 | exact hf.2.2.2.2.1 | exact hf.2.2.2.2.2
          go_simp
          try exact hI
        refine rb_held (.bool A) I (by first | rfl | exact ⟨by kernel_rfl, rfl⟩) IS.out (fun a y hT hf => ?_) ?_
        · simp at hf
          have hI : I y := by first | exact hf.1 | exact hf.2 | exact hf.2.1 | exact hf.2.1.2 | exact hf.2.2 | exact hf.2.2.1 | exact hf.2.2.2 | exact hf.2.2.2.1 | exact hf.2.2.2.2 | exact hf.2.2.2.2.1 | exact hf.2.2.2.2.2
          have ca := F.out.a2 y (IU.out y hI).2
          go_simp
          try exact hI
        refine rb_held (.bool false) I (by first | rfl | exact ⟨by kernel_rfl, rfl⟩) IS.out (fun a y hT hf => ?_) ?_
        · simp at hf
          have hI : I y := by first | exact hf.1 | exact hf.2 | exact hf.2.1 | exact hf.2.1.2 | exact hf.2.2 | exact hf.2.2.1 | exact hf.2.2.2 | exact hf.2.2.2.1 | exact hf.2.2.2.2 | exact hf.2.2.2.2.1 | exact hf.2.2.2.2.2
          go_simp
          try exact hI
        refine rb_held (.bool false) I (by first | rfl | exact ⟨by kernel_rfl, rfl⟩) IS.out (fun a y hT hf => ?_) ?_
        · simp at hf
          have hI : I y := by first | exact hf.1 | exact hf.2 | exact hf.2.1 | exact hf.2.1.2 | exact hf.2.2 | exact hf.2.2.1 | exact hf.2.2.2 | exact hf.2.2.2.1 | exact hf.2.2.2.2 | exact hf.2.2.2.2.1 | exact hf.2.2.2.2.2
          go_simp
          try exact hI
        refine rb_held (.bool false) I (by first | rfl | exact ⟨by kernel_rfl, rfl⟩) IS.out (fun a y hT hf => ?_) ?_
        · simp at hf
          have hI : I y := by first | exact hf.1 | exact hf.2 | exact hf.2.1 | exact hf.2.1.2 | exact hf.2.2 | exact hf.2.2.1 | exact hf.2.2.2 | exact hf.2.2.2.1 | exact hf.2.2.2.2 | exact hf.2.2.2.2.1 | exact hf.2.2.2.2.2
          go_simp
          try exact hI
        refine rb_held (.int .i64 L) I (by first | rfl | exact ⟨by kernel_rfl, rfl⟩) IS.out (fun a y hT hf => ?_) ?_
        · simp at hf
          have hI : I y := by first | exact hf.1 | exact hf.2 | exact hf.2.1 | exact hf.2.1.2 | exact hf.2.2 | exact hf.2.2.1 | exact hf.2.2.2 | exact hf.2.2.2.1 | exact hf.2.2.2.2 | exact hf.2.2.2.2.1 | exact hf.2.2.2.2.2
          go_simp
          first | exact ⟨hI, F.out.l1 y (IU.out y hI).1⟩ | exact F.out.l1 y (IU.out y hI).1
        refine rb_held (.pointer (some ⟨b, 0, none⟩)) I (by first | rfl | exact ⟨by kernel_rfl, rfl⟩) IS.out (fun a y hT hf => ?_) ?_
        · simp at hf
          have hI : I y := by first | exact hf.1 | exact hf.2 | exact hf.2.1 | exact hf.2.1.2 | exact hf.2.2 | exact hf.2.2.1 | exact hf.2.2.2 | exact hf.2.2.2.1 | exact hf.2.2.2.2 | exact hf.2.2.2.2.1 | exact hf.2.2.2.2.2
          go_simp
          try exact hI
        refine rb_held (.pointer (some ⟨b, 0, none⟩)) I (by first | rfl | exact ⟨by kernel_rfl, rfl⟩) IS.out (fun a y hT hf => ?_) ?_
        · simp at hf
          have hI : I y := by first | exact hf.1 | exact hf.2 | exact hf.2.1 | exact hf.2.1.2 | exact hf.2.2 | exact hf.2.2.1 | exact hf.2.2.2 | exact hf.2.2.2.1 | exact hf.2.2.2.2 | exact hf.2.2.2.2.1 | exact hf.2.2.2.2.2
          go_simp
          try exact hI
        refine rb_held (.pointer (some ⟨b, 1, none⟩)) I (by first | rfl | exact ⟨by kernel_rfl, rfl⟩) IS.out (fun a y hT hf => ?_) ?_
        · simp at hf
          have hI : I y := by first | exact hf.1 | exact hf.2 | exact hf.2.1 | exact hf.2.1.2 | exact hf.2.2 | exact hf.2.2.1 | exact hf.2.2.2 | exact hf.2.2.2.1 | exact hf.2.2.2.2 | exact hf.2.2.2.2.1 | exact hf.2.2.2.2.2
          go_simp
          try exact hI
        refine rb_held (.int .i64 L) I (by first | rfl | exact ⟨by kernel_rfl, rfl⟩) IS.out (fun a y hT hf => ?_) ?_
        · simp at hf
          have hI : I y := by first | exact hf.1 | exact hf.2 | exact hf.2.1 | exact hf.2.1.2 | exact hf.2.2 | exact hf.2.2.1 | exact hf.2.2.2 | exact hf.2.2.2.1 | exact hf.2.2.2.2 | exact hf.2.2.2.2.1 | exact hf.2.2.2.2.2
          have cl := F.out.l2 y (IU.out y hI).2
          go_simp
          try exact hI
        refine rb_held (.bool false) I (by first | rfl | exact ⟨by kernel_rfl, rfl⟩) IS.out (fun a y hT hf => ?_) ?_
        · simp at hf
          have hI : I y := by first | exact hf.1 | exact hf.2 | exact hf.2.1 | exact hf.2.1.2 | exact hf.2.2 | exact hf.2.2.1 | exact hf.2.2.2 | exact hf.2.2.2.1 | exact hf.2.2.2.2 | exact hf.2.2.2.2.1 | exact hf.2.2.2.2.2
          go_simp
          try exact hI
        refine rb_held (.bool false) I (by first | rfl | exact ⟨by kernel_rfl, rfl⟩) IS.out (fun a y hT hf => ?_) ?_
        · simp at hf
          have hI : I y := by first | exact hf.1 | exact hf.2 | exact hf.2.1 | exact hf.2.1.2 | exact hf.2.2 | exact hf.2.2.1 | exact hf.2.2.2 | exact hf.2.2.2.1 | exact hf.2.2.2.2 | exact hf.2.2.2.2.1 | exact hf.2.2.2.2.2
          go_simp
          try exact hI
        refine rb_held (.bool false) I (by first | rfl | exact ⟨by kernel_rfl, rfl⟩) IS.out (fun a y hT hf => ?_) ?_
        · simp at hf
          have hI : I y := by first | exact hf.1 | exact hf.2 | exact hf.2.1 | exact hf.2.1.2 | exact hf.2.2 | exact hf.2.2.1 | exact hf.2.2.2 | exact hf.2.2.2.1 | exact hf.2.2.2.2 | exact hf.2.2.2.2.1 | exact hf.2.2.2.2.2
          go_simp
          try exact hI
        refine rb_held (.int .u64 X) I (by first | rfl | exact ⟨by kernel_rfl, rfl⟩) IS.out (fun a y hT hf => ?_) ?_
        · simp at hf
          have hI : I y := by first | exact hf.1 | exact hf.2 | exact hf.2.1 | exact hf.2.1.2 | exact hf.2.2 | exact hf.2.2.1 | exact hf.2.2.2 | exact hf.2.2.2.1 | exact hf.2.2.2.2 | exact hf.2.2.2.2.1 | exact hf.2.2.2.2.2
          go_simp
          first | exact ⟨hI, F.out.b1 y (IU.out y hI).1⟩ | exact F.out.b1 y (IU.out y hI).1
        refine rb_held (.pointer (some ⟨b, 0, none⟩)) I (by first | rfl | exact ⟨by kernel_rfl, rfl⟩) IS.out (fun a y hT hf => ?_) ?_
        · simp at hf
          have hI : I y := by first | exact hf.1 | exact hf.2 | exact hf.2.1 | exact hf.2.1.2 | exact hf.2.2 | exact hf.2.2.1 | exact hf.2.2.2 | exact hf.2.2.2.1 | exact hf.2.2.2.2 | exact hf.2.2.2.2.1 | exact hf.2.2.2.2.2
          go_simp
          try exact hI
        refine rb_held (.int .u64 X) I (by first | rfl | exact ⟨by kernel_rfl, rfl⟩) IS.out (fun a y hT hf => ?_) ?_
        · simp at hf
          have hI : I y := by first | exact hf.1 | exact hf.2 | exact hf.2.1 | exact hf.2.1.2 | exact hf.2.2 | exact hf.2.2.1 | exact hf.2.2.2 | exact hf.2.2.2.1 | exact hf.2.2.2.2 | exact hf.2.2.2.2.1 | exact hf.2.2.2.2.2
          go_simp
          first | exact ⟨hI, F.out.b2 y (IU.out y hI).2⟩ | exact F.out.b2 y (IU.out y hI).2
        refine rb_held (.bool false) I (by first | rfl | exact ⟨by kernel_rfl, rfl⟩) IS.out (fun a y hT hf => ?_) ?_
        · simp at hf
          have hI : I y := by first | exact hf.1 | exact hf.2 | exact hf.2.1 | exact hf.2.1.2 | exact hf.2.2 | exact hf.2.2.1 | exact hf.2.2.2 | exact hf.2.2.2.1 | exact hf.2.2.2.2 | exact hf.2.2.2.2.1 | exact hf.2.2.2.2.2
          go_simp
          try exact hI
        refine rb_held (.bool false) I (by first | rfl | exact ⟨by kernel_rfl, rfl⟩) IS.out (fun a y hT hf => ?_) ?_
        · simp at hf
          have hI : I y := by first | exact hf.1 | exact hf.2 | exact hf.2.1 | exact hf.2.1.2 | exact hf.2.2 | exact hf.2.2.1 | exact hf.2.2.2 | exact hf.2.2.2.1 | exact hf.2.2.2.2 | exact hf.2.2.2.2.1 | exact hf.2.2.2.2.2
          go_simp
          try exact hI
        intro y hJ hy
        simp only [FinA, Sp.R, forall_eq, held_all]
        intro wN rN i0
        have E : Hid (St w B b y s' r') := ⟨wN, rN, F.out.same, D.out.only.then hy.1 (by simp; omega)⟩
        clear wN rN i0
        intros
        simp only [Act.put, List.setIfInBounds_toArray, List.set_cons_succ, List.set_cons_zero]
        go_wp2_with fail
        go_roundg (60 - k)
        case measure => omega
        case rel => exact ⟨k + 1, s', r', _, rfl, rfl, by omega, by omega, by omega, E.out⟩
      · have z1 : (k : Int) < (n : Int) := by omega
        have z2 : ¬ (k : Int) < 60 := by omega
        go_wp2_with fail
        refine (known_any _).mono ?_
        rintro e x2 ⟨rfl, o2⟩
        go_wp2_with fail
        go_ret
        exact ⟨rfl, (HR.out.only.trans o2).below (by omega) (by simp)⟩
    · have z1 : ¬ (k : Int) < (n : Int) := by omega
      go_wp2_with fail
      refine (known_any _).mono ?_
      rintro e x2 ⟨rfl, o2⟩
      go_wp2_with fail
      go_ret
      exact ⟨rfl, (HR.out.only.trans o2).below (by omega) (by simp)⟩

set_option maxRecDepth 100000 in
theorem lifted (os : Os) (started : os.Started) (H : Type) (enc : TypeId × Value → H) :
    ReturnsInHanded {} Try.checked os 4 .any (Rows.windowNotesSpec.pre6 enc Try.prog Try.f4 Rows.windowNotesRow.domain false) (Rows.windowNotesSpec.post enc Try.prog Try.f4 false true false false) := by
  refine returnsInHanded_of_change (C := Try.checked) own started (by kernel_rfl) Try.func4
    (ChangeSpec.witness6 (enc := enc) (C := Try.checked) false ⟨#[], #[.int .i64 0, .slice none 0 0], []⟩ 8 (by kernel_rfl) (by kernel_rfl) (by kernel_rfl) (by kernel_rfl)) ?_
  intro W base args ds gs before hval0 hW hcnd _
  have hval : ∀ (j : Nat) t v, Try.f4.params[j]? = some t → args[j]? = some v → Value.okWide Try.prog W .any base t v := hval0
  have hW' := hW
  obtain ⟨p, q, hA0, hV, rfl, hfz, hnd⟩ := hW
  have hA : DataW.TrodAll enc Try.prog W 0 (fun _ => true) true Try.f4.params.toList args.toList ds p := hA0
  rw [Try.params4] at hA hval
  obtain ⟨v0, vs0, d0, ds0, p0, q0, hargs, rfl, rfl, h0, r0⟩ := trodAll_cons hA
  obtain ⟨v1, vs1, d1, ds1, p1, q1, rfl, rfl, rfl, h1, r1⟩ := trodAll_cons r0
  obtain ⟨rfl, rfl, rfl⟩ := trodAll_nil r1
  obtain rfl : args = #[v0, v1] := by cases args; simp_all
  obtain ⟨rfl, rfl⟩ := trodVars_none hV
  obtain ⟨a0, rfl, rfl, rfl, w0⟩ := open_int Try.underlying3 (hval 0 3 v0 rfl rfl) h0
  obtain ⟨e1, len1, cap1, rfl⟩ := okWide_slice Try.underlying30 (hval 1 30 v1 rfl rfl)
  have k1 := h1
  have lt1 : ∀ x ∈ p1, x.block < W.heap.size := by obtain ⟨m, hm⟩ := k1; exact DataW.trod_lt m _ _ _ hm
  obtain ⟨a1, w1⟩ := came_i Try.underlying30 Try.underlying3 (by kernel_rfl) h1
  clear hA0 hval0
  refine (walk a0 _ a1 W w0 w1).mono fun e W' ⟨he, bel⟩ => ?_
  subst he
  exact ⟨_, rfl, _, _, _, [], _, [], hW', trodAll_mk1 (shut_bool Try.underlying4 _), (trodAll_cons_mk (shut_int Try.underlying3 w0) (trodAll_cons_mk (Below.trod laidOut (by kernel_rfl) (of_decide_eq_true (by kernel_rfl)) k1 bel lt1) trodAll_mk0)), rfl, bel.frame _, fun h => by cases h⟩

theorem over : Rows.windowNotesRow.holds Try.pinned (OpenSpec.ofChange Rows.windowNotesSpec) :=
  OpenClaim.holds_of_wide 4 Try.f4 rfl rfl rfl rfl rfl rfl rfl ⟨rfl, rfl, rfl, rfl, rfl⟩ rfl rfl rfl rfl rfl (by kernel_rfl) Try.func4 (by kernel_rfl)
    (of_decide_eq_true (by kernel_rfl)) (by unfold Func.isWrapper; first | (rw [if_pos (by decide +kernel)]; kernel_rfl) | (rw [if_neg (by decide +kernel)]; exact ⟨rfl, rfl⟩))
    (fun os started H enc _ => lifted os started H enc)

/-- THE STATEMENT -/
theorem proved : Rows.WindowNotesSaid := over
end Go.Proofs.Ytfikpkoocbiinaa.windowNotes

/- Package rule: the law's same. -/
import Derived.Test.YtfeloiodebjolaaRuleQ
import Derived.Deep.LoopGhost
namespace Go.Proofs.Ytfeloiodebjolaa
open Go.RowKit
set_option linter.unusedVariables false

/-- what same answers -/
def Ev.same (x y : Ev) : Bool := x.b == y.b && (x.t == y.t && (x.ix == y.ix && x.iy == y.iy)) && x.d == y.d && x.room == y.room && x.sh == y.sh
theorem Ev.same_iff (x y : Ev) : Ev.same x y = true ↔ x = y := by
  obtain ⟨b, t, ix, iy, d, r, s⟩ := x
  obtain ⟨b', t', ix', iy', d', r', s'⟩ := y
  simp only [Ev.same, Bool.and_eq_true, beq_iff_eq, Ev.mk.injEq]
  constructor
  · rintro ⟨⟨⟨⟨h1, h2, h3, h4⟩, h5⟩, h6⟩, h7⟩; exact ⟨h1, h2, h3, h4, h5, h6, h7⟩
  · rintro ⟨h1, h2, h3, h4, h5, h6, h7⟩; exact ⟨⟨⟨⟨h1, h2, h3, h4⟩, h5⟩, h6⟩, h7⟩
theorem Ev.same_self (x : Ev) : Ev.same x x = true := (Ev.same_iff x x).2 rfl
structure Held (B1 B2 : Nat) (w W : World) (q : Nat) (x y : Ev) (s t : Value) : Prop where
  one : Eb W q x s
  two : Eb W (q + 1) y t
  row1 : SR B1 W s x.sh
  row2 : SR B2 W t y.sh
  only : Only [] w W
theorem Held.then {B1 B2 q : Nat} {w W W' : World} {x y : Ev} {s t : Value} (h : Held B1 B2 w W q x y s t) (o : Only [] W W') : Held B1 B2 w W' q x y s t :=
  ⟨h.one.only o (by simp), h.two.only o (by simp), h.row1.only o (by simp), h.row2.only o (by simp), h.only.trans o⟩
theorem held_start {B1 B2 : Nat} {w : World} {x y : Ev} {s t : Value} (h1 : SR B1 w s x.sh) (h2 : SR B2 w t y.sh) :
    Held B1 B2 w ((w.alloc (.cells (x.cells s).toArray 39)).alloc (.cells (y.cells t).toArray 39)) w.heap.size x y s t := by
  have o : Only [] w ((w.alloc (.cells (x.cells s).toArray 39)).alloc (.cells (y.cells t).toArray 39)) := ((Only.refl [] w).alloc _).alloc _
  exact ⟨(Eb.new x s w _).only ((Only.refl [] _).alloc _) (by simp), Eb.newAt y t (by simp) _, h1.only o (by simp), h2.only o (by simp), o⟩

set_option maxRecDepth 100000 in
set_option maxHeartbeats 4000000 in
theorem same_any {B1 B2 : Nat} {w : World} (x y : Ev) {s t : Value} (h1 : SR B1 w s x.sh) (h2 : SR B2 w t y.sh) (l1 : x.sh.length ≤ 1000000) (l2 : y.sh.length ≤ 1000000) : Calls Try.prog 9 #[x.v s, y.v t] w fun r w' => r = .returned (.bool (Ev.same x y)) ∧ Only [] w w' := by
  have hnot : ∀ (x : Bool) (w : World), (Op.unary .not (.bool x)).run Try.prog w = .ok (.bool (!x)) w := fun _ _ => rfl
  have H0 : Hid (Held B1 B2 w ((w.alloc (.cells (x.cells s).toArray 39)).alloc (.cells (y.cells t).toArray 39)) w.heap.size x y s t) := held_start h1 h2
  obtain ⟨a1, c1, hs, _⟩ := h1.form
  obtain ⟨a2, c2, ht, _⟩ := h2.form
  subst hs ht
  clear h1 h2
  obtain ⟨R, hR⟩ : ∃ R, Ev.same x y = R := ⟨_, rfl⟩
  have HR : Hid _ := hR
  rw [hR]
  clear hR
  obtain ⟨q1, e1⟩ : ∃ q, (x.b != y.b) = q := ⟨_, rfl⟩
  have nb := neq_bd x.b y.b
  rw [e1] at nb
  obtain ⟨q2, e2⟩ : ∃ q, (!(x.t == y.t && (x.ix == y.ix && x.iy == y.iy))) = q := ⟨_, rfl⟩
  have ni := neq_in x.t x.ix x.iy y.t y.ix y.iy
  rw [e2] at ni
  have SB : Hid (R = (!q1 && !q2 && x.d == y.d && x.room == y.room && x.sh == y.sh)) := by
    show R = _
    rw [← HR.out, ← e1, ← e2]
    simp [Ev.same, bne]
  clear e1 e2 HR
  cases q1
  rotate_left
  · have hR : R = false := by rw [SB.out]; rfl
    subst hR
    clear SB
    go_enter Try.func9, Try.ntmps9
    go_wp2_with fail
    go_ret
    exact ⟨rfl, H0.out.only⟩
  cases q2
  rotate_left
  · have hR : R = false := by rw [SB.out]; simp
    subst hR
    clear SB
    go_enter Try.func9, Try.ntmps9
    go_wp2_with fail
    go_ret
    exact ⟨rfl, H0.out.only⟩
  by_cases hd : x.d = y.d
  rotate_left
  · have hd2 : (x.d != y.d) = true := by simpa using hd
    have hR : R = false := by rw [SB.out]; simp [hd]
    subst hR
    clear SB
    go_enter Try.func9, Try.ntmps9
    go_wp2_with fail
    go_ret
    exact ⟨rfl, H0.out.only⟩
  have hd2 : (x.d != y.d) = false := by simpa using hd
  by_cases hr : x.room = y.room
  rotate_left
  · have hr2 : (x.room != y.room) = true := by simpa using hr
    have hR : R = false := by rw [SB.out]; simp [hr]
    subst hR
    clear SB hd
    go_enter Try.func9, Try.ntmps9
    go_wp2_with fail
    go_ret
    exact ⟨rfl, H0.out.only⟩
  have hr2 : (x.room != y.room) = false := by simpa using hr
  have SB2 : Hid (R = (x.sh == y.sh)) := by
    show R = _
    rw [SB.out, hd, hr]; simp
  clear SB hd hr
  by_cases hl : x.sh.length = y.sh.length
  rotate_left
  · have hl2 : (((x.sh.length : Nat) : Int) != ((y.sh.length : Nat) : Int)) = true := by simp; omega
    have hR : R = false := by rw [SB2.out]; simp; intro e; exact hl (by rw [e])
    subst hR
    clear SB2 hl
    go_enter Try.func9, Try.ntmps9
    go_wp2_with fail
    go_ret
    exact ⟨rfl, H0.out.only⟩
  have HL : Hid _ := hl
  obtain ⟨n, hn⟩ : ∃ n, x.sh.length = n := ⟨_, rfl⟩
  have HN : Hid _ := hn
  have hn2 : y.sh.length = n := by rw [← hl]; exact hn
  have HN2 : Hid _ := hn2
  simp only [hn, hn2] at H0 l1 ⊢
  clear hl hn hn2 l2
  have hnn : (((n : Nat) : Int) != ((n : Nat) : Int)) = false := by simp
  go_enter Try.func9, Try.ntmps9
  go_wp2_with fail
  change Code.wp _ _ _ _ ((w.alloc (.cells (x.cells (.slice a1 n c1)).toArray 39)).alloc (.cells (y.cells (.slice a2 n c2)).toArray 39))
  generalize ((w.alloc (.cells (x.cells (.slice a1 n c1)).toArray 39)).alloc (.cells (y.cells (.slice a2 n c2)).toArray 39)) = W at *
  generalize w.heap.size = q at *
  clear nb ni hd2 hr2 hnn
  go_loopg [44] (n + 1) (fun gk vi wr => ∃ i : Nat, vi = .int .i64 i ∧ i ≤ n ∧ n + 1 - i ≤ gk ∧ Hid (Held B1 B2 w wr q x y (.slice a1 n c1) (.slice a2 n c2) ∧ ∀ j, j < i → x.sh.getD j Body.zero = y.sh.getD j Body.zero))
  case atStart => exact ⟨0, rfl, by omega, by omega, H0.out, fun j hj => by omega⟩
  case round =>
    clear H0
    obtain ⟨i, rfl, hin, hg, HH⟩ := hrel
    by_cases hlt : i < n
    rotate_left
    · have hi : i = n := by omega
      have hRR : R = true := by
        rw [SB2.out]
        have : x.sh = y.sh := by
          refine List.ext_getElem HL.out fun j h1 h2 => ?_
          have hj := HH.out.2 j (by rw [hi, ← HN.out]; exact h1)
          simpa [List.getD_eq_getElem?_getD, h1, h2] using hj
        simp [this]
      subst hRR
      have z1 : ¬ (i : Int) < (n : Int) := by omega
      go_wp2_with fail
      go_ret
      exact ⟨rfl, HH.out.1.only⟩
    have z0 : (0 : Int) ≤ (i : Int) := by omega
    have z1 : (i : Int) < (n : Int) := by omega
    obtain ⟨g1, ha1, -⟩ := HH.out.1.row1.at_ i (by rw [HN.out]; exact hlt)
    obtain ⟨g2, ha2, -⟩ := HH.out.1.row2.at_ i (by rw [HN2.out]; exact hlt)
    subst ha1 ha2
    obtain ⟨b1, hb1⟩ : ∃ b, x.sh.getD i Body.zero = b := ⟨_, rfl⟩
    obtain ⟨b2, hb2⟩ : ∃ b, y.sh.getD i Body.zero = b := ⟨_, rfl⟩
    have FA : Hid (∀ z, Only [] wr.drew z → Held B1 B2 w z q x y (.slice (some ⟨g1, 0, none⟩) n c1) (.slice (some ⟨g2, 0, none⟩) n c2) ∧ (∀ j v, b1.cells[j]? = some v → z.cell? ⟨g1, i * 12 + j, none⟩ = some v) ∧ (∀ j v, b2.cells[j]? = some v → z.cell? ⟨g2, i * 12 + j, none⟩ = some v)) := by
      show ∀ z, _ → _
      intro z hz
      have hh := HH.out.1.then ((only_drew wr).trans hz)
      refine ⟨hh, ?_, ?_⟩
      · obtain ⟨g, e, _, hc⟩ := hh.row1.at_ i (by rw [HN.out]; exact hlt)
        injection e with e; injection e with e; subst e; rw [hb1] at hc; exact hc
      · obtain ⟨g, e, _, hc⟩ := hh.row2.at_ i (by rw [HN2.out]; exact hlt)
        injection e with e; injection e with e; subst e; rw [hb2] at hc; exact hc
    have H2 : Hid (∀ j, j < i → x.sh.getD j Body.zero = y.sh.getD j Body.zero) := HH.out.2
    have HO : Hid (Held B1 B2 w wr q x y (.slice (some ⟨g1, 0, none⟩) n c1) (.slice (some ⟨g2, 0, none⟩) n c2)) := HH.out.1
    clear HH
    have ib : (Try.prog.info? 34).map (·.size) = some 12 := by kernel_rfl
    have HB1 : Hid _ := hb1
    have HB2 : Hid _ := hb2
    clear hb1 hb2
    go_wp2_with fail
    refine wp_region_free 11 (Only []) (Only.refl _) Only.trans [(2, .pointer (some ⟨q, 0, none⟩)), (3, .pointer (some ⟨q + 1, 0, none⟩)), (5, .int .i64 i)] (by intro p hp; simp only [List.mem_cons, List.not_mem_nil, or_false] at hp; rcases hp with rfl | rfl | rfl <;> rfl) (by kernel_rfl) (by kernel_rfl) (by decide) (by kernel_rfl) (by kernel_rfl) ?_
    simp only [List.take_succ_cons, List.take_zero, List.drop_succ_cons, List.drop_zero]
    iterate 4 (
      apply rf_val
      · first | rfl | exact ⟨by kernel_rfl, rfl⟩
      · intro z v hT hf
        have c17 : v.cell? ⟨q, 17, none⟩ = some (.slice (some ⟨g1, 0, none⟩) n c1) := (FA.out v hT).1.one.blk.cell 17
        simp at hf
        go_simp
        try rfl)
    refine rf_val b1.v (by first | rfl | exact ⟨by kernel_rfl, rfl⟩) (fun z v hT hf => ?_) ?_
    · have e50 : z.eval (.tmp 50) = .pointer (some ⟨g1, i * 12, none⟩) := by simp at hf; simpa [Act.eval] using hf.2
      exact exec_loads 34 (.tmp 50) rfl e50 Try.underlying34 ib (FA.out v hT).2.1
    iterate 4 (
      apply rf_val
      · first | rfl | exact ⟨by kernel_rfl, rfl⟩
      · intro z v hT hf
        have c17 : v.cell? ⟨q + 1, 17, none⟩ = some (.slice (some ⟨g2, 0, none⟩) n c2) := (FA.out v hT).1.two.blk.cell 17
        simp at hf
        go_simp
        try rfl)
    refine rf_val b2.v (by first | rfl | exact ⟨by kernel_rfl, rfl⟩) (fun z v hT hf => ?_) ?_
    · have e55 : z.eval (.tmp 55) = .pointer (some ⟨g2, i * 12, none⟩) := by simp at hf; simpa [Act.eval] using hf.2
      exact exec_loads 34 (.tmp 55) rfl e55 Try.underlying34 ib (FA.out v hT).2.2
    obtain ⟨k, hk⟩ : ∃ k, (b1 != b2) = k := ⟨_, rfl⟩
    have nb := neq_bd b1 b2
    rw [hk] at nb
    have HK : Hid _ := hk
    clear hk
    refine rf_val (.bool k) (by first | rfl | exact ⟨by kernel_rfl, rfl⟩) (fun z v hT hf => ?_) ?_
    · have e51 : z.eval (.tmp 51) = b1.v := by simp at hf; simpa [Act.eval] using hf.2.1
      have e56 : z.eval (.tmp 56) = b2.v := by simp at hf; simpa [Act.eval] using hf.2.2
      have eg : (eqGuard BinOp.neq 34 (.tmp 51) (.tmp 56) b1.v b2.v).run Try.prog v = .ok () v := by kernel_rfl
      simp only [execOp, e51, e56, Sem.run_bind, eg, nb v, Result.andThen_ok, Sem.run_pure]
    intro w2 hy
    simp only [FinA, Sp.R, forall_eq]
    simp only [Act.put, List.setIfInBounds_toArray, List.set_cons_succ, List.set_cons_zero]
    have H8 : Hid (Held B1 B2 w w2 q x y (.slice (some ⟨g1, 0, none⟩) n c1) (.slice (some ⟨g2, 0, none⟩) n c2)) := (FA.out w2 hy).1
    clear hy FA HO nb
    cases k
    · go_wp2_with fail
      go_roundg (n - i)
      case measure => omega
      case rel =>
        refine ⟨i + 1, by go_num, by omega, by omega, H8.out, fun j hj => ?_⟩
        rcases Nat.lt_or_ge j i with h | h
        · exact H2.out j h
        · have : j = i := by omega
          subst this
          rw [HB1.out, HB2.out]
          have := HK.out
          simpa using this
    · have hRR : R = false := by
        rw [SB2.out]
        have := HK.out
        simp only [beq_eq_false_iff_ne]
        intro e
        rw [← HB1.out, ← HB2.out, e] at this
        simp at this
      subst hRR
      go_wp2_with fail
      go_ret
      exact ⟨rfl, H8.out.only⟩
end Go.Proofs.Ytfeloiodebjolaa

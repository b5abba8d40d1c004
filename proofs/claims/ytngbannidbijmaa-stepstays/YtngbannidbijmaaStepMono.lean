/- Package step: scores and faults never fall. -/
import Derived.Test.YtngbannidbijmaaStepPl
namespace Go.Proofs.Ytngbannidbijmaa
open Go.RowKit
set_option linter.unusedVariables false

namespace Step
theorem play_f {pl : Int} (l : List Op3) {b : Bd} (i : Inp) (m : M) (h : Body.some b = true) : b.f ≤ (play l b i m).1.f := by
  obtain ⟨p1, p2, p3⟩ := push_ok h (i.x.tdiv 16) (i.y.tdiv 16)
  have K := (Body.some_iff b).1 h
  unfold play
  rcases run_cases l (envp b i m.d ((free m.bs : Int) - (m.sh.length : Int))) p1 with ⟨c, a, e⟩ | ⟨e', e, K'⟩
  · rw [e]
    show b.f ≤ (if b.f + 1 ≤ 65535 then b.f + 1 else 65535)
    have := K.f
    split <;> omega
  · rw [e]
    show b.f ≤ e'.b.f
    rw [K'.f]
    show b.f ≤ (Body.push b (i.x.tdiv 16) (i.y.tdiv 16)).f
    rw [Body.push_yes h]
    exact Int.le_refl _
theorem move_f {b : Bd} (h : Body.some b = true) (k : b.k = 1) : (Body.move b).1.f = b.f := by
  rw [Body.move_player h k]; rfl
theorem moves_f {pl : Int} (l : List Op3) (row : List Cl) {was : List Bd} (d : Int) (g : Good pl was) {j : Nat} (hj : (j : Int) < pl) (hj16 : j < 16) : ∀ n, n ≤ 16 → (was.getD j Body.zero).f ≤ ((moves l row was d n).bs.getD j Body.zero).f := by
  intro n
  induction n with
  | zero => intro _; exact Int.le_refl _
  | succ n ih =>
    intro hn
    have I := mInv l row d g n (by omega)
    have hb := g.all n (by omega)
    have hih := ih (by omega)
    show _ ≤ ((one l row n (was.getD n Body.zero) (moves l row was d n)).bs.getD j Body.zero).f
    generalize moves l row was d n = m at *
    have hl : n < m.bs.length := by rw [I.good.len]; omega
    by_cases e : j = n
    · subst e
      obtain ⟨q1, q2, q3⟩ := hb.player hj
      generalize was.getD j Body.zero = b at *
      unfold one
      rw [if_pos q2]
      have P := played l (pl := pl) (input row b.o) m q1 q2 (by omega)
      have F := play_f (pl := pl) l (input row b.o) m q1
      generalize play l b (input row b.o) m = r at *
      obtain ⟨b', d', sh'⟩ := r
      dsimp only
      rw [getD_set, if_pos ⟨rfl, hl⟩, move_f P.ok P.k]
      exact F
    · generalize was.getD n Body.zero = b at *
      unfold one
      by_cases h1 : b.k = 1
      · rw [if_pos h1]
        generalize play l b (input row b.o) m = r at *
        obtain ⟨b', d', sh'⟩ := r
        dsimp only
        rw [getD_set, if_neg (by omega)]; exact hih
      · rw [if_neg h1]
        dsimp only
        rw [getD_set, if_neg (by omega)]; exact hih
theorem puts_keep {pl : Int} (l : List Bd) {j : Nat} (hj : (j : Int) < pl) : ∀ {bs : List Bd}, Good pl bs → (∀ s ∈ l, Fired pl s) → l.length ≤ free bs → (puts bs l).getD j Body.zero = bs.getD j Body.zero := by
  induction l with
  | nil => intro bs g _ _; rfl
  | cons s l ih =>
    intro bs g hs hl
    rw [List.length_cons] at hl
    have P := put_good g (hs s (by simp)) (by omega)
    obtain ⟨_, _, p3⟩ := place_spec g (by omega)
    rw [puts_cons, ih P.1 (fun x hx => hs x (by simp [hx])) (by rw [P.2]; omega), getD_set, if_neg (by omega)]
theorem hit1_keep {pl : Int} {i : Nat} {h : H} (g : Hi pl h) (h8 : pl ≤ 8) (hi : i < 16) {j : Nat} (hj : (j : Int) < pl) (hj8 : j < 8) : (h.bs.getD j Body.zero).f = ((hit1 pl i h).bs.getD j Body.zero).f ∧ h.sc.getD j 0 ≤ (hit1 pl i h).sc.getD j 0 := by
  unfold hit1
  by_cases h2 : (h.bs.getD i Body.zero).k = 2
  · rw [if_pos h2]
    dsimp only
    by_cases hk : h.bs.findIdx (fun p => Body.hit (h.bs.getD i Body.zero) p) < 16
    · rw [if_pos hk]
      have hl : h.bs.findIdx (fun p => Body.hit (h.bs.getD i Body.zero) p) < h.bs.length := by rw [g.b.len]; exact hk
      have hh := List.findIdx_getElem (p := fun p => Body.hit (h.bs.getD i Body.zero) p) (xs := h.bs) (w := hl)
      generalize h.bs.findIdx (fun p => Body.hit (h.bs.getD i Body.zero) p) = k at *
      have hh2 : Body.hit (h.bs.getD i Body.zero) (h.bs.getD k Body.zero) = true := by
        rw [List.getD_eq_getElem?_getD (l := h.bs) (i := k), List.getElem?_eq_getElem hl]; exact hh
      have q := hits_of g hi hk h2 hh2
      have ni : ¬ (i : Int) < pl := (g.b.all i hi).not_one (by omega)
      unfold struck
      dsimp only
      refine ⟨?_, ?_⟩
      · rw [getD_set, getD_set]
        by_cases e : j = k ∧ k < (h.bs.set i Body.zero).length
        · rw [if_pos e, e.1]
        · rw [if_neg e, if_neg (by omega)]
      · rw [getD_set]
        have := (g.s.all j (by omega)).1
        split
        · rename_i e
          rw [← e.1]
          split <;> omega
        · exact Int.le_refl _
    · rw [if_neg hk]; exact ⟨rfl, Int.le_refl _⟩
  · rw [if_neg h2]; exact ⟨rfl, Int.le_refl _⟩
theorem hits_keep {pl : Int} (h8 : pl ≤ 8) {h : H} (g : Hi pl h) {j : Nat} (hj : (j : Int) < pl) (hj8 : j < 8) : ∀ n, n ≤ 16 → (h.bs.getD j Body.zero).f = ((hits pl n h).bs.getD j Body.zero).f ∧ h.sc.getD j 0 ≤ (hits pl n h).sc.getD j 0 := by
  intro n
  induction n with
  | zero => intro _; exact ⟨rfl, Int.le_refl _⟩
  | succ n ih =>
    intro hn
    obtain ⟨a1, a2⟩ := ih (by omega)
    obtain ⟨b1, b2⟩ := hit1_keep (hits_good h8 n (by omega) h g) h8 (i := n) (by omega) hj hj8
    exact ⟨a1.trans b1, Int.le_trans a2 b2⟩
/-- behind a Step no score and no count of faults is less -/
theorem step_mono {c : Cf} {s : Gs} (h : Ok c s) (row : List Cl) {j : Nat} (hj : (j : Int) < c.pl) : s.sc.getD j 0 ≤ (step c s row).sc.getD j 0 ∧ (s.bs.getD j Body.zero).f ≤ ((step c s row).bs.getD j Body.zero).f := by
  have hr : right c s = true := (right_iff ⟨h.b.len, h.s.len⟩).2 h
  have h8 := h.pl.2
  unfold step
  rw [if_pos hr]
  have I := mInv c.rules row s.d h.b 16 (Nat.le_refl _)
  have MF := moves_f c.rules row s.d h.b hj (by omega) 16 (Nat.le_refl _)
  generalize moves c.rules row s.bs s.d 16 = m at *
  have PK := puts_keep m.sh hj I.good I.shots I.room
  have G : Hi c.pl ⟨puts m.bs m.sh, s.sc⟩ := ⟨puts_good _ I.good I.shots I.room, h.s⟩
  obtain ⟨k1, k2⟩ := hits_keep h8 G hj (by omega) 16 (Nat.le_refl _)
  dsimp only at k1 k2 ⊢
  generalize hits c.pl 16 ⟨puts m.bs m.sh, s.sc⟩ = x at *
  rw [PK] at k1
  exact ⟨k2, by rw [← k1]; exact MF⟩
end Step
end Go.Proofs.Ytngbannidbijmaa

/- Package step: rules that always fault. Package step: rules that leave dice and shots alone: each player goes its own way. -/
import Derived.Test.YtngbannidbijmaaStepPl
namespace Go.Proofs.Ytngbannidbijmaa
open Go.RowKit
set_option linter.unusedVariables false

namespace Step
/-- do they fault, whatever the input, on a body whose first register is 0? -/
def Breaks (l : List Op3) : Prop := ∀ e : Ev, Body.some e.b = true → e.b.m0 = 0 → ∃ c a, Rule.run l e = (e, c, a, false)
theorem breaks_roll (o : Op3) : Breaks [⟨12, 0, 0⟩, ⟨1, 1, 5⟩, ⟨11, 1, 0⟩, o] := fun e h h0 => by
  have key : ∀ k e', e'.b.m0 = 0 → ∃ c a, Rule.go [⟨12, 0, 0⟩, ⟨1, 1, 5⟩, ⟨11, 1, 0⟩, o] (k + 2) 1 e' = .fault c a := fun k e' h' => by
    refine ⟨6, 2, ?_⟩
    rw [Rule.go, if_pos (by simp)]
    simp only [Rule.act]
    simp [Rule.is, Body.btw, Rule.setr]
    rw [Rule.go, if_pos (by simp)]
    simp [Rule.act, Rule.is, Body.btw, Rule.reg, h']
  by_cases hr : (e.sh.length : Int) < e.room
  · obtain ⟨c, a, hk⟩ := key 61 { e with sh := e.sh ++ [Body.shot e.b (Rule.reg e.b 0) (Rule.reg e.b 0)] } h0
    refine ⟨c, a, run_fault h ?_⟩
    rw [Rule.go, if_pos (by simp)]
    simp only [Rule.act]
    simp [Rule.is, Body.btw, hr]
    exact hk
  · refine ⟨7, 0, run_fault h ?_⟩
    rw [Rule.go, if_pos (by simp)]
    simp [Rule.act, Rule.is, Body.btw, hr]
theorem breaks_jump : Breaks [⟨10, 0, 0⟩] := fun e h h0 => by
  have key : ∀ k, Rule.go [⟨10, 0, 0⟩] k 0 e = .fault 5 0 := fun k => by
    induction k with
    | zero => simp [Rule.go]
    | succ k ih =>
      rw [Rule.go, if_pos (by simp)]
      simp only [Rule.act]
      simp [Body.btw]
      exact ih
  exact ⟨5, 0, run_fault h (key 64)⟩
/-- a player behind so many frames -/
def lost (n k i : Nat) : Bd := { plr k (at_ k n) with age := i, f := i }
def lostL (n i : Nat) : List Bd := (List.range 16).map fun k => if k < n then lost n k i else Body.zero
def lostS (c : Cf) (n i : Nat) : Gs := ⟨i, Dice.seed c.sd, lostL n i, List.replicate 8 0⟩
theorem lostL_len (n i : Nat) : (lostL n i).length = 16 := by simp [lostL]
theorem lostL_at (n i k : Nat) (hk : k < 16) : (lostL n i).getD k Body.zero = if k < n then lost n k i else Body.zero := by
  simp [lostL, List.getD_eq_getElem?_getD, hk]
theorem lost_ok {n k i : Nat} (hk : k < n) (hn : n ≤ 8) (hi : i ≤ 600) : Body.some (lost n k i) = true := by
  obtain ⟨a1, a2, _⟩ := at_spec k n hk hn
  have K := (Body.some_iff _).1 (some_plr k (at_ k n) (by omega) (by omega) a1 a2)
  exact (Body.some_iff _).2 ⟨K.k, K.o, K.x, K.y, K.vx, K.vy, by show 0 ≤ (i : Int) ∧ (i : Int) ≤ 600; omega, by show 0 ≤ (i : Int) ∧ (i : Int) ≤ 65535; omega, K.m0, K.m1, K.m2, K.m3⟩
theorem first_lost {c : Cf} {n : Nat} (h : legal c = true) (hn : c.pl = n) : first c = lostS c n 0 := by
  have P := legal_pl h
  unfold first
  rw [if_pos h]
  unfold lostS
  congr 1
  apply List.ext_getElem (by rw [borns_len, lostL_len])
  intro k h1 h2
  rw [borns_len] at h1
  have e1 := borns_at c.pl k h1 16 (Nat.le_refl _)
  have e2 := lostL_at n 0 k h1
  have g1 : (borns c.pl 16).getD k Body.zero = (borns c.pl 16)[k] := by simp [List.getD_eq_getElem?_getD, borns_len, h1]
  have g2 : (lostL n 0).getD k Body.zero = (lostL n 0)[k] := by simp [List.getD_eq_getElem?_getD, lostL_len, h1]
  rw [← g1, ← g2, e1, e2, hn]
  by_cases hk : k < n
  · rw [if_pos ⟨h1, by omega⟩, if_pos hk, born_plr k n hk (by omega)]
    rfl
  · rw [if_neg (by omega), if_neg hk]
theorem lost_move {n k i : Nat} (hk : k < n) (hn : n ≤ 8) (hi : i < 600) : (Body.move (fault (lost n k i))).1 = lost n k (i + 1) := by
  have h1 := lost_ok hk hn (Nat.le_of_lt hi)
  have hf := fault_ok h1
  rw [Body.move_player hf rfl]
  obtain ⟨a1, a2, _⟩ := at_spec k n hk hn
  simp only [Body.kept, Body.fly, fault, lost, Body.bounce, Body.btw, Body.older]
  simp [a1, a2]
  omega
theorem play_lost {l : List Op3} (hl : Breaks l) {b : Bd} (hb : Body.some b = true) (h0 : b.m0 = 0) (i : Inp) (m : M) : play l b i m = (fault b, m.d, m.sh) := by
  obtain ⟨p1, p2, p3⟩ := push_ok hb (i.x.tdiv 16) (i.y.tdiv 16)
  have h2 : (Body.push b (i.x.tdiv 16) (i.y.tdiv 16)).m0 = 0 := by rw [Body.push_yes hb]; exact h0
  obtain ⟨c, a, e⟩ := hl (envp b i m.d ((free m.bs : Int) - (m.sh.length : Int))) p1 h2
  unfold play
  rw [e]
theorem moves_lost {l : List Op3} (hl : Breaks l) (row : List Cl) {n i : Nat} (hn : n ≤ 8) (hi : i < 600) (d : Int) : ∀ j, j ≤ 16 → (moves l row (lostL n i) d j).bs.length = 16 ∧ (moves l row (lostL n i) d j).d = d ∧ (moves l row (lostL n i) d j).sh = [] ∧ ∀ k, k < 16 → (moves l row (lostL n i) d j).bs.getD k Body.zero = if k < j then (lostL n (i + 1)).getD k Body.zero else (lostL n i).getD k Body.zero := by
  intro j
  induction j with
  | zero => intro _; exact ⟨lostL_len _ _, rfl, rfl, fun k _ => by rw [if_neg (by omega)]; rfl⟩
  | succ j ih =>
    intro hj
    obtain ⟨h1, h2, h3, h4⟩ := ih (by omega)
    rw [moves]
    generalize moves l row (lostL n i) d j = m at *
    have hb : (Body.move (if ((lostL n i).getD j Body.zero).k = 1 then fault ((lostL n i).getD j Body.zero) else (lostL n i).getD j Body.zero)).1 = (lostL n (i + 1)).getD j Body.zero := by
      rw [lostL_at n i j (by omega), lostL_at n (i + 1) j (by omega)]
      by_cases hk : j < n
      · rw [if_pos hk, if_pos hk, if_pos (show (lost n j i).k = 1 from rfl), lost_move hk hn hi]
      · rw [if_neg hk, if_neg hk, if_neg (by decide), move_zero]
    have key : one l row j ((lostL n i).getD j Body.zero) m = ⟨m.bs.set j ((lostL n (i + 1)).getD j Body.zero), m.d, m.sh⟩ := by
      unfold one
      by_cases hk : ((lostL n i).getD j Body.zero).k = 1
      · rw [if_pos hk]
        rw [if_pos hk] at hb
        have hjn : j < n := by
          rcases Nat.lt_or_ge j n with h | h
          · exact h
          · rw [lostL_at n i j (by omega), if_neg (by omega)] at hk; exact absurd hk (by decide)
        have hs : Body.some ((lostL n i).getD j Body.zero) = true ∧ ((lostL n i).getD j Body.zero).m0 = 0 := by
          rw [lostL_at n i j (by omega), if_pos hjn]; exact ⟨lost_ok hjn hn (Nat.le_of_lt hi), rfl⟩
        rw [play_lost hl hs.1 hs.2]
        dsimp only
        rw [hb]
      · rw [if_neg hk]
        rw [if_neg hk] at hb
        rw [hb]
    rw [key]
    refine ⟨by simp [h1], h2, h3, fun k hk => ?_⟩
    dsimp only
    rw [getD_set, h4 k hk]
    by_cases e : k = j
    · subst e; rw [if_pos ⟨rfl, by omega⟩, if_pos (by omega)]
    · rw [if_neg (by omega)]
      by_cases g : k < j
      · rw [if_pos g, if_pos (by omega)]
      · rw [if_neg g, if_neg (by omega)]
theorem hits_none (pl : Int) {h : H} (hn : ∀ k, k < 16 → ¬ (h.bs.getD k Body.zero).k = 2) : ∀ n, n ≤ 16 → hits pl n h = h := by
  intro n
  induction n with
  | zero => intro _; rfl
  | succ n ih =>
    intro hj
    rw [hits, ih (by omega), hit1, if_neg (hn n (by omega))]
theorem list_getD {l m : List Bd} (h1 : l.length = 16) (h2 : m.length = 16) (h : ∀ k, k < 16 → l.getD k Body.zero = m.getD k Body.zero) : l = m := by
  apply List.ext_getElem (h1.trans h2.symm)
  intro k a b
  have := h k (by omega)
  simpa [List.getD_eq_getElem?_getD, a, b] using this
/-- behind a Step -/
theorem step_lost {c : Cf} {n : Nat} (hl : Breaks c.rules) (hn : c.pl = n) {i : Nat} (hi : i < 600) (ok : Ok c (lostS c n i)) (row : List Cl) : step c (lostS c n i) row = lostS c n (i + 1) := by
  have hr : right c (lostS c n i) = true := (right_iff ⟨ok.b.len, ok.s.len⟩).2 ok
  have h8 : n ≤ 8 := by have := ok.pl; omega
  unfold step
  rw [if_pos hr]
  obtain ⟨h1, h2, h3, h4⟩ := moves_lost hl row (n := n) (i := i) h8 hi (Dice.seed c.sd) 16 (Nat.le_refl _)
  have e : (moves c.rules row (lostL n i) (Dice.seed c.sd) 16).bs = lostL n (i + 1) := list_getD h1 (lostL_len _ _) (fun k hk => by rw [h4 k hk, if_pos hk])
  have e1 : (lostS c n i).bs = lostL n i := rfl
  have e2 : (lostS c n i).d = Dice.seed c.sd := rfl
  have e3 : (lostS c n i).sc = List.replicate 8 0 := rfl
  have e4 : (lostS c n i).fr = i := rfl
  dsimp only
  rw [e1, e2, e3, e4]
  generalize moves c.rules row (lostL n i) (Dice.seed c.sd) 16 = m at *
  rw [h2, h3, e]
  have e5 : puts (lostL n (i + 1)) [] = lostL n (i + 1) := rfl
  rw [e5]
  rw [hits_none c.pl (h := ⟨lostL n (i + 1), List.replicate 8 0⟩) (fun k hk => by
    show ¬ ((lostL n (i + 1)).getD k Body.zero).k = 2
    rw [lostL_at n (i + 1) k hk]
    split
    · show ¬ (1 : Int) = 2; omega
    · decide) 16 (Nat.le_refl _)]
  rw [if_pos (by omega)]
  unfold lostS
  rw [show ((i + 1 : Nat) : Int) = (i : Int) + 1 by omega]
end Step
end Go.Proofs.Ytngbannidbijmaa
namespace Go.Proofs.Ytngbannidbijmaa
open Go.RowKit
set_option linter.unusedVariables false

namespace Step
def ownR : List Op3 := [⟨7, 0, 5⟩, ⟨3, 1, 0⟩, ⟨8, 3, 1⟩]
def ownB (b : Bd) (t : Int) : Bd := { b with m0 := Rule.clamp t, m1 := Rule.clamp (b.m1 + Rule.clamp t), vy := Body.within (Rule.clamp (b.m1 + Rule.clamp t)) (-64) 64 }
theorem run_own (e : Ev) (h : Body.some e.b = true) : Rule.run ownR e = ({ e with b := ownB e.b e.t }, 0, 0, true) := by
  refine run_done h ?_
  have h3 : (ownR.length : Int) = 3 := rfl
  rw [Rule.go, if_pos (by rw [h3]; omega)]
  simp only [Rule.act, ownR]
  simp [Rule.is, Body.btw, Rule.field, Rule.setr, List.getD_eq_getElem?_getD]
  rw [Rule.go, if_pos (by simp)]
  simp [Rule.act, Rule.is, Body.btw, Rule.reg, Rule.setr, Rule.reckon, List.getD_eq_getElem?_getD]
  rw [Rule.go, if_pos (by simp)]
  simp [Rule.act, Rule.is, Body.btw, Rule.reg, Rule.put, List.getD_eq_getElem?_getD]
  rw [Rule.go, if_neg (by simp)]
  simp [ownB]

theorem move_f' {b : Bd} (h : Body.some b = true) (k : b.k = 1) : (Body.move b).1.f = b.f := by
  rw [Body.move_player h k]; rfl
def ownN (b : Bd) (i : Inp) : Bd := (Body.move (ownB (Body.push b (i.x.tdiv 16) (i.y.tdiv 16)) i.b)).1
theorem play_own {b : Bd} (hb : Body.some b = true) (i : Inp) (m : M) : play ownR b i m = (ownB (Body.push b (i.x.tdiv 16) (i.y.tdiv 16)) i.b, m.d, m.sh) := by
  obtain ⟨p1, p2, p3⟩ := push_ok hb (i.x.tdiv 16) (i.y.tdiv 16)
  have e := run_own (envp b i m.d ((free m.bs : Int) - (m.sh.length : Int))) p1
  unfold play
  rw [e]
  simp [envp]
structure Quiet (c : Cf) (s : Gs) : Prop where
  ok : Ok c s
  pl : c.pl = 4
  rules : c.rules = ownR
  rest : ∀ k, 4 ≤ k → k < 16 → s.bs.getD k Body.zero = Body.zero
  f : ∀ k, k < 4 → (s.bs.getD k Body.zero).f = 0
theorem moves_own {c : Cf} {s : Gs} (q : Quiet c s) (row : List Cl) : ∀ j, j ≤ 16 → (moves c.rules row s.bs s.d j).bs.length = 16 ∧ (moves c.rules row s.bs s.d j).d = s.d ∧ (moves c.rules row s.bs s.d j).sh = [] ∧ ∀ k, k < 16 → (moves c.rules row s.bs s.d j).bs.getD k Body.zero = if k < j ∧ k < 4 then ownN (s.bs.getD k Body.zero) (input row (k : Nat)) else s.bs.getD k Body.zero := by
  intro j
  induction j with
  | zero => intro _; exact ⟨q.ok.b.len, rfl, rfl, fun k _ => by rw [if_neg (by omega)]; rfl⟩
  | succ j ih =>
    intro hj
    obtain ⟨h1, h2, h3, h4⟩ := ih (by omega)
    have hb := q.ok.b.all j (by omega)
    rw [moves]
    generalize moves c.rules row s.bs s.d j = m at *
    have key : one c.rules row j (s.bs.getD j Body.zero) m = ⟨m.bs.set j (if j < 4 then ownN (s.bs.getD j Body.zero) (input row (j : Nat)) else s.bs.getD j Body.zero), m.d, m.sh⟩ := by
      unfold one
      by_cases hk : j < 4
      · obtain ⟨q1, q2, q3⟩ := hb.player (by rw [q.pl]; omega)
        rw [if_pos q2, if_pos hk, q.rules, play_own q1, q3]
        rfl
      · rw [q.rest j (by omega) (by omega), if_neg (by decide), if_neg hk, move_zero]
    rw [key]
    refine ⟨by simp [h1], h2, h3, fun k hk => ?_⟩
    dsimp only
    rw [getD_set, h4 k hk]
    by_cases e : k = j
    · subst e
      rw [if_pos ⟨rfl, by omega⟩]
      by_cases g : k < 4
      · rw [if_pos g, if_pos ⟨by omega, g⟩]
      · rw [if_neg g, if_neg (by omega)]
    · rw [if_neg (by omega)]
      by_cases g : k < j ∧ k < 4
      · rw [if_pos g, if_pos ⟨by omega, g.2⟩]
      · rw [if_neg g, if_neg (by omega)]
theorem ownN_f {b : Bd} (h : Body.some b = true) (hk : b.k = 1) (hf : b.f = 0) (i : Inp) : (ownN b i).f = 0 := by
  have hp := push_ok h (i.x.tdiv 16) (i.y.tdiv 16)
  have e := run_own (envp b i 0 0) hp.1
  have K : Keeps 64 (envp b i 0 0) { envp b i 0 0 with b := ownB (Body.push b (i.x.tdiv 16) (i.y.tdiv 16)) i.b } := by
    rcases run_cases ownR (envp b i 0 0) hp.1 with ⟨c, a, e2⟩ | ⟨e', e2, K⟩
    · rw [e] at e2
      have := congrArg (fun x => x.2.2.2) e2
      simp at this
    · rw [e] at e2
      have := congrArg (fun x => x.1) e2
      dsimp only at this
      rw [← this] at K
      exact K
  have k1 := K.ok hp.1
  have k2 := K.k
  have k3 := K.f
  dsimp only [envp] at k1 k2 k3
  unfold ownN
  rw [move_f' k1 (k2.trans (hp.2.1.trans hk)), k3, Body.push_yes h]
  exact hf
/-- behind a Step -/
theorem quiet_step {c : Cf} {s : Gs} (q : Quiet c s) (row : List Cl) : Quiet c (step c s row) ∧ (step c s row).d = s.d ∧ ∀ k, k < 4 → (step c s row).bs.getD k Body.zero = ownN (s.bs.getD k Body.zero) (input row (k : Nat)) := by
  have hr : right c s = true := (right_iff ⟨q.ok.b.len, q.ok.s.len⟩).2 q.ok
  have ok := (q.ok.step row).1
  obtain ⟨h1, h2, h3, h4⟩ := moves_own q row 16 (Nat.le_refl _)
  have I := mInv c.rules row s.d q.ok.b 16 (Nat.le_refl _)
  have key : step c s row = ⟨if s.fr + 1 ≤ 600 then s.fr + 1 else 600, s.d, (moves c.rules row s.bs s.d 16).bs, s.sc⟩ := by
    unfold step
    rw [if_pos hr]
    dsimp only
    generalize moves c.rules row s.bs s.d 16 = m at *
    rw [h2, h3]
    have e5 : puts m.bs [] = m.bs := rfl
    rw [e5, hits_none c.pl (h := ⟨m.bs, s.sc⟩) (fun k hk => by
      show ¬ (m.bs.getD k Body.zero).k = 2
      have hs := I.good.all k hk
      by_cases g : k < 4
      · have := (hs.player (by rw [q.pl]; omega)).2.1; omega
      · rw [h4 k hk, if_neg (by omega), q.rest k (by omega) hk]; decide) 16 (Nat.le_refl _)]
  rw [key] at ok ⊢
  have h4' : ∀ k, k < 4 → (moves c.rules row s.bs s.d 16).bs.getD k Body.zero = ownN (s.bs.getD k Body.zero) (input row (k : Nat)) := fun k hk => by rw [h4 k (by omega), if_pos ⟨by omega, hk⟩]
  refine ⟨⟨ok, q.pl, q.rules, fun k hk hk16 => ?_, fun k hk => ?_⟩, rfl, h4'⟩
  · show (moves c.rules row s.bs s.d 16).bs.getD k Body.zero = _
    rw [h4 k hk16, if_neg (by omega)]; exact q.rest k hk hk16
  · show ((moves c.rules row s.bs s.d 16).bs.getD k Body.zero).f = _
    rw [h4' k hk]
    obtain ⟨q1, q2, q3⟩ := (q.ok.b.all k (by omega)).player (by rw [q.pl]; omega)
    exact ownN_f q1 q2 (q.f k hk) _
theorem first_quiet {c : Cf} (h : legal c = true) (hp : c.pl = 4) (hr : c.rules = ownR) : Quiet c (first c) := by
  have e := first_lost (n := 4) h hp
  refine ⟨first_ok h, hp, hr, fun k hk hk16 => ?_, fun k hk => ?_⟩
  · rw [e]; show (lostL 4 0).getD k Body.zero = _
    rw [lostL_at 4 0 k hk16, if_neg (by omega)]
  · rw [e]; show ((lostL 4 0).getD k Body.zero).f = _
    rw [lostL_at 4 0 k (by omega), if_pos hk]; rfl
end Step
end Go.Proofs.Ytngbannidbijmaa

/- Package step as plain functions. Package step: what stays right. -/
import Derived.Test.YtngbannidbijmaaRuleRt
import Derived.Test.YtngbannidbijmaaRuleG
import Derived.Test.YtngbannidbijmaaBodyP
import Derived.Test.YtngbannidbijmaaBodyS
import Derived.Test.YtngbannidbijmaaBodyF
import Derived.Test.YtngbannidbijmaaDice
namespace Go.Proofs.Ytngbannidbijmaa
open Go.RowKit
set_option linter.unusedVariables false

/-- an input, a cell of a row, a config, a state -/
structure Inp where
  b : Int
  x : Int
  y : Int
deriving DecidableEq
structure Cl where
  r : Bool
  i : Inp
deriving DecidableEq
structure Cf where
  pl : Int
  pe : Int
  gr : Int
  st : Int
  fr : Int
  sd : Int
  ra : Nat
  de : Nat
  rules : List Op3
  toks : List Int
structure Gs where
  fr : Int
  d : Int
  bs : List Bd
  sc : List Int
deriving DecidableEq
namespace Step
def zero : Gs := ⟨0, 0, List.replicate 16 Body.zero, List.replicate 8 0⟩
def geF (x y : Nat) : Bool := FloatKind.f64.format.order x y == some .gt || FloatKind.f64.format.order x y == some .eq
def leF (x y : Nat) : Bool := FloatKind.f64.format.order x y == some .lt || FloatKind.f64.format.order x y == some .eq
def rate (x : Nat) : Bool := geF x 0 && leF x 9218868437227405311
def depth (x : Nat) : Bool := geF x 4607182418800017408 && leF x 4652007308841189376
/-- are the first n tokens such as may be, and unlike? -/
def tokens (l : List Int) : Nat → Bool
  | 0 => true
  | n + 1 => tokens l n && (Body.btw (l.getD n 0) 0 2147483646 && !((l.take n).contains (l.getD n 0)))
def legal (c : Cf) : Bool := Body.btw c.pl 1 8 && (Body.btw c.pe 1 8 && (Body.btw c.gr 0 60 && (Body.btw c.st 0 100 && (Body.btw c.fr 1 600 && (Body.btw c.sd 0 2147483647 && (rate c.ra && (depth c.de && (Rule.right c.rules && (decide ((c.toks.length : Int) = c.pl) && tokens c.toks c.toks.length)))))))))
/-- those who are born, at the first n places of 16 -/
def borns (pl : Int) : Nat → List Bd
  | 0 => List.replicate 16 Body.zero
  | n + 1 => if (n : Int) < pl then (borns pl n).set n (Body.born n pl) else borns pl n
def first (c : Cf) : Gs := if legal c = true then ⟨0, Dice.seed c.sd, borns c.pl 16, List.replicate 8 0⟩ else zero
/-- may it stand at the place? -/
def may (b : Bd) (k : Nat) (pl : Int) : Bool := if (k : Int) < pl then b.k == 1 && b.o == (k : Int) else b.k == 0 || (b.k == 2 && decide (b.o < pl))
def okB (pl : Int) (bs : List Bd) : Nat → Bool
  | 0 => true
  | n + 1 => okB pl bs n && (Body.right (bs.getD n Body.zero) && may (bs.getD n Body.zero) n pl)
def okS (pl : Int) (sc : List Int) : Nat → Bool
  | 0 => true
  | n + 1 => okS pl sc n && (Body.btw (sc.getD n 0) 0 2147483647 && (decide ((n : Int) < pl) || sc.getD n 0 == 0))
def right (c : Cf) (s : Gs) : Bool := legal c && (Body.btw s.fr 0 600 && (okB c.pl s.bs 16 && okS c.pl s.sc 8))
def inp (i : Inp) : Inp := ⟨Body.within i.b 0 255, Body.within i.x (-64) 64, Body.within i.y (-64) 64⟩
def input (row : List Cl) (p : Int) : Inp := if p < row.length then inp (row.getD p.toNat ⟨false, ⟨0, 0, 0⟩⟩).i else ⟨0, 0, 0⟩
def free (bs : List Bd) : Nat := bs.countP (·.k == 0)
/-- a Step under way: bodies, dice, what was fired -/
structure M where
  bs : List Bd
  d : Int
  sh : List Bd
def envp (b : Bd) (i : Inp) (d : Int) (room : Int) : Ev := ⟨Body.push b (i.x.tdiv 16) (i.y.tdiv 16), i.b, i.x, i.y, d, room, []⟩
def fault (b : Bd) : Bd := { b with f := if b.f + 1 ≤ 65535 then b.f + 1 else 65535 }
/-- a Player behind its input and the rules -/
def play (l : List Op3) (b : Bd) (i : Inp) (m : M) : Bd × Int × List Bd := match Rule.run l (envp b i m.d ((free m.bs : Int) - (m.sh.length : Int))) with
  | (e, _, _, true) => (e.b, e.d, m.sh ++ e.sh)
  | (_, _, _, false) => (fault b, m.d, m.sh)
def one (l : List Op3) (row : List Cl) (k : Nat) (b : Bd) (m : M) : M :=
  if b.k = 1 then (match play l b (input row b.o) m with | (b', d', sh') => ⟨m.bs.set k (Body.move b').1, d', sh'⟩)
  else ⟨m.bs.set k (Body.move b).1, m.d, m.sh⟩
/-- the first n places, of what was there -/
def moves (l : List Op3) (row : List Cl) (was : List Bd) (d : Int) : Nat → M
  | 0 => ⟨was, d, []⟩
  | n + 1 => one l row n (was.getD n Body.zero) (moves l row was d n)
def place (bs : List Bd) : Nat := bs.findIdx (·.k == 0)
def puts (bs : List Bd) (l : List Bd) : List Bd := l.foldl (fun bs s => bs.set (place bs) s) bs
/-- bodies and scores -/
structure H where
  bs : List Bd
  sc : List Int
def struck (pl : Int) (i k : Nat) (h : H) : H :=
  let s := h.bs.getD i Body.zero
  let p := h.bs.getD k Body.zero
  ⟨(h.bs.set i Body.zero).set k { Body.born p.o pl with f := p.f }, h.sc.set s.o.toNat (if h.sc.getD s.o.toNat 0 ≤ 2147483646 then h.sc.getD s.o.toNat 0 + 1 else 2147483647)⟩
def hit1 (pl : Int) (i : Nat) (h : H) : H :=
  if (h.bs.getD i Body.zero).k = 2 then
    (let k := h.bs.findIdx (fun p => Body.hit (h.bs.getD i Body.zero) p)
    if k < 16 then struck pl i k h else h)
  else h
def hits (pl : Int) : Nat → H → H
  | 0, h => h
  | n + 1, h => hit1 pl n (hits pl n h)
def step (c : Cf) (s : Gs) (row : List Cl) : Gs :=
  if right c s = true then
    (let m := moves c.rules row s.bs s.d 16
    let h := hits c.pl 16 ⟨puts m.bs m.sh, s.sc⟩
    ⟨if s.fr + 1 ≤ 600 then s.fr + 1 else 600, m.d, h.bs, h.sc⟩)
  else zero
def fold (c : Cf) (s : Gs) (rows : List (List Cl)) : Gs := rows.foldl (step c) s
end Step
end Go.Proofs.Ytngbannidbijmaa
namespace Go.Proofs.Ytngbannidbijmaa
open Go.RowKit
set_option linter.unusedVariables false

namespace Step
/-- who may stand at a place -/
def Stand (pl : Int) (k : Nat) (b : Bd) : Prop := if (k : Int) < pl then Body.some b = true ∧ b.k = 1 ∧ b.o = k else b = Body.zero ∨ (Body.some b = true ∧ b.k = 2 ∧ b.o < pl)
theorem some_k {b : Bd} (h : Body.some b = true) : b.k = 1 ∨ b.k = 2 := ((Body.some_iff b).1 h).k
theorem stand_iff (pl : Int) (k : Nat) (b : Bd) : (Body.right b && may b k pl) = true ↔ Stand pl k b := by
  unfold may Stand Body.right
  by_cases h : (k : Int) < pl
  · rw [if_pos h, if_pos h]
    simp only [Bool.and_eq_true, Bool.or_eq_true, beq_iff_eq]
    constructor
    · rintro ⟨h1 | h1, h2, h3⟩
      · rw [h1] at h2; exact absurd h2 (by decide)
      · exact ⟨h1, h2, h3⟩
    · rintro ⟨h1, h2, h3⟩
      exact ⟨Or.inr h1, h2, h3⟩
  · rw [if_neg h, if_neg h]
    simp only [Bool.and_eq_true, Bool.or_eq_true, beq_iff_eq, decide_eq_true_eq]
    constructor
    · rintro ⟨h1 | h1, h2 | ⟨h2, h3⟩⟩
      · exact Or.inl h1
      · rw [h1] at h2; exact absurd h2 (by decide)
      · rcases some_k h1 with g | g <;> omega
      · exact Or.inr ⟨h1, h2, h3⟩
    · rintro (h1 | ⟨h1, h2, h3⟩)
      · subst h1; exact ⟨Or.inl rfl, Or.inl rfl⟩
      · exact ⟨Or.inr h1, Or.inr ⟨h2, h3⟩⟩
theorem okB_iff (pl : Int) (bs : List Bd) (n : Nat) : okB pl bs n = true ↔ ∀ k, k < n → Stand pl k (bs.getD k Body.zero) := by
  induction n with
  | zero => simp [okB]
  | succ n ih =>
    unfold okB
    rw [Bool.and_eq_true, ih, stand_iff]
    constructor
    · rintro ⟨h1, h2⟩ k hk
      rcases Nat.lt_or_ge k n with h | h
      · exact h1 k h
      · have : k = n := by omega
        subst this; exact h2
    · intro h
      exact ⟨fun k hk => h k (by omega), h n (by omega)⟩
theorem okS_iff (pl : Int) (sc : List Int) (n : Nat) : okS pl sc n = true ↔ ∀ k, k < n → (0 ≤ sc.getD k 0 ∧ sc.getD k 0 ≤ 2147483647) ∧ ((k : Int) < pl ∨ sc.getD k 0 = 0) := by
  induction n with
  | zero => simp [okS]
  | succ n ih =>
    unfold okS
    rw [Bool.and_eq_true, ih]
    simp only [Bool.and_eq_true, Bool.or_eq_true, decide_eq_true_eq, beq_iff_eq, Body.btw]
    constructor
    · rintro ⟨h1, h2⟩ k hk
      rcases Nat.lt_or_ge k n with h | h
      · exact h1 k h
      · have : k = n := by omega
        subst this; exact h2
    · intro h
      exact ⟨fun k hk => h k (by omega), h n (by omega)⟩
structure Good (pl : Int) (bs : List Bd) : Prop where
  len : bs.length = 16
  all : ∀ k, k < 16 → Stand pl k (bs.getD k Body.zero)
structure GoodS (pl : Int) (sc : List Int) : Prop where
  len : sc.length = 8
  all : ∀ k, k < 8 → (0 ≤ sc.getD k 0 ∧ sc.getD k 0 ≤ 2147483647) ∧ ((k : Int) < pl ∨ sc.getD k 0 = 0)
theorem getD_set {α : Type} (l : List α) (k j : Nat) (a z : α) : (l.set k a).getD j z = if j = k ∧ k < l.length then a else l.getD j z := by
  simp only [List.getD_eq_getElem?_getD, List.getElem?_set]
  by_cases h : k = j
  · subst h
    by_cases h2 : k < l.length
    · simp [h2]
    · simp [h2]
  · rw [if_neg h, if_neg (by omega)]
theorem Good.set {pl : Int} {bs : List Bd} (g : Good pl bs) {k : Nat} {b : Bd} (h : Stand pl k b) : Good pl (bs.set k b) := by
  refine ⟨by rw [List.length_set]; exact g.len, fun j hj => ?_⟩
  rw [getD_set]
  split
  · rename_i e; rw [e.1]; exact h
  · exact g.all j hj
theorem Stand.player {pl : Int} {k : Nat} {b : Bd} (h : Stand pl k b) (hk : (k : Int) < pl) : Body.some b = true ∧ b.k = 1 ∧ b.o = k := by unfold Stand at h; rwa [if_pos hk] at h
theorem Stand.other {pl : Int} {k : Nat} {b : Bd} (h : Stand pl k b) (hk : ¬ (k : Int) < pl) : b = Body.zero ∨ (Body.some b = true ∧ b.k = 2 ∧ b.o < pl) := by unfold Stand at h; rwa [if_neg hk] at h
theorem stand_player {pl : Int} {k : Nat} {b : Bd} (hk : (k : Int) < pl) (h : Body.some b = true) (h1 : b.k = 1) (h2 : b.o = k) : Stand pl k b := by unfold Stand; rw [if_pos hk]; exact ⟨h, h1, h2⟩
theorem stand_zero {pl : Int} {k : Nat} (hk : ¬ (k : Int) < pl) : Stand pl k Body.zero := by unfold Stand; rw [if_neg hk]; exact Or.inl rfl
theorem stand_shot {pl : Int} {k : Nat} {b : Bd} (hk : ¬ (k : Int) < pl) (h : Body.some b = true) (h1 : b.k = 2) (h2 : b.o < pl) : Stand pl k b := by unfold Stand; rw [if_neg hk]; exact Or.inr ⟨h, h1, h2⟩
/-- a player stands at a player's place -/
theorem Stand.one_lt {pl : Int} {k : Nat} {b : Bd} (h : Stand pl k b) (h1 : b.k = 1) : (k : Int) < pl := by
  rcases Int.lt_or_le (k : Int) pl with g | g
  · exact g
  · rcases h.other (by omega) with e | ⟨_, e, _⟩
    · rw [e] at h1; exact absurd h1 (by decide)
    · omega
theorem Stand.not_one {pl : Int} {k : Nat} {b : Bd} (h : Stand pl k b) (h1 : ¬ b.k = 1) : ¬ (k : Int) < pl := fun g => h1 (h.player g).2.1
theorem Stand.right {pl : Int} {k : Nat} {b : Bd} (h : Stand pl k b) : b = Body.zero ∨ Body.some b = true := by
  by_cases g : (k : Int) < pl
  · exact Or.inr (h.player g).1
  · rcases h.other g with e | ⟨e, _⟩
    · exact Or.inl e
    · exact Or.inr e
theorem move_zero : Body.move Body.zero = (Body.zero, false) := by decide
/-- what moves stands where it may -/
theorem Stand.move {pl : Int} {k : Nat} {b : Bd} (h : Stand pl k b) : Stand pl k (Body.move b).1 := by
  by_cases g : (k : Int) < pl
  · obtain ⟨h1, h2, h3⟩ := h.player g
    rw [Body.move_player h1 h2]
    exact stand_player g ((Body.some_iff _).2 (Body.Ok.kept ((Body.some_iff _).1 h1))) h2 h3
  · rcases h.other g with e | ⟨h1, h2, h3⟩
    · rw [e, move_zero]; exact stand_zero g
    · have n1 : ¬ b.k = 1 := by omega
      cases hg : Body.gone b
      · rw [Body.move_on h1 n1 hg]
        exact stand_shot g ((Body.some_iff _).2 (Body.Ok.fly ((Body.some_iff _).1 h1) hg).1) h2 h3
      · rw [Body.move_gone h1 n1 hg]; exact stand_zero g
/-- a run on a body that is one, either way -/
theorem run_cases (l : List Op3) (e : Ev) (hs : Body.some e.b = true) : (∃ c a, Rule.run l e = (e, c, a, false)) ∨ ∃ e', Rule.run l e = (e', 0, 0, true) ∧ Keeps 64 e e' := by
  have h := go_inv l 64 0 e (by omega) (by omega)
  cases hg : Rule.go l 64 0 e with
  | fault c a => exact Or.inl ⟨c, a, run_fault hs hg⟩
  | done e' => rw [hg] at h; exact Or.inr ⟨e', run_done hs hg, h⟩
/-- a shot of somebody's -/
def Fired (pl : Int) (s : Bd) : Prop := Body.some s = true ∧ s.k = 2 ∧ s.o < pl
structure Played (pl : Int) (b : Bd) (m : M) (r : Bd × Int × List Bd) : Prop where
  ok : Body.some r.1 = true
  k : r.1.k = 1
  o : r.1.o = b.o
  sh : ∃ ll, r.2.2 = m.sh ++ ll ∧ (∀ s ∈ ll, Fired pl s) ∧ ll.length ≤ 64 ∧ (ll = [] ∨ m.sh.length + ll.length ≤ free m.bs)
theorem fault_ok {b : Bd} (h : Body.some b = true) : Body.some (fault b) = true := by
  have K := (Body.some_iff b).1 h
  rw [Body.some_iff]
  refine ⟨K.k, K.o, K.x, K.y, K.vx, K.vy, K.age, ?_, K.m0, K.m1, K.m2, K.m3⟩
  have := K.f
  unfold fault
  dsimp only
  split <;> omega
theorem push_ok {b : Bd} (h : Body.some b = true) (x y : Int) : Body.some (Body.push b x y) = true ∧ (Body.push b x y).k = b.k ∧ (Body.push b x y).o = b.o := by
  rw [Body.push_yes h]
  exact ⟨(Body.some_iff _).2 (Body.Ok.pushed ((Body.some_iff _).1 h) x y), rfl, rfl⟩
theorem played {pl : Int} (l : List Op3) {b : Bd} (i : Inp) (m : M) (h : Body.some b = true) (h1 : b.k = 1) (h2 : b.o < pl) : Played pl b m (play l b i m) := by
  obtain ⟨p1, p2, p3⟩ := push_ok h (i.x.tdiv 16) (i.y.tdiv 16)
  unfold play
  rcases run_cases l (envp b i m.d ((free m.bs : Int) - (m.sh.length : Int))) p1 with ⟨c, a, e⟩ | ⟨e', e, K⟩
  · rw [e]
    exact ⟨fault_ok h, h1, rfl, [], by simp, by simp, by simp, Or.inl rfl⟩
  · rw [e]
    obtain ⟨ll, q1, q2, q3, q4⟩ := K.sh
    have q1 : e'.sh = ll := by simpa [envp] using q1
    refine ⟨K.ok p1, K.k.trans (p2.trans h1), K.o.trans p3, ll, by show m.sh ++ e'.sh = _; rw [q1], fun s hs => ?_, by omega, ?_⟩
    · obtain ⟨r1, r2, r3⟩ := q3 s hs
      exact ⟨r3 p1, r1, by rw [r2]; show (Body.push b (i.x.tdiv 16) (i.y.tdiv 16)).o < pl; rw [p3]; exact h2⟩
    · rcases q4 with q4 | q4
      · exact Or.inl q4
      · right
        rw [q1] at q4
        have : (ll.length : Int) ≤ (free m.bs : Int) - (m.sh.length : Int) := q4
        omega
theorem free_set {bs : List Bd} {k : Nat} (hk : k < bs.length) (b : Bd) : free (bs.set k b) = free bs - (if (bs.getD k Body.zero).k = 0 then 1 else 0) + (if b.k = 0 then 1 else 0) := by
  unfold free
  rw [List.countP_set hk]
  simp [List.getD_eq_getElem?_getD, hk]
theorem free_pos {bs : List Bd} {k : Nat} (hk : k < bs.length) (h : (bs.getD k Body.zero).k = 0) : 0 < free bs := by
  unfold free
  rw [List.countP_pos_iff]
  refine ⟨bs[k], List.getElem_mem hk, ?_⟩
  simpa [List.getD_eq_getElem?_getD, hk] using h
structure MInv (pl : Int) (was : List Bd) (n : Nat) (m : M) : Prop where
  good : Good pl m.bs
  rest : ∀ j, n ≤ j → m.bs.getD j Body.zero = was.getD j Body.zero
  shots : ∀ s ∈ m.sh, Fired pl s
  room : m.sh.length ≤ free m.bs
theorem mInv {pl : Int} (l : List Op3) (row : List Cl) {was : List Bd} (d : Int) (g : Good pl was) : ∀ n, n ≤ 16 → MInv pl was n (moves l row was d n) := by
  intro n
  induction n with
  | zero => intro _; exact ⟨g, fun _ _ => rfl, by simp [moves], by simp [moves]⟩
  | succ n ih =>
    intro hn
    have I := ih (by omega)
    have hb := g.all n (by omega)
    have hl : n < (moves l row was d n).bs.length := by rw [I.good.len]; omega
    have hsame := I.rest n (Nat.le_refl _)
    show MInv pl was (n + 1) (one l row n (was.getD n Body.zero) (moves l row was d n))
    generalize moves l row was d n = m at *
    generalize was.getD n Body.zero = b at *
    unfold one
    by_cases h1 : b.k = 1
    · rw [if_pos h1]
      have hp := hb.one_lt h1
      obtain ⟨q1, q2, q3⟩ := hb.player hp
      have P := played l (pl := pl) (input row b.o) m q1 h1 (by omega)
      generalize play l b (input row b.o) m = r at *
      obtain ⟨b', d', sh'⟩ := r
      have hs : Stand pl n (Body.move b').1 := (stand_player hp P.ok P.k (P.o.trans q3)).move
      have hk : (Body.move b').1.k = 1 := (hs.player hp).2.1
      obtain ⟨ll, e, hf, _, hr⟩ := P.sh
      have e : sh' = m.sh ++ ll := e
      refine ⟨I.good.set hs, fun j hj => ?_, fun s hs => ?_, ?_⟩
      · show (m.bs.set n (Body.move b').1).getD j Body.zero = _
        rw [getD_set, if_neg (by omega)]; exact I.rest j (by omega)
      · have hs : s ∈ sh' := hs
        rw [e] at hs
        rcases List.mem_append.1 hs with h | h
        · exact I.shots s h
        · exact hf s h
      · show sh'.length ≤ free (m.bs.set n (Body.move b').1)
        rw [free_set hl, hsame, if_neg (by omega), if_neg (by omega), e, List.length_append]
        have := I.room
        rcases hr with h | h
        · subst h; simpa using this
        · omega
    · rw [if_neg h1]
      have hs := hb.move
      refine ⟨I.good.set hs, fun j hj => ?_, I.shots, ?_⟩
      · show (m.bs.set n (Body.move b).1).getD j Body.zero = _
        rw [getD_set, if_neg (by omega)]; exact I.rest j (by omega)
      · show m.sh.length ≤ free (m.bs.set n (Body.move b).1)
        rw [free_set hl, hsame]
        have := I.room
        by_cases h0 : b.k = 0
        · have : b = Body.zero := by
            rcases hb.right with h | h
            · exact h
            · rcases some_k h with h | h <;> omega
          have hp := free_pos hl (by rw [hsame]; exact h0)
          rw [this, move_zero]
          show m.sh.length ≤ free m.bs - (if (0 : Int) = 0 then 1 else 0) + (if (0 : Int) = 0 then 1 else 0)
          rw [if_pos rfl]
          omega
        · rw [if_neg h0]; omega
theorem place_spec {pl : Int} {bs : List Bd} (g : Good pl bs) (h : 0 < free bs) : place bs < 16 ∧ (bs.getD (place bs) Body.zero).k = 0 ∧ ¬ (place bs : Int) < pl := by
  unfold free at h
  rw [List.countP_pos_iff] at h
  have hl : place bs < bs.length := List.findIdx_lt_length_of_exists h
  have hk : (bs.getD (place bs) Body.zero).k = 0 := by
    have := List.findIdx_getElem (p := fun b : Bd => b.k == 0) (xs := bs) (w := hl)
    rw [beq_iff_eq] at this
    rw [List.getD_eq_getElem?_getD, List.getElem?_eq_getElem hl]
    exact this
  refine ⟨by rw [← g.len]; exact hl, hk, fun hp => ?_⟩
  have := ((g.all _ (by rw [← g.len]; exact hl)).player hp).2.1
  omega
theorem puts_cons (bs : List Bd) (s : Bd) (l : List Bd) : puts bs (s :: l) = puts (bs.set (place bs) s) l := rfl
theorem put_good {pl : Int} {bs : List Bd} {s : Bd} (g : Good pl bs) (hs : Fired pl s) (h : 0 < free bs) : Good pl (bs.set (place bs) s) ∧ free (bs.set (place bs) s) = free bs - 1 := by
  obtain ⟨p1, p2, p3⟩ := place_spec g h
  refine ⟨g.set (stand_shot p3 hs.1 hs.2.1 hs.2.2), ?_⟩
  rw [free_set (by rw [g.len]; exact p1), if_pos p2, if_neg (by have := hs.2.1; omega)]
  rfl
theorem puts_good {pl : Int} (l : List Bd) : ∀ {bs : List Bd}, Good pl bs → (∀ s ∈ l, Fired pl s) → l.length ≤ free bs → Good pl (puts bs l) := by
  induction l with
  | nil => intro bs g _ _; exact g
  | cons s l ih =>
    intro bs g hs hl
    rw [List.length_cons] at hl
    have P := put_good g (hs s (by simp)) (by omega)
    rw [puts_cons]
    exact ih P.1 (fun x hx => hs x (by simp [hx])) (by rw [P.2]; omega)
/-- whom a shot hits is a player -/
theorem hit_player {s p : Bd} (h : Body.hit s p = true) (hs : s.k = 2) : p.k = 1 ∧ Body.some p = true := by
  simp only [Body.hit, Bool.and_eq_true, Bool.not_eq_true', beq_eq_false_iff_ne] at h
  obtain ⟨⟨⟨⟨⟨h1, h2⟩, h3⟩, h4⟩, h5⟩, h6⟩ := h
  rcases some_k h2 with g | g
  · exact ⟨g, h2⟩
  · omega
structure Hi (pl : Int) (h : H) : Prop where
  b : Good pl h.bs
  s : GoodS pl h.sc
theorem born_ok {pl : Int} {k : Nat} {f : Int} (h1 : (k : Int) < pl) (h8 : pl ≤ 8) (hf : 0 ≤ f ∧ f ≤ 65535) : Stand pl k { Body.born k pl with f := f } := by
  obtain ⟨n, rfl⟩ : ∃ n : Nat, pl = n := ⟨pl.toNat, by omega⟩
  obtain ⟨a1, a2, _⟩ := at_spec k n (by omega) (by omega)
  rw [born_plr k n (by omega) (by omega)]
  refine stand_player h1 ?_ rfl rfl
  have K := (Body.some_iff _).1 (some_plr k (at_ k n) (by omega) (by omega) a1 a2)
  exact (Body.some_iff _).2 ⟨K.k, K.o, K.x, K.y, K.vx, K.vy, K.age, hf, K.m0, K.m1, K.m2, K.m3⟩
/-- the shot at place i hits the player at place k -/
structure Hits (pl : Int) (i k : Nat) (h : H) : Prop where
  shot : Fired pl (h.bs.getD i Body.zero)
  lt : k < 16
  among : (k : Int) < pl
  one : (h.bs.getD k Body.zero).k = 1
  own : (h.bs.getD k Body.zero).o = k
  some : Body.some (h.bs.getD k Body.zero) = true
  ne : i ≠ k
theorem hits_of {pl : Int} {i k : Nat} {h : H} (g : Hi pl h) (hi : i < 16) (hk : k < 16) (h2 : (h.bs.getD i Body.zero).k = 2) (hh : Body.hit (h.bs.getD i Body.zero) (h.bs.getD k Body.zero) = true) : Hits pl i k h := by
  obtain ⟨q1, q2⟩ := hit_player hh h2
  have hs := g.b.all i hi
  have ni : ¬ (i : Int) < pl := hs.not_one (by omega)
  have sk := g.b.all k hk
  have lk := sk.one_lt q1
  obtain ⟨s1, s2, s3⟩ := sk.player lk
  refine ⟨?_, hk, lk, s2, s3, s1, fun e => by subst e; omega⟩
  rcases hs.other ni with e | e
  · rw [e] at h2; exact absurd h2 (by decide)
  · exact e
theorem struck_good {pl : Int} {i k : Nat} {h : H} (g : Hi pl h) (h8 : pl ≤ 8) (hi : i < 16) (q : Hits pl i k h) : Hi pl (struck pl i k h) := by
  obtain ⟨⟨f1, f2, f3⟩, q1, q2, q3, q4, q5, q6⟩ := q
  have hs := g.b.all i hi
  have ni : ¬ (i : Int) < pl := hs.not_one (by omega)
  have Ks := (Body.some_iff _).1 f1
  have Kp := (Body.some_iff _).1 q5
  unfold struck
  dsimp only
  refine ⟨(g.b.set (stand_zero ni)).set ?_, by rw [List.length_set]; exact g.s.len, fun j hj => ?_⟩
  · rw [q4]; exact born_ok q2 h8 Kp.f
  · rw [getD_set]
    obtain ⟨a1, a2⟩ := g.s.all j hj
    split
    · rename_i e
      obtain ⟨e, _⟩ := e
      rw [← e]
      have := Ks.o
      constructor
      · split <;> omega
      · left; omega
    · exact ⟨a1, a2⟩
theorem hit1_good {pl : Int} {i : Nat} {h : H} (g : Hi pl h) (h8 : pl ≤ 8) (hi : i < 16) : Hi pl (hit1 pl i h) := by
  unfold hit1
  by_cases h2 : (h.bs.getD i Body.zero).k = 2
  · rw [if_pos h2]
    dsimp only
    by_cases hk : h.bs.findIdx (fun p => Body.hit (h.bs.getD i Body.zero) p) < 16
    · rw [if_pos hk]
      have hl : h.bs.findIdx (fun p => Body.hit (h.bs.getD i Body.zero) p) < h.bs.length := by rw [g.b.len]; exact hk
      have hh := List.findIdx_getElem (p := fun p => Body.hit (h.bs.getD i Body.zero) p) (xs := h.bs) (w := hl)
      exact struck_good g h8 hi (hits_of g hi hk h2 (by rw [List.getD_eq_getElem?_getD (l := h.bs) (i := List.findIdx _ _), List.getElem?_eq_getElem hl]; exact hh))
    · rw [if_neg hk]; exact g
  · rw [if_neg h2]; exact g
theorem hits_good {pl : Int} (h8 : pl ≤ 8) : ∀ n, n ≤ 16 → ∀ h, Hi pl h → Hi pl (hits pl n h) := by
  intro n
  induction n with
  | zero => intro _ h g; exact g
  | succ n ih => intro hn h g; exact hit1_good (ih (by omega) h g) h8 (by omega)
/-- a state that may be, told -/
structure Ok (c : Cf) (s : Gs) : Prop where
  legal : legal c = true
  pl : 1 ≤ c.pl ∧ c.pl ≤ 8
  fr : 0 ≤ s.fr ∧ s.fr ≤ 600
  b : Good c.pl s.bs
  s : GoodS c.pl s.sc
structure Wf (s : Gs) : Prop where
  b : s.bs.length = 16
  s : s.sc.length = 8
theorem legal_pl {c : Cf} (h : legal c = true) : 1 ≤ c.pl ∧ c.pl ≤ 8 := by
  unfold legal at h
  simp only [Bool.and_eq_true, Body.btw, decide_eq_true_eq] at h
  exact h.1
theorem right_iff {c : Cf} {s : Gs} (w : Wf s) : right c s = true ↔ Ok c s := by
  unfold right
  simp only [Bool.and_eq_true, Body.btw, decide_eq_true_eq, okB_iff, okS_iff]
  constructor
  · rintro ⟨h1, h2, h3, h4⟩
    exact ⟨h1, legal_pl h1, h2, ⟨w.b, h3⟩, ⟨w.s, h4⟩⟩
  · rintro ⟨h1, h2, h3, h4, h5⟩
    exact ⟨h1, h3, h4.all, h5.all⟩
/-- behind a Step -/
theorem Ok.step {c : Cf} {s : Gs} (h : Ok c s) (row : List Cl) : Ok c (Step.step c s row) ∧ (Step.step c s row).fr = if s.fr + 1 ≤ 600 then s.fr + 1 else 600 := by
  have hr : right c s = true := (right_iff ⟨h.b.len, h.s.len⟩).2 h
  unfold Step.step
  rw [if_pos hr]
  have I := mInv c.rules row s.d h.b 16 (Nat.le_refl _)
  generalize moves c.rules row s.bs s.d 16 = m at *
  have G := hits_good h.pl.2 16 (Nat.le_refl _) ⟨puts m.bs m.sh, s.sc⟩ ⟨puts_good _ I.good I.shots I.room, h.s⟩
  dsimp only
  generalize hits c.pl 16 ⟨puts m.bs m.sh, s.sc⟩ = x at *
  refine ⟨⟨h.legal, h.pl, ?_, G.b, G.s⟩, rfl⟩
  have := h.fr
  show 0 ≤ (if s.fr + 1 ≤ 600 then s.fr + 1 else 600) ∧ (if s.fr + 1 ≤ 600 then s.fr + 1 else 600) ≤ 600
  split <;> omega
theorem zero_wf : Wf zero := ⟨rfl, rfl⟩
theorem step_wf {c : Cf} {s : Gs} (h : Wf s) (row : List Cl) : Wf (step c s row) := by
  by_cases hr : right c s = true
  · have := (((right_iff h).1 hr).step row).1
    exact ⟨this.b.len, this.s.len⟩
  · unfold step; rw [if_neg hr]; exact zero_wf
end Step
end Go.Proofs.Ytngbannidbijmaa

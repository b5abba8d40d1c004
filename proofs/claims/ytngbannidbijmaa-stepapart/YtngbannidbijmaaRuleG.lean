/- Package rule: what a run keeps; runs of straight ops. -/
import Derived.Test.YtngbannidbijmaaGRuleE
namespace Go.Proofs.Ytngbannidbijmaa
open Go.RowKit
set_option linter.unusedVariables false

/-- what is so of whatever a run comes to -/
def GoInv (l : List Op3) (k : Nat) (e : Ev) : Rule.Out → Prop
  | .fault c a => 1 ≤ c ∧ c ≤ 7 ∧ 0 ≤ a ∧ a < l.length
  | .done e' => Keeps k e e'
theorem Keeps.more {a b : Int} {e e' : Ev} (h : Keeps a e e') (hab : a ≤ b) : Keeps b e e' := by
  obtain ⟨l, h1, h2, h3, h4⟩ := h.sh
  exact ⟨h.ok, h.k, h.o, h.age, h.f, h.t, h.ix, h.iy, h.room, l, h1, by omega, h3, h4⟩
theorem go_inv (l : List Op3) : ∀ (k : Nat) (a : Int) (e : Ev), 0 ≤ a → a ≤ l.length → GoInv l k e (Rule.go l k a e) := by
  intro k
  induction k with
  | zero =>
    intro a e h0 h1
    by_cases h : a < l.length
    · rw [go_0 h]; exact ⟨by decide, by decide, h0, h⟩
    · rw [go_end h]; exact (Keeps.refl e).more (by simp)
  | succ k ih =>
    intro a e h0 h1
    by_cases h : a < l.length
    · cases hact : Rule.act l.length a (l.getD a.toNat ⟨0, 0, 0⟩) e with
      | fault c =>
        rw [go_f h hact]
        have := act_fault hact
        exact ⟨this.1, this.2, h0, h⟩
      | next e' a' =>
        rw [go_n h hact]
        obtain ⟨K, b0, b1⟩ := act_next hact h0 h
        have := ih a' e' b0 b1
        cases hg : Rule.go l k a' e' with
        | fault c b => rw [hg] at this; exact this
        | done e2 =>
          rw [hg] at this
          exact (K.trans this).more (by omega)
    · rw [go_end h]; exact (Keeps.refl e).more (by omega)

/-- no Zero, no Jump, no Stop -/
def Straight (o : Op3) : Prop := o.c ≠ 9 ∧ o.c ≠ 10 ∧ o.c ≠ 13
/-- what such an op comes to: a fault, or what is then -/
def Rule.stp (o : Op3) (e : Ev) : Int ⊕ Ev := match Rule.act 0 0 o e with
  | .fault c => .inl c
  | .next e' _ => .inr e'
theorem act_straight {o : Op3} (h : Straight o) (n at_ : Int) (e : Ev) : Rule.act n at_ o e = match Rule.stp o e with
    | .inl c => .fault c
    | .inr e' => .next e' (at_ + 1) := by
  obtain ⟨h9, h10, h13⟩ := h
  unfold Rule.stp Rule.act
  by_cases q1 : o.c = 1
  · simp only [if_pos q1]
    by_cases q : Rule.is o.a = true
    · simp only [if_pos q]
    · simp only [if_neg q]
  simp only [if_neg q1]
  by_cases q2 : 2 ≤ o.c ∧ o.c ≤ 6
  · simp only [if_pos q2]
    by_cases q : (Rule.is o.a && Rule.is o.b) = true
    · simp only [if_pos q]
      by_cases r : o.c = 6 ∧ Rule.reg e.b o.b = 0
      · simp only [if_pos r]
      · simp only [if_neg r]
    · simp only [if_neg q]
  simp only [if_neg q2]
  by_cases q7 : o.c = 7
  · simp only [if_pos q7]
    by_cases q : Rule.is o.a = true
    · simp only [if_pos q]
      by_cases r : Body.btw o.b 0 7 = true
      · simp only [if_pos r]
      · simp only [if_neg r]
    · simp only [if_neg q]
  simp only [if_neg q7]
  by_cases q8 : o.c = 8
  · simp only [if_pos q8]
    by_cases q : Rule.is o.b = true
    · simp only [if_pos q]
      by_cases r : Rule.is o.a = true
      · simp only [if_pos r]
      · simp only [if_neg r]
    · simp only [if_neg q]
  simp only [if_neg q8, if_neg h9, if_neg h10]
  by_cases q11 : o.c = 11
  · simp only [if_pos q11]
    by_cases q : (Rule.is o.a && Rule.is o.b) = true
    · simp only [if_pos q]
      by_cases r : 1 ≤ Rule.reg e.b o.b
      · simp only [if_pos r]
      · simp only [if_neg r]
    · simp only [if_neg q]
  simp only [if_neg q11]
  by_cases q12 : o.c = 12
  · simp only [if_pos q12]
    by_cases q : (Rule.is o.a && Rule.is o.b) = true
    · simp only [if_pos q]
      by_cases r : (e.sh.length : Int) < e.room
      · simp only [if_pos r]
      · simp only [if_neg r]
    · simp only [if_neg q]
  simp only [if_neg q12, if_neg h13]
/-- straight ops, one behind the other -/
def Rule.lin : List Op3 → Int → Ev → Rule.Out
  | [], _, e => .done e
  | o :: r, i, e => match Rule.stp o e with
    | .inl c => .fault c i
    | .inr e' => Rule.lin r (i + 1) e'
theorem go_lin (p : List Op3) : ∀ (pre rest : List Op3) (k : Nat) (e : Ev), (∀ o ∈ p, Straight o) →
    Rule.go (pre ++ p ++ rest) (p.length + k) pre.length e = match Rule.lin p pre.length e with
      | .fault c a => .fault c a
      | .done e' => Rule.go (pre ++ p ++ rest) k (pre.length + p.length : Nat) e' := by
  induction p with
  | nil => intro pre rest k e _; simp [Rule.lin]
  | cons o p ih =>
    intro pre rest k e hs
    have hlt : ((pre.length : Nat) : Int) < ((pre ++ o :: p ++ rest).length : Nat) := by simp; omega
    have hget : (pre ++ o :: p ++ rest).getD ((pre.length : Nat) : Int).toNat ⟨0, 0, 0⟩ = o := by simp [List.getD_eq_getElem?_getD]
    have ha := act_straight (hs o (by simp)) ((pre ++ o :: p ++ rest).length : Nat) pre.length e
    rw [show (o :: p).length + k = (p.length + k) + 1 by simp; omega]
    rw [Rule.lin]
    cases hst : Rule.stp o e with
    | inl c =>
      rw [hst] at ha
      exact go_f hlt (by rw [hget]; exact ha)
    | inr e' =>
      rw [hst] at ha
      rw [go_n hlt (by rw [hget]; exact ha)]
      have := ih (pre ++ [o]) rest k e' (fun x hx => hs x (by simp [hx]))
      simp only [List.append_assoc, List.length_append, List.length_singleton, List.cons_append, List.nil_append] at this ⊢
      rw [show ((pre.length : Nat) : Int) + 1 = ((pre.length + 1 : Nat) : Int) by simp]
      rw [this]
      simp only [List.length_cons, show pre.length + 1 + p.length = pre.length + (p.length + 1) by omega]
/-- a run of straight ops alone -/
theorem go_run (p : List Op3) (e : Ev) (hs : ∀ o ∈ p, Straight o) (hl : p.length ≤ 64) : Rule.go p 64 0 e = Rule.lin p 0 e := by
  have := go_lin p [] [] (64 - p.length) e hs
  simp only [List.nil_append, List.append_nil, List.length_nil, Nat.zero_add] at this
  rw [show p.length + (64 - p.length) = 64 by omega] at this
  rw [show (0 : Int) = ((0 : Nat) : Int) by rfl, this]
  cases Rule.lin p ((0 : Nat) : Int) e with
  | fault c a => rfl
  | done e' => exact go_end (by omega)
/-- .. with a Stop behind them, and whatever behind that -/
theorem go_stop (p q : List Op3) (s : Op3) (e : Ev) (hs : ∀ o ∈ p, Straight o) (hl : p.length ≤ 63) (h13 : s.c = 13) : Rule.go (p ++ s :: q) 64 0 e = Rule.lin p 0 e := by
  have := go_lin p [] (s :: q) (64 - p.length) e hs
  simp only [List.nil_append, List.length_nil, Nat.zero_add] at this
  rw [show p.length + (64 - p.length) = 64 by omega] at this
  rw [show (0 : Int) = ((0 : Nat) : Int) by rfl, this]
  cases Rule.lin p ((0 : Nat) : Int) e with
  | fault c a => rfl
  | done e' =>
    have ha : Rule.act ((p ++ s :: q).length : Nat) (p.length : Nat) s e' = .next e' ((p ++ s :: q).length : Nat) := by simp [Rule.act, h13]
    show Rule.go (p ++ s :: q) (64 - p.length) (p.length : Nat) e' = .done e'
    rw [show 64 - p.length = (63 - p.length) + 1 by omega]
    rw [go_n (by simp; omega) (by rw [show (p ++ s :: q).getD ((p.length : Nat) : Int).toNat ⟨0, 0, 0⟩ = s by simp [List.getD_eq_getElem?_getD]]; exact ha)]
    exact go_end (by omega)
/-- .. and others -/
theorem go_both (p q : List Op3) (e : Ev) (hs : ∀ o ∈ p, Straight o) (ht : ∀ o ∈ q, Straight o) (hl : p.length + q.length ≤ 64) : Rule.go (p ++ q) 64 0 e = match Rule.lin p 0 e with
    | .fault c a => .fault c a
    | .done e' => Rule.lin q p.length e' := by
  have := go_lin p [] q (64 - p.length) e hs
  simp only [List.nil_append, List.length_nil, Nat.zero_add] at this
  rw [show p.length + (64 - p.length) = 64 by omega] at this
  rw [show (0 : Int) = ((0 : Nat) : Int) by rfl, this]
  cases Rule.lin p ((0 : Nat) : Int) e with
  | fault c a => rfl
  | done e' =>
    have := go_lin q p [] (64 - p.length - q.length) e' ht
    simp only [List.append_nil] at this
    rw [show q.length + (64 - p.length - q.length) = 64 - p.length by omega] at this
    show Rule.go (p ++ q) (64 - p.length) (p.length : Nat) e' = _
    rw [this]
    show _ = Rule.lin q p.length e'
    generalize Rule.lin q p.length e' = r
    cases r with
    | fault c a => rfl
    | done e2 => exact go_end (by simp)
/-- where they begin tells nothing but the place of a fault -/
theorem lin_at (q : List Op3) : ∀ (i j : Int) (e : Ev), (∃ c a b, Rule.lin q i e = .fault c a ∧ Rule.lin q j e = .fault c b) ∨ ∃ e', Rule.lin q i e = .done e' ∧ Rule.lin q j e = .done e' := by
  induction q with
  | nil => intro i j e; exact Or.inr ⟨e, rfl, rfl⟩
  | cons o q ih =>
    intro i j e
    rw [Rule.lin, Rule.lin]
    cases Rule.stp o e with
    | inl c => exact Or.inl ⟨c, i, j, rfl, rfl⟩
    | inr e' => exact ih (i + 1) (j + 1) e'
end Go.Proofs.Ytngbannidbijmaa

/- A region that draws its order, whose operations make memory and turn what others made: each one takes what it turns from the one that made it (a block is of one operation at a time); the last ones wait on all the others. -/
import Derived.Test.YtnicjbllkdpgcaaRegF
import Derived.Test.YtnicjbllkdpgcaaOnly
namespace Go.Proofs.Ytnicjbllkdpgcaa
open Go.RowKit

/-- what an operation comes to: which ones' memory it takes (C), of which ones' values it speaks (D); what is known of its value; what is so of memory then, in which blocks -/
structure Ls where
  C : List Nat
  D : List Nat
  P : Value → List Value → Prop
  M : World → Value → List Value → Prop
  F : Value → List Value → List Nat
abbrev EntL := List (Nat × Option Tmp × Ls)
@[simp] def lookL : EntL → Nat → Option (Option Tmp × Ls)
  | [], _ => none
  | (k, x) :: r, j => if k = j then some x else lookL r j
@[simp] def valL (f : Nat → Value) (a : Act) (k : Nat) : Option Tmp → Value
  | some d => a.tmps.getD d undef
  | none => f k
@[simp] def FxL (sps : EntL) (f : Nat → Value) (a : Act) : List Edge → Prop
  | [] => True
  | e :: es => (match lookL sps e.on with
      | some (d, s) => Region.binds .any e = true → f e.on = valL f a e.on d ∧ s.P (valL f a e.on d) (s.D.map f)
      | none => True) ∧ FxL sps f a es
@[simp] def FpL (sps : EntL) (f : Nat → Value) (a : Act) (k : Nat) : List Nat := match lookL sps k with
  | some (d, s) => s.F (valL f a k d) (s.D.map f)
  | none => []
@[simp] def MpL (sps : EntL) (f : Nat → Value) (a : Act) (w : World) (k : Nat) : Prop := match lookL sps k with
  | some (d, s) => s.M w (valL f a k d) (s.D.map f)
  | none => True
@[simp] def CxL (sps : EntL) (f : Nat → Value) (a : Act) (w : World) (N : Nat) : List Nat → Prop
  | [] => True
  | k :: ks => MpL sps f a w k ∧ (∀ g ∈ FpL sps f a k, N ≤ g ∧ g < w.heap.size) ∧ (∀ k' ∈ ks, ∀ g ∈ FpL sps f a k, g ∉ FpL sps f a k') ∧ CxL sps f a w N ks
def postL (s : Ls) (ds : List Value) (S : List Nat) (w : World) (v : Value) (w' : World) : Prop :=
  s.P v ds ∧ s.M w' v ds ∧ Only S w w' ∧ ∀ g ∈ s.F v ds, (g ∈ S ∨ w.heap.size ≤ g) ∧ g < w'.heap.size
@[simp] def effL (P : Program) (post : Value → World → Prop) : Result Next → Prop
  | .ok (.value v) w' => post v w'
  | .ok .skip w' => post undef w'
  | .ok (.enter f args) w' => Calls P f args w' fun e w'' => ∃ v, e = .returned v ∧ post v w''
  | _ => False
@[simp] def putsL (f : Nat → Value) (a0 : Act) : EntL → Act
  | [] => a0
  | (k, d, _) :: r => (putsL f a0 r).put d (f k)
@[simp] def FinL (cons : List Nat) (f : Nat → Value) (w : World) : EntL → Prop
  | [] => True
  | (k, _, s) :: r => s.P (f k) (s.D.map f) ∧ (cons.contains k = false → s.M w (f k) (s.D.map f)) ∧ FinL cons f w r
/-- what is so of memory there hangs on its blocks alone -/
def LocL (s : Ls) : Prop := ∀ w w' S v ds, Only S w w' → (∀ g ∈ s.F v ds, g ∉ S) → s.M w v ds → s.M w' v ds
section
variable (P : Program) (base : List (Nat × Value)) (K : Act → World → Prop) (a0 : Act) (w0 : World) (ops : Array Oper)
def EffL (sps : EntL) (o : Oper) (s : Ls) : Prop := ∀ f a w, Only [] w0 w → (∀ p ∈ base, a.tmps.getD p.1 undef = p.2) → FxL sps f a o.after.toList → CxL sps f a w w0.heap.size s.C →
  effL P (postL s (s.D.map f) (s.C.flatMap (FpL sps f a)) w) ((execOp a.eval o).run P w)
def RL : Nat → List Oper → EntL → List Nat → Prop
  | _, [], sps, cons => ∀ f w, Only [] w0 w → FinL cons f w sps → K (putsL f a0 sps) w
  | k, o :: rest, sps, cons => ∃ s : Ls, o.guard = none ∧ (s.C.all fun c => waits ops k c && !cons.contains c) = true ∧ s.C.Nodup ∧ (s.D.all fun c => waits ops k c) = true ∧ LocL s ∧ EffL P base w0 sps o s ∧ RL (k + 1) rest ((k, o.dst, s) :: sps) (s.C ++ cons)
end
def entsL (ops : Array Oper) (sp : Nat → Ls) : Nat → EntL
  | 0 => []
  | i + 1 => (i, (ops[i]?).bind (·.dst), sp i) :: entsL ops sp i
def consL (sp : Nat → Ls) : Nat → List Nat
  | 0 => []
  | i + 1 => (sp i).C ++ consL sp i
theorem look_entsL (ops : Array Oper) (sp : Nat → Ls) (i j : Nat) : lookL (entsL ops sp i) j = if j < i then some ((ops[j]?).bind (·.dst), sp j) else none := by
  induction i with
  | zero => simp [entsL, lookL]
  | succ i ih =>
    rw [entsL, lookL, ih]
    by_cases h : i = j
    · subst h; simp
    · rw [if_neg h]
      by_cases h2 : j < i
      · rw [if_pos h2, if_pos (by omega)]
      · rw [if_neg h2, if_neg (by omega)]
theorem mem_consL (sp : Nat → Ls) (n k : Nat) : k ∈ consL sp n ↔ ∃ i, i < n ∧ k ∈ (sp i).C := by
  induction n with
  | zero => simp [consL]
  | succ n ih =>
    rw [consL, List.mem_append, ih]
    constructor
    · rintro (h | ⟨i, h1, h2⟩)
      · exact ⟨n, by omega, h⟩
      · exact ⟨i, by omega, h2⟩
    · rintro ⟨i, h1, h2⟩
      by_cases e : i = n
      · subst e; exact Or.inl h2
      · exact Or.inr ⟨i, by omega, h2⟩
section
variable {P : Program} {base : List (Nat × Value)} {K : Act → World → Prop} {a0 : Act} {w0 : World} {ops : Array Oper} {sps : EntL} {cons : List Nat} {k : Nat} {o : Oper} {rest : List Oper}
structure PlanL (P : Program) (base : List (Nat × Value)) (w0 : World) (ops : Array Oper) (sp : Nat → Ls) (n : Nat) : Prop where
  guard : ∀ i o, i < n → ops[i]? = some o → o.guard = none
  cw : ∀ i, i < n → ∀ c ∈ (sp i).C, waits ops i c = true
  once : ∀ i i', i < n → i' < n → i ≠ i' → ∀ c ∈ (sp i).C, c ∉ (sp i').C
  dw : ∀ i, i < n → ∀ c ∈ (sp i).D, waits ops i c = true
  nd : ∀ i, i < n → (sp i).C.Nodup
  loc : ∀ i, i < n → LocL (sp i)
  eff : ∀ i o, i < n → ops[i]? = some o → EffL P base w0 (entsL ops sp i) o (sp i)

theorem RL.plan : ∀ (rest : List Oper) (k : Nat) (sp0 : Nat → Ls), (∀ i, i < rest.length → rest[i]? = ops[k + i]?) → PlanL P base w0 ops sp0 k → RL P base K a0 w0 ops k rest (entsL ops sp0 k) (consL sp0 k) →
    ∃ sp, PlanL P base w0 ops sp (k + rest.length) ∧ ∀ f w, Only [] w0 w → FinL (consL sp (k + rest.length)) f w (entsL ops sp (k + rest.length)) → K (putsL f a0 (entsL ops sp (k + rest.length))) w := by
  intro rest
  induction rest with
  | nil => intro k sp0 _ hp h; exact ⟨sp0, by simpa using hp, by simpa [RL] using h⟩
  | cons o rest ih =>
    intro k sp0 hr hp h
    have ho : ops[k]? = some o := by have := hr 0 (by simp); simpa using this.symm
    have hrest : ∀ i, i < rest.length → rest[i]? = ops[k + 1 + i]? := fun i hi => by have := hr (i + 1) (by simpa using hi); rw [show k + 1 + i = k + (i + 1) by omega, ← this]; simp
    obtain ⟨s, hg, hc, hnd, hd, hl, he, hr2⟩ := h
    have se : ∀ i, i ≤ k → entsL ops (fun j => if j = k then s else sp0 j) i = entsL ops sp0 i := by
      intro i
      induction i with
      | zero => intro _; rfl
      | succ i ih2 => intro hi; rw [entsL, entsL, ih2 (by omega), if_neg (by omega)]
    have ce : ∀ i, i ≤ k → consL (fun j => if j = k then s else sp0 j) i = consL sp0 i := by
      intro i
      induction i with
      | zero => intro _; rfl
      | succ i ih2 => intro hi; rw [consL, consL, ih2 (by omega), if_neg (by omega)]
    have sk : entsL ops (fun j => if j = k then s else sp0 j) (k + 1) = (k, o.dst, s) :: entsL ops sp0 k := by rw [entsL, se k (Nat.le_refl _), if_pos rfl, ho]; rfl
    have ck : consL (fun j => if j = k then s else sp0 j) (k + 1) = s.C ++ consL sp0 k := by rw [consL, ce k (Nat.le_refl _), if_pos rfl]
    have hc2 : ∀ c ∈ s.C, waits ops k c = true ∧ c ∉ consL sp0 k := fun c hm => by
      have := List.all_eq_true.1 hc c hm
      simp only [Bool.and_eq_true, Bool.not_eq_true'] at this
      refine ⟨this.1, fun hm2 => ?_⟩
      have h2 := List.contains_iff_mem.2 hm2
      rw [this.2] at h2; cases h2
    have hp2 : PlanL P base w0 ops (fun j => if j = k then s else sp0 j) (k + 1) := by
      refine ⟨fun i o' hi hio => ?_, fun i hi c hm => ?_, fun i i' hi hi' hne c hm hm' => ?_, fun i hi c hm => ?_, fun i hi => ?_, fun i hi => ?_, fun i o' hi hio => ?_⟩
      · by_cases e : i = k
        · subst e; rw [ho] at hio; cases hio; exact hg
        · exact hp.guard i o' (by omega) hio
      · by_cases e : i = k
        · subst e; simp only [if_true] at hm; exact (hc2 c hm).1
        · simp only [if_neg e] at hm; exact hp.cw i (by omega) c hm
      · by_cases e : i = k
        · subst e
          simp only [if_true] at hm
          simp only [if_neg (fun h => hne (Eq.symm h))] at hm'
          exact (hc2 c hm).2 ((mem_consL _ _ _).2 ⟨i', by omega, hm'⟩)
        · simp only [if_neg e] at hm
          by_cases e' : i' = k
          · subst e'
            simp only [if_true] at hm'
            exact (hc2 c hm').2 ((mem_consL _ _ _).2 ⟨i, by omega, hm⟩)
          · simp only [if_neg e'] at hm'
            exact hp.once i i' (by omega) (by omega) hne c hm hm'
      · by_cases e : i = k
        · subst e; simp only [if_true] at hm; exact List.all_eq_true.1 hd c hm
        · simp only [if_neg e] at hm; exact hp.dw i (by omega) c hm
      · by_cases e : i = k
        · simp only [if_pos e]; exact hnd
        · simp only [if_neg e]; exact hp.nd i (by omega)
      · by_cases e : i = k
        · simp only [if_pos e]; exact hl
        · simp only [if_neg e]; exact hp.loc i (by omega)
      · rw [se i (by omega)]
        by_cases e : i = k
        · subst e; rw [ho] at hio; cases hio; simpa using he
        · simp only [if_neg e]; exact hp.eff i o' (by omega) hio
    obtain ⟨sp, h1, h4⟩ := ih (k + 1) _ hrest hp2 (by rw [sk, ck]; exact hr2)
    rw [show k + 1 + rest.length = k + (o :: rest).length by simp; omega] at h1 h4
    exact ⟨sp, h1, h4⟩
end

section
variable {P : Program} {base : List (Nat × Value)} {Q : Exit → Act → World → Prop} {a0 : Act} {w0 : World} {ops : Array Oper} {sp : Nat → Ls} {f : Nat → Value} {listed : Array Bool} {a : Act} {w : World}
def freeL (sp : Nat → Ls) (listed : Array Bool) (j : Nat) : Prop := ∀ k, listed.getD k false = true → j ∉ (sp k).C
/-- where the walk stands -/
structure LInv (a0 : Act) (w0 : World) (ops : Array Oper) (sp : Nat → Ls) (f : Nat → Value) (listed : Array Bool) (a : Act) (w : World) : Prop where
  size : listed.size = ops.size
  closed : ∀ (j : Nat) (o : Oper), ops[j]? = some o → listed.getD j false = true → ∀ e ∈ o.after.toList, Region.binds .any e = true → listed.getD e.on false = true
  slots : ∀ (j : Nat) (o : Oper) (d : Nat), ops[j]? = some o → listed.getD j false = true → o.dst = some d → a.tmps.getD d undef = f j
  rest : ∀ s, (∀ (j : Nat) (o : Oper), ops[j]? = some o → listed.getD j false = true → o.dst ≠ some s) → a.tmps[s]? = a0.tmps[s]?
  sz : a.tmps.size = a0.tmps.size
  defers : a.defers = a0.defers
  later : Only [] w0 w
  pure : ∀ j, listed.getD j false = true → (sp j).P (f j) ((sp j).D.map f)
  mem : ∀ j, listed.getD j false = true → freeL sp listed j → (sp j).M w (f j) ((sp j).D.map f) ∧ ∀ g ∈ (sp j).F (f j) ((sp j).D.map f), w0.heap.size ≤ g ∧ g < w.heap.size
  apart : ∀ i j, i ≠ j → listed.getD i false = true → listed.getD j false = true → freeL sp listed i → freeL sp listed j → ∀ g ∈ (sp i).F (f i) ((sp i).D.map f), g ∉ (sp j).F (f j) ((sp j).D.map f)
end
end Go.Proofs.Ytnicjbllkdpgcaa

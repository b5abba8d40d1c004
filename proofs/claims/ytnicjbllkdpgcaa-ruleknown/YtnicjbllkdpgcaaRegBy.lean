/- A region that draws its order, operation by operation: what each one comes to hangs on those alone on which it waits; the orders are never gone through. -/
import Derived.WalkKit
import Derived.Orders
namespace Go.Proofs.Ytnicjbllkdpgcaa
open Go.RowKit

@[simp] theorem binds_data (i : Nat) : Region.binds .any { on := i, ground := .data } = true := rfl
@[simp] theorem binds_chain (i : Nat) : Region.binds .any { on := i, ground := .chain } = true := rfl
@[simp] theorem binds_guard (i : Nat) : Region.binds .any { on := i, ground := .guard } = true := rfl
@[simp] theorem binds_phase (i : Nat) : Region.binds .any { on := i, ground := .phase } = true := rfl
/-- what an operation comes to: a value; nothing, as its guard says no; something of which R holds, with memory of which J holds; a panic; a value, behind it (and from then on) I holds of memory -/
inductive Sp where
  | val (c : Value)
  | skip
  | call (R : World → Value → Prop) (J : World → Prop)
  | die
  | held (c : Value) (I : World → Prop)
@[simp] def Sp.R : Sp → World → Value → Prop
  | .val c, _, v => v = c
  | .skip, _, v => v = undef
  | .call R _, w, v => R w v
  | .die, _, _ => False
  | .held c I, w, v => v = c ∧ I w
def Sp.J (J0 : World → Prop) : Sp → World → Prop
  | .val _ => J0
  | .skip => J0
  | .call _ J => J
  | .die => fun _ => False
  | .held _ _ => J0
abbrev Ents := List (Nat × Option Tmp × Sp)
@[simp] def look : Ents → Nat → Option (Option Tmp × Sp)
  | [], _ => none
  | (k, x) :: r, j => if k = j then some x else look r j
/-- what is known of the operations on which one waits -/
@[simp] def FxE (sps : Ents) (a : Act) (w : World) : List Edge → Prop
  | [] => True
  | e :: es => (match look sps e.on with
      | some (some d, s) => Region.binds .any e = true → s.R w (a.tmps.getD d undef)
      | _ => True) ∧ FxE sps a w es
@[simp] def Fx (sps : Ents) (base : List (Nat × Value)) (o : Oper) (a : Act) (w : World) : Prop := (∀ p ∈ base, a.tmps.getD p.1 undef = p.2) ∧ FxE sps a w o.after.toList
/-- on which operations one waits, at once or by others -/
def depsOf (ops : Array Oper) (i : Nat) : List Nat := match ops[i]? with | none => [] | some o => (o.after.toList.filter fun e => Region.binds .any e).map (·.on)
def reachGo (ops : Array Oper) : Nat → List Nat → List Nat
  | 0, S => S
  | j + 1, S => reachGo ops j (if S.contains j then depsOf ops j ++ S else S)
def waits (ops : Array Oper) (k j : Nat) : Bool := (reachGo ops k (depsOf ops k)).contains j
def linked (ops : Array Oper) (last : Option Nat) (k : Nat) : Bool := match last with | none => true | some l => waits ops k l
def guardIs (ops : Array Oper) (k : Nat) (sps : Ents) (o : Oper) (b : Bool) : Prop := match o.guard with
  | none => b = true
  | some (g, want) => waits ops k g = true ∧ match look sps g with
    | some (some _, .val (.bool x)) => (x == want) = b
    | some (some _, .skip) => b = false
    | some (some _, .held (.bool x) _) => (x == want) = b
    | _ => False
@[simp] def effOk (P : Program) (T : World → World → Prop) (R : World → Value → Prop) (J : World → Prop) (w : World) : Result Next → Prop
  | .ok (.value v) w' => R w' v ∧ J w' ∧ T w w'
  | .ok .skip w' => R w' undef ∧ J w' ∧ T w w'
  | .ok (.enter f args) w' => Calls P f args w' fun e w'' => ∃ v, e = .returned v ∧ R w'' v ∧ J w'' ∧ T w w''
  | _ => False
/-- it ends in a panic of which D holds -/
@[simp] def dieOk (P : Program) (D : List PanicEntry → World → Prop) : Result Next → Prop
  | .ok (.enter f args) w' => Calls P f args w' fun e w'' => ∃ chain, e = .panicked chain ∧ D chain w''
  | .halt (.panic v) w' => D [{ v, recovered := false }] w'
  | _ => False
/-- it comes to c and leaves memory as it is; I holds of it -/
@[simp] def quietOk (P : Program) (c : Value) (I : World → Prop) (w : World) : Result Next → Prop
  | .ok (.value v) w' => v = c ∧ w' = w ∧ I w
  | .ok (.enter f args) w' => w' = w ∧ I w ∧ Calls P f args w fun e w'' => e = .returned c ∧ w'' = w
  | _ => False
@[simp] def FinA : Ents → World → (Act → Prop) → Act → Prop
  | [], _, K, a => K a
  | (_, d, s) :: r, w, K, a => FinA r w (fun a' => ∀ v, s.R w v → K (a'.put d v)) a

section
variable (P : Program) (T : World → World → Prop) (base : List (Nat × Value)) (Q : Exit → Act → World → Prop) (a0 : Act) (w0 : World) (ops : Array Oper) (D : List PanicEntry → World → Prop)
def ValOk (sps : Ents) (o : Oper) (c : Value) : Prop := ∀ a w, T w0 w → Fx sps base o a w → (execOp a.eval o).run P w = .ok (.value c) w
def CallOk (sps : Ents) (J : World → Prop) (o : Oper) (R : World → Value → Prop) (J' : World → Prop) : Prop :=
  (∀ w w' v, T w w' → R w v → R w' v) ∧ ∀ a w, J w → T w0 w → Fx sps base o a w → effOk P T R J' w ((execOp a.eval o).run P w)
def DieOk (sps : Ents) (J : World → Prop) (o : Oper) : Prop := ∀ a w, J w → T w0 w → Fx sps base o a w → dieOk P D ((execOp a.eval o).run P w)
def HeldOk (sps : Ents) (o : Oper) (c : Value) (I : World → Prop) : Prop := (∀ w w', T w w' → I w → I w') ∧ ∀ a w, T w0 w → Fx sps base o a w → quietOk P c I w ((execOp a.eval o).run P w)
/-- one operation after the other, in the order of the text -/
def RB : Nat → List Oper → Ents → (World → Prop) → Option Nat → Prop
  | _, [], sps, J, _ => ∀ w, J w → T w0 w → FinA sps w (fun a => Q .normal a w) a0
  | k, o :: rest, sps, J, last =>
    (∃ c, guardIs ops k sps o true ∧ ValOk P T base w0 sps o c ∧ RB (k + 1) rest ((k, o.dst, .val c) :: sps) J last) ∨
    (guardIs ops k sps o false ∧ RB (k + 1) rest ((k, o.dst, .skip) :: sps) J (if linked ops last k then some k else last)) ∨
    (∃ R J', guardIs ops k sps o true ∧ linked ops last k = true ∧ CallOk P T base w0 sps J o R J' ∧ RB (k + 1) rest ((k, o.dst, .call R J') :: sps) J' (some k)) ∨
    (guardIs ops k sps o true ∧ linked ops last k = true ∧ DieOk P T base w0 D sps J o ∧ RB (k + 1) rest ((k, o.dst, .die) :: sps) (fun _ => False) (some k)) ∨
    (∃ c I, guardIs ops k sps o true ∧ HeldOk P T base w0 sps o c I ∧ RB (k + 1) rest ((k, o.dst, .held c I) :: sps) J last)
end
section
variable {P : Program} {T : World → World → Prop} {base : List (Nat × Value)} {Q : Exit → Act → World → Prop} {a0 : Act} {w0 : World} {ops : Array Oper} {D : List PanicEntry → World → Prop} {sps : Ents} {k : Nat} {o : Oper} {rest : List Oper} {J : World → Prop} {last : Option Nat}
theorem rb_val (c : Value) (hg : guardIs ops k sps o true) (h : ∀ a w, T w0 w → Fx sps base o a w → (execOp a.eval o).run P w = .ok (.value c) w) (hr : RB P T base Q a0 w0 ops D (k + 1) rest ((k, o.dst, .val c) :: sps) J last) : RB P T base Q a0 w0 ops D k (o :: rest) sps J last := Or.inl ⟨c, hg, h, hr⟩
theorem rb_skip (hg : guardIs ops k sps o false) (hr : RB P T base Q a0 w0 ops D (k + 1) rest ((k, o.dst, .skip) :: sps) J (if linked ops last k then some k else last)) : RB P T base Q a0 w0 ops D k (o :: rest) sps J last := Or.inr (Or.inl ⟨hg, hr⟩)
theorem rb_call (R : World → Value → Prop) (J' : World → Prop) (hg : guardIs ops k sps o true) (hl : linked ops last k = true) (hs : ∀ w w' v, T w w' → R w v → R w' v) (h : ∀ a w, J w → T w0 w → Fx sps base o a w → effOk P T R J' w ((execOp a.eval o).run P w))
    (hr : RB P T base Q a0 w0 ops D (k + 1) rest ((k, o.dst, .call R J') :: sps) J' (some k)) : RB P T base Q a0 w0 ops D k (o :: rest) sps J last := Or.inr (Or.inr (Or.inl ⟨R, J', hg, hl, ⟨hs, h⟩, hr⟩))
theorem rb_die (hg : guardIs ops k sps o true) (hl : linked ops last k = true) (h : ∀ a w, J w → T w0 w → Fx sps base o a w → dieOk P D ((execOp a.eval o).run P w))
    (hr : RB P T base Q a0 w0 ops D (k + 1) rest ((k, o.dst, .die) :: sps) (fun _ => False) (some k)) : RB P T base Q a0 w0 ops D k (o :: rest) sps J last := Or.inr (Or.inr (Or.inr (Or.inl ⟨hg, hl, h, hr⟩)))

theorem rb_held (c : Value) (I : World → Prop) (hg : guardIs ops k sps o true) (hs : ∀ w w', T w w' → I w → I w') (h : ∀ a w, T w0 w → Fx sps base o a w → quietOk P c I w ((execOp a.eval o).run P w))
    (hr : RB P T base Q a0 w0 ops D (k + 1) rest ((k, o.dst, .held c I) :: sps) J last) : RB P T base Q a0 w0 ops D k (o :: rest) sps J last := Or.inr (Or.inr (Or.inr (Or.inr ⟨c, I, hg, ⟨hs, h⟩, hr⟩)))

/-- the list of what is known ahead of the i-th operation -/
def entsTo (ops : Array Oper) (sp : Nat → Sp) : Nat → Ents
  | 0 => []
  | i + 1 => (i, (ops[i]?).bind (·.dst), sp i) :: entsTo ops sp i
theorem look_entsTo (ops : Array Oper) (sp : Nat → Sp) (i j : Nat) : look (entsTo ops sp i) j = if j < i then some ((ops[j]?).bind (·.dst), sp j) else none := by
  induction i with
  | zero => simp [entsTo, look]
  | succ i ih =>
    rw [entsTo, look, ih]
    by_cases h : i = j
    · subst h; simp
    · rw [if_neg h]
      by_cases h2 : j < i
      · rw [if_pos h2, if_pos (by omega)]
      · rw [if_neg h2, if_neg (by omega)]

/-- all that the walk in the order of the text has shown -/
structure Plan (P : Program) (T : World → World → Prop) (base : List (Nat × Value)) (w0 : World) (ops : Array Oper) (D : List PanicEntry → World → Prop) (sp : Nat → Sp) (Jb : Nat → World → Prop) (lb : Nat → Option Nat) (n : Nat) : Prop where
  guard : ∀ i o, i < n → ops[i]? = some o → guardIs ops i (entsTo ops sp i) o (match sp i with | .skip => false | _ => true)
  val : ∀ i o c, i < n → ops[i]? = some o → sp i = .val c → ValOk P T base w0 (entsTo ops sp i) o c
  call : ∀ i o R J', i < n → ops[i]? = some o → sp i = .call R J' → CallOk P T base w0 (entsTo ops sp i) (Jb i) o R J' ∧ lb (i + 1) = some i
  die : ∀ i o, i < n → ops[i]? = some o → sp i = .die → DieOk P T base w0 D (entsTo ops sp i) (Jb i) o ∧ lb (i + 1) = some i
  held : ∀ i o c I, i < n → ops[i]? = some o → sp i = .held c I → HeldOk P T base w0 (entsTo ops sp i) o c I
  next : ∀ i, i < n → Jb (i + 1) = (sp i).J (Jb i)
  last : ∀ i o, i < n → ops[i]? = some o → (lb (i + 1) = some i ∧ linked ops (lb i) i = true) ∨ (lb (i + 1) = lb i ∧ Jb (i + 1) = Jb i)

theorem RB.plan : ∀ (rest : List Oper) (k : Nat) (sp0 : Nat → Sp) (Jb0 : Nat → World → Prop) (lb0 : Nat → Option Nat),
    (∀ i, i < rest.length → rest[i]? = ops[k + i]?) → Plan P T base w0 ops D sp0 Jb0 lb0 k → RB P T base Q a0 w0 ops D k rest (entsTo ops sp0 k) (Jb0 k) (lb0 k) →
    ∃ sp Jb lb, Plan P T base w0 ops D sp Jb lb (k + rest.length) ∧ lb 0 = lb0 0 ∧ Jb 0 = Jb0 0 ∧ ∀ w, Jb (k + rest.length) w → T w0 w → FinA (entsTo ops sp (k + rest.length)) w (fun a => Q .normal a w) a0 := by
  intro rest
  induction rest with
  | nil =>
    intro k sp0 Jb0 lb0 _ hp h
    exact ⟨sp0, Jb0, lb0, by simpa using hp, rfl, rfl, by simpa [RB] using h⟩
  | cons o rest ih =>
    intro k sp0 Jb0 lb0 hr hp h
    have ho : ops[k]? = some o := by have := hr 0 (by simp); simpa using this.symm
    have hrest : ∀ i, i < rest.length → rest[i]? = ops[k + 1 + i]? := fun i hi => by have := hr (i + 1) (by simpa using hi); rw [show k + 1 + i = k + (i + 1) by omega, ← this]; simp
    -- one more
    have key : ∀ (s : Sp) (l : Option Nat), guardIs ops k (entsTo ops sp0 k) o (match s with | .skip => false | _ => true) →
        (∀ c, s = .val c → ValOk P T base w0 (entsTo ops sp0 k) o c) → (∀ R J', s = .call R J' → CallOk P T base w0 (entsTo ops sp0 k) (Jb0 k) o R J' ∧ l = some k) → (s = .die → DieOk P T base w0 D (entsTo ops sp0 k) (Jb0 k) o ∧ l = some k) → (∀ c I, s = .held c I → HeldOk P T base w0 (entsTo ops sp0 k) o c I) →
        ((l = some k ∧ linked ops (lb0 k) k = true) ∨ (l = lb0 k ∧ s.J (Jb0 k) = Jb0 k)) → RB P T base Q a0 w0 ops D (k + 1) rest ((k, o.dst, s) :: entsTo ops sp0 k) (s.J (Jb0 k)) l →
        ∃ sp Jb lb, Plan P T base w0 ops D sp Jb lb (k + (o :: rest).length) ∧ lb 0 = lb0 0 ∧ Jb 0 = Jb0 0 ∧ ∀ w, Jb (k + (o :: rest).length) w → T w0 w → FinA (entsTo ops sp (k + (o :: rest).length)) w (fun a => Q .normal a w) a0 := by
      intro s l g1 g2 g3 g3d g3h g4 g5
      have se : ∀ i, i ≤ k → entsTo ops (fun j => if j = k then s else sp0 j) i = entsTo ops sp0 i := by
        intro i
        induction i with
        | zero => intro _; rfl
        | succ i ih2 => intro hi; rw [entsTo, entsTo, ih2 (by omega), if_neg (by omega)]
      have sk : entsTo ops (fun j => if j = k then s else sp0 j) (k + 1) = (k, o.dst, s) :: entsTo ops sp0 k := by rw [entsTo, se k (Nat.le_refl _), if_pos rfl, ho]; rfl
      have hp2 : Plan P T base w0 ops D (fun j => if j = k then s else sp0 j) (fun j => if j = k + 1 then s.J (Jb0 k) else Jb0 j) (fun j => if j = k + 1 then l else lb0 j) (k + 1) := by
        refine ⟨fun i o' hi hio => ?_, fun i o' c hi hio hc => ?_, fun i o' R J' hi hio hc => ?_, fun i o' hi hio hc => ?_, fun i o' c I hi hio hc => ?_, fun i hi => ?_, fun i o' hi hio => ?_⟩
        · rw [se i (by omega)]
          by_cases e : i = k
          · subst e; rw [ho] at hio; cases hio; simpa using g1
          · simp only [if_neg e]; exact hp.guard i o' (by omega) hio
        · rw [se i (by omega)]
          by_cases e : i = k
          · subst e; rw [ho] at hio; cases hio; exact g2 c (by simpa using hc)
          · simp only [if_neg e] at hc; exact hp.val i o' c (by omega) hio hc
        · rw [se i (by omega)]
          by_cases e : i = k
          · subst e; rw [ho] at hio; cases hio
            have := g3 R J' (by simpa using hc)
            simpa using this
          · simp only [if_neg e] at hc
            have := hp.call i o' R J' (by omega) hio hc
            rw [if_neg (by omega), if_neg (by omega)]; exact this
        · rw [se i (by omega)]
          by_cases e : i = k
          · subst e; rw [ho] at hio; cases hio
            have := g3d (by simpa using hc)
            simpa using this
          · simp only [if_neg e] at hc
            have := hp.die i o' (by omega) hio hc
            rw [if_neg (by omega), if_neg (by omega)]; exact this
        · rw [se i (by omega)]
          by_cases e : i = k
          · subst e; rw [ho] at hio; cases hio; exact g3h c I (by simpa using hc)
          · simp only [if_neg e] at hc; exact hp.held i o' c I (by omega) hio hc
        · by_cases e : i = k
          · subst e; simp
          · rw [if_neg (by omega), if_neg e, if_neg (by omega)]; exact hp.next i (by omega)
        · by_cases e : i = k
          · subst e; rw [ho] at hio; cases hio
            rw [if_pos rfl, if_neg (by omega), if_pos rfl, if_neg (by omega)]
            exact g4
          · rw [if_neg (by omega), if_neg (by omega), if_neg (by omega), if_neg (by omega)]; exact hp.last i o' (by omega) hio
      obtain ⟨sp, Jb, lb, h1, h2, h3, h4⟩ := ih (k + 1) _ _ _ hrest hp2 (by rw [sk]; simpa using g5)
      rw [show k + 1 + rest.length = k + (o :: rest).length by simp; omega] at h1 h4
      exact ⟨sp, Jb, lb, h1, by rw [h2, if_neg (by omega)], by rw [h3, if_neg (by omega)], h4⟩
    rw [RB] at h
    rcases h with ⟨c, h1, h2, h3⟩ | ⟨h1, h3⟩ | ⟨R, J', h1, h2, h4, h3⟩ | ⟨h1, h2, h4, h3⟩ | ⟨c, I, h1, h4, h3⟩
    · exact key (.val c) (lb0 k) h1 (fun c' e => by cases e; exact h2) (fun _ _ e => by cases e) (fun e => by cases e) (fun _ _ e => by cases e) (Or.inr ⟨rfl, rfl⟩) h3
    · by_cases hl : linked ops (lb0 k) k = true
      · rw [if_pos hl] at h3
        exact key .skip (some k) h1 (fun _ e => by cases e) (fun _ _ e => by cases e) (fun e => by cases e) (fun _ _ e => by cases e) (Or.inl ⟨rfl, hl⟩) h3
      · rw [if_neg hl] at h3
        exact key .skip (lb0 k) h1 (fun _ e => by cases e) (fun _ _ e => by cases e) (fun e => by cases e) (fun _ _ e => by cases e) (Or.inr ⟨rfl, rfl⟩) h3
    · exact key (.call R J') (some k) h1 (fun _ e => by cases e) (fun _ _ e => by cases e; exact ⟨h4, rfl⟩) (fun e => by cases e) (fun _ _ e => by cases e) (Or.inl ⟨rfl, h2⟩) h3
    · exact key .die (some k) h1 (fun _ e => by cases e) (fun _ _ e => by cases e) (fun _ => ⟨h4, rfl⟩) (fun _ _ e => by cases e) (Or.inl ⟨rfl, h2⟩) h3
    · exact key (.held c I) (lb0 k) h1 (fun _ e => by cases e) (fun _ _ e => by cases e) (fun e => by cases e) (fun c' I' e => by cases e; exact h4) (Or.inr ⟨rfl, rfl⟩) h3
end
end Go.Proofs.Ytnicjbllkdpgcaa

/- A region that draws its order, operation by operation: what each one comes to hangs on those alone on which it waits; the orders are never gone through. A region that draws its order, operation by operation: the theorem. A region that draws its order, operation by operation: the law. A region that draws its order, whose operations may make memory in whatever order (a call, and a variable that is made beside it), and whose last ones wait on all the others. A region that draws its order, whose operations may make memory in whatever order, and some of which may end the call in a panic of which D holds; whose last ones wait on all the others. A region that draws its order, with calls one behind the other, operation by operation; its last ones wait on all the others. -/
import Derived.WalkKit
import Derived.Orders
import Derived.StillTail
namespace Go.Proofs.Ytngbannidbijmaa
open Go.RowKit

@[simp] theorem binds_data (i : Nat) : Region.binds .any { on := i, ground := .data } = true := rfl
@[simp] theorem binds_chain (i : Nat) : Region.binds .any { on := i, ground := .chain } = true := rfl
@[simp] theorem binds_guard (i : Nat) : Region.binds .any { on := i, ground := .guard } = true := rfl
@[simp] theorem binds_phase (i : Nat) : Region.binds .any { on := i, ground := .phase } = true := rfl
/-- what an operation comes to: a value; nothing, as its guard says no; something of which R holds, with memory of which J holds; a panic; a value, behind it (and from then on) I holds of memory -/
inductive Sp where
  | val (c : Value)
  | skip
  | call (R : World → Value → Prop) (J : World → Prop)
  | die
  | held (c : Value) (I : World → Prop)
@[simp] def Sp.R : Sp → World → Value → Prop
  | .val c, _, v => v = c
  | .skip, _, v => v = undef
  | .call R _, w, v => R w v
  | .die, _, _ => False
  | .held c I, w, v => v = c ∧ I w
def Sp.J (J0 : World → Prop) : Sp → World → Prop
  | .val _ => J0
  | .skip => J0
  | .call _ J => J
  | .die => fun _ => False
  | .held _ _ => J0
abbrev Ents := List (Nat × Option Tmp × Sp)
@[simp] def look : Ents → Nat → Option (Option Tmp × Sp)
  | [], _ => none
  | (k, x) :: r, j => if k = j then some x else look r j
/-- what is known of the operations on which one waits -/
@[simp] def FxE (sps : Ents) (a : Act) (w : World) : List Edge → Prop
  | [] => True
  | e :: es => (match look sps e.on with
      | some (some d, s) => Region.binds .any e = true → s.R w (a.tmps.getD d undef)
      | _ => True) ∧ FxE sps a w es
@[simp] def Fx (sps : Ents) (base : List (Nat × Value)) (o : Oper) (a : Act) (w : World) : Prop := (∀ p ∈ base, a.tmps.getD p.1 undef = p.2) ∧ FxE sps a w o.after.toList
/-- on which operations one waits, at once or by others -/
def depsOf (ops : Array Oper) (i : Nat) : List Nat := match ops[i]? with | none => [] | some o => (o.after.toList.filter fun e => Region.binds .any e).map (·.on)
def reachGo (ops : Array Oper) : Nat → List Nat → List Nat
  | 0, S => S
  | j + 1, S => reachGo ops j (if S.contains j then depsOf ops j ++ S else S)
def waits (ops : Array Oper) (k j : Nat) : Bool := (reachGo ops k (depsOf ops k)).contains j
def linked (ops : Array Oper) (last : Option Nat) (k : Nat) : Bool := match last with | none => true | some l => waits ops k l
def guardIs (ops : Array Oper) (k : Nat) (sps : Ents) (o : Oper) (b : Bool) : Prop := match o.guard with
  | none => b = true
  | some (g, want) => waits ops k g = true ∧ match look sps g with
    | some (some _, .val (.bool x)) => (x == want) = b
    | some (some _, .skip) => b = false
    | some (some _, .held (.bool x) _) => (x == want) = b
    | _ => False
@[simp] def effOk (P : Program) (T : World → World → Prop) (R : World → Value → Prop) (J : World → Prop) (w : World) : Result Next → Prop
  | .ok (.value v) w' => R w' v ∧ J w' ∧ T w w'
  | .ok .skip w' => R w' undef ∧ J w' ∧ T w w'
  | .ok (.enter f args) w' => Calls P f args w' fun e w'' => ∃ v, e = .returned v ∧ R w'' v ∧ J w'' ∧ T w w''
  | _ => False
/-- it ends in a panic of which D holds -/
@[simp] def dieOk (P : Program) (D : List PanicEntry → World → Prop) : Result Next → Prop
  | .ok (.enter f args) w' => Calls P f args w' fun e w'' => ∃ chain, e = .panicked chain ∧ D chain w''
  | .halt (.panic v) w' => D [{ v, recovered := false }] w'
  | _ => False
/-- it comes to c and leaves memory as it is; I holds of it -/
@[simp] def quietOk (P : Program) (c : Value) (I : World → Prop) (w : World) : Result Next → Prop
  | .ok (.value v) w' => v = c ∧ w' = w ∧ I w
  | .ok (.enter f args) w' => w' = w ∧ I w ∧ Calls P f args w fun e w'' => e = .returned c ∧ w'' = w
  | _ => False
@[simp] def FinA : Ents → World → (Act → Prop) → Act → Prop
  | [], _, K, a => K a
  | (_, d, s) :: r, w, K, a => FinA r w (fun a' => ∀ v, s.R w v → K (a'.put d v)) a

section
variable (P : Program) (T : World → World → Prop) (base : List (Nat × Value)) (Q : Exit → Act → World → Prop) (a0 : Act) (w0 : World) (ops : Array Oper) (D : List PanicEntry → World → Prop)
def ValOk (sps : Ents) (o : Oper) (c : Value) : Prop := ∀ a w, T w0 w → Fx sps base o a w → (execOp a.eval o).run P w = .ok (.value c) w
def CallOk (sps : Ents) (J : World → Prop) (o : Oper) (R : World → Value → Prop) (J' : World → Prop) : Prop :=
  (∀ w w' v, T w w' → R w v → R w' v) ∧ ∀ a w, J w → T w0 w → Fx sps base o a w → effOk P T R J' w ((execOp a.eval o).run P w)
def DieOk (sps : Ents) (J : World → Prop) (o : Oper) : Prop := ∀ a w, J w → T w0 w → Fx sps base o a w → dieOk P D ((execOp a.eval o).run P w)
def HeldOk (sps : Ents) (o : Oper) (c : Value) (I : World → Prop) : Prop := (∀ w w', T w w' → I w → I w') ∧ ∀ a w, T w0 w → Fx sps base o a w → quietOk P c I w ((execOp a.eval o).run P w)
/-- one operation after the other, in the order of the text -/
def RB : Nat → List Oper → Ents → (World → Prop) → Option Nat → Prop
  | _, [], sps, J, _ => ∀ w, J w → T w0 w → FinA sps w (fun a => Q .normal a w) a0
  | k, o :: rest, sps, J, last =>
    (∃ c, guardIs ops k sps o true ∧ ValOk P T base w0 sps o c ∧ RB (k + 1) rest ((k, o.dst, .val c) :: sps) J last) ∨
    (guardIs ops k sps o false ∧ RB (k + 1) rest ((k, o.dst, .skip) :: sps) J (if linked ops last k then some k else last)) ∨
    (∃ R J', guardIs ops k sps o true ∧ linked ops last k = true ∧ CallOk P T base w0 sps J o R J' ∧ RB (k + 1) rest ((k, o.dst, .call R J') :: sps) J' (some k)) ∨
    (guardIs ops k sps o true ∧ linked ops last k = true ∧ DieOk P T base w0 D sps J o ∧ RB (k + 1) rest ((k, o.dst, .die) :: sps) (fun _ => False) (some k)) ∨
    (∃ c I, guardIs ops k sps o true ∧ HeldOk P T base w0 sps o c I ∧ RB (k + 1) rest ((k, o.dst, .held c I) :: sps) J last)
end
section
variable {P : Program} {T : World → World → Prop} {base : List (Nat × Value)} {Q : Exit → Act → World → Prop} {a0 : Act} {w0 : World} {ops : Array Oper} {D : List PanicEntry → World → Prop} {sps : Ents} {k : Nat} {o : Oper} {rest : List Oper} {J : World → Prop} {last : Option Nat}
theorem rb_val (c : Value) (hg : guardIs ops k sps o true) (h : ∀ a w, T w0 w → Fx sps base o a w → (execOp a.eval o).run P w = .ok (.value c) w) (hr : RB P T base Q a0 w0 ops D (k + 1) rest ((k, o.dst, .val c) :: sps) J last) : RB P T base Q a0 w0 ops D k (o :: rest) sps J last := Or.inl ⟨c, hg, h, hr⟩
theorem rb_skip (hg : guardIs ops k sps o false) (hr : RB P T base Q a0 w0 ops D (k + 1) rest ((k, o.dst, .skip) :: sps) J (if linked ops last k then some k else last)) : RB P T base Q a0 w0 ops D k (o :: rest) sps J last := Or.inr (Or.inl ⟨hg, hr⟩)
theorem rb_call (R : World → Value → Prop) (J' : World → Prop) (hg : guardIs ops k sps o true) (hl : linked ops last k = true) (hs : ∀ w w' v, T w w' → R w v → R w' v) (h : ∀ a w, J w → T w0 w → Fx sps base o a w → effOk P T R J' w ((execOp a.eval o).run P w))
    (hr : RB P T base Q a0 w0 ops D (k + 1) rest ((k, o.dst, .call R J') :: sps) J' (some k)) : RB P T base Q a0 w0 ops D k (o :: rest) sps J last := Or.inr (Or.inr (Or.inl ⟨R, J', hg, hl, ⟨hs, h⟩, hr⟩))
theorem rb_die (hg : guardIs ops k sps o true) (hl : linked ops last k = true) (h : ∀ a w, J w → T w0 w → Fx sps base o a w → dieOk P D ((execOp a.eval o).run P w))
    (hr : RB P T base Q a0 w0 ops D (k + 1) rest ((k, o.dst, .die) :: sps) (fun _ => False) (some k)) : RB P T base Q a0 w0 ops D k (o :: rest) sps J last := Or.inr (Or.inr (Or.inr (Or.inl ⟨hg, hl, h, hr⟩)))

theorem rb_held (c : Value) (I : World → Prop) (hg : guardIs ops k sps o true) (hs : ∀ w w', T w w' → I w → I w') (h : ∀ a w, T w0 w → Fx sps base o a w → quietOk P c I w ((execOp a.eval o).run P w))
    (hr : RB P T base Q a0 w0 ops D (k + 1) rest ((k, o.dst, .held c I) :: sps) J last) : RB P T base Q a0 w0 ops D k (o :: rest) sps J last := Or.inr (Or.inr (Or.inr (Or.inr ⟨c, I, hg, ⟨hs, h⟩, hr⟩)))

/-- the list of what is known ahead of the i-th operation -/
def entsTo (ops : Array Oper) (sp : Nat → Sp) : Nat → Ents
  | 0 => []
  | i + 1 => (i, (ops[i]?).bind (·.dst), sp i) :: entsTo ops sp i
theorem look_entsTo (ops : Array Oper) (sp : Nat → Sp) (i j : Nat) : look (entsTo ops sp i) j = if j < i then some ((ops[j]?).bind (·.dst), sp j) else none := by
  induction i with
  | zero => simp [entsTo, look]
  | succ i ih =>
    rw [entsTo, look, ih]
    by_cases h : i = j
    · subst h; simp
    · rw [if_neg h]
      by_cases h2 : j < i
      · rw [if_pos h2, if_pos (by omega)]
      · rw [if_neg h2, if_neg (by omega)]

/-- all that the walk in the order of the text has shown -/
structure Plan (P : Program) (T : World → World → Prop) (base : List (Nat × Value)) (w0 : World) (ops : Array Oper) (D : List PanicEntry → World → Prop) (sp : Nat → Sp) (Jb : Nat → World → Prop) (lb : Nat → Option Nat) (n : Nat) : Prop where
  guard : ∀ i o, i < n → ops[i]? = some o → guardIs ops i (entsTo ops sp i) o (match sp i with | .skip => false | _ => true)
  val : ∀ i o c, i < n → ops[i]? = some o → sp i = .val c → ValOk P T base w0 (entsTo ops sp i) o c
  call : ∀ i o R J', i < n → ops[i]? = some o → sp i = .call R J' → CallOk P T base w0 (entsTo ops sp i) (Jb i) o R J' ∧ lb (i + 1) = some i
  die : ∀ i o, i < n → ops[i]? = some o → sp i = .die → DieOk P T base w0 D (entsTo ops sp i) (Jb i) o ∧ lb (i + 1) = some i
  held : ∀ i o c I, i < n → ops[i]? = some o → sp i = .held c I → HeldOk P T base w0 (entsTo ops sp i) o c I
  next : ∀ i, i < n → Jb (i + 1) = (sp i).J (Jb i)
  last : ∀ i o, i < n → ops[i]? = some o → (lb (i + 1) = some i ∧ linked ops (lb i) i = true) ∨ (lb (i + 1) = lb i ∧ Jb (i + 1) = Jb i)

theorem RB.plan : ∀ (rest : List Oper) (k : Nat) (sp0 : Nat → Sp) (Jb0 : Nat → World → Prop) (lb0 : Nat → Option Nat),
    (∀ i, i < rest.length → rest[i]? = ops[k + i]?) → Plan P T base w0 ops D sp0 Jb0 lb0 k → RB P T base Q a0 w0 ops D k rest (entsTo ops sp0 k) (Jb0 k) (lb0 k) →
    ∃ sp Jb lb, Plan P T base w0 ops D sp Jb lb (k + rest.length) ∧ lb 0 = lb0 0 ∧ Jb 0 = Jb0 0 ∧ ∀ w, Jb (k + rest.length) w → T w0 w → FinA (entsTo ops sp (k + rest.length)) w (fun a => Q .normal a w) a0 := by
  intro rest
  induction rest with
  | nil =>
    intro k sp0 Jb0 lb0 _ hp h
    exact ⟨sp0, Jb0, lb0, by simpa using hp, rfl, rfl, by simpa [RB] using h⟩
  | cons o rest ih =>
    intro k sp0 Jb0 lb0 hr hp h
    have ho : ops[k]? = some o := by have := hr 0 (by simp); simpa using this.symm
    have hrest : ∀ i, i < rest.length → rest[i]? = ops[k + 1 + i]? := fun i hi => by have := hr (i + 1) (by simpa using hi); rw [show k + 1 + i = k + (i + 1) by omega, ← this]; simp
    -- one more
    have key : ∀ (s : Sp) (l : Option Nat), guardIs ops k (entsTo ops sp0 k) o (match s with | .skip => false | _ => true) →
        (∀ c, s = .val c → ValOk P T base w0 (entsTo ops sp0 k) o c) → (∀ R J', s = .call R J' → CallOk P T base w0 (entsTo ops sp0 k) (Jb0 k) o R J' ∧ l = some k) → (s = .die → DieOk P T base w0 D (entsTo ops sp0 k) (Jb0 k) o ∧ l = some k) → (∀ c I, s = .held c I → HeldOk P T base w0 (entsTo ops sp0 k) o c I) →
        ((l = some k ∧ linked ops (lb0 k) k = true) ∨ (l = lb0 k ∧ s.J (Jb0 k) = Jb0 k)) → RB P T base Q a0 w0 ops D (k + 1) rest ((k, o.dst, s) :: entsTo ops sp0 k) (s.J (Jb0 k)) l →
        ∃ sp Jb lb, Plan P T base w0 ops D sp Jb lb (k + (o :: rest).length) ∧ lb 0 = lb0 0 ∧ Jb 0 = Jb0 0 ∧ ∀ w, Jb (k + (o :: rest).length) w → T w0 w → FinA (entsTo ops sp (k + (o :: rest).length)) w (fun a => Q .normal a w) a0 := by
      intro s l g1 g2 g3 g3d g3h g4 g5
      have se : ∀ i, i ≤ k → entsTo ops (fun j => if j = k then s else sp0 j) i = entsTo ops sp0 i := by
        intro i
        induction i with
        | zero => intro _; rfl
        | succ i ih2 => intro hi; rw [entsTo, entsTo, ih2 (by omega), if_neg (by omega)]
      have sk : entsTo ops (fun j => if j = k then s else sp0 j) (k + 1) = (k, o.dst, s) :: entsTo ops sp0 k := by rw [entsTo, se k (Nat.le_refl _), if_pos rfl, ho]; rfl
      have hp2 : Plan P T base w0 ops D (fun j => if j = k then s else sp0 j) (fun j => if j = k + 1 then s.J (Jb0 k) else Jb0 j) (fun j => if j = k + 1 then l else lb0 j) (k + 1) := by
        refine ⟨fun i o' hi hio => ?_, fun i o' c hi hio hc => ?_, fun i o' R J' hi hio hc => ?_, fun i o' hi hio hc => ?_, fun i o' c I hi hio hc => ?_, fun i hi => ?_, fun i o' hi hio => ?_⟩
        · rw [se i (by omega)]
          by_cases e : i = k
          · subst e; rw [ho] at hio; cases hio; simpa using g1
          · simp only [if_neg e]; exact hp.guard i o' (by omega) hio
        · rw [se i (by omega)]
          by_cases e : i = k
          · subst e; rw [ho] at hio; cases hio; exact g2 c (by simpa using hc)
          · simp only [if_neg e] at hc; exact hp.val i o' c (by omega) hio hc
        · rw [se i (by omega)]
          by_cases e : i = k
          · subst e; rw [ho] at hio; cases hio
            have := g3 R J' (by simpa using hc)
            simpa using this
          · simp only [if_neg e] at hc
            have := hp.call i o' R J' (by omega) hio hc
            rw [if_neg (by omega), if_neg (by omega)]; exact this
        · rw [se i (by omega)]
          by_cases e : i = k
          · subst e; rw [ho] at hio; cases hio
            have := g3d (by simpa using hc)
            simpa using this
          · simp only [if_neg e] at hc
            have := hp.die i o' (by omega) hio hc
            rw [if_neg (by omega), if_neg (by omega)]; exact this
        · rw [se i (by omega)]
          by_cases e : i = k
          · subst e; rw [ho] at hio; cases hio; exact g3h c I (by simpa using hc)
          · simp only [if_neg e] at hc; exact hp.held i o' c I (by omega) hio hc
        · by_cases e : i = k
          · subst e; simp
          · rw [if_neg (by omega), if_neg e, if_neg (by omega)]; exact hp.next i (by omega)
        · by_cases e : i = k
          · subst e; rw [ho] at hio; cases hio
            rw [if_pos rfl, if_neg (by omega), if_pos rfl, if_neg (by omega)]
            exact g4
          · rw [if_neg (by omega), if_neg (by omega), if_neg (by omega), if_neg (by omega)]; exact hp.last i o' (by omega) hio
      obtain ⟨sp, Jb, lb, h1, h2, h3, h4⟩ := ih (k + 1) _ _ _ hrest hp2 (by rw [sk]; simpa using g5)
      rw [show k + 1 + rest.length = k + (o :: rest).length by simp; omega] at h1 h4
      exact ⟨sp, Jb, lb, h1, by rw [h2, if_neg (by omega)], by rw [h3, if_neg (by omega)], h4⟩
    rw [RB] at h
    rcases h with ⟨c, h1, h2, h3⟩ | ⟨h1, h3⟩ | ⟨R, J', h1, h2, h4, h3⟩ | ⟨h1, h2, h4, h3⟩ | ⟨c, I, h1, h4, h3⟩
    · exact key (.val c) (lb0 k) h1 (fun c' e => by cases e; exact h2) (fun _ _ e => by cases e) (fun e => by cases e) (fun _ _ e => by cases e) (Or.inr ⟨rfl, rfl⟩) h3
    · by_cases hl : linked ops (lb0 k) k = true
      · rw [if_pos hl] at h3
        exact key .skip (some k) h1 (fun _ e => by cases e) (fun _ _ e => by cases e) (fun e => by cases e) (fun _ _ e => by cases e) (Or.inl ⟨rfl, hl⟩) h3
      · rw [if_neg hl] at h3
        exact key .skip (lb0 k) h1 (fun _ e => by cases e) (fun _ _ e => by cases e) (fun e => by cases e) (fun _ _ e => by cases e) (Or.inr ⟨rfl, rfl⟩) h3
    · exact key (.call R J') (some k) h1 (fun _ e => by cases e) (fun _ _ e => by cases e; exact ⟨h4, rfl⟩) (fun e => by cases e) (fun _ _ e => by cases e) (Or.inl ⟨rfl, h2⟩) h3
    · exact key .die (some k) h1 (fun _ e => by cases e) (fun _ _ e => by cases e) (fun _ => ⟨h4, rfl⟩) (fun _ _ e => by cases e) (Or.inl ⟨rfl, h2⟩) h3
    · exact key (.held c I) (lb0 k) h1 (fun _ e => by cases e) (fun _ _ e => by cases e) (fun e => by cases e) (fun c' I' e => by cases e; exact h4) (Or.inr ⟨rfl, rfl⟩) h3
end
end Go.Proofs.Ytngbannidbijmaa
namespace Go.Proofs.Ytngbannidbijmaa
open Go.RowKit

def regB (ops : Array Oper) (size : Nat) (bs : List Nat) : Bool := (List.range ops.size).all fun i => match ops[i]? with
  | none => true
  | some o => o.after.all (fun e => !Region.binds .any e || decide (e.on < i)) && (match o.dst with
    | none => true
    | some d => decide (d < size) && !bs.contains d && (List.range i).all fun j => (ops[j]?).bind (·.dst) != some d)
structure RegOk (ops : Array Oper) (size : Nat) (bs : List Nat) : Prop where
  lt : ∀ (i : Nat) (o : Oper), ops[i]? = some o → ∀ e ∈ o.after.toList, Region.binds .any e = true → e.on < i
  inb : ∀ (i : Nat) (o : Oper) (d : Nat), ops[i]? = some o → o.dst = some d → d < size
  base : ∀ (i : Nat) (o : Oper) (d : Nat), ops[i]? = some o → o.dst = some d → d ∉ bs
  apart : ∀ (i j : Nat) (o o' : Oper) (d : Nat), ops[i]? = some o → ops[j]? = some o' → o.dst = some d → o'.dst = some d → i = j
theorem regB_ok {ops : Array Oper} {size : Nat} {bs : List Nat} (h : regB ops size bs = true) : RegOk ops size bs := by
  have key : ∀ (i : Nat) (o : Oper), ops[i]? = some o → (o.after.all (fun e => !Region.binds .any e || decide (e.on < i)) && (match o.dst with
    | none => true
    | some d => decide (d < size) && !bs.contains d && (List.range i).all fun j => (ops[j]?).bind (·.dst) != some d)) = true := fun i o hi => by
    have hlt : i < ops.size := by
      rcases Nat.lt_or_ge i ops.size with g | g
      · exact g
      · rw [Array.getElem?_eq_none g] at hi; cases hi
    have := List.all_eq_true.1 h i (List.mem_range.2 hlt)
    rw [hi] at this
    exact this
  have k2 : ∀ (i : Nat) (o : Oper) (d : Nat), ops[i]? = some o → o.dst = some d → d < size ∧ d ∉ bs ∧ ∀ j, j < i → (ops[j]?).bind (·.dst) ≠ some d := fun i o d hi hd => by
    have := key i o hi
    rw [hd] at this
    simp only [Bool.and_eq_true, decide_eq_true_eq, Bool.not_eq_true', List.all_eq_true, List.mem_range, bne_iff_ne] at this
    refine ⟨this.2.1.1, ?_, this.2.2⟩
    have h2 := this.2.1.2
    simpa using h2
  refine ⟨fun i o hi e he hb => ?_, fun i o d hi hd => (k2 i o d hi hd).1, fun i o d hi hd => (k2 i o d hi hd).2.1, fun i j o o' d hi hj hd hd' => ?_⟩
  · have := key i o hi
    simp only [Bool.and_eq_true] at this
    have h2 := Array.all_eq_true_iff_forall_mem.1 this.1 e (by simpa using he)
    rw [hb] at h2
    simpa using h2
  · rcases Nat.lt_trichotomy i j with g | g | g
    · exact absurd (by rw [hi]; exact hd) ((k2 j o' d hj hd').2.2 i g)
    · exact g
    · exact absurd (by rw [hj]; exact hd') ((k2 i o d hi hd).2.2 j g)

theorem reach_all {ops : Array Oper} {C : Nat → Prop} (hc : ∀ j, C j → ∀ x ∈ depsOf ops j, C x) : ∀ (k : Nat) (S : List Nat), (∀ x ∈ S, C x) → ∀ x ∈ reachGo ops k S, C x := by
  intro k
  induction k with
  | zero => exact fun S h => h
  | succ k ih =>
    intro S h
    refine ih _ ?_
    split
    · rename_i hk
      intro x hx
      rcases List.mem_append.1 hx with hx | hx
      · exact hc k (h k (by simpa using hk)) x hx
      · exact h x hx
    · exact h
theorem waits_listed {ops : Array Oper} {listed : Array Bool} {k j : Nat} {o : Oper} (ho : ops[k]? = some o) (hcl : ∀ (j : Nat) (o : Oper), ops[j]? = some o → listed.getD j false = true → ∀ e ∈ o.after.toList, Region.binds .any e = true → listed.getD e.on false = true)
    (hw : ∀ e ∈ o.after.toList, Region.binds .any e = true → listed.getD e.on false = true) (h : waits ops k j = true) : listed.getD j false = true := by
  unfold waits at h
  refine reach_all (C := fun x => listed.getD x false = true) (fun i hi x hx => ?_) k (depsOf ops k) (fun x hx => ?_) j (by simpa using h)
  · unfold depsOf at hx
    cases hoi : ops[i]? with
    | none => rw [hoi] at hx; cases hx
    | some oi =>
      rw [hoi] at hx
      obtain ⟨e, he, rfl⟩ := List.mem_map.1 hx
      obtain ⟨h1, h2⟩ := List.mem_filter.1 he
      exact hcl i oi hoi hi e h1 h2
  · unfold depsOf at hx
    rw [ho] at hx
    obtain ⟨e, he, rfl⟩ := List.mem_map.1 hx
    obtain ⟨h1, h2⟩ := List.mem_filter.1 he
    exact hw e h1 h2
theorem ready_spec {ops : Array Oper} {listed : Array Bool} {i : Nat} (h : i ∈ Region.ready .any ops listed) : ∃ o, ops[i]? = some o ∧ listed.getD i true = false ∧ ∀ e ∈ o.after.toList, Region.binds .any e = true → listed.getD e.on false = true := by
  unfold Region.ready at h
  simp only [List.mem_filter, List.mem_range, Bool.and_eq_true, Bool.not_eq_true'] at h
  obtain ⟨h1, h2, h3⟩ := h
  obtain ⟨o, ho⟩ : ∃ o, ops[i]? = some o := ⟨ops[i], by simp [h1]⟩
  rw [ho] at h3
  simp only [Option.map_some, Option.getD_some] at h3
  refine ⟨o, ho, h2, fun e he hb => ?_⟩
  have := Array.all_eq_true_iff_forall_mem.1 h3 e (by simpa using he)
  simpa [hb] using this
theorem ready_mk {ops : Array Oper} {listed : Array Bool} {i : Nat} {o : Oper} (ho : ops[i]? = some o) (h2 : listed.getD i true = false) (h3 : ∀ e ∈ o.after.toList, Region.binds .any e = true → listed.getD e.on false = true) : i ∈ Region.ready .any ops listed := by
  have hlt : i < ops.size := by
    rcases Nat.lt_or_ge i ops.size with g | g
    · exact g
    · rw [Array.getElem?_eq_none g] at ho; cases ho
  unfold Region.ready
  simp only [List.mem_filter, List.mem_range, Bool.and_eq_true, Bool.not_eq_true']
  refine ⟨hlt, h2, ?_⟩
  rw [ho]
  simp only [Option.map_some, Option.getD_some]
  refine Array.all_eq_true_iff_forall_mem.2 fun e he => ?_
  cases hb : Region.binds .any e
  · rfl
  · simp [h3 e (by simpa using he) hb]

section
variable {P : Program} {T : World → World → Prop} {base : List (Nat × Value)} {Q : Exit → Act → World → Prop} {a0 : Act} {w0 : World} {ops : Array Oper} {D : List PanicEntry → World → Prop} {sp : Nat → Sp} {Jb : Nat → World → Prop} {lb : Nat → Option Nat}

theorem lb_spec (pl : Plan P T base w0 ops D sp Jb lb ops.size) (h0 : lb 0 = none) : ∀ i, i ≤ ops.size → (lb i = none → ∀ j, j < i → lb (j + 1) ≠ some j) ∧ ∀ l, lb i = some l → l < i ∧ lb (l + 1) = some l ∧ ∀ j, j < i → lb (j + 1) = some j → j ≤ l := by
  intro i
  induction i with
  | zero => intro _; exact ⟨fun _ j hj => (by omega), fun l hl => (by rw [h0] at hl; cases hl)⟩
  | succ i ih =>
    intro hi
    obtain ⟨i1, i2⟩ := ih (by omega)
    obtain ⟨o, ho⟩ : ∃ o, ops[i]? = some o := ⟨ops[i], by simp [show i < ops.size by omega]⟩
    rcases pl.last i o (by omega) ho with ⟨e, _⟩ | ⟨e, _⟩
    · refine ⟨fun h => (by rw [e] at h; cases h), fun l hl => ?_⟩
      rw [e] at hl; cases hl
      exact ⟨by omega, e, fun j hj _ => by omega⟩
    · refine ⟨fun h j hj => ?_, fun l hl => ?_⟩
      · rw [e] at h
        by_cases hji : j = i
        · subst hji; rw [e, h]; simp
        · exact i1 h j (by omega)
      · rw [e] at hl
        obtain ⟨k1, k2, k3⟩ := i2 l hl
        refine ⟨by omega, k2, fun j hj hc => ?_⟩
        by_cases hji : j = i
        · subst hji; rw [e, hl] at hc; cases hc; omega
        · exact k3 j (by omega) hc

structure RInv (T : World → World → Prop) (a0 : Act) (w0 : World) (ops : Array Oper) (sp : Nat → Sp) (Jb : Nat → World → Prop) (lb : Nat → Option Nat) (listed : Array Bool) (a : Act) (w : World) : Prop where
  size : listed.size = ops.size
  closed : ∀ (j : Nat) (o : Oper), ops[j]? = some o → listed.getD j false = true → ∀ e ∈ o.after.toList, Region.binds .any e = true → listed.getD e.on false = true
  vals : ∀ (j : Nat) (o : Oper), ops[j]? = some o → listed.getD j false = true → ∃ v, (sp j).R w v ∧ ∀ d, o.dst = some d → a.tmps.getD d undef = v
  rest : ∀ s, (∀ (j : Nat) (o : Oper), ops[j]? = some o → listed.getD j false = true → o.dst ≠ some s) → a.tmps[s]? = a0.tmps[s]?
  sz : a.tmps.size = a0.tmps.size
  defers : a.defers = a0.defers
  later : T w0 w
  world : ∃ i, i ≤ ops.size ∧ Jb i w ∧ (∀ j, j < i → lb (j + 1) = some j → listed.getD j false = true) ∧ ∀ j, i ≤ j → j < ops.size → lb (j + 1) = some j → listed.getD j false = false

theorem set_get {listed : Array Bool} {i j : Nat} : (listed.setIfInBounds i true).getD j false = true ↔ (j = i ∧ i < listed.size) ∨ listed.getD j false = true := by
  simp only [Array.getD_eq_getD_getElem?, Array.getElem?_setIfInBounds]
  by_cases h : i = j
  · subst h
    by_cases h2 : i < listed.size
    · simp [h2]
    · simp [h2]
  · rw [if_neg h]
    constructor
    · exact Or.inr
    · rintro (⟨e, _⟩ | e)
      · exact absurd e.symm h
      · exact e
theorem put_get (a : Act) (dst : Option Tmp) (v : Value) (s : Nat) : (a.put dst v).tmps[s]? = if dst = some s ∧ s < a.tmps.size then some v else a.tmps[s]? := by
  cases dst with
  | none => simp [Act.put]
  | some d =>
    simp only [Act.put, Array.getElem?_setIfInBounds, Option.some.injEq]
    by_cases h : d = s
    · subst h
      by_cases h2 : d < a.tmps.size
      · simp [h2]
      · simp [h2]
    · simp [h]
theorem put_size (a : Act) (dst : Option Tmp) (v : Value) : (a.put dst v).tmps.size = a.tmps.size := by cases dst <;> simp [Act.put]
theorem put_defers (a : Act) (dst : Option Tmp) (v : Value) : (a.put dst v).defers = a.defers := by cases dst <;> rfl
theorem put_getD (a : Act) (dst : Option Tmp) (v : Value) (s : Nat) : (a.put dst v).tmps.getD s undef = if dst = some s ∧ s < a.tmps.size then v else a.tmps.getD s undef := by
  rw [Array.getD_eq_getD_getElem?, put_get]
  split
  · rfl
  · rw [Array.getD_eq_getD_getElem?]

variable (pl : Plan P T base w0 ops D sp Jb lb ops.size) (h0 : lb 0 = none) (ok : RegOk ops a0.tmps.size (base.map (·.1))) (hb : ∀ p ∈ base, a0.tmps.getD p.1 undef = p.2)
variable {listed : Array Bool} {a : Act} {w : World}
include pl h0 in
theorem chain_all (I : RInv T a0 w0 ops sp Jb lb listed a w) : ∀ l, l < ops.size → lb (l + 1) = some l → (∀ o, ops[l]? = some o → ∀ e ∈ o.after.toList, Region.binds .any e = true → listed.getD e.on false = true) → ∀ j, j < l → lb (j + 1) = some j → listed.getD j false = true := by
  intro l
  induction l using Nat.strongRecOn with
  | ind l ih =>
    intro hl hc hw j hj hcj
    obtain ⟨o, ho⟩ : ∃ o, ops[l]? = some o := ⟨ops[l], by simp [hl]⟩
    obtain ⟨s1, s2⟩ := lb_spec pl h0 l (by omega)
    have hlink : linked ops (lb l) l = true := by
      rcases pl.last l o hl ho with ⟨_, e⟩ | ⟨e, _⟩
      · exact e
      · rw [hc] at e
        have := (s2 l e.symm).1
        omega
    cases hll : lb l with
    | none => exact absurd hcj (s1 hll j hj)
    | some l' =>
      obtain ⟨k1, k2, k3⟩ := s2 l' hll
      rw [hll] at hlink
      have hl' : listed.getD l' false = true := waits_listed ho I.closed (hw o ho) hlink
      have := k3 j hj hcj
      by_cases hjl : j = l'
      · rw [hjl]; exact hl'
      · exact ih l' k1 (by omega) k2 (fun o' ho' e' he' hb' => I.closed l' o' ho' hl' e' he' hb') j (by omega) hcj

include pl h0 in
theorem jb_here (I : RInv T a0 w0 ops sp Jb lb listed a w) {i : Nat} {o : Oper} (ho : ops[i]? = some o) (hi : i < ops.size) (hc : lb (i + 1) = some i) (hn : listed.getD i false = false) (hw : ∀ e ∈ o.after.toList, Region.binds .any e = true → listed.getD e.on false = true) : Jb i w := by
  have hall := chain_all pl h0 I i hi hc (fun o' ho' => by rw [ho] at ho'; cases ho'; exact hw)
  obtain ⟨k, hk, hJ, h1, h2⟩ := I.world
  have hki : k ≤ i := by
    rcases Nat.lt_or_ge i k with g | g
    · rw [h1 i g hc] at hn; cases hn
    · exact g
  have hconst : ∀ m, k + m ≤ i → Jb (k + m) = Jb k := by
    intro m
    induction m with
    | zero => intro _; rfl
    | succ m ih =>
      intro hm
      obtain ⟨o', ho'⟩ : ∃ o, ops[k + m]? = some o := ⟨ops[k + m], by simp [show k + m < ops.size by omega]⟩
      rcases pl.last (k + m) o' (by omega) ho' with ⟨e, _⟩ | ⟨_, e⟩
      · have a1 := hall (k + m) (by omega) e
        rw [h2 (k + m) (by omega) (by omega) e] at a1
        cases a1
      · rw [show k + (m + 1) = k + m + 1 by omega, e]; exact ih (by omega)
  have := hconst (i - k) (by omega)
  rw [show k + (i - k) = i by omega] at this
  rw [this]; exact hJ

include ok in
theorem RInv.step (I : RInv T a0 w0 ops sp Jb lb listed a w) (tr : ∀ {a b c}, T a b → T b c → T a c) (st : ∀ j w w' v, j < ops.size → T w w' → (sp j).R w v → (sp j).R w' v) {i : Nat} {o : Oper} (ho : ops[i]? = some o) (hi : i < ops.size) (hn : listed.getD i false = false)
    (hw : ∀ e ∈ o.after.toList, Region.binds .any e = true → listed.getD e.on false = true) (hch : lb (i + 1) = some i → (∀ j, j < i → lb (j + 1) = some j → listed.getD j false = true) ∧ ∀ j, i < j → j < ops.size → lb (j + 1) = some j → listed.getD j false = false)
    (v : Value) (w' : World) (hT : T w w') (hR : (sp i).R w' v) (hW : (lb (i + 1) = some i ∧ Jb (i + 1) w') ∨ (lb (i + 1) ≠ some i ∧ w' = w)) :
    RInv T a0 w0 ops sp Jb lb (listed.setIfInBounds i true) (a.put o.dst v) w' := by
  have hs : i < listed.size := by rw [I.size]; exact hi
  have lst : ∀ {j}, (listed.setIfInBounds i true).getD j false = true ↔ j = i ∨ listed.getD j false = true := by
    intro j; rw [set_get]; simp [hs]
  have nl : ∀ {j}, j ≠ i → listed.getD j false = false → (listed.setIfInBounds i true).getD j false = false := by
    intro j h1 h2
    cases h : (listed.setIfInBounds i true).getD j false
    · rfl
    · rcases lst.1 h with e | e
      · exact absurd e h1
      · rw [h2] at e; cases e
  refine ⟨by simpa using I.size, fun j o' hj hl e he hbi => ?_, fun j o' hj hl => ?_, fun s hs' => ?_, by rw [put_size]; exact I.sz, by rw [put_defers]; exact I.defers, tr I.later hT, ?_⟩
  · rcases lst.1 hl with rfl | hl
    · rw [ho] at hj; cases hj
      exact lst.2 (Or.inr (hw e he hbi))
    · exact lst.2 (Or.inr (I.closed j o' hj hl e he hbi))
  · rcases lst.1 hl with rfl | hl2
    · rw [ho] at hj; cases hj
      refine ⟨v, hR, fun d hd => ?_⟩
      rw [put_getD, if_pos ⟨hd, by rw [I.sz]; exact ok.inb j o d ho hd⟩]
    · by_cases hji : j = i
      · subst hji; rw [hn] at hl2; cases hl2
      · obtain ⟨u, hu, hd⟩ := I.vals j o' hj hl2
        have hjs : j < ops.size := by
          rcases Nat.lt_or_ge j ops.size with g | g
          · exact g
          · rw [Array.getElem?_eq_none g] at hj; cases hj
        refine ⟨u, st j w w' u hjs hT hu, fun d hdd => ?_⟩
        rw [put_getD, if_neg (fun ⟨e, _⟩ => hji (ok.apart j i o' o d hj ho hdd e))]
        exact hd d hdd
  · rw [put_get, if_neg (fun ⟨e, _⟩ => hs' i o ho (lst.2 (Or.inl rfl)) e)]
    exact I.rest s fun j o' hj hl => hs' j o' hj (lst.2 (Or.inr hl))
  · rcases hW with ⟨hc, hJ⟩ | ⟨hc, rfl⟩
    · obtain ⟨h1, h2⟩ := hch hc
      refine ⟨i + 1, by omega, hJ, fun j hj hcj => ?_, fun j hj hjs hcj => ?_⟩
      · by_cases hji : j = i
        · exact lst.2 (Or.inl hji)
        · exact lst.2 (Or.inr (h1 j (by omega) hcj))
      · exact nl (by omega) (h2 j (by omega) hjs hcj)
    · obtain ⟨k, hk, hJ, h1, h2⟩ := I.world
      refine ⟨k, hk, hJ, fun j hj hcj => lst.2 (Or.inr (h1 j hj hcj)), fun j hj hjs hcj => ?_⟩
      exact nl (fun e => by subst e; exact hc hcj) (h2 j hj hjs hcj)

/-- the puts in the order of the text -/
def puts (ops : Array Oper) (a0 : Act) (f : Nat → Value) : Nat → Act
  | 0 => a0
  | i + 1 => (puts ops a0 f i).put ((ops[i]?).bind (·.dst)) (f i)
theorem fin_puts {K : Act → Prop} {f : Nat → Value} (n : Nat) (hf : ∀ j, j < n → (sp j).R w (f j)) (h : FinA (entsTo ops sp n) w K a0) : K (puts ops a0 f n) := by
  induction n generalizing K with
  | zero => exact h
  | succ n ih =>
    rw [entsTo, FinA] at h
    exact ih (fun j hj => hf j (by omega)) h (f n) (hf n (by omega))
theorem puts_size (f : Nat → Value) (n : Nat) : (puts ops a0 f n).tmps.size = a0.tmps.size := by
  induction n with
  | zero => rfl
  | succ n ih => rw [puts, put_size, ih]
theorem puts_defers (f : Nat → Value) (n : Nat) : (puts ops a0 f n).defers = a0.defers := by
  induction n with
  | zero => rfl
  | succ n ih => rw [puts, put_defers, ih]
theorem puts_other (f : Nat → Value) (n s : Nat) (h : ∀ j, j < n → (ops[j]?).bind (·.dst) ≠ some s) : (puts ops a0 f n).tmps[s]? = a0.tmps[s]? := by
  induction n with
  | zero => rfl
  | succ n ih => rw [puts, put_get, if_neg (fun e => h n (by omega) e.1)]; exact ih fun j hj => h j (by omega)
theorem puts_at (f : Nat → Value) (n s j : Nat) (hj : j < n) (hd : (ops[j]?).bind (·.dst) = some s) (hs : s < a0.tmps.size) (hu : ∀ i, i < n → (ops[i]?).bind (·.dst) = some s → i = j) : (puts ops a0 f n).tmps[s]? = some (f j) := by
  induction n with
  | zero => omega
  | succ n ih =>
    rw [puts, put_get, puts_size]
    by_cases h : n = j
    · subst h; rw [if_pos ⟨hd, hs⟩]
    · rw [if_neg (fun e => h (hu n (by omega) e.1))]
      exact ih (by omega) fun i hi => hu i (by omega)

theorem filter_less {l : List Nat} {p q : Nat → Bool} (h : ∀ x ∈ l, q x = true → p x = true) {i : Nat} (hi : i ∈ l) (hp : p i = true) (hq : q i = false) : (l.filter q).length < (l.filter p).length := by
  induction l with
  | nil => cases hi
  | cons x l ih =>
    have hle : (l.filter q).length ≤ (l.filter p).length := by
      have : ∀ l : List Nat, (∀ x ∈ l, q x = true → p x = true) → (l.filter q).length ≤ (l.filter p).length := by
        intro l
        induction l with
        | nil => intro _; simp
        | cons y l ih2 =>
          intro hh
          have := ih2 fun x hx => hh x (by simp [hx])
          rw [List.filter_cons, List.filter_cons]
          by_cases hy : q y = true
          · rw [if_pos hy, if_pos (hh y (by simp) hy)]; simpa using this
          · rw [if_neg hy]; split
            · rw [List.length_cons]; omega
            · exact this
      exact this l fun y hy => h y (by simp [hy])
    rw [List.filter_cons, List.filter_cons]
    rcases List.mem_cons.1 hi with rfl | hi
    · rw [if_neg (by rw [hq]; simp), if_pos hp, List.length_cons]; omega
    · have := ih (fun y hy => h y (by simp [hy])) hi
      by_cases hx : q x = true
      · rw [if_pos hx, if_pos (h x (by simp) hx)]; simpa using this
      · rw [if_neg hx]; split
        · rw [List.length_cons]; omega
        · exact this
end
end Go.Proofs.Ytngbannidbijmaa
namespace Go.Proofs.Ytngbannidbijmaa
open Go.RowKit

section
variable {P : Program} {T : World → World → Prop} {base : List (Nat × Value)} {Q : Exit → Act → World → Prop} {a0 : Act} {w0 : World} {ops : Array Oper} {D : List PanicEntry → World → Prop} {sp : Nat → Sp} {Jb : Nat → World → Prop} {lb : Nat → Option Nat} {listed : Array Bool} {a : Act} {w : World}

theorem getD_true_false (listed : Array Bool) (i : Nat) (h : listed.getD i true = false) : listed.getD i false = false := by
  simp only [Array.getD_eq_getD_getElem?] at *
  cases h2 : listed[i]? with
  | none => rw [h2] at h; cases h
  | some x => rw [h2] at h; exact h
theorem getD_false_true (listed : Array Bool) (i : Nat) (hi : i < listed.size) (h : listed.getD i false = false) : listed.getD i true = false := by
  simp only [Array.getD_eq_getD_getElem?, Array.getElem?_eq_getElem hi] at *
  exact h

/-- what is known where an operation comes up -/
theorem fx_here (ok : RegOk ops a0.tmps.size (base.map (·.1))) (hb : ∀ p ∈ base, a0.tmps.getD p.1 undef = p.2) (I : RInv T a0 w0 ops sp Jb lb listed a w) {i : Nat} {o : Oper} (ho : ops[i]? = some o) (hw : ∀ e ∈ o.after.toList, Region.binds .any e = true → listed.getD e.on false = true) : Fx (entsTo ops sp i) base o a w := by
  refine ⟨fun p hp => ?_, ?_⟩
  · have h1 : a.tmps[p.1]? = a0.tmps[p.1]? := I.rest p.1 fun j o' hj _ hd => ok.base j o' p.1 hj hd (List.mem_map.2 ⟨p, hp, rfl⟩)
    rw [Array.getD_eq_getD_getElem?, h1, ← Array.getD_eq_getD_getElem?]
    exact hb p hp
  · have hlt := ok.lt i o ho
    generalize o.after.toList = es at hw hlt
    induction es with
    | nil => trivial
    | cons e es ih =>
      refine ⟨?_, ih (fun e' he' => hw e' (by simp [he'])) (fun e' he' => hlt e' (by simp [he']))⟩
      rw [look_entsTo]
      by_cases hbi : Region.binds .any e = true
      · rw [if_pos (hlt e (by simp) hbi)]
        have hl := hw e (by simp) hbi
        cases hoe : ops[e.on]? with
        | none => exact trivial
        | some oe =>
          simp only [Option.bind_some]
          obtain ⟨v, hR, hd⟩ := I.vals e.on oe hoe hl
          cases hdd : oe.dst with
          | none => exact trivial
          | some d =>
            intro _
            rw [hd d hdd]
            exact hR
      · split
        · intro h; exact absurd h hbi
        · trivial

theorem wanted_here (ok : RegOk ops a0.tmps.size (base.map (·.1))) (I : RInv T a0 w0 ops sp Jb lb listed a w) {i : Nat} {o : Oper} {b : Bool} (ho : ops[i]? = some o) (hw : ∀ e ∈ o.after.toList, Region.binds .any e = true → listed.getD e.on false = true) (hg : guardIs ops i (entsTo ops sp i) o b) : Region.wanted o (yielded ops a.tmps) = b := by
  unfold guardIs at hg
  unfold Region.wanted
  split at hg
  · rename_i e; rw [e]; exact hg.symm
  · rename_i g want e
    rw [e]
    obtain ⟨h1, h2⟩ := hg
    have hl : listed.getD g false = true := waits_listed ho I.closed hw h1
    rw [look_entsTo] at h2
    by_cases hgi : g < i
    · rw [if_pos hgi] at h2
      cases hog : ops[g]? with
      | none => rw [hog] at h2; simp at h2
      | some og =>
        rw [hog] at h2
        simp only [Option.bind_some] at h2
        obtain ⟨v, hR, hd⟩ := I.vals g og hog hl
        split at h2
        · rename_i d x heq
          simp only [Option.some.injEq, Prod.mk.injEq] at heq
          obtain ⟨hdst, hsp⟩ := heq
          rw [hsp] at hR
          have hv : v = .bool x := hR
          have hd2 := hd d hdst
          have hin : d < a.tmps.size := by rw [I.sz]; exact ok.inb g og d hog hdst
          have hget : a.tmps[d]? = some (.bool x) := by
            rw [Array.getD_eq_getD_getElem?, Array.getElem?_eq_getElem hin] at hd2
            rw [Array.getElem?_eq_getElem hin]
            simp only [Option.getD_some] at hd2
            rw [hd2, hv]
          simp only [yielded, hog, Option.bind_some, hdst, hget]
          rw [← h2]
          cases x <;> cases want <;> rfl
        · rename_i d heq
          simp only [Option.some.injEq, Prod.mk.injEq] at heq
          obtain ⟨hdst, hsp⟩ := heq
          rw [hsp] at hR
          have hv : v = undef := hR
          have hd2 := hd d hdst
          have hin : d < a.tmps.size := by rw [I.sz]; exact ok.inb g og d hog hdst
          have hget : a.tmps[d]? = some undef := by
            rw [Array.getD_eq_getD_getElem?, Array.getElem?_eq_getElem hin] at hd2
            rw [Array.getElem?_eq_getElem hin]
            simp only [Option.getD_some] at hd2
            rw [hd2, hv]
          simp only [yielded, hog, Option.bind_some, hdst, hget]
          rw [h2]
          cases want <;> rfl
        · rename_i d x I' heq
          simp only [Option.some.injEq, Prod.mk.injEq] at heq
          obtain ⟨hdst, hsp⟩ := heq
          rw [hsp] at hR
          have hv : v = .bool x := hR.1
          have hd2 := hd d hdst
          have hin : d < a.tmps.size := by rw [I.sz]; exact ok.inb g og d hog hdst
          have hget : a.tmps[d]? = some (.bool x) := by
            rw [Array.getD_eq_getD_getElem?, Array.getElem?_eq_getElem hin] at hd2
            rw [Array.getElem?_eq_getElem hin]
            simp only [Option.getD_some] at hd2
            rw [hd2, hv]
          simp only [yielded, hog, Option.bind_some, hdst, hget]
          rw [← h2]
          cases x <;> cases want <;> rfl
        · exact h2.elim
    · rw [if_neg hgi] at h2
      exact h2.elim

theorem all_listed (ok : RegOk ops a0.tmps.size (base.map (·.1))) (I : RInv T a0 w0 ops sp Jb lb listed a w) (hr : Region.ready .any ops listed = []) : ∀ i, i < ops.size → listed.getD i false = true := by
  intro i
  induction i using Nat.strongRecOn with
  | ind i ih =>
    intro hi
    cases h : listed.getD i false
    · exfalso
      obtain ⟨o, ho⟩ : ∃ o, ops[i]? = some o := ⟨ops[i], by simp [hi]⟩
      have := ready_mk ho (getD_false_true listed i (by rw [I.size]; exact hi) h) fun e he hbi => by
        have hlt := ok.lt i o ho e he hbi
        exact ih e.on hlt (by omega)
      rw [hr] at this
      cases this
    · rfl

theorem fin_here (pl : Plan P T base w0 ops D sp Jb lb ops.size) (ok : RegOk ops a0.tmps.size (base.map (·.1))) (I : RInv T a0 w0 ops sp Jb lb listed a w) (hall : ∀ i, i < ops.size → listed.getD i false = true)
    (hfin : ∀ w, Jb ops.size w → T w0 w → FinA (entsTo ops sp ops.size) w (fun a => Q .normal a w) a0) : Q .normal a w := by
  have hJ : Jb ops.size w := by
    obtain ⟨k, hk, hJ, h1, h2⟩ := I.world
    have hconst : ∀ m, k + m ≤ ops.size → Jb (k + m) = Jb k := by
      intro m
      induction m with
      | zero => intro _; rfl
      | succ m ih =>
        intro hm
        obtain ⟨o', ho'⟩ : ∃ o, ops[k + m]? = some o := ⟨ops[k + m], by simp [show k + m < ops.size by omega]⟩
        rcases pl.last (k + m) o' (by omega) ho' with ⟨e, _⟩ | ⟨_, e⟩
        · have a1 := hall (k + m) (by omega)
          rw [h2 (k + m) (by omega) (by omega) e] at a1
          cases a1
        · rw [show k + (m + 1) = k + m + 1 by omega, e]; exact ih (by omega)
    have := hconst (ops.size - k) (by omega)
    rw [show k + (ops.size - k) = ops.size by omega] at this
    rw [this]; exact hJ
  have hv : ∀ j, j < ops.size → ∃ v, (sp j).R w v ∧ ∀ o d, ops[j]? = some o → o.dst = some d → a.tmps.getD d undef = v := fun j hj => by
    obtain ⟨v, h1, h2⟩ := I.vals j ops[j] (by simp [hj]) (hall j hj)
    refine ⟨v, h1, fun o d ho hd => h2 d ?_⟩
    rw [Array.getElem?_eq_getElem hj] at ho; cases ho; exact hd
  have hch : ∃ f : Nat → Value, ∀ j, j < ops.size → (sp j).R w (f j) ∧ ∀ o d, ops[j]? = some o → o.dst = some d → a.tmps.getD d undef = f j :=
    ⟨fun j => if h : j < ops.size then Classical.choose (hv j h) else undef, fun j hj => by simp only [dif_pos hj]; exact Classical.choose_spec (hv j hj)⟩
  obtain ⟨f, hf⟩ := hch
  have hK := fin_puts (ops := ops) (a0 := a0) (f := f) ops.size (fun j hj => (hf j hj).1) (hfin w hJ I.later)
  have e : a = puts ops a0 f ops.size := by
    have h1 : a.tmps = (puts ops a0 f ops.size).tmps := by
      apply Array.ext_getElem?
      intro s
      by_cases hs : ∃ j, j < ops.size ∧ (ops[j]?).bind (·.dst) = some s
      · obtain ⟨j, hj, hd⟩ := hs
        obtain ⟨o, ho⟩ : ∃ o, ops[j]? = some o := ⟨ops[j], by simp [hj]⟩
        have hd2 : o.dst = some s := by rw [ho] at hd; exact hd
        have hin := ok.inb j o s ho hd2
        rw [puts_at f ops.size s j hj hd hin fun i hi hdi => ?_]
        · have := (hf j hj).2 o s ho hd2
          rw [Array.getD_eq_getD_getElem?, Array.getElem?_eq_getElem (by rw [I.sz]; exact hin)] at this
          rw [Array.getElem?_eq_getElem (by rw [I.sz]; exact hin)]
          simpa using this
        · obtain ⟨o', ho'⟩ : ∃ o, ops[i]? = some o := ⟨ops[i], by simp [hi]⟩
          rw [ho'] at hdi
          exact ok.apart i j o' o s ho' ho hdi hd2
      · rw [puts_other f ops.size s fun j hj e => hs ⟨j, hj, e⟩]
        refine I.rest s fun j o ho _ hd => hs ⟨j, ?_, by rw [ho]; exact hd⟩
        rcases Nat.lt_or_ge j ops.size with g | g
        · exact g
        · rw [Array.getElem?_eq_none g] at ho; cases ho
    have h2 := puts_defers (ops := ops) (a0 := a0) f ops.size
    cases a
    cases hp : puts ops a0 f ops.size
    rw [hp] at h1 h2
    simp only at h1 h2
    rw [h1]
    have := I.defers
    simp only at this
    rw [this, h2]
  rw [e]; exact hK

theorem any_here (rf : ∀ w, T w w) (tr : ∀ {a b c}, T a b → T b c → T a c) (pl : Plan P T base w0 ops D sp Jb lb ops.size) (h0 : lb 0 = none) (ok : RegOk ops a0.tmps.size (base.map (·.1))) (hb : ∀ p ∈ base, a0.tmps.getD p.1 undef = p.2)
    (hfin : ∀ w, Jb ops.size w → T w0 w → FinA (entsTo ops sp ops.size) w (fun a => Q .normal a w) a0) (hD : ∀ chain a w, a.defers = a0.defers → D chain w → Q (.panic chain) a w) :
    ∀ (fuel : Nat) (listed : Array Bool) (a : Act) (w : World), RInv T a0 w0 ops sp Jb lb listed a w → ((List.range ops.size).filter fun j => !listed.getD j false).length ≤ fuel → wpAny P .any ops Q fuel listed a w := by
  have st : ∀ j w w' v, j < ops.size → T w w' → (sp j).R w v → (sp j).R w' v := fun j w w' v hj hT hR => by
    obtain ⟨o, ho⟩ : ∃ o, ops[j]? = some o := ⟨ops[j], by simp [hj]⟩
    cases hsp : sp j with
    | val c => rw [hsp] at hR; exact hR
    | skip => rw [hsp] at hR; exact hR
    | call R J' => rw [hsp] at hR; exact (pl.call j o R J' hj ho hsp).1.1 w w' v hT hR
    | die => rw [hsp] at hR; exact hR.elim
    | held c I => rw [hsp] at hR; exact ⟨hR.1, (pl.held j o c I hj ho hsp).1 w w' hT hR.2⟩
  intro fuel
  induction fuel with
  | zero =>
    intro listed a w I hc
    have hall : ∀ i, i < ops.size → listed.getD i false = true := fun i hi => by
      cases h : listed.getD i false
      · exfalso
        have : i ∈ (List.range ops.size).filter fun j => !listed.getD j false := List.mem_filter.2 ⟨List.mem_range.2 hi, by rw [h]; rfl⟩
        have := List.length_pos_of_mem this
        omega
      · rfl
    refine ⟨?_, fin_here pl ok I hall hfin⟩
    rw [List.eq_nil_iff_forall_not_mem]
    intro i hi
    obtain ⟨o, ho, hn, _⟩ := ready_spec hi
    have hlt : i < ops.size := by
      rcases Nat.lt_or_ge i ops.size with g | g
      · exact g
      · rw [Array.getElem?_eq_none g] at ho; cases ho
    have := hall i hlt
    rw [getD_true_false listed i hn] at this
    cases this
  | succ fuel ih =>
    intro listed a w I hc
    refine ⟨fun hr => fin_here pl ok I (all_listed ok I hr) hfin, fun i hi => ?_⟩
    obtain ⟨o, ho, hn', hw⟩ := ready_spec hi
    have hn := getD_true_false listed i hn'
    have hlt : i < ops.size := by
      rcases Nat.lt_or_ge i ops.size with g | g
      · exact g
      · rw [Array.getElem?_eq_none g] at ho; cases ho
    have hfx := fx_here ok hb I ho hw
    have hwant := wanted_here ok I ho hw (pl.guard i o hlt ho)
    have hch : lb (i + 1) = some i → (∀ j, j < i → lb (j + 1) = some j → listed.getD j false = true) ∧ ∀ j, i < j → j < ops.size → lb (j + 1) = some j → listed.getD j false = false := fun hci => by
      refine ⟨chain_all pl h0 I i hlt hci fun o' ho' => by rw [ho] at ho'; cases ho'; exact hw, fun j hj hjs hcj => ?_⟩
      cases h : listed.getD j false
      · rfl
      · exfalso
        have := chain_all pl h0 I j hjs hcj (fun o' ho' e he hbi => I.closed j o' ho' h e he hbi) i hj hci
        rw [hn] at this; cases this
    have hcount : ((List.range ops.size).filter fun j => !(listed.setIfInBounds i true).getD j false).length ≤ fuel := by
      have := filter_less (l := List.range ops.size) (p := fun j => !listed.getD j false) (q := fun j => !(listed.setIfInBounds i true).getD j false) (fun x _ hx => by
        cases h : listed.getD x false
        · rfl
        · have := set_get (i := i) |>.2 (Or.inr h)
          rw [this] at hx; cases hx) (List.mem_range.2 hlt) (by rw [hn]; rfl) (by
        have := set_get (listed := listed) (i := i) (j := i) |>.2 (Or.inl ⟨rfl, by rw [I.size]; exact hlt⟩)
        rw [this]; rfl)
      omega
    have go : ∀ v w', T w w' → (sp i).R w' v → ((lb (i + 1) = some i ∧ Jb (i + 1) w') ∨ (lb (i + 1) ≠ some i ∧ w' = w)) → wpAny P .any ops Q fuel (listed.setIfInBounds i true) (a.put o.dst v) w' := fun v w' hT hR hW =>
      ih _ _ _ (RInv.step ok I tr st ho hlt hn hw hch v w' hT hR hW) hcount
    have stay : (∀ w, (sp i).J (Jb i) w = Jb i w) → (lb (i + 1) = some i ∧ Jb (i + 1) w) ∨ (lb (i + 1) ≠ some i ∧ w = w) := fun hJ => by
      by_cases hci : lb (i + 1) = some i
      · left
        refine ⟨hci, ?_⟩
        rw [pl.next i hlt, hJ]
        exact jb_here pl h0 I ho hlt hci hn hw
      · exact Or.inr ⟨hci, rfl⟩
    unfold wpOp
    rw [ho]
    simp only
    cases hsp : sp i with
    | val c =>
      rw [hsp] at hwant
      simp only at hwant
      rw [if_pos hwant]
      left
      have hrun := pl.val i o c hlt ho hsp a w I.later hfx
      unfold Oper.wp
      rw [hrun]
      exact go c w (rf w) (by rw [hsp]; rfl) (stay fun w => by rw [hsp]; rfl)
    | skip =>
      rw [hsp] at hwant
      simp only at hwant
      rw [if_neg (by rw [hwant]; simp)]
      exact go undef w (rf w) (by rw [hsp]; rfl) (stay fun w => by rw [hsp]; rfl)
    | call R J' =>
      rw [hsp] at hwant
      simp only at hwant
      rw [if_pos hwant]
      left
      obtain ⟨hco, hci⟩ := pl.call i o R J' hlt ho hsp
      have heff := hco.2 a w (jb_here pl h0 I ho hlt hci hn hw) I.later hfx
      have hnext := pl.next i hlt
      rw [hsp] at hnext
      have go2 : ∀ v w', T w w' → R w' v → J' w' → wpAny P .any ops Q fuel (listed.setIfInBounds i true) (a.put o.dst v) w' := fun v w' hT hR hJ => go v w' hT (by rw [hsp]; exact hR) (Or.inl ⟨hci, by rw [hnext]; exact hJ⟩)
      unfold Oper.wp
      generalize (execOp a.eval o).run P w = r at heff
      unfold effOk at heff
      split at heff
      · exact go2 _ _ heff.2.2 heff.1 heff.2.1
      · exact go2 _ _ heff.2.2 heff.1 heff.2.1
      · refine Calls.mono heff ?_
        rintro e w'' ⟨v, rfl, h1, h2, h3⟩
        exact go2 v w'' h3 h1 h2
      · exact heff.elim
    | die =>
      rw [hsp] at hwant
      simp only at hwant
      rw [if_pos hwant]
      left
      obtain ⟨hdo, hci⟩ := pl.die i o hlt ho hsp
      have heff := hdo a w (jb_here pl h0 I ho hlt hci hn hw) I.later hfx
      unfold Oper.wp
      generalize (execOp a.eval o).run P w = r at heff
      unfold dieOk at heff
      split at heff
      · refine Calls.mono heff ?_
        rintro e w'' ⟨chain, rfl, h1⟩
        exact hD chain a w'' I.defers h1
      · exact hD _ a _ I.defers heff
      · exact heff.elim
    | held c J' =>
      rw [hsp] at hwant
      simp only at hwant
      rw [if_pos hwant]
      left
      have heff := (pl.held i o c J' hlt ho hsp).2 a w I.later hfx
      have hold : J' w → wpAny P .any ops Q fuel (listed.setIfInBounds i true) (a.put o.dst c) w := fun hI => go c w (rf w) (by rw [hsp]; exact ⟨rfl, hI⟩) (stay fun w => by rw [hsp]; rfl)
      unfold Oper.wp
      generalize (execOp a.eval o).run P w = r at heff
      unfold quietOk at heff
      split at heff
      · obtain ⟨rfl, rfl, hI⟩ := heff
        exact hold hI
      · obtain ⟨rfl, hI, hc⟩ := heff
        refine Calls.mono hc ?_
        rintro e w'' ⟨rfl, rfl⟩
        exact hold hI
      · exact heff.elim

/-- THE LAW, where it may end in a panic of which D holds -/
theorem wp_region_dies {id : Nat} {l : List Oper} {a : Act} {w : World} (D : List PanicEntry → World → Prop) (hD : ∀ chain a' w, a'.defers = a.defers → D chain w → Q (.panic chain) a' w) (T : World → World → Prop) (rf : ∀ w, T w w) (tr : ∀ {a b c}, T a b → T b c → T a c) (base : List (Nat × Value)) (hb : ∀ p ∈ base, a.tmps.getD p.1 undef = p.2)
    (hm : P.follows .mixedOrders = true) (hB : regB l.toArray a.tmps.size (base.map (·.1)) = true) (J : World → Prop) (hJ : J w.drew) (h : RB P T base Q a w.drew l.toArray D 0 l [] J none) : (Code.region id l.toArray true).wp P Q a w := by
  have ok := regB_ok hB
  obtain ⟨sp, Jb, lb, pl, h0, hJ0, hfin⟩ := RB.plan (ops := l.toArray) l 0 (fun _ => .skip) (fun _ => J) (fun _ => none) (fun i _ => by simp) ⟨fun i _ hi => by omega, fun i _ _ hi => by omega, fun i _ _ _ hi => by omega, fun i _ hi => by omega, fun i _ _ _ hi => by omega, fun i hi => by omega, fun i _ hi => by omega⟩ h
  rw [show 0 + l.length = l.toArray.size by simp] at pl hfin
  refine wp_region_any hm ?_
  refine any_here rf tr pl h0 ok hb hfin hD _ _ _ _ ?_ ?_
  · have hnl : ∀ j, (Array.replicate l.toArray.size false).getD j false = false := fun j => by
      rw [Array.getD_eq_getD_getElem?, Array.getElem?_replicate]; split <;> rfl
    refine ⟨by simp, fun j o _ h => (by rw [hnl] at h; cases h), fun j o _ h => (by rw [hnl] at h; cases h), fun _ _ => rfl, rfl, rfl, rf _, 0, Nat.zero_le _, by rw [hJ0]; exact hJ, fun j hj => by omega, fun j _ _ _ => hnl j⟩
  · refine Nat.le_trans (List.length_filter_le _ _) ?_
    simp
/-- THE LAW -/
theorem wp_region_by {id : Nat} {l : List Oper} {a : Act} {w : World} (T : World → World → Prop) (rf : ∀ w, T w w) (tr : ∀ {a b c}, T a b → T b c → T a c) (base : List (Nat × Value)) (hb : ∀ p ∈ base, a.tmps.getD p.1 undef = p.2)
    (hm : P.follows .mixedOrders = true) (hB : regB l.toArray a.tmps.size (base.map (·.1)) = true) (J : World → Prop) (hJ : J w.drew) (h : RB P T base Q a w.drew l.toArray (fun _ _ => False) 0 l [] J none) : (Code.region id l.toArray true).wp P Q a w :=
  wp_region_dies (fun _ _ => False) (fun _ _ _ _ h => h.elim) T rf tr base hb hm hB J hJ h
end
end Go.Proofs.Ytngbannidbijmaa
namespace Go.Proofs.Ytngbannidbijmaa
open Go.RowKit

section
variable (P : Program) (T : World → World → Prop) (base : List (Nat × Value)) (K : Act → World → Prop) (a0 : Act) (w0 : World) (ops : Array Oper)
def FreeOk (sps : Ents) (o : Oper) (R : World → Value → Prop) : Prop :=
  (∀ w w' v, T w w' → R w v → R w' v) ∧ ∀ a w, T w0 w → Fx sps base o a w → effOk P T R (fun _ => True) w ((execOp a.eval o).run P w)
/-- one operation after the other, in the order of the text -/
def RF : Nat → List Oper → Ents → Prop
  | _, [], sps => ∀ w, T w0 w → FinA sps w (fun a => K a w) a0
  | k, o :: rest, sps =>
    (∃ c, guardIs ops k sps o true ∧ ValOk P T base w0 sps o c ∧ RF (k + 1) rest ((k, o.dst, .val c) :: sps)) ∨
    (guardIs ops k sps o false ∧ RF (k + 1) rest ((k, o.dst, .skip) :: sps)) ∨
    (∃ R, guardIs ops k sps o true ∧ FreeOk P T base w0 sps o R ∧ RF (k + 1) rest ((k, o.dst, .call R (fun _ => True)) :: sps))
end
section
variable {P : Program} {T : World → World → Prop} {base : List (Nat × Value)} {K : Act → World → Prop} {a0 : Act} {w0 : World} {ops : Array Oper} {sps : Ents} {k : Nat} {o : Oper} {rest : List Oper}
theorem rf_val (c : Value) (hg : guardIs ops k sps o true) (h : ∀ a w, T w0 w → Fx sps base o a w → (execOp a.eval o).run P w = .ok (.value c) w) (hr : RF P T base K a0 w0 ops (k + 1) rest ((k, o.dst, .val c) :: sps)) : RF P T base K a0 w0 ops k (o :: rest) sps := Or.inl ⟨c, hg, h, hr⟩
theorem rf_skip (hg : guardIs ops k sps o false) (hr : RF P T base K a0 w0 ops (k + 1) rest ((k, o.dst, .skip) :: sps)) : RF P T base K a0 w0 ops k (o :: rest) sps := Or.inr (Or.inl ⟨hg, hr⟩)
theorem rf_eff (R : World → Value → Prop) (hg : guardIs ops k sps o true) (hs : ∀ w w' v, T w w' → R w v → R w' v) (h : ∀ a w, T w0 w → Fx sps base o a w → effOk P T R (fun _ => True) w ((execOp a.eval o).run P w))
    (hr : RF P T base K a0 w0 ops (k + 1) rest ((k, o.dst, .call R (fun _ => True)) :: sps)) : RF P T base K a0 w0 ops k (o :: rest) sps := Or.inr (Or.inr ⟨R, hg, ⟨hs, h⟩, hr⟩)

structure PlanF (P : Program) (T : World → World → Prop) (base : List (Nat × Value)) (w0 : World) (ops : Array Oper) (sp : Nat → Sp) (n : Nat) : Prop where
  guard : ∀ i o, i < n → ops[i]? = some o → guardIs ops i (entsTo ops sp i) o (match sp i with | .skip => false | _ => true)
  kind : ∀ i o, i < n → ops[i]? = some o → (∃ c, sp i = .val c ∧ ValOk P T base w0 (entsTo ops sp i) o c) ∨ sp i = .skip ∨ ∃ R, sp i = .call R (fun _ => True) ∧ FreeOk P T base w0 (entsTo ops sp i) o R

theorem RF.plan : ∀ (rest : List Oper) (k : Nat) (sp0 : Nat → Sp), (∀ i, i < rest.length → rest[i]? = ops[k + i]?) → PlanF P T base w0 ops sp0 k → RF P T base K a0 w0 ops k rest (entsTo ops sp0 k) →
    ∃ sp, PlanF P T base w0 ops sp (k + rest.length) ∧ ∀ w, T w0 w → FinA (entsTo ops sp (k + rest.length)) w (fun a => K a w) a0 := by
  intro rest
  induction rest with
  | nil => intro k sp0 _ hp h; exact ⟨sp0, by simpa using hp, by simpa [RF] using h⟩
  | cons o rest ih =>
    intro k sp0 hr hp h
    have ho : ops[k]? = some o := by have := hr 0 (by simp); simpa using this.symm
    have hrest : ∀ i, i < rest.length → rest[i]? = ops[k + 1 + i]? := fun i hi => by have := hr (i + 1) (by simpa using hi); rw [show k + 1 + i = k + (i + 1) by omega, ← this]; simp
    have key : ∀ s : Sp, guardIs ops k (entsTo ops sp0 k) o (match s with | .skip => false | _ => true) →
        ((∃ c, s = .val c ∧ ValOk P T base w0 (entsTo ops sp0 k) o c) ∨ s = .skip ∨ ∃ R, s = .call R (fun _ => True) ∧ FreeOk P T base w0 (entsTo ops sp0 k) o R) → RF P T base K a0 w0 ops (k + 1) rest ((k, o.dst, s) :: entsTo ops sp0 k) →
        ∃ sp, PlanF P T base w0 ops sp (k + (o :: rest).length) ∧ ∀ w, T w0 w → FinA (entsTo ops sp (k + (o :: rest).length)) w (fun a => K a w) a0 := by
      intro s g1 g2 g5
      have se : ∀ i, i ≤ k → entsTo ops (fun j => if j = k then s else sp0 j) i = entsTo ops sp0 i := by
        intro i
        induction i with
        | zero => intro _; rfl
        | succ i ih2 => intro hi; rw [entsTo, entsTo, ih2 (by omega), if_neg (by omega)]
      have sk : entsTo ops (fun j => if j = k then s else sp0 j) (k + 1) = (k, o.dst, s) :: entsTo ops sp0 k := by rw [entsTo, se k (Nat.le_refl _), if_pos rfl, ho]; rfl
      have hp2 : PlanF P T base w0 ops (fun j => if j = k then s else sp0 j) (k + 1) := by
        refine ⟨fun i o' hi hio => ?_, fun i o' hi hio => ?_⟩
        · rw [se i (by omega)]
          by_cases e : i = k
          · subst e; rw [ho] at hio; cases hio; simpa using g1
          · simp only [if_neg e]; exact hp.guard i o' (by omega) hio
        · rw [se i (by omega)]
          by_cases e : i = k
          · subst e; rw [ho] at hio; cases hio; simpa using g2
          · simp only [if_neg e]; exact hp.kind i o' (by omega) hio
      obtain ⟨sp, h1, h4⟩ := ih (k + 1) _ hrest hp2 (by rw [sk]; exact g5)
      rw [show k + 1 + rest.length = k + (o :: rest).length by simp; omega] at h1 h4
      exact ⟨sp, h1, h4⟩
    rw [RF] at h
    rcases h with ⟨c, h1, h2, h3⟩ | ⟨h1, h3⟩ | ⟨R, h1, h4, h3⟩
    · exact key (.val c) h1 (Or.inl ⟨c, rfl, h2⟩) h3
    · exact key .skip h1 (Or.inr (Or.inl rfl)) h3
    · exact key (.call R (fun _ => True)) h1 (Or.inr (Or.inr ⟨R, rfl, h4⟩)) h3
end

/-- the last ones wait on all the others -/
def tailB (ops : Array Oper) (n : Nat) : Bool := (List.range ops.size).all fun t => decide (t < n) || (List.range n).all fun i => waits ops t i
def headArr (n m : Nat) : Array Bool := (List.replicate n true ++ List.replicate m false).toArray

section
variable {P : Program} {T : World → World → Prop} {base : List (Nat × Value)} {Q : Exit → Act → World → Prop} {a0 : Act} {w0 : World} {ops : Array Oper} {sp : Nat → Sp} {listed : Array Bool} {a : Act} {w : World}
abbrev FInv (T : World → World → Prop) (a0 : Act) (w0 : World) (ops : Array Oper) (sp : Nat → Sp) (listed : Array Bool) (a : Act) (w : World) : Prop := RInv T a0 w0 ops sp (fun _ _ => True) (fun _ => none) listed a w
theorem FInv.step (ok : RegOk ops a0.tmps.size (base.map (·.1))) (I : FInv T a0 w0 ops sp listed a w) (tr : ∀ {a b c}, T a b → T b c → T a c) (st : ∀ j w w' v, listed.getD j false = true → T w w' → (sp j).R w v → (sp j).R w' v) {i : Nat} {o : Oper} (ho : ops[i]? = some o) (hi : i < ops.size) (hn : listed.getD i false = false)
    (hw : ∀ e ∈ o.after.toList, Region.binds .any e = true → listed.getD e.on false = true) (v : Value) (w' : World) (hT : T w w') (hR : (sp i).R w' v) :
    FInv T a0 w0 ops sp (listed.setIfInBounds i true) (a.put o.dst v) w' := by
  have hs : i < listed.size := by rw [I.size]; exact hi
  have lst : ∀ {j}, (listed.setIfInBounds i true).getD j false = true ↔ j = i ∨ listed.getD j false = true := by
    intro j; rw [set_get]; simp [hs]
  refine ⟨by simpa using I.size, fun j o' hj hl e he hbi => ?_, fun j o' hj hl => ?_, fun s hs' => ?_, by rw [put_size]; exact I.sz, by rw [put_defers]; exact I.defers, tr I.later hT, 0, Nat.zero_le _, trivial, fun j hj => by omega, fun j _ _ h => by cases h⟩
  · rcases lst.1 hl with rfl | hl
    · rw [ho] at hj; cases hj
      exact lst.2 (Or.inr (hw e he hbi))
    · exact lst.2 (Or.inr (I.closed j o' hj hl e he hbi))
  · rcases lst.1 hl with rfl | hl2
    · rw [ho] at hj; cases hj
      refine ⟨v, hR, fun d hd => ?_⟩
      rw [put_getD, if_pos ⟨hd, by rw [I.sz]; exact ok.inb j o d ho hd⟩]
    · by_cases hji : j = i
      · subst hji; rw [hn] at hl2; cases hl2
      · obtain ⟨u, hu, hd⟩ := I.vals j o' hj hl2
        refine ⟨u, st j w w' u hl2 hT hu, fun d hdd => ?_⟩
        rw [put_getD, if_neg (fun ⟨e, _⟩ => hji (ok.apart j i o' o d hj ho hdd e))]
        exact hd d hdd
  · rw [put_get, if_neg (fun ⟨e, _⟩ => hs' i o ho (lst.2 (Or.inl rfl)) e)]
    exact I.rest s fun j o' hj hl => hs' j o' hj (lst.2 (Or.inr hl))

theorem finF {n : Nat} {K : Act → World → Prop} (hn : n ≤ ops.size) (ok : RegOk ops a0.tmps.size (base.map (·.1))) (I : FInv T a0 w0 ops sp listed a w) (hall : ∀ i, i < n → listed.getD i false = true) (hno : ∀ i, n ≤ i → listed.getD i false = false)
    (hfin : ∀ w, T w0 w → FinA (entsTo ops sp n) w (fun a => K a w) a0) : K a w := by
  have hv : ∀ j, j < n → ∃ v, (sp j).R w v ∧ ∀ o d, ops[j]? = some o → o.dst = some d → a.tmps.getD d undef = v := fun j hj => by
    have hjs : j < ops.size := by omega
    obtain ⟨v, h1, h2⟩ := I.vals j ops[j] (by simp [hjs]) (hall j hj)
    refine ⟨v, h1, fun o d ho hd => h2 d ?_⟩
    rw [Array.getElem?_eq_getElem hjs] at ho; cases ho; exact hd
  have hch : ∃ f : Nat → Value, ∀ j, j < n → (sp j).R w (f j) ∧ ∀ o d, ops[j]? = some o → o.dst = some d → a.tmps.getD d undef = f j :=
    ⟨fun j => if h : j < n then Classical.choose (hv j h) else undef, fun j hj => by simp only [dif_pos hj]; exact Classical.choose_spec (hv j hj)⟩
  obtain ⟨f, hf⟩ := hch
  have hK := fin_puts (ops := ops) (a0 := a0) (f := f) n (fun j hj => (hf j hj).1) (hfin w I.later)
  have e : a = puts ops a0 f n := by
    have h1 : a.tmps = (puts ops a0 f n).tmps := by
      apply Array.ext_getElem?
      intro s
      by_cases hs : ∃ j, j < n ∧ (ops[j]?).bind (·.dst) = some s
      · obtain ⟨j, hj, hd⟩ := hs
        obtain ⟨o, ho⟩ : ∃ o, ops[j]? = some o := ⟨ops[j]'(by omega), by simp [show j < ops.size by omega]⟩
        have hd2 : o.dst = some s := by rw [ho] at hd; exact hd
        have hin := ok.inb j o s ho hd2
        rw [puts_at f n s j hj hd hin fun i hi hdi => ?_]
        · have := (hf j hj).2 o s ho hd2
          rw [Array.getD_eq_getD_getElem?, Array.getElem?_eq_getElem (by rw [I.sz]; exact hin)] at this
          rw [Array.getElem?_eq_getElem (by rw [I.sz]; exact hin)]
          simpa using this
        · obtain ⟨o', ho'⟩ : ∃ o, ops[i]? = some o := ⟨ops[i]'(by omega), by simp [show i < ops.size by omega]⟩
          rw [ho'] at hdi
          exact ok.apart i j o' o s ho' ho hdi hd2
      · rw [puts_other f n s fun j hj e => hs ⟨j, hj, e⟩]
        refine I.rest s fun j o ho hl hd => hs ⟨j, ?_, by rw [ho]; exact hd⟩
        rcases Nat.lt_or_ge j n with g | g
        · exact g
        · rw [hno j g] at hl; cases hl
    have h2 := puts_defers (ops := ops) (a0 := a0) f n
    cases a
    cases hp : puts ops a0 f n
    rw [hp] at h1 h2
    simp only at h1 h2
    rw [h1]
    have := I.defers
    simp only at this
    rw [this, h2]
  rw [e]; exact hK

theorem anyF {n : Nat} {l2 : List Oper} (hn : n ≤ ops.size) (hl2 : ∀ j, l2[j]? = ops[n + j]?) (rf : ∀ w, T w w) (tr : ∀ {a b c}, T a b → T b c → T a c) (pl : PlanF P T base w0 ops sp n) (ok : RegOk ops a0.tmps.size (base.map (·.1))) (hb : ∀ p ∈ base, a0.tmps.getD p.1 undef = p.2)
    (ht : tailB ops n = true) (hseq : Region.seqB .any ops l2.length n (headArr n (ops.size - n)) = true)
    (hfin : ∀ w, T w0 w → FinA (entsTo ops sp n) w (fun a => wpList P ops Q l2 a w) a0) :
    ∀ (fuel : Nat) (listed : Array Bool) (a : Act) (w : World), FInv T a0 w0 ops sp listed a w → (∀ i, n ≤ i → listed.getD i false = false) → ((List.range n).filter fun j => !listed.getD j false).length = fuel → wpAny P .any ops Q (fuel + l2.length) listed a w := by
  intro fuel
  induction fuel with
  | zero =>
    intro listed a w I hno hc
    have hall : ∀ i, i < n → listed.getD i false = true := fun i hi => by
      cases h : listed.getD i false
      · exfalso
        have : i ∈ (List.range n).filter fun j => !listed.getD j false := List.mem_filter.2 ⟨List.mem_range.2 hi, by rw [h]; rfl⟩
        have := List.length_pos_of_mem this
        omega
      · rfl
    have hl : listed = headArr n (ops.size - n) := by
      apply Array.ext
      · rw [I.size]; simp [headArr]; omega
      · intro i h1 h2
        have e1 : listed.getD i false = listed[i] := by rw [Array.getD_eq_getD_getElem?, Array.getElem?_eq_getElem h1]; rfl
        rw [← e1]
        rcases Nat.lt_or_ge i n with g | g
        · rw [hall i g]; simp [headArr, g]
        · rw [hno i g]; simp [headArr, List.getElem_append, show ¬ i < n by omega]
    rw [Nat.zero_add]
    refine wpAny_of_seq l2 n listed a w hl2 (by rw [hl]; exact hseq) ?_
    exact finF hn ok I hall hno hfin
  | succ fuel ih =>
    intro listed a w I hno hc
    have hex : ∃ i, i < n ∧ listed.getD i false = false := by
      have : 0 < ((List.range n).filter fun j => !listed.getD j false).length := by omega
      obtain ⟨i, hi⟩ := List.exists_mem_of_length_pos this
      obtain ⟨h1, h2⟩ := List.mem_filter.1 hi
      exact ⟨i, List.mem_range.1 h1, by simpa using h2⟩
    obtain ⟨i0, hi0, hun0⟩ := hex
    rw [show fuel + 1 + l2.length = (fuel + l2.length) + 1 by omega]
    refine ⟨fun hr => ?_, fun i hi => ?_⟩
    · have := all_listed ok I hr i0 (by omega)
      rw [hun0] at this; cases this
    · obtain ⟨o, ho, hn', hw⟩ := ready_spec hi
      have hnl := getD_true_false listed i hn'
      have hlt : i < ops.size := by
        rcases Nat.lt_or_ge i ops.size with g | g
        · exact g
        · rw [Array.getElem?_eq_none g] at ho; cases ho
      have hin : i < n := by
        rcases Nat.lt_or_ge i n with g | g
        · exact g
        · exfalso
          have h1 := List.all_eq_true.1 ht i (List.mem_range.2 hlt)
          simp only [Bool.or_eq_true, decide_eq_true_eq] at h1
          rcases h1 with h1 | h1
          · omega
          · have := waits_listed ho I.closed hw (List.all_eq_true.1 h1 i0 (List.mem_range.2 hi0))
            rw [hun0] at this; cases this
      have hfx := fx_here ok hb I ho hw
      have hwant := wanted_here ok I ho hw (pl.guard i o hin ho)
      have hcount : ((List.range n).filter fun j => !(listed.setIfInBounds i true).getD j false).length = fuel := by
        have hs : i < listed.size := by rw [I.size]; exact hlt
        have e : (List.range n).filter (fun j => !(listed.setIfInBounds i true).getD j false) = ((List.range n).filter fun j => !listed.getD j false).filter (fun j => j != i) := by
          rw [List.filter_filter]
          congr 1
          funext j
          cases h : (listed.setIfInBounds i true).getD j false
          · have h2 : listed.getD j false = false := by
              cases h3 : listed.getD j false
              · rfl
              · have := set_get (i := i) |>.2 (Or.inr h3); rw [this] at h; cases h
            have h3 : j ≠ i := fun e => by
              have := set_get (listed := listed) (i := i) (j := j) |>.2 (Or.inl ⟨e, hs⟩)
              rw [this] at h; cases h
            simp [h2, h3]
          · rcases set_get.1 h with ⟨rfl, _⟩ | h2
            · simp
            · simp [h2]
        rw [e]
        have hnd : ((List.range n).filter fun j => !listed.getD j false).Nodup := List.Nodup.sublist List.filter_sublist List.nodup_range
        have hmem : i ∈ (List.range n).filter fun j => !listed.getD j false := List.mem_filter.2 ⟨List.mem_range.2 hin, by rw [hnl]; rfl⟩
        have h3 := hnd.erase_eq_filter i
        rw [← h3, List.length_erase_of_mem hmem]
        omega
      have hno' : ∀ j, n ≤ j → (listed.setIfInBounds i true).getD j false = false := fun j hj => by
        cases h : (listed.setIfInBounds i true).getD j false
        · rfl
        · rcases set_get.1 h with ⟨rfl, _⟩ | h2
          · omega
          · rw [hno j hj] at h2; cases h2
      have st : ∀ j w w' v, listed.getD j false = true → T w w' → (sp j).R w v → (sp j).R w' v := fun j w w' v hl hT hR => by
        have hjn : j < n := by
          rcases Nat.lt_or_ge j n with g | g
          · exact g
          · rw [hno j g] at hl; cases hl
        obtain ⟨o', ho'⟩ : ∃ o, ops[j]? = some o := ⟨ops[j]'(by omega), by simp [show j < ops.size by omega]⟩
        rcases pl.kind j o' hjn ho' with ⟨c, e, _⟩ | e | ⟨R, e, hk⟩
        · rw [e] at hR ⊢; exact hR
        · rw [e] at hR ⊢; exact hR
        · rw [e] at hR ⊢; exact hk.1 w w' v hT hR
      have go : ∀ v w', T w w' → (sp i).R w' v → wpAny P .any ops Q (fuel + l2.length) (listed.setIfInBounds i true) (a.put o.dst v) w' := fun v w' hT hR =>
        ih _ _ _ (FInv.step ok I tr st ho hlt hnl hw v w' hT hR) hno' hcount
      unfold wpOp
      rw [ho]
      simp only
      rcases pl.kind i o hin ho with ⟨c, e, hk⟩ | e | ⟨R, e, hk⟩
      · rw [e] at hwant go
        simp only at hwant
        rw [if_pos hwant]
        left
        have hrun := hk a w I.later hfx
        unfold Oper.wp
        rw [hrun]
        exact go c w (rf w) rfl
      · rw [e] at hwant go
        simp only at hwant
        rw [if_neg (by rw [hwant]; simp)]
        exact go undef w (rf w) rfl
      · rw [e] at hwant go
        simp only at hwant
        rw [if_pos hwant]
        left
        have heff := hk.2 a w I.later hfx
        unfold Oper.wp
        generalize (execOp a.eval o).run P w = r at heff
        unfold effOk at heff
        split at heff
        · exact go _ _ heff.2.2 heff.1
        · exact go _ _ heff.2.2 heff.1
        · refine Calls.mono heff ?_
          rintro e w'' ⟨v, rfl, h1, _, h3⟩
          exact go v w'' h3 h1
        · exact heff.elim

/-- THE LAW -/
theorem wp_region_free {id : Nat} {l : List Oper} {a : Act} {w : World} (n : Nat) (T : World → World → Prop) (rf : ∀ w, T w w) (tr : ∀ {a b c}, T a b → T b c → T a c) (base : List (Nat × Value)) (hb : ∀ p ∈ base, a.tmps.getD p.1 undef = p.2)
    (hm : P.follows .mixedOrders = true) (hB : regB l.toArray a.tmps.size (base.map (·.1)) = true) (hn : n ≤ l.length) (ht : tailB l.toArray n = true) (hseq : Region.seqB .any l.toArray (l.drop n).length n (headArr n (l.length - n)) = true)
    (h : RF P T base (fun a w => wpList P l.toArray Q (l.drop n) a w) a w.drew l.toArray 0 (l.take n) []) : (Code.region id l.toArray true).wp P Q a w := by
  have ok := regB_ok hB
  have hlen : (l.take n).length = n := by rw [List.length_take]; omega
  obtain ⟨sp, pl, hfin⟩ := RF.plan (ops := l.toArray) (l.take n) 0 (fun _ => .skip) (fun i hi => by rw [hlen] at hi; simp [hi]) ⟨fun i _ hi => by omega, fun i _ hi => by omega⟩ h
  rw [Nat.zero_add, hlen] at pl hfin
  refine wp_region_any hm ?_
  have hf : l.toArray.size = ((List.range n).filter fun j => !(Array.replicate l.toArray.size false).getD j false).length + (l.drop n).length := by
    have : (List.range n).filter (fun j => !(Array.replicate l.toArray.size false).getD j false) = List.range n := by
      rw [List.filter_eq_self]
      intro j _
      rw [getD_replicate_false]; rfl
    rw [this]; simp; omega
  have key := anyF (Q := Q) (ops := l.toArray) (l2 := l.drop n) (n := n) (by simpa using hn) (fun j => by simp) rf tr pl ok hb ht (by simpa using hseq) hfin _ (Array.replicate l.toArray.size false) a w.drew
    ⟨by simp, fun j o _ h => (by rw [getD_replicate_false] at h; cases h), fun j o _ h => (by rw [getD_replicate_false] at h; cases h), fun _ _ => rfl, rfl, rfl, rf _, 0, Nat.zero_le _, trivial, fun j hj => by omega, fun j _ _ h => by cases h⟩ (fun i _ => getD_replicate_false _ _) rfl
  rw [← hf] at key
  exact key
end
end Go.Proofs.Ytngbannidbijmaa
namespace Go.Proofs.Ytngbannidbijmaa
open Go.RowKit

section
variable (P : Program) (T : World → World → Prop) (base : List (Nat × Value)) (K : Act → World → Prop) (a0 : Act) (w0 : World) (ops : Array Oper) (D : List PanicEntry → World → Prop)
def FDieOk (sps : Ents) (o : Oper) : Prop := ∀ a w, T w0 w → Fx sps base o a w → dieOk P D ((execOp a.eval o).run P w)
/-- one operation after the other, in the order of the text -/
def RD : Nat → List Oper → Ents → Prop
  | _, [], sps => ∀ w, T w0 w → FinA sps w (fun a => K a w) a0
  | k, o :: rest, sps =>
    (∃ c, guardIs ops k sps o true ∧ ValOk P T base w0 sps o c ∧ RD (k + 1) rest ((k, o.dst, .val c) :: sps)) ∨
    (guardIs ops k sps o false ∧ RD (k + 1) rest ((k, o.dst, .skip) :: sps)) ∨
    (∃ R, guardIs ops k sps o true ∧ FreeOk P T base w0 sps o R ∧ RD (k + 1) rest ((k, o.dst, .call R (fun _ => True)) :: sps)) ∨
    (guardIs ops k sps o true ∧ FDieOk P T base w0 D sps o ∧ RD (k + 1) rest ((k, o.dst, .die) :: sps))
end
section
variable {P : Program} {T : World → World → Prop} {base : List (Nat × Value)} {K : Act → World → Prop} {a0 : Act} {w0 : World} {ops : Array Oper} {D : List PanicEntry → World → Prop} {sps : Ents} {k : Nat} {o : Oper} {rest : List Oper}
theorem rd_val (c : Value) (hg : guardIs ops k sps o true) (h : ∀ a w, T w0 w → Fx sps base o a w → (execOp a.eval o).run P w = .ok (.value c) w) (hr : RD P T base K a0 w0 ops D (k + 1) rest ((k, o.dst, .val c) :: sps)) : RD P T base K a0 w0 ops D k (o :: rest) sps := Or.inl ⟨c, hg, h, hr⟩
theorem rd_skip (hg : guardIs ops k sps o false) (hr : RD P T base K a0 w0 ops D (k + 1) rest ((k, o.dst, .skip) :: sps)) : RD P T base K a0 w0 ops D k (o :: rest) sps := Or.inr (Or.inl ⟨hg, hr⟩)
theorem rd_eff (R : World → Value → Prop) (hg : guardIs ops k sps o true) (hs : ∀ w w' v, T w w' → R w v → R w' v) (h : ∀ a w, T w0 w → Fx sps base o a w → effOk P T R (fun _ => True) w ((execOp a.eval o).run P w))
    (hr : RD P T base K a0 w0 ops D (k + 1) rest ((k, o.dst, .call R (fun _ => True)) :: sps)) : RD P T base K a0 w0 ops D k (o :: rest) sps := Or.inr (Or.inr (Or.inl ⟨R, hg, ⟨hs, h⟩, hr⟩))
theorem rd_die (hg : guardIs ops k sps o true) (h : ∀ a w, T w0 w → Fx sps base o a w → dieOk P D ((execOp a.eval o).run P w))
    (hr : RD P T base K a0 w0 ops D (k + 1) rest ((k, o.dst, .die) :: sps)) : RD P T base K a0 w0 ops D k (o :: rest) sps := Or.inr (Or.inr (Or.inr ⟨hg, h, hr⟩))
/-- what waits on one that dies never comes up -/
theorem rd_not (hg : guardIs ops k sps o true) (h : ∀ a w, T w0 w → Fx sps base o a w → False) (hr : RD P T base K a0 w0 ops D (k + 1) rest ((k, o.dst, .die) :: sps)) : RD P T base K a0 w0 ops D k (o :: rest) sps := rd_die hg (fun a w h1 h2 => (h a w h1 h2).elim) hr

structure PlanD (P : Program) (T : World → World → Prop) (base : List (Nat × Value)) (w0 : World) (ops : Array Oper) (D : List PanicEntry → World → Prop) (sp : Nat → Sp) (n : Nat) : Prop where
  guard : ∀ i o, i < n → ops[i]? = some o → guardIs ops i (entsTo ops sp i) o (match sp i with | .skip => false | _ => true)
  kind : ∀ i o, i < n → ops[i]? = some o → (∃ c, sp i = .val c ∧ ValOk P T base w0 (entsTo ops sp i) o c) ∨ sp i = .skip ∨ (∃ R, sp i = .call R (fun _ => True) ∧ FreeOk P T base w0 (entsTo ops sp i) o R) ∨ (sp i = .die ∧ FDieOk P T base w0 D (entsTo ops sp i) o)

theorem RD.plan : ∀ (rest : List Oper) (k : Nat) (sp0 : Nat → Sp), (∀ i, i < rest.length → rest[i]? = ops[k + i]?) → PlanD P T base w0 ops D sp0 k → RD P T base K a0 w0 ops D k rest (entsTo ops sp0 k) →
    ∃ sp, PlanD P T base w0 ops D sp (k + rest.length) ∧ ∀ w, T w0 w → FinA (entsTo ops sp (k + rest.length)) w (fun a => K a w) a0 := by
  intro rest
  induction rest with
  | nil => intro k sp0 _ hp h; exact ⟨sp0, by simpa using hp, by simpa [RD] using h⟩
  | cons o rest ih =>
    intro k sp0 hr hp h
    have ho : ops[k]? = some o := by have := hr 0 (by simp); simpa using this.symm
    have hrest : ∀ i, i < rest.length → rest[i]? = ops[k + 1 + i]? := fun i hi => by have := hr (i + 1) (by simpa using hi); rw [show k + 1 + i = k + (i + 1) by omega, ← this]; simp
    have key : ∀ s : Sp, guardIs ops k (entsTo ops sp0 k) o (match s with | .skip => false | _ => true) →
        ((∃ c, s = .val c ∧ ValOk P T base w0 (entsTo ops sp0 k) o c) ∨ s = .skip ∨ (∃ R, s = .call R (fun _ => True) ∧ FreeOk P T base w0 (entsTo ops sp0 k) o R) ∨ (s = .die ∧ FDieOk P T base w0 D (entsTo ops sp0 k) o)) → RD P T base K a0 w0 ops D (k + 1) rest ((k, o.dst, s) :: entsTo ops sp0 k) →
        ∃ sp, PlanD P T base w0 ops D sp (k + (o :: rest).length) ∧ ∀ w, T w0 w → FinA (entsTo ops sp (k + (o :: rest).length)) w (fun a => K a w) a0 := by
      intro s g1 g2 g5
      have se : ∀ i, i ≤ k → entsTo ops (fun j => if j = k then s else sp0 j) i = entsTo ops sp0 i := by
        intro i
        induction i with
        | zero => intro _; rfl
        | succ i ih2 => intro hi; rw [entsTo, entsTo, ih2 (by omega), if_neg (by omega)]
      have sk : entsTo ops (fun j => if j = k then s else sp0 j) (k + 1) = (k, o.dst, s) :: entsTo ops sp0 k := by rw [entsTo, se k (Nat.le_refl _), if_pos rfl, ho]; rfl
      have hp2 : PlanD P T base w0 ops D (fun j => if j = k then s else sp0 j) (k + 1) := by
        refine ⟨fun i o' hi hio => ?_, fun i o' hi hio => ?_⟩
        · rw [se i (by omega)]
          by_cases e : i = k
          · subst e; rw [ho] at hio; cases hio; simpa using g1
          · simp only [if_neg e]; exact hp.guard i o' (by omega) hio
        · rw [se i (by omega)]
          by_cases e : i = k
          · subst e; rw [ho] at hio; cases hio; simpa using g2
          · simp only [if_neg e]; exact hp.kind i o' (by omega) hio
      obtain ⟨sp, h1, h4⟩ := ih (k + 1) _ hrest hp2 (by rw [sk]; exact g5)
      rw [show k + 1 + rest.length = k + (o :: rest).length by simp; omega] at h1 h4
      exact ⟨sp, h1, h4⟩
    rw [RD] at h
    rcases h with ⟨c, h1, h2, h3⟩ | ⟨h1, h3⟩ | ⟨R, h1, h4, h3⟩ | ⟨h1, h4, h3⟩
    · exact key (.val c) h1 (Or.inl ⟨c, rfl, h2⟩) h3
    · exact key .skip h1 (Or.inr (Or.inl rfl)) h3
    · exact key (.call R (fun _ => True)) h1 (Or.inr (Or.inr (Or.inl ⟨R, rfl, h4⟩))) h3
    · exact key .die h1 (Or.inr (Or.inr (Or.inr ⟨rfl, h4⟩))) h3
end

section
variable {P : Program} {T : World → World → Prop} {base : List (Nat × Value)} {Q : Exit → Act → World → Prop} {a0 : Act} {w0 : World} {ops : Array Oper} {D : List PanicEntry → World → Prop} {sp : Nat → Sp} {listed : Array Bool} {a : Act} {w : World}
theorem anyD {n : Nat} {l2 : List Oper} (hn : n ≤ ops.size) (hl2 : ∀ j, l2[j]? = ops[n + j]?) (rf : ∀ w, T w w) (tr : ∀ {a b c}, T a b → T b c → T a c) (pl : PlanD P T base w0 ops D sp n) (ok : RegOk ops a0.tmps.size (base.map (·.1))) (hb : ∀ p ∈ base, a0.tmps.getD p.1 undef = p.2)
    (ht : tailB ops n = true) (hseq : Region.seqB .any ops l2.length n (headArr n (ops.size - n)) = true)
    (hfin : ∀ w, T w0 w → FinA (entsTo ops sp n) w (fun a => wpList P ops Q l2 a w) a0) (hD : ∀ chain a w, a.defers = a0.defers → D chain w → Q (.panic chain) a w) :
    ∀ (fuel : Nat) (listed : Array Bool) (a : Act) (w : World), FInv T a0 w0 ops sp listed a w → (∀ i, n ≤ i → listed.getD i false = false) → ((List.range n).filter fun j => !listed.getD j false).length = fuel → wpAny P .any ops Q (fuel + l2.length) listed a w := by
  intro fuel
  induction fuel with
  | zero =>
    intro listed a w I hno hc
    have hall : ∀ i, i < n → listed.getD i false = true := fun i hi => by
      cases h : listed.getD i false
      · exfalso
        have : i ∈ (List.range n).filter fun j => !listed.getD j false := List.mem_filter.2 ⟨List.mem_range.2 hi, by rw [h]; rfl⟩
        have := List.length_pos_of_mem this
        omega
      · rfl
    have hl : listed = headArr n (ops.size - n) := by
      apply Array.ext
      · rw [I.size]; simp [headArr]; omega
      · intro i h1 h2
        have e1 : listed.getD i false = listed[i] := by rw [Array.getD_eq_getD_getElem?, Array.getElem?_eq_getElem h1]; rfl
        rw [← e1]
        rcases Nat.lt_or_ge i n with g | g
        · rw [hall i g]; simp [headArr, g]
        · rw [hno i g]; simp [headArr, List.getElem_append, show ¬ i < n by omega]
    rw [Nat.zero_add]
    refine wpAny_of_seq l2 n listed a w hl2 (by rw [hl]; exact hseq) ?_
    exact finF hn ok I hall hno hfin
  | succ fuel ih =>
    intro listed a w I hno hc
    have hex : ∃ i, i < n ∧ listed.getD i false = false := by
      have : 0 < ((List.range n).filter fun j => !listed.getD j false).length := by omega
      obtain ⟨i, hi⟩ := List.exists_mem_of_length_pos this
      obtain ⟨h1, h2⟩ := List.mem_filter.1 hi
      exact ⟨i, List.mem_range.1 h1, by simpa using h2⟩
    obtain ⟨i0, hi0, hun0⟩ := hex
    rw [show fuel + 1 + l2.length = (fuel + l2.length) + 1 by omega]
    refine ⟨fun hr => ?_, fun i hi => ?_⟩
    · have := all_listed ok I hr i0 (by omega)
      rw [hun0] at this; cases this
    · obtain ⟨o, ho, hn', hw⟩ := ready_spec hi
      have hnl := getD_true_false listed i hn'
      have hlt : i < ops.size := by
        rcases Nat.lt_or_ge i ops.size with g | g
        · exact g
        · rw [Array.getElem?_eq_none g] at ho; cases ho
      have hin : i < n := by
        rcases Nat.lt_or_ge i n with g | g
        · exact g
        · exfalso
          have h1 := List.all_eq_true.1 ht i (List.mem_range.2 hlt)
          simp only [Bool.or_eq_true, decide_eq_true_eq] at h1
          rcases h1 with h1 | h1
          · omega
          · have := waits_listed ho I.closed hw (List.all_eq_true.1 h1 i0 (List.mem_range.2 hi0))
            rw [hun0] at this; cases this
      have hfx := fx_here ok hb I ho hw
      have hwant := wanted_here ok I ho hw (pl.guard i o hin ho)
      have hcount : ((List.range n).filter fun j => !(listed.setIfInBounds i true).getD j false).length = fuel := by
        have hs : i < listed.size := by rw [I.size]; exact hlt
        have e : (List.range n).filter (fun j => !(listed.setIfInBounds i true).getD j false) = ((List.range n).filter fun j => !listed.getD j false).filter (fun j => j != i) := by
          rw [List.filter_filter]
          congr 1
          funext j
          cases h : (listed.setIfInBounds i true).getD j false
          · have h2 : listed.getD j false = false := by
              cases h3 : listed.getD j false
              · rfl
              · have := set_get (i := i) |>.2 (Or.inr h3); rw [this] at h; cases h
            have h3 : j ≠ i := fun e => by
              have := set_get (listed := listed) (i := i) (j := j) |>.2 (Or.inl ⟨e, hs⟩)
              rw [this] at h; cases h
            simp [h2, h3]
          · rcases set_get.1 h with ⟨rfl, _⟩ | h2
            · simp
            · simp [h2]
        rw [e]
        have hnd : ((List.range n).filter fun j => !listed.getD j false).Nodup := List.Nodup.sublist List.filter_sublist List.nodup_range
        have hmem : i ∈ (List.range n).filter fun j => !listed.getD j false := List.mem_filter.2 ⟨List.mem_range.2 hin, by rw [hnl]; rfl⟩
        have h3 := hnd.erase_eq_filter i
        rw [← h3, List.length_erase_of_mem hmem]
        omega
      have hno' : ∀ j, n ≤ j → (listed.setIfInBounds i true).getD j false = false := fun j hj => by
        cases h : (listed.setIfInBounds i true).getD j false
        · rfl
        · rcases set_get.1 h with ⟨rfl, _⟩ | h2
          · omega
          · rw [hno j hj] at h2; cases h2
      have st : ∀ j w w' v, listed.getD j false = true → T w w' → (sp j).R w v → (sp j).R w' v := fun j w w' v hl hT hR => by
        have hjn : j < n := by
          rcases Nat.lt_or_ge j n with g | g
          · exact g
          · rw [hno j g] at hl; cases hl
        obtain ⟨o', ho'⟩ : ∃ o, ops[j]? = some o := ⟨ops[j]'(by omega), by simp [show j < ops.size by omega]⟩
        rcases pl.kind j o' hjn ho' with ⟨c, e, _⟩ | e | ⟨R, e, hk⟩ | ⟨e, _⟩
        · rw [e] at hR ⊢; exact hR
        · rw [e] at hR ⊢; exact hR
        · rw [e] at hR ⊢; exact hk.1 w w' v hT hR
        · rw [e] at hR; exact hR.elim
      have go : ∀ v w', T w w' → (sp i).R w' v → wpAny P .any ops Q (fuel + l2.length) (listed.setIfInBounds i true) (a.put o.dst v) w' := fun v w' hT hR =>
        ih _ _ _ (FInv.step ok I tr st ho hlt hnl hw v w' hT hR) hno' hcount
      unfold wpOp
      rw [ho]
      simp only
      rcases pl.kind i o hin ho with ⟨c, e, hk⟩ | e | ⟨R, e, hk⟩ | ⟨e, hk⟩
      · rw [e] at hwant go
        simp only at hwant
        rw [if_pos hwant]
        left
        have hrun := hk a w I.later hfx
        unfold Oper.wp
        rw [hrun]
        exact go c w (rf w) rfl
      · rw [e] at hwant go
        simp only at hwant
        rw [if_neg (by rw [hwant]; simp)]
        exact go undef w (rf w) rfl
      · rw [e] at hwant go
        simp only at hwant
        rw [if_pos hwant]
        left
        have heff := hk.2 a w I.later hfx
        unfold Oper.wp
        generalize (execOp a.eval o).run P w = r at heff
        unfold effOk at heff
        split at heff
        · exact go _ _ heff.2.2 heff.1
        · exact go _ _ heff.2.2 heff.1
        · refine Calls.mono heff ?_
          rintro e w'' ⟨v, rfl, h1, _, h3⟩
          exact go v w'' h3 h1
        · exact heff.elim
      · rw [e] at hwant
        simp only at hwant
        rw [if_pos hwant]
        left
        have heff := hk a w I.later hfx
        unfold Oper.wp
        generalize (execOp a.eval o).run P w = r at heff
        unfold dieOk at heff
        split at heff
        · refine Calls.mono heff ?_
          rintro e w'' ⟨chain, rfl, h1⟩
          exact hD chain a w'' I.defers h1
        · exact hD _ a _ I.defers heff
        · exact heff.elim

/-- THE LAW -/
theorem wp_region_fate {id : Nat} {l : List Oper} {a : Act} {w : World} (D : List PanicEntry → World → Prop) (hD : ∀ chain a' w, a'.defers = a.defers → D chain w → Q (.panic chain) a' w) (n : Nat) (T : World → World → Prop) (rf : ∀ w, T w w) (tr : ∀ {a b c}, T a b → T b c → T a c) (base : List (Nat × Value)) (hb : ∀ p ∈ base, a.tmps.getD p.1 undef = p.2)
    (hm : P.follows .mixedOrders = true) (hB : regB l.toArray a.tmps.size (base.map (·.1)) = true) (hn : n ≤ l.length) (ht : tailB l.toArray n = true) (hseq : Region.seqB .any l.toArray (l.drop n).length n (headArr n (l.length - n)) = true)
    (h : RD P T base (fun a w => wpList P l.toArray Q (l.drop n) a w) a w.drew l.toArray D 0 (l.take n) []) : (Code.region id l.toArray true).wp P Q a w := by
  have ok := regB_ok hB
  have hlen : (l.take n).length = n := by rw [List.length_take]; omega
  obtain ⟨sp, pl, hfin⟩ := RD.plan (ops := l.toArray) (l.take n) 0 (fun _ => .skip) (fun i hi => by rw [hlen] at hi; simp [hi]) ⟨fun i _ hi => by omega, fun i _ hi => by omega⟩ h
  rw [Nat.zero_add, hlen] at pl hfin
  refine wp_region_any hm ?_
  have hf : l.toArray.size = ((List.range n).filter fun j => !(Array.replicate l.toArray.size false).getD j false).length + (l.drop n).length := by
    have : (List.range n).filter (fun j => !(Array.replicate l.toArray.size false).getD j false) = List.range n := by
      rw [List.filter_eq_self]
      intro j _
      rw [getD_replicate_false]; rfl
    rw [this]; simp; omega
  have key := anyD (Q := Q) (ops := l.toArray) (l2 := l.drop n) (n := n) (by simpa using hn) (fun j => by simp) rf tr pl ok hb ht (by simpa using hseq) hfin hD _ (Array.replicate l.toArray.size false) a w.drew
    ⟨by simp, fun j o _ h => (by rw [getD_replicate_false] at h; cases h), fun j o _ h => (by rw [getD_replicate_false] at h; cases h), fun _ _ => rfl, rfl, rfl, rf _, 0, Nat.zero_le _, trivial, fun j hj => by omega, fun j _ _ h => by cases h⟩ (fun i _ => getD_replicate_false _ _) rfl
  rw [← hf] at key
  exact key
end
end Go.Proofs.Ytngbannidbijmaa
namespace Go.Proofs.Ytngbannidbijmaa
open Go.RowKit
set_option linter.unusedVariables false

section
variable {P : Program} {T : World → World → Prop} {base : List (Nat × Value)} {Q : Exit → Act → World → Prop} {a0 : Act} {w0 : World} {ops : Array Oper} {D : List PanicEntry → World → Prop} {sp : Nat → Sp} {Jb : Nat → World → Prop} {lb : Nat → Option Nat} {listed : Array Bool} {a : Act} {w : World}
theorem lb_specT {n : Nat} (hn : n ≤ ops.size) (pl : Plan P T base w0 ops D sp Jb lb n) (h0 : lb 0 = none) : ∀ i, i ≤ n → (lb i = none → ∀ j, j < i → lb (j + 1) ≠ some j) ∧ ∀ l, lb i = some l → l < i ∧ lb (l + 1) = some l ∧ ∀ j, j < i → lb (j + 1) = some j → j ≤ l := by
  intro i
  induction i with
  | zero => intro _; exact ⟨fun _ j hj => (by omega), fun l hl => (by rw [h0] at hl; cases hl)⟩
  | succ i ih =>
    intro hi
    obtain ⟨i1, i2⟩ := ih (by omega)
    obtain ⟨o, ho⟩ : ∃ o, ops[i]? = some o := ⟨ops[i], by simp [show i < ops.size by omega]⟩
    rcases pl.last i o (by omega) ho with ⟨e, _⟩ | ⟨e, _⟩
    · refine ⟨fun h => (by rw [e] at h; cases h), fun l hl => ?_⟩
      rw [e] at hl; cases hl
      exact ⟨by omega, e, fun j hj _ => by omega⟩
    · refine ⟨fun h j hj => ?_, fun l hl => ?_⟩
      · rw [e] at h
        by_cases hji : j = i
        · subst hji; rw [e, h]; simp
        · exact i1 h j (by omega)
      · rw [e] at hl
        obtain ⟨k1, k2, k3⟩ := i2 l hl
        refine ⟨by omega, k2, fun j hj hc => ?_⟩
        by_cases hji : j = i
        · subst hji; rw [e, hl] at hc; cases hc; omega
        · exact k3 j (by omega) hc

theorem chain_allT {n : Nat} (hn : n ≤ ops.size) (pl : Plan P T base w0 ops D sp Jb lb n) (h0 : lb 0 = none) (I : RInv T a0 w0 ops sp Jb lb listed a w) : ∀ l, l < n → lb (l + 1) = some l → (∀ o, ops[l]? = some o → ∀ e ∈ o.after.toList, Region.binds .any e = true → listed.getD e.on false = true) → ∀ j, j < l → lb (j + 1) = some j → listed.getD j false = true := by
  intro l
  induction l using Nat.strongRecOn with
  | ind l ih =>
    intro hl hc hw j hj hcj
    obtain ⟨o, ho⟩ : ∃ o, ops[l]? = some o := ⟨ops[l], by simp [show l < ops.size by omega]⟩
    obtain ⟨s1, s2⟩ := lb_specT hn pl h0 l (by omega)
    have hlink : linked ops (lb l) l = true := by
      rcases pl.last l o hl ho with ⟨_, e⟩ | ⟨e, _⟩
      · exact e
      · rw [hc] at e
        have := (s2 l e.symm).1
        omega
    cases hll : lb l with
    | none => exact absurd hcj (s1 hll j hj)
    | some l' =>
      obtain ⟨k1, k2, k3⟩ := s2 l' hll
      rw [hll] at hlink
      have hl' : listed.getD l' false = true := waits_listed ho I.closed (hw o ho) hlink
      have := k3 j hj hcj
      by_cases hjl : j = l'
      · rw [hjl]; exact hl'
      · exact ih l' k1 (by omega) k2 (fun o' ho' e' he' hb' => I.closed l' o' ho' hl' e' he' hb') j (by omega) hcj

theorem jb_hereT {n : Nat} (hn : n ≤ ops.size) (pl : Plan P T base w0 ops D sp Jb lb n) (h0 : lb 0 = none) (I : RInv T a0 w0 ops sp Jb lb listed a w) {i : Nat} {o : Oper} (ho : ops[i]? = some o) (hi : i < n) (hc : lb (i + 1) = some i) (hun : listed.getD i false = false) (hw : ∀ e ∈ o.after.toList, Region.binds .any e = true → listed.getD e.on false = true) : Jb i w := by
  have hall := chain_allT hn pl h0 I i hi hc (fun o' ho' => by rw [ho] at ho'; cases ho'; exact hw)
  obtain ⟨k, hk, hJ, h1, h2⟩ := I.world
  have hki : k ≤ i := by
    rcases Nat.lt_or_ge i k with g | g
    · rw [h1 i g hc] at hun; cases hun
    · exact g
  have hconst : ∀ m, k + m ≤ i → Jb (k + m) = Jb k := by
    intro m
    induction m with
    | zero => intro _; rfl
    | succ m ih =>
      intro hm
      obtain ⟨o', ho'⟩ : ∃ o, ops[k + m]? = some o := ⟨ops[k + m], by simp [show k + m < ops.size by omega]⟩
      rcases pl.last (k + m) o' (by omega) ho' with ⟨e, _⟩ | ⟨_, e⟩
      · have a1 := hall (k + m) (by omega) e
        rw [h2 (k + m) (by omega) (by omega) e] at a1
        cases a1
      · rw [show k + (m + 1) = k + m + 1 by omega, e]; exact ih (by omega)
  have := hconst (i - k) (by omega)
  rw [show k + (i - k) = i by omega] at this
  rw [this]; exact hJ

theorem RInv.stepT (ok : RegOk ops a0.tmps.size (base.map (·.1))) (I : RInv T a0 w0 ops sp Jb lb listed a w) (tr : ∀ {a b c}, T a b → T b c → T a c) (st : ∀ j w w' v, listed.getD j false = true → T w w' → (sp j).R w v → (sp j).R w' v) {i : Nat} {o : Oper} (ho : ops[i]? = some o) (hi : i < ops.size) (hn : listed.getD i false = false)
    (hw : ∀ e ∈ o.after.toList, Region.binds .any e = true → listed.getD e.on false = true) (hch : lb (i + 1) = some i → (∀ j, j < i → lb (j + 1) = some j → listed.getD j false = true) ∧ ∀ j, i < j → j < ops.size → lb (j + 1) = some j → listed.getD j false = false)
    (v : Value) (w' : World) (hT : T w w') (hR : (sp i).R w' v) (hW : (lb (i + 1) = some i ∧ Jb (i + 1) w') ∨ (lb (i + 1) ≠ some i ∧ w' = w)) :
    RInv T a0 w0 ops sp Jb lb (listed.setIfInBounds i true) (a.put o.dst v) w' := by
  have hs : i < listed.size := by rw [I.size]; exact hi
  have lst : ∀ {j}, (listed.setIfInBounds i true).getD j false = true ↔ j = i ∨ listed.getD j false = true := by
    intro j; rw [set_get]; simp [hs]
  have nl : ∀ {j}, j ≠ i → listed.getD j false = false → (listed.setIfInBounds i true).getD j false = false := by
    intro j h1 h2
    cases h : (listed.setIfInBounds i true).getD j false
    · rfl
    · rcases lst.1 h with e | e
      · exact absurd e h1
      · rw [h2] at e; cases e
  refine ⟨by simpa using I.size, fun j o' hj hl e he hbi => ?_, fun j o' hj hl => ?_, fun s hs' => ?_, by rw [put_size]; exact I.sz, by rw [put_defers]; exact I.defers, tr I.later hT, ?_⟩
  · rcases lst.1 hl with rfl | hl
    · rw [ho] at hj; cases hj
      exact lst.2 (Or.inr (hw e he hbi))
    · exact lst.2 (Or.inr (I.closed j o' hj hl e he hbi))
  · rcases lst.1 hl with rfl | hl2
    · rw [ho] at hj; cases hj
      refine ⟨v, hR, fun d hd => ?_⟩
      rw [put_getD, if_pos ⟨hd, by rw [I.sz]; exact ok.inb j o d ho hd⟩]
    · by_cases hji : j = i
      · subst hji; rw [hn] at hl2; cases hl2
      · obtain ⟨u, hu, hd⟩ := I.vals j o' hj hl2
        refine ⟨u, st j w w' u hl2 hT hu, fun d hdd => ?_⟩
        rw [put_getD, if_neg (fun ⟨e, _⟩ => hji (ok.apart j i o' o d hj ho hdd e))]
        exact hd d hdd
  · rw [put_get, if_neg (fun ⟨e, _⟩ => hs' i o ho (lst.2 (Or.inl rfl)) e)]
    exact I.rest s fun j o' hj hl => hs' j o' hj (lst.2 (Or.inr hl))
  · rcases hW with ⟨hc, hJ⟩ | ⟨hc, rfl⟩
    · obtain ⟨h1, h2⟩ := hch hc
      refine ⟨i + 1, by omega, hJ, fun j hj hcj => ?_, fun j hj hjs hcj => ?_⟩
      · by_cases hji : j = i
        · exact lst.2 (Or.inl hji)
        · exact lst.2 (Or.inr (h1 j (by omega) hcj))
      · exact nl (by omega) (h2 j (by omega) hjs hcj)
    · obtain ⟨k, hk, hJ, h1, h2⟩ := I.world
      refine ⟨k, hk, hJ, fun j hj hcj => lst.2 (Or.inr (h1 j hj hcj)), fun j hj hjs hcj => ?_⟩
      exact nl (fun e => by subst e; exact hc hcj) (h2 j hj hjs hcj)

theorem fin_mono {w : World} {K K' : Act → Prop} (hk : ∀ a, K a → K' a) : ∀ {sps : Ents} {a : Act}, FinA sps w K a → FinA sps w K' a := by
  intro sps
  induction sps generalizing K K' with
  | nil => intro a h; exact hk a h
  | cons x r ih =>
    intro a h
    obtain ⟨k, d, s⟩ := x
    exact ih (fun a' h' v hv => hk _ (h' v hv)) h
theorem fin_all {w : World} {K : Act → Prop} (hk : ∀ a, K a) : ∀ {sps : Ents} {a : Act}, FinA sps w K a := by
  intro sps
  induction sps generalizing K with
  | nil => intro a; exact hk a
  | cons x r ih =>
    intro a
    obtain ⟨k, d, s⟩ := x
    exact ih fun a' v hv => hk _
theorem finT {n : Nat} {K : Act → World → Prop} (hn : n ≤ ops.size) (pl : Plan P T base w0 ops D sp Jb lb n) (h0 : lb 0 = none) (hJb : ∀ i, n ≤ i → Jb i = Jb n) (hlb : ∀ j, n ≤ j → lb (j + 1) ≠ some j) (ok : RegOk ops a0.tmps.size (base.map (·.1))) (I : RInv T a0 w0 ops sp Jb lb listed a w) (hall : ∀ i, i < n → listed.getD i false = true) (hno : ∀ i, n ≤ i → listed.getD i false = false)
    (hfin : ∀ w, Jb n w → T w0 w → FinA (entsTo ops sp n) w (fun a => K a w) a0) : K a w := by
  have hJ : Jb n w := by
    obtain ⟨k, hk, hJ, h1, h2⟩ := I.world
    rcases Nat.lt_or_ge n k with g | g
    · rw [← hJb k (by omega)]; exact hJ
    · have hconst : ∀ m, k + m ≤ n → Jb (k + m) = Jb k := by
        intro m
        induction m with
        | zero => intro _; rfl
        | succ m ih =>
          intro hm
          obtain ⟨o', ho'⟩ : ∃ o, ops[k + m]? = some o := ⟨ops[k + m]'(by omega), by simp [show k + m < ops.size by omega]⟩
          rcases pl.last (k + m) o' (by omega) ho' with ⟨e, _⟩ | ⟨_, e⟩
          · have a1 := hall (k + m) (by omega)
            rw [h2 (k + m) (by omega) (by omega) e] at a1
            cases a1
          · rw [show k + (m + 1) = k + m + 1 by omega, e]; exact ih (by omega)
      have := hconst (n - k) (by omega)
      rw [show k + (n - k) = n by omega] at this
      rw [this]; exact hJ
  have F : FInv T a0 w0 ops sp listed a w := ⟨I.size, I.closed, I.vals, I.rest, I.sz, I.defers, I.later, 0, Nat.zero_le _, trivial, fun j hj => by omega, fun j _ _ h => by cases h⟩
  refine finF (K := fun a w => Jb n w → K a w) hn ok F hall hno (fun y hy => ?_) hJ
  by_cases h : Jb n y
  · exact fin_mono (fun a hk _ => hk) (hfin y h hy)
  · exact fin_all fun a h' => absurd h' h

theorem anyT {n : Nat} {l2 : List Oper} (hn : n ≤ ops.size) (hl2 : ∀ j, l2[j]? = ops[n + j]?) (rf : ∀ w, T w w) (tr : ∀ {a b c}, T a b → T b c → T a c) (pl : Plan P T base w0 ops D sp Jb lb n) (h0 : lb 0 = none) (hJb : ∀ i, n ≤ i → Jb i = Jb n) (hlb : ∀ j, n ≤ j → lb (j + 1) ≠ some j) (ok : RegOk ops a0.tmps.size (base.map (·.1))) (hb : ∀ p ∈ base, a0.tmps.getD p.1 undef = p.2)
    (ht : tailB ops n = true) (hseq : Region.seqB .any ops l2.length n (headArr n (ops.size - n)) = true)
    (hfin : ∀ w, Jb n w → T w0 w → FinA (entsTo ops sp n) w (fun a => wpList P ops Q l2 a w) a0) (hD : ∀ chain a w, a.defers = a0.defers → D chain w → Q (.panic chain) a w) :
    ∀ (fuel : Nat) (listed : Array Bool) (a : Act) (w : World), RInv T a0 w0 ops sp Jb lb listed a w → (∀ i, n ≤ i → listed.getD i false = false) → ((List.range n).filter fun j => !listed.getD j false).length = fuel → wpAny P .any ops Q (fuel + l2.length) listed a w := by
  intro fuel
  induction fuel with
  | zero =>
    intro listed a w I hno hc
    have hall : ∀ i, i < n → listed.getD i false = true := fun i hi => by
      cases h : listed.getD i false
      · exfalso
        have : i ∈ (List.range n).filter fun j => !listed.getD j false := List.mem_filter.2 ⟨List.mem_range.2 hi, by rw [h]; rfl⟩
        have := List.length_pos_of_mem this
        omega
      · rfl
    have hl : listed = headArr n (ops.size - n) := by
      apply Array.ext
      · rw [I.size]; simp [headArr]; omega
      · intro i h1 h2
        have e1 : listed.getD i false = listed[i] := by rw [Array.getD_eq_getD_getElem?, Array.getElem?_eq_getElem h1]; rfl
        rw [← e1]
        rcases Nat.lt_or_ge i n with g | g
        · rw [hall i g]; simp [headArr, g]
        · rw [hno i g]; simp [headArr, List.getElem_append, show ¬ i < n by omega]
    rw [Nat.zero_add]
    refine wpAny_of_seq l2 n listed a w hl2 (by rw [hl]; exact hseq) ?_
    exact finT hn pl h0 hJb hlb ok I hall hno hfin
  | succ fuel ih =>
    intro listed a w I hno hc
    have hex : ∃ i, i < n ∧ listed.getD i false = false := by
      have : 0 < ((List.range n).filter fun j => !listed.getD j false).length := by omega
      obtain ⟨i, hi⟩ := List.exists_mem_of_length_pos this
      obtain ⟨h1, h2⟩ := List.mem_filter.1 hi
      exact ⟨i, List.mem_range.1 h1, by simpa using h2⟩
    obtain ⟨i0, hi0, hun0⟩ := hex
    rw [show fuel + 1 + l2.length = (fuel + l2.length) + 1 by omega]
    refine ⟨fun hr => ?_, fun i hi => ?_⟩
    · have := all_listed ok I hr i0 (by omega)
      rw [hun0] at this; cases this
    · obtain ⟨o, ho, hn', hw⟩ := ready_spec hi
      have hnl := getD_true_false listed i hn'
      have hlt : i < ops.size := by
        rcases Nat.lt_or_ge i ops.size with g | g
        · exact g
        · rw [Array.getElem?_eq_none g] at ho; cases ho
      have hin : i < n := by
        rcases Nat.lt_or_ge i n with g | g
        · exact g
        · exfalso
          have h1 := List.all_eq_true.1 ht i (List.mem_range.2 hlt)
          simp only [Bool.or_eq_true, decide_eq_true_eq] at h1
          rcases h1 with h1 | h1
          · omega
          · have := waits_listed ho I.closed hw (List.all_eq_true.1 h1 i0 (List.mem_range.2 hi0))
            rw [hun0] at this; cases this
      have hfx := fx_here ok hb I ho hw
      have hwant := wanted_here ok I ho hw (pl.guard i o hin ho)
      have hcount : ((List.range n).filter fun j => !(listed.setIfInBounds i true).getD j false).length = fuel := by
        have hs : i < listed.size := by rw [I.size]; exact hlt
        have e : (List.range n).filter (fun j => !(listed.setIfInBounds i true).getD j false) = ((List.range n).filter fun j => !listed.getD j false).filter (fun j => j != i) := by
          rw [List.filter_filter]
          congr 1
          funext j
          cases h : (listed.setIfInBounds i true).getD j false
          · have h2 : listed.getD j false = false := by
              cases h3 : listed.getD j false
              · rfl
              · have := set_get (i := i) |>.2 (Or.inr h3); rw [this] at h; cases h
            have h3 : j ≠ i := fun e => by
              have := set_get (listed := listed) (i := i) (j := j) |>.2 (Or.inl ⟨e, hs⟩)
              rw [this] at h; cases h
            simp [h2, h3]
          · rcases set_get.1 h with ⟨rfl, _⟩ | h2
            · simp
            · simp [h2]
        rw [e]
        have hnd : ((List.range n).filter fun j => !listed.getD j false).Nodup := List.Nodup.sublist List.filter_sublist List.nodup_range
        have hmem : i ∈ (List.range n).filter fun j => !listed.getD j false := List.mem_filter.2 ⟨List.mem_range.2 hin, by rw [hnl]; rfl⟩
        have h3 := hnd.erase_eq_filter i
        rw [← h3, List.length_erase_of_mem hmem]
        omega
      have hno' : ∀ j, n ≤ j → (listed.setIfInBounds i true).getD j false = false := fun j hj => by
        cases h : (listed.setIfInBounds i true).getD j false
        · rfl
        · rcases set_get.1 h with ⟨rfl, _⟩ | h2
          · omega
          · rw [hno j hj] at h2; cases h2
      have st : ∀ j w w' v, listed.getD j false = true → T w w' → (sp j).R w v → (sp j).R w' v := fun j w w' v hl hT hR => by
        have hjn : j < n := by
          rcases Nat.lt_or_ge j n with g | g
          · exact g
          · rw [hno j g] at hl; cases hl
        obtain ⟨o', ho'⟩ : ∃ o, ops[j]? = some o := ⟨ops[j]'(by omega), by simp [show j < ops.size by omega]⟩
        cases hsp : sp j with
        | val c => rw [hsp] at hR; exact hR
        | skip => rw [hsp] at hR; exact hR
        | call R J' => rw [hsp] at hR; exact (pl.call j o' R J' hjn ho' hsp).1.1 w w' v hT hR
        | die => rw [hsp] at hR; exact hR.elim
        | held c I => rw [hsp] at hR; exact ⟨hR.1, (pl.held j o' c I hjn ho' hsp).1 w w' hT hR.2⟩
      have hch : lb (i + 1) = some i → (∀ j, j < i → lb (j + 1) = some j → listed.getD j false = true) ∧ ∀ j, i < j → j < ops.size → lb (j + 1) = some j → listed.getD j false = false := fun hci => by
        refine ⟨chain_allT hn pl h0 I i hin hci fun o' ho' => by rw [ho] at ho'; cases ho'; exact hw, fun j hj hjs hcj => ?_⟩
        cases h : listed.getD j false
        · rfl
        · exfalso
          have hjn : j < n := by
            rcases Nat.lt_or_ge j n with g | g
            · exact g
            · exact absurd hcj (hlb j g)
          have := chain_allT hn pl h0 I j hjn hcj (fun o' ho' e he hbi => I.closed j o' ho' h e he hbi) i hj hci
          rw [hnl] at this; cases this
      have go : ∀ v w', T w w' → (sp i).R w' v → ((lb (i + 1) = some i ∧ Jb (i + 1) w') ∨ (lb (i + 1) ≠ some i ∧ w' = w)) → wpAny P .any ops Q (fuel + l2.length) (listed.setIfInBounds i true) (a.put o.dst v) w' := fun v w' hT hR hW =>
        ih _ _ _ (RInv.stepT ok I tr st ho hlt hnl hw hch v w' hT hR hW) hno' hcount
      have stay : (∀ w, (sp i).J (Jb i) w = Jb i w) → (lb (i + 1) = some i ∧ Jb (i + 1) w) ∨ (lb (i + 1) ≠ some i ∧ w = w) := fun hJ => by
        by_cases hci : lb (i + 1) = some i
        · left
          refine ⟨hci, ?_⟩
          rw [pl.next i hin, hJ]
          exact jb_hereT hn pl h0 I ho hin hci hnl hw
        · exact Or.inr ⟨hci, rfl⟩
      unfold wpOp
      rw [ho]
      simp only
      cases hsp : sp i with
      | val c =>
        rw [hsp] at hwant
        simp only at hwant
        rw [if_pos hwant]
        left
        have hrun := pl.val i o c hin ho hsp a w I.later hfx
        unfold Oper.wp
        rw [hrun]
        exact go c w (rf w) (by rw [hsp]; rfl) (stay fun w => by rw [hsp]; rfl)
      | skip =>
        rw [hsp] at hwant
        simp only at hwant
        rw [if_neg (by rw [hwant]; simp)]
        exact go undef w (rf w) (by rw [hsp]; rfl) (stay fun w => by rw [hsp]; rfl)
      | call R J' =>
        rw [hsp] at hwant
        simp only at hwant
        rw [if_pos hwant]
        left
        obtain ⟨hco, hci⟩ := pl.call i o R J' hin ho hsp
        have heff := hco.2 a w (jb_hereT hn pl h0 I ho hin hci hnl hw) I.later hfx
        have hnext := pl.next i hin
        rw [hsp] at hnext
        have go2 : ∀ v w', T w w' → R w' v → J' w' → wpAny P .any ops Q (fuel + l2.length) (listed.setIfInBounds i true) (a.put o.dst v) w' := fun v w' hT hR hJ => go v w' hT (by rw [hsp]; exact hR) (Or.inl ⟨hci, by rw [hnext]; exact hJ⟩)
        unfold Oper.wp
        generalize (execOp a.eval o).run P w = r at heff
        unfold effOk at heff
        split at heff
        · exact go2 _ _ heff.2.2 heff.1 heff.2.1
        · exact go2 _ _ heff.2.2 heff.1 heff.2.1
        · refine Calls.mono heff ?_
          rintro e w'' ⟨v, rfl, h1, h2, h3⟩
          exact go2 v w'' h3 h1 h2
        · exact heff.elim
      | die =>
        rw [hsp] at hwant
        simp only at hwant
        rw [if_pos hwant]
        left
        obtain ⟨hdo, hci⟩ := pl.die i o hin ho hsp
        have heff := hdo a w (jb_hereT hn pl h0 I ho hin hci hnl hw) I.later hfx
        unfold Oper.wp
        generalize (execOp a.eval o).run P w = r at heff
        unfold dieOk at heff
        split at heff
        · refine Calls.mono heff ?_
          rintro e w'' ⟨chain, rfl, h1⟩
          exact hD chain a w'' I.defers h1
        · exact hD _ a _ I.defers heff
        · exact heff.elim
      | held c J' =>
        rw [hsp] at hwant
        simp only at hwant
        rw [if_pos hwant]
        left
        have heff := (pl.held i o c J' hin ho hsp).2 a w I.later hfx
        have hold : J' w → wpAny P .any ops Q (fuel + l2.length) (listed.setIfInBounds i true) (a.put o.dst c) w := fun hI => go c w (rf w) (by rw [hsp]; exact ⟨rfl, hI⟩) (stay fun w => by rw [hsp]; rfl)
        unfold Oper.wp
        generalize (execOp a.eval o).run P w = r at heff
        unfold quietOk at heff
        split at heff
        · obtain ⟨rfl, rfl, hI⟩ := heff
          exact hold hI
        · obtain ⟨rfl, hI, hc⟩ := heff
          refine Calls.mono hc ?_
          rintro e w'' ⟨rfl, rfl⟩
          exact hold hI
        · exact heff.elim

/-- THE LAW: a region that draws its order, its calls one behind the other; its last operations wait on the first n -/
theorem wp_region_tail {id : Nat} {l : List Oper} {a : Act} {w : World} (D : List PanicEntry → World → Prop) (hD : ∀ chain a' w, a'.defers = a.defers → D chain w → Q (.panic chain) a' w) (n : Nat) (T : World → World → Prop) (rf : ∀ w, T w w) (tr : ∀ {a b c}, T a b → T b c → T a c) (base : List (Nat × Value)) (hb : ∀ p ∈ base, a.tmps.getD p.1 undef = p.2)
    (hm : P.follows .mixedOrders = true) (hB : regB l.toArray a.tmps.size (base.map (·.1)) = true) (hn : n ≤ l.length) (ht : tailB l.toArray n = true) (hseq : Region.seqB .any l.toArray (l.drop n).length n (headArr n (l.length - n)) = true)
    (J : World → Prop) (hJ : J w.drew) (h : RB P T base (fun e a w => e = .normal → wpList P l.toArray Q (l.drop n) a w) a w.drew l.toArray D 0 (l.take n) [] J none) : (Code.region id l.toArray true).wp P Q a w := by
  have ok := regB_ok hB
  have hlen : (l.take n).length = n := by rw [List.length_take]; omega
  obtain ⟨sp, Jb, lb, pl, h0, hJ0, hfin⟩ := RB.plan (ops := l.toArray) (l.take n) 0 (fun _ => .skip) (fun _ => J) (fun _ => none) (fun i hi => by rw [hlen] at hi; simp [hi]) ⟨fun i _ hi => by omega, fun i _ _ hi => by omega, fun i _ _ _ hi => by omega, fun i _ hi => by omega, fun i _ _ _ hi => by omega, fun i hi => by omega, fun i _ hi => by omega⟩ h
  rw [Nat.zero_add, hlen] at pl hfin
  refine wp_region_any hm ?_
  have hf : l.toArray.size = ((List.range n).filter fun j => !(Array.replicate l.toArray.size false).getD j false).length + (l.drop n).length := by
    have : (List.range n).filter (fun j => !(Array.replicate l.toArray.size false).getD j false) = List.range n := by
      rw [List.filter_eq_self]
      intro j _
      rw [getD_replicate_false]; rfl
    rw [this]; simp; omega
  have pl2 : Plan P T base w.drew l.toArray D sp (fun i => Jb (min i n)) (fun i => if i ≤ n then lb i else none) n := by
    refine ⟨pl.guard, pl.val, fun i o R J' hi ho hs => ?_, fun i o hi ho hs => ?_, pl.held, fun i hi => ?_, fun i o hi ho => ?_⟩
    · have := pl.call i o R J' hi ho hs
      simp only [show min i n = i by omega, if_pos (show i + 1 ≤ n by omega)]; exact this
    · have := pl.die i o hi ho hs
      simp only [show min i n = i by omega, if_pos (show i + 1 ≤ n by omega)]; exact this
    · have := pl.next i hi
      simp only [show min i n = i by omega, show min (i + 1) n = i + 1 by omega]; exact this
    · have := pl.last i o hi ho
      simp only [show min i n = i by omega, show min (i + 1) n = i + 1 by omega, if_pos (show i ≤ n by omega), if_pos (show i + 1 ≤ n by omega)]; exact this
  have key := anyT (Q := Q) (ops := l.toArray) (l2 := l.drop n) (n := n) (by simpa using hn) (fun j => by simp) rf tr pl2 (by simp [h0]) (fun i hi => by simp [show min i n = n by omega]) (fun j hj => by simp [show ¬ j + 1 ≤ n by omega]) ok hb ht (by simpa using hseq) (fun y h1 h2 => fin_mono (fun a h => h rfl) (hfin y (by simpa using h1) h2)) hD _ (Array.replicate l.toArray.size false) a w.drew
    ⟨by simp, fun j o _ h => (by rw [getD_replicate_false] at h; cases h), fun j o _ h => (by rw [getD_replicate_false] at h; cases h), fun _ _ => rfl, rfl, rfl, rf _, 0, Nat.zero_le _, by simp [hJ0]; exact hJ, fun j hj => by omega, fun j _ _ _ => getD_replicate_false _ _⟩ (fun i _ => getD_replicate_false _ _) rfl
  rw [← hf] at key
  exact key
end
end Go.Proofs.Ytngbannidbijmaa

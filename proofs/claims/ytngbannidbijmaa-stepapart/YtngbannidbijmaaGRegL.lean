/- A region that draws its order, whose operations make memory and turn what others made: each one takes what it turns from the one that made it (a block is of one operation at a time); the last ones wait on all the others. A region that draws its order, each block of one operation at a time: the law. -/
import Derived.Test.YtngbannidbijmaaGRegBy
import Derived.Test.YtngbannidbijmaaGOnly
namespace Go.Proofs.Ytngbannidbijmaa
open Go.RowKit

/-- what an operation comes to: which ones' memory it takes (C), of which ones' values it speaks (D); what is known of its value; what is so of memory then, in which blocks -/
structure Ls where
  C : List Nat
  D : List Nat
  P : Value → List Value → Prop
  M : World → Value → List Value → Prop
  F : Value → List Value → List Nat
abbrev EntL := List (Nat × Option Tmp × Ls)
@[simp] def lookL : EntL → Nat → Option (Option Tmp × Ls)
  | [], _ => none
  | (k, x) :: r, j => if k = j then some x else lookL r j
@[simp] def valL (f : Nat → Value) (a : Act) (k : Nat) : Option Tmp → Value
  | some d => a.tmps.getD d undef
  | none => f k
@[simp] def FxL (sps : EntL) (f : Nat → Value) (a : Act) : List Edge → Prop
  | [] => True
  | e :: es => (match lookL sps e.on with
      | some (d, s) => Region.binds .any e = true → f e.on = valL f a e.on d ∧ s.P (valL f a e.on d) (s.D.map f)
      | none => True) ∧ FxL sps f a es
@[simp] def FpL (sps : EntL) (f : Nat → Value) (a : Act) (k : Nat) : List Nat := match lookL sps k with
  | some (d, s) => s.F (valL f a k d) (s.D.map f)
  | none => []
@[simp] def MpL (sps : EntL) (f : Nat → Value) (a : Act) (w : World) (k : Nat) : Prop := match lookL sps k with
  | some (d, s) => s.M w (valL f a k d) (s.D.map f)
  | none => True
@[simp] def CxL (sps : EntL) (f : Nat → Value) (a : Act) (w : World) (N : Nat) : List Nat → Prop
  | [] => True
  | k :: ks => MpL sps f a w k ∧ (∀ g ∈ FpL sps f a k, N ≤ g ∧ g < w.heap.size) ∧ (∀ k' ∈ ks, ∀ g ∈ FpL sps f a k, g ∉ FpL sps f a k') ∧ CxL sps f a w N ks
def postL (s : Ls) (ds : List Value) (S : List Nat) (w : World) (v : Value) (w' : World) : Prop :=
  s.P v ds ∧ s.M w' v ds ∧ Only S w w' ∧ ∀ g ∈ s.F v ds, (g ∈ S ∨ w.heap.size ≤ g) ∧ g < w'.heap.size
@[simp] def effL (P : Program) (post : Value → World → Prop) : Result Next → Prop
  | .ok (.value v) w' => post v w'
  | .ok .skip w' => post undef w'
  | .ok (.enter f args) w' => Calls P f args w' fun e w'' => ∃ v, e = .returned v ∧ post v w''
  | _ => False
@[simp] def putsL (f : Nat → Value) (a0 : Act) : EntL → Act
  | [] => a0
  | (k, d, _) :: r => (putsL f a0 r).put d (f k)
@[simp] def FinL (cons : List Nat) (f : Nat → Value) (w : World) : EntL → Prop
  | [] => True
  | (k, _, s) :: r => s.P (f k) (s.D.map f) ∧ (cons.contains k = false → s.M w (f k) (s.D.map f)) ∧ FinL cons f w r
/-- what is so of memory there hangs on its blocks alone -/
def LocL (s : Ls) : Prop := ∀ w w' S v ds, Only S w w' → (∀ g ∈ s.F v ds, g ∉ S) → s.M w v ds → s.M w' v ds
section
variable (P : Program) (base : List (Nat × Value)) (K : Act → World → Prop) (a0 : Act) (w0 : World) (ops : Array Oper)
def EffL (sps : EntL) (o : Oper) (s : Ls) : Prop := ∀ f a w, Only [] w0 w → (∀ p ∈ base, a.tmps.getD p.1 undef = p.2) → FxL sps f a o.after.toList → CxL sps f a w w0.heap.size s.C →
  effL P (postL s (s.D.map f) (s.C.flatMap (FpL sps f a)) w) ((execOp a.eval o).run P w)
def RL : Nat → List Oper → EntL → List Nat → Prop
  | _, [], sps, cons => ∀ f w, Only [] w0 w → FinL cons f w sps → K (putsL f a0 sps) w
  | k, o :: rest, sps, cons => ∃ s : Ls, o.guard = none ∧ (s.C.all fun c => waits ops k c && !cons.contains c) = true ∧ s.C.Nodup ∧ (s.D.all fun c => waits ops k c) = true ∧ LocL s ∧ EffL P base w0 sps o s ∧ RL (k + 1) rest ((k, o.dst, s) :: sps) (s.C ++ cons)
end
def entsL (ops : Array Oper) (sp : Nat → Ls) : Nat → EntL
  | 0 => []
  | i + 1 => (i, (ops[i]?).bind (·.dst), sp i) :: entsL ops sp i
def consL (sp : Nat → Ls) : Nat → List Nat
  | 0 => []
  | i + 1 => (sp i).C ++ consL sp i
theorem look_entsL (ops : Array Oper) (sp : Nat → Ls) (i j : Nat) : lookL (entsL ops sp i) j = if j < i then some ((ops[j]?).bind (·.dst), sp j) else none := by
  induction i with
  | zero => simp [entsL, lookL]
  | succ i ih =>
    rw [entsL, lookL, ih]
    by_cases h : i = j
    · subst h; simp
    · rw [if_neg h]
      by_cases h2 : j < i
      · rw [if_pos h2, if_pos (by omega)]
      · rw [if_neg h2, if_neg (by omega)]
theorem mem_consL (sp : Nat → Ls) (n k : Nat) : k ∈ consL sp n ↔ ∃ i, i < n ∧ k ∈ (sp i).C := by
  induction n with
  | zero => simp [consL]
  | succ n ih =>
    rw [consL, List.mem_append, ih]
    constructor
    · rintro (h | ⟨i, h1, h2⟩)
      · exact ⟨n, by omega, h⟩
      · exact ⟨i, by omega, h2⟩
    · rintro ⟨i, h1, h2⟩
      by_cases e : i = n
      · subst e; exact Or.inl h2
      · exact Or.inr ⟨i, by omega, h2⟩
section
variable {P : Program} {base : List (Nat × Value)} {K : Act → World → Prop} {a0 : Act} {w0 : World} {ops : Array Oper} {sps : EntL} {cons : List Nat} {k : Nat} {o : Oper} {rest : List Oper}
structure PlanL (P : Program) (base : List (Nat × Value)) (w0 : World) (ops : Array Oper) (sp : Nat → Ls) (n : Nat) : Prop where
  guard : ∀ i o, i < n → ops[i]? = some o → o.guard = none
  cw : ∀ i, i < n → ∀ c ∈ (sp i).C, waits ops i c = true
  once : ∀ i i', i < n → i' < n → i ≠ i' → ∀ c ∈ (sp i).C, c ∉ (sp i').C
  dw : ∀ i, i < n → ∀ c ∈ (sp i).D, waits ops i c = true
  nd : ∀ i, i < n → (sp i).C.Nodup
  loc : ∀ i, i < n → LocL (sp i)
  eff : ∀ i o, i < n → ops[i]? = some o → EffL P base w0 (entsL ops sp i) o (sp i)

theorem RL.plan : ∀ (rest : List Oper) (k : Nat) (sp0 : Nat → Ls), (∀ i, i < rest.length → rest[i]? = ops[k + i]?) → PlanL P base w0 ops sp0 k → RL P base K a0 w0 ops k rest (entsL ops sp0 k) (consL sp0 k) →
    ∃ sp, PlanL P base w0 ops sp (k + rest.length) ∧ ∀ f w, Only [] w0 w → FinL (consL sp (k + rest.length)) f w (entsL ops sp (k + rest.length)) → K (putsL f a0 (entsL ops sp (k + rest.length))) w := by
  intro rest
  induction rest with
  | nil => intro k sp0 _ hp h; exact ⟨sp0, by simpa using hp, by simpa [RL] using h⟩
  | cons o rest ih =>
    intro k sp0 hr hp h
    have ho : ops[k]? = some o := by have := hr 0 (by simp); simpa using this.symm
    have hrest : ∀ i, i < rest.length → rest[i]? = ops[k + 1 + i]? := fun i hi => by have := hr (i + 1) (by simpa using hi); rw [show k + 1 + i = k + (i + 1) by omega, ← this]; simp
    obtain ⟨s, hg, hc, hnd, hd, hl, he, hr2⟩ := h
    have se : ∀ i, i ≤ k → entsL ops (fun j => if j = k then s else sp0 j) i = entsL ops sp0 i := by
      intro i
      induction i with
      | zero => intro _; rfl
      | succ i ih2 => intro hi; rw [entsL, entsL, ih2 (by omega), if_neg (by omega)]
    have ce : ∀ i, i ≤ k → consL (fun j => if j = k then s else sp0 j) i = consL sp0 i := by
      intro i
      induction i with
      | zero => intro _; rfl
      | succ i ih2 => intro hi; rw [consL, consL, ih2 (by omega), if_neg (by omega)]
    have sk : entsL ops (fun j => if j = k then s else sp0 j) (k + 1) = (k, o.dst, s) :: entsL ops sp0 k := by rw [entsL, se k (Nat.le_refl _), if_pos rfl, ho]; rfl
    have ck : consL (fun j => if j = k then s else sp0 j) (k + 1) = s.C ++ consL sp0 k := by rw [consL, ce k (Nat.le_refl _), if_pos rfl]
    have hc2 : ∀ c ∈ s.C, waits ops k c = true ∧ c ∉ consL sp0 k := fun c hm => by
      have := List.all_eq_true.1 hc c hm
      simp only [Bool.and_eq_true, Bool.not_eq_true'] at this
      refine ⟨this.1, fun hm2 => ?_⟩
      have h2 := List.contains_iff_mem.2 hm2
      rw [this.2] at h2; cases h2
    have hp2 : PlanL P base w0 ops (fun j => if j = k then s else sp0 j) (k + 1) := by
      refine ⟨fun i o' hi hio => ?_, fun i hi c hm => ?_, fun i i' hi hi' hne c hm hm' => ?_, fun i hi c hm => ?_, fun i hi => ?_, fun i hi => ?_, fun i o' hi hio => ?_⟩
      · by_cases e : i = k
        · subst e; rw [ho] at hio; cases hio; exact hg
        · exact hp.guard i o' (by omega) hio
      · by_cases e : i = k
        · subst e; simp only [if_true] at hm; exact (hc2 c hm).1
        · simp only [if_neg e] at hm; exact hp.cw i (by omega) c hm
      · by_cases e : i = k
        · subst e
          simp only [if_true] at hm
          simp only [if_neg (fun h => hne (Eq.symm h))] at hm'
          exact (hc2 c hm).2 ((mem_consL _ _ _).2 ⟨i', by omega, hm'⟩)
        · simp only [if_neg e] at hm
          by_cases e' : i' = k
          · subst e'
            simp only [if_true] at hm'
            exact (hc2 c hm').2 ((mem_consL _ _ _).2 ⟨i, by omega, hm⟩)
          · simp only [if_neg e'] at hm'
            exact hp.once i i' (by omega) (by omega) hne c hm hm'
      · by_cases e : i = k
        · subst e; simp only [if_true] at hm; exact List.all_eq_true.1 hd c hm
        · simp only [if_neg e] at hm; exact hp.dw i (by omega) c hm
      · by_cases e : i = k
        · simp only [if_pos e]; exact hnd
        · simp only [if_neg e]; exact hp.nd i (by omega)
      · by_cases e : i = k
        · simp only [if_pos e]; exact hl
        · simp only [if_neg e]; exact hp.loc i (by omega)
      · rw [se i (by omega)]
        by_cases e : i = k
        · subst e; rw [ho] at hio; cases hio; simpa using he
        · simp only [if_neg e]; exact hp.eff i o' (by omega) hio
    obtain ⟨sp, h1, h4⟩ := ih (k + 1) _ hrest hp2 (by rw [sk, ck]; exact hr2)
    rw [show k + 1 + rest.length = k + (o :: rest).length by simp; omega] at h1 h4
    exact ⟨sp, h1, h4⟩
end

section
variable {P : Program} {base : List (Nat × Value)} {Q : Exit → Act → World → Prop} {a0 : Act} {w0 : World} {ops : Array Oper} {sp : Nat → Ls} {f : Nat → Value} {listed : Array Bool} {a : Act} {w : World}
def freeL (sp : Nat → Ls) (listed : Array Bool) (j : Nat) : Prop := ∀ k, listed.getD k false = true → j ∉ (sp k).C
/-- where the walk stands -/
structure LInv (a0 : Act) (w0 : World) (ops : Array Oper) (sp : Nat → Ls) (f : Nat → Value) (listed : Array Bool) (a : Act) (w : World) : Prop where
  size : listed.size = ops.size
  closed : ∀ (j : Nat) (o : Oper), ops[j]? = some o → listed.getD j false = true → ∀ e ∈ o.after.toList, Region.binds .any e = true → listed.getD e.on false = true
  slots : ∀ (j : Nat) (o : Oper) (d : Nat), ops[j]? = some o → listed.getD j false = true → o.dst = some d → a.tmps.getD d undef = f j
  rest : ∀ s, (∀ (j : Nat) (o : Oper), ops[j]? = some o → listed.getD j false = true → o.dst ≠ some s) → a.tmps[s]? = a0.tmps[s]?
  sz : a.tmps.size = a0.tmps.size
  defers : a.defers = a0.defers
  later : Only [] w0 w
  pure : ∀ j, listed.getD j false = true → (sp j).P (f j) ((sp j).D.map f)
  mem : ∀ j, listed.getD j false = true → freeL sp listed j → (sp j).M w (f j) ((sp j).D.map f) ∧ ∀ g ∈ (sp j).F (f j) ((sp j).D.map f), w0.heap.size ≤ g ∧ g < w.heap.size
  apart : ∀ i j, i ≠ j → listed.getD i false = true → listed.getD j false = true → freeL sp listed i → freeL sp listed j → ∀ g ∈ (sp i).F (f i) ((sp i).D.map f), g ∉ (sp j).F (f j) ((sp j).D.map f)
end
end Go.Proofs.Ytngbannidbijmaa
namespace Go.Proofs.Ytngbannidbijmaa
open Go.RowKit

section
variable {P : Program} {base : List (Nat × Value)} {Q : Exit → Act → World → Prop} {a0 : Act} {w0 : World} {ops : Array Oper} {sp : Nat → Ls} {f : Nat → Value} {listed : Array Bool} {a : Act} {w : World}
theorem deps_lt {n : Nat} {bs : List Nat} (ok : RegOk ops n bs) {j : Nat} : ∀ x ∈ depsOf ops j, x < j := by
  intro x hx
  unfold depsOf at hx
  cases ho : ops[j]? with
  | none => rw [ho] at hx; cases hx
  | some o =>
    rw [ho] at hx
    obtain ⟨e, he, rfl⟩ := List.mem_map.1 hx
    obtain ⟨h1, h2⟩ := List.mem_filter.1 he
    exact ok.lt j o ho e h1 h2
theorem waits_lt {n : Nat} {bs : List Nat} (ok : RegOk ops n bs) {i c : Nat} (h : waits ops i c = true) : c < i := by
  unfold waits at h
  exact reach_all (C := fun x => x < i) (fun j hj x hx => Nat.lt_trans (deps_lt ok x hx) hj) i _ (fun x hx => deps_lt ok x hx) c (List.contains_iff_mem.1 h)
def updL (f : Nat → Value) (i : Nat) (v : Value) : Nat → Value := fun j => if j = i then v else f j
theorem valL_here (I : LInv a0 w0 ops sp f listed a w) {k : Nat} (hk : listed.getD k false = true) : valL f a k ((ops[k]?).bind (·.dst)) = f k := by
  cases ho : ops[k]? with
  | none => rfl
  | some o =>
    cases hd : o.dst with
    | none => simp [hd]
    | some d => simpa [hd] using I.slots k o d ho hk hd
theorem fpL_here (I : LInv a0 w0 ops sp f listed a w) {i k : Nat} (hki : k < i) (hk : listed.getD k false = true) : FpL (entsL ops sp i) f a k = (sp k).F (f k) ((sp k).D.map f) := by
  simp only [FpL, look_entsL, if_pos hki, valL_here I hk]
theorem mpL_here (I : LInv a0 w0 ops sp f listed a w) {i k : Nat} (hki : k < i) (hk : listed.getD k false = true) (h : (sp k).M w (f k) ((sp k).D.map f)) : MpL (entsL ops sp i) f a w k := by
  simp only [MpL, look_entsL, if_pos hki, valL_here I hk]; exact h
theorem fxL_here (I : LInv a0 w0 ops sp f listed a w) {i : Nat} : ∀ (es : List Edge), (∀ e ∈ es, Region.binds .any e = true → e.on < i ∧ listed.getD e.on false = true) → FxL (entsL ops sp i) f a es := by
  intro es
  induction es with
  | nil => intro _; trivial
  | cons e es ih =>
    intro h
    refine ⟨?_, ih fun e' he' => h e' (by simp [he'])⟩
    rw [look_entsL]
    by_cases hki : e.on < i
    · rw [if_pos hki]
      intro hb
      have := h e (by simp) hb
      exact ⟨(valL_here I this.2).symm, by rw [valL_here I this.2]; exact I.pure _ this.2⟩
    · rw [if_neg hki]; trivial
theorem cxL_here (I : LInv a0 w0 ops sp f listed a w) {i : Nat} : ∀ (C : List Nat), C.Nodup → (∀ c ∈ C, c < i ∧ listed.getD c false = true ∧ freeL sp listed c) → CxL (entsL ops sp i) f a w w0.heap.size C := by
  intro C
  induction C with
  | nil => intro _ _; trivial
  | cons c C ih =>
    intro hnd h
    obtain ⟨h1, h2, h3⟩ := h c (by simp)
    obtain ⟨m1, m2⟩ := I.mem c h2 h3
    rw [List.nodup_cons] at hnd
    refine ⟨mpL_here I h1 h2 m1, ?_, ?_, ih hnd.2 fun c' hc' => h c' (by simp [hc'])⟩
    · rw [fpL_here I h1 h2]; exact m2
    · intro c' hc'
      obtain ⟨g1, g2, g3⟩ := h c' (by simp [hc'])
      rw [fpL_here I h1 h2, fpL_here I g1 g2]
      exact I.apart c c' (fun e => hnd.1 (e ▸ hc')) h2 g2 h3 g3
theorem LInv.step {n : Nat} (ok : RegOk ops a0.tmps.size (base.map (·.1))) (pl : PlanL P base w0 ops sp n) (I : LInv a0 w0 ops sp f listed a w) (hno : ∀ j, n ≤ j → listed.getD j false = false) {i : Nat} {o : Oper} (ho : ops[i]? = some o) (hin : i < n) (hi : i < ops.size) (hn : listed.getD i false = false)
    (hw : ∀ e ∈ o.after.toList, Region.binds .any e = true → listed.getD e.on false = true) (v : Value) (w' : World) (hp : postL (sp i) ((sp i).D.map f) ((sp i).C.flatMap (FpL (entsL ops sp i) f a)) w v w') :
    LInv a0 w0 ops sp (updL f i v) (listed.setIfInBounds i true) (a.put o.dst v) w' := by
  have hs : i < listed.size := by rw [I.size]; exact hi
  have lst : ∀ {j}, (listed.setIfInBounds i true).getD j false = true ↔ j = i ∨ listed.getD j false = true := by
    intro j; rw [set_get]; simp [hs]
  have hne : ∀ j, listed.getD j false = true → j ≠ i := fun j hj e => by rw [e, hn] at hj; cases hj
  have hlt : ∀ j, listed.getD j false = true → j < n := fun j hj => by
    rcases Nat.lt_or_ge j n with g | g
    · exact g
    · rw [hno j g] at hj; cases hj
  have hwi : ∀ c, waits ops i c = true → listed.getD c false = true := fun c hc => waits_listed ho I.closed hw hc
  have hwj : ∀ j c, listed.getD j false = true → waits ops j c = true → listed.getD c false = true := fun j c hj hc => by
    cases hoj : ops[j]? with
    | none => simp [waits, depsOf, hoj] at hc; exact absurd hc (by have : ∀ k, reachGo ops k [] = [] := fun k => by { induction k with | zero => rfl | succ k ih => simp [reachGo, ih] }
                                                                   rw [this]; simp)
    | some o' => exact waits_listed hoj I.closed (fun e he hb => I.closed j o' hoj hj e he hb) hc
  have uf : ∀ j, listed.getD j false = true → updL f i v j = f j := fun j hj => if_neg (hne j hj)
  have ui : updL f i v i = v := if_pos rfl
  have uD : ∀ j, listed.getD j false = true → (sp j).D.map (updL f i v) = (sp j).D.map f := fun j hj =>
    List.map_congr_left fun c hc => uf c (hwj j c hj (pl.dw j (hlt j hj) c hc))
  have uDi : (sp i).D.map (updL f i v) = (sp i).D.map f := List.map_congr_left fun c hc => uf c (hwi c (pl.dw i hin c hc))
  obtain ⟨hP, hM, hO, hF⟩ := hp
  have hC : ∀ c ∈ (sp i).C, listed.getD c false = true ∧ c < i ∧ freeL sp listed c := fun c hc => by
    have h1 := hwi c (pl.cw i hin c hc)
    exact ⟨h1, waits_lt ok (pl.cw i hin c hc), fun k hk hm => pl.once i k hin (hlt k hk) (fun e => hne k hk e.symm) c hc hm⟩
  have hS : ∀ g, g ∈ (sp i).C.flatMap (FpL (entsL ops sp i) f a) → ∃ c ∈ (sp i).C, g ∈ (sp c).F (f c) ((sp c).D.map f) := fun g hg => by
    obtain ⟨c, hc, hg⟩ := List.mem_flatMap.1 hg
    rw [fpL_here I (hC c hc).2.1 (hC c hc).1] at hg
    exact ⟨c, hc, hg⟩
  have hSb : ∀ g, g ∈ (sp i).C.flatMap (FpL (entsL ops sp i) f a) → w0.heap.size ≤ g ∧ g < w.heap.size := fun g hg => by
    obtain ⟨c, hc, hg⟩ := hS g hg
    exact (I.mem c (hC c hc).1 (hC c hc).2.2).2 g hg
  have hfree : ∀ j, listed.getD j false = true → freeL sp (listed.setIfInBounds i true) j → freeL sp listed j ∧ j ∉ (sp i).C := fun j hj hf =>
    ⟨fun k hk => hf k (lst.2 (Or.inr hk)), hf i (lst.2 (Or.inl rfl))⟩
  -- what another one has lies apart from what is turned
  have hap : ∀ j, listed.getD j false = true → freeL sp (listed.setIfInBounds i true) j → ∀ g ∈ (sp j).F (f j) ((sp j).D.map f), g ∉ (sp i).C.flatMap (FpL (entsL ops sp i) f a) := fun j hj hf g hg hm => by
    obtain ⟨h1, h2⟩ := hfree j hj hf
    obtain ⟨c, hc, hgc⟩ := hS g hm
    exact I.apart j c (fun e => h2 (e ▸ hc)) hj (hC c hc).1 h1 (hC c hc).2.2 g hg hgc
  have hz := hO.size
  refine ⟨by simpa using I.size, fun j o' hj hl e he hbi => ?_, fun j o' d hj hl hd => ?_, fun s hs' => ?_, by rw [put_size]; exact I.sz, by rw [put_defers]; exact I.defers, I.later.then hO (fun x hx hl => by have := (hSb x hx).1; omega), fun j hl => ?_, fun j hl hf => ?_, fun j k hjk hl hk hfj hfk => ?_⟩
  · rcases lst.1 hl with rfl | hl
    · rw [ho] at hj; cases hj
      exact lst.2 (Or.inr (hw e he hbi))
    · exact lst.2 (Or.inr (I.closed j o' hj hl e he hbi))
  · rcases lst.1 hl with rfl | hl2
    · rw [ho] at hj; cases hj
      rw [put_getD, if_pos ⟨hd, by rw [I.sz]; exact ok.inb j o d ho hd⟩, ui]
    · have hji := hne j hl2
      rw [put_getD, if_neg (fun ⟨e, _⟩ => hji (ok.apart j i o' o d hj ho hd e)), uf j hl2]
      exact I.slots j o' d hj hl2 hd
  · rw [put_get, if_neg (fun ⟨e, _⟩ => hs' i o ho (lst.2 (Or.inl rfl)) e)]
    exact I.rest s fun j o' hj hl => hs' j o' hj (lst.2 (Or.inr hl))
  · rcases lst.1 hl with rfl | hl2
    · rw [ui, uDi]; exact hP
    · rw [uf j hl2, uD j hl2]; exact I.pure j hl2
  · rcases lst.1 hl with rfl | hl2
    · rw [ui, uDi]
      refine ⟨hM, fun g hg => ?_⟩
      obtain ⟨h1, h2⟩ := hF g hg
      rcases h1 with h1 | h1
      · exact ⟨(hSb g h1).1, h2⟩
      · have := I.later.size; exact ⟨by omega, h2⟩
    · rw [uf j hl2, uD j hl2]
      obtain ⟨m1, m2⟩ := I.mem j hl2 (hfree j hl2 hf).1
      exact ⟨pl.loc j (hlt j hl2) w w' _ _ _ hO (hap j hl2 hf) m1, fun g hg => ⟨(m2 g hg).1, Nat.lt_of_lt_of_le (m2 g hg).2 hz⟩⟩
  · -- apart
    have new : ∀ j, listed.getD j false = true → freeL sp (listed.setIfInBounds i true) j → ∀ g ∈ (sp i).F v ((sp i).D.map f), g ∉ (sp j).F (f j) ((sp j).D.map f) := fun j hj hf g hg hm => by
      rcases (hF g hg).1 with h1 | h1
      · exact hap j hj hf g hm h1
      · have := ((I.mem j hj (hfree j hj hf).1).2 g hm).2; omega
    rcases lst.1 hl with rfl | hl2
    · rcases lst.1 hk with e | hk2
      · exact absurd e.symm hjk
      · rw [ui, uDi, uf k hk2, uD k hk2]; exact new k hk2 hfk
    · rcases lst.1 hk with rfl | hk2
      · rw [ui, uDi, uf j hl2, uD j hl2]; exact fun g hg hm => new j hl2 hfj g hm hg
      · rw [uf j hl2, uD j hl2, uf k hk2, uD k hk2]
        exact I.apart j k hjk hl2 hk2 (hfree j hl2 hfj).1 (hfree k hk2 hfk).1
theorem putsL_eq (f : Nat → Value) (n : Nat) : putsL f a0 (entsL ops sp n) = puts ops a0 f n := by
  induction n with
  | zero => rfl
  | succ n ih => rw [entsL, putsL, puts, ih]
theorem finL_here (I : LInv a0 w0 ops sp f listed a w) : ∀ n m, n ≤ m → (∀ i, i < n → listed.getD i false = true) → (∀ k, listed.getD k false = true → k < m) → FinL (consL sp m) f w (entsL ops sp n) := by
  intro n
  induction n with
  | zero => intro m _ _ _; trivial
  | succ n ih =>
    intro m hm hall hlt
    refine ⟨I.pure n (hall n (by omega)), fun hc => (I.mem n (hall n (by omega)) fun k hk hmem => ?_).1, ih m (by omega) (fun i hi => hall i (by omega)) hlt⟩
    have : n ∈ consL sp m := (mem_consL _ _ _).2 ⟨k, hlt k hk, hmem⟩
    rw [List.contains_iff_mem.2 this] at hc; cases hc
theorem finL {n : Nat} {K : Act → World → Prop} (hn : n ≤ ops.size) (ok : RegOk ops a0.tmps.size (base.map (·.1))) (I : LInv a0 w0 ops sp f listed a w) (hall : ∀ i, i < n → listed.getD i false = true) (hno : ∀ i, n ≤ i → listed.getD i false = false)
    (hfin : ∀ f w, Only [] w0 w → FinL (consL sp n) f w (entsL ops sp n) → K (putsL f a0 (entsL ops sp n)) w) : K a w := by
  have hK := hfin f w I.later (finL_here I n n (Nat.le_refl _) hall fun k hk => by
    rcases Nat.lt_or_ge k n with g | g
    · exact g
    · rw [hno k g] at hk; cases hk)
  rw [putsL_eq] at hK
  have e : a = puts ops a0 f n := by
    have h1 : a.tmps = (puts ops a0 f n).tmps := by
      apply Array.ext_getElem?
      intro s
      by_cases hs : ∃ j, j < n ∧ (ops[j]?).bind (·.dst) = some s
      · obtain ⟨j, hj, hd⟩ := hs
        obtain ⟨o, ho⟩ : ∃ o, ops[j]? = some o := ⟨ops[j]'(by omega), by simp [show j < ops.size by omega]⟩
        have hd2 : o.dst = some s := by rw [ho] at hd; exact hd
        have hin := ok.inb j o s ho hd2
        rw [puts_at f n s j hj hd hin fun i hi hdi => ?_]
        · have := I.slots j o s ho (hall j hj) hd2
          rw [Array.getD_eq_getD_getElem?, Array.getElem?_eq_getElem (by rw [I.sz]; exact hin)] at this
          rw [Array.getElem?_eq_getElem (by rw [I.sz]; exact hin)]
          simpa using this
        · obtain ⟨o', ho'⟩ : ∃ o, ops[i]? = some o := ⟨ops[i]'(by omega), by simp [show i < ops.size by omega]⟩
          rw [ho'] at hdi
          exact ok.apart i j o' o s ho' ho hdi hd2
      · rw [puts_other f n s fun j hj e => hs ⟨j, hj, e⟩]
        refine I.rest s fun j o ho hl hd => hs ⟨j, ?_, by rw [ho]; exact hd⟩
        rcases Nat.lt_or_ge j n with g | g
        · exact g
        · rw [hno j g] at hl; cases hl
    have h2 := puts_defers (ops := ops) (a0 := a0) f n
    cases a
    cases hp : puts ops a0 f n
    rw [hp] at h1 h2
    simp only at h1 h2
    rw [h1]
    have := I.defers
    simp only at this
    rw [this, h2]
  rw [e]; exact hK
theorem base_here (ok : RegOk ops a0.tmps.size (base.map (·.1))) (hb : ∀ p ∈ base, a0.tmps.getD p.1 undef = p.2) (I : LInv a0 w0 ops sp f listed a w) : ∀ p ∈ base, a.tmps.getD p.1 undef = p.2 := by
  intro p hp
  have hr : a.tmps[p.1]? = a0.tmps[p.1]? := I.rest p.1 fun j o hj hl hd => ok.base j o p.1 hj hd (List.mem_map.2 ⟨p, hp, rfl⟩)
  rw [Array.getD_eq_getD_getElem?, hr, ← Array.getD_eq_getD_getElem?]
  exact hb p hp
theorem no_ready (ok : RegOk ops a0.tmps.size (base.map (·.1))) (I : LInv a0 w0 ops sp f listed a w) (hr : Region.ready .any ops listed = []) : ∀ i, i < ops.size → listed.getD i false = true := by
  intro i
  induction i using Nat.strongRecOn with
  | _ i ih =>
    intro hi
    cases h : listed.getD i false
    · exfalso
      obtain ⟨o, ho⟩ : ∃ o, ops[i]? = some o := ⟨ops[i], by simp [hi]⟩
      have := ready_mk ho (getD_false_true listed i (by rw [I.size]; exact hi) h) (fun e he hb => ih e.on (ok.lt i o ho e he hb) (by have := ok.lt i o ho e he hb; omega))
      rw [hr] at this; cases this
    · rfl
theorem anyL {n : Nat} {l2 : List Oper} (hn : n ≤ ops.size) (hl2 : ∀ j, l2[j]? = ops[n + j]?) (pl : PlanL P base w0 ops sp n) (ok : RegOk ops a0.tmps.size (base.map (·.1))) (hb : ∀ p ∈ base, a0.tmps.getD p.1 undef = p.2)
    (ht : tailB ops n = true) (hseq : Region.seqB .any ops l2.length n (headArr n (ops.size - n)) = true)
    (hfin : ∀ f w, Only [] w0 w → FinL (consL sp n) f w (entsL ops sp n) → wpList P ops Q l2 (putsL f a0 (entsL ops sp n)) w) :
    ∀ (fuel : Nat) (f : Nat → Value) (listed : Array Bool) (a : Act) (w : World), LInv a0 w0 ops sp f listed a w → (∀ i, n ≤ i → listed.getD i false = false) → ((List.range n).filter fun j => !listed.getD j false).length = fuel → wpAny P .any ops Q (fuel + l2.length) listed a w := by
  intro fuel
  induction fuel with
  | zero =>
    intro f listed a w I hno hc
    have hall : ∀ i, i < n → listed.getD i false = true := fun i hi => by
      cases h : listed.getD i false
      · exfalso
        have : i ∈ (List.range n).filter fun j => !listed.getD j false := List.mem_filter.2 ⟨List.mem_range.2 hi, by rw [h]; rfl⟩
        have := List.length_pos_of_mem this
        omega
      · rfl
    have hl : listed = headArr n (ops.size - n) := by
      apply Array.ext
      · rw [I.size]; simp [headArr]; omega
      · intro i h1 h2
        have e1 : listed.getD i false = listed[i] := by rw [Array.getD_eq_getD_getElem?, Array.getElem?_eq_getElem h1]; rfl
        rw [← e1]
        rcases Nat.lt_or_ge i n with g | g
        · rw [hall i g]; simp [headArr, g]
        · rw [hno i g]; simp [headArr, List.getElem_append, show ¬ i < n by omega]
    rw [Nat.zero_add]
    refine wpAny_of_seq l2 n listed a w hl2 (by rw [hl]; exact hseq) ?_
    exact finL (K := fun a w => wpList P ops Q l2 a w) hn ok I hall hno hfin
  | succ fuel ih =>
    intro f listed a w I hno hc
    have hex : ∃ i, i < n ∧ listed.getD i false = false := by
      have : 0 < ((List.range n).filter fun j => !listed.getD j false).length := by omega
      obtain ⟨i, hi⟩ := List.exists_mem_of_length_pos this
      obtain ⟨h1, h2⟩ := List.mem_filter.1 hi
      exact ⟨i, List.mem_range.1 h1, by simpa using h2⟩
    obtain ⟨i0, hi0, hun0⟩ := hex
    rw [show fuel + 1 + l2.length = (fuel + l2.length) + 1 by omega]
    refine ⟨fun hr => ?_, fun i hi => ?_⟩
    · have := no_ready ok I hr i0 (by omega)
      rw [hun0] at this; cases this
    · obtain ⟨o, ho, hn', hw⟩ := ready_spec hi
      have hnl := getD_true_false listed i hn'
      have hlt : i < ops.size := by
        rcases Nat.lt_or_ge i ops.size with g | g
        · exact g
        · rw [Array.getElem?_eq_none g] at ho; cases ho
      have hin : i < n := by
        rcases Nat.lt_or_ge i n with g | g
        · exact g
        · exfalso
          have h1 := List.all_eq_true.1 ht i (List.mem_range.2 hlt)
          simp only [Bool.or_eq_true, decide_eq_true_eq] at h1
          rcases h1 with h1 | h1
          · omega
          · have := waits_listed ho I.closed hw (List.all_eq_true.1 h1 i0 (List.mem_range.2 hi0))
            rw [hun0] at this; cases this
      have hcount : ((List.range n).filter fun j => !(listed.setIfInBounds i true).getD j false).length = fuel := by
        have hs : i < listed.size := by rw [I.size]; exact hlt
        have e : (List.range n).filter (fun j => !(listed.setIfInBounds i true).getD j false) = ((List.range n).filter fun j => !listed.getD j false).filter (fun j => j != i) := by
          rw [List.filter_filter]
          congr 1
          funext j
          cases h : (listed.setIfInBounds i true).getD j false
          · have h2 : listed.getD j false = false := by
              cases h3 : listed.getD j false
              · rfl
              · have := set_get (i := i) |>.2 (Or.inr h3); rw [this] at h; cases h
            have h3 : j ≠ i := fun e => by
              have := set_get (listed := listed) (i := i) (j := j) |>.2 (Or.inl ⟨e, hs⟩)
              rw [this] at h; cases h
            simp [h2, h3]
          · rcases set_get.1 h with ⟨rfl, _⟩ | h2
            · simp
            · simp [h2]
        rw [e]
        have hnd : ((List.range n).filter fun j => !listed.getD j false).Nodup := List.Nodup.sublist List.filter_sublist List.nodup_range
        have hmem : i ∈ (List.range n).filter fun j => !listed.getD j false := List.mem_filter.2 ⟨List.mem_range.2 hin, by rw [hnl]; rfl⟩
        have h3 := hnd.erase_eq_filter i
        rw [← h3, List.length_erase_of_mem hmem]
        omega
      have hno' : ∀ j, n ≤ j → (listed.setIfInBounds i true).getD j false = false := fun j hj => by
        cases h : (listed.setIfInBounds i true).getD j false
        · rfl
        · rcases set_get.1 h with ⟨rfl, _⟩ | h2
          · omega
          · rw [hno j hj] at h2; cases h2
      have hlt2 : ∀ j, listed.getD j false = true → j < n := fun j hj => by
        rcases Nat.lt_or_ge j n with g | g
        · exact g
        · rw [hno j g] at hj; cases hj
      have go : ∀ v w', postL (sp i) ((sp i).D.map f) ((sp i).C.flatMap (FpL (entsL ops sp i) f a)) w v w' → wpAny P .any ops Q (fuel + l2.length) (listed.setIfInBounds i true) (a.put o.dst v) w' := fun v w' hp =>
        ih _ _ _ _ (LInv.step ok pl I hno ho hin hlt hnl hw v w' hp) hno' hcount
      have heff := pl.eff i o hin ho f a w I.later (base_here ok hb I) (fxL_here I o.after.toList fun e he hbi => ⟨ok.lt i o ho e he hbi, hw e he hbi⟩)
        (cxL_here I _ (pl.nd i hin) fun c hc => ⟨waits_lt ok (pl.cw i hin c hc), waits_listed ho I.closed hw (pl.cw i hin c hc), fun k hk hm => pl.once i k hin (hlt2 k hk) (fun e => by rw [← e, hnl] at hk; cases hk) c hc hm⟩)
      have hg := pl.guard i o hin ho
      have hwant : Region.wanted o (yielded ops a.tmps) = true := by simp [Region.wanted, hg]
      unfold wpOp
      rw [ho]
      simp only
      rw [if_pos hwant]
      left
      unfold Oper.wp
      generalize (execOp a.eval o).run P w = r at heff
      unfold effL at heff
      split at heff
      · exact go _ _ heff
      · exact go _ _ heff
      · refine Calls.mono heff ?_
        rintro e w'' ⟨v, rfl, h1⟩
        exact go v w'' h1
      · exact heff.elim
/-- THE LAW -/
theorem wp_region_lin {id : Nat} {l : List Oper} {a : Act} {w : World} (n : Nat) (base : List (Nat × Value)) (hb : ∀ p ∈ base, a.tmps.getD p.1 undef = p.2)
    (hm : P.follows .mixedOrders = true) (hB : regB l.toArray a.tmps.size (base.map (·.1)) = true) (hn : n ≤ l.length) (ht : tailB l.toArray n = true) (hseq : Region.seqB .any l.toArray (l.drop n).length n (headArr n (l.length - n)) = true)
    (h : RL P base (fun a w => wpList P l.toArray Q (l.drop n) a w) a w.drew l.toArray 0 (l.take n) [] []) : (Code.region id l.toArray true).wp P Q a w := by
  have ok := regB_ok hB
  have hlen : (l.take n).length = n := by rw [List.length_take]; omega
  obtain ⟨sp, pl, hfin⟩ := RL.plan (ops := l.toArray) (l.take n) 0 (fun _ => ⟨[], [], fun _ _ => True, fun _ _ _ => True, fun _ _ => []⟩) (fun i hi => by rw [hlen] at hi; simp [hi])
    ⟨fun i _ hi => by omega, fun i hi => by omega, fun i _ hi => by omega, fun i hi => by omega, fun i hi => by omega, fun i hi => by omega, fun i _ hi => by omega⟩ h
  rw [Nat.zero_add, hlen] at pl hfin
  refine wp_region_any hm ?_
  have hf : l.toArray.size = ((List.range n).filter fun j => !(Array.replicate l.toArray.size false).getD j false).length + (l.drop n).length := by
    have : (List.range n).filter (fun j => !(Array.replicate l.toArray.size false).getD j false) = List.range n := by
      rw [List.filter_eq_self]
      intro j _
      rw [getD_replicate_false]; rfl
    rw [this]; simp; omega
  have no : ∀ j, ¬ (Array.replicate l.toArray.size false).getD j false = true := fun j h => by rw [getD_replicate_false] at h; cases h
  have key := anyL (Q := Q) (ops := l.toArray) (l2 := l.drop n) (n := n) (by simpa using hn) (fun j => by simp) pl ok hb ht (by simpa using hseq) hfin _ (fun _ => undef) (Array.replicate l.toArray.size false) a w.drew
    ⟨by simp, fun j o _ h => absurd h (no j), fun j o d _ h => absurd h (no j), fun _ _ => rfl, rfl, rfl, Only.refl _ _, fun j h => absurd h (no j), fun j h => absurd h (no j), fun i j _ h => absurd h (no i)⟩ (fun i _ => getD_replicate_false _ _) rfl
  rw [← hf] at key
  exact key
end
end Go.Proofs.Ytngbannidbijmaa

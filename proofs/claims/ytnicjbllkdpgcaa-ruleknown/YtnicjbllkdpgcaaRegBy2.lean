/- A region that draws its order, operation by operation: the theorem. -/
import Derived.Test.YtnicjbllkdpgcaaRegBy
namespace Go.Proofs.Ytnicjbllkdpgcaa
open Go.RowKit

def regB (ops : Array Oper) (size : Nat) (bs : List Nat) : Bool := (List.range ops.size).all fun i => match ops[i]? with
  | none => true
  | some o => o.after.all (fun e => !Region.binds .any e || decide (e.on < i)) && (match o.dst with
    | none => true
    | some d => decide (d < size) && !bs.contains d && (List.range i).all fun j => (ops[j]?).bind (·.dst) != some d)
structure RegOk (ops : Array Oper) (size : Nat) (bs : List Nat) : Prop where
  lt : ∀ (i : Nat) (o : Oper), ops[i]? = some o → ∀ e ∈ o.after.toList, Region.binds .any e = true → e.on < i
  inb : ∀ (i : Nat) (o : Oper) (d : Nat), ops[i]? = some o → o.dst = some d → d < size
  base : ∀ (i : Nat) (o : Oper) (d : Nat), ops[i]? = some o → o.dst = some d → d ∉ bs
  apart : ∀ (i j : Nat) (o o' : Oper) (d : Nat), ops[i]? = some o → ops[j]? = some o' → o.dst = some d → o'.dst = some d → i = j
theorem regB_ok {ops : Array Oper} {size : Nat} {bs : List Nat} (h : regB ops size bs = true) : RegOk ops size bs := by
  have key : ∀ (i : Nat) (o : Oper), ops[i]? = some o → (o.after.all (fun e => !Region.binds .any e || decide (e.on < i)) && (match o.dst with
    | none => true
    | some d => decide (d < size) && !bs.contains d && (List.range i).all fun j => (ops[j]?).bind (·.dst) != some d)) = true := fun i o hi => by
    have hlt : i < ops.size := by
      rcases Nat.lt_or_ge i ops.size with g | g
      · exact g
      · rw [Array.getElem?_eq_none g] at hi; cases hi
    have := List.all_eq_true.1 h i (List.mem_range.2 hlt)
    rw [hi] at this
    exact this
  have k2 : ∀ (i : Nat) (o : Oper) (d : Nat), ops[i]? = some o → o.dst = some d → d < size ∧ d ∉ bs ∧ ∀ j, j < i → (ops[j]?).bind (·.dst) ≠ some d := fun i o d hi hd => by
    have := key i o hi
    rw [hd] at this
    simp only [Bool.and_eq_true, decide_eq_true_eq, Bool.not_eq_true', List.all_eq_true, List.mem_range, bne_iff_ne] at this
    refine ⟨this.2.1.1, ?_, this.2.2⟩
    have h2 := this.2.1.2
    simpa using h2
  refine ⟨fun i o hi e he hb => ?_, fun i o d hi hd => (k2 i o d hi hd).1, fun i o d hi hd => (k2 i o d hi hd).2.1, fun i j o o' d hi hj hd hd' => ?_⟩
  · have := key i o hi
    simp only [Bool.and_eq_true] at this
    have h2 := Array.all_eq_true_iff_forall_mem.1 this.1 e (by simpa using he)
    rw [hb] at h2
    simpa using h2
  · rcases Nat.lt_trichotomy i j with g | g | g
    · exact absurd (by rw [hi]; exact hd) ((k2 j o' d hj hd').2.2 i g)
    · exact g
    · exact absurd (by rw [hj]; exact hd') ((k2 i o d hi hd).2.2 j g)

theorem reach_all {ops : Array Oper} {C : Nat → Prop} (hc : ∀ j, C j → ∀ x ∈ depsOf ops j, C x) : ∀ (k : Nat) (S : List Nat), (∀ x ∈ S, C x) → ∀ x ∈ reachGo ops k S, C x := by
  intro k
  induction k with
  | zero => exact fun S h => h
  | succ k ih =>
    intro S h
    refine ih _ ?_
    split
    · rename_i hk
      intro x hx
      rcases List.mem_append.1 hx with hx | hx
      · exact hc k (h k (by simpa using hk)) x hx
      · exact h x hx
    · exact h
theorem waits_listed {ops : Array Oper} {listed : Array Bool} {k j : Nat} {o : Oper} (ho : ops[k]? = some o) (hcl : ∀ (j : Nat) (o : Oper), ops[j]? = some o → listed.getD j false = true → ∀ e ∈ o.after.toList, Region.binds .any e = true → listed.getD e.on false = true)
    (hw : ∀ e ∈ o.after.toList, Region.binds .any e = true → listed.getD e.on false = true) (h : waits ops k j = true) : listed.getD j false = true := by
  unfold waits at h
  refine reach_all (C := fun x => listed.getD x false = true) (fun i hi x hx => ?_) k (depsOf ops k) (fun x hx => ?_) j (by simpa using h)
  · unfold depsOf at hx
    cases hoi : ops[i]? with
    | none => rw [hoi] at hx; cases hx
    | some oi =>
      rw [hoi] at hx
      obtain ⟨e, he, rfl⟩ := List.mem_map.1 hx
      obtain ⟨h1, h2⟩ := List.mem_filter.1 he
      exact hcl i oi hoi hi e h1 h2
  · unfold depsOf at hx
    rw [ho] at hx
    obtain ⟨e, he, rfl⟩ := List.mem_map.1 hx
    obtain ⟨h1, h2⟩ := List.mem_filter.1 he
    exact hw e h1 h2
theorem ready_spec {ops : Array Oper} {listed : Array Bool} {i : Nat} (h : i ∈ Region.ready .any ops listed) : ∃ o, ops[i]? = some o ∧ listed.getD i true = false ∧ ∀ e ∈ o.after.toList, Region.binds .any e = true → listed.getD e.on false = true := by
  unfold Region.ready at h
  simp only [List.mem_filter, List.mem_range, Bool.and_eq_true, Bool.not_eq_true'] at h
  obtain ⟨h1, h2, h3⟩ := h
  obtain ⟨o, ho⟩ : ∃ o, ops[i]? = some o := ⟨ops[i], by simp [h1]⟩
  rw [ho] at h3
  simp only [Option.map_some, Option.getD_some] at h3
  refine ⟨o, ho, h2, fun e he hb => ?_⟩
  have := Array.all_eq_true_iff_forall_mem.1 h3 e (by simpa using he)
  simpa [hb] using this
theorem ready_mk {ops : Array Oper} {listed : Array Bool} {i : Nat} {o : Oper} (ho : ops[i]? = some o) (h2 : listed.getD i true = false) (h3 : ∀ e ∈ o.after.toList, Region.binds .any e = true → listed.getD e.on false = true) : i ∈ Region.ready .any ops listed := by
  have hlt : i < ops.size := by
    rcases Nat.lt_or_ge i ops.size with g | g
    · exact g
    · rw [Array.getElem?_eq_none g] at ho; cases ho
  unfold Region.ready
  simp only [List.mem_filter, List.mem_range, Bool.and_eq_true, Bool.not_eq_true']
  refine ⟨hlt, h2, ?_⟩
  rw [ho]
  simp only [Option.map_some, Option.getD_some]
  refine Array.all_eq_true_iff_forall_mem.2 fun e he => ?_
  cases hb : Region.binds .any e
  · rfl
  · simp [h3 e (by simpa using he) hb]

section
variable {P : Program} {T : World → World → Prop} {base : List (Nat × Value)} {Q : Exit → Act → World → Prop} {a0 : Act} {w0 : World} {ops : Array Oper} {D : List PanicEntry → World → Prop} {sp : Nat → Sp} {Jb : Nat → World → Prop} {lb : Nat → Option Nat}

theorem lb_spec (pl : Plan P T base w0 ops D sp Jb lb ops.size) (h0 : lb 0 = none) : ∀ i, i ≤ ops.size → (lb i = none → ∀ j, j < i → lb (j + 1) ≠ some j) ∧ ∀ l, lb i = some l → l < i ∧ lb (l + 1) = some l ∧ ∀ j, j < i → lb (j + 1) = some j → j ≤ l := by
  intro i
  induction i with
  | zero => intro _; exact ⟨fun _ j hj => (by omega), fun l hl => (by rw [h0] at hl; cases hl)⟩
  | succ i ih =>
    intro hi
    obtain ⟨i1, i2⟩ := ih (by omega)
    obtain ⟨o, ho⟩ : ∃ o, ops[i]? = some o := ⟨ops[i], by simp [show i < ops.size by omega]⟩
    rcases pl.last i o (by omega) ho with ⟨e, _⟩ | ⟨e, _⟩
    · refine ⟨fun h => (by rw [e] at h; cases h), fun l hl => ?_⟩
      rw [e] at hl; cases hl
      exact ⟨by omega, e, fun j hj _ => by omega⟩
    · refine ⟨fun h j hj => ?_, fun l hl => ?_⟩
      · rw [e] at h
        by_cases hji : j = i
        · subst hji; rw [e, h]; simp
        · exact i1 h j (by omega)
      · rw [e] at hl
        obtain ⟨k1, k2, k3⟩ := i2 l hl
        refine ⟨by omega, k2, fun j hj hc => ?_⟩
        by_cases hji : j = i
        · subst hji; rw [e, hl] at hc; cases hc; omega
        · exact k3 j (by omega) hc

structure RInv (T : World → World → Prop) (a0 : Act) (w0 : World) (ops : Array Oper) (sp : Nat → Sp) (Jb : Nat → World → Prop) (lb : Nat → Option Nat) (listed : Array Bool) (a : Act) (w : World) : Prop where
  size : listed.size = ops.size
  closed : ∀ (j : Nat) (o : Oper), ops[j]? = some o → listed.getD j false = true → ∀ e ∈ o.after.toList, Region.binds .any e = true → listed.getD e.on false = true
  vals : ∀ (j : Nat) (o : Oper), ops[j]? = some o → listed.getD j false = true → ∃ v, (sp j).R w v ∧ ∀ d, o.dst = some d → a.tmps.getD d undef = v
  rest : ∀ s, (∀ (j : Nat) (o : Oper), ops[j]? = some o → listed.getD j false = true → o.dst ≠ some s) → a.tmps[s]? = a0.tmps[s]?
  sz : a.tmps.size = a0.tmps.size
  defers : a.defers = a0.defers
  later : T w0 w
  world : ∃ i, i ≤ ops.size ∧ Jb i w ∧ (∀ j, j < i → lb (j + 1) = some j → listed.getD j false = true) ∧ ∀ j, i ≤ j → j < ops.size → lb (j + 1) = some j → listed.getD j false = false

theorem set_get {listed : Array Bool} {i j : Nat} : (listed.setIfInBounds i true).getD j false = true ↔ (j = i ∧ i < listed.size) ∨ listed.getD j false = true := by
  simp only [Array.getD_eq_getD_getElem?, Array.getElem?_setIfInBounds]
  by_cases h : i = j
  · subst h
    by_cases h2 : i < listed.size
    · simp [h2]
    · simp [h2]
  · rw [if_neg h]
    constructor
    · exact Or.inr
    · rintro (⟨e, _⟩ | e)
      · exact absurd e.symm h
      · exact e
theorem put_get (a : Act) (dst : Option Tmp) (v : Value) (s : Nat) : (a.put dst v).tmps[s]? = if dst = some s ∧ s < a.tmps.size then some v else a.tmps[s]? := by
  cases dst with
  | none => simp [Act.put]
  | some d =>
    simp only [Act.put, Array.getElem?_setIfInBounds, Option.some.injEq]
    by_cases h : d = s
    · subst h
      by_cases h2 : d < a.tmps.size
      · simp [h2]
      · simp [h2]
    · simp [h]
theorem put_size (a : Act) (dst : Option Tmp) (v : Value) : (a.put dst v).tmps.size = a.tmps.size := by cases dst <;> simp [Act.put]
theorem put_defers (a : Act) (dst : Option Tmp) (v : Value) : (a.put dst v).defers = a.defers := by cases dst <;> rfl
theorem put_getD (a : Act) (dst : Option Tmp) (v : Value) (s : Nat) : (a.put dst v).tmps.getD s undef = if dst = some s ∧ s < a.tmps.size then v else a.tmps.getD s undef := by
  rw [Array.getD_eq_getD_getElem?, put_get]
  split
  · rfl
  · rw [Array.getD_eq_getD_getElem?]

variable (pl : Plan P T base w0 ops D sp Jb lb ops.size) (h0 : lb 0 = none) (ok : RegOk ops a0.tmps.size (base.map (·.1))) (hb : ∀ p ∈ base, a0.tmps.getD p.1 undef = p.2)
variable {listed : Array Bool} {a : Act} {w : World}
include pl h0 in
theorem chain_all (I : RInv T a0 w0 ops sp Jb lb listed a w) : ∀ l, l < ops.size → lb (l + 1) = some l → (∀ o, ops[l]? = some o → ∀ e ∈ o.after.toList, Region.binds .any e = true → listed.getD e.on false = true) → ∀ j, j < l → lb (j + 1) = some j → listed.getD j false = true := by
  intro l
  induction l using Nat.strongRecOn with
  | ind l ih =>
    intro hl hc hw j hj hcj
    obtain ⟨o, ho⟩ : ∃ o, ops[l]? = some o := ⟨ops[l], by simp [hl]⟩
    obtain ⟨s1, s2⟩ := lb_spec pl h0 l (by omega)
    have hlink : linked ops (lb l) l = true := by
      rcases pl.last l o hl ho with ⟨_, e⟩ | ⟨e, _⟩
      · exact e
      · rw [hc] at e
        have := (s2 l e.symm).1
        omega
    cases hll : lb l with
    | none => exact absurd hcj (s1 hll j hj)
    | some l' =>
      obtain ⟨k1, k2, k3⟩ := s2 l' hll
      rw [hll] at hlink
      have hl' : listed.getD l' false = true := waits_listed ho I.closed (hw o ho) hlink
      have := k3 j hj hcj
      by_cases hjl : j = l'
      · rw [hjl]; exact hl'
      · exact ih l' k1 (by omega) k2 (fun o' ho' e' he' hb' => I.closed l' o' ho' hl' e' he' hb') j (by omega) hcj

include pl h0 in
theorem jb_here (I : RInv T a0 w0 ops sp Jb lb listed a w) {i : Nat} {o : Oper} (ho : ops[i]? = some o) (hi : i < ops.size) (hc : lb (i + 1) = some i) (hn : listed.getD i false = false) (hw : ∀ e ∈ o.after.toList, Region.binds .any e = true → listed.getD e.on false = true) : Jb i w := by
  have hall := chain_all pl h0 I i hi hc (fun o' ho' => by rw [ho] at ho'; cases ho'; exact hw)
  obtain ⟨k, hk, hJ, h1, h2⟩ := I.world
  have hki : k ≤ i := by
    rcases Nat.lt_or_ge i k with g | g
    · rw [h1 i g hc] at hn; cases hn
    · exact g
  have hconst : ∀ m, k + m ≤ i → Jb (k + m) = Jb k := by
    intro m
    induction m with
    | zero => intro _; rfl
    | succ m ih =>
      intro hm
      obtain ⟨o', ho'⟩ : ∃ o, ops[k + m]? = some o := ⟨ops[k + m], by simp [show k + m < ops.size by omega]⟩
      rcases pl.last (k + m) o' (by omega) ho' with ⟨e, _⟩ | ⟨_, e⟩
      · have a1 := hall (k + m) (by omega) e
        rw [h2 (k + m) (by omega) (by omega) e] at a1
        cases a1
      · rw [show k + (m + 1) = k + m + 1 by omega, e]; exact ih (by omega)
  have := hconst (i - k) (by omega)
  rw [show k + (i - k) = i by omega] at this
  rw [this]; exact hJ

include ok in
theorem RInv.step (I : RInv T a0 w0 ops sp Jb lb listed a w) (tr : ∀ {a b c}, T a b → T b c → T a c) (st : ∀ j w w' v, j < ops.size → T w w' → (sp j).R w v → (sp j).R w' v) {i : Nat} {o : Oper} (ho : ops[i]? = some o) (hi : i < ops.size) (hn : listed.getD i false = false)
    (hw : ∀ e ∈ o.after.toList, Region.binds .any e = true → listed.getD e.on false = true) (hch : lb (i + 1) = some i → (∀ j, j < i → lb (j + 1) = some j → listed.getD j false = true) ∧ ∀ j, i < j → j < ops.size → lb (j + 1) = some j → listed.getD j false = false)
    (v : Value) (w' : World) (hT : T w w') (hR : (sp i).R w' v) (hW : (lb (i + 1) = some i ∧ Jb (i + 1) w') ∨ (lb (i + 1) ≠ some i ∧ w' = w)) :
    RInv T a0 w0 ops sp Jb lb (listed.setIfInBounds i true) (a.put o.dst v) w' := by
  have hs : i < listed.size := by rw [I.size]; exact hi
  have lst : ∀ {j}, (listed.setIfInBounds i true).getD j false = true ↔ j = i ∨ listed.getD j false = true := by
    intro j; rw [set_get]; simp [hs]
  have nl : ∀ {j}, j ≠ i → listed.getD j false = false → (listed.setIfInBounds i true).getD j false = false := by
    intro j h1 h2
    cases h : (listed.setIfInBounds i true).getD j false
    · rfl
    · rcases lst.1 h with e | e
      · exact absurd e h1
      · rw [h2] at e; cases e
  refine ⟨by simpa using I.size, fun j o' hj hl e he hbi => ?_, fun j o' hj hl => ?_, fun s hs' => ?_, by rw [put_size]; exact I.sz, by rw [put_defers]; exact I.defers, tr I.later hT, ?_⟩
  · rcases lst.1 hl with rfl | hl
    · rw [ho] at hj; cases hj
      exact lst.2 (Or.inr (hw e he hbi))
    · exact lst.2 (Or.inr (I.closed j o' hj hl e he hbi))
  · rcases lst.1 hl with rfl | hl2
    · rw [ho] at hj; cases hj
      refine ⟨v, hR, fun d hd => ?_⟩
      rw [put_getD, if_pos ⟨hd, by rw [I.sz]; exact ok.inb j o d ho hd⟩]
    · by_cases hji : j = i
      · subst hji; rw [hn] at hl2; cases hl2
      · obtain ⟨u, hu, hd⟩ := I.vals j o' hj hl2
        have hjs : j < ops.size := by
          rcases Nat.lt_or_ge j ops.size with g | g
          · exact g
          · rw [Array.getElem?_eq_none g] at hj; cases hj
        refine ⟨u, st j w w' u hjs hT hu, fun d hdd => ?_⟩
        rw [put_getD, if_neg (fun ⟨e, _⟩ => hji (ok.apart j i o' o d hj ho hdd e))]
        exact hd d hdd
  · rw [put_get, if_neg (fun ⟨e, _⟩ => hs' i o ho (lst.2 (Or.inl rfl)) e)]
    exact I.rest s fun j o' hj hl => hs' j o' hj (lst.2 (Or.inr hl))
  · rcases hW with ⟨hc, hJ⟩ | ⟨hc, rfl⟩
    · obtain ⟨h1, h2⟩ := hch hc
      refine ⟨i + 1, by omega, hJ, fun j hj hcj => ?_, fun j hj hjs hcj => ?_⟩
      · by_cases hji : j = i
        · exact lst.2 (Or.inl hji)
        · exact lst.2 (Or.inr (h1 j (by omega) hcj))
      · exact nl (by omega) (h2 j (by omega) hjs hcj)
    · obtain ⟨k, hk, hJ, h1, h2⟩ := I.world
      refine ⟨k, hk, hJ, fun j hj hcj => lst.2 (Or.inr (h1 j hj hcj)), fun j hj hjs hcj => ?_⟩
      exact nl (fun e => by subst e; exact hc hcj) (h2 j hj hjs hcj)

/-- the puts in the order of the text -/
def puts (ops : Array Oper) (a0 : Act) (f : Nat → Value) : Nat → Act
  | 0 => a0
  | i + 1 => (puts ops a0 f i).put ((ops[i]?).bind (·.dst)) (f i)
theorem fin_puts {K : Act → Prop} {f : Nat → Value} (n : Nat) (hf : ∀ j, j < n → (sp j).R w (f j)) (h : FinA (entsTo ops sp n) w K a0) : K (puts ops a0 f n) := by
  induction n generalizing K with
  | zero => exact h
  | succ n ih =>
    rw [entsTo, FinA] at h
    exact ih (fun j hj => hf j (by omega)) h (f n) (hf n (by omega))
theorem puts_size (f : Nat → Value) (n : Nat) : (puts ops a0 f n).tmps.size = a0.tmps.size := by
  induction n with
  | zero => rfl
  | succ n ih => rw [puts, put_size, ih]
theorem puts_defers (f : Nat → Value) (n : Nat) : (puts ops a0 f n).defers = a0.defers := by
  induction n with
  | zero => rfl
  | succ n ih => rw [puts, put_defers, ih]
theorem puts_other (f : Nat → Value) (n s : Nat) (h : ∀ j, j < n → (ops[j]?).bind (·.dst) ≠ some s) : (puts ops a0 f n).tmps[s]? = a0.tmps[s]? := by
  induction n with
  | zero => rfl
  | succ n ih => rw [puts, put_get, if_neg (fun e => h n (by omega) e.1)]; exact ih fun j hj => h j (by omega)
theorem puts_at (f : Nat → Value) (n s j : Nat) (hj : j < n) (hd : (ops[j]?).bind (·.dst) = some s) (hs : s < a0.tmps.size) (hu : ∀ i, i < n → (ops[i]?).bind (·.dst) = some s → i = j) : (puts ops a0 f n).tmps[s]? = some (f j) := by
  induction n with
  | zero => omega
  | succ n ih =>
    rw [puts, put_get, puts_size]
    by_cases h : n = j
    · subst h; rw [if_pos ⟨hd, hs⟩]
    · rw [if_neg (fun e => h (hu n (by omega) e.1))]
      exact ih (by omega) fun i hi => hu i (by omega)

theorem filter_less {l : List Nat} {p q : Nat → Bool} (h : ∀ x ∈ l, q x = true → p x = true) {i : Nat} (hi : i ∈ l) (hp : p i = true) (hq : q i = false) : (l.filter q).length < (l.filter p).length := by
  induction l with
  | nil => cases hi
  | cons x l ih =>
    have hle : (l.filter q).length ≤ (l.filter p).length := by
      have : ∀ l : List Nat, (∀ x ∈ l, q x = true → p x = true) → (l.filter q).length ≤ (l.filter p).length := by
        intro l
        induction l with
        | nil => intro _; simp
        | cons y l ih2 =>
          intro hh
          have := ih2 fun x hx => hh x (by simp [hx])
          rw [List.filter_cons, List.filter_cons]
          by_cases hy : q y = true
          · rw [if_pos hy, if_pos (hh y (by simp) hy)]; simpa using this
          · rw [if_neg hy]; split
            · rw [List.length_cons]; omega
            · exact this
      exact this l fun y hy => h y (by simp [hy])
    rw [List.filter_cons, List.filter_cons]
    rcases List.mem_cons.1 hi with rfl | hi
    · rw [if_neg (by rw [hq]; simp), if_pos hp, List.length_cons]; omega
    · have := ih (fun y hy => h y (by simp [hy])) hi
      by_cases hx : q x = true
      · rw [if_pos hx, if_pos (h x (by simp) hx)]; simpa using this
      · rw [if_neg hx]; split
        · rw [List.length_cons]; omega
        · exact this
end
end Go.Proofs.Ytnicjbllkdpgcaa

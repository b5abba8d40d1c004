/- A region that draws its order, whose operations may make memory in whatever order (a call, and a variable that is made beside it), and whose last ones wait on all the others. -/
import Derived.Test.YtnicjbllkdpgcaaRegBy3
import Derived.StillTail
namespace Go.Proofs.Ytnicjbllkdpgcaa
open Go.RowKit

section
variable (P : Program) (T : World → World → Prop) (base : List (Nat × Value)) (K : Act → World → Prop) (a0 : Act) (w0 : World) (ops : Array Oper)
def FreeOk (sps : Ents) (o : Oper) (R : World → Value → Prop) : Prop :=
  (∀ w w' v, T w w' → R w v → R w' v) ∧ ∀ a w, T w0 w → Fx sps base o a w → effOk P T R (fun _ => True) w ((execOp a.eval o).run P w)
/-- one operation after the other, in the order of the text -/
def RF : Nat → List Oper → Ents → Prop
  | _, [], sps => ∀ w, T w0 w → FinA sps w (fun a => K a w) a0
  | k, o :: rest, sps =>
    (∃ c, guardIs ops k sps o true ∧ ValOk P T base w0 sps o c ∧ RF (k + 1) rest ((k, o.dst, .val c) :: sps)) ∨
    (guardIs ops k sps o false ∧ RF (k + 1) rest ((k, o.dst, .skip) :: sps)) ∨
    (∃ R, guardIs ops k sps o true ∧ FreeOk P T base w0 sps o R ∧ RF (k + 1) rest ((k, o.dst, .call R (fun _ => True)) :: sps))
end
section
variable {P : Program} {T : World → World → Prop} {base : List (Nat × Value)} {K : Act → World → Prop} {a0 : Act} {w0 : World} {ops : Array Oper} {sps : Ents} {k : Nat} {o : Oper} {rest : List Oper}
theorem rf_val (c : Value) (hg : guardIs ops k sps o true) (h : ∀ a w, T w0 w → Fx sps base o a w → (execOp a.eval o).run P w = .ok (.value c) w) (hr : RF P T base K a0 w0 ops (k + 1) rest ((k, o.dst, .val c) :: sps)) : RF P T base K a0 w0 ops k (o :: rest) sps := Or.inl ⟨c, hg, h, hr⟩
theorem rf_skip (hg : guardIs ops k sps o false) (hr : RF P T base K a0 w0 ops (k + 1) rest ((k, o.dst, .skip) :: sps)) : RF P T base K a0 w0 ops k (o :: rest) sps := Or.inr (Or.inl ⟨hg, hr⟩)
theorem rf_eff (R : World → Value → Prop) (hg : guardIs ops k sps o true) (hs : ∀ w w' v, T w w' → R w v → R w' v) (h : ∀ a w, T w0 w → Fx sps base o a w → effOk P T R (fun _ => True) w ((execOp a.eval o).run P w))
    (hr : RF P T base K a0 w0 ops (k + 1) rest ((k, o.dst, .call R (fun _ => True)) :: sps)) : RF P T base K a0 w0 ops k (o :: rest) sps := Or.inr (Or.inr ⟨R, hg, ⟨hs, h⟩, hr⟩)

structure PlanF (P : Program) (T : World → World → Prop) (base : List (Nat × Value)) (w0 : World) (ops : Array Oper) (sp : Nat → Sp) (n : Nat) : Prop where
  guard : ∀ i o, i < n → ops[i]? = some o → guardIs ops i (entsTo ops sp i) o (match sp i with | .skip => false | _ => true)
  kind : ∀ i o, i < n → ops[i]? = some o → (∃ c, sp i = .val c ∧ ValOk P T base w0 (entsTo ops sp i) o c) ∨ sp i = .skip ∨ ∃ R, sp i = .call R (fun _ => True) ∧ FreeOk P T base w0 (entsTo ops sp i) o R

theorem RF.plan : ∀ (rest : List Oper) (k : Nat) (sp0 : Nat → Sp), (∀ i, i < rest.length → rest[i]? = ops[k + i]?) → PlanF P T base w0 ops sp0 k → RF P T base K a0 w0 ops k rest (entsTo ops sp0 k) →
    ∃ sp, PlanF P T base w0 ops sp (k + rest.length) ∧ ∀ w, T w0 w → FinA (entsTo ops sp (k + rest.length)) w (fun a => K a w) a0 := by
  intro rest
  induction rest with
  | nil => intro k sp0 _ hp h; exact ⟨sp0, by simpa using hp, by simpa [RF] using h⟩
  | cons o rest ih =>
    intro k sp0 hr hp h
    have ho : ops[k]? = some o := by have := hr 0 (by simp); simpa using this.symm
    have hrest : ∀ i, i < rest.length → rest[i]? = ops[k + 1 + i]? := fun i hi => by have := hr (i + 1) (by simpa using hi); rw [show k + 1 + i = k + (i + 1) by omega, ← this]; simp
    have key : ∀ s : Sp, guardIs ops k (entsTo ops sp0 k) o (match s with | .skip => false | _ => true) →
        ((∃ c, s = .val c ∧ ValOk P T base w0 (entsTo ops sp0 k) o c) ∨ s = .skip ∨ ∃ R, s = .call R (fun _ => True) ∧ FreeOk P T base w0 (entsTo ops sp0 k) o R) → RF P T base K a0 w0 ops (k + 1) rest ((k, o.dst, s) :: entsTo ops sp0 k) →
        ∃ sp, PlanF P T base w0 ops sp (k + (o :: rest).length) ∧ ∀ w, T w0 w → FinA (entsTo ops sp (k + (o :: rest).length)) w (fun a => K a w) a0 := by
      intro s g1 g2 g5
      have se : ∀ i, i ≤ k → entsTo ops (fun j => if j = k then s else sp0 j) i = entsTo ops sp0 i := by
        intro i
        induction i with
        | zero => intro _; rfl
        | succ i ih2 => intro hi; rw [entsTo, entsTo, ih2 (by omega), if_neg (by omega)]
      have sk : entsTo ops (fun j => if j = k then s else sp0 j) (k + 1) = (k, o.dst, s) :: entsTo ops sp0 k := by rw [entsTo, se k (Nat.le_refl _), if_pos rfl, ho]; rfl
      have hp2 : PlanF P T base w0 ops (fun j => if j = k then s else sp0 j) (k + 1) := by
        refine ⟨fun i o' hi hio => ?_, fun i o' hi hio => ?_⟩
        · rw [se i (by omega)]
          by_cases e : i = k
          · subst e; rw [ho] at hio; cases hio; simpa using g1
          · simp only [if_neg e]; exact hp.guard i o' (by omega) hio
        · rw [se i (by omega)]
          by_cases e : i = k
          · subst e; rw [ho] at hio; cases hio; simpa using g2
          · simp only [if_neg e]; exact hp.kind i o' (by omega) hio
      obtain ⟨sp, h1, h4⟩ := ih (k + 1) _ hrest hp2 (by rw [sk]; exact g5)
      rw [show k + 1 + rest.length = k + (o :: rest).length by simp; omega] at h1 h4
      exact ⟨sp, h1, h4⟩
    rw [RF] at h
    rcases h with ⟨c, h1, h2, h3⟩ | ⟨h1, h3⟩ | ⟨R, h1, h4, h3⟩
    · exact key (.val c) h1 (Or.inl ⟨c, rfl, h2⟩) h3
    · exact key .skip h1 (Or.inr (Or.inl rfl)) h3
    · exact key (.call R (fun _ => True)) h1 (Or.inr (Or.inr ⟨R, rfl, h4⟩)) h3
end

/-- the last ones wait on all the others -/
def tailB (ops : Array Oper) (n : Nat) : Bool := (List.range ops.size).all fun t => decide (t < n) || (List.range n).all fun i => waits ops t i
def headArr (n m : Nat) : Array Bool := (List.replicate n true ++ List.replicate m false).toArray

section
variable {P : Program} {T : World → World → Prop} {base : List (Nat × Value)} {Q : Exit → Act → World → Prop} {a0 : Act} {w0 : World} {ops : Array Oper} {sp : Nat → Sp} {listed : Array Bool} {a : Act} {w : World}
abbrev FInv (T : World → World → Prop) (a0 : Act) (w0 : World) (ops : Array Oper) (sp : Nat → Sp) (listed : Array Bool) (a : Act) (w : World) : Prop := RInv T a0 w0 ops sp (fun _ _ => True) (fun _ => none) listed a w
theorem FInv.step (ok : RegOk ops a0.tmps.size (base.map (·.1))) (I : FInv T a0 w0 ops sp listed a w) (tr : ∀ {a b c}, T a b → T b c → T a c) (st : ∀ j w w' v, listed.getD j false = true → T w w' → (sp j).R w v → (sp j).R w' v) {i : Nat} {o : Oper} (ho : ops[i]? = some o) (hi : i < ops.size) (hn : listed.getD i false = false)
    (hw : ∀ e ∈ o.after.toList, Region.binds .any e = true → listed.getD e.on false = true) (v : Value) (w' : World) (hT : T w w') (hR : (sp i).R w' v) :
    FInv T a0 w0 ops sp (listed.setIfInBounds i true) (a.put o.dst v) w' := by
  have hs : i < listed.size := by rw [I.size]; exact hi
  have lst : ∀ {j}, (listed.setIfInBounds i true).getD j false = true ↔ j = i ∨ listed.getD j false = true := by
    intro j; rw [set_get]; simp [hs]
  refine ⟨by simpa using I.size, fun j o' hj hl e he hbi => ?_, fun j o' hj hl => ?_, fun s hs' => ?_, by rw [put_size]; exact I.sz, by rw [put_defers]; exact I.defers, tr I.later hT, 0, Nat.zero_le _, trivial, fun j hj => by omega, fun j _ _ h => by cases h⟩
  · rcases lst.1 hl with rfl | hl
    · rw [ho] at hj; cases hj
      exact lst.2 (Or.inr (hw e he hbi))
    · exact lst.2 (Or.inr (I.closed j o' hj hl e he hbi))
  · rcases lst.1 hl with rfl | hl2
    · rw [ho] at hj; cases hj
      refine ⟨v, hR, fun d hd => ?_⟩
      rw [put_getD, if_pos ⟨hd, by rw [I.sz]; exact ok.inb j o d ho hd⟩]
    · by_cases hji : j = i
      · subst hji; rw [hn] at hl2; cases hl2
      · obtain ⟨u, hu, hd⟩ := I.vals j o' hj hl2
        refine ⟨u, st j w w' u hl2 hT hu, fun d hdd => ?_⟩
        rw [put_getD, if_neg (fun ⟨e, _⟩ => hji (ok.apart j i o' o d hj ho hdd e))]
        exact hd d hdd
  · rw [put_get, if_neg (fun ⟨e, _⟩ => hs' i o ho (lst.2 (Or.inl rfl)) e)]
    exact I.rest s fun j o' hj hl => hs' j o' hj (lst.2 (Or.inr hl))

theorem finF {n : Nat} {K : Act → World → Prop} (hn : n ≤ ops.size) (ok : RegOk ops a0.tmps.size (base.map (·.1))) (I : FInv T a0 w0 ops sp listed a w) (hall : ∀ i, i < n → listed.getD i false = true) (hno : ∀ i, n ≤ i → listed.getD i false = false)
    (hfin : ∀ w, T w0 w → FinA (entsTo ops sp n) w (fun a => K a w) a0) : K a w := by
  have hv : ∀ j, j < n → ∃ v, (sp j).R w v ∧ ∀ o d, ops[j]? = some o → o.dst = some d → a.tmps.getD d undef = v := fun j hj => by
    have hjs : j < ops.size := by omega
    obtain ⟨v, h1, h2⟩ := I.vals j ops[j] (by simp [hjs]) (hall j hj)
    refine ⟨v, h1, fun o d ho hd => h2 d ?_⟩
    rw [Array.getElem?_eq_getElem hjs] at ho; cases ho; exact hd
  have hch : ∃ f : Nat → Value, ∀ j, j < n → (sp j).R w (f j) ∧ ∀ o d, ops[j]? = some o → o.dst = some d → a.tmps.getD d undef = f j :=
    ⟨fun j => if h : j < n then Classical.choose (hv j h) else undef, fun j hj => by simp only [dif_pos hj]; exact Classical.choose_spec (hv j hj)⟩
  obtain ⟨f, hf⟩ := hch
  have hK := fin_puts (ops := ops) (a0 := a0) (f := f) n (fun j hj => (hf j hj).1) (hfin w I.later)
  have e : a = puts ops a0 f n := by
    have h1 : a.tmps = (puts ops a0 f n).tmps := by
      apply Array.ext_getElem?
      intro s
      by_cases hs : ∃ j, j < n ∧ (ops[j]?).bind (·.dst) = some s
      · obtain ⟨j, hj, hd⟩ := hs
        obtain ⟨o, ho⟩ : ∃ o, ops[j]? = some o := ⟨ops[j]'(by omega), by simp [show j < ops.size by omega]⟩
        have hd2 : o.dst = some s := by rw [ho] at hd; exact hd
        have hin := ok.inb j o s ho hd2
        rw [puts_at f n s j hj hd hin fun i hi hdi => ?_]
        · have := (hf j hj).2 o s ho hd2
          rw [Array.getD_eq_getD_getElem?, Array.getElem?_eq_getElem (by rw [I.sz]; exact hin)] at this
          rw [Array.getElem?_eq_getElem (by rw [I.sz]; exact hin)]
          simpa using this
        · obtain ⟨o', ho'⟩ : ∃ o, ops[i]? = some o := ⟨ops[i]'(by omega), by simp [show i < ops.size by omega]⟩
          rw [ho'] at hdi
          exact ok.apart i j o' o s ho' ho hdi hd2
      · rw [puts_other f n s fun j hj e => hs ⟨j, hj, e⟩]
        refine I.rest s fun j o ho hl hd => hs ⟨j, ?_, by rw [ho]; exact hd⟩
        rcases Nat.lt_or_ge j n with g | g
        · exact g
        · rw [hno j g] at hl; cases hl
    have h2 := puts_defers (ops := ops) (a0 := a0) f n
    cases a
    cases hp : puts ops a0 f n
    rw [hp] at h1 h2
    simp only at h1 h2
    rw [h1]
    have := I.defers
    simp only at this
    rw [this, h2]
  rw [e]; exact hK

theorem anyF {n : Nat} {l2 : List Oper} (hn : n ≤ ops.size) (hl2 : ∀ j, l2[j]? = ops[n + j]?) (rf : ∀ w, T w w) (tr : ∀ {a b c}, T a b → T b c → T a c) (pl : PlanF P T base w0 ops sp n) (ok : RegOk ops a0.tmps.size (base.map (·.1))) (hb : ∀ p ∈ base, a0.tmps.getD p.1 undef = p.2)
    (ht : tailB ops n = true) (hseq : Region.seqB .any ops l2.length n (headArr n (ops.size - n)) = true)
    (hfin : ∀ w, T w0 w → FinA (entsTo ops sp n) w (fun a => wpList P ops Q l2 a w) a0) :
    ∀ (fuel : Nat) (listed : Array Bool) (a : Act) (w : World), FInv T a0 w0 ops sp listed a w → (∀ i, n ≤ i → listed.getD i false = false) → ((List.range n).filter fun j => !listed.getD j false).length = fuel → wpAny P .any ops Q (fuel + l2.length) listed a w := by
  intro fuel
  induction fuel with
  | zero =>
    intro listed a w I hno hc
    have hall : ∀ i, i < n → listed.getD i false = true := fun i hi => by
      cases h : listed.getD i false
      · exfalso
        have : i ∈ (List.range n).filter fun j => !listed.getD j false := List.mem_filter.2 ⟨List.mem_range.2 hi, by rw [h]; rfl⟩
        have := List.length_pos_of_mem this
        omega
      · rfl
    have hl : listed = headArr n (ops.size - n) := by
      apply Array.ext
      · rw [I.size]; simp [headArr]; omega
      · intro i h1 h2
        have e1 : listed.getD i false = listed[i] := by rw [Array.getD_eq_getD_getElem?, Array.getElem?_eq_getElem h1]; rfl
        rw [← e1]
        rcases Nat.lt_or_ge i n with g | g
        · rw [hall i g]; simp [headArr, g]
        · rw [hno i g]; simp [headArr, List.getElem_append, show ¬ i < n by omega]
    rw [Nat.zero_add]
    refine wpAny_of_seq l2 n listed a w hl2 (by rw [hl]; exact hseq) ?_
    exact finF hn ok I hall hno hfin
  | succ fuel ih =>
    intro listed a w I hno hc
    have hex : ∃ i, i < n ∧ listed.getD i false = false := by
      have : 0 < ((List.range n).filter fun j => !listed.getD j false).length := by omega
      obtain ⟨i, hi⟩ := List.exists_mem_of_length_pos this
      obtain ⟨h1, h2⟩ := List.mem_filter.1 hi
      exact ⟨i, List.mem_range.1 h1, by simpa using h2⟩
    obtain ⟨i0, hi0, hun0⟩ := hex
    rw [show fuel + 1 + l2.length = (fuel + l2.length) + 1 by omega]
    refine ⟨fun hr => ?_, fun i hi => ?_⟩
    · have := all_listed ok I hr i0 (by omega)
      rw [hun0] at this; cases this
    · obtain ⟨o, ho, hn', hw⟩ := ready_spec hi
      have hnl := getD_true_false listed i hn'
      have hlt : i < ops.size := by
        rcases Nat.lt_or_ge i ops.size with g | g
        · exact g
        · rw [Array.getElem?_eq_none g] at ho; cases ho
      have hin : i < n := by
        rcases Nat.lt_or_ge i n with g | g
        · exact g
        · exfalso
          have h1 := List.all_eq_true.1 ht i (List.mem_range.2 hlt)
          simp only [Bool.or_eq_true, decide_eq_true_eq] at h1
          rcases h1 with h1 | h1
          · omega
          · have := waits_listed ho I.closed hw (List.all_eq_true.1 h1 i0 (List.mem_range.2 hi0))
            rw [hun0] at this; cases this
      have hfx := fx_here ok hb I ho hw
      have hwant := wanted_here ok I ho hw (pl.guard i o hin ho)
      have hcount : ((List.range n).filter fun j => !(listed.setIfInBounds i true).getD j false).length = fuel := by
        have hs : i < listed.size := by rw [I.size]; exact hlt
        have e : (List.range n).filter (fun j => !(listed.setIfInBounds i true).getD j false) = ((List.range n).filter fun j => !listed.getD j false).filter (fun j => j != i) := by
          rw [List.filter_filter]
          congr 1
          funext j
          cases h : (listed.setIfInBounds i true).getD j false
          · have h2 : listed.getD j false = false := by
              cases h3 : listed.getD j false
              · rfl
              · have := set_get (i := i) |>.2 (Or.inr h3); rw [this] at h; cases h
            have h3 : j ≠ i := fun e => by
              have := set_get (listed := listed) (i := i) (j := j) |>.2 (Or.inl ⟨e, hs⟩)
              rw [this] at h; cases h
            simp [h2, h3]
          · rcases set_get.1 h with ⟨rfl, _⟩ | h2
            · simp
            · simp [h2]
        rw [e]
        have hnd : ((List.range n).filter fun j => !listed.getD j false).Nodup := List.Nodup.sublist List.filter_sublist List.nodup_range
        have hmem : i ∈ (List.range n).filter fun j => !listed.getD j false := List.mem_filter.2 ⟨List.mem_range.2 hin, by rw [hnl]; rfl⟩
        have h3 := hnd.erase_eq_filter i
        rw [← h3, List.length_erase_of_mem hmem]
        omega
      have hno' : ∀ j, n ≤ j → (listed.setIfInBounds i true).getD j false = false := fun j hj => by
        cases h : (listed.setIfInBounds i true).getD j false
        · rfl
        · rcases set_get.1 h with ⟨rfl, _⟩ | h2
          · omega
          · rw [hno j hj] at h2; cases h2
      have st : ∀ j w w' v, listed.getD j false = true → T w w' → (sp j).R w v → (sp j).R w' v := fun j w w' v hl hT hR => by
        have hjn : j < n := by
          rcases Nat.lt_or_ge j n with g | g
          · exact g
          · rw [hno j g] at hl; cases hl
        obtain ⟨o', ho'⟩ : ∃ o, ops[j]? = some o := ⟨ops[j]'(by omega), by simp [show j < ops.size by omega]⟩
        rcases pl.kind j o' hjn ho' with ⟨c, e, _⟩ | e | ⟨R, e, hk⟩
        · rw [e] at hR ⊢; exact hR
        · rw [e] at hR ⊢; exact hR
        · rw [e] at hR ⊢; exact hk.1 w w' v hT hR
      have go : ∀ v w', T w w' → (sp i).R w' v → wpAny P .any ops Q (fuel + l2.length) (listed.setIfInBounds i true) (a.put o.dst v) w' := fun v w' hT hR =>
        ih _ _ _ (FInv.step ok I tr st ho hlt hnl hw v w' hT hR) hno' hcount
      unfold wpOp
      rw [ho]
      simp only
      rcases pl.kind i o hin ho with ⟨c, e, hk⟩ | e | ⟨R, e, hk⟩
      · rw [e] at hwant go
        simp only at hwant
        rw [if_pos hwant]
        left
        have hrun := hk a w I.later hfx
        unfold Oper.wp
        rw [hrun]
        exact go c w (rf w) rfl
      · rw [e] at hwant go
        simp only at hwant
        rw [if_neg (by rw [hwant]; simp)]
        exact go undef w (rf w) rfl
      · rw [e] at hwant go
        simp only at hwant
        rw [if_pos hwant]
        left
        have heff := hk.2 a w I.later hfx
        unfold Oper.wp
        generalize (execOp a.eval o).run P w = r at heff
        unfold effOk at heff
        split at heff
        · exact go _ _ heff.2.2 heff.1
        · exact go _ _ heff.2.2 heff.1
        · refine Calls.mono heff ?_
          rintro e w'' ⟨v, rfl, h1, _, h3⟩
          exact go v w'' h3 h1
        · exact heff.elim

/-- THE LAW -/
theorem wp_region_free {id : Nat} {l : List Oper} {a : Act} {w : World} (n : Nat) (T : World → World → Prop) (rf : ∀ w, T w w) (tr : ∀ {a b c}, T a b → T b c → T a c) (base : List (Nat × Value)) (hb : ∀ p ∈ base, a.tmps.getD p.1 undef = p.2)
    (hm : P.follows .mixedOrders = true) (hB : regB l.toArray a.tmps.size (base.map (·.1)) = true) (hn : n ≤ l.length) (ht : tailB l.toArray n = true) (hseq : Region.seqB .any l.toArray (l.drop n).length n (headArr n (l.length - n)) = true)
    (h : RF P T base (fun a w => wpList P l.toArray Q (l.drop n) a w) a w.drew l.toArray 0 (l.take n) []) : (Code.region id l.toArray true).wp P Q a w := by
  have ok := regB_ok hB
  have hlen : (l.take n).length = n := by rw [List.length_take]; omega
  obtain ⟨sp, pl, hfin⟩ := RF.plan (ops := l.toArray) (l.take n) 0 (fun _ => .skip) (fun i hi => by rw [hlen] at hi; simp [hi]) ⟨fun i _ hi => by omega, fun i _ hi => by omega⟩ h
  rw [Nat.zero_add, hlen] at pl hfin
  refine wp_region_any hm ?_
  have hf : l.toArray.size = ((List.range n).filter fun j => !(Array.replicate l.toArray.size false).getD j false).length + (l.drop n).length := by
    have : (List.range n).filter (fun j => !(Array.replicate l.toArray.size false).getD j false) = List.range n := by
      rw [List.filter_eq_self]
      intro j _
      rw [getD_replicate_false]; rfl
    rw [this]; simp; omega
  have key := anyF (Q := Q) (ops := l.toArray) (l2 := l.drop n) (n := n) (by simpa using hn) (fun j => by simp) rf tr pl ok hb ht (by simpa using hseq) hfin _ (Array.replicate l.toArray.size false) a w.drew
    ⟨by simp, fun j o _ h => (by rw [getD_replicate_false] at h; cases h), fun j o _ h => (by rw [getD_replicate_false] at h; cases h), fun _ _ => rfl, rfl, rfl, rf _, 0, Nat.zero_le _, trivial, fun j hj => by omega, fun j _ _ h => by cases h⟩ (fun i _ => getD_replicate_false _ _) rfl
  rw [← hf] at key
  exact key
end
end Go.Proofs.Ytnicjbllkdpgcaa

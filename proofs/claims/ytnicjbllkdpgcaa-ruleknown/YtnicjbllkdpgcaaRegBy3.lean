/- A region that draws its order, operation by operation: the law. -/
import Derived.Test.YtnicjbllkdpgcaaRegBy2
namespace Go.Proofs.Ytnicjbllkdpgcaa
open Go.RowKit

section
variable {P : Program} {T : World → World → Prop} {base : List (Nat × Value)} {Q : Exit → Act → World → Prop} {a0 : Act} {w0 : World} {ops : Array Oper} {D : List PanicEntry → World → Prop} {sp : Nat → Sp} {Jb : Nat → World → Prop} {lb : Nat → Option Nat} {listed : Array Bool} {a : Act} {w : World}

theorem getD_true_false (listed : Array Bool) (i : Nat) (h : listed.getD i true = false) : listed.getD i false = false := by
  simp only [Array.getD_eq_getD_getElem?] at *
  cases h2 : listed[i]? with
  | none => rw [h2] at h; cases h
  | some x => rw [h2] at h; exact h
theorem getD_false_true (listed : Array Bool) (i : Nat) (hi : i < listed.size) (h : listed.getD i false = false) : listed.getD i true = false := by
  simp only [Array.getD_eq_getD_getElem?, Array.getElem?_eq_getElem hi] at *
  exact h

/-- what is known where an operation comes up -/
theorem fx_here (ok : RegOk ops a0.tmps.size (base.map (·.1))) (hb : ∀ p ∈ base, a0.tmps.getD p.1 undef = p.2) (I : RInv T a0 w0 ops sp Jb lb listed a w) {i : Nat} {o : Oper} (ho : ops[i]? = some o) (hw : ∀ e ∈ o.after.toList, Region.binds .any e = true → listed.getD e.on false = true) : Fx (entsTo ops sp i) base o a w := by
  refine ⟨fun p hp => ?_, ?_⟩
  · have h1 : a.tmps[p.1]? = a0.tmps[p.1]? := I.rest p.1 fun j o' hj _ hd => ok.base j o' p.1 hj hd (List.mem_map.2 ⟨p, hp, rfl⟩)
    rw [Array.getD_eq_getD_getElem?, h1, ← Array.getD_eq_getD_getElem?]
    exact hb p hp
  · have hlt := ok.lt i o ho
    generalize o.after.toList = es at hw hlt
    induction es with
    | nil => trivial
    | cons e es ih =>
      refine ⟨?_, ih (fun e' he' => hw e' (by simp [he'])) (fun e' he' => hlt e' (by simp [he']))⟩
      rw [look_entsTo]
      by_cases hbi : Region.binds .any e = true
      · rw [if_pos (hlt e (by simp) hbi)]
        have hl := hw e (by simp) hbi
        cases hoe : ops[e.on]? with
        | none => exact trivial
        | some oe =>
          simp only [Option.bind_some]
          obtain ⟨v, hR, hd⟩ := I.vals e.on oe hoe hl
          cases hdd : oe.dst with
          | none => exact trivial
          | some d =>
            intro _
            rw [hd d hdd]
            exact hR
      · split
        · intro h; exact absurd h hbi
        · trivial

theorem wanted_here (ok : RegOk ops a0.tmps.size (base.map (·.1))) (I : RInv T a0 w0 ops sp Jb lb listed a w) {i : Nat} {o : Oper} {b : Bool} (ho : ops[i]? = some o) (hw : ∀ e ∈ o.after.toList, Region.binds .any e = true → listed.getD e.on false = true) (hg : guardIs ops i (entsTo ops sp i) o b) : Region.wanted o (yielded ops a.tmps) = b := by
  unfold guardIs at hg
  unfold Region.wanted
  split at hg
  · rename_i e; rw [e]; exact hg.symm
  · rename_i g want e
    rw [e]
    obtain ⟨h1, h2⟩ := hg
    have hl : listed.getD g false = true := waits_listed ho I.closed hw h1
    rw [look_entsTo] at h2
    by_cases hgi : g < i
    · rw [if_pos hgi] at h2
      cases hog : ops[g]? with
      | none => rw [hog] at h2; simp at h2
      | some og =>
        rw [hog] at h2
        simp only [Option.bind_some] at h2
        obtain ⟨v, hR, hd⟩ := I.vals g og hog hl
        split at h2
        · rename_i d x heq
          simp only [Option.some.injEq, Prod.mk.injEq] at heq
          obtain ⟨hdst, hsp⟩ := heq
          rw [hsp] at hR
          have hv : v = .bool x := hR
          have hd2 := hd d hdst
          have hin : d < a.tmps.size := by rw [I.sz]; exact ok.inb g og d hog hdst
          have hget : a.tmps[d]? = some (.bool x) := by
            rw [Array.getD_eq_getD_getElem?, Array.getElem?_eq_getElem hin] at hd2
            rw [Array.getElem?_eq_getElem hin]
            simp only [Option.getD_some] at hd2
            rw [hd2, hv]
          simp only [yielded, hog, Option.bind_some, hdst, hget]
          rw [← h2]
          cases x <;> cases want <;> rfl
        · rename_i d heq
          simp only [Option.some.injEq, Prod.mk.injEq] at heq
          obtain ⟨hdst, hsp⟩ := heq
          rw [hsp] at hR
          have hv : v = undef := hR
          have hd2 := hd d hdst
          have hin : d < a.tmps.size := by rw [I.sz]; exact ok.inb g og d hog hdst
          have hget : a.tmps[d]? = some undef := by
            rw [Array.getD_eq_getD_getElem?, Array.getElem?_eq_getElem hin] at hd2
            rw [Array.getElem?_eq_getElem hin]
            simp only [Option.getD_some] at hd2
            rw [hd2, hv]
          simp only [yielded, hog, Option.bind_some, hdst, hget]
          rw [h2]
          cases want <;> rfl
        · rename_i d x I' heq
          simp only [Option.some.injEq, Prod.mk.injEq] at heq
          obtain ⟨hdst, hsp⟩ := heq
          rw [hsp] at hR
          have hv : v = .bool x := hR.1
          have hd2 := hd d hdst
          have hin : d < a.tmps.size := by rw [I.sz]; exact ok.inb g og d hog hdst
          have hget : a.tmps[d]? = some (.bool x) := by
            rw [Array.getD_eq_getD_getElem?, Array.getElem?_eq_getElem hin] at hd2
            rw [Array.getElem?_eq_getElem hin]
            simp only [Option.getD_some] at hd2
            rw [hd2, hv]
          simp only [yielded, hog, Option.bind_some, hdst, hget]
          rw [← h2]
          cases x <;> cases want <;> rfl
        · exact h2.elim
    · rw [if_neg hgi] at h2
      exact h2.elim

theorem all_listed (ok : RegOk ops a0.tmps.size (base.map (·.1))) (I : RInv T a0 w0 ops sp Jb lb listed a w) (hr : Region.ready .any ops listed = []) : ∀ i, i < ops.size → listed.getD i false = true := by
  intro i
  induction i using Nat.strongRecOn with
  | ind i ih =>
    intro hi
    cases h : listed.getD i false
    · exfalso
      obtain ⟨o, ho⟩ : ∃ o, ops[i]? = some o := ⟨ops[i], by simp [hi]⟩
      have := ready_mk ho (getD_false_true listed i (by rw [I.size]; exact hi) h) fun e he hbi => by
        have hlt := ok.lt i o ho e he hbi
        exact ih e.on hlt (by omega)
      rw [hr] at this
      cases this
    · rfl

theorem fin_here (pl : Plan P T base w0 ops D sp Jb lb ops.size) (ok : RegOk ops a0.tmps.size (base.map (·.1))) (I : RInv T a0 w0 ops sp Jb lb listed a w) (hall : ∀ i, i < ops.size → listed.getD i false = true)
    (hfin : ∀ w, Jb ops.size w → T w0 w → FinA (entsTo ops sp ops.size) w (fun a => Q .normal a w) a0) : Q .normal a w := by
  have hJ : Jb ops.size w := by
    obtain ⟨k, hk, hJ, h1, h2⟩ := I.world
    have hconst : ∀ m, k + m ≤ ops.size → Jb (k + m) = Jb k := by
      intro m
      induction m with
      | zero => intro _; rfl
      | succ m ih =>
        intro hm
        obtain ⟨o', ho'⟩ : ∃ o, ops[k + m]? = some o := ⟨ops[k + m], by simp [show k + m < ops.size by omega]⟩
        rcases pl.last (k + m) o' (by omega) ho' with ⟨e, _⟩ | ⟨_, e⟩
        · have a1 := hall (k + m) (by omega)
          rw [h2 (k + m) (by omega) (by omega) e] at a1
          cases a1
        · rw [show k + (m + 1) = k + m + 1 by omega, e]; exact ih (by omega)
    have := hconst (ops.size - k) (by omega)
    rw [show k + (ops.size - k) = ops.size by omega] at this
    rw [this]; exact hJ
  have hv : ∀ j, j < ops.size → ∃ v, (sp j).R w v ∧ ∀ o d, ops[j]? = some o → o.dst = some d → a.tmps.getD d undef = v := fun j hj => by
    obtain ⟨v, h1, h2⟩ := I.vals j ops[j] (by simp [hj]) (hall j hj)
    refine ⟨v, h1, fun o d ho hd => h2 d ?_⟩
    rw [Array.getElem?_eq_getElem hj] at ho; cases ho; exact hd
  have hch : ∃ f : Nat → Value, ∀ j, j < ops.size → (sp j).R w (f j) ∧ ∀ o d, ops[j]? = some o → o.dst = some d → a.tmps.getD d undef = f j :=
    ⟨fun j => if h : j < ops.size then Classical.choose (hv j h) else undef, fun j hj => by simp only [dif_pos hj]; exact Classical.choose_spec (hv j hj)⟩
  obtain ⟨f, hf⟩ := hch
  have hK := fin_puts (ops := ops) (a0 := a0) (f := f) ops.size (fun j hj => (hf j hj).1) (hfin w hJ I.later)
  have e : a = puts ops a0 f ops.size := by
    have h1 : a.tmps = (puts ops a0 f ops.size).tmps := by
      apply Array.ext_getElem?
      intro s
      by_cases hs : ∃ j, j < ops.size ∧ (ops[j]?).bind (·.dst) = some s
      · obtain ⟨j, hj, hd⟩ := hs
        obtain ⟨o, ho⟩ : ∃ o, ops[j]? = some o := ⟨ops[j], by simp [hj]⟩
        have hd2 : o.dst = some s := by rw [ho] at hd; exact hd
        have hin := ok.inb j o s ho hd2
        rw [puts_at f ops.size s j hj hd hin fun i hi hdi => ?_]
        · have := (hf j hj).2 o s ho hd2
          rw [Array.getD_eq_getD_getElem?, Array.getElem?_eq_getElem (by rw [I.sz]; exact hin)] at this
          rw [Array.getElem?_eq_getElem (by rw [I.sz]; exact hin)]
          simpa using this
        · obtain ⟨o', ho'⟩ : ∃ o, ops[i]? = some o := ⟨ops[i], by simp [hi]⟩
          rw [ho'] at hdi
          exact ok.apart i j o' o s ho' ho hdi hd2
      · rw [puts_other f ops.size s fun j hj e => hs ⟨j, hj, e⟩]
        refine I.rest s fun j o ho _ hd => hs ⟨j, ?_, by rw [ho]; exact hd⟩
        rcases Nat.lt_or_ge j ops.size with g | g
        · exact g
        · rw [Array.getElem?_eq_none g] at ho; cases ho
    have h2 := puts_defers (ops := ops) (a0 := a0) f ops.size
    cases a
    cases hp : puts ops a0 f ops.size
    rw [hp] at h1 h2
    simp only at h1 h2
    rw [h1]
    have := I.defers
    simp only at this
    rw [this, h2]
  rw [e]; exact hK

theorem any_here (rf : ∀ w, T w w) (tr : ∀ {a b c}, T a b → T b c → T a c) (pl : Plan P T base w0 ops D sp Jb lb ops.size) (h0 : lb 0 = none) (ok : RegOk ops a0.tmps.size (base.map (·.1))) (hb : ∀ p ∈ base, a0.tmps.getD p.1 undef = p.2)
    (hfin : ∀ w, Jb ops.size w → T w0 w → FinA (entsTo ops sp ops.size) w (fun a => Q .normal a w) a0) (hD : ∀ chain a w, a.defers = a0.defers → D chain w → Q (.panic chain) a w) :
    ∀ (fuel : Nat) (listed : Array Bool) (a : Act) (w : World), RInv T a0 w0 ops sp Jb lb listed a w → ((List.range ops.size).filter fun j => !listed.getD j false).length ≤ fuel → wpAny P .any ops Q fuel listed a w := by
  have st : ∀ j w w' v, j < ops.size → T w w' → (sp j).R w v → (sp j).R w' v := fun j w w' v hj hT hR => by
    obtain ⟨o, ho⟩ : ∃ o, ops[j]? = some o := ⟨ops[j], by simp [hj]⟩
    cases hsp : sp j with
    | val c => rw [hsp] at hR; exact hR
    | skip => rw [hsp] at hR; exact hR
    | call R J' => rw [hsp] at hR; exact (pl.call j o R J' hj ho hsp).1.1 w w' v hT hR
    | die => rw [hsp] at hR; exact hR.elim
    | held c I => rw [hsp] at hR; exact ⟨hR.1, (pl.held j o c I hj ho hsp).1 w w' hT hR.2⟩
  intro fuel
  induction fuel with
  | zero =>
    intro listed a w I hc
    have hall : ∀ i, i < ops.size → listed.getD i false = true := fun i hi => by
      cases h : listed.getD i false
      · exfalso
        have : i ∈ (List.range ops.size).filter fun j => !listed.getD j false := List.mem_filter.2 ⟨List.mem_range.2 hi, by rw [h]; rfl⟩
        have := List.length_pos_of_mem this
        omega
      · rfl
    refine ⟨?_, fin_here pl ok I hall hfin⟩
    rw [List.eq_nil_iff_forall_not_mem]
    intro i hi
    obtain ⟨o, ho, hn, _⟩ := ready_spec hi
    have hlt : i < ops.size := by
      rcases Nat.lt_or_ge i ops.size with g | g
      · exact g
      · rw [Array.getElem?_eq_none g] at ho; cases ho
    have := hall i hlt
    rw [getD_true_false listed i hn] at this
    cases this
  | succ fuel ih =>
    intro listed a w I hc
    refine ⟨fun hr => fin_here pl ok I (all_listed ok I hr) hfin, fun i hi => ?_⟩
    obtain ⟨o, ho, hn', hw⟩ := ready_spec hi
    have hn := getD_true_false listed i hn'
    have hlt : i < ops.size := by
      rcases Nat.lt_or_ge i ops.size with g | g
      · exact g
      · rw [Array.getElem?_eq_none g] at ho; cases ho
    have hfx := fx_here ok hb I ho hw
    have hwant := wanted_here ok I ho hw (pl.guard i o hlt ho)
    have hch : lb (i + 1) = some i → (∀ j, j < i → lb (j + 1) = some j → listed.getD j false = true) ∧ ∀ j, i < j → j < ops.size → lb (j + 1) = some j → listed.getD j false = false := fun hci => by
      refine ⟨chain_all pl h0 I i hlt hci fun o' ho' => by rw [ho] at ho'; cases ho'; exact hw, fun j hj hjs hcj => ?_⟩
      cases h : listed.getD j false
      · rfl
      · exfalso
        have := chain_all pl h0 I j hjs hcj (fun o' ho' e he hbi => I.closed j o' ho' h e he hbi) i hj hci
        rw [hn] at this; cases this
    have hcount : ((List.range ops.size).filter fun j => !(listed.setIfInBounds i true).getD j false).length ≤ fuel := by
      have := filter_less (l := List.range ops.size) (p := fun j => !listed.getD j false) (q := fun j => !(listed.setIfInBounds i true).getD j false) (fun x _ hx => by
        cases h : listed.getD x false
        · rfl
        · have := set_get (i := i) |>.2 (Or.inr h)
          rw [this] at hx; cases hx) (List.mem_range.2 hlt) (by rw [hn]; rfl) (by
        have := set_get (listed := listed) (i := i) (j := i) |>.2 (Or.inl ⟨rfl, by rw [I.size]; exact hlt⟩)
        rw [this]; rfl)
      omega
    have go : ∀ v w', T w w' → (sp i).R w' v → ((lb (i + 1) = some i ∧ Jb (i + 1) w') ∨ (lb (i + 1) ≠ some i ∧ w' = w)) → wpAny P .any ops Q fuel (listed.setIfInBounds i true) (a.put o.dst v) w' := fun v w' hT hR hW =>
      ih _ _ _ (RInv.step ok I tr st ho hlt hn hw hch v w' hT hR hW) hcount
    have stay : (∀ w, (sp i).J (Jb i) w = Jb i w) → (lb (i + 1) = some i ∧ Jb (i + 1) w) ∨ (lb (i + 1) ≠ some i ∧ w = w) := fun hJ => by
      by_cases hci : lb (i + 1) = some i
      · left
        refine ⟨hci, ?_⟩
        rw [pl.next i hlt, hJ]
        exact jb_here pl h0 I ho hlt hci hn hw
      · exact Or.inr ⟨hci, rfl⟩
    unfold wpOp
    rw [ho]
    simp only
    cases hsp : sp i with
    | val c =>
      rw [hsp] at hwant
      simp only at hwant
      rw [if_pos hwant]
      left
      have hrun := pl.val i o c hlt ho hsp a w I.later hfx
      unfold Oper.wp
      rw [hrun]
      exact go c w (rf w) (by rw [hsp]; rfl) (stay fun w => by rw [hsp]; rfl)
    | skip =>
      rw [hsp] at hwant
      simp only at hwant
      rw [if_neg (by rw [hwant]; simp)]
      exact go undef w (rf w) (by rw [hsp]; rfl) (stay fun w => by rw [hsp]; rfl)
    | call R J' =>
      rw [hsp] at hwant
      simp only at hwant
      rw [if_pos hwant]
      left
      obtain ⟨hco, hci⟩ := pl.call i o R J' hlt ho hsp
      have heff := hco.2 a w (jb_here pl h0 I ho hlt hci hn hw) I.later hfx
      have hnext := pl.next i hlt
      rw [hsp] at hnext
      have go2 : ∀ v w', T w w' → R w' v → J' w' → wpAny P .any ops Q fuel (listed.setIfInBounds i true) (a.put o.dst v) w' := fun v w' hT hR hJ => go v w' hT (by rw [hsp]; exact hR) (Or.inl ⟨hci, by rw [hnext]; exact hJ⟩)
      unfold Oper.wp
      generalize (execOp a.eval o).run P w = r at heff
      unfold effOk at heff
      split at heff
      · exact go2 _ _ heff.2.2 heff.1 heff.2.1
      · exact go2 _ _ heff.2.2 heff.1 heff.2.1
      · refine Calls.mono heff ?_
        rintro e w'' ⟨v, rfl, h1, h2, h3⟩
        exact go2 v w'' h3 h1 h2
      · exact heff.elim
    | die =>
      rw [hsp] at hwant
      simp only at hwant
      rw [if_pos hwant]
      left
      obtain ⟨hdo, hci⟩ := pl.die i o hlt ho hsp
      have heff := hdo a w (jb_here pl h0 I ho hlt hci hn hw) I.later hfx
      unfold Oper.wp
      generalize (execOp a.eval o).run P w = r at heff
      unfold dieOk at heff
      split at heff
      · refine Calls.mono heff ?_
        rintro e w'' ⟨chain, rfl, h1⟩
        exact hD chain a w'' I.defers h1
      · exact hD _ a _ I.defers heff
      · exact heff.elim
    | held c J' =>
      rw [hsp] at hwant
      simp only at hwant
      rw [if_pos hwant]
      left
      have heff := (pl.held i o c J' hlt ho hsp).2 a w I.later hfx
      have hold : J' w → wpAny P .any ops Q fuel (listed.setIfInBounds i true) (a.put o.dst c) w := fun hI => go c w (rf w) (by rw [hsp]; exact ⟨rfl, hI⟩) (stay fun w => by rw [hsp]; rfl)
      unfold Oper.wp
      generalize (execOp a.eval o).run P w = r at heff
      unfold quietOk at heff
      split at heff
      · obtain ⟨rfl, rfl, hI⟩ := heff
        exact hold hI
      · obtain ⟨rfl, hI, hc⟩ := heff
        refine Calls.mono hc ?_
        rintro e w'' ⟨rfl, rfl⟩
        exact hold hI
      · exact heff.elim

/-- THE LAW, where it may end in a panic of which D holds -/
theorem wp_region_dies {id : Nat} {l : List Oper} {a : Act} {w : World} (D : List PanicEntry → World → Prop) (hD : ∀ chain a' w, a'.defers = a.defers → D chain w → Q (.panic chain) a' w) (T : World → World → Prop) (rf : ∀ w, T w w) (tr : ∀ {a b c}, T a b → T b c → T a c) (base : List (Nat × Value)) (hb : ∀ p ∈ base, a.tmps.getD p.1 undef = p.2)
    (hm : P.follows .mixedOrders = true) (hB : regB l.toArray a.tmps.size (base.map (·.1)) = true) (J : World → Prop) (hJ : J w.drew) (h : RB P T base Q a w.drew l.toArray D 0 l [] J none) : (Code.region id l.toArray true).wp P Q a w := by
  have ok := regB_ok hB
  obtain ⟨sp, Jb, lb, pl, h0, hJ0, hfin⟩ := RB.plan (ops := l.toArray) l 0 (fun _ => .skip) (fun _ => J) (fun _ => none) (fun i _ => by simp) ⟨fun i _ hi => by omega, fun i _ _ hi => by omega, fun i _ _ _ hi => by omega, fun i _ hi => by omega, fun i _ _ _ hi => by omega, fun i hi => by omega, fun i _ hi => by omega⟩ h
  rw [show 0 + l.length = l.toArray.size by simp] at pl hfin
  refine wp_region_any hm ?_
  refine any_here rf tr pl h0 ok hb hfin hD _ _ _ _ ?_ ?_
  · have hnl : ∀ j, (Array.replicate l.toArray.size false).getD j false = false := fun j => by
      rw [Array.getD_eq_getD_getElem?, Array.getElem?_replicate]; split <;> rfl
    refine ⟨by simp, fun j o _ h => (by rw [hnl] at h; cases h), fun j o _ h => (by rw [hnl] at h; cases h), fun _ _ => rfl, rfl, rfl, rf _, 0, Nat.zero_le _, by rw [hJ0]; exact hJ, fun j hj => by omega, fun j _ _ _ => hnl j⟩
  · refine Nat.le_trans (List.length_filter_le _ _) ?_
    simp
/-- THE LAW -/
theorem wp_region_by {id : Nat} {l : List Oper} {a : Act} {w : World} (T : World → World → Prop) (rf : ∀ w, T w w) (tr : ∀ {a b c}, T a b → T b c → T a c) (base : List (Nat × Value)) (hb : ∀ p ∈ base, a.tmps.getD p.1 undef = p.2)
    (hm : P.follows .mixedOrders = true) (hB : regB l.toArray a.tmps.size (base.map (·.1)) = true) (J : World → Prop) (hJ : J w.drew) (h : RB P T base Q a w.drew l.toArray (fun _ _ => False) 0 l [] J none) : (Code.region id l.toArray true).wp P Q a w :=
  wp_region_dies (fun _ _ => False) (fun _ _ _ _ h => h.elim) T rf tr base hb hm hB J hJ h
end
end Go.Proofs.Ytnicjbllkdpgcaa

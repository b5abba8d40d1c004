/- A region that draws its order, with calls one behind the other, operation by operation; its last ones wait on all the others. -/
import Derived.Test.YtnicjbllkdpgcaaRegF
namespace Go.Proofs.Ytnicjbllkdpgcaa
open Go.RowKit
set_option linter.unusedVariables false

section
variable {P : Program} {T : World → World → Prop} {base : List (Nat × Value)} {Q : Exit → Act → World → Prop} {a0 : Act} {w0 : World} {ops : Array Oper} {D : List PanicEntry → World → Prop} {sp : Nat → Sp} {Jb : Nat → World → Prop} {lb : Nat → Option Nat} {listed : Array Bool} {a : Act} {w : World}
theorem lb_specT {n : Nat} (hn : n ≤ ops.size) (pl : Plan P T base w0 ops D sp Jb lb n) (h0 : lb 0 = none) : ∀ i, i ≤ n → (lb i = none → ∀ j, j < i → lb (j + 1) ≠ some j) ∧ ∀ l, lb i = some l → l < i ∧ lb (l + 1) = some l ∧ ∀ j, j < i → lb (j + 1) = some j → j ≤ l := by
  intro i
  induction i with
  | zero => intro _; exact ⟨fun _ j hj => (by omega), fun l hl => (by rw [h0] at hl; cases hl)⟩
  | succ i ih =>
    intro hi
    obtain ⟨i1, i2⟩ := ih (by omega)
    obtain ⟨o, ho⟩ : ∃ o, ops[i]? = some o := ⟨ops[i], by simp [show i < ops.size by omega]⟩
    rcases pl.last i o (by omega) ho with ⟨e, _⟩ | ⟨e, _⟩
    · refine ⟨fun h => (by rw [e] at h; cases h), fun l hl => ?_⟩
      rw [e] at hl; cases hl
      exact ⟨by omega, e, fun j hj _ => by omega⟩
    · refine ⟨fun h j hj => ?_, fun l hl => ?_⟩
      · rw [e] at h
        by_cases hji : j = i
        · subst hji; rw [e, h]; simp
        · exact i1 h j (by omega)
      · rw [e] at hl
        obtain ⟨k1, k2, k3⟩ := i2 l hl
        refine ⟨by omega, k2, fun j hj hc => ?_⟩
        by_cases hji : j = i
        · subst hji; rw [e, hl] at hc; cases hc; omega
        · exact k3 j (by omega) hc

theorem chain_allT {n : Nat} (hn : n ≤ ops.size) (pl : Plan P T base w0 ops D sp Jb lb n) (h0 : lb 0 = none) (I : RInv T a0 w0 ops sp Jb lb listed a w) : ∀ l, l < n → lb (l + 1) = some l → (∀ o, ops[l]? = some o → ∀ e ∈ o.after.toList, Region.binds .any e = true → listed.getD e.on false = true) → ∀ j, j < l → lb (j + 1) = some j → listed.getD j false = true := by
  intro l
  induction l using Nat.strongRecOn with
  | ind l ih =>
    intro hl hc hw j hj hcj
    obtain ⟨o, ho⟩ : ∃ o, ops[l]? = some o := ⟨ops[l], by simp [show l < ops.size by omega]⟩
    obtain ⟨s1, s2⟩ := lb_specT hn pl h0 l (by omega)
    have hlink : linked ops (lb l) l = true := by
      rcases pl.last l o hl ho with ⟨_, e⟩ | ⟨e, _⟩
      · exact e
      · rw [hc] at e
        have := (s2 l e.symm).1
        omega
    cases hll : lb l with
    | none => exact absurd hcj (s1 hll j hj)
    | some l' =>
      obtain ⟨k1, k2, k3⟩ := s2 l' hll
      rw [hll] at hlink
      have hl' : listed.getD l' false = true := waits_listed ho I.closed (hw o ho) hlink
      have := k3 j hj hcj
      by_cases hjl : j = l'
      · rw [hjl]; exact hl'
      · exact ih l' k1 (by omega) k2 (fun o' ho' e' he' hb' => I.closed l' o' ho' hl' e' he' hb') j (by omega) hcj

theorem jb_hereT {n : Nat} (hn : n ≤ ops.size) (pl : Plan P T base w0 ops D sp Jb lb n) (h0 : lb 0 = none) (I : RInv T a0 w0 ops sp Jb lb listed a w) {i : Nat} {o : Oper} (ho : ops[i]? = some o) (hi : i < n) (hc : lb (i + 1) = some i) (hun : listed.getD i false = false) (hw : ∀ e ∈ o.after.toList, Region.binds .any e = true → listed.getD e.on false = true) : Jb i w := by
  have hall := chain_allT hn pl h0 I i hi hc (fun o' ho' => by rw [ho] at ho'; cases ho'; exact hw)
  obtain ⟨k, hk, hJ, h1, h2⟩ := I.world
  have hki : k ≤ i := by
    rcases Nat.lt_or_ge i k with g | g
    · rw [h1 i g hc] at hun; cases hun
    · exact g
  have hconst : ∀ m, k + m ≤ i → Jb (k + m) = Jb k := by
    intro m
    induction m with
    | zero => intro _; rfl
    | succ m ih =>
      intro hm
      obtain ⟨o', ho'⟩ : ∃ o, ops[k + m]? = some o := ⟨ops[k + m], by simp [show k + m < ops.size by omega]⟩
      rcases pl.last (k + m) o' (by omega) ho' with ⟨e, _⟩ | ⟨_, e⟩
      · have a1 := hall (k + m) (by omega) e
        rw [h2 (k + m) (by omega) (by omega) e] at a1
        cases a1
      · rw [show k + (m + 1) = k + m + 1 by omega, e]; exact ih (by omega)
  have := hconst (i - k) (by omega)
  rw [show k + (i - k) = i by omega] at this
  rw [this]; exact hJ

theorem RInv.stepT (ok : RegOk ops a0.tmps.size (base.map (·.1))) (I : RInv T a0 w0 ops sp Jb lb listed a w) (tr : ∀ {a b c}, T a b → T b c → T a c) (st : ∀ j w w' v, listed.getD j false = true → T w w' → (sp j).R w v → (sp j).R w' v) {i : Nat} {o : Oper} (ho : ops[i]? = some o) (hi : i < ops.size) (hn : listed.getD i false = false)
    (hw : ∀ e ∈ o.after.toList, Region.binds .any e = true → listed.getD e.on false = true) (hch : lb (i + 1) = some i → (∀ j, j < i → lb (j + 1) = some j → listed.getD j false = true) ∧ ∀ j, i < j → j < ops.size → lb (j + 1) = some j → listed.getD j false = false)
    (v : Value) (w' : World) (hT : T w w') (hR : (sp i).R w' v) (hW : (lb (i + 1) = some i ∧ Jb (i + 1) w') ∨ (lb (i + 1) ≠ some i ∧ w' = w)) :
    RInv T a0 w0 ops sp Jb lb (listed.setIfInBounds i true) (a.put o.dst v) w' := by
  have hs : i < listed.size := by rw [I.size]; exact hi
  have lst : ∀ {j}, (listed.setIfInBounds i true).getD j false = true ↔ j = i ∨ listed.getD j false = true := by
    intro j; rw [set_get]; simp [hs]
  have nl : ∀ {j}, j ≠ i → listed.getD j false = false → (listed.setIfInBounds i true).getD j false = false := by
    intro j h1 h2
    cases h : (listed.setIfInBounds i true).getD j false
    · rfl
    · rcases lst.1 h with e | e
      · exact absurd e h1
      · rw [h2] at e; cases e
  refine ⟨by simpa using I.size, fun j o' hj hl e he hbi => ?_, fun j o' hj hl => ?_, fun s hs' => ?_, by rw [put_size]; exact I.sz, by rw [put_defers]; exact I.defers, tr I.later hT, ?_⟩
  · rcases lst.1 hl with rfl | hl
    · rw [ho] at hj; cases hj
      exact lst.2 (Or.inr (hw e he hbi))
    · exact lst.2 (Or.inr (I.closed j o' hj hl e he hbi))
  · rcases lst.1 hl with rfl | hl2
    · rw [ho] at hj; cases hj
      refine ⟨v, hR, fun d hd => ?_⟩
      rw [put_getD, if_pos ⟨hd, by rw [I.sz]; exact ok.inb j o d ho hd⟩]
    · by_cases hji : j = i
      · subst hji; rw [hn] at hl2; cases hl2
      · obtain ⟨u, hu, hd⟩ := I.vals j o' hj hl2
        refine ⟨u, st j w w' u hl2 hT hu, fun d hdd => ?_⟩
        rw [put_getD, if_neg (fun ⟨e, _⟩ => hji (ok.apart j i o' o d hj ho hdd e))]
        exact hd d hdd
  · rw [put_get, if_neg (fun ⟨e, _⟩ => hs' i o ho (lst.2 (Or.inl rfl)) e)]
    exact I.rest s fun j o' hj hl => hs' j o' hj (lst.2 (Or.inr hl))
  · rcases hW with ⟨hc, hJ⟩ | ⟨hc, rfl⟩
    · obtain ⟨h1, h2⟩ := hch hc
      refine ⟨i + 1, by omega, hJ, fun j hj hcj => ?_, fun j hj hjs hcj => ?_⟩
      · by_cases hji : j = i
        · exact lst.2 (Or.inl hji)
        · exact lst.2 (Or.inr (h1 j (by omega) hcj))
      · exact nl (by omega) (h2 j (by omega) hjs hcj)
    · obtain ⟨k, hk, hJ, h1, h2⟩ := I.world
      refine ⟨k, hk, hJ, fun j hj hcj => lst.2 (Or.inr (h1 j hj hcj)), fun j hj hjs hcj => ?_⟩
      exact nl (fun e => by subst e; exact hc hcj) (h2 j hj hjs hcj)

theorem fin_mono {w : World} {K K' : Act → Prop} (hk : ∀ a, K a → K' a) : ∀ {sps : Ents} {a : Act}, FinA sps w K a → FinA sps w K' a := by
  intro sps
  induction sps generalizing K K' with
  | nil => intro a h; exact hk a h
  | cons x r ih =>
    intro a h
    obtain ⟨k, d, s⟩ := x
    exact ih (fun a' h' v hv => hk _ (h' v hv)) h
theorem fin_all {w : World} {K : Act → Prop} (hk : ∀ a, K a) : ∀ {sps : Ents} {a : Act}, FinA sps w K a := by
  intro sps
  induction sps generalizing K with
  | nil => intro a; exact hk a
  | cons x r ih =>
    intro a
    obtain ⟨k, d, s⟩ := x
    exact ih fun a' v hv => hk _
theorem finT {n : Nat} {K : Act → World → Prop} (hn : n ≤ ops.size) (pl : Plan P T base w0 ops D sp Jb lb n) (h0 : lb 0 = none) (hJb : ∀ i, n ≤ i → Jb i = Jb n) (hlb : ∀ j, n ≤ j → lb (j + 1) ≠ some j) (ok : RegOk ops a0.tmps.size (base.map (·.1))) (I : RInv T a0 w0 ops sp Jb lb listed a w) (hall : ∀ i, i < n → listed.getD i false = true) (hno : ∀ i, n ≤ i → listed.getD i false = false)
    (hfin : ∀ w, Jb n w → T w0 w → FinA (entsTo ops sp n) w (fun a => K a w) a0) : K a w := by
  have hJ : Jb n w := by
    obtain ⟨k, hk, hJ, h1, h2⟩ := I.world
    rcases Nat.lt_or_ge n k with g | g
    · rw [← hJb k (by omega)]; exact hJ
    · have hconst : ∀ m, k + m ≤ n → Jb (k + m) = Jb k := by
        intro m
        induction m with
        | zero => intro _; rfl
        | succ m ih =>
          intro hm
          obtain ⟨o', ho'⟩ : ∃ o, ops[k + m]? = some o := ⟨ops[k + m]'(by omega), by simp [show k + m < ops.size by omega]⟩
          rcases pl.last (k + m) o' (by omega) ho' with ⟨e, _⟩ | ⟨_, e⟩
          · have a1 := hall (k + m) (by omega)
            rw [h2 (k + m) (by omega) (by omega) e] at a1
            cases a1
          · rw [show k + (m + 1) = k + m + 1 by omega, e]; exact ih (by omega)
      have := hconst (n - k) (by omega)
      rw [show k + (n - k) = n by omega] at this
      rw [this]; exact hJ
  have F : FInv T a0 w0 ops sp listed a w := ⟨I.size, I.closed, I.vals, I.rest, I.sz, I.defers, I.later, 0, Nat.zero_le _, trivial, fun j hj => by omega, fun j _ _ h => by cases h⟩
  refine finF (K := fun a w => Jb n w → K a w) hn ok F hall hno (fun y hy => ?_) hJ
  by_cases h : Jb n y
  · exact fin_mono (fun a hk _ => hk) (hfin y h hy)
  · exact fin_all fun a h' => absurd h' h

theorem anyT {n : Nat} {l2 : List Oper} (hn : n ≤ ops.size) (hl2 : ∀ j, l2[j]? = ops[n + j]?) (rf : ∀ w, T w w) (tr : ∀ {a b c}, T a b → T b c → T a c) (pl : Plan P T base w0 ops D sp Jb lb n) (h0 : lb 0 = none) (hJb : ∀ i, n ≤ i → Jb i = Jb n) (hlb : ∀ j, n ≤ j → lb (j + 1) ≠ some j) (ok : RegOk ops a0.tmps.size (base.map (·.1))) (hb : ∀ p ∈ base, a0.tmps.getD p.1 undef = p.2)
    (ht : tailB ops n = true) (hseq : Region.seqB .any ops l2.length n (headArr n (ops.size - n)) = true)
    (hfin : ∀ w, Jb n w → T w0 w → FinA (entsTo ops sp n) w (fun a => wpList P ops Q l2 a w) a0) (hD : ∀ chain a w, a.defers = a0.defers → D chain w → Q (.panic chain) a w) :
    ∀ (fuel : Nat) (listed : Array Bool) (a : Act) (w : World), RInv T a0 w0 ops sp Jb lb listed a w → (∀ i, n ≤ i → listed.getD i false = false) → ((List.range n).filter fun j => !listed.getD j false).length = fuel → wpAny P .any ops Q (fuel + l2.length) listed a w := by
  intro fuel
  induction fuel with
  | zero =>
    intro listed a w I hno hc
    have hall : ∀ i, i < n → listed.getD i false = true := fun i hi => by
      cases h : listed.getD i false
      · exfalso
        have : i ∈ (List.range n).filter fun j => !listed.getD j false := List.mem_filter.2 ⟨List.mem_range.2 hi, by rw [h]; rfl⟩
        have := List.length_pos_of_mem this
        omega
      · rfl
    have hl : listed = headArr n (ops.size - n) := by
      apply Array.ext
      · rw [I.size]; simp [headArr]; omega
      · intro i h1 h2
        have e1 : listed.getD i false = listed[i] := by rw [Array.getD_eq_getD_getElem?, Array.getElem?_eq_getElem h1]; rfl
        rw [← e1]
        rcases Nat.lt_or_ge i n with g | g
        · rw [hall i g]; simp [headArr, g]
        · rw [hno i g]; simp [headArr, List.getElem_append, show ¬ i < n by omega]
    rw [Nat.zero_add]
    refine wpAny_of_seq l2 n listed a w hl2 (by rw [hl]; exact hseq) ?_
    exact finT hn pl h0 hJb hlb ok I hall hno hfin
  | succ fuel ih =>
    intro listed a w I hno hc
    have hex : ∃ i, i < n ∧ listed.getD i false = false := by
      have : 0 < ((List.range n).filter fun j => !listed.getD j false).length := by omega
      obtain ⟨i, hi⟩ := List.exists_mem_of_length_pos this
      obtain ⟨h1, h2⟩ := List.mem_filter.1 hi
      exact ⟨i, List.mem_range.1 h1, by simpa using h2⟩
    obtain ⟨i0, hi0, hun0⟩ := hex
    rw [show fuel + 1 + l2.length = (fuel + l2.length) + 1 by omega]
    refine ⟨fun hr => ?_, fun i hi => ?_⟩
    · have := all_listed ok I hr i0 (by omega)
      rw [hun0] at this; cases this
    · obtain ⟨o, ho, hn', hw⟩ := ready_spec hi
      have hnl := getD_true_false listed i hn'
      have hlt : i < ops.size := by
        rcases Nat.lt_or_ge i ops.size with g | g
        · exact g
        · rw [Array.getElem?_eq_none g] at ho; cases ho
      have hin : i < n := by
        rcases Nat.lt_or_ge i n with g | g
        · exact g
        · exfalso
          have h1 := List.all_eq_true.1 ht i (List.mem_range.2 hlt)
          simp only [Bool.or_eq_true, decide_eq_true_eq] at h1
          rcases h1 with h1 | h1
          · omega
          · have := waits_listed ho I.closed hw (List.all_eq_true.1 h1 i0 (List.mem_range.2 hi0))
            rw [hun0] at this; cases this
      have hfx := fx_here ok hb I ho hw
      have hwant := wanted_here ok I ho hw (pl.guard i o hin ho)
      have hcount : ((List.range n).filter fun j => !(listed.setIfInBounds i true).getD j false).length = fuel := by
        have hs : i < listed.size := by rw [I.size]; exact hlt
        have e : (List.range n).filter (fun j => !(listed.setIfInBounds i true).getD j false) = ((List.range n).filter fun j => !listed.getD j false).filter (fun j => j != i) := by
          rw [List.filter_filter]
          congr 1
          funext j
          cases h : (listed.setIfInBounds i true).getD j false
          · have h2 : listed.getD j false = false := by
              cases h3 : listed.getD j false
              · rfl
              · have := set_get (i := i) |>.2 (Or.inr h3); rw [this] at h; cases h
            have h3 : j ≠ i := fun e => by
              have := set_get (listed := listed) (i := i) (j := j) |>.2 (Or.inl ⟨e, hs⟩)
              rw [this] at h; cases h
            simp [h2, h3]
          · rcases set_get.1 h with ⟨rfl, _⟩ | h2
            · simp
            · simp [h2]
        rw [e]
        have hnd : ((List.range n).filter fun j => !listed.getD j false).Nodup := List.Nodup.sublist List.filter_sublist List.nodup_range
        have hmem : i ∈ (List.range n).filter fun j => !listed.getD j false := List.mem_filter.2 ⟨List.mem_range.2 hin, by rw [hnl]; rfl⟩
        have h3 := hnd.erase_eq_filter i
        rw [← h3, List.length_erase_of_mem hmem]
        omega
      have hno' : ∀ j, n ≤ j → (listed.setIfInBounds i true).getD j false = false := fun j hj => by
        cases h : (listed.setIfInBounds i true).getD j false
        · rfl
        · rcases set_get.1 h with ⟨rfl, _⟩ | h2
          · omega
          · rw [hno j hj] at h2; cases h2
      have st : ∀ j w w' v, listed.getD j false = true → T w w' → (sp j).R w v → (sp j).R w' v := fun j w w' v hl hT hR => by
        have hjn : j < n := by
          rcases Nat.lt_or_ge j n with g | g
          · exact g
          · rw [hno j g] at hl; cases hl
        obtain ⟨o', ho'⟩ : ∃ o, ops[j]? = some o := ⟨ops[j]'(by omega), by simp [show j < ops.size by omega]⟩
        cases hsp : sp j with
        | val c => rw [hsp] at hR; exact hR
        | skip => rw [hsp] at hR; exact hR
        | call R J' => rw [hsp] at hR; exact (pl.call j o' R J' hjn ho' hsp).1.1 w w' v hT hR
        | die => rw [hsp] at hR; exact hR.elim
        | held c I => rw [hsp] at hR; exact ⟨hR.1, (pl.held j o' c I hjn ho' hsp).1 w w' hT hR.2⟩
      have hch : lb (i + 1) = some i → (∀ j, j < i → lb (j + 1) = some j → listed.getD j false = true) ∧ ∀ j, i < j → j < ops.size → lb (j + 1) = some j → listed.getD j false = false := fun hci => by
        refine ⟨chain_allT hn pl h0 I i hin hci fun o' ho' => by rw [ho] at ho'; cases ho'; exact hw, fun j hj hjs hcj => ?_⟩
        cases h : listed.getD j false
        · rfl
        · exfalso
          have hjn : j < n := by
            rcases Nat.lt_or_ge j n with g | g
            · exact g
            · exact absurd hcj (hlb j g)
          have := chain_allT hn pl h0 I j hjn hcj (fun o' ho' e he hbi => I.closed j o' ho' h e he hbi) i hj hci
          rw [hnl] at this; cases this
      have go : ∀ v w', T w w' → (sp i).R w' v → ((lb (i + 1) = some i ∧ Jb (i + 1) w') ∨ (lb (i + 1) ≠ some i ∧ w' = w)) → wpAny P .any ops Q (fuel + l2.length) (listed.setIfInBounds i true) (a.put o.dst v) w' := fun v w' hT hR hW =>
        ih _ _ _ (RInv.stepT ok I tr st ho hlt hnl hw hch v w' hT hR hW) hno' hcount
      have stay : (∀ w, (sp i).J (Jb i) w = Jb i w) → (lb (i + 1) = some i ∧ Jb (i + 1) w) ∨ (lb (i + 1) ≠ some i ∧ w = w) := fun hJ => by
        by_cases hci : lb (i + 1) = some i
        · left
          refine ⟨hci, ?_⟩
          rw [pl.next i hin, hJ]
          exact jb_hereT hn pl h0 I ho hin hci hnl hw
        · exact Or.inr ⟨hci, rfl⟩
      unfold wpOp
      rw [ho]
      simp only
      cases hsp : sp i with
      | val c =>
        rw [hsp] at hwant
        simp only at hwant
        rw [if_pos hwant]
        left
        have hrun := pl.val i o c hin ho hsp a w I.later hfx
        unfold Oper.wp
        rw [hrun]
        exact go c w (rf w) (by rw [hsp]; rfl) (stay fun w => by rw [hsp]; rfl)
      | skip =>
        rw [hsp] at hwant
        simp only at hwant
        rw [if_neg (by rw [hwant]; simp)]
        exact go undef w (rf w) (by rw [hsp]; rfl) (stay fun w => by rw [hsp]; rfl)
      | call R J' =>
        rw [hsp] at hwant
        simp only at hwant
        rw [if_pos hwant]
        left
        obtain ⟨hco, hci⟩ := pl.call i o R J' hin ho hsp
        have heff := hco.2 a w (jb_hereT hn pl h0 I ho hin hci hnl hw) I.later hfx
        have hnext := pl.next i hin
        rw [hsp] at hnext
        have go2 : ∀ v w', T w w' → R w' v → J' w' → wpAny P .any ops Q (fuel + l2.length) (listed.setIfInBounds i true) (a.put o.dst v) w' := fun v w' hT hR hJ => go v w' hT (by rw [hsp]; exact hR) (Or.inl ⟨hci, by rw [hnext]; exact hJ⟩)
        unfold Oper.wp
        generalize (execOp a.eval o).run P w = r at heff
        unfold effOk at heff
        split at heff
        · exact go2 _ _ heff.2.2 heff.1 heff.2.1
        · exact go2 _ _ heff.2.2 heff.1 heff.2.1
        · refine Calls.mono heff ?_
          rintro e w'' ⟨v, rfl, h1, h2, h3⟩
          exact go2 v w'' h3 h1 h2
        · exact heff.elim
      | die =>
        rw [hsp] at hwant
        simp only at hwant
        rw [if_pos hwant]
        left
        obtain ⟨hdo, hci⟩ := pl.die i o hin ho hsp
        have heff := hdo a w (jb_hereT hn pl h0 I ho hin hci hnl hw) I.later hfx
        unfold Oper.wp
        generalize (execOp a.eval o).run P w = r at heff
        unfold dieOk at heff
        split at heff
        · refine Calls.mono heff ?_
          rintro e w'' ⟨chain, rfl, h1⟩
          exact hD chain a w'' I.defers h1
        · exact hD _ a _ I.defers heff
        · exact heff.elim
      | held c J' =>
        rw [hsp] at hwant
        simp only at hwant
        rw [if_pos hwant]
        left
        have heff := (pl.held i o c J' hin ho hsp).2 a w I.later hfx
        have hold : J' w → wpAny P .any ops Q (fuel + l2.length) (listed.setIfInBounds i true) (a.put o.dst c) w := fun hI => go c w (rf w) (by rw [hsp]; exact ⟨rfl, hI⟩) (stay fun w => by rw [hsp]; rfl)
        unfold Oper.wp
        generalize (execOp a.eval o).run P w = r at heff
        unfold quietOk at heff
        split at heff
        · obtain ⟨rfl, rfl, hI⟩ := heff
          exact hold hI
        · obtain ⟨rfl, hI, hc⟩ := heff
          refine Calls.mono hc ?_
          rintro e w'' ⟨rfl, rfl⟩
          exact hold hI
        · exact heff.elim

/-- THE LAW: a region that draws its order, its calls one behind the other; its last operations wait on the first n -/
theorem wp_region_tail {id : Nat} {l : List Oper} {a : Act} {w : World} (D : List PanicEntry → World → Prop) (hD : ∀ chain a' w, a'.defers = a.defers → D chain w → Q (.panic chain) a' w) (n : Nat) (T : World → World → Prop) (rf : ∀ w, T w w) (tr : ∀ {a b c}, T a b → T b c → T a c) (base : List (Nat × Value)) (hb : ∀ p ∈ base, a.tmps.getD p.1 undef = p.2)
    (hm : P.follows .mixedOrders = true) (hB : regB l.toArray a.tmps.size (base.map (·.1)) = true) (hn : n ≤ l.length) (ht : tailB l.toArray n = true) (hseq : Region.seqB .any l.toArray (l.drop n).length n (headArr n (l.length - n)) = true)
    (J : World → Prop) (hJ : J w.drew) (h : RB P T base (fun e a w => e = .normal → wpList P l.toArray Q (l.drop n) a w) a w.drew l.toArray D 0 (l.take n) [] J none) : (Code.region id l.toArray true).wp P Q a w := by
  have ok := regB_ok hB
  have hlen : (l.take n).length = n := by rw [List.length_take]; omega
  obtain ⟨sp, Jb, lb, pl, h0, hJ0, hfin⟩ := RB.plan (ops := l.toArray) (l.take n) 0 (fun _ => .skip) (fun _ => J) (fun _ => none) (fun i hi => by rw [hlen] at hi; simp [hi]) ⟨fun i _ hi => by omega, fun i _ _ hi => by omega, fun i _ _ _ hi => by omega, fun i _ hi => by omega, fun i _ _ _ hi => by omega, fun i hi => by omega, fun i _ hi => by omega⟩ h
  rw [Nat.zero_add, hlen] at pl hfin
  refine wp_region_any hm ?_
  have hf : l.toArray.size = ((List.range n).filter fun j => !(Array.replicate l.toArray.size false).getD j false).length + (l.drop n).length := by
    have : (List.range n).filter (fun j => !(Array.replicate l.toArray.size false).getD j false) = List.range n := by
      rw [List.filter_eq_self]
      intro j _
      rw [getD_replicate_false]; rfl
    rw [this]; simp; omega
  have pl2 : Plan P T base w.drew l.toArray D sp (fun i => Jb (min i n)) (fun i => if i ≤ n then lb i else none) n := by
    refine ⟨pl.guard, pl.val, fun i o R J' hi ho hs => ?_, fun i o hi ho hs => ?_, pl.held, fun i hi => ?_, fun i o hi ho => ?_⟩
    · have := pl.call i o R J' hi ho hs
      simp only [show min i n = i by omega, if_pos (show i + 1 ≤ n by omega)]; exact this
    · have := pl.die i o hi ho hs
      simp only [show min i n = i by omega, if_pos (show i + 1 ≤ n by omega)]; exact this
    · have := pl.next i hi
      simp only [show min i n = i by omega, show min (i + 1) n = i + 1 by omega]; exact this
    · have := pl.last i o hi ho
      simp only [show min i n = i by omega, show min (i + 1) n = i + 1 by omega, if_pos (show i ≤ n by omega), if_pos (show i + 1 ≤ n by omega)]; exact this
  have key := anyT (Q := Q) (ops := l.toArray) (l2 := l.drop n) (n := n) (by simpa using hn) (fun j => by simp) rf tr pl2 (by simp [h0]) (fun i hi => by simp [show min i n = n by omega]) (fun j hj => by simp [show ¬ j + 1 ≤ n by omega]) ok hb ht (by simpa using hseq) (fun y h1 h2 => fin_mono (fun a h => h rfl) (hfin y (by simpa using h1) h2)) hD _ (Array.replicate l.toArray.size false) a w.drew
    ⟨by simp, fun j o _ h => (by rw [getD_replicate_false] at h; cases h), fun j o _ h => (by rw [getD_replicate_false] at h; cases h), fun _ _ => rfl, rfl, rfl, rf _, 0, Nat.zero_le _, by simp [hJ0]; exact hJ, fun j hj => by omega, fun j _ _ _ => getD_replicate_false _ _⟩ (fun i _ => getD_replicate_false _ _) rfl
  rw [← hf] at key
  exact key
end
end Go.Proofs.Ytnicjbllkdpgcaa

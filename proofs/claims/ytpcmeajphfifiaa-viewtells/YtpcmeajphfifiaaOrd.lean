/- The order of places as a list: who stands before whom; that there is one such list; that the stable insertion sort makes it. No program is spoken of here. -/
import Derived.Test.YtpcmeajphfifiaaView
import Derived.Sort.LotA
import Derived.Sort.WalkA
namespace Fl
open Go.Sort Go.Proofs

/-- place a is drawn ahead of place b -/
def before (ds : List Nat) (a b : Nat) : Prop := key (ds.getD b 0) < key (ds.getD a 0) ∨ (key (ds.getD a 0) = key (ds.getD b 0) ∧ a < b)
instance (ds : List Nat) (a b : Nat) : Decidable (before ds a b) := inferInstanceAs (Decidable (_ ∨ _))
structure IsOrd (ds o : List Nat) : Prop where
  perm : o.Perm (List.range ds.length)
  sorted : o.Pairwise (before ds)

theorem IsOrd.unique {ds o o' : List Nat} (h : IsOrd ds o) (h' : IsOrd ds o') : o = o' := by
  refine List.Perm.eq_of_pairwise (le := before ds) ?_ h.sorted h'.sorted (h.perm.trans h'.perm.symm)
  intro a b _ _ h1 h2
  unfold before at h1 h2
  omega
theorem IsOrd.length {ds o : List Nat} (h : IsOrd ds o) : o.length = ds.length := by
  rw [h.perm.length_eq, List.length_range]
theorem IsOrd.nodup {ds o : List Nat} (h : IsOrd ds o) : o.Nodup := h.perm.nodup_iff.2 List.nodup_range
theorem IsOrd.lt {ds o : List Nat} (h : IsOrd ds o) {a : Nat} (ha : a ∈ o) : a < ds.length := List.mem_range.1 (h.perm.mem_iff.1 ha)
theorem isOrd_nil : IsOrd [] [] := ⟨by simp, List.Pairwise.nil⟩
/-- the order of one list is that of another whose places stand to each other alike -/
theorem IsOrd.congr {ds ds' o : List Nat} (h : IsOrd ds o) (hl : ds'.length = ds.length) (hb : ∀ a b, a < ds.length → b < ds.length → before ds a b → before ds' a b) : IsOrd ds' o :=
  ⟨by rw [hl]; exact h.perm, h.sorted.imp_of_mem fun ha hb' r => hb _ _ (h.lt ha) (h.lt hb') r⟩

/-! ### the insertion sort of the places -/
def ltA (ds : List Nat) (m : Nat) (x y : Fin (m + 1)) : Bool := soon (ds.getD x 0) (ds.getD y 0)
def ltT (ds : List Nat) (m : Nat) (x y : Fin (m + 1)) : Bool := decide (before ds x y)
theorem swoT (ds : List Nat) (m : Nat) : SWO (ltT ds m) where
  irrefl x := decide_eq_false (by unfold before; omega)
  trans x y z h1 h2 := by
    have h1 := of_decide_eq_true h1
    have h2 := of_decide_eq_true h2
    refine decide_eq_true ?_
    unfold before at *; omega
  ntrans x y z h1 h2 := by
    have h1 := of_decide_eq_false h1
    have h2 := of_decide_eq_false h2
    refine decide_eq_false ?_
    unfold before at *; omega

theorem lt_same (ds : List Nat) {m : Nat} {x y : Fin (m + 1)} (h : y.val < x.val) : ltA ds m x y = ltT ds m x y := by
  unfold ltA ltT soon
  by_cases c : key (ds.getD y 0) < key (ds.getD x 0)
  · rw [decide_eq_true c, decide_eq_true (show before ds x y from Or.inl c)]
  · rw [decide_eq_false c, decide_eq_false]
    unfold before; omega

theorem inner_same (ds : List Nat) {m : Nat} : ∀ (j : Nat) (d : Array (Fin (m + 1))), j < d.size → (∀ t, t < j → d[t]!.val < d[j]!.val) → insInner (ltA ds m) 0 j d = insInner (ltT ds m) 0 j d := by
  intro j
  induction j with
  | zero => intro d _ _; rfl
  | succ j ih =>
    intro d hj h
    have e := lt_same ds (h j (by omega))
    cases c : ltT ds m d[j + 1]! d[j]!
    · rw [c] at e
      rw [insInner_stop _ _ _ _ (Or.inr e), insInner_stop _ _ _ _ (Or.inr c)]
    · rw [c] at e
      rw [insInner_go _ 0 (j + 1) d (by omega) e, insInner_go _ 0 (j + 1) d (by omega) c]
      simp only [Nat.add_sub_cancel]
      refine ih _ (by rw [swp_size]; omega) ?_
      intro t ht
      rw [swp_get d hj (by omega), swp_get d hj (by omega), if_neg (by omega), if_neg (by omega), if_pos rfl]
      exact h t (by omega)

theorem inner_keeps {m : Nat} (lt : Fin (m + 1) → Fin (m + 1) → Bool) (B : Nat) : ∀ (j : Nat) (d : Array (Fin (m + 1))), j < d.size → (∀ t, t ≤ j → d[t]!.val < B) →
    (insInner lt 0 j d).size = d.size ∧ (∀ t, t ≤ j → (insInner lt 0 j d)[t]!.val < B) ∧ (∀ t, j < t → (insInner lt 0 j d)[t]! = d[t]!) := by
  intro j
  induction j with
  | zero => intro d _ h; exact ⟨rfl, h, fun _ _ => rfl⟩
  | succ j ih =>
    intro d hj h
    cases c : lt d[j + 1]! d[j]!
    · rw [insInner_stop _ _ _ _ (Or.inr c)]
      exact ⟨rfl, h, fun _ _ => rfl⟩
    · rw [insInner_go _ 0 (j + 1) d (by omega) c]
      simp only [Nat.add_sub_cancel]
      have g := swp_get d hj (show j < d.size by omega)
      obtain ⟨h1, h2, h3⟩ := ih (swp d (j + 1) j) (by rw [swp_size]; omega) (by
        intro t ht
        rw [g t]
        split
        · exact h (j + 1) (by omega)
        · split
          · exact h j (by omega)
          · exact h t (by omega))
      refine ⟨by rw [h1, swp_size], ?_, ?_⟩
      · intro t ht
        by_cases e : t = j + 1
        · subst e
          rw [h3 (j + 1) (by omega), g (j + 1), if_neg (by omega), if_pos rfl]
          exact h j (by omega)
        · exact h2 t (by omega)
      · intro t ht
        rw [h3 t (by omega), g t, if_neg (by omega), if_neg (by omega)]

theorem outer_same (ds : List Nat) {m : Nat} : ∀ (k i : Nat) (d : Array (Fin (m + 1))), i + k = m + 1 → 0 < i → d.size = m + 1 → (∀ t, t < i → d[t]!.val < i) → (∀ t, i ≤ t → t < m + 1 → d[t]!.val = t) →
    insOuter (ltA ds m) 0 (m + 1) i d = insOuter (ltT ds m) 0 (m + 1) i d := by
  intro k
  induction k with
  | zero =>
    intro i d h1 _ _ _ _
    rw [insOuter_stop _ _ _ _ _ (by omega), insOuter_stop _ _ _ _ _ (by omega)]
  | succ k ih =>
    intro i d h1 h2 hs ha hb
    have e := inner_same ds i d (by omega) (fun t ht => by rw [hb i (by omega) (by omega)]; exact ha t ht)
    rw [insOuter_go (ltA ds m) 0 (m + 1) i d (by omega), insOuter_go (ltT ds m) 0 (m + 1) i d (by omega), e]
    obtain ⟨k1, k2, k3⟩ := inner_keeps (ltT ds m) (i + 1) i d (by omega) (fun t ht => by
      by_cases c : t = i
      · subst c; rw [hb t (by omega) (by omega)]; omega
      · have := ha t (by omega); omega)
    refine ih (i + 1) _ (by omega) (by omega) (by rw [k1, hs]) (fun t ht => k2 t (by omega)) (fun t h3 h4 => ?_)
    rw [k3 t (by omega)]
    exact hb t (by omega) h4

def idA (m : Nat) : Array (Fin (m + 1)) := Array.ofFn fun i => i
theorem idA_size (m : Nat) : (idA m).size = m + 1 := by simp [idA]
theorem idA_get (m t : Nat) (h : t < m + 1) : (idA m)[t]!.val = t := by
  simp [idA, h]
theorem ins_same (ds : List Nat) (m : Nat) : Go.Sort.insertionSort (ltA ds m) (idA m) 0 (m + 1) = Go.Sort.insertionSort (ltT ds m) (idA m) 0 (m + 1) := by
  unfold Go.Sort.insertionSort
  refine outer_same ds m 1 _ (by omega) (by omega) (idA_size m) ?_ ?_
  · intro t ht; rw [idA_get m t (by omega)]; exact ht
  · intro t _ h; exact idA_get m t h

theorem ext_all {α : Type} (d : Array α) (n : Nat) (h : d.size = n) : d.extract 0 n = d := by subst h; exact Array.extract_size
theorem isOrd_ins (ds : List Nat) (m : Nat) (hl : ds.length = m + 1) : IsOrd ds ((Go.Sort.insertionSort (ltA ds m) (idA m) 0 (m + 1)).toList.map Fin.val) := by
  rw [ins_same]
  obtain ⟨⟨sz, _, pm⟩, so⟩ := insertionSort_holds (swoT ds m) (idA m) 0 (m + 1) (by omega) (by rw [idA_size]; omega)
  generalize Go.Sort.insertionSort (ltT ds m) (idA m) 0 (m + 1) = d at sz pm so
  rw [idA_size] at sz
  have e1 : d.extract 0 (m + 1) = d := ext_all d _ sz
  have e2 : (idA m).extract 0 (m + 1) = idA m := ext_all _ _ (idA_size m)
  rw [e1, e2] at pm
  have pr : (d.toList.map Fin.val).Perm (List.range ds.length) := by
    refine (pm.map Fin.val).trans ?_
    have : (idA m).toList.map Fin.val = List.range (m + 1) := by
      apply List.ext_getElem
      · simp [idA]
      · intro i h1 h2
        simp only [List.getElem_map, Array.getElem_toList, idA, Array.getElem_ofFn, List.getElem_range]
    rw [this, hl]
  refine ⟨pr, ?_⟩
  have nd : (d.toList.map Fin.val).Nodup := pr.nodup_iff.2 List.nodup_range
  rw [List.pairwise_iff_getElem]
  intro i j hi hj hij
  have hi' : i < d.size := by simpa using hi
  have hj' : j < d.size := by simpa using hj
  have hne : (d.toList.map Fin.val)[i] ≠ (d.toList.map Fin.val)[j] := fun e => by
    have := (List.getElem_inj nd).1 e
    omega
  have h := of_decide_eq_false (so i j (by omega) hij (by omega))
  have gi : d[i]! = d[i] := by simp [hi']
  have gj : d[j]! = d[j] := by simp [hj']
  rw [gi, gj] at h
  simp only [List.getElem_map, Array.getElem_toList] at hne ⊢
  unfold before at h ⊢
  omega

end Fl

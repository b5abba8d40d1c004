/- One more place brought into an order: as the reference does it. No program is spoken of here. -/
import Derived.Test.YtpcmeajphfifiaaOrd
namespace Fl

theorem take_get (ds : List Nat) (i a : Nat) (h : a < i) : (ds.take i).getD a 0 = ds.getD a 0 := by
  rw [List.getD_eq_getElem?_getD, List.getElem?_take_of_lt h, ← List.getD_eq_getElem?_getD]

theorem IsOrd.insert {ds o : List Nat} {k i : Nat} (h : IsOrd (ds.take i) o) (hi : i < ds.length) (hk : k ≤ i)
    (h1 : ∀ p, k ≤ p → p < i → soon (ds.getD i 0) (ds.getD (o.getD p 0) 0) = true) (h2 : k = 0 ∨ soon (ds.getD i 0) (ds.getD (o.getD (k - 1) 0) 0) = false) :
    IsOrd (ds.take (i + 1)) (o.take k ++ [i] ++ o.drop k) := by
  have hl : (ds.take i).length = i := by rw [List.length_take]; omega
  have hl1 : (ds.take (i + 1)).length = i + 1 := by rw [List.length_take]; omega
  have ol : o.length = i := by rw [h.length, hl]
  have lt : ∀ a ∈ o, a < i := fun a ha => by have := h.lt ha; omega
  have ge : ∀ p (hp : p < i), o.getD p 0 = o[p]'(by omega) := fun p hp => by simp [show p < o.length by omega]
  have srt : ∀ p q, p < q → q < i → before ds (o.getD p 0) (o.getD q 0) := fun p q hpq hq => by
    have := List.pairwise_iff_getElem.1 h.sorted p q (by omega) (by omega) hpq
    rw [ge p (by omega), ge q hq]
    unfold before at this ⊢
    rw [take_get ds i _ (lt _ (List.getElem_mem _)), take_get ds i _ (lt _ (List.getElem_mem _))] at this
    exact this
  -- those ahead
  have ahead : ∀ p, p < k → before (ds.take (i + 1)) (o.getD p 0) i := fun p hp => by
    have hpo : o.getD p 0 < i := by rw [ge p (by omega)]; exact lt _ (List.getElem_mem _)
    unfold before
    rw [take_get ds (i + 1) (o.getD p 0) (by omega), take_get ds (i + 1) i (by omega)]
    rcases h2 with h2 | h2
    · omega
    · have h2 := of_decide_eq_false h2
      rcases Nat.lt_or_eq_of_le (show p ≤ k - 1 by omega) with hlt | rfl
      · have := srt p (k - 1) hlt (by omega)
        unfold before at this
        omega
      · omega
  have behind : ∀ p, k ≤ p → p < i → before (ds.take (i + 1)) i (o.getD p 0) := fun p hkp hp => by
    have hpo : o.getD p 0 < i := by rw [ge p hp]; exact lt _ (List.getElem_mem _)
    unfold before
    rw [take_get ds (i + 1) (o.getD p 0) (by omega), take_get ds (i + 1) i (by omega)]
    exact Or.inl (of_decide_eq_true (h1 p hkp hp))
  refine ⟨?_, ?_⟩
  · rw [hl1, List.range_succ]
    have hp : o.Perm (List.range i) := by have := h.perm; rwa [hl] at this
    have : (o.take k ++ [i] ++ o.drop k).Perm (o.take k ++ o.drop k ++ [i]) := by
      rw [List.append_assoc, List.append_assoc]
      exact List.Perm.append_left _ List.perm_append_comm
    rw [List.take_append_drop] at this
    exact this.trans (hp.append_right [i])
  · have up : ∀ a b, a < i → b < i → before (ds.take i) a b → before (ds.take (i + 1)) a b := fun a b ha hb r => by
      unfold before at r ⊢
      rw [take_get ds i a ha, take_get ds i b hb] at r
      rw [take_get ds (i + 1) a (by omega), take_get ds (i + 1) b (by omega)]
      exact r
    rw [List.pairwise_append, List.pairwise_append]
    refine ⟨⟨?_, by simp, ?_⟩, ?_, ?_⟩
    · exact (h.sorted.sublist (List.take_sublist _ _)).imp_of_mem fun ha hb r => up _ _ (lt _ (List.mem_of_mem_take ha)) (lt _ (List.mem_of_mem_take hb)) r
    · intro a ha b hb
      rw [List.mem_singleton] at hb; subst hb
      obtain ⟨p, hp, rfl⟩ := List.getElem_of_mem ha
      rw [List.length_take] at hp
      rw [List.getElem_take, ← ge p (by omega)]
      exact ahead p (by omega)
    · exact (h.sorted.sublist (List.drop_sublist _ _)).imp_of_mem fun ha hb r => up _ _ (lt _ (List.mem_of_mem_drop ha)) (lt _ (List.mem_of_mem_drop hb)) r
    · intro a ha b hb
      obtain ⟨q, hq, rfl⟩ := List.getElem_of_mem hb
      rw [List.length_drop] at hq
      rw [List.getElem_drop, ← ge (k + q) (by omega)]
      rcases List.mem_append.1 ha with ha | ha
      · obtain ⟨p, hp, rfl⟩ := List.getElem_of_mem ha
        rw [List.length_take] at hp
        rw [List.getElem_take, ← ge p (by omega)]
        have := srt p (k + q) (by omega) (by omega)
        have l1 : o.getD p 0 < i := by rw [ge p (by omega)]; exact lt _ (List.getElem_mem _)
        have l2 : o.getD (k + q) 0 < i := by rw [ge (k + q) (by omega)]; exact lt _ (List.getElem_mem _)
        unfold before at this ⊢
        rw [take_get ds (i + 1) _ (by omega), take_get ds (i + 1) _ (by omega)]
        exact this
      · rw [List.mem_singleton] at ha; subst ha
        exact behind (k + q) (by omega) (by omega)

end Fl

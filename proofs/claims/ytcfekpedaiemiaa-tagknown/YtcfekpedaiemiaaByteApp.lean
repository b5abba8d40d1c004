/- Bytes that come with their room; 'append' of bytes to a row of the call's own. -/
import Derived.Test.YtcfekpedaiemiaaByteRow
import Derived.Test.YtcfekpedaiemiaaApp
namespace Go.Proofs.Ytcfekpedaiemiaa
open Go.RowKit

/-- v reads as these bytes, and has room for them -/
structure ReadC (w : World) (v : Value) (bs : List Nat) : Prop where
  lt : ∀ x ∈ bs, x < 256
  is : ∃ a cap, v = .slice a bs.length cap ∧ bs.length ≤ cap ∧ cap ≤ maxLen ∧ (bs = [] ∨ ∃ b off, a = some ⟨b, off, none⟩ ∧ b < w.heap.size ∧ ∀ i, i < bs.length → w.cell? ⟨b, off + i, none⟩ = some (.int .u8 (bs.getD i 0 : Nat)))
theorem ReadC.read {w : World} {v : Value} {bs : List Nat} (h : ReadC w v bs) : ReadB w v bs := by
  obtain ⟨h8, a, cap, rfl, _, _, h⟩ := h
  exact ⟨h8, a, cap, rfl, h⟩
theorem ReadC.only {w w' : World} {v : Value} {bs : List Nat} {S : List Nat} (h : ReadC w v bs) (o : Only S w w') (hS : ∀ g, v.ownBlock = some g → g ∉ S) : ReadC w' v bs := by
  obtain ⟨h8, a, cap, rfl, h1, h2, h⟩ := h
  refine ⟨h8, a, cap, rfl, h1, h2, ?_⟩
  rcases h with h | ⟨b, off, rfl, hb, hc⟩
  · exact Or.inl h
  · exact Or.inr ⟨b, off, rfl, Nat.lt_of_lt_of_le hb o.size, fun i hi => by rw [o.cell (p := ⟨b, off + i, none⟩) hb (hS b rfl)]; exact hc i hi⟩
theorem RowB.readC {B : Nat} {w : World} {v : Value} {bs : List Nat} (h : RowB B w v bs) (h8 : ∀ x ∈ bs, x < 256) : ReadC w v bs := by
  refine ⟨h8, ?_⟩
  have h2 := h.2
  rcases h2 with ⟨rfl, h0⟩ | ⟨g, cap, cur, rfl, _, _, hn, hm, _⟩
  · have : bs = [] := List.length_eq_zero_iff.1 h0
    subst this
    exact ⟨none, 0, rfl, Nat.le_refl _, Nat.zero_le _, Or.inl rfl⟩
  · refine ⟨_, cap, rfl, hn, hm, ?_⟩
    by_cases h0 : bs = []
    · exact Or.inl h0
    · right
      refine ⟨g, 0, rfl, (h.lt g rfl).2, fun i hi => ?_⟩
      have := World.ownsRow.cellAt h i (by omega)
      rw [bv_get bs i (bs.getD i 0) (by simp [List.getD_eq_getElem?_getD, hi])] at this
      simpa using this
theorem RowB.lower {B B' : Nat} {w : World} {v : Value} {bs : List Nat} (h : RowB B w v bs) (hb : B' ≤ B) : RowB B' w v bs := by
  obtain ⟨h1, h2⟩ := h
  refine ⟨h1, ?_⟩
  rcases h2 with h2 | ⟨g, cap, cur, hv, hg, r⟩
  · exact Or.inl h2
  · exact Or.inr ⟨g, cap, cur, hv, Nat.le_trans hb hg, r⟩
/-- the nil slice -/
theorem readC_nil (w : World) : ReadC w (.slice none 0 0) [] := ⟨by simp, none, 0, rfl, Nat.le_refl _, Nat.zero_le _, Or.inl rfl⟩
/-- how a slice of bytes reads that is cut ahead of some -/
theorem readC_take {w : World} {a : Option Addr} {n cap : Nat} {bs : List Nat} (h : ReadC w (.slice a n cap) bs) (k : Nat) (hk : k ≤ bs.length) : ReadC w (.slice a k cap) (bs.take k) := by
  obtain ⟨h8, a', cap', e, h1, h2, h⟩ := h
  injection e with e1 e2 e3
  subst e1 e2 e3
  have hl : (bs.take k).length = k := by rw [List.length_take]; omega
  refine ⟨fun x hx => h8 x (List.mem_of_mem_take hx), a, cap, by rw [hl], by omega, h2, ?_⟩
  rcases h with rfl | ⟨b, off, rfl, hb, hc⟩
  · left; simp
  · refine Or.inr ⟨b, off, rfl, hb, fun i hi => ?_⟩
    rw [hl] at hi
    rw [hc i (by omega)]
    simp [List.getD_eq_getElem?_getD, hi]
/-- .. of which some are left out -/
theorem readC_drop {w : World} {b off n cap : Nat} {bs : List Nat} (h : ReadC w (.slice (some ⟨b, off, none⟩) n cap) bs) (k : Nat) (hk : k ≤ bs.length) : ReadC w (.slice (some ⟨b, off + k, none⟩) (n - k) (cap - k)) (bs.drop k) := by
  obtain ⟨h8, a', cap', e, h1, h2, h⟩ := h
  injection e with e1 e2 e3
  subst e1 e2 e3
  have hl : (bs.drop k).length = bs.length - k := by simp
  refine ⟨fun x hx => h8 x (List.mem_of_mem_drop hx), _, _, by rw [hl], by omega, by omega, ?_⟩
  rcases h with rfl | ⟨b', off', e, hb, hc⟩
  · left; simp
  · injection e with e
    injection e with e1 e2
    subst e1 e2
    refine Or.inr ⟨b, off + k, rfl, hb, fun i hi => ?_⟩
    rw [hl] at hi
    rw [show off + k + i = off + (k + i) by omega, hc (k + i) (by omega)]
    simp [List.getD_eq_getElem?_getD]

theorem ReadC.len {w : World} {v : Value} {bs : List Nat} (h : ReadC w v bs) : bs.length ≤ 9223372036854775807 := by
  obtain ⟨_, a, cap, _, h1, h2, _⟩ := h
  unfold maxLen at h2
  omega
theorem ReadC.form {w : World} {v : Value} {bs : List Nat} (h : ReadC w v bs) : ∃ a cap, v = .slice a bs.length cap ∧ bs.length ≤ cap := by
  obtain ⟨_, a, cap, e, h1, _⟩ := h
  exact ⟨a, cap, e, h1⟩
/-- a byte of a row of the call's own is turned -/
theorem RowB.turn {B g n cap : Nat} {w : World} {bs : List Nat} (h : RowB B w (.slice (some ⟨g, 0, none⟩) n cap) bs) (j b : Nat) : RowB B (w.setCell ⟨g, j, none⟩ (.int .u8 (b : Int))) (.slice (some ⟨g, 0, none⟩) n cap) (bs.set j b) ∧ Only [g] w (w.setCell ⟨g, j, none⟩ (.int .u8 (b : Int))) := by
  have hn : n = bs.length := by
    rcases h.2 with ⟨e, _⟩ | ⟨g', cap', cur, e, _⟩
    · cases e
    · injection e
  subst hn
  have st := World.ownsRow.stored h j (.int .u8 (b : Int))
  refine ⟨?_, (grown_only st.2).weaken (by simp)⟩
  unfold RowB
  rw [List.length_set, ← bv_set]
  exact st.1
theorem RowB.byte {B g n cap : Nat} {w : World} {bs : List Nat} (h : RowB B w (.slice (some ⟨g, 0, none⟩) n cap) bs) (j : Nat) (hj : j < bs.length) : w.cell? ⟨g, j, none⟩ = some (.int .u8 (bs.getD j 0 : Nat)) ∧ w.frozen? ⟨g, j, none⟩ = false := by
  have hn : n = bs.length := by
    rcases h.2 with ⟨e, _⟩ | ⟨g', cap', cur, e, _⟩
    · cases e
    · injection e
  subst hn
  have h1 := World.ownsRow.cellAt h j (by omega)
  rw [bv_get bs j (bs.getD j 0) (by simp [List.getD_eq_getElem?_getD, hj])] at h1
  exact ⟨h1, World.ownsRow.frozenAt h j⟩
theorem RowB.form {B : Nat} {w : World} {v : Value} {bs : List Nat} (h : RowB B w v bs) (h0 : 0 < bs.length) : ∃ g cap, v = .slice (some ⟨g, 0, none⟩) bs.length cap ∧ B ≤ g ∧ g < w.heap.size := World.ownsRow.form h h0

/-- what an 'append' of bytes leaves -/
structure Apped (B : Nat) (w : World) (v : Value) (w' : World) (v' : Value) (bs : List Nat) : Prop where
  row : RowB B w' v' bs
  only : Only v.ownBlock.toList w w'
  at_ : v'.ownBlock = v.ownBlock ∨ v'.ownBlock = some w.heap.size
theorem run_app_nil {w : World} {B c : Nat} {v : Value} {bs : List Nat} (h : RowB B w v bs) (ty : TypeId) : (Builtin.append_ #[22, 22] ty #[v, .slice none 0 c]).run Try.prog w = .ok v w := by
  obtain ⟨i0, hi, hz0, hz1, hz2⟩ := info_parts info_u8
  rcases h.2 with ⟨rfl, hn⟩ | ⟨g, cap, cur, rfl, _, _, hnc, _⟩
  · simp [Builtin.append_, run_underlying Try.underlying22, sizeOf, typeInfo, hi, Builtin.lenOf, Builtin.firstCells]
  · simp [Builtin.append_, run_underlying Try.underlying22, sizeOf, typeInfo, hi, Builtin.lenOf, Builtin.firstCells, hnc, storeCells]
theorem run_app {w : World} {B : Nat} {v s : Value} {bs cs : List Nat} (h : RowB B w v bs) (r : ReadB w s cs) (hl : bs.length + cs.length ≤ 140737488355328) (hB : B ≤ w.heap.size) (ty : TypeId) :
    ∃ v' w', (Builtin.append_ #[22, 22] ty #[v, s]).run Try.prog w = .ok v' w' ∧ Apped B w v w' v' (bs ++ cs) := by
  obtain ⟨h8, a, cap, rfl, r⟩ := r
  cases a with
  | none =>
    have : cs = [] := by
      rcases r with h | ⟨b, off, h, _⟩
      · exact h
      · cases h
    subst this
    exact ⟨v, w, run_app_nil h ty, by simpa using h, Only.refl _ _, Or.inl rfl⟩
  | some ad =>
    obtain ⟨i0, hi, hz0, hz1, hz2⟩ := info_parts info_u8
    have A : ∀ j u, (bv cs)[j]? = some u → w.cell? (ad.add j) = some u := by
      intro j u hj
      have hjn : j < cs.length := by
        have := (List.getElem?_eq_some_iff.1 hj).1
        simpa using this
      rcases r with rfl | ⟨b, off, hab, hb, hc⟩
      · simp at hjn
      · injection hab with hab
        subst hab
        rw [Addr.add_lit, hc j hjn, ← hj, bv_get cs j (cs.getD j 0) (by simp [List.getD_eq_getElem?_getD, hjn])]
    obtain ⟨v', w', hr, k1, k2, k3⟩ := app_where B 22 ty 5 i0 (.int .u8 0) 1 Try.underlying22 hi hz0 hz1 hz2 rfl v bs.length (bv bs) h ad cs.length cap (bv cs) (by simp) A (bv_one cs) (by unfold maxLen; omega) (by omega) hB
    refine ⟨v', w', hr, ?_, grown_only k2, k3⟩
    unfold RowB
    rw [List.length_append, show bv (bs ++ cs) = bv bs ++ bv cs by simp [bv]]
    exact k1
/-- the law, at an operation without a guard -/
theorem app_bytes {w : World} {ops : Array Oper} {rest : List Oper} {o : Oper} {act : Act} {Q : Exit → Act → World → Prop} {B : Nat} {v s : Value} {bs cs : List Nat} (hgd : o.guard = none) (x y : Operand)
    (ho : o.op = .call { callee := .builtin .append, args := #[x, y], argTypes := #[22, 22] }) (hx : act.eval x = v) (hy : act.eval y = s) (h : RowB B w v bs) (r : ReadB w s cs) (hl : bs.length + cs.length ≤ 140737488355328) (hB : B ≤ w.heap.size)
    (k : ∀ v' w', Apped B w v w' v' (bs ++ cs) → wpList Try.prog ops Q rest (act.put o.dst v') w') : wpList Try.prog ops Q (o :: rest) act w := by
  obtain ⟨v', w', hr, h2⟩ := run_app h r hl hB o.type
  refine wpList_plain hgd fun K hK => ?_
  unfold Oper.wp
  simp only [execOp, ho, resolve, invoke, builtin, Sem.run_bind, Sem.run_pure, Result.andThen_ok, List.map_toArray, List.map_cons, List.map_nil, hx, hy, hr]
  exact hK _ _ (k v' w' h2)
/-- an empty row, just laid -/
theorem rowB_empty (B : Nat) (w : World) (hB : B ≤ w.heap.size) : RowB B (w.alloc (.cells #[] 5)) (.slice (some ⟨w.heap.size, 0, none⟩) 0 0) [] :=
  own_empty (by show (w.heap.push _)[w.heap.size]? = _; simp) hB
end Go.Proofs.Ytcfekpedaiemiaa

/- Rows of whatever elements: of the call's own; as they are read; 'append' of them. -/
import Derived.Test.YtngbannidbijmaaCame
import Derived.Test.YtngbannidbijmaaGOnly
import Derived.Deep.AppendLies
namespace Go.Proofs.Ytngbannidbijmaa
open Go.RowKit
set_option linter.unusedVariables false

/-- a kind of elements: the slice's type, the element's, its cells and bytes -/
structure El (α : Type) where
  t : TypeId
  e : TypeId
  c : Nat
  bytes : Nat
  z : Value
  cells : α → List Value
structure El.Ok {α : Type} (E : El α) : Prop where
  ht : Try.prog.underlying E.t = some (.slice E.e)
  info : (Try.prog.info? E.e).map (fun i => (i.zero, i.size, i.bytes)) = some (some E.z, E.c, E.bytes)
  zs : E.z.cells.size = E.c
  c0 : 0 < E.c
  len : ∀ x, (E.cells x).length = E.c
  one : ∀ x, ∀ v ∈ E.cells x, v.oneCell' = true
  b : E.bytes ≤ 128
def El.flat {α : Type} (E : El α) (xs : List α) : List Value := xs.flatMap E.cells
section
variable {α : Type} {E : El α}
theorem El.Ok.flat_len (k : E.Ok) (xs : List α) : (E.flat xs).length = xs.length * E.c := by
  induction xs with
  | nil => simp [El.flat]
  | cons x xs ih => rw [El.flat, List.flatMap_cons, List.length_append]; change _ + (E.flat xs).length = _; rw [ih, k.len, List.length_cons, Nat.add_mul]; omega
theorem El.flat_app (xs ys : List α) : E.flat (xs ++ ys) = E.flat xs ++ E.flat ys := by simp [El.flat]
theorem El.Ok.flat_one (k : E.Ok) (xs : List α) : ∀ u ∈ E.flat xs, u.oneCell' = true := by
  intro u hu
  obtain ⟨x, _, h⟩ := List.mem_flatMap.1 hu
  exact k.one x u h
theorem El.Ok.flat_get (k : E.Ok) (xs : List α) : ∀ i x, xs[i]? = some x → ∀ j, j < E.c → (E.flat xs)[i * E.c + j]? = (E.cells x)[j]? := by
  induction xs with
  | nil => intro i x h; simp at h
  | cons y ys ih =>
    intro i x h j hj
    rw [El.flat, List.flatMap_cons]
    change (E.cells y ++ E.flat ys)[_]? = _
    cases i with
    | zero =>
      simp at h
      subst h
      rw [List.getElem?_append_left (by rw [k.len]; omega)]; simp
    | succ i =>
      rw [List.getElem?_append_right (by rw [k.len, Nat.add_mul]; omega), show (i + 1) * E.c + j - (E.cells y).length = i * E.c + j by rw [k.len, Nat.add_mul]; omega]
      exact ih i x (by simpa using h) j hj
theorem El.Ok.flat_set (k : E.Ok) (xs : List α) : ∀ i x, i < xs.length → (E.flat xs).take (i * E.c) ++ E.cells x ++ (E.flat xs).drop (i * E.c + E.c) = E.flat (xs.set i x) := by
  induction xs with
  | nil => intro i x h; simp at h
  | cons y ys ih =>
    intro i x h
    have e1 : E.flat (y :: ys) = E.cells y ++ E.flat ys := rfl
    cases i with
    | zero =>
      rw [List.set_cons_zero, e1, show E.flat (x :: ys) = E.cells x ++ E.flat ys from rfl]
      rw [Nat.zero_mul, List.take_zero, List.nil_append, Nat.zero_add, List.drop_append, List.drop_of_length_le (by rw [k.len]; omega), k.len, Nat.sub_self, List.drop_zero, List.nil_append]
    | succ i =>
      rw [List.set_cons_succ, show E.flat (y :: ys.set i x) = E.cells y ++ E.flat (ys.set i x) from rfl, ← ih i x (by simpa using h), e1]
      rw [List.take_append, List.drop_append, List.take_of_length_le (by rw [k.len, Nat.add_mul]; omega), List.drop_of_length_le (by rw [k.len, Nat.add_mul]; omega), k.len, show (i + 1) * E.c - E.c = i * E.c by rw [Nat.add_mul]; omega, show (i + 1) * E.c + E.c - E.c = i * E.c + E.c by rw [Nat.add_mul]; omega]
      simp
/-- a row that the call made -/
def Own (E : El α) (B : Nat) (w : World) (v : Value) (xs : List α) : Prop := w.ownsRow B E.e E.c v xs.length (E.flat xs)
/-- v reads as these -/
def Rdx (E : El α) (w : World) (v : Value) (xs : List α) : Prop := ∃ a cap, v = .slice a xs.length cap ∧ xs.length ≤ cap ∧ cap ≤ maxLen ∧ (xs = [] ∨ ∃ b off, a = some ⟨b, off, none⟩ ∧ b < w.heap.size ∧ ∀ j u, (E.flat xs)[j]? = some u → w.cell? ⟨b, off + j, none⟩ = some u)
section
variable {B : Nat} {w w' : World} {v : Value} {xs : List α}
theorem Own.rd (h : Own E B w v xs) : Rdx E w v xs := by
  have hl := World.ownsRow.lt h
  rcases h.2 with ⟨rfl, h0⟩ | ⟨g, cap, cur, rfl, h1, h2, h3, h4, h5, h6⟩
  · have : xs = [] := List.length_eq_zero_iff.1 h0
    subst this
    exact ⟨none, 0, rfl, Nat.le_refl _, Nat.zero_le _, Or.inl rfl⟩
  · refine ⟨_, cap, rfl, h3, h4, Or.inr ⟨g, 0, rfl, (hl g rfl).2, fun j u hj => ?_⟩⟩
    have := World.ownsRow.cells h (g := g) rfl j u hj
    rwa [Addr.add_lit] at this
theorem Rdx.only (h : Rdx E w v xs) {S : List Nat} (o : Only S w w') (hS : ∀ g, v.ownBlock = some g → g ∉ S) : Rdx E w' v xs := by
  obtain ⟨a, cap, rfl, h1, h2, h⟩ := h
  refine ⟨a, cap, rfl, h1, h2, ?_⟩
  rcases h with h | ⟨b, off, rfl, hb, hc⟩
  · exact Or.inl h
  · exact Or.inr ⟨b, off, rfl, Nat.lt_of_lt_of_le hb o.size, fun j u hj => by rw [o.cell (p := ⟨b, off + j, none⟩) hb (hS b rfl)]; exact hc j u hj⟩
theorem Own.only (h : Own E B w v xs) {S : List Nat} (o : Only S w w') (hS : ∀ g, v.ownBlock = some g → g ∉ S) : Own E B w' v xs := own_only h o hS
theorem Own.nil (E : El α) (B : Nat) (w : World) : Own E B w (.slice none 0 0) [] := World.ownsRow_nil _ _ _ _
theorem Own.lt (h : Own E B w v xs) : ∀ g, v.ownBlock = some g → B ≤ g ∧ g < w.heap.size := World.ownsRow.lt h
theorem Own.form (h : Own E B w v xs) : ∃ a cap, v = .slice a xs.length cap ∧ xs.length ≤ cap ∧ cap ≤ 9223372036854775807 := by
  rcases h.2 with ⟨rfl, h0⟩ | ⟨g, cap, cur, rfl, h1, h2, h3, h4, h5, h6⟩
  · exact ⟨none, 0, by rw [h0], by omega, by omega⟩
  · exact ⟨_, cap, rfl, h3, by unfold maxLen at h4; omega⟩
theorem Own.lower (h : Own E B w v xs) {B' : Nat} (hb : B' ≤ B) : Own E B' w v xs := by
  obtain ⟨h1, h2⟩ := h
  refine ⟨h1, ?_⟩
  rcases h2 with h2 | ⟨g, cap, cur, hv, hg, r⟩
  · exact Or.inl h2
  · exact Or.inr ⟨g, cap, cur, hv, Nat.le_trans hb hg, r⟩
theorem Own.empty (E : El α) (B : Nat) (w : World) (hB : B ≤ w.heap.size) : Own E B (w.alloc (.cells #[] E.e)) (.slice (some ⟨w.heap.size, 0, none⟩) 0 0) [] :=
  World.ownsRow_made _ _ _ hB (Nat.zero_le _) (by simp)
/-- just laid -/
theorem Own.new (k : E.Ok) (xs : List α) (hl : xs.length ≤ 1000000000000) (w : World) (hB : B ≤ w.heap.size) : Own E B (w.alloc (.cells (E.flat xs).toArray E.e)) (.slice (some ⟨w.heap.size, 0, none⟩) xs.length xs.length) xs := by
  refine ⟨k.flat_len xs, Or.inr ⟨w.heap.size, xs.length, (E.flat xs).toArray, rfl, hB, ?_, Nat.le_refl _, by unfold maxLen; omega, by rw [List.size_toArray, k.flat_len], ?_⟩⟩
  · show (w.heap.push _)[w.heap.size]? = _; simp
  · rw [← k.flat_len]; simp
/-- one of them is turned -/
theorem Own.blk (h : Own E B w v xs) {i : Nat} (hi : i < xs.length) : ∃ g cap cs, v = .slice (some ⟨g, 0, none⟩) xs.length cap ∧ B ≤ g ∧ Blk w g cs ∧ xs.length ≤ cap ∧ cap ≤ maxLen ∧ cs.length = cap * E.c ∧ cs.take (xs.length * E.c) = E.flat xs := by
  rcases h.2 with ⟨_, h0⟩ | ⟨g, cap, cur, rfl, h1, h2, h3, h4, h5, h6⟩
  · omega
  · exact ⟨g, cap, cur.toList, rfl, h1, ⟨_, h2⟩, h3, h4, by simpa using h5, by simpa using h6⟩
end
theorem infoE {P : Program} {e : TypeId} {z : Value} {c bytes : Nat} (h : (P.info? e).map (fun i => (i.zero, i.size, i.bytes)) = some (some z, c, bytes)) : ∃ i, P.info? e = some i ∧ i.zero = some z ∧ i.size = c ∧ i.bytes = bytes := by
  cases hi : P.info? e with
  | none => rw [hi] at h; simp at h
  | some i => rw [hi] at h; simp at h; exact ⟨i, rfl, h.1, h.2.1, h.2.2⟩
/-- what an 'append' leaves -/
structure AppG (E : El α) (B : Nat) (w : World) (v : Value) (w' : World) (v' : Value) (xs : List α) : Prop where
  row : Own E B w' v' xs
  only : Only v.ownBlock.toList w w'
  at_ : v'.ownBlock = v.ownBlock ∨ v'.ownBlock = some w.heap.size
theorem run_app_g (k : E.Ok) {w : World} {B : Nat} {v s : Value} {xs ys : List α} (h : Own E B w v xs) (r : Rdx E w s ys) (hl : xs.length + ys.length ≤ 1000000000000) (hB : B ≤ w.heap.size) (ty : TypeId) :
    ∃ v' w', (Builtin.append_ #[E.t, E.t] ty #[v, s]).run Try.prog w = .ok v' w' ∧ AppG E B w v w' v' (xs ++ ys) := by
  obtain ⟨i0, hi, hz0, hz1, hz2⟩ := infoE k.info
  obtain ⟨a, cap, rfl, _, _, r⟩ := r
  have c0 := k.c0
  have key : ∀ p : Addr, (∀ j u, (E.flat ys)[j]? = some u → w.cell? (p.add j) = some u) → ∃ v' w', (Builtin.append_ #[E.t, E.t] ty #[v, .slice (some p) ys.length cap]).run Try.prog w = .ok v' w' ∧ AppG E B w v w' v' (xs ++ ys) := fun p hc => by
    have hbytes : (xs.length + ys.length) * E.bytes ≤ 140737488355328 := by
      have := Nat.mul_le_mul hl k.b
      omega
    obtain ⟨v', w', hr, k1, k2, _, k3⟩ := run_append_own_at (P := Try.prog) (w := w) B E.t ty E.e i0 E.z E.c E.bytes k.ht hi hz0 hz1 hz2 k.zs c0 v xs.length (E.flat xs) h p ys.length cap (E.flat ys) (k.flat_len ys)
      hc (k.flat_one ys) (by unfold maxLen; omega) hbytes hB
    refine ⟨v', w', hr, ?_, grown_only k2, k3⟩
    unfold Own
    rw [List.length_append, El.flat_app]
    exact k1
  rcases r with rfl | ⟨b, off, rfl, hb, hc⟩
  · cases a with
    | some p => exact key p (fun j u hj => by simp [El.flat] at hj)
    | none =>
    refine ⟨v, w, ?_, by simpa using h, Only.refl _ _, Or.inl rfl⟩
    rcases h.2 with ⟨rfl, hn⟩ | ⟨g, cap, cur, rfl, _, _, hnc, _⟩
    · simp [Builtin.append_, run_underlying k.ht, sizeOf, typeInfo, hi, Builtin.lenOf, Builtin.firstCells]
    · simp [Builtin.append_, run_underlying k.ht, sizeOf, typeInfo, hi, Builtin.lenOf, Builtin.firstCells, hnc, storeCells]
  · exact key _ (fun j u hj => by rw [Addr.add_lit]; exact hc j u hj)
/-- the law, at an operation without a guard -/
theorem app_g (k : E.Ok) {w : World} {ops : Array Oper} {rest : List Oper} {o : Oper} {act : Act} {Q : Exit → Act → World → Prop} {B : Nat} {v s : Value} {xs ys : List α} (hgd : o.guard = none) (x y : Operand)
    (ho : o.op = .call { callee := .builtin .append, args := #[x, y], argTypes := #[E.t, E.t] }) (hx : act.eval x = v) (hy : act.eval y = s) (h : Own E B w v xs) (r : Rdx E w s ys) (hl : xs.length + ys.length ≤ 1000000000000) (hB : B ≤ w.heap.size)
    (K : ∀ v' w', AppG E B w v w' v' (xs ++ ys) → wpList Try.prog ops Q rest (act.put o.dst v') w') : wpList Try.prog ops Q (o :: rest) act w := by
  obtain ⟨v', w', hr, h2⟩ := run_app_g k h r hl hB o.type
  refine wpList_plain hgd fun K' hK => ?_
  unfold Oper.wp
  simp only [execOp, ho, resolve, invoke, builtin, Sem.run_bind, Sem.run_pure, Result.andThen_ok, List.map_toArray, List.map_cons, List.map_nil, hx, hy, hr]
  exact hK _ _ (K v' w' h2)
/-- some just laid in a block of their own, as a slice -/
theorem rdx_new (k : E.Ok) (w : World) (l : List α) (hl : l.length ≤ maxLen) : Rdx E (w.alloc (.cells (E.flat l).toArray E.e)) (.slice (some ⟨w.heap.size, 0, none⟩) l.length l.length) l := by
  refine ⟨_, l.length, rfl, Nat.le_refl _, hl, Or.inr ⟨w.heap.size, 0, rfl, by simp, fun j u hj => ?_⟩⟩
  rw [Nat.zero_add, (Blk.new w (E.flat l).toArray _).cell j]
  exact hj
/-- .. as an element is read -/
theorem Rdx.rdg (k : E.Ok) {β : Type} {R : Rdr β} {f : α → β} {w : World} {v : Value} {xs : List α} {K : Nat} (h : Rdx E w v xs) (hK : ∀ g, v.ownBlock = some g → g < K) (hR : ∀ x ∈ xs, R K w (E.cells x) (f x)) : RdG E.c R K w v (xs.map f) := by
  obtain ⟨a, cap, rfl, h1, h2, h⟩ := h
  refine ⟨a, cap, by rw [List.length_map], by rw [List.length_map]; exact h1, by unfold maxLen at h2; omega, ?_⟩
  rcases h with rfl | ⟨b, off, rfl, hb, hc⟩
  · exact Or.inl rfl
  · refine Or.inr ⟨b, off, rfl, hK b rfl, hb, fun i y hy => ?_⟩
    rw [List.getElem?_map] at hy
    cases hx : xs[i]? with
    | none => rw [hx] at hy; simp at hy
    | some x =>
      rw [hx] at hy
      simp at hy
      subst hy
      refine ⟨E.cells x, hR x (List.mem_of_getElem? hx), k.len x, fun j hj => ?_⟩
      have e := k.flat_get xs i x hx j hj
      have hl : j < (E.cells x).length := by rw [k.len]; exact hj
      rw [List.getElem?_eq_getElem hl] at e ⊢
      exact hc _ _ e
/-- elements of whatever kind may be appended, if they read so cell by cell -/
theorem RdG.rdx {R : Rdr α} {B : Nat} {w : World} {v : Value} {xs : List α} (k : E.Ok) (h : RdG E.c R B w v xs) (hR : ∀ x cs, x ∈ xs → R B w cs x → cs = E.cells x) : Rdx E w v xs := by
  obtain ⟨a, cap, rfl, h1, h2, h⟩ := h
  rcases h with h | ⟨b, off, rfl, hB, hb, hc⟩
  · exact ⟨a, cap, rfl, h1, by unfold maxLen; omega, Or.inl h⟩
  · refine ⟨_, cap, rfl, h1, by unfold maxLen; omega, Or.inr ⟨b, off, rfl, hb, fun j u hj => ?_⟩⟩
    have hj' := (List.getElem?_eq_some_iff.1 hj).1
    rw [k.flat_len] at hj'
    have hi : j / E.c < xs.length := by rw [Nat.div_lt_iff_lt_mul k.c0]; exact hj'
    obtain ⟨cs, q1, q2, q3⟩ := hc (j / E.c) _ (List.getElem?_eq_getElem hi)
    have hm : j % E.c < E.c := Nat.mod_lt _ k.c0
    have e := k.flat_get xs (j / E.c) _ (List.getElem?_eq_getElem hi) (j % E.c) hm
    have hd : j / E.c * E.c + j % E.c = j := by rw [Nat.mul_comm]; exact Nat.div_add_mod j E.c
    have q := q3 (j % E.c) hm
    rw [hR _ cs (List.getElem_mem hi) q1] at q
    rw [hd] at e q
    rw [q, ← e, hj]
end
end Go.Proofs.Ytngbannidbijmaa

/- Rows of bodies: of the call's own; as they are read; 'append' of them. -/
import Derived.Test.YtngbannidbijmaaBodyA
import Derived.Deep.AppendLies
namespace Go.Proofs.Ytngbannidbijmaa
open Go.RowKit
set_option linter.unusedVariables false

def flatB (xs : List Bd) : List Value := xs.flatMap Bd.cells
theorem flatB_len (xs : List Bd) : (flatB xs).length = xs.length * 12 := by
  induction xs with
  | nil => rfl
  | cons x xs ih => rw [flatB, List.flatMap_cons, List.length_append]; change _ + (flatB xs).length = _; rw [ih]; simp [Bd.cells]; omega
theorem flatB_app (xs ys : List Bd) : flatB (xs ++ ys) = flatB xs ++ flatB ys := by simp [flatB]
theorem flatB_one (xs : List Bd) : ∀ u ∈ flatB xs, u.oneCell' = true := by
  intro u hu
  obtain ⟨x, _, h⟩ := List.mem_flatMap.1 hu
  simp only [Bd.cells, List.mem_cons, List.not_mem_nil, or_false] at h
  rcases h with rfl | rfl | rfl | rfl | rfl | rfl | rfl | rfl | rfl | rfl | rfl | rfl <;> rfl
/-- a row of bodies that the call made -/
def SR (B : Nat) (w : World) (v : Value) (xs : List Bd) : Prop := w.ownsRow B 33 12 v xs.length (flatB xs)
/-- v reads as these bodies -/
def RdS (w : World) (v : Value) (xs : List Bd) : Prop := ∃ a cap, v = .slice a xs.length cap ∧ xs.length ≤ cap ∧ cap ≤ maxLen ∧ ((a = none ∧ xs = []) ∨ ∃ b off, a = some ⟨b, off, none⟩ ∧ b < w.heap.size ∧ ∀ j u, (flatB xs)[j]? = some u → w.cell? ⟨b, off + j, none⟩ = some u)
theorem SR.rd {B : Nat} {w : World} {v : Value} {xs : List Bd} (h : SR B w v xs) : RdS w v xs := by
  have hl := World.ownsRow.lt h
  rcases h.2 with ⟨rfl, h0⟩ | ⟨g, cap, cur, rfl, h1, h2, h3, h4, h5, h6⟩
  · have : xs = [] := List.length_eq_zero_iff.1 h0
    subst this
    exact ⟨none, 0, rfl, Nat.le_refl _, Nat.zero_le _, Or.inl ⟨rfl, rfl⟩⟩
  · refine ⟨_, cap, rfl, h3, h4, Or.inr ⟨g, 0, rfl, (hl g rfl).2, fun j u hj => ?_⟩⟩
    have := World.ownsRow.cells h (g := g) rfl j u hj
    rwa [Addr.add_lit] at this
theorem RdS.only {w w' : World} {v : Value} {xs : List Bd} {S : List Nat} (h : RdS w v xs) (o : Only S w w') (hS : ∀ g, v.ownBlock = some g → g ∉ S) : RdS w' v xs := by
  obtain ⟨a, cap, rfl, h1, h2, h⟩ := h
  refine ⟨a, cap, rfl, h1, h2, ?_⟩
  rcases h with h | ⟨b, off, rfl, hb, hc⟩
  · exact Or.inl h
  · exact Or.inr ⟨b, off, rfl, Nat.lt_of_lt_of_le hb o.size, fun j u hj => by rw [o.cell (p := ⟨b, off + j, none⟩) hb (hS b rfl)]; exact hc j u hj⟩
theorem SR.only {B : Nat} {w w' : World} {v : Value} {xs : List Bd} {S : List Nat} (h : SR B w v xs) (o : Only S w w') (hS : ∀ g, v.ownBlock = some g → g ∉ S) : SR B w' v xs := own_only h o hS
theorem SR.nil (B : Nat) (w : World) : SR B w (.slice none 0 0) [] := World.ownsRow_nil _ _ _ _
theorem SR.lt {B : Nat} {w : World} {v : Value} {xs : List Bd} (h : SR B w v xs) : ∀ g, v.ownBlock = some g → B ≤ g ∧ g < w.heap.size := World.ownsRow.lt h
theorem SR.form {B : Nat} {w : World} {v : Value} {xs : List Bd} (h : SR B w v xs) : ∃ a cap, v = .slice a xs.length cap ∧ xs.length ≤ 9223372036854775807 := by
  rcases h.2 with ⟨rfl, h0⟩ | ⟨g, cap, cur, rfl, h1, h2, h3, h4, h5, h6⟩
  · exact ⟨none, 0, by rw [h0], by omega⟩
  · exact ⟨_, cap, rfl, by unfold maxLen at h4; omega⟩
theorem SR.form2 {B : Nat} {w : World} {v : Value} {xs : List Bd} (h : SR B w v xs) : ∃ a n cap, v = .slice a n cap := by
  obtain ⟨a, cap, h, _⟩ := h.form
  exact ⟨a, _, cap, h⟩
theorem SR.lower {B B' : Nat} {w : World} {v : Value} {xs : List Bd} (h : SR B w v xs) (hb : B' ≤ B) : SR B' w v xs := by
  obtain ⟨h1, h2⟩ := h
  refine ⟨h1, ?_⟩
  rcases h2 with h2 | ⟨g, cap, cur, hv, hg, r⟩
  · exact Or.inl h2
  · exact Or.inr ⟨g, cap, cur, hv, Nat.le_trans hb hg, r⟩
theorem SR.empty (B : Nat) (w : World) (hB : B ≤ w.heap.size) : SR B (w.alloc (.cells #[] 33)) (.slice (some ⟨w.heap.size, 0, none⟩) 0 0) [] :=
  World.ownsRow_made _ _ _ hB (Nat.zero_le _) rfl
theorem info_body : (Try.prog.info? 33).map (fun i => (i.zero, i.size, i.bytes)) = some (some Body.zero.v, 12, 96) := by kernel_rfl
theorem info3 {P : Program} {e : TypeId} {z : Value} {c bytes : Nat} (h : (P.info? e).map (fun i => (i.zero, i.size, i.bytes)) = some (some z, c, bytes)) : ∃ i, P.info? e = some i ∧ i.zero = some z ∧ i.size = c ∧ i.bytes = bytes := by
  cases hi : P.info? e with
  | none => rw [hi] at h; simp at h
  | some i => rw [hi] at h; simp at h; exact ⟨i, rfl, h.1, h.2.1, h.2.2⟩

/-- what an 'append' of bodies leaves -/
structure AppS (B : Nat) (w : World) (v : Value) (w' : World) (v' : Value) (xs : List Bd) : Prop where
  row : SR B w' v' xs
  only : Only v.ownBlock.toList w w'
  at_ : v'.ownBlock = v.ownBlock ∨ v'.ownBlock = some w.heap.size
theorem run_app_s {w : World} {B : Nat} {v s : Value} {xs ys : List Bd} (h : SR B w v xs) (r : RdS w s ys) (hl : xs.length + ys.length ≤ 1000000000000) (hB : B ≤ w.heap.size) (ty : TypeId) :
    ∃ v' w', (Builtin.append_ #[70, 70] ty #[v, s]).run Try.prog w = .ok v' w' ∧ AppS B w v w' v' (xs ++ ys) := by
  obtain ⟨i0, hi, hz0, hz1, hz2⟩ := info3 info_body
  obtain ⟨a, cap, rfl, _, _, r⟩ := r
  rcases r with ⟨rfl, rfl⟩ | ⟨b, off, rfl, hb, hc⟩
  · refine ⟨v, w, ?_, by simpa using h, Only.refl _ _, Or.inl rfl⟩
    rcases h.2 with ⟨rfl, hn⟩ | ⟨g, cap, cur, rfl, _, _, hnc, _⟩
    · simp [Builtin.append_, run_underlying Try.underlying70, sizeOf, typeInfo, hi, Builtin.lenOf, Builtin.firstCells]
    · simp [Builtin.append_, run_underlying Try.underlying70, sizeOf, typeInfo, hi, Builtin.lenOf, Builtin.firstCells, hnc, storeCells]
  · obtain ⟨v', w', hr, k1, k2, _, k3⟩ := run_append_own_at (P := Try.prog) (w := w) B 70 ty 33 i0 Body.zero.v 12 96 Try.underlying70 hi hz0 hz1 hz2 rfl (by decide) v xs.length (flatB xs) h ⟨b, off, none⟩ ys.length cap (flatB ys) (flatB_len ys)
      (fun j u hj => by rw [Addr.add_lit]; exact hc j u hj) (flatB_one ys) (by unfold maxLen; omega) (by omega) hB
    refine ⟨v', w', hr, ?_, grown_only k2, k3⟩
    unfold SR
    rw [List.length_append, flatB_app]
    exact k1
/-- there is room: it is laid where the row lies -/
theorem run_app_in {w : World} {B g n cap : Nat} {s : Value} {xs ys : List Bd} (h : SR B w (.slice (some ⟨g, 0, none⟩) n cap) xs) (r : RdS w s ys) (h0 : ys ≠ []) (hroom : n + ys.length ≤ cap) (hl : xs.length + ys.length ≤ 1000000000000) (hB : B ≤ w.heap.size) (ty : TypeId) :
    ∃ w', (Builtin.append_ #[70, 70] ty #[.slice (some ⟨g, 0, none⟩) n cap, s]).run Try.prog w = .ok (.slice (some ⟨g, 0, none⟩) (n + ys.length) cap) w' ∧ SR B w' (.slice (some ⟨g, 0, none⟩) (n + ys.length) cap) (xs ++ ys) ∧ Only [g] w w' := by
  obtain ⟨v', w', hr, k⟩ := run_app_s h r hl hB ty
  obtain ⟨i0, hi, hz0, hz1, hz2⟩ := info3 info_body
  rcases h.2 with ⟨e, _⟩ | ⟨g', cap', cur, e, h1, h2, h3, h4, h5, h6⟩
  · cases e
  injection e with e1 e2 e3
  injection e1 with e1
  injection e1 with e1
  subst e1 e2 e3
  obtain ⟨a, scap, rfl, _, _, r⟩ := r
  rcases r with ⟨rfl, rfl⟩ | ⟨b, off, rfl, hb, hc⟩
  · exact absurd rfl h0
  have hfl := flatB_len ys
  have hr2 := run_append_room (P := Try.prog) w 70 ty 33 i0 Try.underlying70 hi g xs.length cap cur h2 ⟨b, off, none⟩ ys.length scap (flatB ys) (by rw [hfl, hz1]) (fun j u hj => by rw [Addr.add_lit]; exact hc j u hj) (flatB_one ys) hroom (by rw [hfl, hz1, h5]; omega)
  rw [hr] at hr2
  injection hr2 with e1 e2
  subst e1
  exact ⟨w', hr, k.row, k.only⟩
/-- there is none: it is laid anew -/
theorem run_app_new {w : World} {B : Nat} {v s : Value} {xs ys : List Bd} (h : SR B w v xs) (r : RdS w s ys) (h0 : ys ≠ []) (hno : ∀ g n cap, v = .slice (some g) n cap → ¬ n + ys.length ≤ cap) (hl : xs.length + ys.length ≤ 1000000000000) (hB : B ≤ w.heap.size) (ty : TypeId) :
    ∃ v' w', (Builtin.append_ #[70, 70] ty #[v, s]).run Try.prog w = .ok v' w' ∧ SR B w' v' (xs ++ ys) ∧ Only [] w w' ∧ v'.ownBlock = some w.heap.size := by
  obtain ⟨v', w', hr, k⟩ := run_app_s h r hl hB ty
  obtain ⟨i0, hi, hz0, hz1, hz2⟩ := info3 info_body
  refine ⟨v', w', hr, k.row, ?_⟩
  obtain ⟨a, scap, rfl, _, _, r⟩ := r
  rcases r with ⟨rfl, rfl⟩ | ⟨b, off, rfl, hb, hc⟩
  · exact absurd rfl h0
  have hfl := flatB_len ys
  have hys : 0 < ys.length := List.length_pos_iff.2 h0
  rcases h.2 with ⟨rfl, hn⟩ | ⟨g, cap, cur, rfl, h1, h2, h3, h4, h5, h6⟩
  · have hr2 := run_append_nil (P := Try.prog) w 70 ty 33 i0 Body.zero.v Try.underlying70 hi hz0 ⟨b, off, none⟩ ys.length scap (flatB ys) (by rw [hfl, hz1]) (fun j u hj => by rw [Addr.add_lit]; exact hc j u hj) hys (by omega) (by rw [hz2]; omega)
    rw [hr] at hr2
    injection hr2 with e1 e2
    rw [e1, e2]
    exact ⟨(only_drew w).alloc _, rfl⟩
  · have hl2 := h.1
    have holds : ∀ j u, (flatB xs)[j]? = some u → w.cell? ((⟨g, 0, none⟩ : Addr).add j) = some u := World.ownsRow.cells h (g := g) rfl
    have hr2 := run_append_grow (P := Try.prog) w 70 ty 33 i0 Body.zero.v Try.underlying70 hi hz0 ⟨g, 0, none⟩ xs.length cap (flatB xs) (by rw [hl2, hz1]) holds ⟨b, off, none⟩ ys.length scap (flatB ys) (by rw [hfl, hz1]) (fun j u hj => by rw [Addr.add_lit]; exact hc j u hj) (by have := hno _ _ _ rfl; omega) (by omega) (by rw [hz2]; exact growslice_fits (by have := hno _ _ _ rfl; omega) (by omega))
    rw [hr] at hr2
    injection hr2 with e1 e2
    rw [e1, e2]
    exact ⟨(only_drew w).alloc _, rfl⟩
/-- the law, at an operation without a guard -/
theorem app_s {w : World} {ops : Array Oper} {rest : List Oper} {o : Oper} {act : Act} {Q : Exit → Act → World → Prop} {B : Nat} {v s : Value} {xs ys : List Bd} (hgd : o.guard = none) (x y : Operand)
    (ho : o.op = .call { callee := .builtin .append, args := #[x, y], argTypes := #[70, 70] }) (hx : act.eval x = v) (hy : act.eval y = s) (h : SR B w v xs) (r : RdS w s ys) (hl : xs.length + ys.length ≤ 1000000000000) (hB : B ≤ w.heap.size)
    (k : ∀ v' w', AppS B w v w' v' (xs ++ ys) → wpList Try.prog ops Q rest (act.put o.dst v') w') : wpList Try.prog ops Q (o :: rest) act w := by
  obtain ⟨v', w', hr, h2⟩ := run_app_s h r hl hB o.type
  refine wpList_plain hgd fun K hK => ?_
  unfold Oper.wp
  simp only [execOp, ho, resolve, invoke, builtin, Sem.run_bind, Sem.run_pure, Result.andThen_ok, List.map_toArray, List.map_cons, List.map_nil, hx, hy, hr]
  exact hK _ _ (k v' w' h2)
/-- one body just laid in a block of its own, as a slice -/
theorem rds_one {w : World} {p : Nat} {b : Bd} (h : Bl w p b) : RdS w (.slice (some ⟨p, 0, none⟩) 1 1) [b] := by
  refine ⟨_, 1, rfl, Nat.le_refl _, by unfold maxLen; omega, Or.inr ⟨p, 0, rfl, h.lt, fun j u hj => ?_⟩⟩
  rw [Nat.zero_add, h.blk.cell j, ← hj]
  simp [flatB]
end Go.Proofs.Ytngbannidbijmaa

/- WindowOrders: what is known of memory, loop by loop. -/
import Derived.Test.YtfikpkoocbiinaaWinK
import Derived.Test.YtfikpkoocbiinaaWinSet
import Derived.Test.YtfikpkoocbiinaaBlk
import Derived.Test.YtfikpkoocbiinaaApp
import Derived.Test.YtfikpkoocbiinaaPick
import Derived.Test.YtfikpkoocbiinaaFrame
import Derived.Deep.LoopGhost
import Derived.Deep.DeepCutAuto
import Derived.Deep.CutBlock
import Derived.Deep.RegionHeld3
import Derived.Deep.DrawnRows
namespace Go.Proofs.Ytfikpkoocbiinaa.windowOrders
open Go.ChangeShapes Go.WideShapes Go.ChangeAt Go.RowKit
set_option linter.unusedVariables false

theorem info_int : (Try.prog.info? 3).map (fun i => (i.zero, i.size, i.bytes)) = some (some (.int .i64 0), 1, 8) := by kernel_rfl
def vals (b : Int) (ks : List Nat) : List Value := ks.map fun (k : Nat) => Value.int .i64 (b + k)
def hadL (ks : List Nat) : List Value := (List.range 60).map fun k => .bool (decide (k ∈ ks))
theorem _root_.Go.Proofs.Ytfikpkoocbiinaa.Only.trans' {S S' : List Nat} {a b c : World} (h : Only S a b) (k : Only S' b c) : Only (S ++ S') a c :=
  (h.weaken (by simp; intro k hk _; exact Or.inl hk)).trans (k.weaken (by simp; intro k hk _; exact Or.inr hk))
/-- while the numbers are drawn -/
structure L1 (w : World) (b : Int) (A B D : Nat) (y : World) (va : Value) (ks : List Nat) : Prop where
  wa : Wn y A Win.none
  wb : Wn y B Win.none
  had : Blk y D (hadL ks)
  row : y.ownsRow w.heap.size 3 1 va ks.length (vals b ks)
  na : va.ownBlock ≠ some A
  nb : va.ownBlock ≠ some B
  nd : va.ownBlock ≠ some D
  only : Only [] w y
  nodup : ks.Nodup
  lt : ∀ k ∈ ks, k < 60

theorem vals_len (b : Int) (ks : List Nat) : (vals b ks).length = ks.length := by simp [vals]
theorem vals_app (b : Int) (ks : List Nat) (k : Nat) : vals b (ks ++ [k]) = vals b ks ++ [.int .i64 (b + k)] := by simp [vals]
theorem hadL_get (ks : List Nat) {k : Nat} (h : k < 60) : (hadL ks)[k]? = some (.bool (decide (k ∈ ks))) := by
  unfold hadL; rw [List.getElem?_map, List.getElem?_range h]; rfl
theorem hadL_put (ks : List Nat) (k : Nat) (h : k < 60) : (hadL ks).set k (.bool true) = hadL (ks ++ [k]) := by
  apply List.ext_getElem?
  intro i
  rw [List.getElem?_set]
  have hl : (hadL ks).length = 60 := by simp [hadL]
  rcases Nat.lt_or_ge i 60 with g | g
  · rw [hadL_get _ g, hadL_get _ g, hl]
    by_cases e : k = i
    · subst e
      rw [if_pos rfl, if_pos h, decide_eq_true (by simp)]
    · rw [if_neg e]
      congr 2
      rw [decide_eq_decide]
      simp only [List.mem_append, List.mem_singleton]
      exact ⟨Or.inl, fun h => h.elim id fun h => absurd h.symm e⟩
  · rw [if_neg (by omega), List.getElem?_eq_none (by omega), List.getElem?_eq_none (by simp [hadL]; omega)]
section
variable {w y z : World} {b : Int} {A B D : Nat} {va va' : Value} {ks : List Nat}
theorem L1.rowPut (h : L1 w b A B D y va ks) (k : Nat) (u : Value) : (y.setCell ⟨D, k, none⟩ u).ownsRow w.heap.size 3 1 va ks.length (vals b ks) :=
  own_only h.row ((Only.refl [D] y).setCell (by simp) _) fun g hg => by
    have := h.nd
    simp only [List.mem_singleton]
    exact fun e => this (e ▸ hg)
theorem L1.next (h : L1 w b A B D y va ks) {k : Nat} (hk : k < 60) (hn : k ∉ ks) (dA : A ≠ D) (dB : B ≠ D) (wD : w.heap.size ≤ D)
    (h1 : z.ownsRow w.heap.size 3 1 va' (ks.length + 1) (vals b ks ++ [.int .i64 (b + k)])) (h2 : (y.setCell ⟨D, k, none⟩ (.bool true)).grownBy z va.ownBlock)
    (h3 : va'.ownBlock = va.ownBlock ∨ va'.ownBlock = some ((y.setCell ⟨D, k, none⟩ (.bool true)).heap.size + 1)) : L1 w b A B D z va' (ks ++ [k]) := by
  have o1 : Only [D] y (y.setCell ⟨D, k, none⟩ (.bool true)) := (Only.refl _ _).setCell (by simp) _
  have s1 : (y.setCell ⟨D, k, none⟩ (.bool true)).heap.size = y.heap.size := by simp [World.setCell]
  have o2 := grown_only h2
  have ne : ∀ x, x < y.heap.size → va.ownBlock ≠ some x → va'.ownBlock ≠ some x := fun x hx hv e => by
    rcases h3 with h3 | h3
    · exact hv (h3 ▸ e)
    · rw [h3, s1] at e; injection e with e; omega
  have nin : ∀ x, va.ownBlock ≠ some x → x ∉ va.ownBlock.toList := fun x hv => by simpa [Option.mem_toList] using hv
  have lA := h.wa.three.lt
  have lB := h.wb.three.lt
  have lD := h.had.lt
  refine ⟨(h.wa.only o1 (by simpa using dA)).only o2 (nin _ h.na), (h.wb.only o1 (by simpa using dB)).only o2 (nin _ h.nb), ?_, ?_, ne _ lA h.na, ne _ lB h.nb, ne _ lD h.nd, ?_, ?_, ?_⟩
  · rw [← hadL_put _ _ hk]
    exact (h.had.set k _).only o2 (nin _ h.nd)
  · rw [vals_app, List.length_append, List.length_singleton]; exact h1
  · refine h.only.then (o1.trans' o2) ?_
    intro x hx hl
    rcases List.mem_append.1 hx with hx | hx
    · simp at hx; omega
    · have hx : va.ownBlock = some x := by simpa [Option.mem_toList] using hx
      have := (World.ownsRow.lt h.row x hx).1
      omega
  · rw [List.nodup_append]
    exact ⟨h.nodup, by simp, by intro a ha c hc e; simp at hc; subst hc; subst e; exact hn ha⟩
  · intro x hx
    rcases List.mem_append.1 hx with hx | hx
    · exact h.lt x hx
    · simp at hx; omega
end

theorem rowForm {y : World} {base : Nat} {v : Value} {n : Nat} {xs : List Value} (h : y.ownsRow base 3 1 v n xs) :
    (v = .slice none 0 0 ∧ n = 0 ∧ xs = []) ∨ ∃ g c, v = .slice (some ⟨g, 0, none⟩) n c ∧ v.ownBlock = some g ∧ g < y.heap.size ∧ n ≤ c ∧ c ≤ 9223372036854775807 ∧ ∀ j u, xs[j]? = some u → y.cell? ⟨g, j, none⟩ = some u := by
  rcases h.2 with ⟨h1, h2⟩ | ⟨g, cap, cur, h1, _, _, h4, h5, _⟩
  · refine Or.inl ⟨h1, h2, List.eq_nil_of_length_eq_zero ?_⟩
    rw [h.1, h2]
  · refine Or.inr ⟨g, cap, h1, by rw [h1]; rfl, (World.ownsRow.lt h g (by rw [h1]; rfl)).2, h4, h5, fun j u hj => ?_⟩
    have := World.ownsRow.cells (g := g) (h1 ▸ h) rfl j u hj
    rw [Go.WideShapes.add_plain, Nat.zero_add] at this
    exact this
theorem vals_get (b : Int) (ks : List Nat) {i : Nat} (h : i < ks.length) : (vals b ks)[i]? = some (.int .i64 (b + (ks.getD i 0 : Nat))) := by
  unfold vals
  rw [List.getElem?_map, List.getElem?_eq_getElem h]
  simp [h]
theorem take_more (ks : List Nat) {i : Nat} (h : i < ks.length) (x : Nat) : x ∈ ks.getD i 0 :: ks.take i ↔ x ∈ ks.take (i + 1) := by
  have e : ks.getD i 0 = ks[i] := by simp [h]
  rw [List.take_add_one, List.getElem?_eq_getElem h, Option.toList_some, List.mem_append, List.mem_singleton, List.mem_cons, e]
  exact or_comm
theorem get_new (ks : List Nat) (hn : ks.Nodup) {i : Nat} (h : i < ks.length) : ks.getD i 0 ∈ ks ∧ ks.getD i 0 ∉ ks.take i := by
  have e : ks.getD i 0 = ks[i] := by simp [h]
  rw [e]
  refine ⟨List.getElem_mem h, fun hm => ?_⟩
  obtain ⟨j, hj, ej⟩ := List.getElem_of_mem hm
  rw [List.getElem_take] at ej
  rw [List.length_take] at hj
  exact List.pairwise_iff_getElem.1 hn j i (by omega) h (by omega) ej
/-- while the first one notes -/
structure L2 (w : World) (b : Int) (A B : Nat) (y : World) (va : Value) (ks : List Nat) (i : Nat) (s : Win.S) : Prop where
  wa : Wn y A s
  noted : Win.Noted b (ks.take i) s
  wb : Wn y B Win.none
  row : y.ownsRow w.heap.size 3 1 va ks.length (vals b ks)
  na : va.ownBlock ≠ some A
  nb : va.ownBlock ≠ some B
  only : Only [] w y
theorem L1.on {w y : World} {b : Int} {A B D : Nat} {va : Value} {ks : List Nat} (h : L1 w b A B D y va ks) : L2 w b A B y va ks 0 Win.none := ⟨h.wa, by simpa using Win.Noted.start b, h.wb, h.row, h.na, h.nb, h.only⟩
theorem L2.next {w y z : World} {b : Int} {A B : Nat} {va : Value} {ks : List Nat} {i : Nat} {s s' : Win.S} (h : L2 w b A B y va ks i s) (hk : Win.Noted b (ks.take (i + 1)) s') (hw : Wn z A s') (o : Only [A] y z) (wA : w.heap.size ≤ A) (d : B ≠ A) : L2 w b A B z va ks (i + 1) s' :=
  ⟨hw, hk, h.wb.only o (by simpa using d), own_only h.row o (fun g hg e => by simp at e; subst e; exact h.na hg), h.na, h.nb, h.only.then o (by simp; omega)⟩

theorem own_base {w : World} {base base' : Nat} {e : TypeId} {v : Value} {n : Nat} {xs : List Value} (h : w.ownsRow base e 1 v n xs) (hb : base' ≤ base) : w.ownsRow base' e 1 v n xs := by
  obtain ⟨h1, h2⟩ := h
  refine ⟨h1, ?_⟩
  rcases h2 with h2 | ⟨g, cap, cur, k1, k2, k3⟩
  · exact Or.inl h2
  · exact Or.inr ⟨g, cap, cur, k1, Nat.le_trans hb k2, k3⟩
theorem vals_one (b : Int) (ks : List Nat) : ∀ u ∈ vals b ks, u.oneCell' = true := by
  intro u hu
  obtain ⟨x, _, rfl⟩ := List.mem_map.1 hu
  rfl
/-- while the second one notes: ds are noted, ls are left -/
structure L3 (w : World) (b : Int) (A B : Nat) (y : World) (vl : Value) (ks ds ls : List Nat) (sa sb : Win.S) : Prop where
  wa : Wn y A sa
  nota : Win.Noted b ks sa
  wb : Wn y B sb
  notb : Win.Noted b ds sb
  row : y.ownsRow w.heap.size 3 1 vl ls.length (vals b ls)
  na : vl.ownBlock ≠ some A
  nb : vl.ownBlock ≠ some B
  only : Only [] w y
  all : ∀ x, x ∈ ks ↔ x ∈ ds ∨ x ∈ ls
  nodup : ls.Nodup
  new : ∀ x ∈ ls, x ∉ ds
  lt : ∀ x ∈ ks, x < 60
theorem L2.done {w y z : World} {b : Int} {A B : Nat} {va v' : Value} {ks : List Nat} {s : Win.S} (h : L2 w b A B y va ks ks.length s) (hn : ks.Nodup) (hl : ∀ x ∈ ks, x < 60) (o : Only [] y z) (hr : z.ownsRow y.heap.size 3 1 v' ks.length (vals b ks)) : L3 w b A B z v' ks [] ks s Win.none := by
  have key : ∀ x, x < y.heap.size → v'.ownBlock ≠ some x := fun x hx e => by
    have := (World.ownsRow.lt hr x e).1
    omega
  refine ⟨h.wa.only o (by simp), ?_, h.wb.only o (by simp), Win.Noted.start b, own_base hr h.only.size, key A h.wa.three.lt, key B h.wb.three.lt, h.only.trans o, by simp, hn, by simp, hl⟩
  have := h.noted
  rwa [List.take_length] at this
/-- the i-th of those that are left is noted -/
theorem L3.note {w y z : World} {b : Int} {A B : Nat} {vl : Value} {ks ds ls : List Nat} {sa sb : Win.S} (h : L3 w b A B y vl ks ds ls sa sb) {i : Nat} (hi : i < ls.length) :
    (sb.note (b + (ls.getD i 0 : Nat))).2 = 1 ∧ ∀ z, Wn z B (sb.note (b + (ls.getD i 0 : Nat))).1 → Only [B] y z → A ≠ B → w.heap.size ≤ B → ∀ z' v', Only [] z z' → z'.ownsRow z.heap.size 3 1 v' (ls.length - 1) (vals b (ls.take i) ++ vals b (ls.drop (i + 1))) →
      L3 w b A B z' v' ks (ls.getD i 0 :: ds) (ls.eraseIdx i) sa (sb.note (b + (ls.getD i 0 : Nat))).1 := by
  have e : ls.getD i 0 = ls[i] := by simp [hi]
  have hm : ls.getD i 0 ∈ ls := by rw [e]; exact List.getElem_mem hi
  have hk : ls.getD i 0 ∈ ks := (h.all _).2 (Or.inr hm)
  have nm := h.notb.more (fun x hx => h.lt x ((h.all x).2 (Or.inl hx))) (h.lt _ hk) (h.new _ hm)
  refine ⟨nm.2, fun z hz o dA wB z' v' o' hr => ?_⟩
  have key : ∀ x, x < z.heap.size → v'.ownBlock ≠ some x := fun x hx c => by
    have := (World.ownsRow.lt hr x c).1
    omega
  have ew : vals b (ls.take i) ++ vals b (ls.drop (i + 1)) = vals b (ls.eraseIdx i) := by
    rw [List.eraseIdx_eq_take_drop_succ]; simp [vals]
  have el : (ls.eraseIdx i).length = ls.length - 1 := List.length_eraseIdx_of_lt hi
  have me : ∀ x, x ∈ ls ↔ x = ls.getD i 0 ∨ x ∈ ls.eraseIdx i := fun x => by
    rw [List.eraseIdx_eq_take_drop_succ, e]
    constructor
    · intro hx
      rw [← List.take_append_drop i ls, List.drop_eq_getElem_cons hi] at hx
      rcases List.mem_append.1 hx with hx | hx
      · exact Or.inr (List.mem_append.2 (Or.inl hx))
      · rcases List.mem_cons.1 hx with hx | hx
        · exact Or.inl hx
        · exact Or.inr (List.mem_append.2 (Or.inr hx))
    · rintro (rfl | hx)
      · exact List.getElem_mem hi
      · rcases List.mem_append.1 hx with hx | hx
        · exact List.mem_of_mem_take hx
        · exact List.mem_of_mem_drop hx
  have hnd : ls.getD i 0 ∉ ls.eraseIdx i := fun hx => by
    rw [List.eraseIdx_eq_take_drop_succ, e] at hx
    rcases List.mem_append.1 hx with hx | hx
    · exact (get_new ls h.nodup hi).2 (e ▸ hx)
    · have hp := h.nodup
      rw [← List.take_append_drop i ls, List.drop_eq_getElem_cons hi] at hp
      have := (List.nodup_append.1 hp).2.1
      exact (List.nodup_cons.1 this).1 hx
  have hs : z.heap.size ≤ z'.heap.size := o'.size
  have lA := h.wa.three.lt
  have lB := h.wb.three.lt
  have sz := o.size
  refine ⟨(h.wa.only o (by simpa using dA)).only o' (by simp), h.nota, hz.only o' (by simp), nm.1, ?_, key A (by omega), key B (by omega), (h.only.then o (by simp; omega)).trans o', fun x => ?_, h.nodup.sublist (List.eraseIdx_sublist ..), fun x hx c => ?_, h.lt⟩
  · rw [el, ← ew]; exact own_base hr (Nat.le_trans h.only.size sz)
  · rw [h.all x, me x, List.mem_cons]
    constructor
    · rintro (h1 | h1 | h1)
      · exact Or.inl (Or.inr h1)
      · exact Or.inl (Or.inl h1)
      · exact Or.inr h1
    · rintro ((h1 | h1) | h1)
      · exact Or.inr (Or.inl h1)
      · exact Or.inl h1
      · exact Or.inr (Or.inr h1)
  · rcases List.mem_cons.1 c with c | c
    · exact hnd (c ▸ hx)
    · exact h.new x ((me x).2 (Or.inr hx)) c
theorem L3.end' {w y : World} {b : Int} {A B : Nat} {vl : Value} {ks ds ls : List Nat} {sa sb : Win.S} (h : L3 w b A B y vl ks ds ls sa sb) (h0 : ls = []) : sa = sb :=
  h.nota.one (h.notb.congr fun x => by rw [h.all x, h0]; simp)
section
variable {W1 W : World} {ops : Array Oper} {o : Oper} {act : Act} {K : Act → World → Prop} {Q : Exit → Act → World → Prop} {E : Prop}
/-- left[:k] behind an empty row -/
theorem st1 (hgd : o.guard = none) (s x : Operand) (ho : o.op = .call { callee := .builtin .append, args := #[s, x], argTypes := #[30, 30] })
    (xs : List Value) (g b kk c : Nat) (hs : act.eval s = .slice (some ⟨b, 0, none⟩) 0 0) (hx : act.eval x = .slice (some ⟨g, 0, none⟩) kk c)
    (hE : W.ownsRow W1.heap.size 3 1 (.slice (some ⟨b, 0, none⟩) 0 0) 0 []) (hB : Below W1.heap.size W1 W) (hsrc : g < W1.heap.size ∧ ∀ j u, xs[j]? = some u → W1.cell? ⟨g, j, none⟩ = some u)
    (hl : xs.length = kk ∧ ∀ u ∈ xs, u.oneCell' = true) (hk : kk ≤ 100)
    (h : ∀ v' w', w'.ownsRow W1.heap.size 3 1 v' kk xs → Below W1.heap.size W1 w' → K (act.put o.dst v') w') :
    if Region.wanted o (yielded ops act.tmps) = true then Oper.wp Try.prog o act W K Q else E := by
  refine step_app hgd s x ho Try.underlying30 info_int rfl W1.heap.size _ 0 [] hs hE ⟨g, 0, none⟩ kk c xs hx hl.1 (fun j u hj => ?_) hl.2 (by unfold maxLen; omega) (by omega) hB.size ?_
  · rw [Go.WideShapes.add_plain, Nat.zero_add, hB.cell hsrc.1]; exact hsrc.2 j u hj
  intro v' w' x1 x2 _
  rw [Nat.zero_add, List.nil_append] at x1
  exact h v' w' x1 (hB.grown x2 hB.size (fun j hj => (hE.lt j hj).1))
/-- .. and left[k+1:] -/
theorem st3 (hgd : o.guard = none) (s x : Operand) (ho : o.op = .call { callee := .builtin .append, args := #[s, x], argTypes := #[30, 30] })
    (v : Value) (n : Nat) (xs ys : List Value) (ad : Addr) (g kk m c : Nat) (hs : act.eval s = v) (hx : act.eval x = .slice (some ad) m c)
    (hE : W.ownsRow W1.heap.size 3 1 v n xs) (hB : Below W1.heap.size W1 W) (hsrc : g < W1.heap.size ∧ ∀ j u, ys[j]? = some u → W1.cell? ⟨g, kk + j, none⟩ = some u)
    (hl : ys.length = m ∧ ∀ u ∈ ys, u.oneCell' = true) (had : m = 0 ∨ ad = ⟨g, kk, none⟩) (hk : n + m ≤ 200)
    (h : ∀ v' w', w'.ownsRow W1.heap.size 3 1 v' (n + m) (xs ++ ys) → Below W1.heap.size W1 w' → K (act.put o.dst v') w') :
    if Region.wanted o (yielded ops act.tmps) = true then Oper.wp Try.prog o act W K Q else E := by
  refine step_app hgd s x ho Try.underlying30 info_int rfl W1.heap.size v n xs hs hE ad m c ys hx hl.1 ?_ hl.2 (by unfold maxLen; omega) (by omega) hB.size ?_
  · rcases had with h0 | h0
    · intro j u hj
      rw [List.eq_nil_of_length_eq_zero (by omega : ys.length = 0)] at hj
      simp at hj
    · intro j u hj
      rw [h0, Go.WideShapes.add_plain, hB.cell hsrc.1]; exact hsrc.2 j u hj
  · intro v' w' x1 x2 _
    exact h v' w' x1 (hB.grown x2 hB.size (fun j hj => (hE.lt j hj).1))
end
theorem only_new {y z : World} {o : Obj} {e : TypeId} {v : Value} {n : Nat} {xs : List Value} (h : (y.alloc o).ownsRow y.heap.size e 1 v n xs) (g : (y.alloc o).grownBy z v.ownBlock) : Only [] y z :=
  ((Only.refl [] y).alloc o).then (grown_only g) fun x hx hl => by
    have hx : v.ownBlock = some x := by simpa [Option.mem_toList] using hx
    have := (World.ownsRow.lt h x hx).1
    omega
theorem below_only {w w' : World} (h : Below w.heap.size w w') : Only [] w w' := ⟨h.os, h.tape, h.output, h.size, fun k hk _ => h.block k hk⟩
end Go.Proofs.Ytfikpkoocbiinaa.windowOrders

/- The hand's Input, Row and Rows. The hand's Row. The hand's Rows. -/
import Derived.Test.YtngbannidbijmaaStepS
import Derived.Test.YtngbannidbijmaaOwnG
import Derived.Test.YtngbannidbijmaaPick
namespace Go.Proofs.Ytngbannidbijmaa
open Go.RowKit
set_option linter.unusedVariables false
set_option linter.unusedSimpArgs false

def Cl.zero : Cl := ⟨false, ⟨0, 0, 0⟩⟩
/-- an input, a cell, a row, rows of raw numbers -/
def hin (n m : Int) : Inp := ⟨n % 256, m % 129 - 64, (m.tdiv 129) % 129 - 64⟩
def hcell (z : Int) : Cl := if 0 < z.tmod 4 then ⟨true, hin (z.tdiv 4) (z.tdiv 7)⟩ else Cl.zero
def hrowTo (n : Nat) (l : List Int) (k : Nat) : List Cl := (List.range n).map fun i => if i < k ∧ i < l.length then hcell (l.getD i 0) else Cl.zero
def hrow (n : Nat) (l : List Int) : List Cl := hrowTo n l n
def hrows (n : Nat) (ls : List (List Int)) : List (List Cl) := (ls.take 40).map (hrow n)
theorem hrowTo_len (n : Nat) (l : List Int) (k : Nat) : (hrowTo n l k).length = n := by simp [hrowTo]
theorem hrowTo_set (n : Nat) (l : List Int) (k : Nat) (hk : k < n) (hl : k < l.length) : (hrowTo n l k).set k (hcell (l.getD k 0)) = hrowTo n l (k + 1) := by
  apply List.ext_getElem?
  intro j
  rw [List.getElem?_set]
  by_cases hj : j < n
  · simp only [hrowTo, List.getElem?_map, List.getElem?_range hj, Option.map_some, List.length_map, List.length_range]
    by_cases e : k = j
    · subst e; rw [if_pos rfl, if_pos hk, if_pos ⟨by omega, hl⟩]
    · rw [if_neg e]
      by_cases h : j < k
      · by_cases h2 : j < l.length
        · rw [if_pos ⟨h, h2⟩, if_pos ⟨by omega, h2⟩]
        · rw [if_neg (by omega), if_neg (by omega)]
      · rw [if_neg (by omega), if_neg (by omega)]
  · have e1 : (hrowTo n l k)[j]? = none := List.getElem?_eq_none (by rw [hrowTo_len]; omega)
    have e2 : (hrowTo n l (k + 1))[j]? = none := List.getElem?_eq_none (by rw [hrowTo_len]; omega)
    rw [e1, e2, if_neg (by omega)]
theorem hrowTo_same (n : Nat) (l : List Int) (k : Nat) (hk : k < n) (hl : k < l.length) (h : ¬ 0 < (l.getD k 0).tmod 4) : hrowTo n l (k + 1) = hrowTo n l k := by
  rw [← hrowTo_set n l k hk hl]
  apply List.ext_getElem?
  intro j
  rw [List.getElem?_set]
  by_cases e : k = j
  · subst e
    rw [if_pos rfl, hrowTo_len, if_pos hk, hcell, if_neg h]
    simp [hrowTo, hk]
  · rw [if_neg e]
theorem hrowTo_all (n : Nat) (l : List Int) (k : Nat) (hk : k ≤ n) (h : k = n ∨ l.length ≤ k) : hrowTo n l k = hrow n l := by
  unfold hrow hrowTo
  apply List.map_congr_left
  intro i hi
  rw [List.mem_range] at hi
  by_cases h2 : i < l.length
  · rw [if_pos ⟨by omega, h2⟩, if_pos ⟨hi, h2⟩]
  · rw [if_neg (by omega), if_neg (by omega)]
/-- the kinds of rows -/
def elC : El Cl := ⟨45, 43, 4, 32, .agg #[.bool false, .int .i64 0, .int .i64 0, .int .i64 0], Cl.cells⟩
theorem elC_ok : elC.Ok where
  ht := Try.underlying45
  info := by kernel_rfl
  zs := rfl
  c0 := by decide
  len := fun _ => rfl
  one := fun x v hv => by simp only [elC, Cl.cells, List.mem_cons, List.not_mem_nil, or_false] at hv; rcases hv with rfl | rfl | rfl | rfl <;> rfl
  b := by decide
/-- a slice's header -/
structure Sl where
  a : Option Addr
  n : Nat
  cap : Nat
abbrev Sl.v (s : Sl) : Value := .slice s.a s.n s.cap
def elR : El Sl := ⟨47, 45, 1, 24, .slice none 0 0, fun s => [s.v]⟩
theorem elR_ok : elR.Ok where
  ht := Try.underlying47
  info := by kernel_rfl
  zs := rfl
  c0 := by decide
  len := fun _ => rfl
  one := fun x v hv => by simp only [elR, List.mem_cons, List.not_mem_nil, or_false] at hv; subst hv; rfl
  b := by decide
def elI : El Int := ⟨26, 3, 1, 8, .int .i64 0, fun n => [.int .i64 n]⟩
theorem elI_ok : elI.Ok where
  ht := Try.underlying26
  info := by kernel_rfl
  zs := rfl
  c0 := by decide
  len := fun _ => rfl
  one := fun x v hv => by simp only [elI, List.mem_cons, List.not_mem_nil, or_false] at hv; subst hv; rfl
  b := by decide
/-- a row of cells in a block of its own, as it is read -/
theorem rdc_blk {w : World} {g cap B : Nat} {xs : List Cl} {ys : List Value} (h : Blk w g (elC.flat xs ++ ys)) (hc : xs.length ≤ cap) (hcm : cap ≤ 9223372036854775807) (hB : g < B) : RdC B w (.slice (some ⟨g, 0, none⟩) xs.length cap) xs := by
  refine ⟨_, cap, rfl, hc, hcm, ?_⟩
  by_cases h0 : xs = []
  · exact Or.inl h0
  · refine Or.inr ⟨g, 0, rfl, hB, h.lt, fun i hi j v hj => ?_⟩
    have hj4 : j < 4 := by have := (List.getElem?_eq_some_iff.1 hj).1; simpa [Cl.cells] using this
    have hx : xs[i]? = some (xs.getD i ⟨false, ⟨0, 0, 0⟩⟩) := by rw [List.getElem?_eq_getElem hi, List.getD_eq_getElem?_getD, List.getElem?_eq_getElem hi]; rfl
    have e := elC_ok.flat_get xs i _ hx j hj4
    have hl := elC_ok.flat_len xs
    rw [h.cell, show 0 + i * 4 + j = i * 4 + j by omega, List.getElem?_append_left (by rw [hl]; show i * 4 + j < xs.length * 4; omega)]
    exact e.trans hj
def rInts : Rdr (List Int) := rSlice 1 (rInt .i64)
theorem rInts_st : Stable rInts := rSlice_st (rInt_st _)
theorem RdG.int {B : Nat} {w : World} {v : Value} {l : List Int} (h : RdG 1 (rInt .i64) B w v l) {i : Nat} (hi : i < l.length) : ∃ b off cap, v = .slice (some ⟨b, off, none⟩) l.length cap ∧ b < B ∧ b < w.heap.size ∧ w.cell? ⟨b, off + i, none⟩ = some (.int .i64 (l.getD i 0)) ∧ -9223372036854775808 ≤ l.getD i 0 ∧ l.getD i 0 ≤ 9223372036854775807 := by
  obtain ⟨b, off, cap, h1, h2, h3, cs, ⟨rfl, hw⟩, _, hc⟩ := h.get (List.getElem?_eq_getElem hi)
  have := hc 0 (by omega)
  have e : l.getD i 0 = l[i] := by simp [List.getD_eq_getElem?_getD, hi]
  simp [Lit.wf, IntKind.min, IntKind.max, IntKind.bits, IntKind.signed] at hw
  refine ⟨b, off, cap, h1, h2, h3, ?_, by rw [e]; omega, by rw [e]; omega⟩
  rw [e]; simpa using this
theorem RdG.rdn {B : Nat} {w : World} {v : Value} {l : List Int} (h : RdG 1 (rInt .i64) B w v l) : RdN B w v l := by
  have h0 := h
  obtain ⟨a, cap, rfl, h1, h2, h⟩ := h
  refine ⟨a, cap, rfl, h1, h2, ?_⟩
  rcases h with h | ⟨b, off, rfl, hB, hb, hc⟩
  · exact Or.inl h
  · refine Or.inr ⟨b, off, rfl, hB, hb, fun i hi => ?_⟩
    obtain ⟨b', off', cap', e, _, _, q, _⟩ := h0.int hi
    injection e with e1 e2 e3
    injection e1 with e1
    injection e1 with e4 e5
    rw [e4, e5]; exact q
theorem made_cells (n : Nat) (h : n ≤ 8) : (madeCells #[.bool false, .int .i64 0, .int .i64 0, .int .i64 0] (n * 4)).toList = elC.flat (List.replicate n Cl.zero) := by
  have : n = 0 ∨ n = 1 ∨ n = 2 ∨ n = 3 ∨ n = 4 ∨ n = 5 ∨ n = 6 ∨ n = 7 ∨ n = 8 := by omega
  rcases this with rfl | rfl | rfl | rfl | rfl | rfl | rfl | rfl | rfl <;> (show _ = _; kernel_rfl)
theorem make_cells (n : Nat) (h : n ≤ 8) (w : World) : (Instr.makeSlice 45 (.int .i64 (n : Int)) (.int .i64 (n : Int))).run Try.prog w = .ok (.slice (some ⟨w.heap.size, 0, none⟩) n n) (w.alloc (.cells (elC.flat (List.replicate n Cl.zero)).toArray 43)) := by
  obtain ⟨i0, hi, hz0, hz1, hz2⟩ := infoE elC_ok.info
  have := run_make (P := Try.prog) w 45 43 i0 elC.z Try.underlying45 hi hz0 .i64 .i64 (n : Int) (n : Int) (by omega) (Int.le_refl _) (by rw [hz2]; show ((32 : Nat) : Int) * n ≤ _; omega) (by omega)
  rw [hz1] at this
  rw [← made_cells n h]
  simpa [elC, Value.cells] using this
theorem hrowTo_0 (n : Nat) (l : List Int) : hrowTo n l 0 = List.replicate n Cl.zero := by
  unfold hrowTo
  rw [List.eq_replicate_iff]
  refine ⟨by simp, fun b hb => ?_⟩
  obtain ⟨i, _, rfl⟩ := List.mem_map.1 hb
  rw [if_neg (by omega)]
set_option maxRecDepth 100000 in
theorem hinput_any (n m : Int) (hn : -9223372036854775808 ≤ m ∧ m ≤ 9223372036854775807) (w : World) : Calls Try.prog 53 #[.int .i64 n, .int .i64 m] w fun e w' => e = .returned (hin n m).v ∧ Only [] w w' := by
  obtain ⟨q, hq⟩ : ∃ q, w.heap.size = q := ⟨_, rfl⟩
  have t1 : -9223372036854775808 ≤ m.tdiv 129 ∧ m.tdiv 129 ≤ 9223372036854775807 := by
    have := Int.mul_tdiv_add_tmod m 129
    have := Int.tmod_lt_of_pos m (show 0 < (129 : Int) by omega)
    have h3 : -129 < m.tmod 129 := by
      have := Int.neg_tmod m 129
      have h4 := Int.tmod_lt_of_pos (-m) (show 0 < (129 : Int) by omega)
      omega
    omega
  have H0 : Hid (Only [] w (w.alloc (.cells #[.int .i64 0, .int .i64 0, .int .i64 0] 41)) ∧ Ib (w.alloc (.cells #[.int .i64 0, .int .i64 0, .int .i64 0] 41)) q ⟨0, 0, 0⟩ ∧ w.heap.size = q) := ⟨(Only.refl _ _).alloc _, hq ▸ Ib.new ⟨0, 0, 0⟩ w _, hq⟩
  have w1 : IntKind.i64.wrap (m % 129 - 64) = m % 129 - 64 := IntWalk.i64_in _ (by omega)
  have w2 : IntKind.i64.wrap (m.tdiv 129) = m.tdiv 129 := IntWalk.i64_in _ (by omega)
  have w3 : IntKind.i64.wrap (m.tdiv 129 % 129 - 64) = m.tdiv 129 % 129 - 64 := IntWalk.i64_in _ (by omega)
  go_enter Try.func53, Try.ntmps53
  go_upto_region 0 with fail
  apply wp_region_lit
  refine op_val (w' := w.alloc (.cells #[.int .i64 0, .int .i64 0, .int .i64 0] 41)) rfl (.pointer (some ⟨w.heap.size, 0, none⟩)) (by kernel_rfl) ?_
  simp only [Act.put, List.setIfInBounds_toArray, List.set_cons_succ, List.set_cons_zero]
  refine wpList_nil ?_
  rw [hq]
  generalize w.alloc (.cells #[.int .i64 0, .int .i64 0, .int .i64 0] 41) = W at *
  clear hq
  go_upto_region 1 with fail
  apply wp_region_lit
  refine op_val (w' := W) rfl (.int .i64 n) (by kernel_rfl) ?_
  simp only [Act.put, List.setIfInBounds_toArray, List.set_cons_succ, List.set_cons_zero]
  refine op_call (F := 24) (args := #[.int .i64 n, .int .i64 256]) (w1 := W) rfl (by kernel_rfl) ?_
  refine (pick_any _ _ (by omega) (by omega) _).mono ?_
  rintro e W2 ⟨rfl, rfl⟩
  refine ⟨_, rfl, ?_⟩
  simp only [Act.put, List.setIfInBounds_toArray, List.set_cons_succ, List.set_cons_zero]
  refine op_val (w' := W) rfl (.int .i64 m) (by kernel_rfl) ?_
  simp only [Act.put, List.setIfInBounds_toArray, List.set_cons_succ, List.set_cons_zero]
  refine op_call (F := 24) (args := #[.int .i64 m, .int .i64 129]) (w1 := W) rfl (by kernel_rfl) ?_
  refine (pick_any _ _ (by omega) (by omega) _).mono ?_
  rintro e W2 ⟨rfl, rfl⟩
  refine ⟨_, rfl, ?_⟩
  simp only [Act.put, List.setIfInBounds_toArray, List.set_cons_succ, List.set_cons_zero]
  refine op_val (w' := W) rfl (.int .i64 (m % 129 - 64)) (by simp only [execOp]; go_simp) ?_
  simp only [Act.put, List.setIfInBounds_toArray, List.set_cons_succ, List.set_cons_zero]
  refine op_val (w' := W) rfl (.int .i64 m) (by kernel_rfl) ?_
  simp only [Act.put, List.setIfInBounds_toArray, List.set_cons_succ, List.set_cons_zero]
  refine op_val (w' := W) rfl (.int .i64 (m.tdiv 129)) (by simp only [execOp]; go_simp) ?_
  simp only [Act.put, List.setIfInBounds_toArray, List.set_cons_succ, List.set_cons_zero]
  refine op_call (F := 24) (args := #[.int .i64 (m.tdiv 129), .int .i64 129]) (w1 := W) rfl (by kernel_rfl) ?_
  refine (pick_any _ _ (by omega) (by omega) _).mono ?_
  rintro e W2 ⟨rfl, rfl⟩
  refine ⟨_, rfl, ?_⟩
  simp only [Act.put, List.setIfInBounds_toArray, List.set_cons_succ, List.set_cons_zero]
  refine op_val (w' := W) rfl (.int .i64 (m.tdiv 129 % 129 - 64)) (by simp only [execOp]; go_simp) ?_
  simp only [Act.put, List.setIfInBounds_toArray, List.set_cons_succ, List.set_cons_zero]
  refine op_val (w' := W) rfl ((hin n m).v) (by kernel_rfl) ?_
  simp only [Act.put, List.setIfInBounds_toArray, List.set_cons_succ, List.set_cons_zero]
  refine op_storeIb (i := hin n m) rfl H0.out.2.1 (.tmp 4) (.tmp 14) rfl (by kernel_rfl) (by kernel_rfl) ?_
  intro w4 hb o4 hz
  have Z : Only [] w w4 := H0.out.1.then o4 (fun x hx hl => by have h2 : x = q := (by simpa using hx); have := H0.out.2.2; omega)
  refine wpList_nil ?_
  clear w1 w2 w3 H0
  go_wp2_with fail
  exact bodyPost_ret (res_in hb Try.results53 rfl) rfl ⟨rfl, Z⟩
end Go.Proofs.Ytngbannidbijmaa
namespace Go.Proofs.Ytngbannidbijmaa
open Go.RowKit
set_option linter.unusedVariables false
set_option linter.unusedSimpArgs false

theorem exec_makeC {w : World} {o : Oper} {act : Act} {n : Nat} (hn : n ≤ 8) (x y : Operand) (ho : o.op = .makeSlice 45 x y) (hx : act.eval x = .int .i64 (n : Nat)) (hy : act.eval y = .int .i64 (n : Nat)) : (execOp act.eval o).run Try.prog w = .ok (.value (.slice (some ⟨w.heap.size, 0, none⟩) n n)) (w.alloc (.cells (elC.flat (List.replicate n Cl.zero)).toArray 43)) := by
  simp only [execOp, ho, hx, hy, Sem.run_bind, make_cells n hn, Result.andThen_ok, Sem.run_pure]
theorem at_cell {g off n cap k : Nat} (hk : k < n) (w : World) : (Instr.indexAt 45 (.slice (some ⟨g, off, none⟩) n cap) (.int .i64 (k : Nat))).run Try.prog w = .ok (.pointer (some ⟨g, off + k * 4, none⟩)) w := by
  have hs : (sizeOf (Try.prog.elem 45)).run Try.prog w = .ok 4 w := by kernel_rfl
  rw [run_indexAt_slice (h := by kernel_rfl), if_pos ⟨by omega, by omega⟩, hs]
  simp [Result.andThen, Addr.add_lit]
theorem exec_atC {w : World} {o : Oper} {act : Act} {g off n cap k : Nat} (hk : k < n) (x y : Operand) (ho : o.op = .indexAddr 45 x y) (hx : act.eval x = .slice (some ⟨g, off, none⟩) n cap) (hy : act.eval y = .int .i64 (k : Nat)) : (execOp act.eval o).run Try.prog w = .ok (.value (.pointer (some ⟨g, off + k * 4, none⟩))) w := by
  simp only [execOp, ho, hx, hy, Sem.run_bind, at_cell hk, Result.andThen_ok, Sem.run_pure]
theorem at_int {g off n cap k : Nat} (hk : k < n) (w : World) : (Instr.indexAt 26 (.slice (some ⟨g, off, none⟩) n cap) (.int .i64 (k : Nat))).run Try.prog w = .ok (.pointer (some ⟨g, off + k, none⟩)) w := by
  have hs : (sizeOf (Try.prog.elem 26)).run Try.prog w = .ok 1 w := by kernel_rfl
  rw [run_indexAt_slice (h := by kernel_rfl), if_pos ⟨by omega, by omega⟩, hs]
  simp [Result.andThen, Addr.add_lit]
theorem exec_atI {w : World} {o : Oper} {act : Act} {g off n cap k : Nat} (hk : k < n) (x y : Operand) (ho : o.op = .indexAddr 26 x y) (hx : act.eval x = .slice (some ⟨g, off, none⟩) n cap) (hy : act.eval y = .int .i64 (k : Nat)) : (execOp act.eval o).run Try.prog w = .ok (.value (.pointer (some ⟨g, off + k, none⟩))) w := by
  simp only [execOp, ho, hx, hy, Sem.run_bind, at_int hk, Result.andThen_ok, Sem.run_pure]
theorem info_cl : (Try.prog.info? 43).map (·.size) = some 4 := by kernel_rfl
/-- a cell is laid at a place of a row -/
theorem op_storeC {w : World} {ops : Array Oper} {rest : List Oper} {o : Oper} {act : Act} {Q : Exit → Act → World → Prop} {g i : Nat} {xs : List Cl} {ys : List Value} (hgd : o.guard = none) (h : Blk w g (elC.flat xs ++ ys)) (hi : i < xs.length) (c : Cl) (x y : Operand) (ho : o.op = .store 43 x y) (hx : act.eval x = .pointer (some ⟨g, i * 4, none⟩)) (hy : act.eval y = .agg c.cells.toArray)
    (k : ∀ w', Blk w' g (elC.flat (xs.set i c) ++ ys) → Only [g] w w' → w'.heap.size = w.heap.size → wpList Try.prog ops Q rest (act.put o.dst undef) w') : wpList Try.prog ops Q (o :: rest) act w := by
  have hl := elC_ok.flat_len xs
  have h4 : elC.c = 4 := rfl
  rw [h4] at hl
  refine op_store (vs := c.cells) (cs := elC.flat xs ++ ys) hgd 43 x y ho (i * 4) hx hy h info_cl (by rw [List.length_append, hl]; show i * 4 + 4 ≤ _; omega) (elC_ok.one c) ?_
  intro w' hb o2 hz
  have e := elC_ok.flat_set xs i c hi
  rw [h4] at e
  have e2 : (elC.flat xs ++ ys).take (i * 4) ++ c.cells ++ (elC.flat xs ++ ys).drop (i * 4 + c.cells.length) = elC.flat (xs.set i c) ++ ys := by
    rw [← e, show c.cells.length = 4 from rfl, List.take_append_of_le_length (by omega), List.drop_append_of_le_length (by omega)]
    simp [elC]
  rw [e2] at hb
  exact k w' hb o2 hz
theorem tdiv_rng {z k : Int} (hk : 0 < k) (h : -9223372036854775808 ≤ z ∧ z ≤ 9223372036854775807) : -9223372036854775808 ≤ z.tdiv k ∧ z.tdiv k ≤ 9223372036854775807 := by
  rcases Int.lt_or_le z 0 with g | g
  · have e : z.tdiv k = -((-z).tdiv k) := by rw [Int.neg_tdiv, Int.neg_neg]
    have := Int.tdiv_nonneg (a := -z) (b := k) (by omega) (by omega)
    have h2 : (-z).tdiv k ≤ -z := Int.tdiv_le_self _ (by omega)
    omega
  · have := Int.tdiv_nonneg (a := z) (b := k) g (by omega)
    have h2 : z.tdiv k ≤ z := Int.tdiv_le_self _ g
    omega
/-- where Row stands -/
structure Hrw (w W : World) (B g : Nat) (lv : Value) (l : List Int) (xs : List Cl) : Prop where
  row : Blk W g (elC.flat xs)
  rd : RdG 1 (rInt .i64) B W lv l
  only : Only [] w W
  base : w.heap.size = g
  le : B ≤ g
theorem Hrw.then {w W W' : World} {B g : Nat} {lv : Value} {l : List Int} {xs : List Cl} (h : Hrw w W B g lv l xs) (o : Only [] W W') : Hrw w W' B g lv l xs :=
  ⟨h.row.only o (by simp), h.rd.only (rInt_st _) o (by simp), h.only.trans o, h.base, h.le⟩
theorem Hrw.put {w W W' : World} {B g : Nat} {lv : Value} {l : List Int} {xs ys : List Cl} (h : Hrw w W B g lv l xs) (hb : Blk W' g (elC.flat ys)) (o : Only [g] W W') : Hrw w W' B g lv l ys := by
  have h1 := h.base
  have h2 := h.le
  exact ⟨hb, h.rd.only (rInt_st _) o (fun x hx => by have h2 : x = g := (by simpa using hx); omega), h.only.then o (fun x hx hl => by have h2 : x = g := (by simpa using hx); omega), h.base, h.le⟩
set_option maxRecDepth 100000 in
set_option maxHeartbeats 4000000 in
theorem hrow_any {B : Nat} {w : World} {lv : Value} {l : List Int} (n : Nat) (hn : n ≤ 8) (h : RdG 1 (rInt .i64) B w lv l) (hB : B ≤ w.heap.size) : Calls Try.prog 27 #[.int .i64 (n : Nat), lv] w fun e w' => e = .returned (.slice (some ⟨w.heap.size, 0, none⟩) n n) ∧ Blk w' w.heap.size (elC.flat (hrow n l)) ∧ Only [] w w' := by
  obtain ⟨g, hg⟩ : ∃ g, w.heap.size = g := ⟨_, rfl⟩
  have H0 : Hid (Hrw w (w.alloc (.cells (elC.flat (List.replicate n Cl.zero)).toArray 43)) B g lv l (hrowTo n l 0)) := by
    rw [hrowTo_0]
    exact ⟨hg ▸ Blk.new w _ _, h.only (rInt_st _) ((Only.refl [] _).alloc _) (by simp), (Only.refl [] _).alloc _, hg, hg ▸ hB⟩
  obtain ⟨a, cap, hv, hnc, hcap⟩ := h.form
  obtain ⟨m, hm⟩ : ∃ m, l.length = m := ⟨_, rfl⟩
  have HM : Hid (l.length = m) := hm
  rw [hm] at hv hnc
  subst hv
  have hm9 : m ≤ 9223372036854775807 := by omega
  clear h hB hm hnc hcap
  rw [hg]
  go_enter Try.func27, Try.ntmps27
  go_upto_region 1 with fail
  apply wp_region_lit
  refine op_val (w' := w) rfl (.int .i64 n) (by kernel_rfl) ?_
  simp only [Act.put, List.setIfInBounds_toArray, List.set_cons_succ, List.set_cons_zero]
  refine op_val (w' := w.alloc (.cells (elC.flat (List.replicate n Cl.zero)).toArray 43)) rfl (.slice (some ⟨w.heap.size, 0, none⟩) n n) (exec_makeC hn (.tmp 7) (.tmp 7) rfl (by kernel_rfl) (by kernel_rfl)) ?_
  simp only [Act.put, List.setIfInBounds_toArray, List.set_cons_succ, List.set_cons_zero]
  refine op_val (w' := w.alloc (.cells (elC.flat (List.replicate n Cl.zero)).toArray 43)) rfl (.slice (some ⟨w.heap.size, 0, none⟩) n n) (by kernel_rfl) ?_
  simp only [Act.put, List.setIfInBounds_toArray, List.set_cons_succ, List.set_cons_zero]
  refine wpList_nil ?_
  rw [hg]
  generalize w.alloc (.cells (elC.flat (List.replicate n Cl.zero)).toArray 43) = w1 at *
  clear hg
  go_wp2_with fail
  go_loopg [6] (n + 1) (fun gk vi wr => ∃ i : Nat, vi = .int .i64 i ∧ i ≤ n ∧ n + 1 - i ≤ gk ∧ Hid (Hrw w wr B g (.slice a m cap) l (hrowTo n l i)))
  case atStart => exact ⟨0, rfl, by omega, by omega, H0.out⟩
  case round =>
    clear H0
    obtain ⟨i, rfl, hi, hgk, HH⟩ := hrel
    have z0 : (0 : Int) ≤ (i : Int) := by omega
    by_cases hlt : i < n
    · have z1 : (i : Int) < (n : Int) := by omega
      by_cases hl : i < m
      · have z2 : (i : Int) < (m : Int) := by omega
        obtain ⟨b, off, cap', hv, hbB, hbl, hcz, zlo, zhi⟩ := HH.out.rd.int (i := i) (by rw [HM.out]; exact hl)
        injection hv with e1 e2 e3
        subst e1 e3
        clear e2
        obtain ⟨z, hz⟩ : ∃ z, l.getD i 0 = z := ⟨_, rfl⟩
        have SET : Hid ((hrowTo n l i).set i (hcell z) = hrowTo n l (i + 1)) := by show _ = _; rw [← hz]; exact hrowTo_set n l i hlt (by rw [HM.out]; exact hl)
        have SAME : Hid (¬ 0 < z.tmod 4 → hrowTo n l (i + 1) = hrowTo n l i) := fun h => hrowTo_same n l i hlt (by rw [HM.out]; exact hl) (by rw [hz]; exact h)
        have CZ : Hid (b < g ∧ b < wr.heap.size) := ⟨by have := HH.out.le; omega, hbl⟩
        rw [hz] at hcz zlo zhi
        clear hz hbB hbl
        by_cases h4 : 0 < z.tmod 4
        · have HC : Hid (hcell z = ⟨true, hin (z.tdiv 4) (z.tdiv 7)⟩) := by show _ = _; unfold hcell; rw [if_pos h4]
          have w4 : IntKind.i64.wrap (z.tdiv 4) = z.tdiv 4 := IntWalk.i64_in _ (tdiv_rng (by omega) ⟨zlo, zhi⟩)
          have w7 : IntKind.i64.wrap (z.tdiv 7) = z.tdiv 7 := IntWalk.i64_in _ (tdiv_rng (by omega) ⟨zlo, zhi⟩)
          have R7 := tdiv_rng (k := 7) (by omega) ⟨zlo, zhi⟩
          go_upto_region 6 with fail
          have HV : Hid (∀ y, Only [] wr.drew y → Hrw w y B g (.slice (some ⟨b, off, none⟩) m cap) l (hrowTo n l i) ∧ y.cell? ⟨b, off + i, none⟩ = some (.int .i64 z)) := fun y hy => by
            have o := (only_drew wr).trans hy
            exact ⟨HH.out.then o, by rw [o.cell (p := ⟨b, off + i, none⟩) CZ.out.2 (by simp)]; exact hcz⟩
          clear hcz h4
          refine wp_region_free 15 (Only []) (Only.refl _) (Only.trans) [(1, .slice (some ⟨b, off, none⟩) m cap), (5, .slice (some ⟨g, 0, none⟩) n n), (6, .int .i64 i)] (by intro p hp; simp only [List.mem_cons, List.not_mem_nil, or_false] at hp; rcases hp with rfl | rfl | rfl <;> rfl) (by kernel_rfl) (by kernel_rfl) (by decide) (by kernel_rfl) (by kernel_rfl) ?_
          simp only [List.take_succ_cons, List.take_zero, List.drop_succ_cons, List.drop_zero]
          iterate 4 (
            apply rf_val
            · first | rfl | exact ⟨by kernel_rfl, rfl⟩
            · intro zA v hT hf
              simp at hf
              go_simp
              try rfl)
          refine rf_val (.pointer (some ⟨b, off + i, none⟩)) (by first | rfl | exact ⟨by kernel_rfl, rfl⟩) (fun zA v hT hf => exec_atI (cap := cap) hl (.tmp 28) (.tmp 29) rfl (by simp at hf; simp [Act.eval, hf]) (by simp at hf; simp [Act.eval, hf])) ?_
          refine rf_val (.int .i64 z) (by first | rfl | exact ⟨by kernel_rfl, rfl⟩) (fun zA v hT hf => exec_int (a := ⟨b, off + i, none⟩) (.tmp 30) rfl (by simp at hf; simp [Act.eval, hf]) (HV.out v hT).2) ?_
          refine rf_val (.int .i64 (z.tdiv 4)) (by first | rfl | exact ⟨by kernel_rfl, rfl⟩) (fun zA v hT hf => ?_) ?_
          · skip
            simp at hf
            go_simp
            try rfl
          iterate 2 (
            apply rf_val
            · first | rfl | exact ⟨by kernel_rfl, rfl⟩
            · intro zA v hT hf
              simp at hf
              go_simp
              try rfl)
          refine rf_val (.pointer (some ⟨b, off + i, none⟩)) (by first | rfl | exact ⟨by kernel_rfl, rfl⟩) (fun zA v hT hf => exec_atI (cap := cap) hl (.tmp 33) (.tmp 34) rfl (by simp at hf; simp [Act.eval, hf]) (by simp at hf; simp [Act.eval, hf])) ?_
          refine rf_val (.int .i64 z) (by first | rfl | exact ⟨by kernel_rfl, rfl⟩) (fun zA v hT hf => exec_int (a := ⟨b, off + i, none⟩) (.tmp 35) rfl (by simp at hf; simp [Act.eval, hf]) (HV.out v hT).2) ?_
          refine rf_val (.int .i64 (z.tdiv 7)) (by first | rfl | exact ⟨by kernel_rfl, rfl⟩) (fun zA v hT hf => ?_) ?_
          · skip
            simp at hf
            go_simp
            try rfl
          refine rf_eff (fun _ v => v = (hin (z.tdiv 4) (z.tdiv 7)).v) (by first | rfl | exact ⟨by kernel_rfl, rfl⟩) (fun _ _ _ _ h => h) (fun z2 y hT hf => ?_) ?_
          · simp at hf
            go_simp
            refine (hinput_any _ _ R7 _).mono ?_
            rintro e y2 ⟨rfl, o⟩
            exact ⟨_, rfl, rfl, o⟩
          refine rf_val (.agg (Cl.cells ⟨true, hin (z.tdiv 4) (z.tdiv 7)⟩).toArray) (by first | rfl | exact ⟨by kernel_rfl, rfl⟩) (fun zA v hT hf => ?_) ?_
          · skip
            simp at hf
            go_simp
            try rfl
          refine rf_val (.pointer (some ⟨g, 0 + i * 4, none⟩)) (by first | rfl | exact ⟨by kernel_rfl, rfl⟩) (fun zA v hT hf => exec_atC (cap := n) hlt (.tmp 26) (.tmp 27) rfl (by simp at hf; simp [Act.eval, hf]) (by simp at hf; simp [Act.eval, hf])) ?_
          intro w6 hy
          simp only [FinA, Sp.R, forall_eq]
          simp only [Act.put, List.setIfInBounds_toArray, List.set_cons_succ, List.set_cons_zero]
          have H6 : Hid _ := (HV.out w6 hy).1
          clear hy HV HH CZ w4 w7
          rw [Nat.zero_add]
          refine op_storeC (xs := hrowTo n l i) (ys := []) rfl (by rw [List.append_nil]; exact H6.out.row) (i := i) (by rw [hrowTo_len]; exact hlt) ⟨true, hin (z.tdiv 4) (z.tdiv 7)⟩ (.tmp 40) (.tmp 39) rfl (by kernel_rfl) (by kernel_rfl) ?_
          intro w7 hb o7 hz7
          rw [List.append_nil, ← HC.out, SET.out] at hb
          have H7 : Hid _ := H6.out.put hb o7
          clear hb o7 hz7 H6
          simp only [Act.put, List.setIfInBounds_toArray, List.set_cons_succ, List.set_cons_zero]
          refine wpList_nil ?_
          go_wp2_with fail
          go_roundg (n + 1 - (i + 1))
          case measure => omega
          case rel => exact ⟨i + 1, by go_num, by omega, by omega, H7.out⟩
        · have H7 : Hid (Hrw w wr B g (.slice (some ⟨b, off, none⟩) m cap) l (hrowTo n l (i + 1))) := by rw [SAME.out h4]; exact HH.out
          go_wp2_with fail
          go_roundg (n + 1 - (i + 1))
          case measure => omega
          case rel => exact ⟨i + 1, by go_num, by omega, by omega, H7.out⟩
      · have z2 : ¬ (i : Int) < (m : Int) := by omega
        have E : Hid (Hrw w wr B g (.slice a m cap) l (hrow n l)) := by rw [← hrowTo_all n l i hi (Or.inr (by rw [HM.out]; omega))]; exact HH.out
        go_wp2_with fail
        go_ret
        exact ⟨rfl, E.out.row, E.out.only⟩
    · have z1 : ¬ (i : Int) < (n : Int) := by omega
      have E : Hid (Hrw w wr B g (.slice a m cap) l (hrow n l)) := by rw [← hrowTo_all n l i hi (Or.inl (by omega))]; exact HH.out
      go_wp2_with fail
      go_ret
      exact ⟨rfl, E.out.row, E.out.only⟩
end Go.Proofs.Ytngbannidbijmaa
namespace Go.Proofs.Ytngbannidbijmaa
open Go.RowKit
set_option linter.unusedVariables false
set_option linter.unusedSimpArgs false

theorem at_ints {g off n cap k : Nat} (hk : k < n) (w : World) : (Instr.indexAt 54 (.slice (some ⟨g, off, none⟩) n cap) (.int .i64 (k : Nat))).run Try.prog w = .ok (.pointer (some ⟨g, off + k, none⟩)) w := by
  have hs : (sizeOf (Try.prog.elem 54)).run Try.prog w = .ok 1 w := by kernel_rfl
  rw [run_indexAt_slice (h := by kernel_rfl), if_pos ⟨by omega, by omega⟩, hs]
  simp [Result.andThen, Addr.add_lit]
theorem exec_atIs {w : World} {o : Oper} {act : Act} {g off n cap k : Nat} (hk : k < n) (x y : Operand) (ho : o.op = .indexAddr 54 x y) (hx : act.eval x = .slice (some ⟨g, off, none⟩) n cap) (hy : act.eval y = .int .i64 (k : Nat)) : (execOp act.eval o).run Try.prog w = .ok (.value (.pointer (some ⟨g, off + k, none⟩))) w := by
  simp only [execOp, ho, hx, hy, Sem.run_bind, at_ints hk, Result.andThen_ok, Sem.run_pure]
theorem exec_ldI {w : World} {o : Oper} {act : Act} {a : Addr} {b : Option Addr} {n c : Nat} (x : Operand) (ho : o.op = .load 26 x) (hx : act.eval x = .pointer (some a)) (h : w.cell? a = some (.slice b n c)) : (execOp act.eval o).run Try.prog w = .ok (.value (.slice b n c)) w := by
  simp only [execOp, ho, hx]
  go_simp
theorem RdG.row {B : Nat} {w : World} {v : Value} {ls : List (List Int)} (h : RdG 1 rInts B w v ls) {i : Nat} {l : List Int} (hl : ls[i]? = some l) : ∃ b off cap a n c, v = .slice (some ⟨b, off, none⟩) ls.length cap ∧ b < B ∧ b < w.heap.size ∧ w.cell? ⟨b, off + i, none⟩ = some (.slice a n c) ∧ RdG 1 (rInt .i64) B w (.slice a n c) l := by
  obtain ⟨b, off, cap, h1, h2, h3, cs, ⟨v', rfl, hv⟩, _, hc⟩ := h.get hl
  obtain ⟨a, c, rfl, _, _⟩ := hv.form
  have := hc 0 (by omega)
  exact ⟨b, off, cap, a, _, c, h1, h2, h3, by simpa using this, hv⟩
/-- where Rows stands -/
structure Hrs (w W : World) (B : Nat) (lv ov : Value) (ls : List (List Int)) (ss : List Sl) (rows : List (List Cl)) : Prop where
  own : Own elR w.heap.size W ov ss
  len : ss.length = rows.length
  each : ∀ (i : Nat) (s : Sl) (row : List Cl), ss[i]? = some s → rows[i]? = some row → ∃ g, s = (⟨some ⟨g, 0, none⟩, row.length, row.length⟩ : Sl) ∧ Blk W g (elC.flat row) ∧ ov.ownBlock ≠ some g ∧ row.length ≤ 8
  rd : RdG 1 rInts B W lv ls
  only : Only [] w W
  le : B ≤ w.heap.size
theorem Hrs.then {w W W' : World} {B : Nat} {lv ov : Value} {ls : List (List Int)} {ss : List Sl} {rows : List (List Cl)} (h : Hrs w W B lv ov ls ss rows) (o : Only [] W W') : Hrs w W' B lv ov ls ss rows :=
  ⟨h.own.only o (by simp), h.len, fun i s row h1 h2 => by obtain ⟨g, k1, k2, k3, k4⟩ := h.each i s row h1 h2; exact ⟨g, k1, k2.only o (by simp), k3, k4⟩, h.rd.only rInts_st o (by simp), h.only.trans o, h.le⟩
theorem Hrs.app {w W W' : World} {B : Nat} {lv ov ov' : Value} {ls : List (List Int)} {ss : List Sl} {rows : List (List Cl)} (h : Hrs w W B lv ov ls ss rows) {g : Nat} {row : List Cl} (hr : row.length ≤ 8) (hb : Blk W g (elC.flat row)) (hn : ov.ownBlock ≠ some g) (A : AppG elR w.heap.size W ov W' ov' (ss ++ [(⟨some ⟨g, 0, none⟩, row.length, row.length⟩ : Sl)])) : Hrs w W' B lv ov' ls (ss ++ [(⟨some ⟨g, 0, none⟩, row.length, row.length⟩ : Sl)]) (rows ++ [row]) := by
  have key : ∀ g, Blk W g (elC.flat row) ∨ True → ∀ (cs : List Value), Blk W g cs → ov.ownBlock ≠ some g → Blk W' g cs ∧ ov'.ownBlock ≠ some g := fun g _ cs hb hn => by
    refine ⟨hb.only A.only (fun hm => hn (by simpa [Option.mem_toList] using hm)), fun e => ?_⟩
    rcases A.at_ with h | h
    · exact hn (h ▸ e)
    · rw [h] at e; injection e with e; have := hb.lt; omega
  refine ⟨A.row, by simp [h.len], fun i s r h1 h2 => ?_, h.rd.only rInts_st A.only (fun x hx => ?_), h.only.then A.only (fun x hx hl => ?_), h.le⟩
  · rcases Nat.lt_or_ge i ss.length with hi | hi
    · rw [List.getElem?_append_left hi] at h1
      rw [List.getElem?_append_left (by rw [← h.len]; exact hi)] at h2
      obtain ⟨g', k1, k2, k3, k4⟩ := h.each i s r h1 h2
      obtain ⟨q1, q2⟩ := key g' (Or.inr trivial) _ k2 k3
      exact ⟨g', k1, q1, q2, k4⟩
    · have hi2 : i = ss.length := by
        have := (List.getElem?_eq_some_iff.1 h1).1
        simp at this; omega
      subst hi2
      rw [List.getElem?_append_right (Nat.le_refl _)] at h1
      rw [List.getElem?_append_right (by rw [h.len]; exact Nat.le_refl _)] at h2
      simp at h1
      rw [h.len] at h2
      simp at h2
      subst h1 h2
      obtain ⟨q1, q2⟩ := key g (Or.inr trivial) _ hb hn
      exact ⟨g, rfl, q1, q2, hr⟩
  · have hx : ov.ownBlock = some x := by simpa [Option.mem_toList] using hx
    have := (h.own.lt x hx).1; have := h.le; omega
  · have hx : ov.ownBlock = some x := by simpa [Option.mem_toList] using hx
    have := (h.own.lt x hx).1; omega
/-- .. as they are read -/
theorem Hrs.rdr {w W : World} {B : Nat} {lv ov : Value} {ls : List (List Int)} {ss : List Sl} {rows : List (List Cl)} (h : Hrs w W B lv ov ls ss rows) : RdG 1 rRow W.heap.size W ov rows := by
  obtain ⟨a, cap, hv, h1, h2⟩ := h.own.form
  obtain ⟨a', cap', hv', _, _, hc⟩ := h.own.rd
  rw [hv] at hv'
  injection hv' with e1 _ e3
  subst e1 e3
  refine ⟨a, cap, by rw [hv, h.len], by rw [← h.len]; exact h1, h2, ?_⟩
  rcases hc with hc | ⟨b, off, rfl, hb, hc⟩
  · left
    have := h.len
    rw [hc] at this
    exact List.length_eq_zero_iff.1 this.symm
  · refine Or.inr ⟨b, off, rfl, hb, hb, fun i row hrow => ?_⟩
    have hi : i < ss.length := by rw [h.len]; exact (List.getElem?_eq_some_iff.1 hrow).1
    obtain ⟨g, k1, k2, k3, k4⟩ := h.each i _ row (List.getElem?_eq_getElem hi) hrow
    refine ⟨[.slice (some ⟨g, 0, none⟩) row.length row.length], ⟨_, rfl, rdc_blk (ys := []) (by rw [List.append_nil]; exact k2) (Nat.le_refl _) (by omega) k2.lt⟩, rfl, fun j hj => ?_⟩
    have e := elR_ok.flat_get ss i _ (List.getElem?_eq_getElem hi) j hj
    rw [k1] at e
    have hj0 : j = 0 := by omega
    subst hj0
    have := hc (i * 1 + 0) _ e
    exact this
set_option maxRecDepth 100000 in
set_option maxHeartbeats 4000000 in
theorem hrows_any {B : Nat} {w : World} {lv : Value} {ls : List (List Int)} (n : Nat) (hn : n ≤ 8) (h : RdG 1 rInts B w lv ls) (hB : B ≤ w.heap.size) : Calls Try.prog 20 #[.int .i64 (n : Nat), lv] w fun e w' => ∃ ov ss, e = .returned ov ∧ Hrs w w' B lv ov ls ss (hrows n ls) := by
  obtain ⟨a, cap, hv, hnc, hcap⟩ := h.form
  obtain ⟨m, hm⟩ : ∃ m, ls.length = m := ⟨_, rfl⟩
  have HM : Hid (ls.length = m) := hm
  rw [hm] at hv hnc
  subst hv
  have hm9 : m ≤ 9223372036854775807 := by omega
  have H0 : Hid (Hrs w w B (.slice a m cap) (.slice none 0 0) ls [] ((ls.take 0).map (hrow n))) := ⟨Own.nil elR _ w, rfl, fun i s row h => by simp at h, h, Only.refl _ _, hB⟩
  have FIN : Hid (∀ i, (i = 40 ∨ m ≤ i) → i ≤ 40 → (ls.take i).map (hrow n) = hrows n ls) := fun i h1 h2 => by
    unfold hrows
    rcases h1 with h1 | h1
    · rw [h1]
    · rw [List.take_of_length_le (by rw [hm]; exact h1), List.take_of_length_le (by rw [hm]; omega)]
  clear h hB hm hnc hcap
  go_enter Try.func20, Try.ntmps20
  go_wp2_with fail
  go_loopg [5, 6] 41 (fun gk vo vi wr => ∃ (i : Nat) (ov : Value) (ss : List Sl), vo = ov ∧ vi = .int .i64 i ∧ i ≤ 40 ∧ 41 - i ≤ gk ∧ Hid (Hrs w wr B (.slice a m cap) ov ls ss ((ls.take i).map (hrow n)) ∧ ss.length = i ∧ i ≤ m))
  case atStart => exact ⟨0, _, [], rfl, rfl, by omega, by omega, H0.out, rfl, by omega⟩
  case round =>
    clear H0
    obtain ⟨i, ov, ss, rfl, rfl, hi, hgk, HH⟩ := hrel
    have z0 : (0 : Int) ≤ (i : Int) := by omega
    obtain ⟨oa, oc, hov, hoc, hoc2⟩ := HH.out.1.own.form
    rw [HH.out.2.1] at hov hoc
    subst hov
    by_cases hl : i < m
    · have z2 : (i : Int) < (m : Int) := by omega
      by_cases hlt : i < 40
      · have z1 : (i : Int) < 40 := by omega
        obtain ⟨l, hl2⟩ : ∃ l, ls[i]? = some l := ⟨_, List.getElem?_eq_getElem (by rw [HM.out]; exact hl)⟩
        obtain ⟨b, off, cap', la, ln, lc, hv, hbB, hbl, hcz, RL⟩ := HH.out.1.rd.row hl2
        injection hv with e1 e2 e3
        subst e1 e3
        clear e2
        have NX : Hid ((ls.take (i + 1)).map (hrow n) = (ls.take i).map (hrow n) ++ [hrow n l]) := by show _ = _; rw [List.take_add_one, hl2]; simp
        have RL : Hid _ := RL
        have CZ : Hid (wr.cell? ⟨b, off + i, none⟩ = some (.slice la ln lc)) := hcz
        clear hcz hbB hbl hl2
        go_upto_region 5 with fail
        apply wp_region_lit
        refine op_val (w' := wr) rfl (.slice oa i oc) (by kernel_rfl) ?_
        simp only [Act.put, List.setIfInBounds_toArray, List.set_cons_succ, List.set_cons_zero]
        refine op_val (w' := wr) rfl (.int .i64 n) (by kernel_rfl) ?_
        simp only [Act.put, List.setIfInBounds_toArray, List.set_cons_succ, List.set_cons_zero]
        refine op_val (w' := wr) rfl (.slice (some ⟨b, off, none⟩) m cap) (by kernel_rfl) ?_
        simp only [Act.put, List.setIfInBounds_toArray, List.set_cons_succ, List.set_cons_zero]
        refine op_val (w' := wr) rfl (.int .i64 i) (by kernel_rfl) ?_
        simp only [Act.put, List.setIfInBounds_toArray, List.set_cons_succ, List.set_cons_zero]
        refine op_val (w' := wr) rfl (.pointer (some ⟨b, off + i, none⟩)) (exec_atIs (cap := cap) hl (.tmp 19) (.tmp 20) rfl (by kernel_rfl) (by kernel_rfl)) ?_
        simp only [Act.put, List.setIfInBounds_toArray, List.set_cons_succ, List.set_cons_zero]
        refine op_val (w' := wr) rfl (.slice la ln lc) (exec_ldI (a := ⟨b, off + i, none⟩) (.tmp 21) rfl (by kernel_rfl) CZ.out) ?_
        simp only [Act.put, List.setIfInBounds_toArray, List.set_cons_succ, List.set_cons_zero]
        refine op_call (F := 27) (args := #[.int .i64 (n : Nat), .slice la ln lc]) (w1 := wr) rfl (by kernel_rfl) ?_
        refine (hrow_any n hn RL.out (by have := HH.out.1.le; have := HH.out.1.only.size; omega)).mono ?_
        rintro e w2 ⟨rfl, hb, o⟩
        refine ⟨_, rfl, ?_⟩
        simp only [Act.put, List.setIfInBounds_toArray, List.set_cons_succ, List.set_cons_zero]
        obtain ⟨g, hg⟩ : ∃ g, wr.heap.size = g := ⟨_, rfl⟩
        have H2 : Hid (Hrs w w2 B (.slice (some ⟨b, off, none⟩) m cap) (.slice oa i oc) ls ss ((ls.take i).map (hrow n)) ∧ Blk w2 g (elC.flat (hrow n l)) ∧ (Value.slice oa i oc).ownBlock ≠ some g) := ⟨HH.out.1.then o, hg ▸ hb, fun e => by have := (HH.out.1.own.lt g e).2; omega⟩
        have HS : Hid (ss.length = i ∧ (hrow n l).length = n) := ⟨HH.out.2.1, hrowTo_len _ _ _⟩
        rw [hg]
        clear HH RL CZ hb o hg
        refine op_val (w' := w2.alloc (.cells #[.slice (some ⟨g, 0, none⟩) n n] 45)) rfl (.slice (some ⟨w2.heap.size, 0, none⟩) 1 1) (by kernel_rfl) ?_
        simp only [Act.put, List.setIfInBounds_toArray, List.set_cons_succ, List.set_cons_zero]
        have o23 : Only [] w2 (w2.alloc (.cells #[.slice (some ⟨g, 0, none⟩) n n] 45)) := (Only.refl _ _).alloc _
        have H3 := H2.out.1.then o23
        refine app_g elR_ok rfl (.tmp 17) (.tmp 24) rfl (by kernel_rfl) (by kernel_rfl) H3.own (rdx_new elR_ok w2 [(⟨some ⟨g, 0, none⟩, n, n⟩ : Sl)] (by show 1 ≤ maxLen; decide)) (by have := HS.out.1; show ss.length + 1 ≤ _; omega) (by have := H3.only.size; exact this) ?_
        intro v' w4 A
        have H4 : Hid (Hrs w w4 B (.slice (some ⟨b, off, none⟩) m cap) v' ls (ss ++ [(⟨some ⟨g, 0, none⟩, n, n⟩ : Sl)]) ((ls.take (i + 1)).map (hrow n))) := by
          rw [NX.out]
          have e := HS.out.2
          have := H3.app (row := hrow n l) (g := g) (by rw [e]; exact hn) (H2.out.2.1.only o23 (by simp)) H2.out.2.2 (ov' := v') (W' := w4)
          rw [e] at this
          exact this A
        clear A H3 H2 o23
        obtain ⟨va, vc, hv', -, -⟩ := H4.out.own.form
        subst hv'
        simp only [Act.put, List.setIfInBounds_toArray, List.set_cons_succ, List.set_cons_zero]
        refine op_val (w' := w4) rfl (.slice va (ss ++ [(⟨some ⟨g, 0, none⟩, n, n⟩ : Sl)]).length vc) (by kernel_rfl) ?_
        simp only [Act.put, List.setIfInBounds_toArray, List.set_cons_succ, List.set_cons_zero]
        refine wpList_nil ?_
        go_wp2_with fail
        go_roundg (41 - (i + 1))
        case measure => omega
        case rel => exact ⟨i + 1, _, _, rfl, by go_num, by omega, by omega, H4.out, by have := HS.out.1; simp; omega, by omega⟩
      · have z1 : ¬ (i : Int) < 40 := by omega
        have E : Hid (Hrs w wr B (.slice a m cap) (.slice oa i oc) ls ss (hrows n ls)) := by rw [← FIN.out i (Or.inl (by omega)) hi]; exact HH.out.1
        go_wp2_with fail
        go_ret
        first | exact ⟨_, rfl, ss, E.out⟩ | exact ⟨_, ss, rfl, E.out⟩
    · have z2 : ¬ (i : Int) < (m : Int) := by omega
      have E : Hid (Hrs w wr B (.slice a m cap) (.slice oa i oc) ls ss (hrows n ls)) := by rw [← FIN.out i (Or.inr (by omega)) hi]; exact HH.out.1
      go_wp2_with fail
      go_ret
      first | exact ⟨_, rfl, ss, E.out⟩ | exact ⟨_, ss, rfl, E.out⟩
end Go.Proofs.Ytngbannidbijmaa

/- Package step: input. Package step: play. Package step: moveAll. -/
import Derived.Test.YtngbannidbijmaaStepF
import Derived.StillTailTactics
namespace Go.Proofs.Ytngbannidbijmaa
open Go.RowKit
set_option linter.unusedVariables false
set_option linter.unusedSimpArgs false

/-- an input in a block of its own -/
def Inp.cells (i : Inp) : List Value := [.int .i64 i.b, .int .i64 i.x, .int .i64 i.y]
structure Ib (w : World) (p : Nat) (i : Inp) : Prop where
  blk : Blk w p i.cells
theorem Ib.only {w w' : World} {p : Nat} {i : Inp} {S : List Nat} (h : Ib w p i) (o : Only S w w') (hn : p ∉ S) : Ib w' p i := ⟨h.blk.only o hn⟩
theorem Ib.new (i : Inp) (w : World) (t : TypeId) : Ib (w.alloc (.cells #[.int .i64 i.b, .int .i64 i.x, .int .i64 i.y] t)) w.heap.size i := ⟨Blk.new w _ _⟩
theorem info_in : (Try.prog.info? 41).map (·.size) = some 3 := by kernel_rfl
section
variable {w : World} {ops : Array Oper} {rest : List Oper} {o : Oper} {act : Act} {Q : Exit → Act → World → Prop} {p : Nat}
theorem opg_ib {i : Inp} (hw : Region.wanted o (yielded ops act.tmps) = true) {off : Nat} (x : Operand) (ho : o.op = .load 41 x) (hx : act.eval x = .pointer (some ⟨p, off, none⟩)) (hc : ∀ j v, i.cells[j]? = some v → w.cell? ⟨p, off + j, none⟩ = some v) (h : wpList Try.prog ops Q rest (act.put o.dst i.v) w) : wpList Try.prog ops Q (o :: rest) act w :=
  opg_loads hw (cs := i.cells) 41 x ho hx Try.underlying41 info_in hc h
theorem op_storeIb {i0 i : Inp} (hgd : o.guard = none) (h : Ib w p i0) (x y : Operand) (ho : o.op = .store 41 x y) (hx : act.eval x = .pointer (some ⟨p, 0, none⟩)) (hy : act.eval y = i.v)
    (k : ∀ w', Ib w' p i → Only [p] w w' → w'.heap.size = w.heap.size → wpList Try.prog ops Q rest (act.put o.dst undef) w') : wpList Try.prog ops Q (o :: rest) act w := by
  refine op_store (vs := i.cells) (cs := i0.cells) hgd 41 x y ho 0 hx hy h.blk info_in (by simp [Inp.cells]) (by intro v hv; simp only [Inp.cells, List.mem_cons, List.not_mem_nil, or_false] at hv; rcases hv with rfl | rfl | rfl <;> rfl) ?_
  intro w' hb o2 hz
  rw [List.take_zero, List.nil_append, List.drop_of_length_le (by simp [Inp.cells]), List.append_nil] at hb
  exact k w' ⟨hb⟩ o2 hz
end
theorem res_in {n : Nat} {fn : Func} {W : World} {p : Nat} {i : Inp} {tm : Array Value} (h : Ib W p i) (hr : fn.results = #[.cell n 41]) (hp : tm.getD n undef = .pointer (some ⟨p, 0, none⟩)) : (results fn tm).run Try.prog W = .ok i.v W := by
  obtain ⟨t, ht⟩ := h.blk
  have hu : ∃ f, Try.prog.underlying 41 = some (.struct f) := ⟨_, Try.underlying41⟩
  obtain ⟨f, hu⟩ := hu
  exact results_cell_row (P := Try.prog) hr tm W p t i.cells.toArray (0, 0) _ hp ht hu rfl (by kernel_rfl)
theorem input_at {row : List Cl} {k : Nat} {cl : Cl} (hk : k < row.length) (h : row.getD k ⟨false, ⟨0, 0, 0⟩⟩ = cl) : Step.input row k = Step.inp cl.i := by
  unfold Step.input
  rw [if_pos (by omega), show (k : Int).toNat = k by omega, h]
/-- what input has laid: its result -/
structure Ip (w W : World) (q : Nat) (i : Inp) : Prop where
  res : Ib W q i
  only : Only [] w W
  base : w.heap.size = q
theorem Ip.then {w W W' : World} {q : Nat} {i : Inp} (h : Ip w W q i) (o : Only [] W W') : Ip w W' q i := ⟨h.res.only o (by simp), h.only.trans o, h.base⟩
theorem Ip.put {w W W' : World} {q : Nat} {i j : Inp} (h : Ip w W q i) (hb : Ib W' q j) (o : Only [q] W W') : Ip w W' q j := ⟨hb, h.only.then o (fun x hx hl => by have := h.base; have h2 : x = q := (by simpa using hx); omega), h.base⟩
set_option maxRecDepth 100000 in
set_option maxHeartbeats 1000000 in
theorem input_any {B : Nat} {w : World} {rv : Value} {row : List Cl} (h : RdC B w rv row) (k : Nat) : Calls Try.prog 55 #[rv, .int .i64 (k : Nat)] w fun e w' => e = .returned (Step.input row k).v ∧ Only [] w w' := by
  have hnot : ∀ (x : Bool) (w : World), (Op.unary .not (.bool x)).run Try.prog w = .ok (.bool (!x)) w := fun _ _ => rfl
  obtain ⟨a, cap, rfl, hcap, hcm, hr⟩ := h
  obtain ⟨n, hN⟩ : ∃ n, row.length = n := ⟨_, rfl⟩
  rw [hN] at hcap ⊢
  obtain ⟨q, hq⟩ : ∃ q, w.heap.size = q := ⟨_, rfl⟩
  have H0 : Hid (Ip w (w.alloc (.cells #[.int .i64 0, .int .i64 0, .int .i64 0] 41)) q ⟨0, 0, 0⟩) := ⟨hq ▸ Ib.new ⟨0, 0, 0⟩ w _, (Only.refl [] _).alloc _, hq⟩
  have zero : ∀ (E : Step.input row k = ⟨0, 0, 0⟩) (W : World), Ip w W q ⟨0, 0, 0⟩ → ∀ (W' : World), Only [q] W W' → Ib W' q ⟨0, 0, 0⟩ → Ending.returned (Inp.v ⟨0, 0, 0⟩) = Ending.returned (Step.input row k).v ∧ Only [] w W' := fun E W h W' o hb => ⟨by rw [E], (h.put hb o).only⟩
  by_cases hk : k < n
  rotate_left
  · have E : Hid (Step.input row k = ⟨0, 0, 0⟩) := by show _ = _; unfold Step.input; rw [if_neg (by omega)]
    have z1 : (n : Int) ≤ (k : Int) := by omega
    clear hr hN
    go_enter Try.func55, Try.ntmps55
    go_upto_region 1 with fail
    change Code.wp _ _ _ _ (w.alloc (.cells #[.int .i64 0, .int .i64 0, .int .i64 0] 41))
    try simp only [hq]
    generalize w.alloc (.cells #[.int .i64 0, .int .i64 0, .int .i64 0] 41) = w1 at *
    clear hq
    go_upto_region 2 with fail
    apply wp_region_lit
    refine op_val (w' := w1) rfl (Inp.v ⟨0, 0, 0⟩) (by kernel_rfl) ?_
    simp only [Act.put, List.setIfInBounds_toArray, List.set_cons_succ, List.set_cons_zero]
    refine op_storeIb (i := ⟨0, 0, 0⟩) rfl H0.out.res (.tmp 4) (.tmp 10) rfl (by kernel_rfl) (by kernel_rfl) ?_
    intro w2 hb o2 hz
    have Z := zero E.out w1 H0.out w2 o2 hb
    refine wpList_nil ?_
    go_wp2_with fail
    exact bodyPost_ret (res_in hb Try.results55 rfl) rfl Z
  · have z1 : ¬ (n : Int) ≤ (k : Int) := by omega
    have z0 : (0 : Int) ≤ (k : Int) := by omega
    have z2 : (k : Int) < (n : Int) := by omega
    obtain ⟨cl, hcl⟩ : ∃ cl, row.getD k ⟨false, ⟨0, 0, 0⟩⟩ = cl := ⟨_, rfl⟩
    have E : Hid (Step.input row k = Step.inp cl.i) := input_at (by rw [hN]; exact hk) hcl
    rcases hr with hr | ⟨b, off, hab, hbB, hb, hc⟩
    · rw [hr] at hN; simp at hN; omega
    subst hab
    have HC : Hid (b < w.heap.size ∧ ∀ j v, cl.cells[j]? = some v → w.cell? ⟨b, off + k * 4 + j, none⟩ = some v) := ⟨hb, fun j v hj => hc k (by rw [hN]; exact hk) j v (by rw [hcl]; exact hj)⟩
    clear hc hcl hN hcap hcm hb hbB
    go_enter Try.func55, Try.ntmps55
    go_upto_region 1 with fail
    change Code.wp _ _ _ _ (w.alloc (.cells #[.int .i64 0, .int .i64 0, .int .i64 0] 41))
    have HW : Hid (∀ j v, cl.cells[j]? = some v → (w.alloc (.cells #[.int .i64 0, .int .i64 0, .int .i64 0] 41)).cell? ⟨b, off + k * 4 + j, none⟩ = some v) := fun j v hj => (H0.out.only.cell (p := ⟨b, off + k * 4 + j, none⟩) HC.out.1 (by simp)).trans (HC.out.2 j v hj)
    try simp only [hq]
    generalize w.alloc (.cells #[.int .i64 0, .int .i64 0, .int .i64 0] 41) = w1 at *
    clear hq
    clear zero
    obtain ⟨i, hi⟩ : ∃ i, cl.i = i := ⟨_, rfl⟩
    have EI : Hid (Step.input row k = Step.inp i) := by show _ = _; rw [E.out, hi]
    clear E
    have HI : Hid (∀ j v, i.cells[j]? = some v → w1.cell? ⟨b, off + k * 4 + 1 + j, none⟩ = some v) := fun j v hj => by
      have h3 : j < 3 := by have := (List.getElem?_eq_some_iff.1 hj).1; simpa [Inp.cells] using this
      have h4 : cl.cells[j + 1]? = some v := by rw [← hj, ← hi]; rfl
      have := HW.out (j + 1) v h4
      rwa [show off + k * 4 + (j + 1) = off + k * 4 + 1 + j by omega] at this
    clear hi HC HW
    go_upto_region 3 with fail
    apply wp_region_lit
    refine op_val (w' := w1) rfl (.slice (some ⟨b, off, none⟩) n cap) (by kernel_rfl) ?_
    simp only [Act.put, List.setIfInBounds_toArray, List.set_cons_succ, List.set_cons_zero]
    refine op_val (w' := w1) rfl (.int .i64 k) (by kernel_rfl) ?_
    simp only [Act.put, List.setIfInBounds_toArray, List.set_cons_succ, List.set_cons_zero]
    refine op_val (w' := w1) rfl (.pointer (some ⟨b, off + k * 4, none⟩)) (by simp only [execOp]; go_simp) ?_
    simp only [Act.put, List.setIfInBounds_toArray, List.set_cons_succ, List.set_cons_zero]
    refine op_val (w' := w1) rfl (.pointer (some ⟨b, off + k * 4 + 1, none⟩)) (by kernel_rfl) ?_
    simp only [Act.put, List.setIfInBounds_toArray, List.set_cons_succ, List.set_cons_zero]
    refine opg_ib (by kernel_rfl) (.tmp 14) rfl (by kernel_rfl) HI.out ?_
    simp only [Act.put, List.setIfInBounds_toArray, List.set_cons_succ, List.set_cons_zero]
    refine op_val (w' := w1.alloc (.cells #[.int .i64 0, .int .i64 0, .int .i64 0] 41)) rfl (.pointer (some ⟨w1.heap.size, 0, none⟩)) (by kernel_rfl) ?_
    simp only [Act.put, List.setIfInBounds_toArray, List.set_cons_succ, List.set_cons_zero]
    refine op_storeIb (p := w1.heap.size) (i := i) rfl (Ib.new ⟨0, 0, 0⟩ _ _) (.tmp 5) (.tmp 15) rfl (by kernel_rfl) (by kernel_rfl) ?_
    intro w2 hb o2 hz
    have o12 : Only [] w1 w2 := ((Only.refl [] w1).alloc _).then o2 (fun u hu hl => by have h2 : u = w1.heap.size := (by simpa using hu); omega)
    have H2 : Hid (Ip w w2 q ⟨0, 0, 0⟩ ∧ Ib w2 w1.heap.size i) := ⟨H0.out.then o12, hb⟩
    generalize w1.heap.size = t at *
    clear o12 hb o2 hz H0 HI
    simp only [Act.put, List.setIfInBounds_toArray, List.set_cons_succ, List.set_cons_zero]
    refine wpList_nil ?_
    have c0 : w2.cell? ⟨t, 0, none⟩ = some (.int .i64 i.b) := H2.out.2.blk.cell 0
    have c1 : w2.cell? ⟨t, 1, none⟩ = some (.int .i64 i.x) := H2.out.2.blk.cell 1
    have c2 : w2.cell? ⟨t, 2, none⟩ = some (.int .i64 i.y) := H2.out.2.blk.cell 2
    go_wp2_with fail
    go_still_tail 10, (by kernel_rfl)
    still_call (swithin_any _ _ _ _)
    repeat still_step
    still_call (swithin_any _ _ _ _)
    repeat still_step
    still_call (swithin_any _ _ _ _)
    repeat still_step
    refine wpStill_nil ?_
    change wpList _ _ _ _ _ w2.drew
    have H3 : Hid (Ip w w2.drew q ⟨0, 0, 0⟩) := H2.out.1.then (only_drew w2)
    clear H2 c0 c1 c2
    generalize w2.drew = w3 at *
    refine op_storeIb (i := Step.inp i) rfl H3.out.res (.tmp 4) (.tmp 25) rfl (by kernel_rfl) (by kernel_rfl) ?_
    intro w4 hb o4 hz
    have Z := (H3.out.put hb o4).only
    refine wpList_nil ?_
    go_wp2_with fail
    exact bodyPost_ret (res_in hb Try.results55 rfl) rfl ⟨by rw [EI.out], Z⟩
end Go.Proofs.Ytngbannidbijmaa
namespace Go.Proofs.Ytngbannidbijmaa
open Go.RowKit
set_option linter.unusedVariables false
set_option linter.unusedSimpArgs false

/-- what play makes of what a Run answers -/
def Step.playOf (b : Bd) (d : Int) (sh : List Bd) : Ev × Int × Int × Bool → Bd × Int × List Bd
  | (e, _, _, true) => (e.b, e.d, sh ++ e.sh)
  | (_, _, _, false) => (Step.fault b, d, sh)
theorem play_of (l : List Op3) (b : Bd) (i : Inp) (m : Step.M) : Step.play l b i m = Step.playOf b m.d m.sh (Rule.run l (Step.envp b i m.d ((Step.free m.bs : Int) - (m.sh.length : Int)))) := by
  unfold Step.play
  generalize Rule.run l (Step.envp b i m.d ((Step.free m.bs : Int) - (m.sh.length : Int))) = R
  obtain ⟨e, c, a, ok⟩ := R
  cases ok <;> rfl
/-- what play leaves: the frame with other dice and more that was fired -/
def PlayPost (w : World) (B p : Nat) (c : Cf) (rv tv : Value) (s : Gs) (fv : Value) (r : Bd × Int × List Bd) (e : Ending) (w' : World) : Prop :=
  e = .returned r.1.v ∧ ∃ fv', Fr w' p c rv tv { s with d := r.2.1 } fv' ∧ SR B w' fv' r.2.2 ∧ Only (p :: fv.ownBlock.toList) w w' ∧ (fv'.ownBlock = fv.ownBlock ∨ ∀ g, fv'.ownBlock = some g → w.heap.size ≤ g)
theorem wrap_div {n : Int} (h : -64 ≤ n ∧ n ≤ 64) : IntKind.i64.wrap (n.tdiv 16) = n.tdiv 16 := by
  have : -64 ≤ n.tdiv 16 ∧ n.tdiv 16 ≤ 64 := by
    rcases Int.lt_or_le n 0 with g | g
    · have e : n.tdiv 16 = -((-n).tdiv 16) := by rw [Int.neg_tdiv, Int.neg_neg]
      have := Int.tdiv_nonneg (a := -n) (b := 16) (by omega) (by omega)
      have h2 : (-n).tdiv 16 ≤ -n := Int.tdiv_le_self _ (by omega)
      omega
    · have := Int.tdiv_nonneg (a := n) (b := 16) g (by omega)
      have h2 : n.tdiv 16 ≤ n := Int.tdiv_le_self _ g
      omega
  exact IntWalk.i64_in _ (by omega)
theorem RdO.upto {B B' : Nat} {w : World} {v : Value} {l : List Op3} (h : RdO B w v l) (hb : B ≤ B') : RdO B' w v l := by
  obtain ⟨a, cap, rfl, h1, h⟩ := h
  refine ⟨a, cap, rfl, h1, ?_⟩
  rcases h with h | ⟨b, off, rfl, hB, h⟩
  · exact Or.inl h
  · exact Or.inr ⟨b, off, rfl, Nat.lt_of_lt_of_le hB hb, h⟩
theorem exec_envp {w : World} {z : Act} {o : Oper} {b : Bd} {i : Inp} {d n : Int} {x0 x1 x2 x3 : Operand} (e0 : z.eval x0 = (Body.push b (i.x.tdiv 16) (i.y.tdiv 16)).v) (e1 : z.eval x1 = i.v) (e2 : z.eval x2 = .int .u64 d) (e3 : z.eval x3 = .int .i64 n) (ho : o.op = .build 108 #[(0, x0), (1, x1), (2, x2), (3, x3)] := by rfl) : (execOp z.eval o).run Try.prog w = .ok (.value ((Step.envp b i d n).v (.slice none 0 0))) w := by
  simp only [execOp, ho, List.map_toArray, List.map_cons, List.map_nil, e0, e1, e2, e3]
  show _ = _
  kernel_rfl
/-- what play has laid -/
structure Pl (w W : World) (B p q : Nat) (c : Cf) (rv tv fv : Value) (s : Gs) (sh : List Bd) (b : Bd) (i : Inp) : Prop where
  fr : Fr W p c rv tv s fv
  row : SR B W fv sh
  ops : RdO w.heap.size W rv c.rules
  body : Bl W q b
  inp : Ib W (q + 1) i
  res : Bl W (q + 2) Body.zero
  only : Only [] w W
  base : w.heap.size = q
  sz : q + 3 ≤ W.heap.size
  lt : p < w.heap.size
  own : ∀ g, fv.ownBlock = some g → g < w.heap.size
theorem Pl.off {w W W' : World} {B p q : Nat} {c : Cf} {rv tv fv : Value} {s : Gs} {sh : List Bd} {b : Bd} {i : Inp} (h : Pl w W B p q c rv tv fv s sh b i) {S : List Nat} (o : Only S W W') (hS : ∀ g ∈ S, q ≤ g) : Fr W' p c rv tv s fv ∧ SR B W' fv sh ∧ Only [] w W' := by
  have hb := h.base
  exact ⟨h.fr.only o (fun m => by have := hS _ m; have := h.lt; omega), h.row.only o (fun g hg m => by have := hS _ m; have := h.own g hg; omega), h.only.then o (fun x hx hl => by have := hS _ hx; omega)⟩
theorem Pl.then {w W W' : World} {B p q : Nat} {c : Cf} {rv tv fv : Value} {s : Gs} {sh : List Bd} {b : Bd} {i : Inp} (h : Pl w W B p q c rv tv fv s sh b i) (o : Only [] W W') : Pl w W' B p q c rv tv fv s sh b i :=
  ⟨h.fr.only o (by simp), h.row.only o (by simp), h.ops.only o (by simp), h.body.only o (by simp), h.inp.only o (by simp), h.res.only o (by simp), h.only.trans o, h.base, Nat.le_trans h.sz o.size, h.lt, h.own⟩
theorem play_start {w : World} {B p : Nat} {c : Cf} {rv tv fv : Value} {s : Gs} {sh : List Bd} (b : Bd) (i : Inp) (F : Fr w p c rv tv s fv) (hs : SR B w fv sh) (ho : RdO w.heap.size w rv c.rules) (t1 t2 t3 : TypeId) :
    Pl w (((w.alloc (.cells b.cells.toArray t1)).alloc (.cells i.cells.toArray t2)).alloc (.cells Body.zero.cells.toArray t3)) B p w.heap.size c rv tv fv s sh b i := by
  have o : Only [] w (((w.alloc (.cells b.cells.toArray t1)).alloc (.cells i.cells.toArray t2)).alloc (.cells Body.zero.cells.toArray t3)) := (((Only.refl [] _).alloc _).alloc _).alloc _
  have h1 : Bl (w.alloc (.cells b.cells.toArray t1)) w.heap.size b := ⟨Blk.new w _ _⟩
  have h2 : Ib ((w.alloc (.cells b.cells.toArray t1)).alloc (.cells i.cells.toArray t2)) (w.heap.size + 1) i := by
    have : (w.alloc (.cells b.cells.toArray t1)).heap.size = w.heap.size + 1 := by simp
    rw [← this]; exact ⟨Blk.new _ _ _⟩
  have h3 : Bl (((w.alloc (.cells b.cells.toArray t1)).alloc (.cells i.cells.toArray t2)).alloc (.cells Body.zero.cells.toArray t3)) (w.heap.size + 2) Body.zero := by
    have : ((w.alloc (.cells b.cells.toArray t1)).alloc (.cells i.cells.toArray t2)).heap.size = w.heap.size + 2 := by simp
    rw [← this]; exact ⟨Blk.new _ _ _⟩
  exact ⟨F.only o (by simp), hs.only o (by simp), ho.only o (by simp), (h1.only ((Only.refl [] _).alloc _) (by simp)).only ((Only.refl [] _).alloc _) (by simp), h2.only ((Only.refl [] _).alloc _) (by simp), h3, o, rfl, by simp, F.blk.lt, fun g hg => (hs.lt g hg).2⟩
theorem playPost_no {w w' : World} {B p : Nat} {c : Cf} {rv tv fv : Value} {s : Gs} {sh : List Bd} {b : Bd} {r : Bd × Int × List Bd} (h : r = (b, s.d, sh)) (k : Fr w' p c rv tv s fv ∧ SR B w' fv sh ∧ Only [] w w') : PlayPost w B p c rv tv s fv r (.returned b.v) w' := by
  rw [h]; exact ⟨rfl, fv, k.1, k.2.1, k.2.2.weaken (by simp), Or.inl rfl⟩
/-- an append, and nothing else, has turned memory -/
def AppT (w0 : World) (v s : Value) (ty : TypeId) (x y : World) : Prop := x = y ∨ (x = w0 ∧ ∃ u, (Builtin.append_ #[70, 70] ty #[v, s]).run Try.prog w0 = .ok u y)
theorem AppT.refl {w0 : World} {v s : Value} {ty : TypeId} (x : World) : AppT w0 v s ty x x := Or.inl rfl
theorem AppT.trans {w0 : World} {v s : Value} {ty : TypeId} {x y z : World} (h : AppT w0 v s ty x y) (k : AppT w0 v s ty y z) : AppT w0 v s ty x z := by
  rcases h with rfl | ⟨rfl, u, hu⟩
  · exact k
  · rcases k with rfl | ⟨rfl, k⟩
    · exact Or.inr ⟨rfl, u, hu⟩
    · exact Or.inr ⟨rfl, k⟩
theorem ok_det {r : Result Value} {u u' : Value} {y y' : World} (h : r = .ok u y) (k : r = .ok u' y') : u = u' ∧ y = y' := by
  subst h
  injection k with h1 h2
  exact ⟨h1, h2⟩
theorem AppT.last {w0 : World} {v s : Value} {ty : TypeId} {x y : World} {u : Value} (h : AppT w0 v s ty x y) (k : (Builtin.append_ #[70, 70] ty #[v, s]).run Try.prog w0 = .ok u x) : (Builtin.append_ #[70, 70] ty #[v, s]).run Try.prog w0 = .ok u y := by
  rcases h with h | ⟨h, u', hu⟩
  · rw [← h]; exact k
  · subst h
    have e := k.symm.trans hu
    generalize (Builtin.append_ #[70, 70] ty #[v, s]).run Try.prog x = r at *
    subst k
    injection e with h1 h2
    rw [h2]
/-- a row that the call made, as it is read -/
theorem SR.read {B : Nat} {w : World} {v : Value} {xs : List Bd} (h : SR B w v xs) : RdS w v xs := h.rd
set_option maxRecDepth 100000 in
set_option maxHeartbeats 4000000 in
theorem play_any {w : World} {B p : Nat} {c : Cf} {rv tv fv : Value} {s : Gs} {sh : List Bd} (b : Bd) (i : Inp) (F : Fr w p c rv tv s fv) (hs : SR B w fv sh) (hB : B ≤ w.heap.size) (hp : ∀ g, fv.ownBlock = some g → g ≠ p) (ho : RdO w.heap.size w rv c.rules) (hn : c.rules.length ≤ 1000000) (hl : sh.length ≤ 1000000) (hf : 0 ≤ b.f ∧ b.f ≤ 65535) (hi : (-64 ≤ i.x ∧ i.x ≤ 64) ∧ (-64 ≤ i.y ∧ i.y ≤ 64)) (hsh : (Step.play c.rules b i ⟨s.bs, s.d, sh⟩).2.2.length ≤ 1000000) :
    Calls Try.prog 54 #[.pointer (some ⟨p, 0, none⟩), b.v, i.v] w (PlayPost w B p c rv tv s fv (Step.play c.rules b i ⟨s.bs, s.d, sh⟩)) := by
  have hnot : ∀ (x : Bool) (w : World), (Op.unary .not (.bool x)).run Try.prog w = .ok (.bool (!x)) w := fun _ _ => rfl
  have H0 : Hid (Pl w (((w.alloc (.cells b.cells.toArray 33)).alloc (.cells i.cells.toArray 41)).alloc (.cells Body.zero.cells.toArray 33)) B p w.heap.size c rv tv fv s sh b i) := play_start b i F hs ho _ _ _
  obtain ⟨q, hq⟩ : ∃ q, w.heap.size = q := ⟨_, rfl⟩
  have HB : Hid (B ≤ q) := hq ▸ hB
  have HN : Hid _ := hn
  have HL : Hid _ := hl
  have HF : Hid _ := hf
  have HS : Hid _ := hsh
  have HI : Hid _ := hi
  have HP : Hid _ := hp
  obtain ⟨E, hE⟩ : ∃ E, Step.envp b i s.d ((Step.free s.bs : Int) - (sh.length : Int)) = E := ⟨_, rfl⟩
  obtain ⟨R, hR⟩ : ∃ R, Rule.run c.rules E = R := ⟨_, rfl⟩
  have HE : Hid _ := hE
  have HR : Hid (Rule.run c.rules E = R) := hR
  have HPL : Hid (Step.play c.rules b i ⟨s.bs, s.d, sh⟩ = Step.playOf b s.d sh R) := by show _ = _; rw [play_of, ← hR, ← hE]
  clear F hs ho hB hn hl hf hsh hp hi hE hR
  go_enter Try.func54, Try.ntmps54
  go_upto_region 0 with fail
  apply wp_region_lit
  refine op_val (w' := w.alloc (.cells b.cells.toArray 33)) rfl (.pointer (some ⟨w.heap.size, 0, none⟩)) (by kernel_rfl) ?_
  simp only [Act.put, List.setIfInBounds_toArray, List.set_cons_succ, List.set_cons_zero]
  refine op_val (w' := (w.alloc (.cells b.cells.toArray 33)).alloc (.cells i.cells.toArray 41)) rfl (.pointer (some ⟨(w.alloc (.cells b.cells.toArray 33)).heap.size, 0, none⟩)) (by kernel_rfl) ?_
  simp only [Act.put, List.setIfInBounds_toArray, List.set_cons_succ, List.set_cons_zero]
  refine op_val (w' := ((w.alloc (.cells b.cells.toArray 33)).alloc (.cells i.cells.toArray 41)).alloc (.cells Body.zero.cells.toArray 33)) rfl (.pointer (some ⟨((w.alloc (.cells b.cells.toArray 33)).alloc (.cells i.cells.toArray 41)).heap.size, 0, none⟩)) (by kernel_rfl) ?_
  simp only [Act.put, List.setIfInBounds_toArray, List.set_cons_succ, List.set_cons_zero]
  refine wpList_nil ?_
  rw [show (w.alloc (.cells b.cells.toArray 33)).heap.size = q + 1 by simp [hq], show ((w.alloc (.cells b.cells.toArray 33)).alloc (.cells i.cells.toArray 41)).heap.size = q + 2 by simp [hq]]
  rw [hq] at H0 ⊢
  generalize ((w.alloc (.cells b.cells.toArray 33)).alloc (.cells i.cells.toArray 41)).alloc (.cells Body.zero.cells.toArray 33) = w1 at *
  clear hq
  go_upto_region 1 with fail
  have HV : Hid (∀ y, Only [] w1.drew y → Pl w y B p q c rv tv fv s sh b i) := fun y hy => H0.out.then ((only_drew w1).trans hy)
  refine wp_region_lin 31 [(0, .pointer (some ⟨p, 0, none⟩)), (4, .pointer (some ⟨q, 0, none⟩)), (5, .pointer (some ⟨q + 1, 0, none⟩))] (by intro p hp; simp only [List.mem_cons, List.not_mem_nil, or_false] at hp; rcases hp with rfl | rfl | rfl <;> rfl) (by kernel_rfl) (by kernel_rfl) (by decide) (by kernel_rfl) (by kernel_rfl) ?_
  simp only [List.take_succ_cons, List.take_zero, List.drop_succ_cons, List.drop_zero]
  refine rl_val (.pointer (some ⟨p, 0, none⟩)) rfl (fun f z y hO hf => ?_) ?_
  · simp at hf
    go_simp
  refine rl_val (.pointer (some ⟨p, 0, none⟩)) rfl (fun f z y hO hf => ?_) ?_
  · simp at hf
    go_simp
  refine rl_val (.pointer (some ⟨p, 0, none⟩)) rfl (fun f z y hO hf => ?_) ?_
  · simp at hf
    go_simp
  refine rl_val (.pointer (some ⟨p, 8, none⟩)) rfl (fun f z y hO hf => ?_) ?_
  · simp at hf
    go_simp
  refine rl_val (rv) rfl (fun f z y hO hf => ?_) ?_
  · have c8 := (HV.out y hO).fr.rules
    simp at hf
    go_simp
  refine rl_val (b.v) rfl (fun f z y hO hf => ?_) ?_
  · exact exec_loads (cs := b.cells) (g := q) (off := 0) 33 (.tmp 4) rfl (by simp at hf; simp [Act.eval, hf]) Try.underlying33 info_bd (HV.out y hO).body.blk.whole
  refine rl_val (.pointer (some ⟨q + 1, 1, none⟩)) rfl (fun f z y hO hf => ?_) ?_
  · simp at hf
    go_simp
  refine rl_val (.int .i64 i.x) rfl (fun f z y hO hf => ?_) ?_
  · have cx : y.cell? ⟨q + 1, 1, none⟩ = some (.int .i64 i.x) := (HV.out y hO).inp.blk.cell 1
    simp at hf
    go_simp
  refine rl_val (.int .i64 (i.x.tdiv 16)) rfl (fun f z y hO hf => ?_) ?_
  · have wx : IntKind.i64.wrap (i.x.tdiv 16) = i.x.tdiv 16 := wrap_div HI.out.1
    simp at hf
    go_simp
  refine rl_val (.pointer (some ⟨q + 1, 2, none⟩)) rfl (fun f z y hO hf => ?_) ?_
  · simp at hf
    go_simp
  refine rl_val (.int .i64 i.y) rfl (fun f z y hO hf => ?_) ?_
  · have cy : y.cell? ⟨q + 1, 2, none⟩ = some (.int .i64 i.y) := (HV.out y hO).inp.blk.cell 2
    simp at hf
    go_simp
  refine rl_val (.int .i64 (i.y.tdiv 16)) rfl (fun f z y hO hf => ?_) ?_
  · have wx : IntKind.i64.wrap (i.y.tdiv 16) = i.y.tdiv 16 := wrap_div HI.out.2
    simp at hf
    go_simp
  refine rl_eff (lsVal (Body.push b (i.x.tdiv 16) (i.y.tdiv 16)).v) rfl rfl List.nodup_nil rfl (fun _ _ _ _ _ _ _ _ => trivial) (fun f z y hO hf hc => ?_) ?_
  · refine effL_call (F := 74) (args := #[b.v, .int .i64 (i.x.tdiv 16), .int .i64 (i.y.tdiv 16)]) (w := y) (by simp at hf; go_simp; try rfl) ?_
    refine (push_any _ _ _ _).mono ?_
    rintro x y2 ⟨rfl, o⟩
    exact ⟨_, rfl, rfl, trivial, o, fun g hg => by cases hg⟩
  refine rl_val (i.v) rfl (fun f z y hO hf => ?_) ?_
  · exact exec_loads (cs := i.cells) (g := q + 1) (off := 0) 41 (.tmp 5) rfl (by simp at hf; simp [Act.eval, hf]) Try.underlying41 info_in (HV.out y hO).inp.blk.whole
  refine rl_val (.pointer (some ⟨p, 0, none⟩)) rfl (fun f z y hO hf => ?_) ?_
  · simp at hf
    go_simp
  refine rl_val (.pointer (some ⟨p, 0, none⟩)) rfl (fun f z y hO hf => ?_) ?_
  · simp at hf
    go_simp
  refine rl_val (.pointer (some ⟨p, 10, none⟩)) rfl (fun f z y hO hf => ?_) ?_
  · simp at hf
    go_simp
  refine rl_val (.pointer (some ⟨p, 11, none⟩)) rfl (fun f z y hO hf => ?_) ?_
  · simp at hf
    go_simp
  refine rl_val (.int .u64 s.d) rfl (fun f z y hO hf => ?_) ?_
  · have cd := (HV.out y hO).fr.dice
    simp at hf
    go_simp
  refine rl_val (.pointer (some ⟨p, 0, none⟩)) rfl (fun f z y hO hf => ?_) ?_
  · simp at hf
    go_simp
  refine rl_eff (lsVal (.int .i64 ((Step.free s.bs : Int) - (sh.length : Int)))) rfl rfl List.nodup_nil rfl (fun _ _ _ _ _ _ _ _ => trivial) (fun f z y hO hf hc => ?_) ?_
  · refine effL_call (F := 75) (args := #[.pointer (some ⟨p, 0, none⟩)]) (w := y) (by simp at hf; go_simp; try rfl) ?_
    refine (room_any (HV.out y hO).fr (HV.out y hO).row HL.out).mono ?_
    rintro x y2 ⟨rfl, o⟩
    exact ⟨_, rfl, rfl, trivial, o, fun g hg => by cases hg⟩
  refine rl_val (E.v (.slice none 0 0)) rfl (fun f z y hO hf => ?_) ?_
  · have e23 : z.eval (.tmp 23) = (Body.push b (i.x.tdiv 16) (i.y.tdiv 16)).v := by simp at hf; simp [Act.eval, hf]
    have e24 : z.eval (.tmp 24) = i.v := by simp at hf; simp [Act.eval, hf]
    have e29 : z.eval (.tmp 29) = .int .u64 s.d := by simp at hf; simp [Act.eval, hf]
    have e31 : z.eval (.tmp 31) = .int .i64 ((Step.free s.bs : Int) - (sh.length : Int)) := by simp at hf; simp [Act.eval, hf]
    rw [← HE.out]
    exact exec_envp e23 e24 e29 e31
  refine rl_eff (lsTup [] w1.heap.size R) rfl (by kernel_rfl) (by simp) rfl (loc_tup _ _ _) (fun f z y hO hf hc => ?_) ?_
  · refine effL_call (exec_run (v := rv) (.tmp 15) (.tmp 32) rfl (by simp at hf; simp [Act.eval, hf]) (s := E.v (.slice none 0 0)) (by simp at hf; simp [Act.eval, hf])) ?_
    have hE0 : E.sh = [] := by rw [← HE.out]; rfl
    refine (HR.out ▸ rule_run (B := 0) (l := c.rules) E (hE0 ▸ SR.nil 0 y) (by rw [hE0]; decide) HN.out ((HV.out y hO).ops.upto (HV.out y hO).only.size)).mono ?_
    rintro x y2 ⟨⟨v, rfl, hv⟩, o⟩
    exact ⟨_, rfl, post_tup hO.size hv o⟩
  refine rl_eff (lsTup [22] w1.heap.size R) rfl (by kernel_rfl) (by simp) rfl (loc_tup _ _ _) (fun f z y hO hf hc => effL_of (exec_move (.tmp 33) rfl rfl) (post_move (v := z.tmps.getD 33 undef) (by simp at hf; simpa using hf.2.2) hc.1 hc.2.1 (fun g hg => List.mem_flatMap.2 ⟨22, by simp, hg⟩))) ?_
  refine rl_eff (lsEnv [23] w1.heap.size R) rfl (by kernel_rfl) (by simp) rfl (loc_env _ _ _) (fun f z y hO hf hc => eff_ext (v := z.tmps.getD 10 undef) (.tmp 10) rfl rfl hc.1 hc.2.1 (fun g hg => List.mem_flatMap.2 ⟨23, by simp, hg⟩)) ?_
  refine rl_val (faultV R.2.1 R.2.2.1) rfl (fun f z y hO hf => ?_) ?_
  · have h40 : ∃ a n c, z.tmps.getD 10 undef = tupR R (.slice a n c) := by simp at hf; simpa using hf.2.2
    obtain ⟨a, n, c, h40⟩ := h40
    exact exec_ext (.tmp 10) 1 rfl h40 rfl
  refine rl_val (.bool R.2.2.2) rfl (fun f z y hO hf => ?_) ?_
  · have h40 : ∃ a n c, z.tmps.getD 10 undef = tupR R (.slice a n c) := by simp at hf; simpa using hf.2.2
    obtain ⟨a, n, c, h40⟩ := h40
    exact exec_ext (.tmp 10) 2 rfl h40 rfl
  refine rl_eff (lsE w1.heap.size) rfl rfl List.nodup_nil rfl (loc_e _) (fun f z y hO hf hc => effL_of (v := .pointer (some ⟨y.heap.size, 0, none⟩)) (w' := y.alloc (.cells (Ev.zero.cells (.slice none 0 0)).toArray 108)) (by kernel_rfl) (post_e hO.size)) ?_
  refine rl_eff (lsF w1.heap.size) rfl rfl List.nodup_nil rfl (loc_f _) (fun f z y hO hf hc => effL_of (v := .pointer (some ⟨y.heap.size, 0, none⟩)) (w' := y.alloc (.cells #[.int .i64 0, .int .i64 0] 110)) (by kernel_rfl) (post_f hO.size)) ?_
  refine rl_eff (lsStE 27 24 w1.heap.size R) rfl (by kernel_rfl) (by simp) (by kernel_rfl) (loc_ste _ _ _ _) (fun f z y hO hf hc => post_ste (v1 := z.tmps.getD 7 undef) (v2 := z.tmps.getD 34 undef) (.tmp 7) (.tmp 34) rfl rfl rfl (by simp at hf; simp [hf]) (by simp at hf; simp [hf]) hc.1 hc.2.2.2.1 (fun g hg => hc.2.2.1 24 (by simp) g hg) (fun g hg => List.mem_flatMap.2 (hg.elim (fun h => ⟨27, by simp, h⟩) (fun h => ⟨24, by simp, h⟩)))) ?_
  refine rl_eff (lsStF 28 w1.heap.size R.2.1 R.2.2.1) rfl (by kernel_rfl) (by simp) (by kernel_rfl) (loc_stf _ _ _ _) (fun f z y hO hf hc => post_stf (v1 := z.tmps.getD 8 undef) (.tmp 8) (.tmp 35) rfl rfl (by simp at hf; simp [Act.eval, hf]) (by simp at hf; simp [hf]) hc.1 (fun g hg => List.mem_flatMap.2 ⟨28, by simp, hg⟩)) ?_
  intro f w2 hO hF
  simp at hF
  obtain ⟨⟨g2, h28, -, k28⟩, ⟨g1, ea, en, ec, ⟨h27, h24⟩, hg1, k27, k24⟩, -, -, h26, h25, -, ⟨_, _, _, h23⟩, ⟨_, _, _, h22⟩, h21, h20, h19, h18, h17, h16, h15, h14, h13, h12, h11, h10, h9, h8, h7, h6, h5, h4, h3, h2, h1, h0⟩ := hF
  have H2 : Hid (Pl w w2 B p q c rv tv fv s sh b i ∧ Eb w2 g1 R.1 (.slice ea en ec) ∧ SR q w2 (.slice ea en ec) R.1.sh ∧ q + 3 ≤ g1) := ⟨HV.out w2 hO, k27, k24.lower (by have := H0.out.sz; omega), by have := H0.out.sz; omega⟩
  clear H0 HV hO k28 k27 k24 hg1
  simp only [putsL, Nat.zero_add, Nat.reduceAdd, h28, h27, h26, h25, h24, h23, h22, h21, h20, h19, h18, h17, h16, h15, h14, h13, h12, h11, h10, h9, h8, h7, h6, h5, h4, h3, h2, h1, h0]
  clear h28 h27 h26 h25 h24 h23 h22 h21 h20 h19 h18 h17 h16 h15 h14 h13 h12 h11 h10 h9 h8 h7 h6 h5 h4 h3 h2 h1 h0
  simp only [Act.put, List.setIfInBounds_toArray, List.set_cons_succ, List.set_cons_zero]
  refine op_val (w' := w2) rfl (.bool R.2.2.2) (by kernel_rfl) ?_
  simp only [Act.put, List.setIfInBounds_toArray, List.set_cons_succ, List.set_cons_zero]
  obtain ⟨e, co, at_, ok⟩ := R
  dsimp only
  cases ok
  · have EP : Hid (Step.play c.rules b i ⟨s.bs, s.d, sh⟩ = (Step.fault b, s.d, sh)) := by show _ = _; rw [HPL.out]; rfl
    refine wpList_nil ?_
    go_upto_region 3 with fail
    have cf : w2.cell? ⟨q, 11, none⟩ = some (.int .i64 b.f) := H2.out.1.body.all.2.2.2.2.2.2.2.2.2.2.2
    have ff : w2.frozen? ⟨q, 11, none⟩ = false := H2.out.1.body.frozen 11
    have z1 : IntKind.i64.wrap (b.f + 1) = b.f + 1 := IntWalk.i64_in _ (by have := HF.out; omega)
    obtain ⟨b2, hb2⟩ : ∃ b2, Step.fault b = b2 := ⟨_, rfl⟩
    have FIN : Hid (∀ n, n = b2.f → Bl (w2.setCell ⟨q, 11, none⟩ (.int .i64 n)) q b2 ∧ Only [q] w2 (w2.setCell ⟨q, 11, none⟩ (.int .i64 n))) := fun n h => by
      subst h
      refine ⟨?_, (Only.refl _ _).setCell (by simp) _⟩
      have := H2.out.1.body.set11 b2.f
      rw [← hb2] at this ⊢
      exact this
    have PF : Hid (∀ n, n = b2.f → Bl (w2.setCell ⟨q, 11, none⟩ (.int .i64 n)) q b2 ∧ Bl (w2.setCell ⟨q, 11, none⟩ (.int .i64 n)) (q + 2) Body.zero ∧ Only [q] w2 (w2.setCell ⟨q, 11, none⟩ (.int .i64 n))) := fun n h => by
      obtain ⟨x, o⟩ := FIN.out n h
      exact ⟨x, H2.out.1.res.only o (by simp), o⟩
    rw [hb2] at EP
    have HB2 : Hid (b2.f = if b.f + 1 ≤ 65535 then b.f + 1 else 65535) := by show _ = _; rw [← hb2]; rfl
    clear FIN hb2
    obtain ⟨nf, hnf⟩ : ∃ nf, b2.f = nf := ⟨_, rfl⟩
    have HNF : Hid (nf = b2.f) := hnf.symm
    rw [hnf] at HB2
    clear hnf
    by_cases hle : b.f + 1 ≤ 65535
    · have e : b.f + 1 = nf := by have := HB2.out; rw [if_pos hle] at this; exact this.symm
      clear HB2
      rw [e] at z1 hle
      subst e
      go_upto_region 4 with fail
      have X := PF.out _ HNF.out
      generalize w2.setCell ⟨q, 11, none⟩ (.int .i64 (b.f + 1)) = w3 at *
      clear cf ff
      apply wp_region_lit
      refine opg_bl (p := q) (by kernel_rfl) (.tmp 4) rfl (by kernel_rfl) X.1 ?_
      simp only [Act.put, List.setIfInBounds_toArray, List.set_cons_succ, List.set_cons_zero]
      refine op_storeBl (p := q + 2) (b := b2) rfl X.2.1 (.tmp 6) (.tmp 44) rfl (by kernel_rfl) (by kernel_rfl) ?_
      intro w4 hb4 o4 hz4
      have K := H2.out.1.off ((X.2.2.weaken (S' := [q, q + 2]) (by simp)).trans (o4.weaken (by simp))) (by simp)
      refine wpList_nil ?_
      go_wp2_with fail
      exact bodyPost_ret (res_body hb4 Try.results54 rfl) rfl (playPost_no EP.out K)
    · have e : nf = 65535 := by have := HB2.out; rw [if_neg hle] at this; exact this
      clear HB2
      subst e
      go_upto_region 4 with fail
      have X := PF.out _ HNF.out
      generalize w2.setCell ⟨q, 11, none⟩ (.int .i64 65535) = w3 at *
      clear cf ff
      apply wp_region_lit
      refine opg_bl (p := q) (by kernel_rfl) (.tmp 4) rfl (by kernel_rfl) X.1 ?_
      simp only [Act.put, List.setIfInBounds_toArray, List.set_cons_succ, List.set_cons_zero]
      refine op_storeBl (p := q + 2) (b := b2) rfl X.2.1 (.tmp 6) (.tmp 44) rfl (by kernel_rfl) (by kernel_rfl) ?_
      intro w4 hb4 o4 hz4
      have K := H2.out.1.off ((X.2.2.weaken (S' := [q, q + 2]) (by simp)).trans (o4.weaken (by simp))) (by simp)
      refine wpList_nil ?_
      go_wp2_with fail
      exact bodyPost_ret (res_body hb4 Try.results54 rfl) rfl (playPost_no EP.out K)
  · have EP : Hid (Step.play c.rules b i ⟨s.bs, s.d, sh⟩ = (e.b, e.d, sh ++ e.sh)) := by show _ = _; rw [HPL.out]; rfl
    have HLE : Hid (sh.length + e.sh.length ≤ 1000000) := by
      have := HS.out
      rw [EP.out] at this
      have h : (sh ++ e.sh).length ≤ 1000000 := this
      show _ ≤ _
      rwa [List.length_append] at h
    refine wpList_nil ?_
    have cd : w2.cell? ⟨g1, 15, none⟩ = some (.int .u64 e.d) := H2.out.2.1.blk.cell 15
    have c11 : w2.cell? ⟨p, 11, none⟩ = some (.int .u64 s.d) := H2.out.1.fr.dice
    have f11 : w2.frozen? ⟨p, 11, none⟩ = false := H2.out.1.fr.blk.frozen 11
    go_upto_region 6 with fail
    have hpq : p < q := by have := H2.out.1.lt; rw [H2.out.1.base] at this; exact this
    have o23 : Only [p] w2 (w2.setCell ⟨p, 11, none⟩ (.int .u64 e.d)) := (Only.refl _ _).setCell (by simp) _
    have H3 : Hid (Fr (w2.setCell ⟨p, 11, none⟩ (.int .u64 e.d)) p c rv tv { s with d := e.d } fv ∧ SR B (w2.setCell ⟨p, 11, none⟩ (.int .u64 e.d)) fv sh ∧ Eb (w2.setCell ⟨p, 11, none⟩ (.int .u64 e.d)) g1 e (.slice ea en ec) ∧ SR q (w2.setCell ⟨p, 11, none⟩ (.int .u64 e.d)) (.slice ea en ec) e.sh ∧ Bl (w2.setCell ⟨p, 11, none⟩ (.int .u64 e.d)) (q + 2) Body.zero ∧ Only [p] w (w2.setCell ⟨p, 11, none⟩ (.int .u64 e.d)) ∧ w.heap.size = q ∧ q + 3 ≤ g1) :=
      ⟨H2.out.1.fr.setDice e.d, H2.out.1.row.only o23 (fun g hg m => HP.out g hg (by simpa using m)), H2.out.2.1.only o23 (by simp; have := H2.out.2.2.2; omega), H2.out.2.2.1.only o23 (fun g hg m => by have := (H2.out.2.2.1.lt g hg).1; have h2 : g = p := (by simpa using m); omega), H2.out.1.res.only o23 (by simp; omega), (H2.out.1.only.weaken (by simp)).trans o23, H2.out.1.base, H2.out.2.2.2⟩
    have OWN : Hid (∀ g, fv.ownBlock = some g → g < q) := fun g hg => by have := H2.out.1.own g hg; rw [H2.out.1.base] at this; exact this
    clear o23 cd c11 f11 H2
    generalize w2.setCell ⟨p, 11, none⟩ (.int .u64 e.d) = w3 at *
    have od := only_drew w3
    obtain ⟨v4, w4, hrun, A⟩ := run_app_s (B := B) (H3.out.2.1.only od (by simp)) (H3.out.2.2.2.1.rd.only od (by simp)) (by have := HLE.out; omega) (by have := HB.out; have := H3.out.2.2.2.2.2.1.size; have := od.size; have := H3.out.2.2.2.2.2.2.1; omega) 70
    have HA : Hid (AppS B w3.drew fv w4 v4 (sh ++ e.sh)) := A
    have RUN : Hid _ := hrun
    have H4 : Hid (Fr w4 p c rv tv { s with d := e.d } fv ∧ Eb w4 g1 e (.slice ea en ec) ∧ Bl w4 (q + 2) Body.zero) := by
      have hn : ∀ k, k ∈ fv.ownBlock.toList → k < q ∧ k ≠ p := fun k hk => by
        have hk' : fv.ownBlock = some k := by simpa [Option.mem_toList] using hk
        exact ⟨OWN.out k hk', HP.out k hk'⟩
      have oo := A.only
      exact ⟨(H3.out.1.only od (by simp)).only oo (fun m => (hn p m).2 rfl), (H3.out.2.2.1.only od (by simp)).only oo (fun m => by have := (hn g1 m).1; have := H3.out.2.2.2.2.2.2.2; omega), (H3.out.2.2.2.2.1.only od (by simp)).only oo (fun m => by have := (hn _ m).1; omega)⟩
    have HV : Hid (∀ y, AppT w3.drew fv (.slice ea en ec) 70 w3.drew y → y.cell? ⟨p, 212, none⟩ = some fv ∧ y.cell? ⟨g1, 17, none⟩ = some (.slice ea en ec)) := fun y hy => by
      rcases hy with hy | ⟨_, u, hu⟩
      · rw [← hy]
        exact ⟨(H3.out.1.only od (by simp)).fired, (H3.out.2.2.1.only od (by simp)).blk.cell 17⟩
      · obtain ⟨_, e4⟩ := ok_det RUN.out hu
        rw [← e4]
        exact ⟨H4.out.1.fired, H4.out.2.1.blk.cell 17⟩
    clear A hrun
    refine wp_region_tail (fun _ _ => False) (fun _ _ _ _ h => h.elim) 8 (AppT w3.drew fv (.slice ea en ec) 70) AppT.refl AppT.trans [(0, .pointer (some ⟨p, 0, none⟩)), (7, .pointer (some ⟨g1, 0, none⟩))] (by intro p hp; simp only [List.mem_cons, List.not_mem_nil, or_false] at hp; rcases hp with rfl | rfl <;> rfl) (by kernel_rfl) (by kernel_rfl) (by decide) (by kernel_rfl) (by kernel_rfl) (fun y => y = w3.drew) rfl ?_
    simp only [List.take_succ_cons, List.take_zero, List.drop_succ_cons, List.drop_zero]
    iterate 7 (
      apply rb_val
      · first | rfl | exact ⟨by kernel_rfl, rfl⟩
      · intro z y hT hf
        obtain ⟨k1, k2⟩ := HV.out y hT
        simp at hf
        go_simp
        try rfl)
    refine rb_call (fun y v => (Builtin.append_ #[70, 70] 70 #[fv, .slice ea en ec]).run Try.prog w3.drew = .ok v y) (fun _ => True) (by first | rfl | exact ⟨by kernel_rfl, rfl⟩) (by kernel_rfl) (fun _ _ _ hT h => hT.last h) (fun z y hJ hT hf => ?_) ?_
    · have e55 : z.eval (.tmp 55) = fv := by simp at hf; simp [Act.eval, hf]
      have e57 : z.eval (.tmp 57) = .slice ea en ec := by simp at hf; simp [Act.eval, hf]
      rw [hJ]
      simp only [execOp, resolve, invoke, builtin, Sem.run_bind, Sem.run_pure, Result.andThen_ok, List.map_toArray, List.map_cons, List.map_nil, e55, e57, RUN.out]
      exact ⟨rfl, trivial, Or.inr ⟨rfl, _, RUN.out⟩⟩
    intro w5 hJ hy
    simp only [FinA, Sp.R, forall_eq]
    intro v5 hv5 _
    obtain ⟨e3, e4⟩ := ok_det RUN.out hv5
    subst e3 e4
    clear hv5 hJ hy HV RUN
    simp only [Act.put, List.setIfInBounds_toArray, List.set_cons_succ, List.set_cons_zero]
    refine op_val (w' := w4) rfl (.pointer (some ⟨p, 0, none⟩)) (by kernel_rfl) ?_
    simp only [Act.put, List.setIfInBounds_toArray, List.set_cons_succ, List.set_cons_zero]
    refine op_val (w' := w4) rfl (.pointer (some ⟨p, 212, none⟩)) (by kernel_rfl) ?_
    simp only [Act.put, List.setIfInBounds_toArray, List.set_cons_succ, List.set_cons_zero]
    obtain ⟨va, vn, vc, hv⟩ := HA.out.row.form2
    subst hv
    have c212 : w4.cell? ⟨p, 212, none⟩ = some fv := H4.out.1.fired
    have f212 : w4.frozen? ⟨p, 212, none⟩ = false := H4.out.1.blk.frozen 212
    have AT : Hid ((Value.slice va vn vc).ownBlock = fv.ownBlock ∨ ∀ g, (Value.slice va vn vc).ownBlock = some g → q + 3 ≤ g) := by
      have hz : q + 3 ≤ w3.drew.heap.size := by have := H3.out.2.2.1.lt; have := od.size; have := H3.out.2.2.2.2.2.2.2; omega
      rcases HA.out.at_ with h | h
      · exact Or.inl h
      · exact Or.inr fun g hg => by rw [h] at hg; injection hg with hg; omega
    have NP : Hid (∀ g, (Value.slice va vn vc).ownBlock = some g → g ≠ p ∧ (g < q ∨ q + 3 ≤ g)) := fun g hg => by
      rcases AT.out with h | h
      · rw [h] at hg
        exact ⟨HP.out g hg, Or.inl (OWN.out g hg)⟩
      · have := h g hg
        exact ⟨by omega, Or.inr this⟩
    have OO : Hid (Only (p :: fv.ownBlock.toList) w w4) := ((H3.out.2.2.2.2.2.1.trans (od.weaken (by simp))).weaken (by simp)).trans (HA.out.only.weaken (fun k hk _ => by simp [hk]))
    go_upto_region 7 with fail
    have o45 : Only [p] w4 (w4.setCell ⟨p, 212, none⟩ (.slice va vn vc)) := (Only.refl _ _).setCell (by simp) _
    have H5 : Hid (Fr (w4.setCell ⟨p, 212, none⟩ (.slice va vn vc)) p c rv tv { s with d := e.d } (.slice va vn vc) ∧ SR B (w4.setCell ⟨p, 212, none⟩ (.slice va vn vc)) (.slice va vn vc) (sh ++ e.sh) ∧ Eb (w4.setCell ⟨p, 212, none⟩ (.slice va vn vc)) g1 e (.slice ea en ec) ∧ Bl (w4.setCell ⟨p, 212, none⟩ (.slice va vn vc)) (q + 2) Body.zero ∧ Only (p :: fv.ownBlock.toList) w (w4.setCell ⟨p, 212, none⟩ (.slice va vn vc))) :=
      ⟨H4.out.1.setFired _, HA.out.row.only o45 (fun g hg m => (NP.out g hg).1 (by simpa using m)), H4.out.2.1.only o45 (by simp; have := H3.out.2.2.2.2.2.2.2; omega), H4.out.2.2.only o45 (by simp; omega), OO.out.trans (o45.weaken (by simp))⟩
    have HQ : Hid (w.heap.size = q ∧ q + 3 ≤ g1) := H3.out.2.2.2.2.2.2
    clear c212 f212 o45 H4 HA OO od H3
    generalize w4.setCell ⟨p, 212, none⟩ (.slice va vn vc) = w5 at *
    apply wp_region_lit
    refine op_val (w' := w5) rfl (.pointer (some ⟨g1, 0, none⟩)) (by kernel_rfl) ?_
    simp only [Act.put, List.setIfInBounds_toArray, List.set_cons_succ, List.set_cons_zero]
    refine opg_body (p := g1) (by kernel_rfl) (.tmp 61) rfl (by kernel_rfl) H5.out.2.2.1 ?_
    simp only [Act.put, List.setIfInBounds_toArray, List.set_cons_succ, List.set_cons_zero]
    refine op_storeBl (p := q + 2) (b := e.b) rfl H5.out.2.2.2.1 (.tmp 6) (.tmp 62) rfl (by kernel_rfl) (by kernel_rfl) ?_
    intro w6 hb6 o6 hz6
    refine wpList_nil ?_
    go_wp2_with fail
    refine bodyPost_ret (res_body hb6 Try.results54 rfl) rfl ?_
    rw [EP.out]
    refine ⟨rfl, .slice va vn vc, H5.out.1.only o6 (by simp; omega), H5.out.2.1.only o6 (fun g hg m => ?_), H5.out.2.2.2.2.then o6 (fun x hx hl => by have := HQ.out.1; have h2 : x = q + 2 := (by simpa using hx); omega), ?_⟩
    · have := (NP.out g hg).2
      have h2 : g = q + 2 := (by simpa using m)
      omega
    · rcases AT.out with h | h
      · exact Or.inl h
      · exact Or.inr fun g hg => by have := h g hg; have := HQ.out.1; omega
end Go.Proofs.Ytngbannidbijmaa
namespace Go.Proofs.Ytngbannidbijmaa
open Go.RowKit
set_option linter.unusedVariables false
set_option linter.unusedSimpArgs false

namespace Step
/-- a body ahead of its move -/
def mid (l : List Op3) (row : List Cl) (b : Bd) (m : M) : Bd × Int × List Bd := if b.k = 1 then play l b (input row b.o) m else (b, m.d, m.sh)
theorem one_mid (l : List Op3) (row : List Cl) (k : Nat) (b : Bd) (m : M) : one l row k b m = ⟨m.bs.set k (Body.move (mid l row b m).1).1, (mid l row b m).2.1, (mid l row b m).2.2⟩ := by
  unfold one mid
  by_cases h : b.k = 1
  · rw [if_pos h, if_pos h]
  · rw [if_neg h, if_neg h]
theorem inp_rng (row : List Cl) (p : Int) : (-64 ≤ (input row p).x ∧ (input row p).x ≤ 64) ∧ (-64 ≤ (input row p).y ∧ (input row p).y ≤ 64) := by
  unfold input
  split
  · exact ⟨within_rng _ _ _ (by omega), within_rng _ _ _ (by omega)⟩
  · decide
end Step
section
variable {w w' : World} {p : Nat} {c : Cf} {rv tv fv : Value} {s : Gs}
theorem exec_storeB {o : Oper} {act : Act} (h : Fr w p c rv tv s fv) {i : Nat} (hi : i < 16) (b : Bd) (x y : Operand) (ho : o.op = .store 33 x y) (hx : act.eval x = .pointer (some ⟨p, 12 + i * 12, none⟩)) (hy : act.eval y = b.v) :
    ∃ w', (execOp act.eval o).run Try.prog w = .ok .skip w' ∧ Fr w' p c rv tv { s with bs := s.bs.set i b } fv ∧ Only [p] w w' := by
  have hl := Gs.len h.wf
  obtain ⟨w', hr, k1, k2, k3⟩ := h.blk.store (vs := b.cells) (ty := 33) (12 + i * 12) info_bd (by simp only [Fr.cells, List.length_append, hl, Cf.cells, bd_len, List.length_cons, List.length_nil]; omega) b.one
  have e := s.set_body h.wf hi b (c.cells rv tv) [fv]
  have e0 : (c.cells rv tv).length + (2 + i * 12) = 12 + i * 12 := by simp [Cf.cells]; omega
  rw [e0] at e
  unfold Fr.cells at k1
  rw [e] at k1
  refine ⟨w', ?_, ⟨k1, by show (s.bs.set i b).length = 16; rw [List.length_set]; exact h.wf.b, h.wf.s⟩, k2⟩
  have hy2 : act.eval y = .agg b.cells.toArray := hy
  simp only [execOp, ho, hx, hy2, Sem.run_bind, hr, Result.andThen_ok, Sem.run_pure]
theorem effOk_storeB {T : World → World → Prop} {R : World → Value → Prop} {J : World → Prop} {o : Oper} {act : Act} (h : Fr w p c rv tv s fv) {i : Nat} (hi : i < 16) (b : Bd) (x y : Operand) (ho : o.op = .store 33 x y) (hx : act.eval x = .pointer (some ⟨p, 12 + i * 12, none⟩)) (hy : act.eval y = b.v)
    (k : ∀ w', Fr w' p c rv tv { s with bs := s.bs.set i b } fv → Only [p] w w' → R w' undef ∧ J w' ∧ T w w') : effOk Try.prog T R J w ((execOp act.eval o).run Try.prog w) := by
  obtain ⟨w', hr, k1, k2⟩ := exec_storeB h hi b x y ho hx hy
  rw [hr]
  exact k w' k1 k2
end
/-- where moveAll stands -/
structure Mv (w W : World) (B p : Nat) (c : Cf) (rv tv fv : Value) (s : Gs) (row : List Cl) (rwv : Value) (m : Step.M) : Prop where
  fr : Fr W p c rv tv { s with bs := m.bs, d := m.d } fv
  sr : SR B W fv m.sh
  only : Only [p] w W
  ops : RdO p W rv c.rules
  cells : RdC p W rwv row
  base : w.heap.size = B
  lt : p < B
theorem Mv.then {w W W' : World} {B p : Nat} {c : Cf} {rv tv fv : Value} {s : Gs} {row : List Cl} {rwv : Value} {m : Step.M} (h : Mv w W B p c rv tv fv s row rwv m) (o : Only [] W W') : Mv w W' B p c rv tv fv s row rwv m :=
  ⟨h.fr.only o (by simp), h.sr.only o (by simp), h.only.trans (o.weaken (by simp)), h.ops.only o (by simp), h.cells.only o (by simp), h.base, h.lt⟩
theorem Mv.own {w W : World} {B p : Nat} {c : Cf} {rv tv fv : Value} {s : Gs} {row : List Cl} {rwv : Value} {m : Step.M} (h : Mv w W B p c rv tv fv s row rwv m) : ∀ g, fv.ownBlock = some g → g ≠ p ∧ B ≤ g := fun g hg => by
  have h1 := (h.sr.lt g hg).1
  have := h.lt
  exact ⟨by omega, h1⟩
theorem Mv.off {w W W' : World} {B p t : Nat} {c : Cf} {rv tv fv : Value} {s : Gs} {row : List Cl} {rwv : Value} {m : Step.M} (h : Mv w W B p c rv tv fv s row rwv m) (o : Only [t] W W') (ht : B ≤ t) (hne : ∀ g, fv.ownBlock = some g → g ≠ t) : Mv w W' B p c rv tv fv s row rwv m := by
  have hl := h.lt
  have hS : ∀ g ∈ [t], p ≤ g := fun g hg => by have h2 : g = t := (by simpa using hg); omega
  exact ⟨h.fr.only o (by simp; omega), h.sr.only o (fun g hg m => hne g hg (by simpa using m)), h.only.then o (fun x hx hl2 => by have h2 : x = t := (by simpa using hx); have := h.base; omega), h.ops.only o hS, h.cells.only o hS, h.base, h.lt⟩
/-- what play leaves of it -/
theorem Mv.play {w W W' : World} {B p : Nat} {c : Cf} {rv tv fv : Value} {s : Gs} {row : List Cl} {rwv : Value} {m : Step.M} {r : Bd × Int × List Bd} {e : Ending} (h : Mv w W B p c rv tv fv s row rwv m) (k : PlayPost W B p c rv tv { s with bs := m.bs, d := m.d } fv r e W') :
    e = .returned r.1.v ∧ ∃ fv', Mv w W' B p c rv tv fv' s row rwv ⟨m.bs, r.2.1, r.2.2⟩ ∧ Only (p :: fv.ownBlock.toList) W W' ∧ ∀ g, fv'.ownBlock = some g → fv.ownBlock = some g ∨ W.heap.size ≤ g := by
  obtain ⟨h1, fv', k1, k2, k3, k4⟩ := k
  have hS : ∀ g ∈ p :: fv.ownBlock.toList, p ≤ g := fun g hg => by
    rcases List.mem_cons.1 hg with hg | hg
    · omega
    · have := (h.own g (by simpa [Option.mem_toList] using hg)).2; have := h.lt; omega
  refine ⟨h1, fv', ⟨k1, k2, h.only.then k3 (fun x hx hl => ?_), h.ops.only k3 hS, h.cells.only k3 hS, h.base, h.lt⟩, k3, fun g hg => by
    rcases k4 with k4 | k4
    · left; rw [← k4]; exact hg
    · right; exact k4 g hg⟩
  rcases List.mem_cons.1 hx with hx | hx
  · simp [hx]
  · have := (h.own x (by simpa [Option.mem_toList] using hx)).2; have := h.base; omega
set_option maxRecDepth 100000 in
set_option maxHeartbeats 4000000 in
theorem moveAll_any {w : World} {p : Nat} {c : Cf} {rv tv rwv : Value} {s : Gs} {row : List Cl} (F : Fr w p c rv tv s (.slice none 0 0)) (ho : RdO p w rv c.rules) (hrow : RdC p w rwv row) (hn : c.rules.length ≤ 1000000) (G : Step.Good c.pl s.bs) (h8 : c.pl ≤ 8) :
    Calls Try.prog 29 #[.pointer (some ⟨p, 0, none⟩), rwv] w fun e w' => e = .returned (.tuple #[]) ∧ ∃ fv, Mv w w' w.heap.size p c rv tv fv s row rwv (Step.moves c.rules row s.bs s.d 16) := by
  have H0 : Hid (Mv w w w.heap.size p c rv tv (.slice none 0 0) s row rwv (Step.moves c.rules row s.bs s.d 0)) := ⟨F, SR.nil _ _, Only.refl _ _, ho, hrow, rfl, F.blk.lt⟩
  have HG : Hid _ := G
  have HN : Hid _ := hn
  have H8 : Hid _ := h8
  have WF : Hid _ := F.wf
  obtain ⟨B, hB⟩ : ∃ B, w.heap.size = B := ⟨_, rfl⟩
  rw [hB] at H0 ⊢
  have HB : Hid _ := hB
  clear F ho hrow hn G h8 hB
  go_enter Try.func29, Try.ntmps29
  go_upto_region 0 with fail
  apply wp_region_lit
  refine op_val (w' := w) rfl (.pointer (some ⟨p, 0, none⟩)) (by kernel_rfl) ?_
  simp only [Act.put, List.setIfInBounds_toArray, List.set_cons_succ, List.set_cons_zero]
  refine op_val (w' := w) rfl (.pointer (some ⟨p, 0, none⟩)) (by kernel_rfl) ?_
  simp only [Act.put, List.setIfInBounds_toArray, List.set_cons_succ, List.set_cons_zero]
  refine op_val (w' := w) rfl (.pointer (some ⟨p, 10, none⟩)) (by kernel_rfl) ?_
  simp only [Act.put, List.setIfInBounds_toArray, List.set_cons_succ, List.set_cons_zero]
  refine op_val (w' := w) rfl (.pointer (some ⟨p, 12, none⟩)) (by kernel_rfl) ?_
  simp only [Act.put, List.setIfInBounds_toArray, List.set_cons_succ, List.set_cons_zero]
  refine opg_bodies (p := p) (by kernel_rfl) WF.out.b (.tmp 9) rfl (by kernel_rfl) H0.out.fr.bodies ?_
  simp only [Act.put, List.setIfInBounds_toArray, List.set_cons_succ, List.set_cons_zero]
  refine op_val (w' := w) rfl (.int .i64 0) (by kernel_rfl) ?_
  simp only [Act.put, List.setIfInBounds_toArray, List.set_cons_succ, List.set_cons_zero]
  refine wpList_nil ?_
  go_wp2_with fail
  go_loopg [11] 17 (fun gk vi wr => ∃ (i : Nat) (fv : Value), vi = .int .i64 i ∧ i ≤ 16 ∧ 17 - i ≤ gk ∧ Hid (Mv w wr B p c rv tv fv s row rwv (Step.moves c.rules row s.bs s.d i)))
  case atStart => exact ⟨0, _, rfl, by omega, by omega, H0.out⟩
  case round =>
    clear H0
    obtain ⟨i, fv, rfl, hi, hg, HH⟩ := hrel
    by_cases hlt : i < 16
    rotate_left
    · have z1 : ¬ (i : Int) < 16 := by omega
      have e : i = 16 := by omega
      have HM : Hid (Mv w wr B p c rv tv fv s row rwv (Step.moves c.rules row s.bs s.d 16)) := by show Mv _ _ _ _ _ _ _ _ _ _ _ _; rw [← e]; exact HH.out
      clear e HH
      go_wp2_with fail
      go_end0
      exact ⟨rfl, fv, HM.out⟩
    · have z1 : (i : Int) < 16 := by omega
      obtain ⟨b, hb⟩ : ∃ b, s.bs.getD i Body.zero = b := ⟨_, rfl⟩
      obtain ⟨m, hm⟩ : ∃ m, Step.moves c.rules row s.bs s.d i = m := ⟨_, rfl⟩
      have MI : Hid (Step.MInv c.pl s.bs i m) := by rw [← hm]; exact Step.mInv c.rules row s.d HG.out i hi
      have ST : Hid (Step.Stand c.pl i b) := by rw [← hb]; exact HG.out.all i hlt
      have NX : Hid (Step.moves c.rules row s.bs s.d (i + 1) = ⟨m.bs.set i (Body.move (Step.mid c.rules row b m).1).1, (Step.mid c.rules row b m).2.1, (Step.mid c.rules row b m).2.2⟩) := by show _ = _; rw [Step.moves, hb, hm, Step.one_mid]
      rw [hm] at HH
      go_upto_region 2 with fail
      apply wp_region_lit
      refine op_val (w' := wr) rfl (.int .i64 i) (by kernel_rfl) ?_
      simp only [Act.put, List.setIfInBounds_toArray, List.set_cons_succ, List.set_cons_zero]
      refine op_val (w' := wr) rfl (s.bs.getD i Body.zero).v (exec_ix WF.out.b hlt (.tmp 10) (.tmp 11) rfl (by kernel_rfl) (by kernel_rfl)) ?_
      simp only [Act.put, List.setIfInBounds_toArray, List.set_cons_succ, List.set_cons_zero]
      rw [hb]
      refine op_val (w' := wr.alloc (.cells Body.zero.cells.toArray 33)) rfl (.pointer (some ⟨wr.heap.size, 0, none⟩)) (by kernel_rfl) ?_
      simp only [Act.put, List.setIfInBounds_toArray, List.set_cons_succ, List.set_cons_zero]
      refine op_val (w' := wr.alloc (.cells Body.zero.cells.toArray 33)) rfl (.int .i64 i) (by kernel_rfl) ?_
      simp only [Act.put, List.setIfInBounds_toArray, List.set_cons_succ, List.set_cons_zero]
      refine op_storeBl (p := wr.heap.size) (b := b) rfl (Bl.new Body.zero _ _) (.tmp 5) (.tmp 14) rfl (by kernel_rfl) (by kernel_rfl) ?_
      intro w4 hb4 o4 hz4
      have o14 : Only [] wr w4 := ((Only.refl [] wr).alloc _).then o4 (fun u hu hl => by have h2 : u = wr.heap.size := (by simpa using hu); omega)
      have H4 : Hid (Mv w w4 B p c rv tv fv s row rwv m ∧ Bl w4 wr.heap.size b ∧ B ≤ wr.heap.size ∧ ∀ g, fv.ownBlock = some g → g < wr.heap.size) := ⟨HH.out.then o14, hb4, by have := HH.out.only.size; have := HB.out; omega, fun g hg => (HH.out.sr.lt g hg).2⟩
      generalize wr.heap.size = t at *
      clear hb4 o4 hz4 o14 HH hb hm
      simp only [Act.put, List.setIfInBounds_toArray, List.set_cons_succ, List.set_cons_zero]
      refine wpList_nil ?_
      have c0 : w4.cell? ⟨t, 0, none⟩ = some (.int .i64 b.k) := H4.out.2.1.all.1
      go_upto_if 17 with fail
      go_cut [] (fun wx => ∃ (fv : Value) (r : Bd × Int × List Bd), Step.mid c.rules row b m = r ∧ Hid (Mv w wx B p c rv tv fv s row rwv ⟨m.bs, r.2.1, r.2.2⟩ ∧ Bl wx t r.1 ∧ t ≠ p))
      case first =>
        by_cases hk : b.k = 1
        · have zk : (b.k == 1) = true := by simpa using hk
          have HK : Hid (b.k = 1) := hk
          clear hk c0
          obtain ⟨q1, q2, q3⟩ := ST.out.player (ST.out.one_lt HK.out)
          have EM : Hid (Step.mid c.rules row b m = Step.play c.rules b (Step.input row (i : Nat)) m) := by show _ = _; unfold Step.mid; rw [if_pos HK.out, q3]
          have HO : Hid (b.o = (i : Nat)) := q3
          have HF : Hid (Body.Ok b) := (Body.some_iff b).1 q1
          have PL : Hid (Step.Played c.pl b m (Step.play c.rules b (Step.input row (i : Nat)) m)) := Step.played c.rules _ m q1 HK.out (by have := ST.out.one_lt HK.out; omega)
          clear q1 q2 q3
          go_wp2_with fail
          clear zk
          have HV : Hid (∀ y, Only [] w4.drew y → Mv w y B p c rv tv fv s row rwv m ∧ Bl y t b ∧ B ≤ t ∧ ∀ g, fv.ownBlock = some g → g < t) := fun y hy => by
            have o := (only_drew w4).trans hy
            exact ⟨H4.out.1.then o, H4.out.2.1.only o (by simp), H4.out.2.2⟩
          refine wp_region_free 6 (Only []) (Only.refl _) Only.trans [(0, .pointer (some ⟨p, 0, none⟩)), (1, rwv), (5, .pointer (some ⟨t, 0, none⟩))] (by intro p hp; simp only [List.mem_cons, List.not_mem_nil, or_false] at hp; rcases hp with rfl | rfl | rfl <;> rfl) (by kernel_rfl) (by kernel_rfl) (by decide) (by kernel_rfl) (by kernel_rfl) ?_
          simp only [List.take_succ_cons, List.take_zero, List.drop_succ_cons, List.drop_zero]
          refine rf_val (.pointer (some ⟨p, 0, none⟩)) (by first | rfl | exact ⟨by kernel_rfl, rfl⟩) (fun z v hT hf => exec_move (.tmp 0) rfl (by simp at hf; simp [Act.eval, hf])) ?_
          refine rf_val b.v (by first | rfl | exact ⟨by kernel_rfl, rfl⟩) (fun z v hT hf => exec_loads (cs := b.cells) (g := t) (off := 0) 33 (.tmp 5) rfl (by simp at hf; simp [Act.eval, hf]) Try.underlying33 info_bd (HV.out v hT).2.1.blk.whole) ?_
          refine rf_val rwv (by first | rfl | exact ⟨by kernel_rfl, rfl⟩) (fun z v hT hf => exec_move (.tmp 1) rfl (by simp at hf; simp [Act.eval, hf])) ?_
          iterate 2 (
            apply rf_val
            · first | rfl | exact ⟨by kernel_rfl, rfl⟩
            · intro z v hT hf
              have c1 : v.cell? ⟨t, 1, none⟩ = some (.int .i64 (i : Nat)) := by have := (HV.out v hT).2.1.all.2.1; rwa [HO.out] at this
              simp at hf
              go_simp
              try rfl)
          refine rf_eff (fun _ v => v = (Step.input row (i : Nat)).v) (by first | rfl | exact ⟨by kernel_rfl, rfl⟩) (fun _ _ _ _ h => h) (fun z v hT hf => ?_) ?_
          · simp at hf
            go_simp
            refine (input_any (HV.out v hT).1.cells i).mono ?_
            rintro x y2 ⟨rfl, o⟩
            exact ⟨_, rfl, rfl, o⟩
          intro w5 hy
          simp only [FinA, Sp.R, forall_eq]
          simp only [Act.put, List.setIfInBounds_toArray, List.set_cons_succ, List.set_cons_zero]
          have H5 : Hid _ := HV.out w5 hy
          clear hy HV H4
          have hz : p < w5.heap.size := H5.out.1.fr.blk.lt
          have RNG := Step.inp_rng row (i : Nat)
          refine op_call (F := 54) (args := #[.pointer (some ⟨p, 0, none⟩), b.v, (Step.input row (i : Nat)).v]) (w1 := w5) rfl (by kernel_rfl) ?_
          have hsl : m.sh.length ≤ 16 := by have := MI.out.room; have := free_le m.bs; rw [MI.out.good.len] at this; omega
          refine (play_any b (Step.input row (i : Nat)) H5.out.1.fr H5.out.1.sr (by have := H5.out.1.only.size; have := H5.out.1.base; omega) (fun g hg => (H5.out.1.own g hg).1) (H5.out.1.ops.upto (by omega)) HN.out (by omega) HF.out.f RNG (by
            obtain ⟨ll, e, _, h64, _⟩ := PL.out.sh
            show (Step.play c.rules b (Step.input row (i : Nat)) m).2.2.length ≤ 1000000
            rw [e, List.length_append]; omega)).mono ?_
          intro x w6 hp6
          obtain ⟨rfl, fv6, M6, o6, hfv⟩ := H5.out.1.play hp6
          refine ⟨_, rfl, ?_⟩
          simp only [Act.put, List.setIfInBounds_toArray, List.set_cons_succ, List.set_cons_zero]
          have htp : t ≠ p := by have := H5.out.1.lt; have := H5.out.2.2.1; omega
          have hb6 : Bl w6 t b := H5.out.2.1.only o6 (fun hm => by
            rcases List.mem_cons.1 hm with h | h
            · exact htp h
            · have := H5.out.2.2.2 t (by simpa [Option.mem_toList] using h); omega)
          refine op_storeBl (p := t) (b := (Step.play c.rules b (Step.input row (i : Nat)) m).1) rfl hb6 (.tmp 5) (.tmp 24) rfl (by kernel_rfl) (by kernel_rfl) ?_
          intro w7 hb7 o7 hz7
          have M7 := M6.off o7 H5.out.2.2.1 (fun g hg => by
            rcases hfv g hg with h | h
            · have := H5.out.2.2.2 g h; omega
            · have := H5.out.2.1.lt; omega)
          refine wpList_nil ?_
          go_wp2_with fail
          go_meet
          exact ⟨fv6, _, EM.out, M7, hb7, htp⟩
        · have zk : (b.k == 1) = false := by simpa using hk
          have EM : Hid (Step.mid c.rules row b m = (b, m.d, m.sh)) := by show _ = _; unfold Step.mid; rw [if_neg hk]
          clear hk c0
          go_wp2_with fail
          go_meet
          exact ⟨fv, _, EM.out, H4.out.1, H4.out.2.1, by have := H4.out.1.lt; have := H4.out.2.2.1; omega⟩
      case rest =>
        clear H4 c0
        obtain ⟨fv5, r, hr, HC⟩ := hcut
        rw [hr] at NX
        clear hr
        have od := only_drew wc
        have HJ : Hid (Mv w wc.drew B p c rv tv fv5 s row rwv ⟨m.bs, r.2.1, r.2.2⟩) := HC.out.1.then od
        have HV : Hid (∀ y, Only [p] wc.drew y → Bl y t r.1) := fun y hy => (HC.out.2.1.only od (by simp)).only hy (by simpa using HC.out.2.2)
        clear HC
        go_wp2_with fail
        refine wp_region_tail (fun _ _ => False) (fun _ _ _ _ h => h.elim) 12 (Only [p]) (Only.refl _) Only.trans [(0, .pointer (some ⟨p, 0, none⟩)), (4, .int .i64 i), (5, .pointer (some ⟨t, 0, none⟩))] (by intro p hp; simp only [List.mem_cons, List.not_mem_nil, or_false] at hp; rcases hp with rfl | rfl | rfl <;> rfl) (by kernel_rfl) (by kernel_rfl) (by decide) (by kernel_rfl) (by kernel_rfl) (fun y => Mv w y B p c rv tv fv5 s row rwv ⟨m.bs, r.2.1, r.2.2⟩) HJ.out ?_
        simp only [List.take_succ_cons, List.take_zero, List.drop_succ_cons, List.drop_zero]
        refine rb_val (.pointer (some ⟨p, 0, none⟩)) (by first | rfl | exact ⟨by kernel_rfl, rfl⟩) (fun z v hT hf => exec_move (.tmp 0) rfl (by simp at hf; simp [Act.eval, hf])) ?_
        refine rb_val (.int .i64 i) (by first | rfl | exact ⟨by kernel_rfl, rfl⟩) (fun z v hT hf => exec_move (.tmp 4) rfl (by simp at hf; simp [Act.eval, hf])) ?_
        refine rb_val r.1.v (by first | rfl | exact ⟨by kernel_rfl, rfl⟩) (fun z v hT hf => exec_loads (cs := r.1.cells) (g := t) (off := 0) 33 (.tmp 5) rfl (by simp at hf; simp [Act.eval, hf]) Try.underlying33 info_bd (HV.out v hT).blk.whole) ?_
        refine rb_call (fun _ v => v = .tuple #[(Body.move r.1).1.v, .bool (Body.move r.1).2]) (fun y => Mv w y B p c rv tv fv5 s row rwv ⟨m.bs, r.2.1, r.2.2⟩) (by first | rfl | exact ⟨by kernel_rfl, rfl⟩) (by kernel_rfl) (fun _ _ _ _ h => h) (fun z y hJ hT hf => ?_) ?_
        · simp at hf
          go_simp
          refine (move_any _ _).mono ?_
          rintro x y2 ⟨rfl, o⟩
          exact ⟨_, rfl, rfl, hJ.then o, o.weaken (by simp)⟩
        refine rb_val (.tuple #[(Body.move r.1).1.v, .bool (Body.move r.1).2]) (by first | rfl | exact ⟨by kernel_rfl, rfl⟩) (fun z v hT hf => exec_move (.tmp 29) rfl (by simp at hf; simp [Act.eval, hf])) ?_
        refine rb_val (Body.move r.1).1.v (by first | rfl | exact ⟨by kernel_rfl, rfl⟩) (fun z v hT hf => exec_ext (.tmp 25) 0 rfl (by simp at hf; simp [Act.eval, hf]; rfl) rfl) ?_
        refine rb_val (.bool (Body.move r.1).2) (by first | rfl | exact ⟨by kernel_rfl, rfl⟩) (fun z v hT hf => exec_ext (.tmp 25) 1 rfl (by simp at hf; simp [Act.eval, hf]; rfl) rfl) ?_
        iterate 3 (
          apply rb_val
          · first | rfl | exact ⟨by kernel_rfl, rfl⟩
          · intro z v hT hf
            simp at hf
            go_simp
            try rfl)
        refine rb_val (.pointer (some ⟨p, 12 + i * 12, none⟩)) (by first | rfl | exact ⟨by kernel_rfl, rfl⟩) (fun z v hT hf => exec_at hlt (.tmp 34) (.tmp 27) rfl (by simp at hf; simp [Act.eval, hf]) (by simp at hf; simp [Act.eval, hf])) ?_
        refine rb_call (fun _ _ => True) (fun y => Mv w y B p c rv tv fv5 s row rwv (Step.moves c.rules row s.bs s.d (i + 1))) (by first | rfl | exact ⟨by kernel_rfl, rfl⟩) (by kernel_rfl) (fun _ _ _ _ h => h) (fun z y hJ hT hf => ?_) ?_
        · refine effOk_storeB hJ.fr hlt (Body.move r.1).1 (.tmp 35) (.tmp 30) rfl (by simp at hf; simp [Act.eval, hf]) (by simp at hf; simp [Act.eval, hf]) (fun y2 hb o => ⟨trivial, ?_, o⟩)
          have hS : ∀ g ∈ [p], p ≤ g := fun g hg => by have h2 : g = p := (by simpa using hg); omega
          rw [NX.out]
          exact ⟨hb, hJ.sr.only o (fun g hg hm => (hJ.own g hg).1 (by simpa using hm)), hJ.only.trans o, hJ.ops.only o hS, hJ.cells.only o hS, hJ.base, hJ.lt⟩
        intro w8 hJ8 hy8
        simp only [FinA, Sp.R, forall_eq]
        simp only [Act.put, List.setIfInBounds_toArray, List.set_cons_succ, List.set_cons_zero]
        have H8 : Hid _ := hJ8
        intros
        clear hJ8 hy8 HV HJ od
        try refine wpList_nil ?_
        go_wp2_with fail
        go_roundg (17 - (i + 1))
        case measure => omega
        case rel => exact ⟨i + 1, fv5, by go_num, by omega, by omega, H8.out⟩
end Go.Proofs.Ytngbannidbijmaa

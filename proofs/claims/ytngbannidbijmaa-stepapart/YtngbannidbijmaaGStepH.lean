/- Package step: hit. Package step: hitAll. Package step: Step. -/
import Derived.Test.YtngbannidbijmaaGStepI
import Derived.Test.YtngbannidbijmaaBodyH
namespace Go.Proofs.Ytngbannidbijmaa
open Go.RowKit
set_option linter.unusedVariables false
set_option linter.unusedSimpArgs false

namespace Step
theorem hit1_some {pl : Int} {i k : Nat} {h : H} (hl : h.bs.length = 16) (h2 : (h.bs.getD i Body.zero).k = 2) (hk : k < 16) (hh : Body.hit (h.bs.getD i Body.zero) (h.bs.getD k Body.zero) = true) (hn : ∀ j, j < k → Body.hit (h.bs.getD i Body.zero) (h.bs.getD j Body.zero) = false) : hit1 pl i h = struck pl i k h := by
  unfold hit1
  rw [if_pos h2]
  have e : h.bs.findIdx (fun p => Body.hit (h.bs.getD i Body.zero) p) = k := by
    rw [List.findIdx_eq (by rw [hl]; exact hk)]
    refine ⟨?_, fun j hj => ?_⟩
    · rw [List.getD_eq_getElem?_getD (l := h.bs) (i := k), List.getElem?_eq_getElem (by rw [hl]; exact hk)] at hh
      exact hh
    · have := hn j hj
      rw [List.getD_eq_getElem?_getD (l := h.bs) (i := j), List.getElem?_eq_getElem (by rw [hl]; omega)] at this
      exact this
  dsimp only
  rw [e, if_pos hk]
theorem hit1_none {pl : Int} {i n : Nat} {h : H} (g : Hi pl h) (hi : i < 16) (h2 : (h.bs.getD i Body.zero).k = 2) (hp : (n : Int) = pl) (hn : ∀ j, j < n → Body.hit (h.bs.getD i Body.zero) (h.bs.getD j Body.zero) = false) : hit1 pl i h = h := by
  unfold hit1
  rw [if_pos h2]
  dsimp only
  rw [if_neg]
  intro hk
  have hl : h.bs.findIdx (fun p => Body.hit (h.bs.getD i Body.zero) p) < h.bs.length := by rw [g.b.len]; exact hk
  have hh := List.findIdx_getElem (p := fun p => Body.hit (h.bs.getD i Body.zero) p) (xs := h.bs) (w := hl)
  generalize h.bs.findIdx (fun p => Body.hit (h.bs.getD i Body.zero) p) = k at *
  have hh2 : Body.hit (h.bs.getD i Body.zero) (h.bs.getD k Body.zero) = true := by
    rw [List.getD_eq_getElem?_getD (l := h.bs) (i := k), List.getElem?_eq_getElem hl]; exact hh
  have q := hits_of g hi hk h2 hh2
  have := q.among
  rw [hn k (by omega)] at hh2
  exact absurd hh2 (by decide)
end Step
theorem at_rowO {g o n cap k : Nat} (hk : k < n) (w : World) : (Instr.indexAt 70 (.slice (some ⟨g, o, none⟩) n cap) (.int .i64 (k : Nat))).run Try.prog w = .ok (.pointer (some ⟨g, o + k * 12, none⟩)) w := by
  have hs : (sizeOf (Try.prog.elem 70)).run Try.prog w = .ok 12 w := by kernel_rfl
  rw [run_indexAt_slice (h := by kernel_rfl), if_pos ⟨by omega, by omega⟩, hs]
  simp [Result.andThen, Addr.add_lit]
theorem exec_atO {w : World} {o : Oper} {act : Act} {g f n cap k : Nat} (hk : k < n) (x y : Operand) (ho : o.op = .indexAddr 70 x y) (hx : act.eval x = .slice (some ⟨g, f, none⟩) n cap) (hy : act.eval y = .int .i64 (k : Nat)) : (execOp act.eval o).run Try.prog w = .ok (.value (.pointer (some ⟨g, f + k * 12, none⟩))) w := by
  simp only [execOp, ho, hx, hy, Sem.run_bind, at_rowO hk, Result.andThen_ok, Sem.run_pure]
/-- the first n bodies of the array, as a slice -/
theorem exec_slA {w : World} {o : Oper} {act : Act} {p f n : Nat} (hn : n ≤ 8) (x y : Operand) (ho : o.op = .slice 34 x none (some y) none) (hx : act.eval x = .pointer (some ⟨p, f, none⟩)) (hy : act.eval y = .int .i64 (n : Nat)) : (execOp act.eval o).run Try.prog w = .ok (.value (.slice (some ⟨p, f, none⟩) n 16)) w := by
  have h9 : n = 0 ∨ n = 1 ∨ n = 2 ∨ n = 3 ∨ n = 4 ∨ n = 5 ∨ n = 6 ∨ n = 7 ∨ n = 8 := by omega
  simp only [execOp, ho, hx, hy, Sem.run_bind, Option.map]
  rcases h9 with rfl | rfl | rfl | rfl | rfl | rfl | rfl | rfl | rfl <;> (show _ = _; kernel_rfl)
theorem exec_int {w : World} {o : Oper} {act : Act} {a : Addr} {n : Int} (x : Operand) (ho : o.op = .load 3 x) (hx : act.eval x = .pointer (some a)) (h : w.cell? a = some (.int .i64 n)) : (execOp act.eval o).run Try.prog w = .ok (.value (.int .i64 n)) w := by
  simp only [execOp, ho, hx]
  go_simp
theorem exec_min {w : World} {o : Oper} {act : Act} {a b : Int} {ts : Array TypeId} (x y : Operand) (ho : o.op = .call { callee := .builtin .min, args := #[x, y], argTypes := ts }) (hx : act.eval x = .int .i64 a) (hy : act.eval y = .int .i64 b) : (execOp act.eval o).run Try.prog w = .ok (.value (.int .i64 (if b < a then b else a))) w := by
  simp only [execOp, ho, resolve, invoke, builtin, Sem.run_bind, Sem.run_pure, Result.andThen_ok, List.map_toArray, List.map_cons, List.map_nil, hx, hy]
  simp [go_sem]
/-- where hit stands: the shot, and the player that is asked -/
structure Ht (w W : World) (p t : Nat) (c : Cf) (rv tv fv : Value) (s : Gs) (b : Bd) : Prop where
  fr : Fr W p c rv tv s fv
  shot : Bl W t b
  only : Only [] w W
  base : w.heap.size = t
  lt : p < t
theorem Ht.then {w W W' : World} {p t : Nat} {c : Cf} {rv tv fv : Value} {s : Gs} {b : Bd} (h : Ht w W p t c rv tv fv s b) (o : Only [] W W') : Ht w W' p t c rv tv fv s b :=
  ⟨h.fr.only o (by simp), h.shot.only o (by simp), h.only.trans o, h.base, h.lt⟩
theorem Ht.off {w W W' : World} {p t : Nat} {c : Cf} {rv tv fv : Value} {s : Gs} {b : Bd} (h : Ht w W p t c rv tv fv s b) {u : Nat} (o : Only [u] W W') (hu : t < u) : Ht w W' p t c rv tv fv s b := by
  have hl := h.lt
  have hb := h.base
  exact ⟨h.fr.only o (by simp; omega), h.shot.only o (by simp; omega), h.only.then o (fun x hx hl => by have h2 : x = u := (by simpa using hx); omega), h.base, h.lt⟩
set_option maxRecDepth 100000 in
set_option maxHeartbeats 4000000 in
theorem shit_any {w : World} {p i : Nat} {c : Cf} {rv tv fv : Value} {s : Gs} (F : Fr w p c rv tv s fv) (G : Step.Hi c.pl ⟨s.bs, s.sc⟩) (h1 : 1 ≤ c.pl) (h8 : c.pl ≤ 8) (hi : i < 16) (h2 : (s.bs.getD i Body.zero).k = 2) :
    Calls Try.prog 57 #[.pointer (some ⟨p, 0, none⟩), .int .i64 (i : Nat)] w fun e w' => e = .returned (.tuple #[]) ∧ Fr w' p c rv tv { s with bs := (Step.hit1 c.pl i ⟨s.bs, s.sc⟩).bs, sc := (Step.hit1 c.pl i ⟨s.bs, s.sc⟩).sc } fv ∧ Only [p] w w' := by
  have hnot : ∀ (x : Bool) (w : World), (Op.unary .not (.bool x)).run Try.prog w = .ok (.bool (!x)) w := fun _ _ => rfl
  obtain ⟨n, hn⟩ : ∃ n : Nat, (n : Int) = c.pl := ⟨c.pl.toNat, by omega⟩
  have hn8 : n ≤ 8 := by omega
  obtain ⟨b, hb⟩ : ∃ b, s.bs.getD i Body.zero = b := ⟨_, rfl⟩
  obtain ⟨t, ht⟩ : ∃ t, w.heap.size = t := ⟨_, rfl⟩
  have F0 : Hid (Fr w p c rv tv s fv) := F
  have HN : Hid _ := hn
  have HI : Hid (i < 16) := hi
  have HBI : Hid (s.bs.getD i Body.zero = b) := hb
  have HG : Hid (Step.Hi c.pl ⟨s.bs, s.sc⟩ ∧ c.pl ≤ 8) := ⟨G, h8⟩
  have FB : Hid (Step.Fired c.pl b) := by
    have hs := G.b.all i hi
    rw [show (⟨s.bs, s.sc⟩ : Step.H).bs.getD i Body.zero = b from hb] at hs
    rw [hb] at h2
    rcases hs.other (hs.not_one (by omega)) with e | e
    · rw [e] at h2; exact absurd h2 (by decide)
    · exact e
  have YES : Hid (∀ k, k < n → Body.hit b (s.bs.getD k Body.zero) = true → (∀ j, j < k → Body.hit b (s.bs.getD j Body.zero) = false) → Step.hit1 c.pl i ⟨s.bs, s.sc⟩ = Step.struck c.pl i k ⟨s.bs, s.sc⟩) := fun k hk hh hn => Step.hit1_some G.b.len h2 (by omega) (by show Body.hit (s.bs.getD i Body.zero) _ = true; rw [hb]; exact hh) (fun j hj => by show Body.hit (s.bs.getD i Body.zero) _ = false; rw [hb]; exact hn j hj)
  have NO : Hid ((∀ j, j < n → Body.hit b (s.bs.getD j Body.zero) = false) → Step.hit1 c.pl i ⟨s.bs, s.sc⟩ = ⟨s.bs, s.sc⟩) := fun hj => Step.hit1_none (n := n) G hi h2 hn (fun j h => by show Body.hit (s.bs.getD i Body.zero) _ = false; rw [hb]; exact hj j h)
  clear F G h1 h8 hn
  go_enter Try.func57, Try.ntmps57
  go_upto_region 0 with fail
  apply wp_region_lit
  refine op_val (w' := w) rfl (.pointer (some ⟨p, 0, none⟩)) (by kernel_rfl) ?_
  simp only [Act.put, List.setIfInBounds_toArray, List.set_cons_succ, List.set_cons_zero]
  refine op_val (w' := w) rfl (.int .i64 i) (by kernel_rfl) ?_
  simp only [Act.put, List.setIfInBounds_toArray, List.set_cons_succ, List.set_cons_zero]
  refine op_val (w' := w) rfl (.pointer (some ⟨p, 0, none⟩)) (by kernel_rfl) ?_
  simp only [Act.put, List.setIfInBounds_toArray, List.set_cons_succ, List.set_cons_zero]
  refine op_val (w' := w) rfl (.pointer (some ⟨p, 10, none⟩)) (by kernel_rfl) ?_
  simp only [Act.put, List.setIfInBounds_toArray, List.set_cons_succ, List.set_cons_zero]
  refine op_val (w' := w) rfl (.pointer (some ⟨p, 12, none⟩)) (by kernel_rfl) ?_
  simp only [Act.put, List.setIfInBounds_toArray, List.set_cons_succ, List.set_cons_zero]
  refine op_val (w' := w) rfl (.pointer (some ⟨p, 12 + i * 12, none⟩)) (exec_at hi (.tmp 12) (.tmp 9) rfl (by kernel_rfl) (by kernel_rfl)) ?_
  simp only [Act.put, List.setIfInBounds_toArray, List.set_cons_succ, List.set_cons_zero]
  refine opg_loads (by kernel_rfl) (cs := (s.bs.getD i Body.zero).cells) (g := p) (off := 12 + i * 12) 33 (.tmp 13) rfl (by kernel_rfl) Try.underlying33 info_bd (F0.out.body hi) ?_
  simp only [Act.put, List.setIfInBounds_toArray, List.set_cons_succ, List.set_cons_zero]
  rw [hb]
  refine op_val (w' := w.alloc (.cells Body.zero.cells.toArray 33)) rfl (.pointer (some ⟨w.heap.size, 0, none⟩)) (by kernel_rfl) ?_
  simp only [Act.put, List.setIfInBounds_toArray, List.set_cons_succ, List.set_cons_zero]
  refine op_storeBl (p := w.heap.size) (b := b) rfl (Bl.new Body.zero _ _) (.tmp 4) (.tmp 14) rfl (by kernel_rfl) (by kernel_rfl) ?_
  intro w1 hb1 o1 hz1
  have o01 : Only [] w w1 := ((Only.refl [] w).alloc _).then o1 (fun u hu hl => by have h2 : u = w.heap.size := (by simpa using hu); omega)
  have H1 : Hid (Ht w w1 p t c rv tv fv s b) := ⟨F0.out.only o01 (by simp), ht ▸ hb1, o01, ht, ht ▸ F0.out.blk.lt⟩
  rw [ht]
  clear hb1 o1 hz1 o01 F0 ht hb h2
  simp only [Act.put, List.setIfInBounds_toArray, List.set_cons_succ, List.set_cons_zero]
  refine wpList_nil ?_
  go_upto_region 1 with fail
  have HV : Hid (∀ y, Only [] w1.drew y → Ht w y p t c rv tv fv s b) := fun y hy => H1.out.then ((only_drew w1).trans hy)
  refine wp_region_free 12 (Only []) (Only.refl _) (Only.trans) [(0, .pointer (some ⟨p, 0, none⟩))] (by intro p hp; simp only [List.mem_cons, List.not_mem_nil, or_false] at hp; rcases hp with rfl <;> rfl) (by kernel_rfl) (by kernel_rfl) (by decide) (by kernel_rfl) (by kernel_rfl) ?_
  simp only [List.take_succ_cons, List.take_zero, List.drop_succ_cons, List.drop_zero]
  iterate 7 (
    apply rf_val
    · first | rfl | exact ⟨by kernel_rfl, rfl⟩
    · intro zA v hT hf
      simp at hf
      go_simp
      try rfl)
  refine rf_val (.pointer (some ⟨p, 0, none⟩)) (by first | rfl | exact ⟨by kernel_rfl, rfl⟩) (fun zA v hT hf => ?_) ?_
  · skip
    simp at hf
    go_simp
    try rfl
  refine rf_val (.int .i64 n) (by first | rfl | exact ⟨by kernel_rfl, rfl⟩) (fun zA v hT hf => exec_int (a := ⟨p, 0, none⟩) (.tmp 22) rfl (by simp at hf; simp [Act.eval, hf]) (by rw [HN.out]; exact (HV.out v hT).fr.pl)) ?_
  refine rf_val (.slice (some ⟨p, 12, none⟩) n 16) (by first | rfl | exact ⟨by kernel_rfl, rfl⟩) (fun zA v hT hf => exec_slA hn8 (.tmp 18) (.tmp 23) rfl (by simp at hf; simp [Act.eval, hf]) (by simp at hf; simp [Act.eval, hf])) ?_
  refine rf_val (.int .i64 n) (by first | rfl | exact ⟨by kernel_rfl, rfl⟩) (fun zA v hT hf => ?_) ?_
  · skip
    simp at hf
    go_simp
    try rfl
  refine rf_val (.int .i64 0) (by first | rfl | exact ⟨by kernel_rfl, rfl⟩) (fun zA v hT hf => ?_) ?_
  · skip
    simp at hf
    go_simp
    try rfl
  intro w2 hy
  simp only [FinA, Sp.R, forall_eq]
  simp only [Act.put, List.setIfInBounds_toArray, List.set_cons_succ, List.set_cons_zero]
  have H2 : Hid _ := HV.out w2 hy
  clear hy HV H1
  try refine wpList_nil ?_
  go_wp2_with fail
  go_loopg [26] (n + 1) (fun gk vi wr => ∃ k : Nat, vi = .int .i64 k ∧ k ≤ n ∧ n + 1 - k ≤ gk ∧ Hid (Ht w wr p t c rv tv fv s b ∧ ∀ j, j < k → Body.hit b (s.bs.getD j Body.zero) = false))
  case atStart => exact ⟨0, rfl, by omega, by omega, H2.out, fun j hj => by omega⟩
  case round =>
    clear H2
    obtain ⟨k, rfl, hk, hg, HH⟩ := hrel
    by_cases hlt : k < n
    rotate_left
    · have z1 : ¬ (k : Int) < (n : Int) := by omega
      have e : k = n := by omega
      have HE : Hid (Step.hit1 c.pl i ⟨s.bs, s.sc⟩ = ⟨s.bs, s.sc⟩) := NO.out (by rw [← e]; exact HH.out.2)
      go_wp2_with fail
      go_end0
      rw [HE.out]
      exact ⟨rfl, HH.out.1.fr, HH.out.1.only.weaken (by simp)⟩
    · have z1 : (k : Int) < (n : Int) := by omega
      have hk16 : k < 16 := by omega
      obtain ⟨pl, hpl⟩ : ∃ pl, s.bs.getD k Body.zero = pl := ⟨_, rfl⟩
      have HPL : Hid _ := hpl
      have YK : Hid (Body.hit b pl = true → Step.hit1 c.pl i ⟨s.bs, s.sc⟩ = Step.struck c.pl i k ⟨s.bs, s.sc⟩) := fun h => YES.out k hlt (by rw [hpl]; exact h) HH.out.2
      have PO : Hid (pl.o = k ∧ 0 ≤ pl.f ∧ pl.f ≤ 65535) := by
        have := (HG.out.1.b.all k hk16).player (by rw [← HN.out]; omega)
        rw [show (⟨s.bs, s.sc⟩ : Step.H).bs.getD k Body.zero = pl from hpl] at this
        exact ⟨this.2.2, ((Body.some_iff _).1 this.1).f⟩
      go_upto_region 3 with fail
      apply wp_region_lit
      refine op_val (w' := wr) rfl (.int .i64 k) (by kernel_rfl) ?_
      simp only [Act.put, List.setIfInBounds_toArray, List.set_cons_succ, List.set_cons_zero]
      refine op_val (w' := wr) rfl (.pointer (some ⟨p, 12 + k * 12, none⟩)) (exec_atO (cap := 16) hlt (.tmp 24) (.tmp 26) rfl (by kernel_rfl) (by kernel_rfl)) ?_
      simp only [Act.put, List.setIfInBounds_toArray, List.set_cons_succ, List.set_cons_zero]
      refine opg_loads (by kernel_rfl) (cs := (s.bs.getD k Body.zero).cells) (g := p) (off := 12 + k * 12) 33 (.tmp 29) rfl (by kernel_rfl) Try.underlying33 info_bd (HH.out.1.fr.body hk16) ?_
      simp only [Act.put, List.setIfInBounds_toArray, List.set_cons_succ, List.set_cons_zero]
      rw [hpl]
      refine op_val (w' := wr.alloc (.cells Body.zero.cells.toArray 33)) rfl (.pointer (some ⟨wr.heap.size, 0, none⟩)) (by kernel_rfl) ?_
      simp only [Act.put, List.setIfInBounds_toArray, List.set_cons_succ, List.set_cons_zero]
      refine op_val (w' := wr.alloc (.cells Body.zero.cells.toArray 33)) rfl (.int .i64 k) (by kernel_rfl) ?_
      simp only [Act.put, List.setIfInBounds_toArray, List.set_cons_succ, List.set_cons_zero]
      refine op_storeBl (p := wr.heap.size) (b := pl) rfl (Bl.new Body.zero _ _) (.tmp 6) (.tmp 30) rfl (by kernel_rfl) (by kernel_rfl) ?_
      intro w4 hb4 o4 hz4
      have o14 : Only [] wr w4 := ((Only.refl [] wr).alloc _).then o4 (fun u hu hl => by have h2 : u = wr.heap.size := (by simpa using hu); omega)
      have hn : Hid (∀ j, j < k → Body.hit b (s.bs.getD j Body.zero) = false) := HH.out.2
      have H4 : Hid (Ht w w4 p t c rv tv fv s b ∧ Bl w4 wr.heap.size pl ∧ t < wr.heap.size) := ⟨HH.out.1.then o14, hb4, HH.out.1.shot.lt⟩
      generalize wr.heap.size = u at *
      clear hb4 o4 hz4 o14 HH hpl
      simp only [Act.put, List.setIfInBounds_toArray, List.set_cons_succ, List.set_cons_zero]
      refine wpList_nil ?_
      go_upto_region 4 with fail
      apply wp_region_lit
      refine opg_bl (p := t) (by kernel_rfl) (.tmp 4) rfl (by kernel_rfl) H4.out.1.shot ?_
      simp only [Act.put, List.setIfInBounds_toArray, List.set_cons_succ, List.set_cons_zero]
      refine opg_bl (p := u) (by kernel_rfl) (.tmp 6) rfl (by kernel_rfl) H4.out.2.1 ?_
      simp only [Act.put, List.setIfInBounds_toArray, List.set_cons_succ, List.set_cons_zero]
      refine op_call (F := 78) (args := #[b.v, pl.v]) (w1 := w4) rfl (by kernel_rfl) ?_
      refine (hit_any b pl w4).mono ?_
      rintro e w5 ⟨rfl, o⟩
      refine ⟨_, rfl, ?_⟩
      simp only [Act.put, List.setIfInBounds_toArray, List.set_cons_succ, List.set_cons_zero]
      have H5 : Hid (Ht w w5 p t c rv tv fv s b ∧ Bl w5 u pl ∧ t < u) := ⟨H4.out.1.then o, H4.out.2.1.only o (by simp), H4.out.2.2⟩
      clear H4 o
      obtain ⟨hh, hhe⟩ : ∃ hh, Body.hit b pl = hh := ⟨_, rfl⟩
      have HHE : Hid (Body.hit b pl = hh) := hhe
      rw [hhe]
      clear hhe
      cases hh
      · refine op_val (w' := w5) rfl (.bool true) (by kernel_rfl) ?_
        simp only [Act.put, List.setIfInBounds_toArray, List.set_cons_succ, List.set_cons_zero]
        refine wpList_nil ?_
        go_wp2_with fail
        go_roundg (n + 1 - (k + 1))
        case measure => omega
        case rel =>
          refine ⟨k + 1, by go_num, by omega, by omega, H5.out.1, fun j hj => ?_⟩
          rcases Nat.lt_or_ge j k with h | h
          · exact hn.out j h
          · have : j = k := by omega
            subst this; rw [HPL.out]; exact HHE.out
      · have EQ : Hid (Step.hit1 c.pl i ⟨s.bs, s.sc⟩ = Step.struck c.pl i k ⟨s.bs, s.sc⟩) := YK.out HHE.out
        clear YK HHE hn
        obtain ⟨ow, how⟩ : ∃ ow : Nat, b.o = ow := ⟨b.o.toNat, by have := ((Body.some_iff b).1 FB.out.1).o; omega⟩
        have how8 : ow < 8 := by have := FB.out.2.2; have := HG.out.2; omega
        have HOW : Hid _ := how
        obtain ⟨sc, hsc⟩ : ∃ sc, s.sc.getD ow 0 = sc := ⟨_, rfl⟩
        have HSC : Hid (s.sc.getD ow 0 = sc) := hsc
        have hscr : 0 ≤ sc ∧ sc ≤ 2147483647 := by have := (HG.out.1.s.all ow how8).1; rw [show (⟨s.bs, s.sc⟩ : Step.H).sc.getD ow 0 = sc from hsc] at this; exact this
        obtain ⟨m0, hm0⟩ : ∃ m0, (if 2147483646 < sc then 2147483646 else sc) = m0 := ⟨_, rfl⟩
        have HM0 : Hid ((if 2147483646 < sc then 2147483646 else sc) = m0) := hm0
        have hm1 : IntKind.i64.wrap (m0 + 1) = m0 + 1 := IntWalk.i64_in _ (by rw [← hm0]; split <;> omega)
        have EQ : Hid (Step.hit1 c.pl i ⟨s.bs, s.sc⟩ = ⟨(s.bs.set i Body.zero).set k { Body.born (k : Nat) c.pl with f := pl.f }, s.sc.set ow (m0 + 1)⟩) := by
          show _ = _
          rw [EQ.out]
          have e1 : s.bs.getD k Body.zero = pl := HPL.out
          have FBO := FB.out
          unfold Step.struck
          dsimp only
          rw [HBI.out, e1, PO.out.1, how, show ((ow : Nat) : Int).toNat = ow by omega, hsc, show (if sc ≤ 2147483646 then sc + 1 else 2147483647) = m0 + 1 by rw [← hm0]; split <;> split <;> omega]
        clear hsc hm0 how
        refine op_val (w' := w5) rfl (.bool false) (by kernel_rfl) ?_
        simp only [Act.put, List.setIfInBounds_toArray, List.set_cons_succ, List.set_cons_zero]
        refine wpList_nil ?_
        go_upto_region 5 with fail
        have HV : Hid (∀ y, Only [] w5.drew y → Ht w y p t c rv tv fv s b ∧ Bl y u pl ∧ t < u) := fun y hy => by
          have o := (only_drew w5).trans hy
          exact ⟨H5.out.1.then o, H5.out.2.1.only o (by simp), H5.out.2.2⟩
        refine wp_region_free 17 (Only []) (Only.refl _) (Only.trans) [(0, .pointer (some ⟨p, 0, none⟩)), (4, .pointer (some ⟨t, 0, none⟩))] (by intro p hp; simp only [List.mem_cons, List.not_mem_nil, or_false] at hp; rcases hp with rfl | rfl <;> rfl) (by kernel_rfl) (by kernel_rfl) (by decide) (by kernel_rfl) (by kernel_rfl) ?_
        simp only [List.take_succ_cons, List.take_zero, List.drop_succ_cons, List.drop_zero]
        iterate 2 (
          apply rf_val
          · first | rfl | exact ⟨by kernel_rfl, rfl⟩
          · intro zA v hT hf
            simp at hf
            go_simp
            try rfl)
        refine rf_val (.int .i64 (ow : Nat)) (by first | rfl | exact ⟨by kernel_rfl, rfl⟩) (fun zA v hT hf => exec_int (a := ⟨t, 1, none⟩) (.tmp 36) rfl (by simp at hf; simp [Act.eval, hf]) (by rw [← HOW.out]; exact (HV.out v hT).1.shot.all.2.1)) ?_
        iterate 2 (
          apply rf_val
          · first | rfl | exact ⟨by kernel_rfl, rfl⟩
          · intro zA v hT hf
            simp at hf
            go_simp
            try rfl)
        refine rf_val (.int .i64 (ow : Nat)) (by first | rfl | exact ⟨by kernel_rfl, rfl⟩) (fun zA v hT hf => exec_int (a := ⟨t, 1, none⟩) (.tmp 39) rfl (by simp at hf; simp [Act.eval, hf]) (by rw [← HOW.out]; exact (HV.out v hT).1.shot.all.2.1)) ?_
        iterate 3 (
          apply rf_val
          · first | rfl | exact ⟨by kernel_rfl, rfl⟩
          · intro zA v hT hf
            simp at hf
            go_simp
            try rfl)
        refine rf_val (.pointer (some ⟨p, 204 + ow, none⟩)) (by first | rfl | exact ⟨by kernel_rfl, rfl⟩) (fun zA v hT hf => exec_atS how8 (.tmp 43) (.tmp 40) rfl (by simp at hf; simp [Act.eval, hf]) (by simp at hf; simp [Act.eval, hf])) ?_
        refine rf_val (.int .i64 sc) (by first | rfl | exact ⟨by kernel_rfl, rfl⟩) (fun zA v hT hf => exec_int (a := ⟨p, 204 + ow, none⟩) (.tmp 44) rfl (by simp at hf; simp [Act.eval, hf]) (by rw [← HSC.out]; exact (HV.out v hT).1.fr.score how8)) ?_
        refine rf_val (.int .i64 m0) (by first | rfl | exact ⟨by kernel_rfl, rfl⟩) (fun zA v hT hf => by rw [← HM0.out]; exact exec_min (.tmp 45) (.const (.int .i64 2147483646)) rfl (by simp at hf; simp [Act.eval, hf]) rfl) ?_
        refine rf_val (.int .i64 (m0 + 1)) (by first | rfl | exact ⟨by kernel_rfl, rfl⟩) (fun zA v hT hf => ?_) ?_
        · skip
          simp at hf
          go_simp
          try rfl
        iterate 3 (
          apply rf_val
          · first | rfl | exact ⟨by kernel_rfl, rfl⟩
          · intro zA v hT hf
            simp at hf
            go_simp
            try rfl)
        refine rf_val (.pointer (some ⟨p, 204 + ow, none⟩)) (by first | rfl | exact ⟨by kernel_rfl, rfl⟩) (fun zA v hT hf => exec_atS how8 (.tmp 50) (.tmp 37) rfl (by simp at hf; simp [Act.eval, hf]) (by simp at hf; simp [Act.eval, hf])) ?_
        intro w6 hy
        simp only [FinA, Sp.R, forall_eq]
        simp only [Act.put, List.setIfInBounds_toArray, List.set_cons_succ, List.set_cons_zero]
        have H6 : Hid _ := HV.out w6 hy
        have c6 : w6.cell? ⟨p, 204 + ow, none⟩ = some (.int .i64 sc) := by rw [← HSC.out]; exact H6.out.1.fr.score how8
        have f6 : w6.frozen? ⟨p, 204 + ow, none⟩ = false := H6.out.1.fr.blk.frozen _
        clear hy HV H5
        try refine wpList_nil ?_
        go_upto_region 6 with fail
        have F7 : Hid (Ht w w6 p t c rv tv fv s b ∧ Bl (w6.setCell ⟨p, 204 + ow, none⟩ (.int .i64 (m0 + 1))) u pl ∧ t < u ∧ Fr (w6.setCell ⟨p, 204 + ow, none⟩ (.int .i64 (m0 + 1))) p c rv tv { s with sc := s.sc.set ow (m0 + 1) } fv ∧ Only [p] w (w6.setCell ⟨p, 204 + ow, none⟩ (.int .i64 (m0 + 1)))) := by
          have o : Only [p] w6 (w6.setCell ⟨p, 204 + ow, none⟩ (.int .i64 (m0 + 1))) := (Only.refl _ _).setCell (by simp) _
          exact ⟨H6.out.1, H6.out.2.1.only o (by have := H6.out.1.lt; have := H6.out.2.2; simp; omega), H6.out.2.2, H6.out.1.fr.setScore how8 _, (H6.out.1.only.weaken (by simp)).trans o⟩
        have LT : Hid (p < t) := H6.out.1.lt
        have BS : Hid (w.heap.size = t) := H6.out.1.base
        clear c6 f6 H6
        generalize w6.setCell ⟨p, 204 + ow, none⟩ (.int .i64 (m0 + 1)) = w7 at *
        apply wp_region_lit
        refine op_val (w' := w7) rfl (.pointer (some ⟨p, 0, none⟩)) (by kernel_rfl) ?_
        simp only [Act.put, List.setIfInBounds_toArray, List.set_cons_succ, List.set_cons_zero]
        refine op_val (w' := w7) rfl (.int .i64 i) (by kernel_rfl) ?_
        simp only [Act.put, List.setIfInBounds_toArray, List.set_cons_succ, List.set_cons_zero]
        refine op_val (w' := w7) rfl (Body.zero.v) (by kernel_rfl) ?_
        simp only [Act.put, List.setIfInBounds_toArray, List.set_cons_succ, List.set_cons_zero]
        refine op_val (w' := w7) rfl (.pointer (some ⟨p, 0, none⟩)) (by kernel_rfl) ?_
        simp only [Act.put, List.setIfInBounds_toArray, List.set_cons_succ, List.set_cons_zero]
        refine op_val (w' := w7) rfl (.pointer (some ⟨p, 10, none⟩)) (by kernel_rfl) ?_
        simp only [Act.put, List.setIfInBounds_toArray, List.set_cons_succ, List.set_cons_zero]
        refine op_val (w' := w7) rfl (.pointer (some ⟨p, 12, none⟩)) (by kernel_rfl) ?_
        simp only [Act.put, List.setIfInBounds_toArray, List.set_cons_succ, List.set_cons_zero]
        refine op_val (w' := w7) rfl (.pointer (some ⟨p, 12 + i * 12, none⟩)) (exec_at hi (.tmp 57) (.tmp 53) rfl (by kernel_rfl) (by kernel_rfl)) ?_
        simp only [Act.put, List.setIfInBounds_toArray, List.set_cons_succ, List.set_cons_zero]
        refine op_storeB rfl F7.out.2.2.2.1 (i := i) hi Body.zero (.tmp 58) (.tmp 54) rfl (by kernel_rfl) (by kernel_rfl) ?_
        intro w8 hb8 o8 hz8
        have H8 : Hid (Fr w8 p c rv tv { s with bs := s.bs.set i Body.zero, sc := s.sc.set ow (m0 + 1) } fv ∧ Bl w8 u pl ∧ t < u ∧ Only [p] w w8) := ⟨hb8, F7.out.2.1.only o8 (by have := LT.out; have := F7.out.2.2.1; simp; omega), F7.out.2.2.1, F7.out.2.2.2.2.trans o8⟩
        clear F7 hb8 o8 hz8
        simp only [Act.put, List.setIfInBounds_toArray, List.set_cons_succ, List.set_cons_zero]
        refine wpList_nil ?_
        go_upto_region 7 with fail
        apply wp_region_lit
        refine op_val (w' := w8) rfl (.int .i64 k) (by kernel_rfl) ?_
        simp only [Act.put, List.setIfInBounds_toArray, List.set_cons_succ, List.set_cons_zero]
        refine op_val (w' := w8) rfl (.pointer (some ⟨p, 0, none⟩)) (by kernel_rfl) ?_
        simp only [Act.put, List.setIfInBounds_toArray, List.set_cons_succ, List.set_cons_zero]
        refine op_val (w' := w8) rfl (.pointer (some ⟨p, 0, none⟩)) (by kernel_rfl) ?_
        simp only [Act.put, List.setIfInBounds_toArray, List.set_cons_succ, List.set_cons_zero]
        refine op_val (w' := w8) rfl (.pointer (some ⟨p, 0, none⟩)) (by kernel_rfl) ?_
        simp only [Act.put, List.setIfInBounds_toArray, List.set_cons_succ, List.set_cons_zero]
        refine op_val (w' := w8) rfl (.pointer (some ⟨p, 0, none⟩)) (by kernel_rfl) ?_
        simp only [Act.put, List.setIfInBounds_toArray, List.set_cons_succ, List.set_cons_zero]
        refine op_val (w' := w8) rfl (.int .i64 c.pl) (exec_int (a := ⟨p, 0, none⟩) (.tmp 63) rfl (by kernel_rfl) H8.out.1.pl) ?_
        simp only [Act.put, List.setIfInBounds_toArray, List.set_cons_succ, List.set_cons_zero]
        refine op_call (F := 25) (args := #[.int .i64 k, .int .i64 c.pl]) (w1 := w8) rfl (by kernel_rfl) ?_
        refine (born_any k c.pl w8).mono ?_
        rintro e w9 ⟨rfl, o⟩
        refine ⟨_, rfl, ?_⟩
        simp only [Act.put, List.setIfInBounds_toArray, List.set_cons_succ, List.set_cons_zero]
        obtain ⟨q, hq⟩ : ∃ q, w9.heap.size = q := ⟨_, rfl⟩
        have H9 : Hid (Fr w9 p c rv tv { s with bs := s.bs.set i Body.zero, sc := s.sc.set ow (m0 + 1) } fv ∧ Bl w9 u pl ∧ t < u ∧ Only [p] w w9 ∧ u < q) := ⟨H8.out.1.only o (by simp), H8.out.2.1.only o (by simp), H8.out.2.2.1, H8.out.2.2.2.trans (o.weaken (by simp)), by have := (H8.out.2.1.only o (by simp)).lt; omega⟩
        clear H8 o
        obtain ⟨nb, hnb⟩ : ∃ nb, Body.born (k : Nat) c.pl = nb := ⟨_, rfl⟩
        rw [hnb] at EQ ⊢
        clear hnb
        refine op_val (w' := w9.alloc (.cells Body.zero.cells.toArray 33)) rfl (.pointer (some ⟨w9.heap.size, 0, none⟩)) (by kernel_rfl) ?_
        simp only [Act.put, List.setIfInBounds_toArray, List.set_cons_succ, List.set_cons_zero]
        rw [hq]
        refine op_storeBl (p := q) (b := nb) rfl (hq ▸ Bl.new Body.zero _ _) (.tmp 7) (.tmp 65) rfl (by kernel_rfl) (by kernel_rfl) ?_
        intro w10 hb10 o10 hz10
        have o910 : Only [] w9 w10 := ((Only.refl [] w9).alloc _).then o10 (fun u hu hl => by have h2 : u = q := (by simpa using hu); omega)
        have H10 : Hid (Fr w10 p c rv tv { s with bs := s.bs.set i Body.zero, sc := s.sc.set ow (m0 + 1) } fv ∧ Bl w10 u pl ∧ t < u ∧ Only [p] w w10 ∧ u < q ∧ Bl w10 q nb) := ⟨H9.out.1.only o910 (by simp), H9.out.2.1.only o910 (by simp), H9.out.2.2.1, H9.out.2.2.2.1.trans (o910.weaken (by simp)), H9.out.2.2.2.2, hb10⟩
        clear H9 hb10 o10 hz10 o910 hq
        simp only [Act.put, List.setIfInBounds_toArray, List.set_cons_succ, List.set_cons_zero]
        refine wpList_nil ?_
        have cu : w10.cell? ⟨u, 11, none⟩ = some (.int .i64 pl.f) := H10.out.2.1.all.2.2.2.2.2.2.2.2.2.2.2
        have cq : w10.cell? ⟨q, 11, none⟩ = some (.int .i64 nb.f) := H10.out.2.2.2.2.2.all.2.2.2.2.2.2.2.2.2.2.2
        have fq : w10.frozen? ⟨q, 11, none⟩ = false := H10.out.2.2.2.2.2.frozen 11
        go_upto_region 9 with fail
        have H11 : Hid (Fr (w10.setCell ⟨q, 11, none⟩ (.int .i64 pl.f)) p c rv tv { s with bs := s.bs.set i Body.zero, sc := s.sc.set ow (m0 + 1) } fv ∧ Only [p] w (w10.setCell ⟨q, 11, none⟩ (.int .i64 pl.f)) ∧ Bl (w10.setCell ⟨q, 11, none⟩ (.int .i64 pl.f)) q { nb with f := pl.f } ∧ p < q) := by
          have o : Only [q] w10 (w10.setCell ⟨q, 11, none⟩ (.int .i64 pl.f)) := (Only.refl _ _).setCell (by simp) _
          have := LT.out
          have := BS.out
          have := H10.out.2.2.2.2.1
          have := H10.out.2.2.1
          exact ⟨H10.out.1.only o (by simp; omega), H10.out.2.2.2.1.then o (fun x hx hl => by have h2 : x = q := (by simpa using hx); omega), H10.out.2.2.2.2.2.set11 _, by omega⟩
        clear cu cq fq H10
        generalize w10.setCell ⟨q, 11, none⟩ (.int .i64 pl.f) = w11 at *
        have HV : Hid (∀ y, Only [] w11.drew y → Fr y p c rv tv { s with bs := s.bs.set i Body.zero, sc := s.sc.set ow (m0 + 1) } fv ∧ Only [p] w y ∧ Bl y q { nb with f := pl.f } ∧ p < q) := fun y hy => by
          have o := (only_drew w11).trans hy
          exact ⟨H11.out.1.only o (by simp), H11.out.2.1.trans (o.weaken (by simp)), H11.out.2.2.1.only o (by simp), H11.out.2.2.2⟩
        refine wp_region_free 7 (Only []) (Only.refl _) (Only.trans) [(0, .pointer (some ⟨p, 0, none⟩)), (5, .int .i64 k), (7, .pointer (some ⟨q, 0, none⟩))] (by intro p hp; simp only [List.mem_cons, List.not_mem_nil, or_false] at hp; rcases hp with rfl | rfl | rfl <;> rfl) (by kernel_rfl) (by kernel_rfl) (by decide) (by kernel_rfl) (by kernel_rfl) ?_
        simp only [List.take_succ_cons, List.take_zero, List.drop_succ_cons, List.drop_zero]
        iterate 2 (
          apply rf_val
          · first | rfl | exact ⟨by kernel_rfl, rfl⟩
          · intro zA v hT hf
            simp at hf
            go_simp
            try rfl)
        refine rf_val (({ nb with f := pl.f } : Bd).v) (by first | rfl | exact ⟨by kernel_rfl, rfl⟩) (fun zA v hT hf => exec_loads (cs := ({ nb with f := pl.f } : Bd).cells) (g := q) (off := 0) 33 (.tmp 7) rfl (by simp at hf; simp [Act.eval, hf]) Try.underlying33 info_bd (HV.out v hT).2.2.1.blk.whole) ?_
        iterate 3 (
          apply rf_val
          · first | rfl | exact ⟨by kernel_rfl, rfl⟩
          · intro zA v hT hf
            simp at hf
            go_simp
            try rfl)
        refine rf_val (.pointer (some ⟨p, 12 + k * 12, none⟩)) (by first | rfl | exact ⟨by kernel_rfl, rfl⟩) (fun zA v hT hf => exec_at hk16 (.tmp 74) (.tmp 70) rfl (by simp at hf; simp [Act.eval, hf]) (by simp at hf; simp [Act.eval, hf])) ?_
        intro w12 hy
        simp only [FinA, Sp.R, forall_eq]
        simp only [Act.put, List.setIfInBounds_toArray, List.set_cons_succ, List.set_cons_zero]
        have H12 : Hid _ := HV.out w12 hy
        clear hy HV H11
        refine op_storeB rfl H12.out.1 (i := k) hk16 { nb with f := pl.f } (.tmp 75) (.tmp 71) rfl (by kernel_rfl) (by kernel_rfl) ?_
        intro w13 hb13 o13 hz13
        have H13 : Hid (Fr w13 p c rv tv { s with bs := (Step.hit1 c.pl i ⟨s.bs, s.sc⟩).bs, sc := (Step.hit1 c.pl i ⟨s.bs, s.sc⟩).sc } fv ∧ Only [p] w w13) := by
          rw [EQ.out]
          exact ⟨hb13, H12.out.2.1.trans o13⟩
        clear hb13 o13 hz13 H12
        simp only [Act.put, List.setIfInBounds_toArray, List.set_cons_succ, List.set_cons_zero]
        refine wpList_nil ?_
        go_wp2_with fail
        first | exact bodyPost_ret (results_none rfl _ _ _) rfl ⟨rfl, H13.out⟩ | (go_end0; exact ⟨rfl, H13.out⟩)
end Go.Proofs.Ytngbannidbijmaa
namespace Go.Proofs.Ytngbannidbijmaa
open Go.RowKit
set_option linter.unusedVariables false
set_option linter.unusedSimpArgs false

namespace Step
theorem hit1_kind {pl : Int} {i : Nat} {h : H} (g : Hi pl h) (h8 : pl ≤ 8) (hi : i < 16) {j : Nat} (hj : i < j) : ((hit1 pl i h).bs.getD j Body.zero).k = (h.bs.getD j Body.zero).k := by
  unfold hit1
  by_cases h2 : (h.bs.getD i Body.zero).k = 2
  · rw [if_pos h2]
    dsimp only
    by_cases hk : h.bs.findIdx (fun p => Body.hit (h.bs.getD i Body.zero) p) < 16
    · rw [if_pos hk]
      have hl : h.bs.findIdx (fun p => Body.hit (h.bs.getD i Body.zero) p) < h.bs.length := by rw [g.b.len]; exact hk
      have hh := List.findIdx_getElem (p := fun p => Body.hit (h.bs.getD i Body.zero) p) (xs := h.bs) (w := hl)
      generalize h.bs.findIdx (fun p => Body.hit (h.bs.getD i Body.zero) p) = k at *
      have hh2 : Body.hit (h.bs.getD i Body.zero) (h.bs.getD k Body.zero) = true := by
        rw [List.getD_eq_getElem?_getD (l := h.bs) (i := k), List.getElem?_eq_getElem hl]; exact hh
      have q := hits_of g hi hk h2 hh2
      unfold struck
      dsimp only
      rw [getD_set, getD_set]
      by_cases e : j = k ∧ k < (h.bs.set i Body.zero).length
      · rw [if_pos e, e.1, q.own, q.one]
        have := (born_ok (pl := pl) (k := k) (f := (h.bs.getD k Body.zero).f) q.among h8 ((Body.some_iff _).1 q.some).f).player q.among
        exact this.2.1
      · rw [if_neg e, if_neg (by omega)]
    · rw [if_neg hk]
  · rw [if_neg h2]
theorem hits_kind {pl : Int} (h8 : pl ≤ 8) {h : H} (g : Hi pl h) : ∀ n, n ≤ 16 → ∀ j, n ≤ j → ((hits pl n h).bs.getD j Body.zero).k = (h.bs.getD j Body.zero).k := by
  intro n
  induction n with
  | zero => intro _ j _; rfl
  | succ n ih =>
    intro hn j hj
    show ((hit1 pl n (hits pl n h)).bs.getD j Body.zero).k = _
    rw [hit1_kind (hits_good h8 n (by omega) h g) h8 (by omega) (by omega)]
    exact ih (by omega) j (by omega)
end Step
structure Ha (w W : World) (p : Nat) (c : Cf) (rv tv fv : Value) (s : Gs) (h : Step.H) : Prop where
  fr : Fr W p c rv tv { s with bs := h.bs, sc := h.sc } fv
  only : Only [p] w W
theorem Ha.then {w W W' : World} {p : Nat} {c : Cf} {rv tv fv : Value} {s : Gs} {h : Step.H} (k : Ha w W p c rv tv fv s h) (o : Only [] W W') : Ha w W' p c rv tv fv s h := ⟨k.fr.only o (by simp), k.only.trans (o.weaken (by simp))⟩
set_option maxRecDepth 100000 in
set_option maxHeartbeats 4000000 in
theorem hitAll_any {w : World} {p : Nat} {c : Cf} {rv tv fv : Value} {s : Gs} (F : Fr w p c rv tv s fv) (G : Step.Hi c.pl ⟨s.bs, s.sc⟩) (h1 : 1 ≤ c.pl) (h8 : c.pl ≤ 8) :
    Calls Try.prog 31 #[.pointer (some ⟨p, 0, none⟩)] w fun e w' => e = .returned (.tuple #[]) ∧ Fr w' p c rv tv { s with bs := (Step.hits c.pl 16 ⟨s.bs, s.sc⟩).bs, sc := (Step.hits c.pl 16 ⟨s.bs, s.sc⟩).sc } fv ∧ Only [p] w w' := by
  have H0 : Hid (Ha w w p c rv tv fv s (Step.hits c.pl 0 ⟨s.bs, s.sc⟩)) := ⟨F, Only.refl _ _⟩
  have WF : Hid (Step.Wf s) := F.wf
  have HG : Hid (Step.Hi c.pl ⟨s.bs, s.sc⟩ ∧ 1 ≤ c.pl ∧ c.pl ≤ 8) := ⟨G, h1, h8⟩
  have FB : Hid (∀ j v, (flatB s.bs)[j]? = some v → w.cell? ⟨p, 12 + j, none⟩ = some v) := F.bodies
  clear F G h1 h8
  go_enter Try.func31, Try.ntmps31
  go_upto_region 0 with fail
  apply wp_region_lit
  refine op_val (w' := w) rfl (.pointer (some ⟨p, 0, none⟩)) (by kernel_rfl) ?_
  simp only [Act.put, List.setIfInBounds_toArray, List.set_cons_succ, List.set_cons_zero]
  refine op_val (w' := w) rfl (.pointer (some ⟨p, 0, none⟩)) (by kernel_rfl) ?_
  simp only [Act.put, List.setIfInBounds_toArray, List.set_cons_succ, List.set_cons_zero]
  refine op_val (w' := w) rfl (.pointer (some ⟨p, 10, none⟩)) (by kernel_rfl) ?_
  simp only [Act.put, List.setIfInBounds_toArray, List.set_cons_succ, List.set_cons_zero]
  refine op_val (w' := w) rfl (.pointer (some ⟨p, 12, none⟩)) (by kernel_rfl) ?_
  simp only [Act.put, List.setIfInBounds_toArray, List.set_cons_succ, List.set_cons_zero]
  refine opg_bodies (p := p) (by kernel_rfl) WF.out.b (.tmp 7) rfl (by kernel_rfl) FB.out ?_
  simp only [Act.put, List.setIfInBounds_toArray, List.set_cons_succ, List.set_cons_zero]
  refine op_val (w' := w) rfl (.int .i64 0) (by kernel_rfl) ?_
  simp only [Act.put, List.setIfInBounds_toArray, List.set_cons_succ, List.set_cons_zero]
  refine wpList_nil ?_
  clear FB
  go_wp2_with fail
  go_loopg [9] 17 (fun gk vi wr => ∃ i : Nat, vi = .int .i64 i ∧ i ≤ 16 ∧ 17 - i ≤ gk ∧ Hid (Ha w wr p c rv tv fv s (Step.hits c.pl i ⟨s.bs, s.sc⟩)))
  case atStart => exact ⟨0, rfl, by omega, by omega, H0.out⟩
  case round =>
    clear H0
    obtain ⟨i, rfl, hi, hg, HH⟩ := hrel
    by_cases hlt : i < 16
    rotate_left
    · have z1 : ¬ (i : Int) < 16 := by omega
      have e : i = 16 := by omega
      have HM : Hid (Ha w wr p c rv tv fv s (Step.hits c.pl 16 ⟨s.bs, s.sc⟩)) := by show Ha _ _ _ _ _ _ _ _ _; rw [← e]; exact HH.out
      clear e HH
      go_wp2_with fail
      go_end0
      exact ⟨rfl, HM.out.fr, HM.out.only⟩
    · have z1 : (i : Int) < 16 := by omega
      obtain ⟨b, hb⟩ : ∃ b, s.bs.getD i Body.zero = b := ⟨_, rfl⟩
      obtain ⟨h, hh⟩ : ∃ h, Step.hits c.pl i ⟨s.bs, s.sc⟩ = h := ⟨_, rfl⟩
      have NX : Hid (Step.hits c.pl (i + 1) ⟨s.bs, s.sc⟩ = Step.hit1 c.pl i h) := by show _ = _; rw [Step.hits, hh]
      have GH : Hid (Step.Hi c.pl h) := by rw [← hh]; exact Step.hits_good HG.out.2.2 i hi _ HG.out.1
      have KD : Hid ((h.bs.getD i Body.zero).k = b.k) := by
        have := Step.hits_kind HG.out.2.2 HG.out.1 i hi i (Nat.le_refl _)
        rw [hh] at this
        show _ = _
        rw [← hb]; exact this
      rw [hh] at HH
      go_upto_region 2 with fail
      apply wp_region_lit
      refine op_val (w' := wr) rfl (.int .i64 i) (by kernel_rfl) ?_
      simp only [Act.put, List.setIfInBounds_toArray, List.set_cons_succ, List.set_cons_zero]
      refine op_val (w' := wr) rfl ((s.bs.getD i Body.zero).v) (exec_ix WF.out.b hlt (.tmp 8) (.tmp 9) rfl (by kernel_rfl) (by kernel_rfl)) ?_
      simp only [Act.put, List.setIfInBounds_toArray, List.set_cons_succ, List.set_cons_zero]
      rw [hb]
      refine op_val (w' := wr.alloc (.cells Body.zero.cells.toArray 33)) rfl (.pointer (some ⟨wr.heap.size, 0, none⟩)) (by kernel_rfl) ?_
      simp only [Act.put, List.setIfInBounds_toArray, List.set_cons_succ, List.set_cons_zero]
      refine op_val (w' := wr.alloc (.cells Body.zero.cells.toArray 33)) rfl (.int .i64 i) (by kernel_rfl) ?_
      simp only [Act.put, List.setIfInBounds_toArray, List.set_cons_succ, List.set_cons_zero]
      refine op_storeBl (p := wr.heap.size) (b := b) rfl (Bl.new Body.zero _ _) (.tmp 3) (.tmp 12) rfl (by kernel_rfl) (by kernel_rfl) ?_
      intro w4 hb4 o4 hz4
      have o14 : Only [] wr w4 := ((Only.refl [] wr).alloc _).then o4 (fun u hu hl => by have h2 : u = wr.heap.size := (by simpa using hu); omega)
      have H4 : Hid (Ha w w4 p c rv tv fv s h ∧ Bl w4 wr.heap.size b) := ⟨HH.out.then o14, hb4⟩
      generalize wr.heap.size = t at *
      clear hb4 o4 hz4 o14 HH hb hh
      simp only [Act.put, List.setIfInBounds_toArray, List.set_cons_succ, List.set_cons_zero]
      refine wpList_nil ?_
      have c0 : w4.cell? ⟨t, 0, none⟩ = some (.int .i64 b.k) := H4.out.2.all.1
      by_cases hk : b.k = 2
      · have zk : (b.k == 2) = true := by simpa using hk
        go_upto_region 4 with fail
        clear c0 zk
        have H5 : Hid _ := H4.out.1
        have HK : Hid ((h.bs.getD i Body.zero).k = 2) := by show _ = _; rw [KD.out]; exact hk
        clear H4 KD hk
        apply wp_region_lit
        refine op_val (w' := w4) rfl (.pointer (some ⟨p, 0, none⟩)) (by kernel_rfl) ?_
        simp only [Act.put, List.setIfInBounds_toArray, List.set_cons_succ, List.set_cons_zero]
        refine op_val (w' := w4) rfl (.int .i64 i) (by kernel_rfl) ?_
        simp only [Act.put, List.setIfInBounds_toArray, List.set_cons_succ, List.set_cons_zero]
        refine op_call (F := 57) (args := #[.pointer (some ⟨p, 0, none⟩), .int .i64 (i : Nat)]) (w1 := w4) rfl (by kernel_rfl) ?_
        refine (shit_any H5.out.fr (i := i) GH.out HG.out.2.1 HG.out.2.2 hlt HK.out).mono ?_
        rintro e w6 ⟨rfl, F6, o6⟩
        refine ⟨_, rfl, ?_⟩
        have H6 : Hid (Ha w w6 p c rv tv fv s (Step.hits c.pl (i + 1) ⟨s.bs, s.sc⟩)) := by
          rw [NX.out]
          exact ⟨F6, H5.out.only.trans o6⟩
        clear F6 o6 H5
        simp only [Act.put, List.setIfInBounds_toArray, List.set_cons_succ, List.set_cons_zero]
        refine wpList_nil ?_
        go_wp2_with fail
        go_roundg (17 - (i + 1))
        case measure => omega
        case rel => exact ⟨i + 1, by go_num, by omega, by omega, H6.out⟩
      · have zk : (b.k == 2) = false := by simpa using hk
        have H6 : Hid (Ha w w4 p c rv tv fv s (Step.hits c.pl (i + 1) ⟨s.bs, s.sc⟩)) := by
          rw [NX.out]
          have e : Step.hit1 c.pl i h = h := by unfold Step.hit1; rw [if_neg (by rw [KD.out]; exact hk)]
          rw [e]; exact H4.out.1
        go_wp2_with fail
        go_roundg (17 - (i + 1))
        case measure => omega
        case rel => exact ⟨i + 1, by go_num, by omega, by omega, H6.out⟩
end Go.Proofs.Ytngbannidbijmaa
namespace Go.Proofs.Ytngbannidbijmaa
open Go.RowKit
set_option linter.unusedVariables false
set_option linter.unusedSimpArgs false

def Cf.zero : Cf := ⟨0, 0, 0, 0, 0, 0, 0, 0, [], []⟩
theorem Fr.one (c : Cf) (s : Gs) : ∀ {rv tv fv : Value}, rv.oneCell' = true → tv.oneCell' = true → fv.oneCell' = true → ∀ v ∈ Fr.cells c rv tv s fv, v.oneCell' = true := by
  intro rv tv fv h1 h2 h3 v hv
  rcases List.mem_append.1 hv with hv | hv
  · simp only [Cf.cells, List.mem_cons, List.not_mem_nil, or_false] at hv
    rcases hv with rfl | rfl | rfl | rfl | rfl | rfl | rfl | rfl | rfl | rfl <;> first | rfl | assumption
  · rcases List.mem_append.1 hv with hv | hv
    · exact s.one v hv
    · simp only [List.mem_cons, List.not_mem_nil, or_false] at hv
      subst hv; exact h3
theorem Fr.clen {c : Cf} {s : Gs} (h : Step.Wf s) (rv tv fv : Value) : (Fr.cells c rv tv s fv).length = 213 := by
  simp only [Fr.cells, List.length_append, Gs.len h, Cf.cells, List.length_cons, List.length_nil]
theorem info_fr : (Try.prog.info? 72).map (·.size) = some 213 := by kernel_rfl
def Fr.zero : List Value := Fr.cells Cf.zero (.slice none 0 0) (.slice none 0 0) Step.zero (.slice none 0 0)
set_option maxRecDepth 100000 in
theorem build_frame (c : Cf) {s : Gs} (h : Step.Wf s) (a1 a2 : Option Addr) (n1 n2 c1 c2 : Nat) (w : World) : (Instr.build 72 #[(0, c.v (.slice a1 n1 c1) (.slice a2 n2 c2)), (1, s.v)]).run Try.prog w = .ok (.agg (Fr.cells c (.slice a1 n1 c1) (.slice a2 n2 c2) s (.slice none 0 0)).toArray) w := by
  obtain ⟨fr, d, bs, sc⟩ := s
  obtain ⟨h1, h2⟩ := h
  obtain ⟨x0, x1, x2, x3, x4, x5, x6, x7, y0, y1, y2, y3, y4, y5, y6, y7, rfl⟩ := list16 h1
  obtain ⟨z0, z1, z2, z3, z4, z5, z6, z7, rfl⟩ := list8 h2
  show _ = _
  kernel_rfl
theorem exec_frame {w : World} {o : Oper} {act : Act} (c : Cf) {s : Gs} (h : Step.Wf s) {rv tv : Value} {a1 a2 : Option Addr} {n1 n2 c1 c2 : Nat} (hr : rv = .slice a1 n1 c1) (ht : tv = .slice a2 n2 c2) (x y : Operand) (ho : o.op = .build 72 #[(0, x), (1, y)]) (hx : act.eval x = c.v rv tv) (hy : act.eval y = s.v) : (execOp act.eval o).run Try.prog w = .ok (.value (.agg (Fr.cells c rv tv s (.slice none 0 0)).toArray)) w := by
  subst hr ht
  simp only [execOp, ho, List.map_toArray, List.map_cons, List.map_nil, hx, hy, Sem.run_bind, build_frame c h, Result.andThen_ok, Sem.run_pure]
/-- what Step has laid -/
structure Stp (w W : World) (B q : Nat) (c : Cf) (rv tv rwv : Value) (s : Gs) (row : List Cl) : Prop where
  conf : Cb W q c rv tv
  st : Sb W (q + 1) s
  res : Sb W (q + 2) Step.zero
  only : Only [] w W
  rd : Rd B W c rv tv
  row : RdC B W rwv row
  base : w.heap.size = q
  le : B ≤ q
theorem Stp.then {w W W' : World} {B q : Nat} {c : Cf} {rv tv rwv : Value} {s : Gs} {row : List Cl} (h : Stp w W B q c rv tv rwv s row) (o : Only [] W W') : Stp w W' B q c rv tv rwv s row :=
  ⟨h.conf.only o (by simp), h.st.only o (by simp), h.res.only o (by simp), h.only.trans o, h.rd.only o (by simp), h.row.only o (by simp), h.base, h.le⟩
theorem Stp.off {w W W' : World} {B q : Nat} {c : Cf} {rv tv rwv : Value} {s : Gs} {row : List Cl} (h : Stp w W B q c rv tv rwv s row) {p : Nat} (o : Only [p] W W') (hp : q + 3 ≤ p) : Stp w W' B q c rv tv rwv s row := by
  have hl := h.le
  have hb := h.base
  have hS : ∀ g ∈ [p], B ≤ g := fun g hg => by have h2 : g = p := (by simpa using hg); omega
  exact ⟨h.conf.only o (by simp; omega), h.st.only o (by simp; omega), h.res.only o (by simp; omega), h.only.then o (fun x hx hl => by have h2 : x = p := (by simpa using hx); omega), h.rd.only o hS, h.row.only o hS, h.base, h.le⟩
theorem stp_start {w : World} {B : Nat} {c : Cf} {rv tv rwv : Value} {s : Gs} {row : List Cl} (h : Rd B w c rv tv) (hs : Step.Wf s) (hr : RdC B w rwv row) (hB : B ≤ w.heap.size) (t1 t2 t3 : TypeId) :
    Stp w (((w.alloc (.cells (c.cells rv tv).toArray t1)).alloc (.cells s.cells.toArray t2)).alloc (.cells Step.zero.cells.toArray t3)) B w.heap.size c rv tv rwv s row := by
  have o : Only [] w (((w.alloc (.cells (c.cells rv tv).toArray t1)).alloc (.cells s.cells.toArray t2)).alloc (.cells Step.zero.cells.toArray t3)) := (((Only.refl [] _).alloc _).alloc _).alloc _
  have h1 : Cb (w.alloc (.cells (c.cells rv tv).toArray t1)) w.heap.size c rv tv := Cb.new c rv tv w t1
  have h2 : Sb ((w.alloc (.cells (c.cells rv tv).toArray t1)).alloc (.cells s.cells.toArray t2)) (w.heap.size + 1) s := by
    have : (w.alloc (.cells (c.cells rv tv).toArray t1)).heap.size = w.heap.size + 1 := by simp
    rw [← this]; exact Sb.new hs _ _
  have h3 : Sb (((w.alloc (.cells (c.cells rv tv).toArray t1)).alloc (.cells s.cells.toArray t2)).alloc (.cells Step.zero.cells.toArray t3)) (w.heap.size + 2) Step.zero := by
    have : ((w.alloc (.cells (c.cells rv tv).toArray t1)).alloc (.cells s.cells.toArray t2)).heap.size = w.heap.size + 2 := by simp
    rw [← this]; exact Sb.new Step.zero_wf _ _
  exact ⟨(h1.only ((Only.refl [] _).alloc _) (by simp)).only ((Only.refl [] _).alloc _) (by simp), h2.only ((Only.refl [] _).alloc _) (by simp), h3, o, h.only o (by simp), hr.only o (by simp), rfl, hB⟩
theorem right_len {c : Cf} (h : Step.legal c = true) : c.rules.length ≤ 1000000 := by
  unfold Step.legal at h
  simp only [Bool.and_eq_true] at h
  have h := h.2.2.2.2.2.2.2.2.1
  unfold Rule.right at h
  simp only [Bool.and_eq_true, decide_eq_true_eq] at h
  omega
set_option maxRecDepth 100000 in
set_option maxHeartbeats 4000000 in
theorem step_any {B : Nat} {w : World} {rv tv rwv : Value} (c : Cf) (s : Gs) {row : List Cl} (h : Rd B w c rv tv) (hs : Step.Wf s) (hr : RdC B w rwv row) (hB : B ≤ w.heap.size) : Calls Try.prog 12 #[c.v rv tv, s.v, rwv] w fun e w' => e = .returned (Step.step c s row).v ∧ Only [] w w' := by
  have hnot : ∀ (x : Bool) (w : World), (Op.unary .not (.bool x)).run Try.prog w = .ok (.bool (!x)) w := fun _ _ => rfl
  obtain ⟨q, hq⟩ : ∃ q, w.heap.size = q := ⟨_, rfl⟩
  have H0 : Hid (Stp w (((w.alloc (.cells (c.cells rv tv).toArray 28)).alloc (.cells s.cells.toArray 37)).alloc (.cells Step.zero.cells.toArray 37)) B q c rv tv rwv s row) := hq ▸ stp_start h hs hr hB _ _ _
  have WF : Hid _ := hs
  clear h hs hr hB
  go_enter Try.func12, Try.ntmps12
  go_upto_region 0 with fail
  apply wp_region_lit
  refine op_val (w' := w.alloc (.cells (c.cells rv tv).toArray 28)) rfl (.pointer (some ⟨w.heap.size, 0, none⟩)) (by kernel_rfl) ?_
  simp only [Act.put, List.setIfInBounds_toArray, List.set_cons_succ, List.set_cons_zero]
  refine op_val (w' := (w.alloc (.cells (c.cells rv tv).toArray 28)).alloc (.cells s.cells.toArray 37)) rfl (.pointer (some ⟨(w.alloc (.cells (c.cells rv tv).toArray 28)).heap.size, 0, none⟩)) (by kernel_rfl) ?_
  simp only [Act.put, List.setIfInBounds_toArray, List.set_cons_succ, List.set_cons_zero]
  refine op_val (w' := ((w.alloc (.cells (c.cells rv tv).toArray 28)).alloc (.cells s.cells.toArray 37)).alloc (.cells Step.zero.cells.toArray 37)) rfl (.pointer (some ⟨((w.alloc (.cells (c.cells rv tv).toArray 28)).alloc (.cells s.cells.toArray 37)).heap.size, 0, none⟩)) (by kernel_rfl) ?_
  simp only [Act.put, List.setIfInBounds_toArray, List.set_cons_succ, List.set_cons_zero]
  refine wpList_nil ?_
  rw [show (w.alloc (.cells (c.cells rv tv).toArray 28)).heap.size = q + 1 by simp [hq], show ((w.alloc (.cells (c.cells rv tv).toArray 28)).alloc (.cells s.cells.toArray 37)).heap.size = q + 2 by simp [hq], hq]
  generalize ((w.alloc (.cells (c.cells rv tv).toArray 28)).alloc (.cells s.cells.toArray 37)).alloc (.cells Step.zero.cells.toArray 37) = w1 at *
  clear hq
  go_upto_region 1 with fail
  apply wp_region_lit
  refine opg_loadC (p := q) (by kernel_rfl) (.tmp 3) rfl (by kernel_rfl) H0.out.conf.blk.whole ?_
  simp only [Act.put, List.setIfInBounds_toArray, List.set_cons_succ, List.set_cons_zero]
  refine opg_loadS (p := q + 1) (off := 0) (by kernel_rfl) WF.out (.tmp 4) rfl (by kernel_rfl) H0.out.st.blk.whole ?_
  simp only [Act.put, List.setIfInBounds_toArray, List.set_cons_succ, List.set_cons_zero]
  refine op_call (F := 17) (args := #[c.v rv tv, s.v]) (w1 := w1) rfl (by kernel_rfl) ?_
  refine (sright_any c s H0.out.rd WF.out).mono ?_
  rintro x w2 ⟨rfl, o2⟩
  refine ⟨_, rfl, ?_⟩
  simp only [Act.put, List.setIfInBounds_toArray, List.set_cons_succ, List.set_cons_zero]
  have H2 : Hid (Stp w w2 B q c rv tv rwv s row) := H0.out.then o2
  clear H0 o2
  obtain ⟨rg, hrg⟩ : ∃ rg, Step.right c s = rg := ⟨_, rfl⟩
  have HR : Hid (Step.right c s = rg) := hrg
  rw [hrg]
  clear hrg
  cases rg
  · have E : Hid (Step.step c s row = Step.zero) := by show _ = _; unfold Step.step; rw [if_neg (by rw [HR.out]; simp)]
    refine op_val (w' := w2) rfl (.bool true) (by kernel_rfl) ?_
    simp only [Act.put, List.setIfInBounds_toArray, List.set_cons_succ, List.set_cons_zero]
    refine wpList_nil ?_
    go_upto_region 2 with fail
    apply wp_region_lit
    refine op_val (w' := w2) rfl (Step.zero.v) (by kernel_rfl) ?_
    simp only [Act.put, List.setIfInBounds_toArray, List.set_cons_succ, List.set_cons_zero]
    refine op_storeS (p := q + 2) rfl H2.out.res Step.zero_wf (.tmp 6) (.tmp 12) rfl (by kernel_rfl) (by kernel_rfl) ?_
    intro w3 hb o3 hz
    have H3 : Hid (Sb w3 (q + 2) (Step.step c s row) ∧ Only [] w w3) := ⟨E.out ▸ hb, H2.out.only.then o3 (fun x hx hl => by have := H2.out.base; have h2 : x = q + 2 := (by simpa using hx); omega)⟩
    clear hb o3 hz H2
    refine wpList_nil ?_
    go_wp2_with fail
    exact bodyPost_ret (res_st H3.out.1 Try.results12 rfl) rfl ⟨rfl, H3.out.2⟩
  have OK : Hid (Step.Ok c s) := (Step.right_iff WF.out).1 HR.out
  obtain ⟨m, hm⟩ : ∃ m, Step.moves c.rules row s.bs s.d 16 = m := ⟨_, rfl⟩
  have HM : Hid (Step.moves c.rules row s.bs s.d 16 = m) := hm
  have MI : Hid (Step.MInv c.pl s.bs 16 m) := hm ▸ Step.mInv c.rules row s.d OK.out.b 16 (Nat.le_refl _)
  have GH : Hid (Step.Hi c.pl ⟨Step.puts m.bs m.sh, s.sc⟩) := ⟨Step.puts_good _ MI.out.good MI.out.shots MI.out.room, OK.out.s⟩
  obtain ⟨h, hh⟩ : ∃ h, Step.hits c.pl 16 ⟨Step.puts m.bs m.sh, s.sc⟩ = h := ⟨_, rfl⟩
  have HH : Hid (Step.hits c.pl 16 ⟨Step.puts m.bs m.sh, s.sc⟩ = h) := hh
  have E : Hid (Step.step c s row = ⟨if s.fr + 1 ≤ 600 then s.fr + 1 else 600, m.d, h.bs, h.sc⟩) := by
    show _ = _
    unfold Step.step
    rw [if_pos HR.out]
    dsimp only
    rw [hm, hh]
  clear hm hh
  refine op_val (w' := w2) rfl (.bool false) (by kernel_rfl) ?_
  simp only [Act.put, List.setIfInBounds_toArray, List.set_cons_succ, List.set_cons_zero]
  refine wpList_nil ?_
  go_upto_region 3 with fail
  apply wp_region_lit
  refine opg_loadC (p := q) (by kernel_rfl) (.tmp 3) rfl (by kernel_rfl) H2.out.conf.blk.whole ?_
  simp only [Act.put, List.setIfInBounds_toArray, List.set_cons_succ, List.set_cons_zero]
  refine opg_loadS (p := q + 1) (off := 0) (by kernel_rfl) WF.out (.tmp 4) rfl (by kernel_rfl) H2.out.st.blk.whole ?_
  simp only [Act.put, List.setIfInBounds_toArray, List.set_cons_succ, List.set_cons_zero]
  obtain ⟨ra, rc, hrv, -⟩ := id H2.out.rd.r
  obtain ⟨ta, tc, htv, -⟩ := id H2.out.rd.t
  refine op_val (w' := w2) rfl (.agg (Fr.cells c rv tv s (.slice none 0 0)).toArray) (exec_frame c WF.out hrv htv (.tmp 13) (.tmp 14) rfl (by kernel_rfl) (by kernel_rfl)) ?_
  simp only [Act.put, List.setIfInBounds_toArray, List.set_cons_succ, List.set_cons_zero]
  refine op_val (w' := w2.alloc (.cells Fr.zero.toArray 72)) rfl (.pointer (some ⟨w2.heap.size, 0, none⟩)) (by kernel_rfl) ?_
  simp only [Act.put, List.setIfInBounds_toArray, List.set_cons_succ, List.set_cons_zero]
  obtain ⟨p, hp⟩ : ∃ p, w2.heap.size = p := ⟨_, rfl⟩
  rw [hp]
  have hpq : q + 3 ≤ p := by have := H2.out.res.blk.lt; omega
  refine op_store (vs := Fr.cells c rv tv s (.slice none 0 0)) (cs := Fr.zero) (b := p) rfl 72 (.tmp 7) (.tmp 15) rfl 0 (by kernel_rfl) rfl (hp ▸ Blk.new w2 _ _) (by rw [info_fr, Fr.clen WF.out]) (by rw [Fr.clen WF.out, Fr.zero, Fr.clen Step.zero_wf]; omega) (Fr.one c s (by rw [hrv]; rfl) (by rw [htv]; rfl) rfl) ?_
  intro w3 hb o3 hz
  rw [List.take_zero, List.nil_append, List.drop_of_length_le (by rw [Fr.clen WF.out, Fr.zero, Fr.clen Step.zero_wf]; omega), List.append_nil] at hb
  have o23 : Only [] w2 w3 := ((Only.refl [] w2).alloc _).then o3 (fun u hu hl => by have h2 : u = p := (by simpa using hu); omega)
  have H3 : Hid (Stp w w3 B q c rv tv rwv s row ∧ Fr w3 p c rv tv s (.slice none 0 0)) := ⟨H2.out.then o23, hb, WF.out⟩
  clear hb o3 hz o23 H2 hrv htv hp
  simp only [Act.put, List.setIfInBounds_toArray, List.set_cons_succ, List.set_cons_zero]
  refine wpList_nil ?_
  go_upto_region 4 with fail
  apply wp_region_lit
  refine op_val (w' := w3) rfl (rwv) (by kernel_rfl) ?_
  simp only [Act.put, List.setIfInBounds_toArray, List.set_cons_succ, List.set_cons_zero]
  refine op_call (F := 29) (args := #[.pointer (some ⟨p, 0, none⟩), rwv]) (w1 := w3) rfl (by kernel_rfl) ?_
  refine (moveAll_any H3.out.2 (RdO.upto H3.out.1.rd.r (by have := H3.out.1.le; omega)) (H3.out.1.row.lower (by have := H3.out.1.le; omega)) (right_len OK.out.legal) OK.out.b OK.out.pl.2).mono ?_
  rintro e w4 ⟨rfl, fv, M4⟩
  refine ⟨_, rfl, ?_⟩
  rw [HM.out] at M4
  have H4 : Hid (Stp w w4 B q c rv tv rwv s row ∧ Fr w4 p c rv tv { s with bs := m.bs, d := m.d } fv ∧ SR w3.heap.size w4 fv m.sh ∧ ∀ g, fv.ownBlock = some g → g ≠ p) := ⟨H3.out.1.off M4.only hpq, M4.fr, M4.sr, fun g hg => (M4.own g hg).1⟩
  generalize w3.heap.size = B3 at *
  clear M4 H3
  simp only [Act.put, List.setIfInBounds_toArray, List.set_cons_succ, List.set_cons_zero]
  refine wpList_nil ?_
  go_upto_region 5 with fail
  apply wp_region_lit
  refine op_call (F := 30) (args := #[.pointer (some ⟨p, 0, none⟩)]) (w1 := w4) rfl (by kernel_rfl) ?_
  refine (setFired_any H4.out.2.1 H4.out.2.2.1 H4.out.2.2.2 MI.out.good MI.out.shots MI.out.room).mono ?_
  rintro e w5 ⟨rfl, F5, o5⟩
  refine ⟨_, rfl, ?_⟩
  have H5 : Hid (Stp w w5 B q c rv tv rwv s row ∧ Fr w5 p c rv tv { s with bs := Step.puts m.bs m.sh, d := m.d } fv) := ⟨H4.out.1.off o5 hpq, F5⟩
  clear H4 F5 o5
  simp only [Act.put, List.setIfInBounds_toArray, List.set_cons_succ, List.set_cons_zero]
  refine wpList_nil ?_
  go_upto_region 6 with fail
  apply wp_region_lit
  refine op_call (F := 31) (args := #[.pointer (some ⟨p, 0, none⟩)]) (w1 := w5) rfl (by kernel_rfl) ?_
  refine (hitAll_any H5.out.2 GH.out OK.out.pl.1 OK.out.pl.2).mono ?_
  rintro e w6 ⟨rfl, F6, o6⟩
  refine ⟨_, rfl, ?_⟩
  have H6 : Hid (Stp w w6 B q c rv tv rwv s row ∧ Fr w6 p c rv tv ⟨s.fr, m.d, h.bs, h.sc⟩ fv) := ⟨H5.out.1.off o6 hpq, HH.out ▸ F6⟩
  clear H5 F6 o6
  simp only [Act.put, List.setIfInBounds_toArray, List.set_cons_succ, List.set_cons_zero]
  refine wpList_nil ?_
  have cf : w6.cell? ⟨p, 10, none⟩ = some (.int .i64 s.fr) := H6.out.2.frame
  have ff : w6.frozen? ⟨p, 10, none⟩ = false := H6.out.2.blk.frozen 10
  have z1 : IntKind.i64.wrap (s.fr + 1) = s.fr + 1 := IntWalk.i64_in _ (by have := OK.out.fr; omega)
  have H7 : Hid (∀ n, n = (if s.fr + 1 ≤ 600 then s.fr + 1 else 600) → Stp w (w6.setCell ⟨p, 10, none⟩ (.int .i64 n)) B q c rv tv rwv s row ∧ Fr (w6.setCell ⟨p, 10, none⟩ (.int .i64 n)) p c rv tv (Step.step c s row) fv) := fun n hn => by
    rw [E.out, ← hn]
    exact ⟨H6.out.1.off ((Only.refl _ _).setCell (by simp) _) hpq, H6.out.2.setFrame n⟩
  clear H6
  have hwf : Hid (Step.Wf (Step.step c s row)) := Step.step_wf WF.out row
  by_cases hle : s.fr + 1 ≤ 600
  · go_upto_region 8 with fail
    obtain ⟨X1, X2⟩ := H7.out (s.fr + 1) (by rw [if_pos hle])
    have X : Hid _ := And.intro X1 X2
    clear X1 X2 H7 cf ff
    generalize w6.setCell ⟨p, 10, none⟩ (.int .i64 (s.fr + 1)) = w7 at *
    apply wp_region_lit
    refine op_val (w' := w7) rfl (.pointer (some ⟨p, 10, none⟩)) (by kernel_rfl) ?_
    simp only [Act.put, List.setIfInBounds_toArray, List.set_cons_succ, List.set_cons_zero]
    refine opg_loadS (p := p) (off := 10) (by kernel_rfl) hwf.out (.tmp 27) rfl (by kernel_rfl) X.out.2.state ?_
    simp only [Act.put, List.setIfInBounds_toArray, List.set_cons_succ, List.set_cons_zero]
    refine op_storeS (p := q + 2) rfl X.out.1.res hwf.out (.tmp 6) (.tmp 28) rfl (by kernel_rfl) (by kernel_rfl) ?_
    intro w8 hb o8 hz
    have H8 : Hid (Sb w8 (q + 2) (Step.step c s row) ∧ Only [] w w8) := ⟨hb, X.out.1.only.then o8 (fun x hx hl => by have := X.out.1.base; have h2 : x = q + 2 := (by simpa using hx); omega)⟩
    clear hb o8 hz X
    refine wpList_nil ?_
    go_wp2_with fail
    exact bodyPost_ret (res_st H8.out.1 Try.results12 rfl) rfl ⟨rfl, H8.out.2⟩
  · go_upto_region 8 with fail
    obtain ⟨X1, X2⟩ := H7.out 600 (by rw [if_neg hle])
    have X : Hid _ := And.intro X1 X2
    clear X1 X2 H7 cf ff
    generalize w6.setCell ⟨p, 10, none⟩ (.int .i64 600) = w7 at *
    apply wp_region_lit
    refine op_val (w' := w7) rfl (.pointer (some ⟨p, 10, none⟩)) (by kernel_rfl) ?_
    simp only [Act.put, List.setIfInBounds_toArray, List.set_cons_succ, List.set_cons_zero]
    refine opg_loadS (p := p) (off := 10) (by kernel_rfl) hwf.out (.tmp 27) rfl (by kernel_rfl) X.out.2.state ?_
    simp only [Act.put, List.setIfInBounds_toArray, List.set_cons_succ, List.set_cons_zero]
    refine op_storeS (p := q + 2) rfl X.out.1.res hwf.out (.tmp 6) (.tmp 28) rfl (by kernel_rfl) (by kernel_rfl) ?_
    intro w8 hb o8 hz
    have H8 : Hid (Sb w8 (q + 2) (Step.step c s row) ∧ Only [] w w8) := ⟨hb, X.out.1.only.then o8 (fun x hx hl => by have := X.out.1.base; have h2 : x = q + 2 := (by simpa using hx); omega)⟩
    clear hb o8 hz X
    refine wpList_nil ?_
    go_wp2_with fail
    exact bodyPost_ret (res_st H8.out.1 Try.results12 rfl) rfl ⟨rfl, H8.out.2⟩
end Go.Proofs.Ytngbannidbijmaa

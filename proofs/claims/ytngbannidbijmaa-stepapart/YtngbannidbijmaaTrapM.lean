/- Catch of a method of somebody. -/
import Derived.Test.YtngbannidbijmaaTrap
namespace Go.Proofs.Ytngbannidbijmaa
open Go.RowKit
set_option maxHeartbeats 1000000 in
theorem catch_m {Q : Ending → World → Prop} (F : Nat) (a : Value) (S : List Nat) (w : World) (h0 : w.heap.size ∉ S) (h1 : w.heap.size + 1 ∉ S)
    (hF : ∀ w, (callFunc F #[a]).run Try.prog w = .ok (.enter F #[a]) w)
    (h : Calls Try.prog F #[a] (inCatch w) fun e w2 => Only S (inCatch w) w2 ∧ ∃ e', Caught e e' ∧ ∀ w', Only [w.heap.size, w.heap.size + 1] w2 w' → Q e' w') :
    Calls Try.prog 86 #[.func (.func F) #[a] #[]] w Q := by
  have hmf : ∀ (fn : Fn) (first cap : Array Value) (w : World), (Instr.makeFunc fn first cap).run Try.prog w = .ok (.func fn first cap) w := fun _ _ _ _ => rfl
  have heq : ∀ w : World, (binOp BinOp.eql 1 (.func (.func F) #[a] #[]) .nilFunc).run Try.prog w = .ok (.bool false) w := fun _ => by kernel_rfl
  have H : Hid _ := h
  clear h
  go_enter_defers Try.func86, Try.ntmps86
  go_wp2_with fail
  refine Calls.mono (P := Try.prog) (f := F) (args := #[a]) (w := inCatch w) H.out ?_
  clear H
  rintro e w2 ⟨o2, e', hc, hQ⟩
  have hb : Two w2 w.heap.size (.int .i64 0) (.int .i64 0) := Two.only (w := inCatch w) ((Two.new w _ _ _).alloc _) o2 h0
  have hq : Var w2 (w.heap.size + 1) (.bool false) := by
    have := Var.new (w.alloc (.cells #[.int .i64 0, .int .i64 0] 110)) (.bool false) 4
    simp at this
    exact Var.only (w := inCatch w) this o2 h1
  cases hc with
  | none v =>
    have c0 := hb.cell0
    have c1 := hb.cell1
    have c2 := hq.cell
    have z0 := hb.frozen 0
    have z1 := hb.frozen 1
    have z2 := hq.frozen
    have HQ : Hid _ := hQ
    clear hQ
    go_wp2_with fail
    refine leaves_cons (f := 90) (args := #[.pointer (some ⟨w.heap.size, 0, none⟩), .pointer (some ⟨w.heap.size + 1, 0, none⟩)]) (by simp) (by simp [go_sem]) ?_
    refine (catch_idle _ _ _).mono ?_
    rintro e u' w3 ⟨rfl, rfl, rfl⟩
    have b3 : Two (((w2.setCell ⟨w.heap.size, 0, none⟩ (.int .i64 0)).setCell ⟨w.heap.size, 1, none⟩ (.int .i64 0)).setCell ⟨w.heap.size + 1, 0, none⟩ (.bool false)) w.heap.size (.int .i64 0) (.int .i64 0) :=
      ((hb.set0 _).set1 _).other (by simp) _
    have q3 : Var (((w2.setCell ⟨w.heap.size, 0, none⟩ (.int .i64 0)).setCell ⟨w.heap.size, 1, none⟩ (.int .i64 0)).setCell ⟨w.heap.size + 1, 0, none⟩ (.bool false)) (w.heap.size + 1) (.bool false) :=
      ((hq.other (by simp) _).other (by simp) _).set _
    have k0 := b3.cell0
    have k1 := b3.cell1
    have k2 := q3.cell
    refine ⟨_, by simp [results, Try.results86, go_sem, k0, k1, k2], HQ.out _ ?_⟩
    exact (((Only.refl _ w2).setCell (by simp) _).setCell (by simp) _).setCell (by simp) _
  | thrown c at_ old ho =>
    refine leaves_cons (f := 90) (args := #[.pointer (some ⟨w.heap.size, 0, none⟩), .pointer (some ⟨w.heap.size + 1, 0, none⟩)]) (by simp) (by simp [go_sem]) ?_
    refine (catch_thrown _ _ _ _ _ c at_ old w2 hb hq (by omega)).mono ?_
    rintro e u' w3 ⟨rfl, rfl, o3, b3, q3⟩
    have k0 := b3.cell0
    have k1 := b3.cell1
    have k2 := q3.cell
    have hs := settle_no { v := .iface 134 (.agg #[.int .i64 c, .int .i64 at_]), recovered := true } rfl old ho
    simp only [hs]
    refine ⟨_, by simp [results, Try.results86, go_sem, k0, k1, k2], hQ _ o3⟩
  | other t v old ht =>
    refine leaves_cons (f := 90) (args := #[.pointer (some ⟨w.heap.size, 0, none⟩), .pointer (some ⟨w.heap.size + 1, 0, none⟩)]) (by simp) (by simp [go_sem]) ?_
    refine (catch_other _ _ _ _ _ t v ht old w2 hb hq (by omega)).mono ?_
    rintro e u' w3 ⟨rfl, rfl, o3⟩
    exact hQ _ o3

end Go.Proofs.Ytngbannidbijmaa

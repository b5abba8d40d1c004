/- Package trap: Throw, Must, faultOf, and Catch of whatever function. -/
import Derived.Test.YtngbannidbijmaaRows
import Derived.Test.YtngbannidbijmaaGOnly
import Derived.WalkLawsBesides
import Derived.Defers
import Derived.Recover
import Derived.Laws.Pointers
namespace Go.Proofs.Ytngbannidbijmaa
open Go.RowKit

/-- the Fault as a value -/
def faultV (c a : Int) : Value := .agg #[.int .i64 c, .int .i64 a]
/-- what Throw panics with -/
def thrownV (c a : Int) : Value := .iface 134 (.agg #[.int .i64 c, .int .i64 a])

theorem throw_any (c a : Int) (w : World) : Calls Try.prog 103 #[.int .i64 c, .int .i64 a] w fun e w' => e = .panicked [{ v := thrownV c a, recovered := false }] ∧ w' = w := by
  go_enter Try.func103, Try.ntmps103
  go_wp2
  exact ⟨rfl, rfl, rfl⟩

theorem must_ok (c a : Int) (w : World) : Calls Try.prog 94 #[.bool true, .int .i64 c, .int .i64 a] w fun e w' => e = .returned (.tuple #[]) ∧ w' = w := by
  go_enter Try.func94, Try.ntmps94
  have hnot : ∀ (x : Bool) (w : World), (Op.unary .not (.bool x)).run Try.prog w = .ok (.bool (!x)) w := fun _ _ => rfl
  go_wp2_with fail
  go_end0
  exact ⟨rfl, rfl⟩
theorem must_not (c a : Int) (w : World) : Calls Try.prog 94 #[.bool false, .int .i64 c, .int .i64 a] w fun e w' => e = .panicked [{ v := thrownV c a, recovered := false }] ∧ w' = w := by
  have hnot : ∀ (x : Bool) (w : World), (Op.unary .not (.bool x)).run Try.prog w = .ok (.bool (!x)) w := fun _ _ => rfl
  go_enter Try.func94, Try.ntmps94
  go_wp2_with fail
  refine (throw_any _ _ _).mono ?_
  rintro e w' ⟨rfl, rfl⟩
  exact ⟨rfl, rfl, rfl⟩

theorem zero_thrown (W : World) : (do pure (Value.tuple #[← zeroValue 134, .bool false]) : Sem Value).run Try.prog W = .ok (.tuple #[.agg #[.int .i64 0, .int .i64 0], .bool false]) W := by kernel_rfl
theorem assert_thrown (W : World) (v : Value) : (Instr.typeAssert (.iface 134 v) 20 134 true).run Try.prog W = .ok (.tuple #[v, .bool true]) W := by kernel_rfl
theorem assert_not (W : World) (u : TypeId) (v : Value) (h : u ≠ 134) : (Instr.typeAssert (.iface u v) 20 134 true).run Try.prog W = .ok (.tuple #[.agg #[.int .i64 0, .int .i64 0], .bool false]) W := by
  have e : (Instr.typeAssert (.iface u v) 20 134 true).run Try.prog W = (if u = 134 then (pure (Value.tuple #[v, .bool true]) : Sem Value) else (do pure (Value.tuple #[← zeroValue 134, .bool false]))).run Try.prog W := by kernel_rfl
  rw [e, if_neg h]
  exact zero_thrown W

theorem fault_of (c a : Int) (w : World) : Calls Try.prog 91 #[.iface 134 (.agg #[.int .i64 c, .int .i64 a])] w fun e w' => e = .returned (.tuple #[.agg #[.int .i64 c, .int .i64 a], .bool true]) ∧ Only [] w w' := by
  have ha := fun W => assert_thrown W (.agg #[.int .i64 c, .int .i64 a])
  go_enter Try.func91, Try.ntmps91
  go_wp2_with fail
  refine ⟨rfl, _, by simp [results, Try.results91, go_sem], rfl, ?_⟩
  exact ((Only.refl [] w).alloc _).alloc _
theorem fault_not (t : TypeId) (v : Value) (ht : t ≠ 134) (w : World) : Calls Try.prog 91 #[.iface t v] w fun e w' => e = .returned (.tuple #[.agg #[.int .i64 0, .int .i64 0], .bool false]) ∧ Only [] w w' := by
  have ha := fun W => assert_not W t v ht
  go_enter Try.func91, Try.ntmps91
  go_wp2_with fail
  refine ⟨rfl, _, by simp [results, Try.results91, go_sem], rfl, ?_⟩
  exact ((Only.refl [] w).alloc _).alloc _

/-- THE DEFERRED CLOSURE of Catch, where f came to its end -/
theorem catch_idle (p q : Addr) (w : World) :
    CallsD Try.prog 90 #[.pointer (some p), .pointer (some q)] .returning w fun e u' w' => e = .returned (.tuple #[]) ∧ u' = .returning ∧ w' = w := by
  refine callsD_of_wpS Try.func90 rfl fun c₀ cs hu => ?_
  apply wpS_seq
  apply wpS_region
  simp [wpOpsS, go_sem, recoverD, hu, Try.ntmps90, Exit.thenS]
  refine wpS_of_wp ?_
  go_wp2_with fail
  cases c₀
  simp_all [bodyPostS, results, Try.results90]

theorem rep12 : (Array.replicate 12 undef : Array Value) = #[undef, undef, undef, undef, undef, undef, undef, undef, undef, undef, undef, undef] := rfl

theorem catch_thrown (b q : Nat) (x y z : Value) (c a : Int) (old : List PanicEntry) (w : World) (hb : Two w b x y) (hq : Var w q z) (hn : b ≠ q) :
    CallsD Try.prog 90 #[.pointer (some ⟨b, 0, none⟩), .pointer (some ⟨q, 0, none⟩)] (.panicking ({ v := .iface 134 (.agg #[.int .i64 c, .int .i64 a]), recovered := false } :: old)) w fun e u' w' =>
      e = .returned (.tuple #[]) ∧ u' = .panicking ({ v := .iface 134 (.agg #[.int .i64 c, .int .i64 a]), recovered := true } :: old) ∧ Only [b, q] w w' ∧ Two w' b (.int .i64 c) (.int .i64 a) ∧ Var w' q (.bool true) := by
  refine callsD_of_wpS Try.func90 rfl fun c₀ cs hu => ?_
  have hnot : ∀ (x : Bool) (w : World), (Op.unary .not (.bool x)).run Try.prog w = .ok (.bool (!x)) w := fun _ _ => rfl
  apply wpS_seq
  apply wpS_region
  simp [wpOpsS, go_sem, recoverD, hu, Try.ntmps90, Exit.thenS, rep12]
  refine wpS_of_wp ?_
  go_wp2_with fail
  refine (fault_of c a _).mono ?_
  rintro e w1 ⟨rfl, h1⟩
  have b1 := hb.only h1 (by simp)
  have q1 := hq.only h1 (by simp)
  have c0 := b1.cell0
  have c1 := b1.cell1
  have c2 := q1.cell
  have z0 := b1.frozen 0
  have z1 := b1.frozen 1
  have z2 := q1.frozen
  have hn' : ¬ q = b := fun h => hn h.symm
  go_wp2_with fail
  refine ⟨rfl, _, rfl, _, by simp [results, Try.results90, go_sem], rfl, rfl, ?_, ?_, ?_⟩
  · exact (((h1.weaken (by simp)).setCell (by simp) _).setCell (by simp) _).setCell (by simp) _
  · exact ((b1.set0 _).set1 _).other (by simpa using hn) _
  · exact ((q1.other (by simpa using hn') _).other (by simpa using hn') _).set _

theorem catch_other (b q : Nat) (x y z : Value) (t : TypeId) (v : Value) (ht : t ≠ 134) (old : List PanicEntry) (w : World) (hb : Two w b x y) (hq : Var w q z) (hn : b ≠ q) :
    CallsD Try.prog 90 #[.pointer (some ⟨b, 0, none⟩), .pointer (some ⟨q, 0, none⟩)] (.panicking ({ v := .iface t v, recovered := false } :: old)) w fun e u' w' =>
      e = .panicked [{ v := .iface t v, recovered := false }] ∧ u' = .panicking ({ v := .iface t v, recovered := true } :: old) ∧ Only [b, q] w w' := by
  refine callsD_of_wpS Try.func90 rfl fun c₀ cs hu => ?_
  have hnot : ∀ (x : Bool) (w : World), (Op.unary .not (.bool x)).run Try.prog w = .ok (.bool (!x)) w := fun _ _ => rfl
  apply wpS_seq
  apply wpS_region
  simp [wpOpsS, go_sem, recoverD, hu, Try.ntmps90, Exit.thenS, rep12]
  refine wpS_of_wp ?_
  have HT : Hid _ := ht
  clear ht
  go_wp2_with fail
  refine (fault_not t v HT.out _).mono ?_
  rintro e w1 ⟨rfl, h1⟩
  have b1 := hb.only h1 (by simp)
  have q1 := hq.only h1 (by simp)
  have c0 := b1.cell0
  have c1 := b1.cell1
  have c2 := q1.cell
  have z0 := b1.frozen 0
  have z1 := b1.frozen 1
  have z2 := q1.frozen
  have hn' : ¬ q = b := fun h => hn h.symm
  go_wp2_with fail
  refine ⟨rfl, _, rfl, rfl, rfl, ?_⟩
  exact (((h1.weaken (by simp)).setCell (by simp) _).setCell (by simp) _).setCell (by simp) _

/-- what Catch makes of what f comes to -/
inductive Caught : Ending → Ending → Prop
  | none (v : Value) : Caught (.returned v) (.returned (.tuple #[.agg #[.int .i64 0, .int .i64 0], .bool false]))
  | thrown (c a : Int) (old : List PanicEntry) (h : ∀ x ∈ old, x.goexit = false) : Caught (.panicked ({ v := thrownV c a, recovered := false } :: old)) (.returned (.tuple #[.agg #[.int .i64 c, .int .i64 a], .bool true]))
  | other (t : TypeId) (v : Value) (old : List PanicEntry) (ht : t ≠ 134) : Caught (.panicked ({ v := .iface t v, recovered := false } :: old)) (.panicked ({ v := .iface t v, recovered := false } :: { v := .iface t v, recovered := true } :: old))

/-- the world in which Catch does f -/
def inCatch (w : World) : World := (w.alloc (.cells #[.int .i64 0, .int .i64 0] 110)).alloc (.cells #[.bool false] 4)
theorem inCatch_size (w : World) : (inCatch w).heap.size = w.heap.size + 2 := by simp [inCatch]
theorem inCatch_only (w : World) : Only [] w (inCatch w) := ((Only.refl [] w).alloc _).alloc _

theorem settle_no (e : PanicEntry) (h : e.recovered = true) (old : List PanicEntry) (ho : ∀ x ∈ old, x.goexit = false) : settle (.panicking (e :: old)) = .returning := by
  obtain ⟨v, r, g⟩ := e
  simp only at h
  subst h
  have : old.dropWhile (!·.goexit) = [] := by
    induction old with
    | nil => rfl
    | cons x l ih => rw [List.dropWhile_cons_of_pos (by simp [ho x (by simp)])]; exact ih fun y hy => ho y (by simp [hy])
  simp [settle, this]

set_option maxHeartbeats 1000000 in
theorem catch_any {Q : Ending → World → Prop} (F : Nat) (cap : Array Value) (S : List Nat) (w : World) (h0 : w.heap.size ∉ S) (h1 : w.heap.size + 1 ∉ S)
    (hF : ∀ w, (callFunc F cap).run Try.prog w = .ok (.enter F cap) w)
    (h : Calls Try.prog F cap (inCatch w) fun e w2 => Only S (inCatch w) w2 ∧ ∃ e', Caught e e' ∧ ∀ w', Only [w.heap.size, w.heap.size + 1] w2 w' → Q e' w') :
    Calls Try.prog 86 #[.func (.func F) #[] cap] w Q := by
  have hmf : ∀ (fn : Fn) (first cap : Array Value) (w : World), (Instr.makeFunc fn first cap).run Try.prog w = .ok (.func fn first cap) w := fun _ _ _ _ => rfl
  have heq : ∀ w : World, (binOp BinOp.eql 1 (.func (.func F) #[] cap) .nilFunc).run Try.prog w = .ok (.bool false) w := fun _ => by kernel_rfl
  have H : Hid _ := h
  clear h
  go_enter_defers Try.func86, Try.ntmps86
  go_wp2_with fail
  refine Calls.mono (P := Try.prog) (f := F) (args := cap) (w := inCatch w) H.out ?_
  clear H
  rintro e w2 ⟨o2, e', hc, hQ⟩
  have hb : Two w2 w.heap.size (.int .i64 0) (.int .i64 0) := Two.only (w := inCatch w) ((Two.new w _ _ _).alloc _) o2 h0
  have hq : Var w2 (w.heap.size + 1) (.bool false) := by
    have := Var.new (w.alloc (.cells #[.int .i64 0, .int .i64 0] 110)) (.bool false) 4
    simp at this
    exact Var.only (w := inCatch w) this o2 h1
  cases hc with
  | none v =>
    have c0 := hb.cell0
    have c1 := hb.cell1
    have c2 := hq.cell
    have z0 := hb.frozen 0
    have z1 := hb.frozen 1
    have z2 := hq.frozen
    have HQ : Hid _ := hQ
    clear hQ
    go_wp2_with fail
    refine leaves_cons (f := 90) (args := #[.pointer (some ⟨w.heap.size, 0, none⟩), .pointer (some ⟨w.heap.size + 1, 0, none⟩)]) (by simp) (by simp [go_sem]) ?_
    refine (catch_idle _ _ _).mono ?_
    rintro e u' w3 ⟨rfl, rfl, rfl⟩
    have b3 : Two (((w2.setCell ⟨w.heap.size, 0, none⟩ (.int .i64 0)).setCell ⟨w.heap.size, 1, none⟩ (.int .i64 0)).setCell ⟨w.heap.size + 1, 0, none⟩ (.bool false)) w.heap.size (.int .i64 0) (.int .i64 0) :=
      ((hb.set0 _).set1 _).other (by simp) _
    have q3 : Var (((w2.setCell ⟨w.heap.size, 0, none⟩ (.int .i64 0)).setCell ⟨w.heap.size, 1, none⟩ (.int .i64 0)).setCell ⟨w.heap.size + 1, 0, none⟩ (.bool false)) (w.heap.size + 1) (.bool false) :=
      ((hq.other (by simp) _).other (by simp) _).set _
    have k0 := b3.cell0
    have k1 := b3.cell1
    have k2 := q3.cell
    refine ⟨_, by simp [results, Try.results86, go_sem, k0, k1, k2], HQ.out _ ?_⟩
    exact (((Only.refl _ w2).setCell (by simp) _).setCell (by simp) _).setCell (by simp) _
  | thrown c a old ho =>
    refine leaves_cons (f := 90) (args := #[.pointer (some ⟨w.heap.size, 0, none⟩), .pointer (some ⟨w.heap.size + 1, 0, none⟩)]) (by simp) (by simp [go_sem]) ?_
    refine (catch_thrown _ _ _ _ _ c a old w2 hb hq (by omega)).mono ?_
    rintro e u' w3 ⟨rfl, rfl, o3, b3, q3⟩
    have k0 := b3.cell0
    have k1 := b3.cell1
    have k2 := q3.cell
    have hs := settle_no { v := .iface 134 (.agg #[.int .i64 c, .int .i64 a]), recovered := true } rfl old ho
    simp only [hs]
    refine ⟨_, by simp [results, Try.results86, go_sem, k0, k1, k2], hQ _ o3⟩
  | other t v old ht =>
    refine leaves_cons (f := 90) (args := #[.pointer (some ⟨w.heap.size, 0, none⟩), .pointer (some ⟨w.heap.size + 1, 0, none⟩)]) (by simp) (by simp [go_sem]) ?_
    refine (catch_other _ _ _ _ _ t v ht old w2 hb hq (by omega)).mono ?_
    rintro e u' w3 ⟨rfl, rfl, o3⟩
    exact hQ _ o3

theorem catch_nil (w : World) : Calls Try.prog 86 #[.nilFunc] w fun e w' => e = .returned (.tuple #[.agg #[.int .i64 0, .int .i64 0], .bool false]) ∧ Only [] w w' := by
  have heq : ∀ w : World, (binOp BinOp.eql 1 .nilFunc .nilFunc).run Try.prog w = .ok (.bool true) w := fun _ => by kernel_rfl
  go_enter_defers Try.func86, Try.ntmps86
  go_wp2_with fail
  refine ⟨_, by simp [results, Try.results86, go_sem], rfl, ((Only.refl [] w).alloc _).alloc _⟩
end Go.Proofs.Ytngbannidbijmaa

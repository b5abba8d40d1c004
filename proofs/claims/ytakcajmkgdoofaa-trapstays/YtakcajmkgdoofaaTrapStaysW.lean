/- What the inner functions of TrapStays do. -/
import Derived.Test.YtakcajmkgdoofaaTrapK
import Derived.Test.YtakcajmkgdoofaaTrapO
import Derived.Test.YtakcajmkgdoofaaPick
import Derived.Test.YtakcajmkgdoofaaFrame2
import Derived.Deep.LoopGhost
import Derived.Laws.EntriesVeiled
namespace Go.Proofs.Ytakcajmkgdoofaa.trapStays
open Go.ChangeShapes Go.WideShapes Go.ChangeAt Go.RowKit

set_option maxHeartbeats 1000000 in
theorem musts_any (n m : Int) (bn bm bd : Nat) (hn : 0 ≤ n ∧ n < 12) (dn : bn ≠ bd) (dm : bm ≠ bd) (w : World) (vn : Var w bn (.int .i64 n)) (vm : Var w bm (.int .i64 m)) (vd : Var w bd (.int .i64 0)) :
    Calls Try.prog 25 #[.pointer (some ⟨bn, 0, none⟩), .pointer (some ⟨bm, 0, none⟩), .pointer (some ⟨bd, 0, none⟩)] w fun e w' =>
      e = .panicked [{ v := thrownV n m, recovered := false }] ∧ Only [bd] w w' ∧ Var w' bd (.int .i64 n) := by
  obtain ⟨n1, n2⟩ := hn
  go_enter Try.func25, Try.ntmps25
  go_wp2_with fail
  go_loopg [3] 12 (fun gk vi wr => ∃ k : Int, vi = .int .i64 k ∧ 0 ≤ k ∧ k ≤ n ∧ 12 - k.toNat ≤ gk ∧ Hid (Only [bd] w wr ∧ Var wr bd (.int .i64 k)))
  case atStart => exact ⟨0, rfl, by omega, by omega, by omega, Only.refl _ _, vd⟩
  case round =>
    obtain ⟨k, rfl, k1, k2, hg, HR⟩ := hrel
    have c0 := (vn.only HR.out.1 (by simpa using dn)).cell
    have c1 := (vm.only HR.out.1 (by simpa using dm)).cell
    have c2 := HR.out.2.cell
    have c3 := HR.out.2.frozen
    have kk : k < 12 := by omega
    by_cases h : k = n
    · subst h
      go_wp2_with fail
      refine (must_not _ _ _).mono ?_
      rintro e w' ⟨rfl, rfl⟩
      exact ⟨rfl, rfl, HR.out.1, HR.out.2⟩
    · have h2 : (k != n) = true := by simpa using h
      go_wp2_with fail
      refine (must_ok _ _ _).mono ?_
      rintro e w' ⟨rfl, rfl⟩
      go_wp2_with fail
      go_roundg (12 - (k + 1).toNat)
      case measure => omega
      case rel => exact ⟨k + 1, by go_num, by omega, by omega, Nat.le_refl _, HR.out.1.setCell (by simp) _, HR.out.2.set _⟩

/-- the panic's text, as it comes through -/
def Came (t : ByteArray) (e : Ending) : Prop := ∃ old, (∀ x ∈ old, x.goexit = false) ∧ e = .panicked ({ v := .iface 9 (.string t), recovered := false } :: old)

theorem last_any (bc bt : Nat) (t : ByteArray) (dt : bt ≠ bc) (w : World) (vc : Var w bc (.int .i64 0)) (vt : Var w bt (.string t)) :
    Calls Try.prog 28 #[.pointer (some ⟨bc, 0, none⟩), .pointer (some ⟨bt, 0, none⟩)] w fun e w' => Came t e ∧ Only [bc] w w' ∧ Var w' bc (.int .i64 1) := by
  have c0 := vc.cell
  have c1 := vc.frozen
  have c2 := (vt.other (p := ⟨bc, 0, none⟩) (by simpa using dt) (.int .i64 1)).cell
  go_enter Try.func28, Try.ntmps28
  go_wp2_with fail
  exact ⟨rfl, ⟨[], by simp, rfl⟩, (Only.refl _ _).setCell (by simp) _, vc.set _⟩

set_option maxHeartbeats 1000000 in
theorem deeper_any (bc bt : Nat) (t : ByteArray) (dt : bt ≠ bc) (k : Nat) : ∀ (m : Int) (w : World), m = k → m ≤ 12 → Var w bc (.int .i64 0) → Var w bt (.string t) →
    Calls Try.prog 27 #[.int .i64 m, .func (.func 28) #[] #[.pointer (some ⟨bc, 0, none⟩), .pointer (some ⟨bt, 0, none⟩)]] w fun e w' => Came t e ∧ Only [bc] w w' ∧ Var w' bc (.int .i64 1) := by
  have hmf : ∀ (fn : Fn) (first cap : Array Value) (w : World), (Instr.makeFunc fn first cap).run Try.prog w = .ok (.func fn first cap) w := fun _ _ _ _ => rfl
  induction k with
  | zero =>
    intro m w hm _ vc vt
    obtain rfl : m = 0 := by omega
    clear hm
    go_enter Try.func27, Try.ntmps27
    go_wp2_with fail
    refine (last_any bc bt t dt _ ((vc.alloc _).alloc _) ((vt.alloc _).alloc _)).mono ?_
    rintro e w' ⟨⟨old, ho, rfl⟩, o, v⟩
    exact ⟨rfl, ⟨old, ho, rfl⟩, (((Only.refl _ w).alloc _).alloc _).trans o, v⟩
  | succ k ih =>
    intro m w hm h12 vc vt
    have hm1 : ¬ m = 0 := by omega
    have hm2 : 1 ≤ m := by omega
    have HM : Hid _ := hm
    clear hm
    have lc := vc.lt
    have lt := vt.lt
    go_enter Try.func27, Try.ntmps27
    go_wp2_with fail
    obtain ⟨w1, e1⟩ : ∃ w1, w1 = (w.alloc (.cells #[.int .i64 m] 3)).alloc (.cells #[.func (.func 28) #[] #[.pointer (some ⟨bc, 0, none⟩), .pointer (some ⟨bt, 0, none⟩)]] 1) := ⟨_, rfl⟩
    have vm : Var w1 w.heap.size (.int .i64 m) := e1 ▸ (Var.new _ _ _).alloc _
    have vf : Var w1 (w.heap.size + 1) (.func (.func 28) #[] #[.pointer (some ⟨bc, 0, none⟩), .pointer (some ⟨bt, 0, none⟩)]) := e1 ▸ Var.newAt (by simp) _ _
    have vc1 : Var w1 bc (.int .i64 0) := e1 ▸ (vc.alloc _).alloc _
    have vt1 : Var w1 bt (.string t) := e1 ▸ (vt.alloc _).alloc _
    have o1 : Only [bc] w w1 := e1 ▸ ((Only.refl _ w).alloc _).alloc _
    have s1 : w1.heap.size = w.heap.size + 2 := by rw [e1]; simp
    rw [← e1]
    clear e1 vc vt
    refine catch_any 39 _ [bc] _ (by simp; omega) (by simp; omega) (by simp [go_sem]) ?_
    have i1 := inCatch_only w1
    have vm2 := vm.only i1 (by simp)
    have vf2 := vf.only i1 (by simp)
    have vc2 := vc1.only i1 (by simp)
    have vt2 := vt1.only i1 (by simp)
    have fin : ∀ e w2, (Came t e ∧ Only [bc] (inCatch w1) w2 ∧ Var w2 bc (.int .i64 1)) → Only [bc] (inCatch w1) w2 ∧ ∃ e', Caught e e' ∧ ∀ w', Only [w1.heap.size, w1.heap.size + 1] w2 w' → Came t e' ∧ Only [bc] w w' ∧ Var w' bc (.int .i64 1) := by
      rintro e w2 ⟨⟨old, ho, rfl⟩, o2, v2⟩
      refine ⟨o2, _, .other _ _ old (by decide), fun w3 o3 => ⟨⟨_, by simpa using ho, rfl⟩, ?_, v2.only o3 (by simp; omega)⟩⟩
      exact ((o1.trans (i1.weaken (by simp))).trans o2).then o3 (by simp; omega)
    have F : Hid _ := fin
    clear fin
    have IH : Hid _ := ih
    clear ih
    have c0 := vm2.cell
    have c1 := vf2.cell
    clear vm vf vc1 vt1 o1 i1
    go_enter Try.func39, Try.ntmps39
    go_wp2_with fail
    refine (IH.out (m - 1) _ (by have := HM.out; omega) (by omega) vc2 vt2).mono ?_
    rintro e w2 h
    obtain ⟨⟨old, ho, rfl⟩, o2, v2⟩ := h
    obtain ⟨f1, e', f2, f3⟩ := F.out _ w2 ⟨⟨old, ho, rfl⟩, o2, v2⟩
    refine ⟨rfl, f1, e', f2, fun w' o' => ?_⟩
    obtain ⟨⟨old', ho', rfl⟩, g⟩ := f3 w' o'
    exact ⟨rfl, ⟨old', ho', rfl⟩, g⟩

theorem two_any (bm bc bt : Nat) (m : Int) (t : ByteArray) (hm : 0 ≤ m ∧ m ≤ 12) (dt : bt ≠ bc) (w : World) (vm : Var w bm (.int .i64 m)) (vc : Var w bc (.int .i64 0)) (vt : Var w bt (.string t)) :
    Calls Try.prog 26 #[.pointer (some ⟨bm, 0, none⟩), .pointer (some ⟨bc, 0, none⟩), .pointer (some ⟨bt, 0, none⟩)] w fun e w' => Came t e ∧ Only [bc] w w' ∧ Var w' bc (.int .i64 1) := by
  have hmf : ∀ (fn : Fn) (first cap : Array Value) (w : World), (Instr.makeFunc fn first cap).run Try.prog w = .ok (.func fn first cap) w := fun _ _ _ _ => rfl
  have c0 := vm.cell
  go_enter Try.func26, Try.ntmps26
  go_wp2_with fail
  refine (deeper_any bc bt t dt m.toNat m _ (by omega) (by omega) vc vt).mono ?_
  rintro e w' ⟨⟨old, ho, rfl⟩, o, v⟩
  exact ⟨rfl, ⟨old, ho, rfl⟩, o, v⟩
end Go.Proofs.Ytakcajmkgdoofaa.trapStays

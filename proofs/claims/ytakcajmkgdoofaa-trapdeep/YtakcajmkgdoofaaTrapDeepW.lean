/- What the inner function of TrapDeep does, from each place on. -/
import Derived.Test.YtakcajmkgdoofaaTrapK
import Derived.Test.YtakcajmkgdoofaaPick
import Derived.Test.YtakcajmkgdoofaaFrame
namespace Go.Proofs.Ytakcajmkgdoofaa.trapDeep
open Go.ChangeShapes Go.WideShapes Go.ChangeAt Go.RowKit

/-- what the function's variables hold that it does not turn -/
structure Env (w : World) (n a c : Int) (bn bg ba bc be bt : Nat) : Prop where
  n : Var w bn (.int .i64 n)
  g : Var w bg (.func (.func 30) #[] #[.pointer (some ⟨bn, 0, none⟩), .pointer (some ⟨bg, 0, none⟩), .pointer (some ⟨ba, 0, none⟩), .pointer (some ⟨bc, 0, none⟩), .pointer (some ⟨be, 0, none⟩), .pointer (some ⟨bt, 0, none⟩)])
  a : Var w ba (.int .i64 a)
  c : Var w bc (.int .i64 c)
structure Apart (bn bg ba bc be bt : Nat) : Prop where
  ne : bn ≠ be ∧ bn ≠ bt ∧ bg ≠ be ∧ bg ≠ bt ∧ ba ≠ be ∧ ba ≠ bt ∧ bc ≠ be ∧ bc ≠ bt ∧ be ≠ bt
theorem Env.only {w w' : World} {n a c : Int} {bn bg ba bc be bt : Nat} {S : List Nat} (h : Env w n a c bn bg ba bc be bt) (o : Only S w w') (hS : bn ∉ S ∧ bg ∉ S ∧ ba ∉ S ∧ bc ∉ S) : Env w' n a c bn bg ba bc be bt :=
  ⟨h.n.only o hS.1, h.g.only o hS.2.1, h.a.only o hS.2.2.1, h.c.only o hS.2.2.2⟩

/-- how many come to their end from the place k on; how many tell -/
def goes (n a k : Int) : Int := (n - k) - if k ≤ a then 1 else 0
def tells (a k : Int) : Int := if k ≤ a then 1 else 0
def endOf (c a k : Int) : Ending := if k = a then .panicked [{ v := thrownV c k, recovered := false }] else .returned (.tuple #[])
abbrev P0 (b : Nat) : Value := .pointer (some ⟨b, 0, none⟩)
/-- what go1 does, from the place k on -/
def Spec (n a c : Int) (bn bg ba bc be bt : Nat) (k : Int) : Prop := ∀ (E T : Int) (w : World), 0 ≤ E → E ≤ 80 → 0 ≤ T → T ≤ 80 →
    Env w n a c bn bg ba bc be bt → Var w be (.int .i64 E) → Var w bt (.int .i64 T) →
    Calls Try.prog 30 #[.int .i64 k, P0 bn, P0 bg, P0 ba, P0 bc, P0 be, P0 bt] w fun e w' =>
      e = .returned (.tuple #[]) ∧ Only [be, bt] w w' ∧ Var w' be (.int .i64 (E + goes n a k)) ∧ Var w' bt (.int .i64 (T + tells a k))

set_option maxHeartbeats 2000000 in
theorem body_any (n a c : Int) (bn bg ba bc be bt : Nat) (hn : n ≤ 15) (ha : 0 ≤ a) (ha' : a < n) (d : Apart bn bg ba bc be bt) (k : Int) (hk : 0 ≤ k) (hkn : k < n) (hrec : k + 1 < n → Spec n a c bn bg ba bc be bt (k + 1))
    (E T : Int) (bk : Nat) (w : World) (hE : 0 ≤ E) (hE' : E ≤ 80) (hT : 0 ≤ T) (hT' : T ≤ 80) (env : Env w n a c bn bg ba bc be bt) (ve : Var w be (.int .i64 E)) (vt : Var w bt (.int .i64 T)) (vk : Var w bk (.int .i64 k)) (dk : bk ≠ be ∧ bk ≠ bt) :
    Calls Try.prog 31 #[P0 bk, P0 bn, P0 bg, P0 ba, P0 bc, P0 be] w fun e w' =>
      e = endOf c a k ∧ Only [be, bt] w w' ∧ Var w' be (.int .i64 (E + goes n a k)) ∧ Var w' bt (.int .i64 (T + tells a (k + 1))) := by
  obtain ⟨d1, d2, d3, d4, d5, d6, d7, d8, d9⟩ := d.ne
  obtain ⟨E1, e1⟩ : ∃ E1, E1 = E + goes n a (k + 1) := ⟨_, rfl⟩
  obtain ⟨T1, e2⟩ : ∃ T1, T1 = T + tells a (k + 1) := ⟨_, rfl⟩
  have hE1 : -1 ≤ E1 ∧ E1 ≤ 100 := by rw [e1]; unfold goes; split <;> omega
  obtain ⟨l1, l2⟩ := hE1
  have f1 : k = a → E1 = E + goes n a k := fun h => by rw [e1]; unfold goes; rw [if_neg (by omega), if_pos (by omega)]; omega
  have f2 : ¬ k = a → E1 + 1 = E + goes n a k := fun h => by
    rw [e1]; unfold goes; by_cases g : k ≤ a
    · rw [if_pos g, if_pos (by omega)]; omega
    · rw [if_neg g, if_neg (by omega)]; omega
  rw [← e2]
  have k0 := vk.cell
  have k1 := env.n.cell
  have k2 := env.g.cell
  by_cases h1 : k + 1 < n
  · have hr := hrec h1 E T w hE hE' hT hT' env ve vt
    rw [← e1, ← e2] at hr
    have HR : Hid _ := hr
    have F1 : Hid _ := f1
    have F2 : Hid _ := f2
    clear hr f1 f2 e1 e2
    by_cases hka : k = a
    · subst hka
      go_enter Try.func31, Try.ntmps31
      go_wp2_with fail
      refine Calls.mono (P := Try.prog) (w := w) HR.out ?_
      clear HR
      rintro e w1 ⟨rfl, o1, ve1, vt1⟩
      have env1 := env.only o1 (by simp; omega)
      have vk1 := vk.only o1 (by simp; omega)
      have q0 := vk1.cell
      have q1 := env1.a.cell
      have q2 := env1.c.cell
      go_wp2_with fail
      refine (throw_any _ _ _).mono ?_
      rintro e w' ⟨rfl, rfl⟩
      refine ⟨rfl, by simp [endOf], o1, ?_, vt1⟩
      have := F1.out trivial
      rw [← this]; exact ve1
    · go_enter Try.func31, Try.ntmps31
      go_wp2_with fail
      refine Calls.mono (P := Try.prog) (w := w) HR.out ?_
      clear HR
      rintro e w1 ⟨rfl, o1, ve1, vt1⟩
      have env1 := env.only o1 (by simp; omega)
      have vk1 := vk.only o1 (by simp; omega)
      have q0 := vk1.cell
      have q1 := env1.a.cell
      have q2 := env1.c.cell
      have q3 := ve1.cell
      have q4 := ve1.frozen
      go_wp2_with fail
      go_end0
      refine ⟨by simp [endOf, hka], o1.setCell (by simp) _, ?_, vt1.other (by simp; omega) _⟩
      have := F2.out hka
      rw [← this]; exact ve1.set _
  · have g1 : E1 = E := by rw [e1]; unfold goes; split <;> omega
    have g2 : T1 = T := by rw [e2]; unfold tells; split <;> omega
    have F1 : Hid _ := f1
    have F2 : Hid _ := f2
    clear f1 f2 e1 e2 hrec
    subst g1
    subst g2
    have q1 := env.a.cell
    have q2 := env.c.cell
    have q3 := ve.cell
    have q4 := ve.frozen
    by_cases hka : k = a
    · subst hka
      go_enter Try.func31, Try.ntmps31
      go_wp2_with fail
      refine (throw_any _ _ _).mono ?_
      rintro e w' ⟨rfl, rfl⟩
      refine ⟨rfl, by simp [endOf], Only.refl _ _, ?_, vt⟩
      have := F1.out trivial
      rw [← this]; exact ve
    · go_enter Try.func31, Try.ntmps31
      go_wp2_with fail
      go_end0
      refine ⟨by simp [endOf, hka], (Only.refl _ _).setCell (by simp) _, ?_, vt.other (by simp; omega) _⟩
      have := F2.out hka
      rw [← this]; exact ve.set _

set_option maxHeartbeats 2000000 in
theorem go1_any (n a c : Int) (bn bg ba bc be bt : Nat) (hn : n ≤ 15) (ha : 0 ≤ a) (ha' : a < n) (d : Apart bn bg ba bc be bt) (k : Int) (hk : 0 ≤ k) (hkn : k < n) (hrec : k + 1 < n → Spec n a c bn bg ba bc be bt (k + 1)) : Spec n a c bn bg ba bc be bt k := by
  intro E T w hE hE' hT hT' env ve vt
  have hmf : ∀ (fn : Fn) (first cap : Array Value) (w : World), (Instr.makeFunc fn first cap).run Try.prog w = .ok (.func fn first cap) w := fun _ _ _ _ => rfl
  obtain ⟨d1, d2, d3, d4, d5, d6, d7, d8, d9⟩ := d.ne
  have B := body_any n a c bn bg ba bc be bt hn ha ha' d k hk hkn hrec E T
  have HB : Hid _ := B
  clear B hrec
  have te := ve.lt
  have tt := vt.lt
  have tn := env.n.lt
  have tg := env.g.lt
  have ta := env.a.lt
  have tc := env.c.lt
  have env0 := fun o => env.only (S := []) ((Only.refl _ w).alloc o) (by simp)
  have ve0 := fun o => ve.alloc o
  have vt0 := fun o => vt.alloc o
  obtain ⟨w1, e1⟩ : ∃ w1, w1 = w.alloc (.cells #[.int .i64 k] 3) := ⟨_, rfl⟩
  have env1 : Env w1 n a c bn bg ba bc be bt := e1 ▸ env0 _
  have ve1 : Var w1 be (.int .i64 E) := e1 ▸ ve0 _
  have vt1 : Var w1 bt (.int .i64 T) := e1 ▸ vt0 _
  have vk1 : Var w1 w.heap.size (.int .i64 k) := e1 ▸ Var.new _ _ _
  have s1 : w1.heap.size = w.heap.size + 1 := by rw [e1]; simp
  have o1 : Only [be, bt] w w1 := e1 ▸ (Only.refl _ w).alloc _
  clear env0 ve0 vt0
  have E1 : Hid _ := e1
  clear e1
  go_enter Try.func30, Try.ntmps30
  go_wp2_with fail
  rw [← E1.out]
  refine catch_any 31 _ [be, bt] _ (by simp; omega) (by simp; omega) (by simp [go_sem]) ?_
  have i1 := inCatch_only w1
  refine Calls.mono (HB.out w.heap.size (inCatch w1) hE hE' hT hT' (env1.only i1 (by simp)) (ve1.only i1 (by simp)) (vt1.only i1 (by simp)) (vk1.only i1 (by simp)) (by omega)) ?_
  clear HB
  rintro e w2 ⟨he, o2, ve2, vt2⟩
  refine ⟨o2, ?_⟩
  have keep : ∀ w3, Only [w1.heap.size, w1.heap.size + 1] w2 w3 → Only [be, bt] w w3 ∧ Env w3 n a c bn bg ba bc be bt ∧ Var w3 be (.int .i64 (E + goes n a k)) ∧ Var w3 bt (.int .i64 (T + tells a (k + 1))) ∧ Var w3 w.heap.size (.int .i64 k) := fun w3 o3 =>
    ⟨((o1.trans (i1.weaken (by simp))).trans o2).then o3 (by simp; omega), ((env1.only i1 (by simp)).only o2 (by simp; omega)).only o3 (by simp; omega), ve2.only o3 (by simp; omega), vt2.only o3 (by simp; omega), ((vk1.only i1 (by simp)).only o2 (by simp; omega)).only o3 (by simp; omega)⟩
  by_cases hka : k = a
  · subst hka
    rw [endOf, if_pos rfl] at he
    subst he
    refine ⟨_, .thrown c k [] (by simp), ?_⟩
    intro w3 o3
    obtain ⟨o, env3, ve3, vt3, vk3⟩ := keep w3 o3
    rw [tells, if_neg (by omega)] at vt3
    simp only [Int.add_zero] at vt3
    clear keep o2 ve2 vt2 o3
    have q0 := fun o => (vk3.alloc o).cell
    have q1 := fun o => (env3.a.alloc o).cell
    have q2 := fun o => (env3.c.alloc o).cell
    have q3 := fun o => (vt3.alloc o).cell
    have q4 := fun o => (vt3.alloc o).frozen
    have r0 := fun o u => ((vk3.alloc o).other (p := ⟨bt, 0, none⟩) (by simp; omega) u).cell
    have r1 := fun o u => ((env3.a.alloc o).other (p := ⟨bt, 0, none⟩) (by simp; omega) u).cell
    clear env env1 ve vt ve1 vt1 vk1 o1 i1 E1
    go_wp2_with fail
    go_end0
    refine ⟨rfl, (o.alloc _).setCell (by simp) _, (ve3.alloc _).other (by simp; omega) _, ?_⟩
    rw [tells, if_pos (Int.le_refl _)]
    exact (vt3.alloc _).set _
  · rw [endOf, if_neg hka] at he
    subst he
    refine ⟨_, .none _, ?_⟩
    intro w3 o3
    obtain ⟨o, env3, ve3, vt3, vk3⟩ := keep w3 o3
    clear keep o2 ve2 vt2 o3
    have q0 := fun o => (vk3.alloc o).cell
    have q1 := fun o => (env3.a.alloc o).cell
    have q2 := fun o => (env3.c.alloc o).cell
    clear env env1 ve vt ve1 vt1 vk1 o1 i1 E1
    go_wp2_with fail
    go_end0
    refine ⟨rfl, o.alloc _, ve3.alloc _, ?_⟩
    have : tells a k = tells a (k + 1) := by unfold tells; by_cases g : k ≤ a; rw [if_pos g, if_pos (by omega)]; rw [if_neg g, if_neg (by omega)]
    rw [this]
    exact vt3.alloc _
theorem spec_all (n a c : Int) (bn bg ba bc be bt : Nat) (hn : n ≤ 15) (ha : 0 ≤ a) (ha' : a < n) (d : Apart bn bg ba bc be bt) (m : Nat) : ∀ k : Int, 0 ≤ k → k + m + 1 = n → Spec n a c bn bg ba bc be bt k := by
  induction m with
  | zero => exact fun k hk e => go1_any n a c bn bg ba bc be bt hn ha ha' d k hk (by omega) fun h => by omega
  | succ m ih => exact fun k hk e => go1_any n a c bn bg ba bc be bt hn ha ha' d k hk (by omega) fun h => ih (k + 1) (by omega) (by omega)

end Go.Proofs.Ytakcajmkgdoofaa.trapDeep

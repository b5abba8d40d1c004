/- Package rule: one op: what is given. Package rule: Set. Made by tools/ruled.py. Package rule: Copy, Add, Sub, Mul, Div. Made by tools/ruled.py. Package rule: Get, Put. Made by tools/ruled.py. Package rule: Zero, Jump, Stop, no op. Made by tools/ruled.py. Package rule: Roll, Fire. Made by tools/ruled.py. -/
import Derived.Test.YtngbannidbijmaaRuleF
namespace Go.Proofs.Ytngbannidbijmaa
open Go.RowKit
set_option linter.unusedVariables false

/-- a machine that is under way, its ops a slice of n -/
structure St (B p : Nat) (w : World) (m : Mch) (sh : List Bd) (n : Nat) : Prop where
  mac : Mb w p m
  row : SR B w m.sh sh
  own : m.sh.ownBlock ≠ some p
  low : B ≤ p
  len : sh.length ≤ 1000000
  ok : Body.some m.b = true
  ops : ∃ a cap, m.ops = .slice a n cap
  few : n ≤ 1000000
  at0 : 0 ≤ m.at_
  at1 : m.at_ ≤ n
theorem St.only {B p : Nat} {w w' : World} {m : Mch} {sh : List Bd} {n : Nat} (h : St B p w m sh n) (o : Only [] w w') : St B p w' m sh n :=
  ⟨h.mac.only o (by simp), h.row.only o (by simp), h.own, h.low, h.len, h.ok, h.ops, h.few, h.at0, h.at1⟩
/-- the machine with something else in it -/
def Mch.with (m : Mch) (e : Ev) (v : Value) : Mch := { m with b := e.b, t := e.t, ix := e.ix, iy := e.iy, d := e.d, room := e.room, sh := v }
/-- what an op leaves -/
def DoPost (B p : Nat) (w : World) (m : Mch) (r : Rule.Res) (e : Ending) (w' : World) : Prop :=
  match r with
  | .fault c => e = broke c m.at_ ∧ Only [] w w'
  | .next e' k => e = .returned (.int .i64 k) ∧ ∃ v, Mb w' p (m.with e' v) ∧ SR B w' v e'.sh ∧ v.ownBlock ≠ some p ∧ Moved p w w' m.sh v
theorem doPost_fault {B p : Nat} {w w' : World} {m : Mch} {r : Rule.Res} {c : Int} {e : Ending} (hr : r = .fault c) (he : e = broke c m.at_) (o : Only [] w w') : DoPost B p w m r e w' := by subst hr; exact ⟨he, o⟩
theorem doPost_next {B p : Nat} {w w' : World} {m : Mch} {r : Rule.Res} {e' : Ev} {k : Int} {v : Value} {e : Ending} (hr : r = .next e' k) (he : e = .returned (.int .i64 k)) (h1 : Mb w' p (m.with e' v)) (h2 : SR B w' v e'.sh) (h3 : v.ownBlock ≠ some p) (h4 : Moved p w w' m.sh v) : DoPost B p w m r e w' := by subst hr; exact ⟨he, v, h1, h2, h3, h4⟩
/-- where nothing but the machine's own cells have turned -/
theorem doPost_own {B p : Nat} {w w1 w' : World} {m : Mch} {sh : List Bd} {n : Nat} {r : Rule.Res} {e' : Ev} {k : Int} {e : Ending} (hr : r = .next e' k) (he : e = .returned (.int .i64 k)) (S : St B p w1 m sh n) (o1 : Only [] w w1) (h1 : Mb w' p (m.with e' m.sh)) (o : Only [p] w1 w') (hs : e'.sh = sh) : DoPost B p w m r e w' :=
  doPost_next hr he h1 (by rw [hs]; exact S.row.only o (fun g hg hm => S.own (by rw [← (by simpa using hm : g = p)]; exact hg))) S.own (Moved.of_only ((o1.weaken (by simp)).trans o))
theorem is_nat {k : Int} (h : Rule.is k = true) : ∃ i : Nat, k = (i : Int) ∧ i < 4 := by
  simp only [Rule.is, Body.btw, Bool.and_eq_true, decide_eq_true_eq] at h
  exact ⟨k.toNat, by omega, by omega⟩
/-- the op within its box -/
def OpBox (w : World) (q : Nat) (c a b : Int) : Prop := Three w q (.int .i64 c) (.int .i64 a) (.int .i64 b)
end Go.Proofs.Ytngbannidbijmaa
namespace Go.Proofs.Ytngbannidbijmaa
open Go.RowKit
set_option linter.unusedVariables false
set_option maxRecDepth 100000 in
set_option maxHeartbeats 1000000 in
theorem do_1y {B p n : Nat} {w : World} {m : Mch} {sh : List Bd} (h : St B p w m sh n) (i : Nat) (hi : i < 4) (b : Int) (hr : Rule.act n m.at_ ⟨1, (i : Nat), b⟩ (m.e sh) = .next { m.e sh with b := Rule.setr m.b i (Rule.clamp b) } (m.at_ + 1)) : Calls Try.prog 93 #[.pointer (some ⟨p, 0, none⟩), .agg #[.int .i64 (1), .int .i64 ((i : Nat)), .int .i64 (b)]] w (DoPost B p w m (Rule.act n m.at_ ⟨1, (i : Nat), b⟩ (m.e sh))) := by
  have HR : Hid _ := hr
  clear hr
  generalize Rule.act n m.at_ ⟨1, (i : Nat), b⟩ (m.e sh) = RR at *
  have k1 := h.at0
  have k2 := h.at1
  have k3 := h.few
  have wn : IntKind.i64.wrap (m.at_ + 1) = m.at_ + 1 := IntWalk.i64_in _ (by omega)
  have c19 := h.mac.at_
  have H0 : Hid _ := h
  have O0 : Hid (OpBox (w.alloc (.cells #[.int .i64 (1), .int .i64 ((i : Nat)), .int .i64 (b)] 23)) w.heap.size (1) ((i : Nat)) (b)) := Three.new _ _ _ _ _
  have lp := h.mac.lt
  clear h
  go_enter Try.func93, Try.ntmps93
  go_wp2_with fail
  have H1 : Hid (St B p (w.alloc (.cells #[.int .i64 (1), .int .i64 ((i : Nat)), .int .i64 (b)] 23)) m sh n ∧ Only [] w (w.alloc (.cells #[.int .i64 (1), .int .i64 ((i : Nat)), .int .i64 (b)] 23)) ∧ OpBox (w.alloc (.cells #[.int .i64 (1), .int .i64 ((i : Nat)), .int .i64 (b)] 23)) w.heap.size (1) ((i : Nat)) (b)) := ⟨H0.out.only ((Only.refl _ _).alloc _), (Only.refl _ _).alloc _, O0.out⟩
  generalize w.alloc (.cells #[.int .i64 (1), .int .i64 ((i : Nat)), .int .i64 (b)] 23) = W at *
  generalize w.heap.size = q at *
  clear H0 c19 O0
  have HV : Hid (∀ y, Only [] W.drew y → St B p y m sh n ∧ OpBox y q (1) ((i : Nat)) (b)) := fun y hy => ⟨H1.out.1.only ((only_drew W).trans hy), Three.only H1.out.2.2 ((only_drew W).trans hy) (by simp)⟩
  refine wp_region_free 8 (Only []) (Only.refl _) Only.trans [(0, .pointer (some ⟨p, 0, none⟩)), (3, .pointer (some ⟨q, 0, none⟩))] (by intro p hp; simp only [List.mem_cons, List.not_mem_nil, or_false] at hp; rcases hp with rfl | rfl <;> rfl) (by kernel_rfl) (by kernel_rfl) (by decide) (by kernel_rfl) (by kernel_rfl) ?_
  simp only [List.take_succ_cons, List.take_zero, List.drop_succ_cons, List.drop_zero]
  apply rf_val
  · first | rfl | exact ⟨by kernel_rfl, rfl⟩
  · intro z y hT hf
    obtain ⟨b0, b1, b2⟩ := And.intro (Three.cell0 (HV.out y hT).2) (And.intro (Three.cell1 (HV.out y hT).2) (Three.cell2 (HV.out y hT).2))
    simp at hf
    go_simp
    try rfl
  apply rf_val
  · first | rfl | exact ⟨by kernel_rfl, rfl⟩
  · intro z y hT hf
    obtain ⟨b0, b1, b2⟩ := And.intro (Three.cell0 (HV.out y hT).2) (And.intro (Three.cell1 (HV.out y hT).2) (Three.cell2 (HV.out y hT).2))
    simp at hf
    go_simp
    try rfl
  apply rf_val
  · first | rfl | exact ⟨by kernel_rfl, rfl⟩
  · intro z y hT hf
    obtain ⟨b0, b1, b2⟩ := And.intro (Three.cell0 (HV.out y hT).2) (And.intro (Three.cell1 (HV.out y hT).2) (Three.cell2 (HV.out y hT).2))
    simp at hf
    go_simp
    try rfl
  refine rf_eff (fun _ v => v = .pointer (some ⟨p, 8 + i, none⟩)) (by first | rfl | exact ⟨by kernel_rfl, rfl⟩) (fun _ _ _ _ h => h) (fun z y hT hf => ?_) ?_
  · simp at hf
    go_simp
    refine (reg_yes (HV.out y hT).1.mac i hi).mono ?_
    rintro e y2 ⟨rfl, rfl⟩
    exact ⟨_, rfl, rfl, Only.refl _ _⟩
  apply rf_val
  · first | rfl | exact ⟨by kernel_rfl, rfl⟩
  · intro z y hT hf
    obtain ⟨b0, b1, b2⟩ := And.intro (Three.cell0 (HV.out y hT).2) (And.intro (Three.cell1 (HV.out y hT).2) (Three.cell2 (HV.out y hT).2))
    simp at hf
    go_simp
    try rfl
  apply rf_val
  · first | rfl | exact ⟨by kernel_rfl, rfl⟩
  · intro z y hT hf
    obtain ⟨b0, b1, b2⟩ := And.intro (Three.cell0 (HV.out y hT).2) (And.intro (Three.cell1 (HV.out y hT).2) (Three.cell2 (HV.out y hT).2))
    simp at hf
    go_simp
    try rfl
  refine rf_eff (fun _ v => v = .int .i64 (Rule.clamp b)) (by first | rfl | exact ⟨by kernel_rfl, rfl⟩) (fun _ _ _ _ h => h) (fun z y hT hf => ?_) ?_
  · simp at hf
    go_simp
    refine (asReg_any _ _).mono ?_
    rintro e y2 ⟨rfl, rfl⟩
    exact ⟨_, rfl, rfl, Only.refl _ _⟩
  apply rf_val
  · first | rfl | exact ⟨by kernel_rfl, rfl⟩
  · intro z y hT hf
    obtain ⟨b0, b1, b2⟩ := And.intro (Three.cell0 (HV.out y hT).2) (And.intro (Three.cell1 (HV.out y hT).2) (Three.cell2 (HV.out y hT).2))
    simp at hf
    go_simp
    try rfl
  intro w2 hy
  simp only [FinA, Sp.R, forall_eq]
  simp only [Act.put, List.setIfInBounds_toArray, List.set_cons_succ, List.set_cons_zero]
  have H2 : Hid (St B p w2 m sh n ∧ Only [] w w2 ∧ OpBox w2 q (1) ((i : Nat)) (b)) := ⟨(HV.out w2 hy).1, H1.out.2.1.trans ((only_drew W).trans hy), (HV.out w2 hy).2⟩
  clear hy HV H1
  have fz := H2.out.1.mac.frozen
  have cm := H2.out.1.mac.mem i hi
  go_wp2_with fail
  go_ret
  exact doPost_own HR.out rfl H2.out.1 H2.out.2.1 (H2.out.1.mac.setr i hi _) ((Only.refl _ _).setCell (by simp) _) rfl
set_option maxRecDepth 100000 in
set_option maxHeartbeats 1000000 in
theorem do_1n {B p n : Nat} {w : World} {m : Mch} {sh : List Bd} (h : St B p w m sh n) (a b : Int) (ha : Rule.is a = false) (hr : Rule.act n m.at_ ⟨1, a, b⟩ (m.e sh) = .fault 2) : Calls Try.prog 93 #[.pointer (some ⟨p, 0, none⟩), .agg #[.int .i64 (1), .int .i64 (a), .int .i64 (b)]] w (DoPost B p w m (Rule.act n m.at_ ⟨1, a, b⟩ (m.e sh))) := by
  have HR : Hid _ := hr
  clear hr
  generalize Rule.act n m.at_ ⟨1, a, b⟩ (m.e sh) = RR at *
  have k1 := h.at0
  have k2 := h.at1
  have k3 := h.few
  have wn : IntKind.i64.wrap (m.at_ + 1) = m.at_ + 1 := IntWalk.i64_in _ (by omega)
  have c19 := h.mac.at_
  have H0 : Hid _ := h
  have O0 : Hid (OpBox (w.alloc (.cells #[.int .i64 (1), .int .i64 (a), .int .i64 (b)] 23)) w.heap.size (1) (a) (b)) := Three.new _ _ _ _ _
  have lp := h.mac.lt
  clear h
  go_enter Try.func93, Try.ntmps93
  go_wp2_with fail
  have H1 : Hid (St B p (w.alloc (.cells #[.int .i64 (1), .int .i64 (a), .int .i64 (b)] 23)) m sh n ∧ Only [] w (w.alloc (.cells #[.int .i64 (1), .int .i64 (a), .int .i64 (b)] 23)) ∧ OpBox (w.alloc (.cells #[.int .i64 (1), .int .i64 (a), .int .i64 (b)] 23)) w.heap.size (1) (a) (b)) := ⟨H0.out.only ((Only.refl _ _).alloc _), (Only.refl _ _).alloc _, O0.out⟩
  generalize w.alloc (.cells #[.int .i64 (1), .int .i64 (a), .int .i64 (b)] 23) = W at *
  generalize w.heap.size = q at *
  clear H0 c19 O0
  have HV : Hid (∀ y, Only [] W.drew y → St B p y m sh n ∧ OpBox y q (1) (a) (b)) := fun y hy => ⟨H1.out.1.only ((only_drew W).trans hy), Three.only H1.out.2.2 ((only_drew W).trans hy) (by simp)⟩
  refine wp_region_fate (fun chain y => chain = [{ v := thrownV 2 m.at_, recovered := false }] ∧ Only [] w y) (by rintro chain a' y hd ⟨rfl, ho⟩; exact ⟨hd, doPost_fault HR.out rfl ho⟩) 9 (Only []) (Only.refl _) Only.trans [(0, .pointer (some ⟨p, 0, none⟩)), (3, .pointer (some ⟨q, 0, none⟩))] (by intro p hp; simp only [List.mem_cons, List.not_mem_nil, or_false] at hp; rcases hp with rfl | rfl <;> rfl) (by kernel_rfl) (by kernel_rfl) (by decide) (by kernel_rfl) (by kernel_rfl) ?_
  simp only [List.take_succ_cons, List.take_zero, List.drop_succ_cons, List.drop_zero]
  apply rd_val
  · first | rfl | exact ⟨by kernel_rfl, rfl⟩
  · intro z y hT hf
    obtain ⟨b0, b1, b2⟩ := And.intro (Three.cell0 (HV.out y hT).2) (And.intro (Three.cell1 (HV.out y hT).2) (Three.cell2 (HV.out y hT).2))
    simp at hf
    go_simp
    try rfl
  apply rd_val
  · first | rfl | exact ⟨by kernel_rfl, rfl⟩
  · intro z y hT hf
    obtain ⟨b0, b1, b2⟩ := And.intro (Three.cell0 (HV.out y hT).2) (And.intro (Three.cell1 (HV.out y hT).2) (Three.cell2 (HV.out y hT).2))
    simp at hf
    go_simp
    try rfl
  apply rd_val
  · first | rfl | exact ⟨by kernel_rfl, rfl⟩
  · intro z y hT hf
    obtain ⟨b0, b1, b2⟩ := And.intro (Three.cell0 (HV.out y hT).2) (And.intro (Three.cell1 (HV.out y hT).2) (Three.cell2 (HV.out y hT).2))
    simp at hf
    go_simp
    try rfl
  refine rd_die (by first | rfl | exact ⟨by kernel_rfl, rfl⟩) (fun z y hT hf => ?_) ?_
  · simp at hf
    go_simp
    refine (reg_no (HV.out y hT).1.mac a ha).mono ?_
    rintro e y2 ⟨rfl, rfl⟩
    exact ⟨_, rfl, rfl, H1.out.2.1.trans ((only_drew W).trans hT)⟩
  apply rd_val
  · first | rfl | exact ⟨by kernel_rfl, rfl⟩
  · intro z y hT hf
    obtain ⟨b0, b1, b2⟩ := And.intro (Three.cell0 (HV.out y hT).2) (And.intro (Three.cell1 (HV.out y hT).2) (Three.cell2 (HV.out y hT).2))
    simp at hf
    go_simp
    try rfl
  apply rd_val
  · first | rfl | exact ⟨by kernel_rfl, rfl⟩
  · intro z y hT hf
    obtain ⟨b0, b1, b2⟩ := And.intro (Three.cell0 (HV.out y hT).2) (And.intro (Three.cell1 (HV.out y hT).2) (Three.cell2 (HV.out y hT).2))
    simp at hf
    go_simp
    try rfl
  refine rd_not (by first | rfl | exact ⟨by kernel_rfl, rfl⟩) (fun z y hT hf => (by simp at hf)) ?_
  refine rd_not (by first | rfl | exact ⟨by kernel_rfl, rfl⟩) (fun z y hT hf => (by simp at hf)) ?_
  refine rd_not (by first | rfl | exact ⟨by kernel_rfl, rfl⟩) (fun z y hT hf => (by simp at hf)) ?_
  intro w2 hy
  simp only [FinA, Sp.R, forall_eq]
  first | exact False.elim | (intro v hv; exact hv.elim) | (intro v hv v2 hv2; exact hv2.elim) | (intro v hv; exact fun _ h => h.elim)
end Go.Proofs.Ytngbannidbijmaa
namespace Go.Proofs.Ytngbannidbijmaa
open Go.RowKit
set_option linter.unusedVariables false
set_option maxRecDepth 100000 in
set_option maxHeartbeats 1000000 in
theorem do_2y {B p n : Nat} {w : World} {m : Mch} {sh : List Bd} (h : St B p w m sh n) (i j : Nat) (hi : i < 4) (hj : j < 4) (hx : -1000000 ≤ Rule.reg m.b i ∧ Rule.reg m.b i ≤ 1000000) (hy : -1000000 ≤ Rule.reg m.b j ∧ Rule.reg m.b j ≤ 1000000) (hr : Rule.act n m.at_ ⟨2, (i : Nat), (j : Nat)⟩ (m.e sh) = .next { m.e sh with b := Rule.setr m.b i (Rule.clamp (Rule.reckon 2 (Rule.reg m.b i) (Rule.reg m.b j))) } (m.at_ + 1)) : Calls Try.prog 93 #[.pointer (some ⟨p, 0, none⟩), .agg #[.int .i64 (2), .int .i64 ((i : Nat)), .int .i64 ((j : Nat))]] w (DoPost B p w m (Rule.act n m.at_ ⟨2, (i : Nat), (j : Nat)⟩ (m.e sh))) := by
  have HR : Hid _ := hr
  clear hr
  generalize Rule.act n m.at_ ⟨2, (i : Nat), (j : Nat)⟩ (m.e sh) = RR at *
  have k1 := h.at0
  have k2 := h.at1
  have k3 := h.few
  have wn : IntKind.i64.wrap (m.at_ + 1) = m.at_ + 1 := IntWalk.i64_in _ (by omega)
  have c19 := h.mac.at_
  have H0 : Hid _ := h
  have O0 : Hid (OpBox (w.alloc (.cells #[.int .i64 (2), .int .i64 ((i : Nat)), .int .i64 ((j : Nat))] 23)) w.heap.size (2) ((i : Nat)) ((j : Nat))) := Three.new _ _ _ _ _
  have lp := h.mac.lt
  clear h
  go_enter Try.func93, Try.ntmps93
  go_wp2_with fail
  have H1 : Hid (St B p (w.alloc (.cells #[.int .i64 (2), .int .i64 ((i : Nat)), .int .i64 ((j : Nat))] 23)) m sh n ∧ Only [] w (w.alloc (.cells #[.int .i64 (2), .int .i64 ((i : Nat)), .int .i64 ((j : Nat))] 23)) ∧ OpBox (w.alloc (.cells #[.int .i64 (2), .int .i64 ((i : Nat)), .int .i64 ((j : Nat))] 23)) w.heap.size (2) ((i : Nat)) ((j : Nat))) := ⟨H0.out.only ((Only.refl _ _).alloc _), (Only.refl _ _).alloc _, O0.out⟩
  generalize w.alloc (.cells #[.int .i64 (2), .int .i64 ((i : Nat)), .int .i64 ((j : Nat))] 23) = W at *
  generalize w.heap.size = q at *
  clear H0 c19 O0
  have HV : Hid (∀ y, Only [] W.drew y → St B p y m sh n ∧ OpBox y q (2) ((i : Nat)) ((j : Nat))) := fun y hy => ⟨H1.out.1.only ((only_drew W).trans hy), Three.only H1.out.2.2 ((only_drew W).trans hy) (by simp)⟩
  refine wp_region_free 10 (Only []) (Only.refl _) Only.trans [(0, .pointer (some ⟨p, 0, none⟩)), (3, .pointer (some ⟨q, 0, none⟩))] (by intro p hp; simp only [List.mem_cons, List.not_mem_nil, or_false] at hp; rcases hp with rfl | rfl <;> rfl) (by kernel_rfl) (by kernel_rfl) (by decide) (by kernel_rfl) (by kernel_rfl) ?_
  simp only [List.take_succ_cons, List.take_zero, List.drop_succ_cons, List.drop_zero]
  apply rf_val
  · first | rfl | exact ⟨by kernel_rfl, rfl⟩
  · intro z y hT hf
    obtain ⟨b0, b1, b2⟩ := And.intro (Three.cell0 (HV.out y hT).2) (And.intro (Three.cell1 (HV.out y hT).2) (Three.cell2 (HV.out y hT).2))
    simp at hf
    go_simp
    try rfl
  apply rf_val
  · first | rfl | exact ⟨by kernel_rfl, rfl⟩
  · intro z y hT hf
    obtain ⟨b0, b1, b2⟩ := And.intro (Three.cell0 (HV.out y hT).2) (And.intro (Three.cell1 (HV.out y hT).2) (Three.cell2 (HV.out y hT).2))
    simp at hf
    go_simp
    try rfl
  apply rf_val
  · first | rfl | exact ⟨by kernel_rfl, rfl⟩
  · intro z y hT hf
    obtain ⟨b0, b1, b2⟩ := And.intro (Three.cell0 (HV.out y hT).2) (And.intro (Three.cell1 (HV.out y hT).2) (Three.cell2 (HV.out y hT).2))
    simp at hf
    go_simp
    try rfl
  refine rf_eff (fun _ v => v = .pointer (some ⟨p, 8 + i, none⟩)) (by first | rfl | exact ⟨by kernel_rfl, rfl⟩) (fun _ _ _ _ h => h) (fun z y hT hf => ?_) ?_
  · simp at hf
    go_simp
    refine (reg_yes (HV.out y hT).1.mac i hi).mono ?_
    rintro e y2 ⟨rfl, rfl⟩
    exact ⟨_, rfl, rfl, Only.refl _ _⟩
  apply rf_val
  · first | rfl | exact ⟨by kernel_rfl, rfl⟩
  · intro z y hT hf
    obtain ⟨b0, b1, b2⟩ := And.intro (Three.cell0 (HV.out y hT).2) (And.intro (Three.cell1 (HV.out y hT).2) (Three.cell2 (HV.out y hT).2))
    simp at hf
    go_simp
    try rfl
  apply rf_val
  · first | rfl | exact ⟨by kernel_rfl, rfl⟩
  · intro z y hT hf
    obtain ⟨b0, b1, b2⟩ := And.intro (Three.cell0 (HV.out y hT).2) (And.intro (Three.cell1 (HV.out y hT).2) (Three.cell2 (HV.out y hT).2))
    simp at hf
    go_simp
    try rfl
  apply rf_val
  · first | rfl | exact ⟨by kernel_rfl, rfl⟩
  · intro z y hT hf
    obtain ⟨b0, b1, b2⟩ := And.intro (Three.cell0 (HV.out y hT).2) (And.intro (Three.cell1 (HV.out y hT).2) (Three.cell2 (HV.out y hT).2))
    simp at hf
    go_simp
    try rfl
  refine rf_eff (fun _ v => v = .pointer (some ⟨p, 8 + j, none⟩)) (by first | rfl | exact ⟨by kernel_rfl, rfl⟩) (fun _ _ _ _ h => h) (fun z y hT hf => ?_) ?_
  · simp at hf
    go_simp
    refine (reg_yes (HV.out y hT).1.mac j hj).mono ?_
    rintro e y2 ⟨rfl, rfl⟩
    exact ⟨_, rfl, rfl, Only.refl _ _⟩
  apply rf_val
  · first | rfl | exact ⟨by kernel_rfl, rfl⟩
  · intro z y hT hf
    obtain ⟨b0, b1, b2⟩ := And.intro (Three.cell0 (HV.out y hT).2) (And.intro (Three.cell1 (HV.out y hT).2) (Three.cell2 (HV.out y hT).2))
    simp at hf
    go_simp
    try rfl
  apply rf_val
  · first | rfl | exact ⟨by kernel_rfl, rfl⟩
  · intro z y hT hf
    obtain ⟨b0, b1, b2⟩ := And.intro (Three.cell0 (HV.out y hT).2) (And.intro (Three.cell1 (HV.out y hT).2) (Three.cell2 (HV.out y hT).2))
    simp at hf
    go_simp
    try rfl
  intro w2 hy
  simp only [FinA, Sp.R, forall_eq]
  simp only [Act.put, List.setIfInBounds_toArray, List.set_cons_succ, List.set_cons_zero]
  have H2 : Hid (St B p w2 m sh n ∧ Only [] w w2 ∧ OpBox w2 q (2) ((i : Nat)) ((j : Nat))) := ⟨(HV.out w2 hy).1, H1.out.2.1.trans ((only_drew W).trans hy), (HV.out w2 hy).2⟩
  clear hy HV H1
  go_wp2_with fail
  have H1 : Hid _ := H2.out
  clear H2
  have HV : Hid (∀ y, Only [] w2.drew y → St B p y m sh n ∧ OpBox y q (2) ((i : Nat)) ((j : Nat))) := fun y hy => ⟨H1.out.1.only ((only_drew w2).trans hy), Three.only H1.out.2.2 ((only_drew w2).trans hy) (by simp)⟩
  refine wp_region_free 13 (Only []) (Only.refl _) Only.trans [(0, .pointer (some ⟨p, 0, none⟩)), (3, .pointer (some ⟨q, 0, none⟩)), (6, .pointer (some ⟨p, 8 + i, none⟩)), (7, .pointer (some ⟨p, 8 + j, none⟩))] (by intro p hp; simp only [List.mem_cons, List.not_mem_nil, or_false] at hp; rcases hp with rfl | rfl | rfl | rfl <;> rfl) (by kernel_rfl) (by kernel_rfl) (by decide) (by kernel_rfl) (by kernel_rfl) ?_
  simp only [List.take_succ_cons, List.take_zero, List.drop_succ_cons, List.drop_zero]
  apply rf_val
  · first | rfl | exact ⟨by kernel_rfl, rfl⟩
  · intro z y hT hf
    obtain ⟨b0, b1, b2⟩ := And.intro (Three.cell0 (HV.out y hT).2) (And.intro (Three.cell1 (HV.out y hT).2) (Three.cell2 (HV.out y hT).2))
    have cm0 := (HV.out y hT).1.mac.mem i hi
    have cm1 := (HV.out y hT).1.mac.mem j hj
    simp at hf
    go_simp
    try rfl
  apply rf_val
  · first | rfl | exact ⟨by kernel_rfl, rfl⟩
  · intro z y hT hf
    obtain ⟨b0, b1, b2⟩ := And.intro (Three.cell0 (HV.out y hT).2) (And.intro (Three.cell1 (HV.out y hT).2) (Three.cell2 (HV.out y hT).2))
    have cm0 := (HV.out y hT).1.mac.mem i hi
    have cm1 := (HV.out y hT).1.mac.mem j hj
    simp at hf
    go_simp
    try rfl
  apply rf_val
  · first | rfl | exact ⟨by kernel_rfl, rfl⟩
  · intro z y hT hf
    obtain ⟨b0, b1, b2⟩ := And.intro (Three.cell0 (HV.out y hT).2) (And.intro (Three.cell1 (HV.out y hT).2) (Three.cell2 (HV.out y hT).2))
    have cm0 := (HV.out y hT).1.mac.mem i hi
    have cm1 := (HV.out y hT).1.mac.mem j hj
    simp at hf
    go_simp
    try rfl
  apply rf_val
  · first | rfl | exact ⟨by kernel_rfl, rfl⟩
  · intro z y hT hf
    obtain ⟨b0, b1, b2⟩ := And.intro (Three.cell0 (HV.out y hT).2) (And.intro (Three.cell1 (HV.out y hT).2) (Three.cell2 (HV.out y hT).2))
    have cm0 := (HV.out y hT).1.mac.mem i hi
    have cm1 := (HV.out y hT).1.mac.mem j hj
    simp at hf
    go_simp
    try rfl
  apply rf_val
  · first | rfl | exact ⟨by kernel_rfl, rfl⟩
  · intro z y hT hf
    obtain ⟨b0, b1, b2⟩ := And.intro (Three.cell0 (HV.out y hT).2) (And.intro (Three.cell1 (HV.out y hT).2) (Three.cell2 (HV.out y hT).2))
    have cm0 := (HV.out y hT).1.mac.mem i hi
    have cm1 := (HV.out y hT).1.mac.mem j hj
    simp at hf
    go_simp
    try rfl
  apply rf_val
  · first | rfl | exact ⟨by kernel_rfl, rfl⟩
  · intro z y hT hf
    obtain ⟨b0, b1, b2⟩ := And.intro (Three.cell0 (HV.out y hT).2) (And.intro (Three.cell1 (HV.out y hT).2) (Three.cell2 (HV.out y hT).2))
    have cm0 := (HV.out y hT).1.mac.mem i hi
    have cm1 := (HV.out y hT).1.mac.mem j hj
    simp at hf
    go_simp
    try rfl
  apply rf_val
  · first | rfl | exact ⟨by kernel_rfl, rfl⟩
  · intro z y hT hf
    obtain ⟨b0, b1, b2⟩ := And.intro (Three.cell0 (HV.out y hT).2) (And.intro (Three.cell1 (HV.out y hT).2) (Three.cell2 (HV.out y hT).2))
    have cm0 := (HV.out y hT).1.mac.mem i hi
    have cm1 := (HV.out y hT).1.mac.mem j hj
    simp at hf
    go_simp
    try rfl
  apply rf_val
  · first | rfl | exact ⟨by kernel_rfl, rfl⟩
  · intro z y hT hf
    obtain ⟨b0, b1, b2⟩ := And.intro (Three.cell0 (HV.out y hT).2) (And.intro (Three.cell1 (HV.out y hT).2) (Three.cell2 (HV.out y hT).2))
    have cm0 := (HV.out y hT).1.mac.mem i hi
    have cm1 := (HV.out y hT).1.mac.mem j hj
    simp at hf
    go_simp
    try rfl
  apply rf_val
  · first | rfl | exact ⟨by kernel_rfl, rfl⟩
  · intro z y hT hf
    obtain ⟨b0, b1, b2⟩ := And.intro (Three.cell0 (HV.out y hT).2) (And.intro (Three.cell1 (HV.out y hT).2) (Three.cell2 (HV.out y hT).2))
    have cm0 := (HV.out y hT).1.mac.mem i hi
    have cm1 := (HV.out y hT).1.mac.mem j hj
    simp at hf
    go_simp
    try rfl
  apply rf_val
  · first | rfl | exact ⟨by kernel_rfl, rfl⟩
  · intro z y hT hf
    obtain ⟨b0, b1, b2⟩ := And.intro (Three.cell0 (HV.out y hT).2) (And.intro (Three.cell1 (HV.out y hT).2) (Three.cell2 (HV.out y hT).2))
    have cm0 := (HV.out y hT).1.mac.mem i hi
    have cm1 := (HV.out y hT).1.mac.mem j hj
    simp at hf
    go_simp
    try rfl
  refine rf_eff (fun _ v => v = .int .i64 (Rule.reckon 2 (Rule.reg m.b i) (Rule.reg m.b j))) (by first | rfl | exact ⟨by kernel_rfl, rfl⟩) (fun _ _ _ _ h => h) (fun z y hT hf => ?_) ?_
  · simp at hf
    go_simp
    refine (reckon_any (HV.out y hT).1.mac 2 _ _ (by omega) hx hy (by omega)).mono ?_
    rintro e y2 ⟨rfl, rfl⟩
    exact ⟨_, rfl, rfl, Only.refl _ _⟩
  refine rf_eff (fun _ v => v = .int .i64 (Rule.clamp (Rule.reckon 2 (Rule.reg m.b i) (Rule.reg m.b j)))) (by first | rfl | exact ⟨by kernel_rfl, rfl⟩) (fun _ _ _ _ h => h) (fun z y hT hf => ?_) ?_
  · simp at hf
    go_simp
    refine (asReg_any _ _).mono ?_
    rintro e y2 ⟨rfl, rfl⟩
    exact ⟨_, rfl, rfl, Only.refl _ _⟩
  apply rf_val
  · first | rfl | exact ⟨by kernel_rfl, rfl⟩
  · intro z y hT hf
    obtain ⟨b0, b1, b2⟩ := And.intro (Three.cell0 (HV.out y hT).2) (And.intro (Three.cell1 (HV.out y hT).2) (Three.cell2 (HV.out y hT).2))
    simp at hf
    go_simp
    try rfl
  intro w3 hw
  simp only [FinA, Sp.R, forall_eq]
  simp only [Act.put, List.setIfInBounds_toArray, List.set_cons_succ, List.set_cons_zero]
  have H2 : Hid (St B p w3 m sh n ∧ Only [] w w3 ∧ OpBox w3 q (2) ((i : Nat)) ((j : Nat))) := ⟨(HV.out w3 hw).1, H1.out.2.1.trans ((only_drew w2).trans hw), (HV.out w3 hw).2⟩
  clear hw HV H1
  have fz := H2.out.1.mac.frozen
  have cm := H2.out.1.mac.mem i hi
  go_wp2_with fail
  go_ret
  exact doPost_own HR.out rfl H2.out.1 H2.out.2.1 (H2.out.1.mac.setr i hi _) ((Only.refl _ _).setCell (by simp) _) rfl
set_option maxRecDepth 100000 in
set_option maxHeartbeats 1000000 in
theorem do_2a {B p n : Nat} {w : World} {m : Mch} {sh : List Bd} (h : St B p w m sh n) (a b : Int) (ha : Rule.is a = false) (hr : Rule.act n m.at_ ⟨2, a, b⟩ (m.e sh) = .fault 2) : Calls Try.prog 93 #[.pointer (some ⟨p, 0, none⟩), .agg #[.int .i64 (2), .int .i64 (a), .int .i64 (b)]] w (DoPost B p w m (Rule.act n m.at_ ⟨2, a, b⟩ (m.e sh))) := by
  have HR : Hid _ := hr
  clear hr
  generalize Rule.act n m.at_ ⟨2, a, b⟩ (m.e sh) = RR at *
  have k1 := h.at0
  have k2 := h.at1
  have k3 := h.few
  have wn : IntKind.i64.wrap (m.at_ + 1) = m.at_ + 1 := IntWalk.i64_in _ (by omega)
  have c19 := h.mac.at_
  have H0 : Hid _ := h
  have O0 : Hid (OpBox (w.alloc (.cells #[.int .i64 (2), .int .i64 (a), .int .i64 (b)] 23)) w.heap.size (2) (a) (b)) := Three.new _ _ _ _ _
  have lp := h.mac.lt
  clear h
  go_enter Try.func93, Try.ntmps93
  go_wp2_with fail
  have H1 : Hid (St B p (w.alloc (.cells #[.int .i64 (2), .int .i64 (a), .int .i64 (b)] 23)) m sh n ∧ Only [] w (w.alloc (.cells #[.int .i64 (2), .int .i64 (a), .int .i64 (b)] 23)) ∧ OpBox (w.alloc (.cells #[.int .i64 (2), .int .i64 (a), .int .i64 (b)] 23)) w.heap.size (2) (a) (b)) := ⟨H0.out.only ((Only.refl _ _).alloc _), (Only.refl _ _).alloc _, O0.out⟩
  generalize w.alloc (.cells #[.int .i64 (2), .int .i64 (a), .int .i64 (b)] 23) = W at *
  generalize w.heap.size = q at *
  clear H0 c19 O0
  have HV : Hid (∀ y, Only [] W.drew y → St B p y m sh n ∧ OpBox y q (2) (a) (b)) := fun y hy => ⟨H1.out.1.only ((only_drew W).trans hy), Three.only H1.out.2.2 ((only_drew W).trans hy) (by simp)⟩
  refine wp_region_fate (fun chain y => chain = [{ v := thrownV 2 m.at_, recovered := false }] ∧ Only [] w y) (by rintro chain a' y hd ⟨rfl, ho⟩; exact ⟨hd, doPost_fault HR.out rfl ho⟩) 10 (Only []) (Only.refl _) Only.trans [(0, .pointer (some ⟨p, 0, none⟩)), (3, .pointer (some ⟨q, 0, none⟩))] (by intro p hp; simp only [List.mem_cons, List.not_mem_nil, or_false] at hp; rcases hp with rfl | rfl <;> rfl) (by kernel_rfl) (by kernel_rfl) (by decide) (by kernel_rfl) (by kernel_rfl) ?_
  simp only [List.take_succ_cons, List.take_zero, List.drop_succ_cons, List.drop_zero]
  apply rd_val
  · first | rfl | exact ⟨by kernel_rfl, rfl⟩
  · intro z y hT hf
    obtain ⟨b0, b1, b2⟩ := And.intro (Three.cell0 (HV.out y hT).2) (And.intro (Three.cell1 (HV.out y hT).2) (Three.cell2 (HV.out y hT).2))
    simp at hf
    go_simp
    try rfl
  apply rd_val
  · first | rfl | exact ⟨by kernel_rfl, rfl⟩
  · intro z y hT hf
    obtain ⟨b0, b1, b2⟩ := And.intro (Three.cell0 (HV.out y hT).2) (And.intro (Three.cell1 (HV.out y hT).2) (Three.cell2 (HV.out y hT).2))
    simp at hf
    go_simp
    try rfl
  apply rd_val
  · first | rfl | exact ⟨by kernel_rfl, rfl⟩
  · intro z y hT hf
    obtain ⟨b0, b1, b2⟩ := And.intro (Three.cell0 (HV.out y hT).2) (And.intro (Three.cell1 (HV.out y hT).2) (Three.cell2 (HV.out y hT).2))
    simp at hf
    go_simp
    try rfl
  refine rd_die (by first | rfl | exact ⟨by kernel_rfl, rfl⟩) (fun z y hT hf => ?_) ?_
  · simp at hf
    go_simp
    refine (reg_no (HV.out y hT).1.mac a ha).mono ?_
    rintro e y2 ⟨rfl, rfl⟩
    exact ⟨_, rfl, rfl, H1.out.2.1.trans ((only_drew W).trans hT)⟩
  apply rd_val
  · first | rfl | exact ⟨by kernel_rfl, rfl⟩
  · intro z y hT hf
    obtain ⟨b0, b1, b2⟩ := And.intro (Three.cell0 (HV.out y hT).2) (And.intro (Three.cell1 (HV.out y hT).2) (Three.cell2 (HV.out y hT).2))
    simp at hf
    go_simp
    try rfl
  apply rd_val
  · first | rfl | exact ⟨by kernel_rfl, rfl⟩
  · intro z y hT hf
    obtain ⟨b0, b1, b2⟩ := And.intro (Three.cell0 (HV.out y hT).2) (And.intro (Three.cell1 (HV.out y hT).2) (Three.cell2 (HV.out y hT).2))
    simp at hf
    go_simp
    try rfl
  apply rd_val
  · first | rfl | exact ⟨by kernel_rfl, rfl⟩
  · intro z y hT hf
    obtain ⟨b0, b1, b2⟩ := And.intro (Three.cell0 (HV.out y hT).2) (And.intro (Three.cell1 (HV.out y hT).2) (Three.cell2 (HV.out y hT).2))
    simp at hf
    go_simp
    try rfl
  refine rd_not (by first | rfl | exact ⟨by kernel_rfl, rfl⟩) (fun z y hT hf => (by simp at hf)) ?_
  refine rd_not (by first | rfl | exact ⟨by kernel_rfl, rfl⟩) (fun z y hT hf => (by simp at hf)) ?_
  refine rd_not (by first | rfl | exact ⟨by kernel_rfl, rfl⟩) (fun z y hT hf => (by simp at hf)) ?_
  intro w2 hy
  simp only [FinA, Sp.R, forall_eq]
  first | exact False.elim | (intro v hv; exact hv.elim) | (intro v hv v2 hv2; exact hv2.elim) | (intro v hv; exact fun _ h => h.elim)
set_option maxRecDepth 100000 in
set_option maxHeartbeats 1000000 in
theorem do_2b {B p n : Nat} {w : World} {m : Mch} {sh : List Bd} (h : St B p w m sh n) (i : Nat) (b : Int) (hi : i < 4) (hb : Rule.is b = false) (hr : Rule.act n m.at_ ⟨2, (i : Nat), b⟩ (m.e sh) = .fault 2) : Calls Try.prog 93 #[.pointer (some ⟨p, 0, none⟩), .agg #[.int .i64 (2), .int .i64 ((i : Nat)), .int .i64 (b)]] w (DoPost B p w m (Rule.act n m.at_ ⟨2, (i : Nat), b⟩ (m.e sh))) := by
  have HR : Hid _ := hr
  clear hr
  generalize Rule.act n m.at_ ⟨2, (i : Nat), b⟩ (m.e sh) = RR at *
  have k1 := h.at0
  have k2 := h.at1
  have k3 := h.few
  have wn : IntKind.i64.wrap (m.at_ + 1) = m.at_ + 1 := IntWalk.i64_in _ (by omega)
  have c19 := h.mac.at_
  have H0 : Hid _ := h
  have O0 : Hid (OpBox (w.alloc (.cells #[.int .i64 (2), .int .i64 ((i : Nat)), .int .i64 (b)] 23)) w.heap.size (2) ((i : Nat)) (b)) := Three.new _ _ _ _ _
  have lp := h.mac.lt
  clear h
  go_enter Try.func93, Try.ntmps93
  go_wp2_with fail
  have H1 : Hid (St B p (w.alloc (.cells #[.int .i64 (2), .int .i64 ((i : Nat)), .int .i64 (b)] 23)) m sh n ∧ Only [] w (w.alloc (.cells #[.int .i64 (2), .int .i64 ((i : Nat)), .int .i64 (b)] 23)) ∧ OpBox (w.alloc (.cells #[.int .i64 (2), .int .i64 ((i : Nat)), .int .i64 (b)] 23)) w.heap.size (2) ((i : Nat)) (b)) := ⟨H0.out.only ((Only.refl _ _).alloc _), (Only.refl _ _).alloc _, O0.out⟩
  generalize w.alloc (.cells #[.int .i64 (2), .int .i64 ((i : Nat)), .int .i64 (b)] 23) = W at *
  generalize w.heap.size = q at *
  clear H0 c19 O0
  have HV : Hid (∀ y, Only [] W.drew y → St B p y m sh n ∧ OpBox y q (2) ((i : Nat)) (b)) := fun y hy => ⟨H1.out.1.only ((only_drew W).trans hy), Three.only H1.out.2.2 ((only_drew W).trans hy) (by simp)⟩
  refine wp_region_fate (fun chain y => chain = [{ v := thrownV 2 m.at_, recovered := false }] ∧ Only [] w y) (by rintro chain a' y hd ⟨rfl, ho⟩; exact ⟨hd, doPost_fault HR.out rfl ho⟩) 10 (Only []) (Only.refl _) Only.trans [(0, .pointer (some ⟨p, 0, none⟩)), (3, .pointer (some ⟨q, 0, none⟩))] (by intro p hp; simp only [List.mem_cons, List.not_mem_nil, or_false] at hp; rcases hp with rfl | rfl <;> rfl) (by kernel_rfl) (by kernel_rfl) (by decide) (by kernel_rfl) (by kernel_rfl) ?_
  simp only [List.take_succ_cons, List.take_zero, List.drop_succ_cons, List.drop_zero]
  apply rd_val
  · first | rfl | exact ⟨by kernel_rfl, rfl⟩
  · intro z y hT hf
    obtain ⟨b0, b1, b2⟩ := And.intro (Three.cell0 (HV.out y hT).2) (And.intro (Three.cell1 (HV.out y hT).2) (Three.cell2 (HV.out y hT).2))
    simp at hf
    go_simp
    try rfl
  apply rd_val
  · first | rfl | exact ⟨by kernel_rfl, rfl⟩
  · intro z y hT hf
    obtain ⟨b0, b1, b2⟩ := And.intro (Three.cell0 (HV.out y hT).2) (And.intro (Three.cell1 (HV.out y hT).2) (Three.cell2 (HV.out y hT).2))
    simp at hf
    go_simp
    try rfl
  apply rd_val
  · first | rfl | exact ⟨by kernel_rfl, rfl⟩
  · intro z y hT hf
    obtain ⟨b0, b1, b2⟩ := And.intro (Three.cell0 (HV.out y hT).2) (And.intro (Three.cell1 (HV.out y hT).2) (Three.cell2 (HV.out y hT).2))
    simp at hf
    go_simp
    try rfl
  refine rd_eff (fun _ v => v = .pointer (some ⟨p, 8 + i, none⟩)) (by first | rfl | exact ⟨by kernel_rfl, rfl⟩) (fun _ _ _ _ h => h) (fun z y hT hf => ?_) ?_
  · simp at hf
    go_simp
    refine (reg_yes (HV.out y hT).1.mac i hi).mono ?_
    rintro e y2 ⟨rfl, rfl⟩
    exact ⟨_, rfl, rfl, Only.refl _ _⟩
  apply rd_val
  · first | rfl | exact ⟨by kernel_rfl, rfl⟩
  · intro z y hT hf
    obtain ⟨b0, b1, b2⟩ := And.intro (Three.cell0 (HV.out y hT).2) (And.intro (Three.cell1 (HV.out y hT).2) (Three.cell2 (HV.out y hT).2))
    simp at hf
    go_simp
    try rfl
  apply rd_val
  · first | rfl | exact ⟨by kernel_rfl, rfl⟩
  · intro z y hT hf
    obtain ⟨b0, b1, b2⟩ := And.intro (Three.cell0 (HV.out y hT).2) (And.intro (Three.cell1 (HV.out y hT).2) (Three.cell2 (HV.out y hT).2))
    simp at hf
    go_simp
    try rfl
  apply rd_val
  · first | rfl | exact ⟨by kernel_rfl, rfl⟩
  · intro z y hT hf
    obtain ⟨b0, b1, b2⟩ := And.intro (Three.cell0 (HV.out y hT).2) (And.intro (Three.cell1 (HV.out y hT).2) (Three.cell2 (HV.out y hT).2))
    simp at hf
    go_simp
    try rfl
  refine rd_die (by first | rfl | exact ⟨by kernel_rfl, rfl⟩) (fun z y hT hf => ?_) ?_
  · simp at hf
    go_simp
    refine (reg_no (HV.out y hT).1.mac b hb).mono ?_
    rintro e y2 ⟨rfl, rfl⟩
    exact ⟨_, rfl, rfl, H1.out.2.1.trans ((only_drew W).trans hT)⟩
  refine rd_not (by first | rfl | exact ⟨by kernel_rfl, rfl⟩) (fun z y hT hf => (by simp at hf)) ?_
  refine rd_not (by first | rfl | exact ⟨by kernel_rfl, rfl⟩) (fun z y hT hf => (by simp at hf)) ?_
  intro w2 hy
  simp only [FinA, Sp.R, forall_eq]
  first | exact False.elim | (intro v hv; exact hv.elim) | (intro v hv v2 hv2; exact hv2.elim) | (intro v hv; exact fun _ h => h.elim)
set_option maxRecDepth 100000 in
set_option maxHeartbeats 1000000 in
theorem do_3y {B p n : Nat} {w : World} {m : Mch} {sh : List Bd} (h : St B p w m sh n) (i j : Nat) (hi : i < 4) (hj : j < 4) (hx : -1000000 ≤ Rule.reg m.b i ∧ Rule.reg m.b i ≤ 1000000) (hy : -1000000 ≤ Rule.reg m.b j ∧ Rule.reg m.b j ≤ 1000000) (hr : Rule.act n m.at_ ⟨3, (i : Nat), (j : Nat)⟩ (m.e sh) = .next { m.e sh with b := Rule.setr m.b i (Rule.clamp (Rule.reckon 3 (Rule.reg m.b i) (Rule.reg m.b j))) } (m.at_ + 1)) : Calls Try.prog 93 #[.pointer (some ⟨p, 0, none⟩), .agg #[.int .i64 (3), .int .i64 ((i : Nat)), .int .i64 ((j : Nat))]] w (DoPost B p w m (Rule.act n m.at_ ⟨3, (i : Nat), (j : Nat)⟩ (m.e sh))) := by
  have HR : Hid _ := hr
  clear hr
  generalize Rule.act n m.at_ ⟨3, (i : Nat), (j : Nat)⟩ (m.e sh) = RR at *
  have k1 := h.at0
  have k2 := h.at1
  have k3 := h.few
  have wn : IntKind.i64.wrap (m.at_ + 1) = m.at_ + 1 := IntWalk.i64_in _ (by omega)
  have c19 := h.mac.at_
  have H0 : Hid _ := h
  have O0 : Hid (OpBox (w.alloc (.cells #[.int .i64 (3), .int .i64 ((i : Nat)), .int .i64 ((j : Nat))] 23)) w.heap.size (3) ((i : Nat)) ((j : Nat))) := Three.new _ _ _ _ _
  have lp := h.mac.lt
  clear h
  go_enter Try.func93, Try.ntmps93
  go_wp2_with fail
  have H1 : Hid (St B p (w.alloc (.cells #[.int .i64 (3), .int .i64 ((i : Nat)), .int .i64 ((j : Nat))] 23)) m sh n ∧ Only [] w (w.alloc (.cells #[.int .i64 (3), .int .i64 ((i : Nat)), .int .i64 ((j : Nat))] 23)) ∧ OpBox (w.alloc (.cells #[.int .i64 (3), .int .i64 ((i : Nat)), .int .i64 ((j : Nat))] 23)) w.heap.size (3) ((i : Nat)) ((j : Nat))) := ⟨H0.out.only ((Only.refl _ _).alloc _), (Only.refl _ _).alloc _, O0.out⟩
  generalize w.alloc (.cells #[.int .i64 (3), .int .i64 ((i : Nat)), .int .i64 ((j : Nat))] 23) = W at *
  generalize w.heap.size = q at *
  clear H0 c19 O0
  have HV : Hid (∀ y, Only [] W.drew y → St B p y m sh n ∧ OpBox y q (3) ((i : Nat)) ((j : Nat))) := fun y hy => ⟨H1.out.1.only ((only_drew W).trans hy), Three.only H1.out.2.2 ((only_drew W).trans hy) (by simp)⟩
  refine wp_region_free 10 (Only []) (Only.refl _) Only.trans [(0, .pointer (some ⟨p, 0, none⟩)), (3, .pointer (some ⟨q, 0, none⟩))] (by intro p hp; simp only [List.mem_cons, List.not_mem_nil, or_false] at hp; rcases hp with rfl | rfl <;> rfl) (by kernel_rfl) (by kernel_rfl) (by decide) (by kernel_rfl) (by kernel_rfl) ?_
  simp only [List.take_succ_cons, List.take_zero, List.drop_succ_cons, List.drop_zero]
  apply rf_val
  · first | rfl | exact ⟨by kernel_rfl, rfl⟩
  · intro z y hT hf
    obtain ⟨b0, b1, b2⟩ := And.intro (Three.cell0 (HV.out y hT).2) (And.intro (Three.cell1 (HV.out y hT).2) (Three.cell2 (HV.out y hT).2))
    simp at hf
    go_simp
    try rfl
  apply rf_val
  · first | rfl | exact ⟨by kernel_rfl, rfl⟩
  · intro z y hT hf
    obtain ⟨b0, b1, b2⟩ := And.intro (Three.cell0 (HV.out y hT).2) (And.intro (Three.cell1 (HV.out y hT).2) (Three.cell2 (HV.out y hT).2))
    simp at hf
    go_simp
    try rfl
  apply rf_val
  · first | rfl | exact ⟨by kernel_rfl, rfl⟩
  · intro z y hT hf
    obtain ⟨b0, b1, b2⟩ := And.intro (Three.cell0 (HV.out y hT).2) (And.intro (Three.cell1 (HV.out y hT).2) (Three.cell2 (HV.out y hT).2))
    simp at hf
    go_simp
    try rfl
  refine rf_eff (fun _ v => v = .pointer (some ⟨p, 8 + i, none⟩)) (by first | rfl | exact ⟨by kernel_rfl, rfl⟩) (fun _ _ _ _ h => h) (fun z y hT hf => ?_) ?_
  · simp at hf
    go_simp
    refine (reg_yes (HV.out y hT).1.mac i hi).mono ?_
    rintro e y2 ⟨rfl, rfl⟩
    exact ⟨_, rfl, rfl, Only.refl _ _⟩
  apply rf_val
  · first | rfl | exact ⟨by kernel_rfl, rfl⟩
  · intro z y hT hf
    obtain ⟨b0, b1, b2⟩ := And.intro (Three.cell0 (HV.out y hT).2) (And.intro (Three.cell1 (HV.out y hT).2) (Three.cell2 (HV.out y hT).2))
    simp at hf
    go_simp
    try rfl
  apply rf_val
  · first | rfl | exact ⟨by kernel_rfl, rfl⟩
  · intro z y hT hf
    obtain ⟨b0, b1, b2⟩ := And.intro (Three.cell0 (HV.out y hT).2) (And.intro (Three.cell1 (HV.out y hT).2) (Three.cell2 (HV.out y hT).2))
    simp at hf
    go_simp
    try rfl
  apply rf_val
  · first | rfl | exact ⟨by kernel_rfl, rfl⟩
  · intro z y hT hf
    obtain ⟨b0, b1, b2⟩ := And.intro (Three.cell0 (HV.out y hT).2) (And.intro (Three.cell1 (HV.out y hT).2) (Three.cell2 (HV.out y hT).2))
    simp at hf
    go_simp
    try rfl
  refine rf_eff (fun _ v => v = .pointer (some ⟨p, 8 + j, none⟩)) (by first | rfl | exact ⟨by kernel_rfl, rfl⟩) (fun _ _ _ _ h => h) (fun z y hT hf => ?_) ?_
  · simp at hf
    go_simp
    refine (reg_yes (HV.out y hT).1.mac j hj).mono ?_
    rintro e y2 ⟨rfl, rfl⟩
    exact ⟨_, rfl, rfl, Only.refl _ _⟩
  apply rf_val
  · first | rfl | exact ⟨by kernel_rfl, rfl⟩
  · intro z y hT hf
    obtain ⟨b0, b1, b2⟩ := And.intro (Three.cell0 (HV.out y hT).2) (And.intro (Three.cell1 (HV.out y hT).2) (Three.cell2 (HV.out y hT).2))
    simp at hf
    go_simp
    try rfl
  apply rf_val
  · first | rfl | exact ⟨by kernel_rfl, rfl⟩
  · intro z y hT hf
    obtain ⟨b0, b1, b2⟩ := And.intro (Three.cell0 (HV.out y hT).2) (And.intro (Three.cell1 (HV.out y hT).2) (Three.cell2 (HV.out y hT).2))
    simp at hf
    go_simp
    try rfl
  intro w2 hy
  simp only [FinA, Sp.R, forall_eq]
  simp only [Act.put, List.setIfInBounds_toArray, List.set_cons_succ, List.set_cons_zero]
  have H2 : Hid (St B p w2 m sh n ∧ Only [] w w2 ∧ OpBox w2 q (3) ((i : Nat)) ((j : Nat))) := ⟨(HV.out w2 hy).1, H1.out.2.1.trans ((only_drew W).trans hy), (HV.out w2 hy).2⟩
  clear hy HV H1
  go_wp2_with fail
  have H1 : Hid _ := H2.out
  clear H2
  have HV : Hid (∀ y, Only [] w2.drew y → St B p y m sh n ∧ OpBox y q (3) ((i : Nat)) ((j : Nat))) := fun y hy => ⟨H1.out.1.only ((only_drew w2).trans hy), Three.only H1.out.2.2 ((only_drew w2).trans hy) (by simp)⟩
  refine wp_region_free 13 (Only []) (Only.refl _) Only.trans [(0, .pointer (some ⟨p, 0, none⟩)), (3, .pointer (some ⟨q, 0, none⟩)), (6, .pointer (some ⟨p, 8 + i, none⟩)), (7, .pointer (some ⟨p, 8 + j, none⟩))] (by intro p hp; simp only [List.mem_cons, List.not_mem_nil, or_false] at hp; rcases hp with rfl | rfl | rfl | rfl <;> rfl) (by kernel_rfl) (by kernel_rfl) (by decide) (by kernel_rfl) (by kernel_rfl) ?_
  simp only [List.take_succ_cons, List.take_zero, List.drop_succ_cons, List.drop_zero]
  apply rf_val
  · first | rfl | exact ⟨by kernel_rfl, rfl⟩
  · intro z y hT hf
    obtain ⟨b0, b1, b2⟩ := And.intro (Three.cell0 (HV.out y hT).2) (And.intro (Three.cell1 (HV.out y hT).2) (Three.cell2 (HV.out y hT).2))
    have cm0 := (HV.out y hT).1.mac.mem i hi
    have cm1 := (HV.out y hT).1.mac.mem j hj
    simp at hf
    go_simp
    try rfl
  apply rf_val
  · first | rfl | exact ⟨by kernel_rfl, rfl⟩
  · intro z y hT hf
    obtain ⟨b0, b1, b2⟩ := And.intro (Three.cell0 (HV.out y hT).2) (And.intro (Three.cell1 (HV.out y hT).2) (Three.cell2 (HV.out y hT).2))
    have cm0 := (HV.out y hT).1.mac.mem i hi
    have cm1 := (HV.out y hT).1.mac.mem j hj
    simp at hf
    go_simp
    try rfl
  apply rf_val
  · first | rfl | exact ⟨by kernel_rfl, rfl⟩
  · intro z y hT hf
    obtain ⟨b0, b1, b2⟩ := And.intro (Three.cell0 (HV.out y hT).2) (And.intro (Three.cell1 (HV.out y hT).2) (Three.cell2 (HV.out y hT).2))
    have cm0 := (HV.out y hT).1.mac.mem i hi
    have cm1 := (HV.out y hT).1.mac.mem j hj
    simp at hf
    go_simp
    try rfl
  apply rf_val
  · first | rfl | exact ⟨by kernel_rfl, rfl⟩
  · intro z y hT hf
    obtain ⟨b0, b1, b2⟩ := And.intro (Three.cell0 (HV.out y hT).2) (And.intro (Three.cell1 (HV.out y hT).2) (Three.cell2 (HV.out y hT).2))
    have cm0 := (HV.out y hT).1.mac.mem i hi
    have cm1 := (HV.out y hT).1.mac.mem j hj
    simp at hf
    go_simp
    try rfl
  apply rf_val
  · first | rfl | exact ⟨by kernel_rfl, rfl⟩
  · intro z y hT hf
    obtain ⟨b0, b1, b2⟩ := And.intro (Three.cell0 (HV.out y hT).2) (And.intro (Three.cell1 (HV.out y hT).2) (Three.cell2 (HV.out y hT).2))
    have cm0 := (HV.out y hT).1.mac.mem i hi
    have cm1 := (HV.out y hT).1.mac.mem j hj
    simp at hf
    go_simp
    try rfl
  apply rf_val
  · first | rfl | exact ⟨by kernel_rfl, rfl⟩
  · intro z y hT hf
    obtain ⟨b0, b1, b2⟩ := And.intro (Three.cell0 (HV.out y hT).2) (And.intro (Three.cell1 (HV.out y hT).2) (Three.cell2 (HV.out y hT).2))
    have cm0 := (HV.out y hT).1.mac.mem i hi
    have cm1 := (HV.out y hT).1.mac.mem j hj
    simp at hf
    go_simp
    try rfl
  apply rf_val
  · first | rfl | exact ⟨by kernel_rfl, rfl⟩
  · intro z y hT hf
    obtain ⟨b0, b1, b2⟩ := And.intro (Three.cell0 (HV.out y hT).2) (And.intro (Three.cell1 (HV.out y hT).2) (Three.cell2 (HV.out y hT).2))
    have cm0 := (HV.out y hT).1.mac.mem i hi
    have cm1 := (HV.out y hT).1.mac.mem j hj
    simp at hf
    go_simp
    try rfl
  apply rf_val
  · first | rfl | exact ⟨by kernel_rfl, rfl⟩
  · intro z y hT hf
    obtain ⟨b0, b1, b2⟩ := And.intro (Three.cell0 (HV.out y hT).2) (And.intro (Three.cell1 (HV.out y hT).2) (Three.cell2 (HV.out y hT).2))
    have cm0 := (HV.out y hT).1.mac.mem i hi
    have cm1 := (HV.out y hT).1.mac.mem j hj
    simp at hf
    go_simp
    try rfl
  apply rf_val
  · first | rfl | exact ⟨by kernel_rfl, rfl⟩
  · intro z y hT hf
    obtain ⟨b0, b1, b2⟩ := And.intro (Three.cell0 (HV.out y hT).2) (And.intro (Three.cell1 (HV.out y hT).2) (Three.cell2 (HV.out y hT).2))
    have cm0 := (HV.out y hT).1.mac.mem i hi
    have cm1 := (HV.out y hT).1.mac.mem j hj
    simp at hf
    go_simp
    try rfl
  apply rf_val
  · first | rfl | exact ⟨by kernel_rfl, rfl⟩
  · intro z y hT hf
    obtain ⟨b0, b1, b2⟩ := And.intro (Three.cell0 (HV.out y hT).2) (And.intro (Three.cell1 (HV.out y hT).2) (Three.cell2 (HV.out y hT).2))
    have cm0 := (HV.out y hT).1.mac.mem i hi
    have cm1 := (HV.out y hT).1.mac.mem j hj
    simp at hf
    go_simp
    try rfl
  refine rf_eff (fun _ v => v = .int .i64 (Rule.reckon 3 (Rule.reg m.b i) (Rule.reg m.b j))) (by first | rfl | exact ⟨by kernel_rfl, rfl⟩) (fun _ _ _ _ h => h) (fun z y hT hf => ?_) ?_
  · simp at hf
    go_simp
    refine (reckon_any (HV.out y hT).1.mac 3 _ _ (by omega) hx hy (by omega)).mono ?_
    rintro e y2 ⟨rfl, rfl⟩
    exact ⟨_, rfl, rfl, Only.refl _ _⟩
  refine rf_eff (fun _ v => v = .int .i64 (Rule.clamp (Rule.reckon 3 (Rule.reg m.b i) (Rule.reg m.b j)))) (by first | rfl | exact ⟨by kernel_rfl, rfl⟩) (fun _ _ _ _ h => h) (fun z y hT hf => ?_) ?_
  · simp at hf
    go_simp
    refine (asReg_any _ _).mono ?_
    rintro e y2 ⟨rfl, rfl⟩
    exact ⟨_, rfl, rfl, Only.refl _ _⟩
  apply rf_val
  · first | rfl | exact ⟨by kernel_rfl, rfl⟩
  · intro z y hT hf
    obtain ⟨b0, b1, b2⟩ := And.intro (Three.cell0 (HV.out y hT).2) (And.intro (Three.cell1 (HV.out y hT).2) (Three.cell2 (HV.out y hT).2))
    simp at hf
    go_simp
    try rfl
  intro w3 hw
  simp only [FinA, Sp.R, forall_eq]
  simp only [Act.put, List.setIfInBounds_toArray, List.set_cons_succ, List.set_cons_zero]
  have H2 : Hid (St B p w3 m sh n ∧ Only [] w w3 ∧ OpBox w3 q (3) ((i : Nat)) ((j : Nat))) := ⟨(HV.out w3 hw).1, H1.out.2.1.trans ((only_drew w2).trans hw), (HV.out w3 hw).2⟩
  clear hw HV H1
  have fz := H2.out.1.mac.frozen
  have cm := H2.out.1.mac.mem i hi
  go_wp2_with fail
  go_ret
  exact doPost_own HR.out rfl H2.out.1 H2.out.2.1 (H2.out.1.mac.setr i hi _) ((Only.refl _ _).setCell (by simp) _) rfl
set_option maxRecDepth 100000 in
set_option maxHeartbeats 1000000 in
theorem do_3a {B p n : Nat} {w : World} {m : Mch} {sh : List Bd} (h : St B p w m sh n) (a b : Int) (ha : Rule.is a = false) (hr : Rule.act n m.at_ ⟨3, a, b⟩ (m.e sh) = .fault 2) : Calls Try.prog 93 #[.pointer (some ⟨p, 0, none⟩), .agg #[.int .i64 (3), .int .i64 (a), .int .i64 (b)]] w (DoPost B p w m (Rule.act n m.at_ ⟨3, a, b⟩ (m.e sh))) := by
  have HR : Hid _ := hr
  clear hr
  generalize Rule.act n m.at_ ⟨3, a, b⟩ (m.e sh) = RR at *
  have k1 := h.at0
  have k2 := h.at1
  have k3 := h.few
  have wn : IntKind.i64.wrap (m.at_ + 1) = m.at_ + 1 := IntWalk.i64_in _ (by omega)
  have c19 := h.mac.at_
  have H0 : Hid _ := h
  have O0 : Hid (OpBox (w.alloc (.cells #[.int .i64 (3), .int .i64 (a), .int .i64 (b)] 23)) w.heap.size (3) (a) (b)) := Three.new _ _ _ _ _
  have lp := h.mac.lt
  clear h
  go_enter Try.func93, Try.ntmps93
  go_wp2_with fail
  have H1 : Hid (St B p (w.alloc (.cells #[.int .i64 (3), .int .i64 (a), .int .i64 (b)] 23)) m sh n ∧ Only [] w (w.alloc (.cells #[.int .i64 (3), .int .i64 (a), .int .i64 (b)] 23)) ∧ OpBox (w.alloc (.cells #[.int .i64 (3), .int .i64 (a), .int .i64 (b)] 23)) w.heap.size (3) (a) (b)) := ⟨H0.out.only ((Only.refl _ _).alloc _), (Only.refl _ _).alloc _, O0.out⟩
  generalize w.alloc (.cells #[.int .i64 (3), .int .i64 (a), .int .i64 (b)] 23) = W at *
  generalize w.heap.size = q at *
  clear H0 c19 O0
  have HV : Hid (∀ y, Only [] W.drew y → St B p y m sh n ∧ OpBox y q (3) (a) (b)) := fun y hy => ⟨H1.out.1.only ((only_drew W).trans hy), Three.only H1.out.2.2 ((only_drew W).trans hy) (by simp)⟩
  refine wp_region_fate (fun chain y => chain = [{ v := thrownV 2 m.at_, recovered := false }] ∧ Only [] w y) (by rintro chain a' y hd ⟨rfl, ho⟩; exact ⟨hd, doPost_fault HR.out rfl ho⟩) 10 (Only []) (Only.refl _) Only.trans [(0, .pointer (some ⟨p, 0, none⟩)), (3, .pointer (some ⟨q, 0, none⟩))] (by intro p hp; simp only [List.mem_cons, List.not_mem_nil, or_false] at hp; rcases hp with rfl | rfl <;> rfl) (by kernel_rfl) (by kernel_rfl) (by decide) (by kernel_rfl) (by kernel_rfl) ?_
  simp only [List.take_succ_cons, List.take_zero, List.drop_succ_cons, List.drop_zero]
  apply rd_val
  · first | rfl | exact ⟨by kernel_rfl, rfl⟩
  · intro z y hT hf
    obtain ⟨b0, b1, b2⟩ := And.intro (Three.cell0 (HV.out y hT).2) (And.intro (Three.cell1 (HV.out y hT).2) (Three.cell2 (HV.out y hT).2))
    simp at hf
    go_simp
    try rfl
  apply rd_val
  · first | rfl | exact ⟨by kernel_rfl, rfl⟩
  · intro z y hT hf
    obtain ⟨b0, b1, b2⟩ := And.intro (Three.cell0 (HV.out y hT).2) (And.intro (Three.cell1 (HV.out y hT).2) (Three.cell2 (HV.out y hT).2))
    simp at hf
    go_simp
    try rfl
  apply rd_val
  · first | rfl | exact ⟨by kernel_rfl, rfl⟩
  · intro z y hT hf
    obtain ⟨b0, b1, b2⟩ := And.intro (Three.cell0 (HV.out y hT).2) (And.intro (Three.cell1 (HV.out y hT).2) (Three.cell2 (HV.out y hT).2))
    simp at hf
    go_simp
    try rfl
  refine rd_die (by first | rfl | exact ⟨by kernel_rfl, rfl⟩) (fun z y hT hf => ?_) ?_
  · simp at hf
    go_simp
    refine (reg_no (HV.out y hT).1.mac a ha).mono ?_
    rintro e y2 ⟨rfl, rfl⟩
    exact ⟨_, rfl, rfl, H1.out.2.1.trans ((only_drew W).trans hT)⟩
  apply rd_val
  · first | rfl | exact ⟨by kernel_rfl, rfl⟩
  · intro z y hT hf
    obtain ⟨b0, b1, b2⟩ := And.intro (Three.cell0 (HV.out y hT).2) (And.intro (Three.cell1 (HV.out y hT).2) (Three.cell2 (HV.out y hT).2))
    simp at hf
    go_simp
    try rfl
  apply rd_val
  · first | rfl | exact ⟨by kernel_rfl, rfl⟩
  · intro z y hT hf
    obtain ⟨b0, b1, b2⟩ := And.intro (Three.cell0 (HV.out y hT).2) (And.intro (Three.cell1 (HV.out y hT).2) (Three.cell2 (HV.out y hT).2))
    simp at hf
    go_simp
    try rfl
  apply rd_val
  · first | rfl | exact ⟨by kernel_rfl, rfl⟩
  · intro z y hT hf
    obtain ⟨b0, b1, b2⟩ := And.intro (Three.cell0 (HV.out y hT).2) (And.intro (Three.cell1 (HV.out y hT).2) (Three.cell2 (HV.out y hT).2))
    simp at hf
    go_simp
    try rfl
  refine rd_not (by first | rfl | exact ⟨by kernel_rfl, rfl⟩) (fun z y hT hf => (by simp at hf)) ?_
  refine rd_not (by first | rfl | exact ⟨by kernel_rfl, rfl⟩) (fun z y hT hf => (by simp at hf)) ?_
  refine rd_not (by first | rfl | exact ⟨by kernel_rfl, rfl⟩) (fun z y hT hf => (by simp at hf)) ?_
  intro w2 hy
  simp only [FinA, Sp.R, forall_eq]
  first | exact False.elim | (intro v hv; exact hv.elim) | (intro v hv v2 hv2; exact hv2.elim) | (intro v hv; exact fun _ h => h.elim)
set_option maxRecDepth 100000 in
set_option maxHeartbeats 1000000 in
theorem do_3b {B p n : Nat} {w : World} {m : Mch} {sh : List Bd} (h : St B p w m sh n) (i : Nat) (b : Int) (hi : i < 4) (hb : Rule.is b = false) (hr : Rule.act n m.at_ ⟨3, (i : Nat), b⟩ (m.e sh) = .fault 2) : Calls Try.prog 93 #[.pointer (some ⟨p, 0, none⟩), .agg #[.int .i64 (3), .int .i64 ((i : Nat)), .int .i64 (b)]] w (DoPost B p w m (Rule.act n m.at_ ⟨3, (i : Nat), b⟩ (m.e sh))) := by
  have HR : Hid _ := hr
  clear hr
  generalize Rule.act n m.at_ ⟨3, (i : Nat), b⟩ (m.e sh) = RR at *
  have k1 := h.at0
  have k2 := h.at1
  have k3 := h.few
  have wn : IntKind.i64.wrap (m.at_ + 1) = m.at_ + 1 := IntWalk.i64_in _ (by omega)
  have c19 := h.mac.at_
  have H0 : Hid _ := h
  have O0 : Hid (OpBox (w.alloc (.cells #[.int .i64 (3), .int .i64 ((i : Nat)), .int .i64 (b)] 23)) w.heap.size (3) ((i : Nat)) (b)) := Three.new _ _ _ _ _
  have lp := h.mac.lt
  clear h
  go_enter Try.func93, Try.ntmps93
  go_wp2_with fail
  have H1 : Hid (St B p (w.alloc (.cells #[.int .i64 (3), .int .i64 ((i : Nat)), .int .i64 (b)] 23)) m sh n ∧ Only [] w (w.alloc (.cells #[.int .i64 (3), .int .i64 ((i : Nat)), .int .i64 (b)] 23)) ∧ OpBox (w.alloc (.cells #[.int .i64 (3), .int .i64 ((i : Nat)), .int .i64 (b)] 23)) w.heap.size (3) ((i : Nat)) (b)) := ⟨H0.out.only ((Only.refl _ _).alloc _), (Only.refl _ _).alloc _, O0.out⟩
  generalize w.alloc (.cells #[.int .i64 (3), .int .i64 ((i : Nat)), .int .i64 (b)] 23) = W at *
  generalize w.heap.size = q at *
  clear H0 c19 O0
  have HV : Hid (∀ y, Only [] W.drew y → St B p y m sh n ∧ OpBox y q (3) ((i : Nat)) (b)) := fun y hy => ⟨H1.out.1.only ((only_drew W).trans hy), Three.only H1.out.2.2 ((only_drew W).trans hy) (by simp)⟩
  refine wp_region_fate (fun chain y => chain = [{ v := thrownV 2 m.at_, recovered := false }] ∧ Only [] w y) (by rintro chain a' y hd ⟨rfl, ho⟩; exact ⟨hd, doPost_fault HR.out rfl ho⟩) 10 (Only []) (Only.refl _) Only.trans [(0, .pointer (some ⟨p, 0, none⟩)), (3, .pointer (some ⟨q, 0, none⟩))] (by intro p hp; simp only [List.mem_cons, List.not_mem_nil, or_false] at hp; rcases hp with rfl | rfl <;> rfl) (by kernel_rfl) (by kernel_rfl) (by decide) (by kernel_rfl) (by kernel_rfl) ?_
  simp only [List.take_succ_cons, List.take_zero, List.drop_succ_cons, List.drop_zero]
  apply rd_val
  · first | rfl | exact ⟨by kernel_rfl, rfl⟩
  · intro z y hT hf
    obtain ⟨b0, b1, b2⟩ := And.intro (Three.cell0 (HV.out y hT).2) (And.intro (Three.cell1 (HV.out y hT).2) (Three.cell2 (HV.out y hT).2))
    simp at hf
    go_simp
    try rfl
  apply rd_val
  · first | rfl | exact ⟨by kernel_rfl, rfl⟩
  · intro z y hT hf
    obtain ⟨b0, b1, b2⟩ := And.intro (Three.cell0 (HV.out y hT).2) (And.intro (Three.cell1 (HV.out y hT).2) (Three.cell2 (HV.out y hT).2))
    simp at hf
    go_simp
    try rfl
  apply rd_val
  · first | rfl | exact ⟨by kernel_rfl, rfl⟩
  · intro z y hT hf
    obtain ⟨b0, b1, b2⟩ := And.intro (Three.cell0 (HV.out y hT).2) (And.intro (Three.cell1 (HV.out y hT).2) (Three.cell2 (HV.out y hT).2))
    simp at hf
    go_simp
    try rfl
  refine rd_eff (fun _ v => v = .pointer (some ⟨p, 8 + i, none⟩)) (by first | rfl | exact ⟨by kernel_rfl, rfl⟩) (fun _ _ _ _ h => h) (fun z y hT hf => ?_) ?_
  · simp at hf
    go_simp
    refine (reg_yes (HV.out y hT).1.mac i hi).mono ?_
    rintro e y2 ⟨rfl, rfl⟩
    exact ⟨_, rfl, rfl, Only.refl _ _⟩
  apply rd_val
  · first | rfl | exact ⟨by kernel_rfl, rfl⟩
  · intro z y hT hf
    obtain ⟨b0, b1, b2⟩ := And.intro (Three.cell0 (HV.out y hT).2) (And.intro (Three.cell1 (HV.out y hT).2) (Three.cell2 (HV.out y hT).2))
    simp at hf
    go_simp
    try rfl
  apply rd_val
  · first | rfl | exact ⟨by kernel_rfl, rfl⟩
  · intro z y hT hf
    obtain ⟨b0, b1, b2⟩ := And.intro (Three.cell0 (HV.out y hT).2) (And.intro (Three.cell1 (HV.out y hT).2) (Three.cell2 (HV.out y hT).2))
    simp at hf
    go_simp
    try rfl
  apply rd_val
  · first | rfl | exact ⟨by kernel_rfl, rfl⟩
  · intro z y hT hf
    obtain ⟨b0, b1, b2⟩ := And.intro (Three.cell0 (HV.out y hT).2) (And.intro (Three.cell1 (HV.out y hT).2) (Three.cell2 (HV.out y hT).2))
    simp at hf
    go_simp
    try rfl
  refine rd_die (by first | rfl | exact ⟨by kernel_rfl, rfl⟩) (fun z y hT hf => ?_) ?_
  · simp at hf
    go_simp
    refine (reg_no (HV.out y hT).1.mac b hb).mono ?_
    rintro e y2 ⟨rfl, rfl⟩
    exact ⟨_, rfl, rfl, H1.out.2.1.trans ((only_drew W).trans hT)⟩
  refine rd_not (by first | rfl | exact ⟨by kernel_rfl, rfl⟩) (fun z y hT hf => (by simp at hf)) ?_
  refine rd_not (by first | rfl | exact ⟨by kernel_rfl, rfl⟩) (fun z y hT hf => (by simp at hf)) ?_
  intro w2 hy
  simp only [FinA, Sp.R, forall_eq]
  first | exact False.elim | (intro v hv; exact hv.elim) | (intro v hv v2 hv2; exact hv2.elim) | (intro v hv; exact fun _ h => h.elim)
set_option maxRecDepth 100000 in
set_option maxHeartbeats 1000000 in
theorem do_4y {B p n : Nat} {w : World} {m : Mch} {sh : List Bd} (h : St B p w m sh n) (i j : Nat) (hi : i < 4) (hj : j < 4) (hx : -1000000 ≤ Rule.reg m.b i ∧ Rule.reg m.b i ≤ 1000000) (hy : -1000000 ≤ Rule.reg m.b j ∧ Rule.reg m.b j ≤ 1000000) (hr : Rule.act n m.at_ ⟨4, (i : Nat), (j : Nat)⟩ (m.e sh) = .next { m.e sh with b := Rule.setr m.b i (Rule.clamp (Rule.reckon 4 (Rule.reg m.b i) (Rule.reg m.b j))) } (m.at_ + 1)) : Calls Try.prog 93 #[.pointer (some ⟨p, 0, none⟩), .agg #[.int .i64 (4), .int .i64 ((i : Nat)), .int .i64 ((j : Nat))]] w (DoPost B p w m (Rule.act n m.at_ ⟨4, (i : Nat), (j : Nat)⟩ (m.e sh))) := by
  have HR : Hid _ := hr
  clear hr
  generalize Rule.act n m.at_ ⟨4, (i : Nat), (j : Nat)⟩ (m.e sh) = RR at *
  have k1 := h.at0
  have k2 := h.at1
  have k3 := h.few
  have wn : IntKind.i64.wrap (m.at_ + 1) = m.at_ + 1 := IntWalk.i64_in _ (by omega)
  have c19 := h.mac.at_
  have H0 : Hid _ := h
  have O0 : Hid (OpBox (w.alloc (.cells #[.int .i64 (4), .int .i64 ((i : Nat)), .int .i64 ((j : Nat))] 23)) w.heap.size (4) ((i : Nat)) ((j : Nat))) := Three.new _ _ _ _ _
  have lp := h.mac.lt
  clear h
  go_enter Try.func93, Try.ntmps93
  go_wp2_with fail
  have H1 : Hid (St B p (w.alloc (.cells #[.int .i64 (4), .int .i64 ((i : Nat)), .int .i64 ((j : Nat))] 23)) m sh n ∧ Only [] w (w.alloc (.cells #[.int .i64 (4), .int .i64 ((i : Nat)), .int .i64 ((j : Nat))] 23)) ∧ OpBox (w.alloc (.cells #[.int .i64 (4), .int .i64 ((i : Nat)), .int .i64 ((j : Nat))] 23)) w.heap.size (4) ((i : Nat)) ((j : Nat))) := ⟨H0.out.only ((Only.refl _ _).alloc _), (Only.refl _ _).alloc _, O0.out⟩
  generalize w.alloc (.cells #[.int .i64 (4), .int .i64 ((i : Nat)), .int .i64 ((j : Nat))] 23) = W at *
  generalize w.heap.size = q at *
  clear H0 c19 O0
  have HV : Hid (∀ y, Only [] W.drew y → St B p y m sh n ∧ OpBox y q (4) ((i : Nat)) ((j : Nat))) := fun y hy => ⟨H1.out.1.only ((only_drew W).trans hy), Three.only H1.out.2.2 ((only_drew W).trans hy) (by simp)⟩
  refine wp_region_free 10 (Only []) (Only.refl _) Only.trans [(0, .pointer (some ⟨p, 0, none⟩)), (3, .pointer (some ⟨q, 0, none⟩))] (by intro p hp; simp only [List.mem_cons, List.not_mem_nil, or_false] at hp; rcases hp with rfl | rfl <;> rfl) (by kernel_rfl) (by kernel_rfl) (by decide) (by kernel_rfl) (by kernel_rfl) ?_
  simp only [List.take_succ_cons, List.take_zero, List.drop_succ_cons, List.drop_zero]
  apply rf_val
  · first | rfl | exact ⟨by kernel_rfl, rfl⟩
  · intro z y hT hf
    obtain ⟨b0, b1, b2⟩ := And.intro (Three.cell0 (HV.out y hT).2) (And.intro (Three.cell1 (HV.out y hT).2) (Three.cell2 (HV.out y hT).2))
    simp at hf
    go_simp
    try rfl
  apply rf_val
  · first | rfl | exact ⟨by kernel_rfl, rfl⟩
  · intro z y hT hf
    obtain ⟨b0, b1, b2⟩ := And.intro (Three.cell0 (HV.out y hT).2) (And.intro (Three.cell1 (HV.out y hT).2) (Three.cell2 (HV.out y hT).2))
    simp at hf
    go_simp
    try rfl
  apply rf_val
  · first | rfl | exact ⟨by kernel_rfl, rfl⟩
  · intro z y hT hf
    obtain ⟨b0, b1, b2⟩ := And.intro (Three.cell0 (HV.out y hT).2) (And.intro (Three.cell1 (HV.out y hT).2) (Three.cell2 (HV.out y hT).2))
    simp at hf
    go_simp
    try rfl
  refine rf_eff (fun _ v => v = .pointer (some ⟨p, 8 + i, none⟩)) (by first | rfl | exact ⟨by kernel_rfl, rfl⟩) (fun _ _ _ _ h => h) (fun z y hT hf => ?_) ?_
  · simp at hf
    go_simp
    refine (reg_yes (HV.out y hT).1.mac i hi).mono ?_
    rintro e y2 ⟨rfl, rfl⟩
    exact ⟨_, rfl, rfl, Only.refl _ _⟩
  apply rf_val
  · first | rfl | exact ⟨by kernel_rfl, rfl⟩
  · intro z y hT hf
    obtain ⟨b0, b1, b2⟩ := And.intro (Three.cell0 (HV.out y hT).2) (And.intro (Three.cell1 (HV.out y hT).2) (Three.cell2 (HV.out y hT).2))
    simp at hf
    go_simp
    try rfl
  apply rf_val
  · first | rfl | exact ⟨by kernel_rfl, rfl⟩
  · intro z y hT hf
    obtain ⟨b0, b1, b2⟩ := And.intro (Three.cell0 (HV.out y hT).2) (And.intro (Three.cell1 (HV.out y hT).2) (Three.cell2 (HV.out y hT).2))
    simp at hf
    go_simp
    try rfl
  apply rf_val
  · first | rfl | exact ⟨by kernel_rfl, rfl⟩
  · intro z y hT hf
    obtain ⟨b0, b1, b2⟩ := And.intro (Three.cell0 (HV.out y hT).2) (And.intro (Three.cell1 (HV.out y hT).2) (Three.cell2 (HV.out y hT).2))
    simp at hf
    go_simp
    try rfl
  refine rf_eff (fun _ v => v = .pointer (some ⟨p, 8 + j, none⟩)) (by first | rfl | exact ⟨by kernel_rfl, rfl⟩) (fun _ _ _ _ h => h) (fun z y hT hf => ?_) ?_
  · simp at hf
    go_simp
    refine (reg_yes (HV.out y hT).1.mac j hj).mono ?_
    rintro e y2 ⟨rfl, rfl⟩
    exact ⟨_, rfl, rfl, Only.refl _ _⟩
  apply rf_val
  · first | rfl | exact ⟨by kernel_rfl, rfl⟩
  · intro z y hT hf
    obtain ⟨b0, b1, b2⟩ := And.intro (Three.cell0 (HV.out y hT).2) (And.intro (Three.cell1 (HV.out y hT).2) (Three.cell2 (HV.out y hT).2))
    simp at hf
    go_simp
    try rfl
  apply rf_val
  · first | rfl | exact ⟨by kernel_rfl, rfl⟩
  · intro z y hT hf
    obtain ⟨b0, b1, b2⟩ := And.intro (Three.cell0 (HV.out y hT).2) (And.intro (Three.cell1 (HV.out y hT).2) (Three.cell2 (HV.out y hT).2))
    simp at hf
    go_simp
    try rfl
  intro w2 hy
  simp only [FinA, Sp.R, forall_eq]
  simp only [Act.put, List.setIfInBounds_toArray, List.set_cons_succ, List.set_cons_zero]
  have H2 : Hid (St B p w2 m sh n ∧ Only [] w w2 ∧ OpBox w2 q (4) ((i : Nat)) ((j : Nat))) := ⟨(HV.out w2 hy).1, H1.out.2.1.trans ((only_drew W).trans hy), (HV.out w2 hy).2⟩
  clear hy HV H1
  go_wp2_with fail
  have H1 : Hid _ := H2.out
  clear H2
  have HV : Hid (∀ y, Only [] w2.drew y → St B p y m sh n ∧ OpBox y q (4) ((i : Nat)) ((j : Nat))) := fun y hy => ⟨H1.out.1.only ((only_drew w2).trans hy), Three.only H1.out.2.2 ((only_drew w2).trans hy) (by simp)⟩
  refine wp_region_free 13 (Only []) (Only.refl _) Only.trans [(0, .pointer (some ⟨p, 0, none⟩)), (3, .pointer (some ⟨q, 0, none⟩)), (6, .pointer (some ⟨p, 8 + i, none⟩)), (7, .pointer (some ⟨p, 8 + j, none⟩))] (by intro p hp; simp only [List.mem_cons, List.not_mem_nil, or_false] at hp; rcases hp with rfl | rfl | rfl | rfl <;> rfl) (by kernel_rfl) (by kernel_rfl) (by decide) (by kernel_rfl) (by kernel_rfl) ?_
  simp only [List.take_succ_cons, List.take_zero, List.drop_succ_cons, List.drop_zero]
  apply rf_val
  · first | rfl | exact ⟨by kernel_rfl, rfl⟩
  · intro z y hT hf
    obtain ⟨b0, b1, b2⟩ := And.intro (Three.cell0 (HV.out y hT).2) (And.intro (Three.cell1 (HV.out y hT).2) (Three.cell2 (HV.out y hT).2))
    have cm0 := (HV.out y hT).1.mac.mem i hi
    have cm1 := (HV.out y hT).1.mac.mem j hj
    simp at hf
    go_simp
    try rfl
  apply rf_val
  · first | rfl | exact ⟨by kernel_rfl, rfl⟩
  · intro z y hT hf
    obtain ⟨b0, b1, b2⟩ := And.intro (Three.cell0 (HV.out y hT).2) (And.intro (Three.cell1 (HV.out y hT).2) (Three.cell2 (HV.out y hT).2))
    have cm0 := (HV.out y hT).1.mac.mem i hi
    have cm1 := (HV.out y hT).1.mac.mem j hj
    simp at hf
    go_simp
    try rfl
  apply rf_val
  · first | rfl | exact ⟨by kernel_rfl, rfl⟩
  · intro z y hT hf
    obtain ⟨b0, b1, b2⟩ := And.intro (Three.cell0 (HV.out y hT).2) (And.intro (Three.cell1 (HV.out y hT).2) (Three.cell2 (HV.out y hT).2))
    have cm0 := (HV.out y hT).1.mac.mem i hi
    have cm1 := (HV.out y hT).1.mac.mem j hj
    simp at hf
    go_simp
    try rfl
  apply rf_val
  · first | rfl | exact ⟨by kernel_rfl, rfl⟩
  · intro z y hT hf
    obtain ⟨b0, b1, b2⟩ := And.intro (Three.cell0 (HV.out y hT).2) (And.intro (Three.cell1 (HV.out y hT).2) (Three.cell2 (HV.out y hT).2))
    have cm0 := (HV.out y hT).1.mac.mem i hi
    have cm1 := (HV.out y hT).1.mac.mem j hj
    simp at hf
    go_simp
    try rfl
  apply rf_val
  · first | rfl | exact ⟨by kernel_rfl, rfl⟩
  · intro z y hT hf
    obtain ⟨b0, b1, b2⟩ := And.intro (Three.cell0 (HV.out y hT).2) (And.intro (Three.cell1 (HV.out y hT).2) (Three.cell2 (HV.out y hT).2))
    have cm0 := (HV.out y hT).1.mac.mem i hi
    have cm1 := (HV.out y hT).1.mac.mem j hj
    simp at hf
    go_simp
    try rfl
  apply rf_val
  · first | rfl | exact ⟨by kernel_rfl, rfl⟩
  · intro z y hT hf
    obtain ⟨b0, b1, b2⟩ := And.intro (Three.cell0 (HV.out y hT).2) (And.intro (Three.cell1 (HV.out y hT).2) (Three.cell2 (HV.out y hT).2))
    have cm0 := (HV.out y hT).1.mac.mem i hi
    have cm1 := (HV.out y hT).1.mac.mem j hj
    simp at hf
    go_simp
    try rfl
  apply rf_val
  · first | rfl | exact ⟨by kernel_rfl, rfl⟩
  · intro z y hT hf
    obtain ⟨b0, b1, b2⟩ := And.intro (Three.cell0 (HV.out y hT).2) (And.intro (Three.cell1 (HV.out y hT).2) (Three.cell2 (HV.out y hT).2))
    have cm0 := (HV.out y hT).1.mac.mem i hi
    have cm1 := (HV.out y hT).1.mac.mem j hj
    simp at hf
    go_simp
    try rfl
  apply rf_val
  · first | rfl | exact ⟨by kernel_rfl, rfl⟩
  · intro z y hT hf
    obtain ⟨b0, b1, b2⟩ := And.intro (Three.cell0 (HV.out y hT).2) (And.intro (Three.cell1 (HV.out y hT).2) (Three.cell2 (HV.out y hT).2))
    have cm0 := (HV.out y hT).1.mac.mem i hi
    have cm1 := (HV.out y hT).1.mac.mem j hj
    simp at hf
    go_simp
    try rfl
  apply rf_val
  · first | rfl | exact ⟨by kernel_rfl, rfl⟩
  · intro z y hT hf
    obtain ⟨b0, b1, b2⟩ := And.intro (Three.cell0 (HV.out y hT).2) (And.intro (Three.cell1 (HV.out y hT).2) (Three.cell2 (HV.out y hT).2))
    have cm0 := (HV.out y hT).1.mac.mem i hi
    have cm1 := (HV.out y hT).1.mac.mem j hj
    simp at hf
    go_simp
    try rfl
  apply rf_val
  · first | rfl | exact ⟨by kernel_rfl, rfl⟩
  · intro z y hT hf
    obtain ⟨b0, b1, b2⟩ := And.intro (Three.cell0 (HV.out y hT).2) (And.intro (Three.cell1 (HV.out y hT).2) (Three.cell2 (HV.out y hT).2))
    have cm0 := (HV.out y hT).1.mac.mem i hi
    have cm1 := (HV.out y hT).1.mac.mem j hj
    simp at hf
    go_simp
    try rfl
  refine rf_eff (fun _ v => v = .int .i64 (Rule.reckon 4 (Rule.reg m.b i) (Rule.reg m.b j))) (by first | rfl | exact ⟨by kernel_rfl, rfl⟩) (fun _ _ _ _ h => h) (fun z y hT hf => ?_) ?_
  · simp at hf
    go_simp
    refine (reckon_any (HV.out y hT).1.mac 4 _ _ (by omega) hx hy (by omega)).mono ?_
    rintro e y2 ⟨rfl, rfl⟩
    exact ⟨_, rfl, rfl, Only.refl _ _⟩
  refine rf_eff (fun _ v => v = .int .i64 (Rule.clamp (Rule.reckon 4 (Rule.reg m.b i) (Rule.reg m.b j)))) (by first | rfl | exact ⟨by kernel_rfl, rfl⟩) (fun _ _ _ _ h => h) (fun z y hT hf => ?_) ?_
  · simp at hf
    go_simp
    refine (asReg_any _ _).mono ?_
    rintro e y2 ⟨rfl, rfl⟩
    exact ⟨_, rfl, rfl, Only.refl _ _⟩
  apply rf_val
  · first | rfl | exact ⟨by kernel_rfl, rfl⟩
  · intro z y hT hf
    obtain ⟨b0, b1, b2⟩ := And.intro (Three.cell0 (HV.out y hT).2) (And.intro (Three.cell1 (HV.out y hT).2) (Three.cell2 (HV.out y hT).2))
    simp at hf
    go_simp
    try rfl
  intro w3 hw
  simp only [FinA, Sp.R, forall_eq]
  simp only [Act.put, List.setIfInBounds_toArray, List.set_cons_succ, List.set_cons_zero]
  have H2 : Hid (St B p w3 m sh n ∧ Only [] w w3 ∧ OpBox w3 q (4) ((i : Nat)) ((j : Nat))) := ⟨(HV.out w3 hw).1, H1.out.2.1.trans ((only_drew w2).trans hw), (HV.out w3 hw).2⟩
  clear hw HV H1
  have fz := H2.out.1.mac.frozen
  have cm := H2.out.1.mac.mem i hi
  go_wp2_with fail
  go_ret
  exact doPost_own HR.out rfl H2.out.1 H2.out.2.1 (H2.out.1.mac.setr i hi _) ((Only.refl _ _).setCell (by simp) _) rfl
set_option maxRecDepth 100000 in
set_option maxHeartbeats 1000000 in
theorem do_4a {B p n : Nat} {w : World} {m : Mch} {sh : List Bd} (h : St B p w m sh n) (a b : Int) (ha : Rule.is a = false) (hr : Rule.act n m.at_ ⟨4, a, b⟩ (m.e sh) = .fault 2) : Calls Try.prog 93 #[.pointer (some ⟨p, 0, none⟩), .agg #[.int .i64 (4), .int .i64 (a), .int .i64 (b)]] w (DoPost B p w m (Rule.act n m.at_ ⟨4, a, b⟩ (m.e sh))) := by
  have HR : Hid _ := hr
  clear hr
  generalize Rule.act n m.at_ ⟨4, a, b⟩ (m.e sh) = RR at *
  have k1 := h.at0
  have k2 := h.at1
  have k3 := h.few
  have wn : IntKind.i64.wrap (m.at_ + 1) = m.at_ + 1 := IntWalk.i64_in _ (by omega)
  have c19 := h.mac.at_
  have H0 : Hid _ := h
  have O0 : Hid (OpBox (w.alloc (.cells #[.int .i64 (4), .int .i64 (a), .int .i64 (b)] 23)) w.heap.size (4) (a) (b)) := Three.new _ _ _ _ _
  have lp := h.mac.lt
  clear h
  go_enter Try.func93, Try.ntmps93
  go_wp2_with fail
  have H1 : Hid (St B p (w.alloc (.cells #[.int .i64 (4), .int .i64 (a), .int .i64 (b)] 23)) m sh n ∧ Only [] w (w.alloc (.cells #[.int .i64 (4), .int .i64 (a), .int .i64 (b)] 23)) ∧ OpBox (w.alloc (.cells #[.int .i64 (4), .int .i64 (a), .int .i64 (b)] 23)) w.heap.size (4) (a) (b)) := ⟨H0.out.only ((Only.refl _ _).alloc _), (Only.refl _ _).alloc _, O0.out⟩
  generalize w.alloc (.cells #[.int .i64 (4), .int .i64 (a), .int .i64 (b)] 23) = W at *
  generalize w.heap.size = q at *
  clear H0 c19 O0
  have HV : Hid (∀ y, Only [] W.drew y → St B p y m sh n ∧ OpBox y q (4) (a) (b)) := fun y hy => ⟨H1.out.1.only ((only_drew W).trans hy), Three.only H1.out.2.2 ((only_drew W).trans hy) (by simp)⟩
  refine wp_region_fate (fun chain y => chain = [{ v := thrownV 2 m.at_, recovered := false }] ∧ Only [] w y) (by rintro chain a' y hd ⟨rfl, ho⟩; exact ⟨hd, doPost_fault HR.out rfl ho⟩) 10 (Only []) (Only.refl _) Only.trans [(0, .pointer (some ⟨p, 0, none⟩)), (3, .pointer (some ⟨q, 0, none⟩))] (by intro p hp; simp only [List.mem_cons, List.not_mem_nil, or_false] at hp; rcases hp with rfl | rfl <;> rfl) (by kernel_rfl) (by kernel_rfl) (by decide) (by kernel_rfl) (by kernel_rfl) ?_
  simp only [List.take_succ_cons, List.take_zero, List.drop_succ_cons, List.drop_zero]
  apply rd_val
  · first | rfl | exact ⟨by kernel_rfl, rfl⟩
  · intro z y hT hf
    obtain ⟨b0, b1, b2⟩ := And.intro (Three.cell0 (HV.out y hT).2) (And.intro (Three.cell1 (HV.out y hT).2) (Three.cell2 (HV.out y hT).2))
    simp at hf
    go_simp
    try rfl
  apply rd_val
  · first | rfl | exact ⟨by kernel_rfl, rfl⟩
  · intro z y hT hf
    obtain ⟨b0, b1, b2⟩ := And.intro (Three.cell0 (HV.out y hT).2) (And.intro (Three.cell1 (HV.out y hT).2) (Three.cell2 (HV.out y hT).2))
    simp at hf
    go_simp
    try rfl
  apply rd_val
  · first | rfl | exact ⟨by kernel_rfl, rfl⟩
  · intro z y hT hf
    obtain ⟨b0, b1, b2⟩ := And.intro (Three.cell0 (HV.out y hT).2) (And.intro (Three.cell1 (HV.out y hT).2) (Three.cell2 (HV.out y hT).2))
    simp at hf
    go_simp
    try rfl
  refine rd_die (by first | rfl | exact ⟨by kernel_rfl, rfl⟩) (fun z y hT hf => ?_) ?_
  · simp at hf
    go_simp
    refine (reg_no (HV.out y hT).1.mac a ha).mono ?_
    rintro e y2 ⟨rfl, rfl⟩
    exact ⟨_, rfl, rfl, H1.out.2.1.trans ((only_drew W).trans hT)⟩
  apply rd_val
  · first | rfl | exact ⟨by kernel_rfl, rfl⟩
  · intro z y hT hf
    obtain ⟨b0, b1, b2⟩ := And.intro (Three.cell0 (HV.out y hT).2) (And.intro (Three.cell1 (HV.out y hT).2) (Three.cell2 (HV.out y hT).2))
    simp at hf
    go_simp
    try rfl
  apply rd_val
  · first | rfl | exact ⟨by kernel_rfl, rfl⟩
  · intro z y hT hf
    obtain ⟨b0, b1, b2⟩ := And.intro (Three.cell0 (HV.out y hT).2) (And.intro (Three.cell1 (HV.out y hT).2) (Three.cell2 (HV.out y hT).2))
    simp at hf
    go_simp
    try rfl
  apply rd_val
  · first | rfl | exact ⟨by kernel_rfl, rfl⟩
  · intro z y hT hf
    obtain ⟨b0, b1, b2⟩ := And.intro (Three.cell0 (HV.out y hT).2) (And.intro (Three.cell1 (HV.out y hT).2) (Three.cell2 (HV.out y hT).2))
    simp at hf
    go_simp
    try rfl
  refine rd_not (by first | rfl | exact ⟨by kernel_rfl, rfl⟩) (fun z y hT hf => (by simp at hf)) ?_
  refine rd_not (by first | rfl | exact ⟨by kernel_rfl, rfl⟩) (fun z y hT hf => (by simp at hf)) ?_
  refine rd_not (by first | rfl | exact ⟨by kernel_rfl, rfl⟩) (fun z y hT hf => (by simp at hf)) ?_
  intro w2 hy
  simp only [FinA, Sp.R, forall_eq]
  first | exact False.elim | (intro v hv; exact hv.elim) | (intro v hv v2 hv2; exact hv2.elim) | (intro v hv; exact fun _ h => h.elim)
set_option maxRecDepth 100000 in
set_option maxHeartbeats 1000000 in
theorem do_4b {B p n : Nat} {w : World} {m : Mch} {sh : List Bd} (h : St B p w m sh n) (i : Nat) (b : Int) (hi : i < 4) (hb : Rule.is b = false) (hr : Rule.act n m.at_ ⟨4, (i : Nat), b⟩ (m.e sh) = .fault 2) : Calls Try.prog 93 #[.pointer (some ⟨p, 0, none⟩), .agg #[.int .i64 (4), .int .i64 ((i : Nat)), .int .i64 (b)]] w (DoPost B p w m (Rule.act n m.at_ ⟨4, (i : Nat), b⟩ (m.e sh))) := by
  have HR : Hid _ := hr
  clear hr
  generalize Rule.act n m.at_ ⟨4, (i : Nat), b⟩ (m.e sh) = RR at *
  have k1 := h.at0
  have k2 := h.at1
  have k3 := h.few
  have wn : IntKind.i64.wrap (m.at_ + 1) = m.at_ + 1 := IntWalk.i64_in _ (by omega)
  have c19 := h.mac.at_
  have H0 : Hid _ := h
  have O0 : Hid (OpBox (w.alloc (.cells #[.int .i64 (4), .int .i64 ((i : Nat)), .int .i64 (b)] 23)) w.heap.size (4) ((i : Nat)) (b)) := Three.new _ _ _ _ _
  have lp := h.mac.lt
  clear h
  go_enter Try.func93, Try.ntmps93
  go_wp2_with fail
  have H1 : Hid (St B p (w.alloc (.cells #[.int .i64 (4), .int .i64 ((i : Nat)), .int .i64 (b)] 23)) m sh n ∧ Only [] w (w.alloc (.cells #[.int .i64 (4), .int .i64 ((i : Nat)), .int .i64 (b)] 23)) ∧ OpBox (w.alloc (.cells #[.int .i64 (4), .int .i64 ((i : Nat)), .int .i64 (b)] 23)) w.heap.size (4) ((i : Nat)) (b)) := ⟨H0.out.only ((Only.refl _ _).alloc _), (Only.refl _ _).alloc _, O0.out⟩
  generalize w.alloc (.cells #[.int .i64 (4), .int .i64 ((i : Nat)), .int .i64 (b)] 23) = W at *
  generalize w.heap.size = q at *
  clear H0 c19 O0
  have HV : Hid (∀ y, Only [] W.drew y → St B p y m sh n ∧ OpBox y q (4) ((i : Nat)) (b)) := fun y hy => ⟨H1.out.1.only ((only_drew W).trans hy), Three.only H1.out.2.2 ((only_drew W).trans hy) (by simp)⟩
  refine wp_region_fate (fun chain y => chain = [{ v := thrownV 2 m.at_, recovered := false }] ∧ Only [] w y) (by rintro chain a' y hd ⟨rfl, ho⟩; exact ⟨hd, doPost_fault HR.out rfl ho⟩) 10 (Only []) (Only.refl _) Only.trans [(0, .pointer (some ⟨p, 0, none⟩)), (3, .pointer (some ⟨q, 0, none⟩))] (by intro p hp; simp only [List.mem_cons, List.not_mem_nil, or_false] at hp; rcases hp with rfl | rfl <;> rfl) (by kernel_rfl) (by kernel_rfl) (by decide) (by kernel_rfl) (by kernel_rfl) ?_
  simp only [List.take_succ_cons, List.take_zero, List.drop_succ_cons, List.drop_zero]
  apply rd_val
  · first | rfl | exact ⟨by kernel_rfl, rfl⟩
  · intro z y hT hf
    obtain ⟨b0, b1, b2⟩ := And.intro (Three.cell0 (HV.out y hT).2) (And.intro (Three.cell1 (HV.out y hT).2) (Three.cell2 (HV.out y hT).2))
    simp at hf
    go_simp
    try rfl
  apply rd_val
  · first | rfl | exact ⟨by kernel_rfl, rfl⟩
  · intro z y hT hf
    obtain ⟨b0, b1, b2⟩ := And.intro (Three.cell0 (HV.out y hT).2) (And.intro (Three.cell1 (HV.out y hT).2) (Three.cell2 (HV.out y hT).2))
    simp at hf
    go_simp
    try rfl
  apply rd_val
  · first | rfl | exact ⟨by kernel_rfl, rfl⟩
  · intro z y hT hf
    obtain ⟨b0, b1, b2⟩ := And.intro (Three.cell0 (HV.out y hT).2) (And.intro (Three.cell1 (HV.out y hT).2) (Three.cell2 (HV.out y hT).2))
    simp at hf
    go_simp
    try rfl
  refine rd_eff (fun _ v => v = .pointer (some ⟨p, 8 + i, none⟩)) (by first | rfl | exact ⟨by kernel_rfl, rfl⟩) (fun _ _ _ _ h => h) (fun z y hT hf => ?_) ?_
  · simp at hf
    go_simp
    refine (reg_yes (HV.out y hT).1.mac i hi).mono ?_
    rintro e y2 ⟨rfl, rfl⟩
    exact ⟨_, rfl, rfl, Only.refl _ _⟩
  apply rd_val
  · first | rfl | exact ⟨by kernel_rfl, rfl⟩
  · intro z y hT hf
    obtain ⟨b0, b1, b2⟩ := And.intro (Three.cell0 (HV.out y hT).2) (And.intro (Three.cell1 (HV.out y hT).2) (Three.cell2 (HV.out y hT).2))
    simp at hf
    go_simp
    try rfl
  apply rd_val
  · first | rfl | exact ⟨by kernel_rfl, rfl⟩
  · intro z y hT hf
    obtain ⟨b0, b1, b2⟩ := And.intro (Three.cell0 (HV.out y hT).2) (And.intro (Three.cell1 (HV.out y hT).2) (Three.cell2 (HV.out y hT).2))
    simp at hf
    go_simp
    try rfl
  apply rd_val
  · first | rfl | exact ⟨by kernel_rfl, rfl⟩
  · intro z y hT hf
    obtain ⟨b0, b1, b2⟩ := And.intro (Three.cell0 (HV.out y hT).2) (And.intro (Three.cell1 (HV.out y hT).2) (Three.cell2 (HV.out y hT).2))
    simp at hf
    go_simp
    try rfl
  refine rd_die (by first | rfl | exact ⟨by kernel_rfl, rfl⟩) (fun z y hT hf => ?_) ?_
  · simp at hf
    go_simp
    refine (reg_no (HV.out y hT).1.mac b hb).mono ?_
    rintro e y2 ⟨rfl, rfl⟩
    exact ⟨_, rfl, rfl, H1.out.2.1.trans ((only_drew W).trans hT)⟩
  refine rd_not (by first | rfl | exact ⟨by kernel_rfl, rfl⟩) (fun z y hT hf => (by simp at hf)) ?_
  refine rd_not (by first | rfl | exact ⟨by kernel_rfl, rfl⟩) (fun z y hT hf => (by simp at hf)) ?_
  intro w2 hy
  simp only [FinA, Sp.R, forall_eq]
  first | exact False.elim | (intro v hv; exact hv.elim) | (intro v hv v2 hv2; exact hv2.elim) | (intro v hv; exact fun _ h => h.elim)
set_option maxRecDepth 100000 in
set_option maxHeartbeats 1000000 in
theorem do_5y {B p n : Nat} {w : World} {m : Mch} {sh : List Bd} (h : St B p w m sh n) (i j : Nat) (hi : i < 4) (hj : j < 4) (hx : -1000000 ≤ Rule.reg m.b i ∧ Rule.reg m.b i ≤ 1000000) (hy : -1000000 ≤ Rule.reg m.b j ∧ Rule.reg m.b j ≤ 1000000) (hr : Rule.act n m.at_ ⟨5, (i : Nat), (j : Nat)⟩ (m.e sh) = .next { m.e sh with b := Rule.setr m.b i (Rule.clamp (Rule.reckon 5 (Rule.reg m.b i) (Rule.reg m.b j))) } (m.at_ + 1)) : Calls Try.prog 93 #[.pointer (some ⟨p, 0, none⟩), .agg #[.int .i64 (5), .int .i64 ((i : Nat)), .int .i64 ((j : Nat))]] w (DoPost B p w m (Rule.act n m.at_ ⟨5, (i : Nat), (j : Nat)⟩ (m.e sh))) := by
  have HR : Hid _ := hr
  clear hr
  generalize Rule.act n m.at_ ⟨5, (i : Nat), (j : Nat)⟩ (m.e sh) = RR at *
  have k1 := h.at0
  have k2 := h.at1
  have k3 := h.few
  have wn : IntKind.i64.wrap (m.at_ + 1) = m.at_ + 1 := IntWalk.i64_in _ (by omega)
  have c19 := h.mac.at_
  have H0 : Hid _ := h
  have O0 : Hid (OpBox (w.alloc (.cells #[.int .i64 (5), .int .i64 ((i : Nat)), .int .i64 ((j : Nat))] 23)) w.heap.size (5) ((i : Nat)) ((j : Nat))) := Three.new _ _ _ _ _
  have lp := h.mac.lt
  clear h
  go_enter Try.func93, Try.ntmps93
  go_wp2_with fail
  have H1 : Hid (St B p (w.alloc (.cells #[.int .i64 (5), .int .i64 ((i : Nat)), .int .i64 ((j : Nat))] 23)) m sh n ∧ Only [] w (w.alloc (.cells #[.int .i64 (5), .int .i64 ((i : Nat)), .int .i64 ((j : Nat))] 23)) ∧ OpBox (w.alloc (.cells #[.int .i64 (5), .int .i64 ((i : Nat)), .int .i64 ((j : Nat))] 23)) w.heap.size (5) ((i : Nat)) ((j : Nat))) := ⟨H0.out.only ((Only.refl _ _).alloc _), (Only.refl _ _).alloc _, O0.out⟩
  generalize w.alloc (.cells #[.int .i64 (5), .int .i64 ((i : Nat)), .int .i64 ((j : Nat))] 23) = W at *
  generalize w.heap.size = q at *
  clear H0 c19 O0
  have HV : Hid (∀ y, Only [] W.drew y → St B p y m sh n ∧ OpBox y q (5) ((i : Nat)) ((j : Nat))) := fun y hy => ⟨H1.out.1.only ((only_drew W).trans hy), Three.only H1.out.2.2 ((only_drew W).trans hy) (by simp)⟩
  refine wp_region_free 10 (Only []) (Only.refl _) Only.trans [(0, .pointer (some ⟨p, 0, none⟩)), (3, .pointer (some ⟨q, 0, none⟩))] (by intro p hp; simp only [List.mem_cons, List.not_mem_nil, or_false] at hp; rcases hp with rfl | rfl <;> rfl) (by kernel_rfl) (by kernel_rfl) (by decide) (by kernel_rfl) (by kernel_rfl) ?_
  simp only [List.take_succ_cons, List.take_zero, List.drop_succ_cons, List.drop_zero]
  apply rf_val
  · first | rfl | exact ⟨by kernel_rfl, rfl⟩
  · intro z y hT hf
    obtain ⟨b0, b1, b2⟩ := And.intro (Three.cell0 (HV.out y hT).2) (And.intro (Three.cell1 (HV.out y hT).2) (Three.cell2 (HV.out y hT).2))
    simp at hf
    go_simp
    try rfl
  apply rf_val
  · first | rfl | exact ⟨by kernel_rfl, rfl⟩
  · intro z y hT hf
    obtain ⟨b0, b1, b2⟩ := And.intro (Three.cell0 (HV.out y hT).2) (And.intro (Three.cell1 (HV.out y hT).2) (Three.cell2 (HV.out y hT).2))
    simp at hf
    go_simp
    try rfl
  apply rf_val
  · first | rfl | exact ⟨by kernel_rfl, rfl⟩
  · intro z y hT hf
    obtain ⟨b0, b1, b2⟩ := And.intro (Three.cell0 (HV.out y hT).2) (And.intro (Three.cell1 (HV.out y hT).2) (Three.cell2 (HV.out y hT).2))
    simp at hf
    go_simp
    try rfl
  refine rf_eff (fun _ v => v = .pointer (some ⟨p, 8 + i, none⟩)) (by first | rfl | exact ⟨by kernel_rfl, rfl⟩) (fun _ _ _ _ h => h) (fun z y hT hf => ?_) ?_
  · simp at hf
    go_simp
    refine (reg_yes (HV.out y hT).1.mac i hi).mono ?_
    rintro e y2 ⟨rfl, rfl⟩
    exact ⟨_, rfl, rfl, Only.refl _ _⟩
  apply rf_val
  · first | rfl | exact ⟨by kernel_rfl, rfl⟩
  · intro z y hT hf
    obtain ⟨b0, b1, b2⟩ := And.intro (Three.cell0 (HV.out y hT).2) (And.intro (Three.cell1 (HV.out y hT).2) (Three.cell2 (HV.out y hT).2))
    simp at hf
    go_simp
    try rfl
  apply rf_val
  · first | rfl | exact ⟨by kernel_rfl, rfl⟩
  · intro z y hT hf
    obtain ⟨b0, b1, b2⟩ := And.intro (Three.cell0 (HV.out y hT).2) (And.intro (Three.cell1 (HV.out y hT).2) (Three.cell2 (HV.out y hT).2))
    simp at hf
    go_simp
    try rfl
  apply rf_val
  · first | rfl | exact ⟨by kernel_rfl, rfl⟩
  · intro z y hT hf
    obtain ⟨b0, b1, b2⟩ := And.intro (Three.cell0 (HV.out y hT).2) (And.intro (Three.cell1 (HV.out y hT).2) (Three.cell2 (HV.out y hT).2))
    simp at hf
    go_simp
    try rfl
  refine rf_eff (fun _ v => v = .pointer (some ⟨p, 8 + j, none⟩)) (by first | rfl | exact ⟨by kernel_rfl, rfl⟩) (fun _ _ _ _ h => h) (fun z y hT hf => ?_) ?_
  · simp at hf
    go_simp
    refine (reg_yes (HV.out y hT).1.mac j hj).mono ?_
    rintro e y2 ⟨rfl, rfl⟩
    exact ⟨_, rfl, rfl, Only.refl _ _⟩
  apply rf_val
  · first | rfl | exact ⟨by kernel_rfl, rfl⟩
  · intro z y hT hf
    obtain ⟨b0, b1, b2⟩ := And.intro (Three.cell0 (HV.out y hT).2) (And.intro (Three.cell1 (HV.out y hT).2) (Three.cell2 (HV.out y hT).2))
    simp at hf
    go_simp
    try rfl
  apply rf_val
  · first | rfl | exact ⟨by kernel_rfl, rfl⟩
  · intro z y hT hf
    obtain ⟨b0, b1, b2⟩ := And.intro (Three.cell0 (HV.out y hT).2) (And.intro (Three.cell1 (HV.out y hT).2) (Three.cell2 (HV.out y hT).2))
    simp at hf
    go_simp
    try rfl
  intro w2 hy
  simp only [FinA, Sp.R, forall_eq]
  simp only [Act.put, List.setIfInBounds_toArray, List.set_cons_succ, List.set_cons_zero]
  have H2 : Hid (St B p w2 m sh n ∧ Only [] w w2 ∧ OpBox w2 q (5) ((i : Nat)) ((j : Nat))) := ⟨(HV.out w2 hy).1, H1.out.2.1.trans ((only_drew W).trans hy), (HV.out w2 hy).2⟩
  clear hy HV H1
  go_wp2_with fail
  have H1 : Hid _ := H2.out
  clear H2
  have HV : Hid (∀ y, Only [] w2.drew y → St B p y m sh n ∧ OpBox y q (5) ((i : Nat)) ((j : Nat))) := fun y hy => ⟨H1.out.1.only ((only_drew w2).trans hy), Three.only H1.out.2.2 ((only_drew w2).trans hy) (by simp)⟩
  refine wp_region_free 13 (Only []) (Only.refl _) Only.trans [(0, .pointer (some ⟨p, 0, none⟩)), (3, .pointer (some ⟨q, 0, none⟩)), (6, .pointer (some ⟨p, 8 + i, none⟩)), (7, .pointer (some ⟨p, 8 + j, none⟩))] (by intro p hp; simp only [List.mem_cons, List.not_mem_nil, or_false] at hp; rcases hp with rfl | rfl | rfl | rfl <;> rfl) (by kernel_rfl) (by kernel_rfl) (by decide) (by kernel_rfl) (by kernel_rfl) ?_
  simp only [List.take_succ_cons, List.take_zero, List.drop_succ_cons, List.drop_zero]
  apply rf_val
  · first | rfl | exact ⟨by kernel_rfl, rfl⟩
  · intro z y hT hf
    obtain ⟨b0, b1, b2⟩ := And.intro (Three.cell0 (HV.out y hT).2) (And.intro (Three.cell1 (HV.out y hT).2) (Three.cell2 (HV.out y hT).2))
    have cm0 := (HV.out y hT).1.mac.mem i hi
    have cm1 := (HV.out y hT).1.mac.mem j hj
    simp at hf
    go_simp
    try rfl
  apply rf_val
  · first | rfl | exact ⟨by kernel_rfl, rfl⟩
  · intro z y hT hf
    obtain ⟨b0, b1, b2⟩ := And.intro (Three.cell0 (HV.out y hT).2) (And.intro (Three.cell1 (HV.out y hT).2) (Three.cell2 (HV.out y hT).2))
    have cm0 := (HV.out y hT).1.mac.mem i hi
    have cm1 := (HV.out y hT).1.mac.mem j hj
    simp at hf
    go_simp
    try rfl
  apply rf_val
  · first | rfl | exact ⟨by kernel_rfl, rfl⟩
  · intro z y hT hf
    obtain ⟨b0, b1, b2⟩ := And.intro (Three.cell0 (HV.out y hT).2) (And.intro (Three.cell1 (HV.out y hT).2) (Three.cell2 (HV.out y hT).2))
    have cm0 := (HV.out y hT).1.mac.mem i hi
    have cm1 := (HV.out y hT).1.mac.mem j hj
    simp at hf
    go_simp
    try rfl
  apply rf_val
  · first | rfl | exact ⟨by kernel_rfl, rfl⟩
  · intro z y hT hf
    obtain ⟨b0, b1, b2⟩ := And.intro (Three.cell0 (HV.out y hT).2) (And.intro (Three.cell1 (HV.out y hT).2) (Three.cell2 (HV.out y hT).2))
    have cm0 := (HV.out y hT).1.mac.mem i hi
    have cm1 := (HV.out y hT).1.mac.mem j hj
    simp at hf
    go_simp
    try rfl
  apply rf_val
  · first | rfl | exact ⟨by kernel_rfl, rfl⟩
  · intro z y hT hf
    obtain ⟨b0, b1, b2⟩ := And.intro (Three.cell0 (HV.out y hT).2) (And.intro (Three.cell1 (HV.out y hT).2) (Three.cell2 (HV.out y hT).2))
    have cm0 := (HV.out y hT).1.mac.mem i hi
    have cm1 := (HV.out y hT).1.mac.mem j hj
    simp at hf
    go_simp
    try rfl
  apply rf_val
  · first | rfl | exact ⟨by kernel_rfl, rfl⟩
  · intro z y hT hf
    obtain ⟨b0, b1, b2⟩ := And.intro (Three.cell0 (HV.out y hT).2) (And.intro (Three.cell1 (HV.out y hT).2) (Three.cell2 (HV.out y hT).2))
    have cm0 := (HV.out y hT).1.mac.mem i hi
    have cm1 := (HV.out y hT).1.mac.mem j hj
    simp at hf
    go_simp
    try rfl
  apply rf_val
  · first | rfl | exact ⟨by kernel_rfl, rfl⟩
  · intro z y hT hf
    obtain ⟨b0, b1, b2⟩ := And.intro (Three.cell0 (HV.out y hT).2) (And.intro (Three.cell1 (HV.out y hT).2) (Three.cell2 (HV.out y hT).2))
    have cm0 := (HV.out y hT).1.mac.mem i hi
    have cm1 := (HV.out y hT).1.mac.mem j hj
    simp at hf
    go_simp
    try rfl
  apply rf_val
  · first | rfl | exact ⟨by kernel_rfl, rfl⟩
  · intro z y hT hf
    obtain ⟨b0, b1, b2⟩ := And.intro (Three.cell0 (HV.out y hT).2) (And.intro (Three.cell1 (HV.out y hT).2) (Three.cell2 (HV.out y hT).2))
    have cm0 := (HV.out y hT).1.mac.mem i hi
    have cm1 := (HV.out y hT).1.mac.mem j hj
    simp at hf
    go_simp
    try rfl
  apply rf_val
  · first | rfl | exact ⟨by kernel_rfl, rfl⟩
  · intro z y hT hf
    obtain ⟨b0, b1, b2⟩ := And.intro (Three.cell0 (HV.out y hT).2) (And.intro (Three.cell1 (HV.out y hT).2) (Three.cell2 (HV.out y hT).2))
    have cm0 := (HV.out y hT).1.mac.mem i hi
    have cm1 := (HV.out y hT).1.mac.mem j hj
    simp at hf
    go_simp
    try rfl
  apply rf_val
  · first | rfl | exact ⟨by kernel_rfl, rfl⟩
  · intro z y hT hf
    obtain ⟨b0, b1, b2⟩ := And.intro (Three.cell0 (HV.out y hT).2) (And.intro (Three.cell1 (HV.out y hT).2) (Three.cell2 (HV.out y hT).2))
    have cm0 := (HV.out y hT).1.mac.mem i hi
    have cm1 := (HV.out y hT).1.mac.mem j hj
    simp at hf
    go_simp
    try rfl
  refine rf_eff (fun _ v => v = .int .i64 (Rule.reckon 5 (Rule.reg m.b i) (Rule.reg m.b j))) (by first | rfl | exact ⟨by kernel_rfl, rfl⟩) (fun _ _ _ _ h => h) (fun z y hT hf => ?_) ?_
  · simp at hf
    go_simp
    refine (reckon_any (HV.out y hT).1.mac 5 _ _ (by omega) hx hy (by omega)).mono ?_
    rintro e y2 ⟨rfl, rfl⟩
    exact ⟨_, rfl, rfl, Only.refl _ _⟩
  refine rf_eff (fun _ v => v = .int .i64 (Rule.clamp (Rule.reckon 5 (Rule.reg m.b i) (Rule.reg m.b j)))) (by first | rfl | exact ⟨by kernel_rfl, rfl⟩) (fun _ _ _ _ h => h) (fun z y hT hf => ?_) ?_
  · simp at hf
    go_simp
    refine (asReg_any _ _).mono ?_
    rintro e y2 ⟨rfl, rfl⟩
    exact ⟨_, rfl, rfl, Only.refl _ _⟩
  apply rf_val
  · first | rfl | exact ⟨by kernel_rfl, rfl⟩
  · intro z y hT hf
    obtain ⟨b0, b1, b2⟩ := And.intro (Three.cell0 (HV.out y hT).2) (And.intro (Three.cell1 (HV.out y hT).2) (Three.cell2 (HV.out y hT).2))
    simp at hf
    go_simp
    try rfl
  intro w3 hw
  simp only [FinA, Sp.R, forall_eq]
  simp only [Act.put, List.setIfInBounds_toArray, List.set_cons_succ, List.set_cons_zero]
  have H2 : Hid (St B p w3 m sh n ∧ Only [] w w3 ∧ OpBox w3 q (5) ((i : Nat)) ((j : Nat))) := ⟨(HV.out w3 hw).1, H1.out.2.1.trans ((only_drew w2).trans hw), (HV.out w3 hw).2⟩
  clear hw HV H1
  have fz := H2.out.1.mac.frozen
  have cm := H2.out.1.mac.mem i hi
  go_wp2_with fail
  go_ret
  exact doPost_own HR.out rfl H2.out.1 H2.out.2.1 (H2.out.1.mac.setr i hi _) ((Only.refl _ _).setCell (by simp) _) rfl
set_option maxRecDepth 100000 in
set_option maxHeartbeats 1000000 in
theorem do_5a {B p n : Nat} {w : World} {m : Mch} {sh : List Bd} (h : St B p w m sh n) (a b : Int) (ha : Rule.is a = false) (hr : Rule.act n m.at_ ⟨5, a, b⟩ (m.e sh) = .fault 2) : Calls Try.prog 93 #[.pointer (some ⟨p, 0, none⟩), .agg #[.int .i64 (5), .int .i64 (a), .int .i64 (b)]] w (DoPost B p w m (Rule.act n m.at_ ⟨5, a, b⟩ (m.e sh))) := by
  have HR : Hid _ := hr
  clear hr
  generalize Rule.act n m.at_ ⟨5, a, b⟩ (m.e sh) = RR at *
  have k1 := h.at0
  have k2 := h.at1
  have k3 := h.few
  have wn : IntKind.i64.wrap (m.at_ + 1) = m.at_ + 1 := IntWalk.i64_in _ (by omega)
  have c19 := h.mac.at_
  have H0 : Hid _ := h
  have O0 : Hid (OpBox (w.alloc (.cells #[.int .i64 (5), .int .i64 (a), .int .i64 (b)] 23)) w.heap.size (5) (a) (b)) := Three.new _ _ _ _ _
  have lp := h.mac.lt
  clear h
  go_enter Try.func93, Try.ntmps93
  go_wp2_with fail
  have H1 : Hid (St B p (w.alloc (.cells #[.int .i64 (5), .int .i64 (a), .int .i64 (b)] 23)) m sh n ∧ Only [] w (w.alloc (.cells #[.int .i64 (5), .int .i64 (a), .int .i64 (b)] 23)) ∧ OpBox (w.alloc (.cells #[.int .i64 (5), .int .i64 (a), .int .i64 (b)] 23)) w.heap.size (5) (a) (b)) := ⟨H0.out.only ((Only.refl _ _).alloc _), (Only.refl _ _).alloc _, O0.out⟩
  generalize w.alloc (.cells #[.int .i64 (5), .int .i64 (a), .int .i64 (b)] 23) = W at *
  generalize w.heap.size = q at *
  clear H0 c19 O0
  have HV : Hid (∀ y, Only [] W.drew y → St B p y m sh n ∧ OpBox y q (5) (a) (b)) := fun y hy => ⟨H1.out.1.only ((only_drew W).trans hy), Three.only H1.out.2.2 ((only_drew W).trans hy) (by simp)⟩
  refine wp_region_fate (fun chain y => chain = [{ v := thrownV 2 m.at_, recovered := false }] ∧ Only [] w y) (by rintro chain a' y hd ⟨rfl, ho⟩; exact ⟨hd, doPost_fault HR.out rfl ho⟩) 10 (Only []) (Only.refl _) Only.trans [(0, .pointer (some ⟨p, 0, none⟩)), (3, .pointer (some ⟨q, 0, none⟩))] (by intro p hp; simp only [List.mem_cons, List.not_mem_nil, or_false] at hp; rcases hp with rfl | rfl <;> rfl) (by kernel_rfl) (by kernel_rfl) (by decide) (by kernel_rfl) (by kernel_rfl) ?_
  simp only [List.take_succ_cons, List.take_zero, List.drop_succ_cons, List.drop_zero]
  apply rd_val
  · first | rfl | exact ⟨by kernel_rfl, rfl⟩
  · intro z y hT hf
    obtain ⟨b0, b1, b2⟩ := And.intro (Three.cell0 (HV.out y hT).2) (And.intro (Three.cell1 (HV.out y hT).2) (Three.cell2 (HV.out y hT).2))
    simp at hf
    go_simp
    try rfl
  apply rd_val
  · first | rfl | exact ⟨by kernel_rfl, rfl⟩
  · intro z y hT hf
    obtain ⟨b0, b1, b2⟩ := And.intro (Three.cell0 (HV.out y hT).2) (And.intro (Three.cell1 (HV.out y hT).2) (Three.cell2 (HV.out y hT).2))
    simp at hf
    go_simp
    try rfl
  apply rd_val
  · first | rfl | exact ⟨by kernel_rfl, rfl⟩
  · intro z y hT hf
    obtain ⟨b0, b1, b2⟩ := And.intro (Three.cell0 (HV.out y hT).2) (And.intro (Three.cell1 (HV.out y hT).2) (Three.cell2 (HV.out y hT).2))
    simp at hf
    go_simp
    try rfl
  refine rd_die (by first | rfl | exact ⟨by kernel_rfl, rfl⟩) (fun z y hT hf => ?_) ?_
  · simp at hf
    go_simp
    refine (reg_no (HV.out y hT).1.mac a ha).mono ?_
    rintro e y2 ⟨rfl, rfl⟩
    exact ⟨_, rfl, rfl, H1.out.2.1.trans ((only_drew W).trans hT)⟩
  apply rd_val
  · first | rfl | exact ⟨by kernel_rfl, rfl⟩
  · intro z y hT hf
    obtain ⟨b0, b1, b2⟩ := And.intro (Three.cell0 (HV.out y hT).2) (And.intro (Three.cell1 (HV.out y hT).2) (Three.cell2 (HV.out y hT).2))
    simp at hf
    go_simp
    try rfl
  apply rd_val
  · first | rfl | exact ⟨by kernel_rfl, rfl⟩
  · intro z y hT hf
    obtain ⟨b0, b1, b2⟩ := And.intro (Three.cell0 (HV.out y hT).2) (And.intro (Three.cell1 (HV.out y hT).2) (Three.cell2 (HV.out y hT).2))
    simp at hf
    go_simp
    try rfl
  apply rd_val
  · first | rfl | exact ⟨by kernel_rfl, rfl⟩
  · intro z y hT hf
    obtain ⟨b0, b1, b2⟩ := And.intro (Three.cell0 (HV.out y hT).2) (And.intro (Three.cell1 (HV.out y hT).2) (Three.cell2 (HV.out y hT).2))
    simp at hf
    go_simp
    try rfl
  refine rd_not (by first | rfl | exact ⟨by kernel_rfl, rfl⟩) (fun z y hT hf => (by simp at hf)) ?_
  refine rd_not (by first | rfl | exact ⟨by kernel_rfl, rfl⟩) (fun z y hT hf => (by simp at hf)) ?_
  refine rd_not (by first | rfl | exact ⟨by kernel_rfl, rfl⟩) (fun z y hT hf => (by simp at hf)) ?_
  intro w2 hy
  simp only [FinA, Sp.R, forall_eq]
  first | exact False.elim | (intro v hv; exact hv.elim) | (intro v hv v2 hv2; exact hv2.elim) | (intro v hv; exact fun _ h => h.elim)
set_option maxRecDepth 100000 in
set_option maxHeartbeats 1000000 in
theorem do_5b {B p n : Nat} {w : World} {m : Mch} {sh : List Bd} (h : St B p w m sh n) (i : Nat) (b : Int) (hi : i < 4) (hb : Rule.is b = false) (hr : Rule.act n m.at_ ⟨5, (i : Nat), b⟩ (m.e sh) = .fault 2) : Calls Try.prog 93 #[.pointer (some ⟨p, 0, none⟩), .agg #[.int .i64 (5), .int .i64 ((i : Nat)), .int .i64 (b)]] w (DoPost B p w m (Rule.act n m.at_ ⟨5, (i : Nat), b⟩ (m.e sh))) := by
  have HR : Hid _ := hr
  clear hr
  generalize Rule.act n m.at_ ⟨5, (i : Nat), b⟩ (m.e sh) = RR at *
  have k1 := h.at0
  have k2 := h.at1
  have k3 := h.few
  have wn : IntKind.i64.wrap (m.at_ + 1) = m.at_ + 1 := IntWalk.i64_in _ (by omega)
  have c19 := h.mac.at_
  have H0 : Hid _ := h
  have O0 : Hid (OpBox (w.alloc (.cells #[.int .i64 (5), .int .i64 ((i : Nat)), .int .i64 (b)] 23)) w.heap.size (5) ((i : Nat)) (b)) := Three.new _ _ _ _ _
  have lp := h.mac.lt
  clear h
  go_enter Try.func93, Try.ntmps93
  go_wp2_with fail
  have H1 : Hid (St B p (w.alloc (.cells #[.int .i64 (5), .int .i64 ((i : Nat)), .int .i64 (b)] 23)) m sh n ∧ Only [] w (w.alloc (.cells #[.int .i64 (5), .int .i64 ((i : Nat)), .int .i64 (b)] 23)) ∧ OpBox (w.alloc (.cells #[.int .i64 (5), .int .i64 ((i : Nat)), .int .i64 (b)] 23)) w.heap.size (5) ((i : Nat)) (b)) := ⟨H0.out.only ((Only.refl _ _).alloc _), (Only.refl _ _).alloc _, O0.out⟩
  generalize w.alloc (.cells #[.int .i64 (5), .int .i64 ((i : Nat)), .int .i64 (b)] 23) = W at *
  generalize w.heap.size = q at *
  clear H0 c19 O0
  have HV : Hid (∀ y, Only [] W.drew y → St B p y m sh n ∧ OpBox y q (5) ((i : Nat)) (b)) := fun y hy => ⟨H1.out.1.only ((only_drew W).trans hy), Three.only H1.out.2.2 ((only_drew W).trans hy) (by simp)⟩
  refine wp_region_fate (fun chain y => chain = [{ v := thrownV 2 m.at_, recovered := false }] ∧ Only [] w y) (by rintro chain a' y hd ⟨rfl, ho⟩; exact ⟨hd, doPost_fault HR.out rfl ho⟩) 10 (Only []) (Only.refl _) Only.trans [(0, .pointer (some ⟨p, 0, none⟩)), (3, .pointer (some ⟨q, 0, none⟩))] (by intro p hp; simp only [List.mem_cons, List.not_mem_nil, or_false] at hp; rcases hp with rfl | rfl <;> rfl) (by kernel_rfl) (by kernel_rfl) (by decide) (by kernel_rfl) (by kernel_rfl) ?_
  simp only [List.take_succ_cons, List.take_zero, List.drop_succ_cons, List.drop_zero]
  apply rd_val
  · first | rfl | exact ⟨by kernel_rfl, rfl⟩
  · intro z y hT hf
    obtain ⟨b0, b1, b2⟩ := And.intro (Three.cell0 (HV.out y hT).2) (And.intro (Three.cell1 (HV.out y hT).2) (Three.cell2 (HV.out y hT).2))
    simp at hf
    go_simp
    try rfl
  apply rd_val
  · first | rfl | exact ⟨by kernel_rfl, rfl⟩
  · intro z y hT hf
    obtain ⟨b0, b1, b2⟩ := And.intro (Three.cell0 (HV.out y hT).2) (And.intro (Three.cell1 (HV.out y hT).2) (Three.cell2 (HV.out y hT).2))
    simp at hf
    go_simp
    try rfl
  apply rd_val
  · first | rfl | exact ⟨by kernel_rfl, rfl⟩
  · intro z y hT hf
    obtain ⟨b0, b1, b2⟩ := And.intro (Three.cell0 (HV.out y hT).2) (And.intro (Three.cell1 (HV.out y hT).2) (Three.cell2 (HV.out y hT).2))
    simp at hf
    go_simp
    try rfl
  refine rd_eff (fun _ v => v = .pointer (some ⟨p, 8 + i, none⟩)) (by first | rfl | exact ⟨by kernel_rfl, rfl⟩) (fun _ _ _ _ h => h) (fun z y hT hf => ?_) ?_
  · simp at hf
    go_simp
    refine (reg_yes (HV.out y hT).1.mac i hi).mono ?_
    rintro e y2 ⟨rfl, rfl⟩
    exact ⟨_, rfl, rfl, Only.refl _ _⟩
  apply rd_val
  · first | rfl | exact ⟨by kernel_rfl, rfl⟩
  · intro z y hT hf
    obtain ⟨b0, b1, b2⟩ := And.intro (Three.cell0 (HV.out y hT).2) (And.intro (Three.cell1 (HV.out y hT).2) (Three.cell2 (HV.out y hT).2))
    simp at hf
    go_simp
    try rfl
  apply rd_val
  · first | rfl | exact ⟨by kernel_rfl, rfl⟩
  · intro z y hT hf
    obtain ⟨b0, b1, b2⟩ := And.intro (Three.cell0 (HV.out y hT).2) (And.intro (Three.cell1 (HV.out y hT).2) (Three.cell2 (HV.out y hT).2))
    simp at hf
    go_simp
    try rfl
  apply rd_val
  · first | rfl | exact ⟨by kernel_rfl, rfl⟩
  · intro z y hT hf
    obtain ⟨b0, b1, b2⟩ := And.intro (Three.cell0 (HV.out y hT).2) (And.intro (Three.cell1 (HV.out y hT).2) (Three.cell2 (HV.out y hT).2))
    simp at hf
    go_simp
    try rfl
  refine rd_die (by first | rfl | exact ⟨by kernel_rfl, rfl⟩) (fun z y hT hf => ?_) ?_
  · simp at hf
    go_simp
    refine (reg_no (HV.out y hT).1.mac b hb).mono ?_
    rintro e y2 ⟨rfl, rfl⟩
    exact ⟨_, rfl, rfl, H1.out.2.1.trans ((only_drew W).trans hT)⟩
  refine rd_not (by first | rfl | exact ⟨by kernel_rfl, rfl⟩) (fun z y hT hf => (by simp at hf)) ?_
  refine rd_not (by first | rfl | exact ⟨by kernel_rfl, rfl⟩) (fun z y hT hf => (by simp at hf)) ?_
  intro w2 hy
  simp only [FinA, Sp.R, forall_eq]
  first | exact False.elim | (intro v hv; exact hv.elim) | (intro v hv v2 hv2; exact hv2.elim) | (intro v hv; exact fun _ h => h.elim)
set_option maxRecDepth 100000 in
set_option maxHeartbeats 1000000 in
theorem do_6y {B p n : Nat} {w : World} {m : Mch} {sh : List Bd} (h : St B p w m sh n) (i j : Nat) (hi : i < 4) (hj : j < 4) (h0 : Rule.reg m.b j ≠ 0) (hx : -1000000 ≤ Rule.reg m.b i ∧ Rule.reg m.b i ≤ 1000000) (hy : -1000000 ≤ Rule.reg m.b j ∧ Rule.reg m.b j ≤ 1000000) (hr : Rule.act n m.at_ ⟨6, (i : Nat), (j : Nat)⟩ (m.e sh) = .next { m.e sh with b := Rule.setr m.b i (Rule.clamp (Rule.reckon 6 (Rule.reg m.b i) (Rule.reg m.b j))) } (m.at_ + 1)) : Calls Try.prog 93 #[.pointer (some ⟨p, 0, none⟩), .agg #[.int .i64 (6), .int .i64 ((i : Nat)), .int .i64 ((j : Nat))]] w (DoPost B p w m (Rule.act n m.at_ ⟨6, (i : Nat), (j : Nat)⟩ (m.e sh))) := by
  have HR : Hid _ := hr
  clear hr
  generalize Rule.act n m.at_ ⟨6, (i : Nat), (j : Nat)⟩ (m.e sh) = RR at *
  have k1 := h.at0
  have k2 := h.at1
  have k3 := h.few
  have wn : IntKind.i64.wrap (m.at_ + 1) = m.at_ + 1 := IntWalk.i64_in _ (by omega)
  have c19 := h.mac.at_
  have H0 : Hid _ := h
  have O0 : Hid (OpBox (w.alloc (.cells #[.int .i64 (6), .int .i64 ((i : Nat)), .int .i64 ((j : Nat))] 23)) w.heap.size (6) ((i : Nat)) ((j : Nat))) := Three.new _ _ _ _ _
  have lp := h.mac.lt
  clear h
  go_enter Try.func93, Try.ntmps93
  go_wp2_with fail
  have H1 : Hid (St B p (w.alloc (.cells #[.int .i64 (6), .int .i64 ((i : Nat)), .int .i64 ((j : Nat))] 23)) m sh n ∧ Only [] w (w.alloc (.cells #[.int .i64 (6), .int .i64 ((i : Nat)), .int .i64 ((j : Nat))] 23)) ∧ OpBox (w.alloc (.cells #[.int .i64 (6), .int .i64 ((i : Nat)), .int .i64 ((j : Nat))] 23)) w.heap.size (6) ((i : Nat)) ((j : Nat))) := ⟨H0.out.only ((Only.refl _ _).alloc _), (Only.refl _ _).alloc _, O0.out⟩
  generalize w.alloc (.cells #[.int .i64 (6), .int .i64 ((i : Nat)), .int .i64 ((j : Nat))] 23) = W at *
  generalize w.heap.size = q at *
  clear H0 c19 O0
  have HV : Hid (∀ y, Only [] W.drew y → St B p y m sh n ∧ OpBox y q (6) ((i : Nat)) ((j : Nat))) := fun y hy => ⟨H1.out.1.only ((only_drew W).trans hy), Three.only H1.out.2.2 ((only_drew W).trans hy) (by simp)⟩
  refine wp_region_free 10 (Only []) (Only.refl _) Only.trans [(0, .pointer (some ⟨p, 0, none⟩)), (3, .pointer (some ⟨q, 0, none⟩))] (by intro p hp; simp only [List.mem_cons, List.not_mem_nil, or_false] at hp; rcases hp with rfl | rfl <;> rfl) (by kernel_rfl) (by kernel_rfl) (by decide) (by kernel_rfl) (by kernel_rfl) ?_
  simp only [List.take_succ_cons, List.take_zero, List.drop_succ_cons, List.drop_zero]
  apply rf_val
  · first | rfl | exact ⟨by kernel_rfl, rfl⟩
  · intro z y hT hf
    obtain ⟨b0, b1, b2⟩ := And.intro (Three.cell0 (HV.out y hT).2) (And.intro (Three.cell1 (HV.out y hT).2) (Three.cell2 (HV.out y hT).2))
    simp at hf
    go_simp
    try rfl
  apply rf_val
  · first | rfl | exact ⟨by kernel_rfl, rfl⟩
  · intro z y hT hf
    obtain ⟨b0, b1, b2⟩ := And.intro (Three.cell0 (HV.out y hT).2) (And.intro (Three.cell1 (HV.out y hT).2) (Three.cell2 (HV.out y hT).2))
    simp at hf
    go_simp
    try rfl
  apply rf_val
  · first | rfl | exact ⟨by kernel_rfl, rfl⟩
  · intro z y hT hf
    obtain ⟨b0, b1, b2⟩ := And.intro (Three.cell0 (HV.out y hT).2) (And.intro (Three.cell1 (HV.out y hT).2) (Three.cell2 (HV.out y hT).2))
    simp at hf
    go_simp
    try rfl
  refine rf_eff (fun _ v => v = .pointer (some ⟨p, 8 + i, none⟩)) (by first | rfl | exact ⟨by kernel_rfl, rfl⟩) (fun _ _ _ _ h => h) (fun z y hT hf => ?_) ?_
  · simp at hf
    go_simp
    refine (reg_yes (HV.out y hT).1.mac i hi).mono ?_
    rintro e y2 ⟨rfl, rfl⟩
    exact ⟨_, rfl, rfl, Only.refl _ _⟩
  apply rf_val
  · first | rfl | exact ⟨by kernel_rfl, rfl⟩
  · intro z y hT hf
    obtain ⟨b0, b1, b2⟩ := And.intro (Three.cell0 (HV.out y hT).2) (And.intro (Three.cell1 (HV.out y hT).2) (Three.cell2 (HV.out y hT).2))
    simp at hf
    go_simp
    try rfl
  apply rf_val
  · first | rfl | exact ⟨by kernel_rfl, rfl⟩
  · intro z y hT hf
    obtain ⟨b0, b1, b2⟩ := And.intro (Three.cell0 (HV.out y hT).2) (And.intro (Three.cell1 (HV.out y hT).2) (Three.cell2 (HV.out y hT).2))
    simp at hf
    go_simp
    try rfl
  apply rf_val
  · first | rfl | exact ⟨by kernel_rfl, rfl⟩
  · intro z y hT hf
    obtain ⟨b0, b1, b2⟩ := And.intro (Three.cell0 (HV.out y hT).2) (And.intro (Three.cell1 (HV.out y hT).2) (Three.cell2 (HV.out y hT).2))
    simp at hf
    go_simp
    try rfl
  refine rf_eff (fun _ v => v = .pointer (some ⟨p, 8 + j, none⟩)) (by first | rfl | exact ⟨by kernel_rfl, rfl⟩) (fun _ _ _ _ h => h) (fun z y hT hf => ?_) ?_
  · simp at hf
    go_simp
    refine (reg_yes (HV.out y hT).1.mac j hj).mono ?_
    rintro e y2 ⟨rfl, rfl⟩
    exact ⟨_, rfl, rfl, Only.refl _ _⟩
  apply rf_val
  · first | rfl | exact ⟨by kernel_rfl, rfl⟩
  · intro z y hT hf
    obtain ⟨b0, b1, b2⟩ := And.intro (Three.cell0 (HV.out y hT).2) (And.intro (Three.cell1 (HV.out y hT).2) (Three.cell2 (HV.out y hT).2))
    simp at hf
    go_simp
    try rfl
  apply rf_val
  · first | rfl | exact ⟨by kernel_rfl, rfl⟩
  · intro z y hT hf
    obtain ⟨b0, b1, b2⟩ := And.intro (Three.cell0 (HV.out y hT).2) (And.intro (Three.cell1 (HV.out y hT).2) (Three.cell2 (HV.out y hT).2))
    simp at hf
    go_simp
    try rfl
  intro w2 hy
  simp only [FinA, Sp.R, forall_eq]
  simp only [Act.put, List.setIfInBounds_toArray, List.set_cons_succ, List.set_cons_zero]
  have H2 : Hid (St B p w2 m sh n ∧ Only [] w w2 ∧ OpBox w2 q (6) ((i : Nat)) ((j : Nat))) := ⟨(HV.out w2 hy).1, H1.out.2.1.trans ((only_drew W).trans hy), (HV.out w2 hy).2⟩
  clear hy HV H1
  go_wp2_with fail
  have H1 : Hid _ := H2.out
  clear H2
  have HV : Hid (∀ y, Only [] w2.drew y → St B p y m sh n ∧ OpBox y q (6) ((i : Nat)) ((j : Nat))) := fun y hy => ⟨H1.out.1.only ((only_drew w2).trans hy), Three.only H1.out.2.2 ((only_drew w2).trans hy) (by simp)⟩
  refine wp_region_free 13 (Only []) (Only.refl _) Only.trans [(0, .pointer (some ⟨p, 0, none⟩)), (3, .pointer (some ⟨q, 0, none⟩)), (6, .pointer (some ⟨p, 8 + i, none⟩)), (7, .pointer (some ⟨p, 8 + j, none⟩))] (by intro p hp; simp only [List.mem_cons, List.not_mem_nil, or_false] at hp; rcases hp with rfl | rfl | rfl | rfl <;> rfl) (by kernel_rfl) (by kernel_rfl) (by decide) (by kernel_rfl) (by kernel_rfl) ?_
  simp only [List.take_succ_cons, List.take_zero, List.drop_succ_cons, List.drop_zero]
  apply rf_val
  · first | rfl | exact ⟨by kernel_rfl, rfl⟩
  · intro z y hT hf
    obtain ⟨b0, b1, b2⟩ := And.intro (Three.cell0 (HV.out y hT).2) (And.intro (Three.cell1 (HV.out y hT).2) (Three.cell2 (HV.out y hT).2))
    have cm0 := (HV.out y hT).1.mac.mem i hi
    have cm1 := (HV.out y hT).1.mac.mem j hj
    simp at hf
    go_simp
    try rfl
  apply rf_val
  · first | rfl | exact ⟨by kernel_rfl, rfl⟩
  · intro z y hT hf
    obtain ⟨b0, b1, b2⟩ := And.intro (Three.cell0 (HV.out y hT).2) (And.intro (Three.cell1 (HV.out y hT).2) (Three.cell2 (HV.out y hT).2))
    have cm0 := (HV.out y hT).1.mac.mem i hi
    have cm1 := (HV.out y hT).1.mac.mem j hj
    simp at hf
    go_simp
    try rfl
  apply rf_val
  · first | rfl | exact ⟨by kernel_rfl, rfl⟩
  · intro z y hT hf
    obtain ⟨b0, b1, b2⟩ := And.intro (Three.cell0 (HV.out y hT).2) (And.intro (Three.cell1 (HV.out y hT).2) (Three.cell2 (HV.out y hT).2))
    have cm0 := (HV.out y hT).1.mac.mem i hi
    have cm1 := (HV.out y hT).1.mac.mem j hj
    simp at hf
    go_simp
    try rfl
  apply rf_val
  · first | rfl | exact ⟨by kernel_rfl, rfl⟩
  · intro z y hT hf
    obtain ⟨b0, b1, b2⟩ := And.intro (Three.cell0 (HV.out y hT).2) (And.intro (Three.cell1 (HV.out y hT).2) (Three.cell2 (HV.out y hT).2))
    have cm0 := (HV.out y hT).1.mac.mem i hi
    have cm1 := (HV.out y hT).1.mac.mem j hj
    simp at hf
    go_simp
    try rfl
  apply rf_val
  · first | rfl | exact ⟨by kernel_rfl, rfl⟩
  · intro z y hT hf
    obtain ⟨b0, b1, b2⟩ := And.intro (Three.cell0 (HV.out y hT).2) (And.intro (Three.cell1 (HV.out y hT).2) (Three.cell2 (HV.out y hT).2))
    have cm0 := (HV.out y hT).1.mac.mem i hi
    have cm1 := (HV.out y hT).1.mac.mem j hj
    simp at hf
    go_simp
    try rfl
  apply rf_val
  · first | rfl | exact ⟨by kernel_rfl, rfl⟩
  · intro z y hT hf
    obtain ⟨b0, b1, b2⟩ := And.intro (Three.cell0 (HV.out y hT).2) (And.intro (Three.cell1 (HV.out y hT).2) (Three.cell2 (HV.out y hT).2))
    have cm0 := (HV.out y hT).1.mac.mem i hi
    have cm1 := (HV.out y hT).1.mac.mem j hj
    simp at hf
    go_simp
    try rfl
  apply rf_val
  · first | rfl | exact ⟨by kernel_rfl, rfl⟩
  · intro z y hT hf
    obtain ⟨b0, b1, b2⟩ := And.intro (Three.cell0 (HV.out y hT).2) (And.intro (Three.cell1 (HV.out y hT).2) (Three.cell2 (HV.out y hT).2))
    have cm0 := (HV.out y hT).1.mac.mem i hi
    have cm1 := (HV.out y hT).1.mac.mem j hj
    simp at hf
    go_simp
    try rfl
  apply rf_val
  · first | rfl | exact ⟨by kernel_rfl, rfl⟩
  · intro z y hT hf
    obtain ⟨b0, b1, b2⟩ := And.intro (Three.cell0 (HV.out y hT).2) (And.intro (Three.cell1 (HV.out y hT).2) (Three.cell2 (HV.out y hT).2))
    have cm0 := (HV.out y hT).1.mac.mem i hi
    have cm1 := (HV.out y hT).1.mac.mem j hj
    simp at hf
    go_simp
    try rfl
  apply rf_val
  · first | rfl | exact ⟨by kernel_rfl, rfl⟩
  · intro z y hT hf
    obtain ⟨b0, b1, b2⟩ := And.intro (Three.cell0 (HV.out y hT).2) (And.intro (Three.cell1 (HV.out y hT).2) (Three.cell2 (HV.out y hT).2))
    have cm0 := (HV.out y hT).1.mac.mem i hi
    have cm1 := (HV.out y hT).1.mac.mem j hj
    simp at hf
    go_simp
    try rfl
  apply rf_val
  · first | rfl | exact ⟨by kernel_rfl, rfl⟩
  · intro z y hT hf
    obtain ⟨b0, b1, b2⟩ := And.intro (Three.cell0 (HV.out y hT).2) (And.intro (Three.cell1 (HV.out y hT).2) (Three.cell2 (HV.out y hT).2))
    have cm0 := (HV.out y hT).1.mac.mem i hi
    have cm1 := (HV.out y hT).1.mac.mem j hj
    simp at hf
    go_simp
    try rfl
  refine rf_eff (fun _ v => v = .int .i64 (Rule.reckon 6 (Rule.reg m.b i) (Rule.reg m.b j))) (by first | rfl | exact ⟨by kernel_rfl, rfl⟩) (fun _ _ _ _ h => h) (fun z y hT hf => ?_) ?_
  · simp at hf
    go_simp
    refine (reckon_any (HV.out y hT).1.mac 6 _ _ (by omega) hx hy (fun e => h0 e.2)).mono ?_
    rintro e y2 ⟨rfl, rfl⟩
    exact ⟨_, rfl, rfl, Only.refl _ _⟩
  refine rf_eff (fun _ v => v = .int .i64 (Rule.clamp (Rule.reckon 6 (Rule.reg m.b i) (Rule.reg m.b j)))) (by first | rfl | exact ⟨by kernel_rfl, rfl⟩) (fun _ _ _ _ h => h) (fun z y hT hf => ?_) ?_
  · simp at hf
    go_simp
    refine (asReg_any _ _).mono ?_
    rintro e y2 ⟨rfl, rfl⟩
    exact ⟨_, rfl, rfl, Only.refl _ _⟩
  apply rf_val
  · first | rfl | exact ⟨by kernel_rfl, rfl⟩
  · intro z y hT hf
    obtain ⟨b0, b1, b2⟩ := And.intro (Three.cell0 (HV.out y hT).2) (And.intro (Three.cell1 (HV.out y hT).2) (Three.cell2 (HV.out y hT).2))
    simp at hf
    go_simp
    try rfl
  intro w3 hw
  simp only [FinA, Sp.R, forall_eq]
  simp only [Act.put, List.setIfInBounds_toArray, List.set_cons_succ, List.set_cons_zero]
  have H2 : Hid (St B p w3 m sh n ∧ Only [] w w3 ∧ OpBox w3 q (6) ((i : Nat)) ((j : Nat))) := ⟨(HV.out w3 hw).1, H1.out.2.1.trans ((only_drew w2).trans hw), (HV.out w3 hw).2⟩
  clear hw HV H1
  have fz := H2.out.1.mac.frozen
  have cm := H2.out.1.mac.mem i hi
  go_wp2_with fail
  go_ret
  exact doPost_own HR.out rfl H2.out.1 H2.out.2.1 (H2.out.1.mac.setr i hi _) ((Only.refl _ _).setCell (by simp) _) rfl
set_option maxRecDepth 100000 in
set_option maxHeartbeats 1000000 in
theorem do_6a {B p n : Nat} {w : World} {m : Mch} {sh : List Bd} (h : St B p w m sh n) (a b : Int) (ha : Rule.is a = false) (hr : Rule.act n m.at_ ⟨6, a, b⟩ (m.e sh) = .fault 2) : Calls Try.prog 93 #[.pointer (some ⟨p, 0, none⟩), .agg #[.int .i64 (6), .int .i64 (a), .int .i64 (b)]] w (DoPost B p w m (Rule.act n m.at_ ⟨6, a, b⟩ (m.e sh))) := by
  have HR : Hid _ := hr
  clear hr
  generalize Rule.act n m.at_ ⟨6, a, b⟩ (m.e sh) = RR at *
  have k1 := h.at0
  have k2 := h.at1
  have k3 := h.few
  have wn : IntKind.i64.wrap (m.at_ + 1) = m.at_ + 1 := IntWalk.i64_in _ (by omega)
  have c19 := h.mac.at_
  have H0 : Hid _ := h
  have O0 : Hid (OpBox (w.alloc (.cells #[.int .i64 (6), .int .i64 (a), .int .i64 (b)] 23)) w.heap.size (6) (a) (b)) := Three.new _ _ _ _ _
  have lp := h.mac.lt
  clear h
  go_enter Try.func93, Try.ntmps93
  go_wp2_with fail
  have H1 : Hid (St B p (w.alloc (.cells #[.int .i64 (6), .int .i64 (a), .int .i64 (b)] 23)) m sh n ∧ Only [] w (w.alloc (.cells #[.int .i64 (6), .int .i64 (a), .int .i64 (b)] 23)) ∧ OpBox (w.alloc (.cells #[.int .i64 (6), .int .i64 (a), .int .i64 (b)] 23)) w.heap.size (6) (a) (b)) := ⟨H0.out.only ((Only.refl _ _).alloc _), (Only.refl _ _).alloc _, O0.out⟩
  generalize w.alloc (.cells #[.int .i64 (6), .int .i64 (a), .int .i64 (b)] 23) = W at *
  generalize w.heap.size = q at *
  clear H0 c19 O0
  have HV : Hid (∀ y, Only [] W.drew y → St B p y m sh n ∧ OpBox y q (6) (a) (b)) := fun y hy => ⟨H1.out.1.only ((only_drew W).trans hy), Three.only H1.out.2.2 ((only_drew W).trans hy) (by simp)⟩
  refine wp_region_fate (fun chain y => chain = [{ v := thrownV 2 m.at_, recovered := false }] ∧ Only [] w y) (by rintro chain a' y hd ⟨rfl, ho⟩; exact ⟨hd, doPost_fault HR.out rfl ho⟩) 10 (Only []) (Only.refl _) Only.trans [(0, .pointer (some ⟨p, 0, none⟩)), (3, .pointer (some ⟨q, 0, none⟩))] (by intro p hp; simp only [List.mem_cons, List.not_mem_nil, or_false] at hp; rcases hp with rfl | rfl <;> rfl) (by kernel_rfl) (by kernel_rfl) (by decide) (by kernel_rfl) (by kernel_rfl) ?_
  simp only [List.take_succ_cons, List.take_zero, List.drop_succ_cons, List.drop_zero]
  apply rd_val
  · first | rfl | exact ⟨by kernel_rfl, rfl⟩
  · intro z y hT hf
    obtain ⟨b0, b1, b2⟩ := And.intro (Three.cell0 (HV.out y hT).2) (And.intro (Three.cell1 (HV.out y hT).2) (Three.cell2 (HV.out y hT).2))
    simp at hf
    go_simp
    try rfl
  apply rd_val
  · first | rfl | exact ⟨by kernel_rfl, rfl⟩
  · intro z y hT hf
    obtain ⟨b0, b1, b2⟩ := And.intro (Three.cell0 (HV.out y hT).2) (And.intro (Three.cell1 (HV.out y hT).2) (Three.cell2 (HV.out y hT).2))
    simp at hf
    go_simp
    try rfl
  apply rd_val
  · first | rfl | exact ⟨by kernel_rfl, rfl⟩
  · intro z y hT hf
    obtain ⟨b0, b1, b2⟩ := And.intro (Three.cell0 (HV.out y hT).2) (And.intro (Three.cell1 (HV.out y hT).2) (Three.cell2 (HV.out y hT).2))
    simp at hf
    go_simp
    try rfl
  refine rd_die (by first | rfl | exact ⟨by kernel_rfl, rfl⟩) (fun z y hT hf => ?_) ?_
  · simp at hf
    go_simp
    refine (reg_no (HV.out y hT).1.mac a ha).mono ?_
    rintro e y2 ⟨rfl, rfl⟩
    exact ⟨_, rfl, rfl, H1.out.2.1.trans ((only_drew W).trans hT)⟩
  apply rd_val
  · first | rfl | exact ⟨by kernel_rfl, rfl⟩
  · intro z y hT hf
    obtain ⟨b0, b1, b2⟩ := And.intro (Three.cell0 (HV.out y hT).2) (And.intro (Three.cell1 (HV.out y hT).2) (Three.cell2 (HV.out y hT).2))
    simp at hf
    go_simp
    try rfl
  apply rd_val
  · first | rfl | exact ⟨by kernel_rfl, rfl⟩
  · intro z y hT hf
    obtain ⟨b0, b1, b2⟩ := And.intro (Three.cell0 (HV.out y hT).2) (And.intro (Three.cell1 (HV.out y hT).2) (Three.cell2 (HV.out y hT).2))
    simp at hf
    go_simp
    try rfl
  apply rd_val
  · first | rfl | exact ⟨by kernel_rfl, rfl⟩
  · intro z y hT hf
    obtain ⟨b0, b1, b2⟩ := And.intro (Three.cell0 (HV.out y hT).2) (And.intro (Three.cell1 (HV.out y hT).2) (Three.cell2 (HV.out y hT).2))
    simp at hf
    go_simp
    try rfl
  refine rd_not (by first | rfl | exact ⟨by kernel_rfl, rfl⟩) (fun z y hT hf => (by simp at hf)) ?_
  refine rd_not (by first | rfl | exact ⟨by kernel_rfl, rfl⟩) (fun z y hT hf => (by simp at hf)) ?_
  refine rd_not (by first | rfl | exact ⟨by kernel_rfl, rfl⟩) (fun z y hT hf => (by simp at hf)) ?_
  intro w2 hy
  simp only [FinA, Sp.R, forall_eq]
  first | exact False.elim | (intro v hv; exact hv.elim) | (intro v hv v2 hv2; exact hv2.elim) | (intro v hv; exact fun _ h => h.elim)
set_option maxRecDepth 100000 in
set_option maxHeartbeats 1000000 in
theorem do_6b {B p n : Nat} {w : World} {m : Mch} {sh : List Bd} (h : St B p w m sh n) (i : Nat) (b : Int) (hi : i < 4) (hb : Rule.is b = false) (hr : Rule.act n m.at_ ⟨6, (i : Nat), b⟩ (m.e sh) = .fault 2) : Calls Try.prog 93 #[.pointer (some ⟨p, 0, none⟩), .agg #[.int .i64 (6), .int .i64 ((i : Nat)), .int .i64 (b)]] w (DoPost B p w m (Rule.act n m.at_ ⟨6, (i : Nat), b⟩ (m.e sh))) := by
  have HR : Hid _ := hr
  clear hr
  generalize Rule.act n m.at_ ⟨6, (i : Nat), b⟩ (m.e sh) = RR at *
  have k1 := h.at0
  have k2 := h.at1
  have k3 := h.few
  have wn : IntKind.i64.wrap (m.at_ + 1) = m.at_ + 1 := IntWalk.i64_in _ (by omega)
  have c19 := h.mac.at_
  have H0 : Hid _ := h
  have O0 : Hid (OpBox (w.alloc (.cells #[.int .i64 (6), .int .i64 ((i : Nat)), .int .i64 (b)] 23)) w.heap.size (6) ((i : Nat)) (b)) := Three.new _ _ _ _ _
  have lp := h.mac.lt
  clear h
  go_enter Try.func93, Try.ntmps93
  go_wp2_with fail
  have H1 : Hid (St B p (w.alloc (.cells #[.int .i64 (6), .int .i64 ((i : Nat)), .int .i64 (b)] 23)) m sh n ∧ Only [] w (w.alloc (.cells #[.int .i64 (6), .int .i64 ((i : Nat)), .int .i64 (b)] 23)) ∧ OpBox (w.alloc (.cells #[.int .i64 (6), .int .i64 ((i : Nat)), .int .i64 (b)] 23)) w.heap.size (6) ((i : Nat)) (b)) := ⟨H0.out.only ((Only.refl _ _).alloc _), (Only.refl _ _).alloc _, O0.out⟩
  generalize w.alloc (.cells #[.int .i64 (6), .int .i64 ((i : Nat)), .int .i64 (b)] 23) = W at *
  generalize w.heap.size = q at *
  clear H0 c19 O0
  have HV : Hid (∀ y, Only [] W.drew y → St B p y m sh n ∧ OpBox y q (6) ((i : Nat)) (b)) := fun y hy => ⟨H1.out.1.only ((only_drew W).trans hy), Three.only H1.out.2.2 ((only_drew W).trans hy) (by simp)⟩
  refine wp_region_fate (fun chain y => chain = [{ v := thrownV 2 m.at_, recovered := false }] ∧ Only [] w y) (by rintro chain a' y hd ⟨rfl, ho⟩; exact ⟨hd, doPost_fault HR.out rfl ho⟩) 10 (Only []) (Only.refl _) Only.trans [(0, .pointer (some ⟨p, 0, none⟩)), (3, .pointer (some ⟨q, 0, none⟩))] (by intro p hp; simp only [List.mem_cons, List.not_mem_nil, or_false] at hp; rcases hp with rfl | rfl <;> rfl) (by kernel_rfl) (by kernel_rfl) (by decide) (by kernel_rfl) (by kernel_rfl) ?_
  simp only [List.take_succ_cons, List.take_zero, List.drop_succ_cons, List.drop_zero]
  apply rd_val
  · first | rfl | exact ⟨by kernel_rfl, rfl⟩
  · intro z y hT hf
    obtain ⟨b0, b1, b2⟩ := And.intro (Three.cell0 (HV.out y hT).2) (And.intro (Three.cell1 (HV.out y hT).2) (Three.cell2 (HV.out y hT).2))
    simp at hf
    go_simp
    try rfl
  apply rd_val
  · first | rfl | exact ⟨by kernel_rfl, rfl⟩
  · intro z y hT hf
    obtain ⟨b0, b1, b2⟩ := And.intro (Three.cell0 (HV.out y hT).2) (And.intro (Three.cell1 (HV.out y hT).2) (Three.cell2 (HV.out y hT).2))
    simp at hf
    go_simp
    try rfl
  apply rd_val
  · first | rfl | exact ⟨by kernel_rfl, rfl⟩
  · intro z y hT hf
    obtain ⟨b0, b1, b2⟩ := And.intro (Three.cell0 (HV.out y hT).2) (And.intro (Three.cell1 (HV.out y hT).2) (Three.cell2 (HV.out y hT).2))
    simp at hf
    go_simp
    try rfl
  refine rd_eff (fun _ v => v = .pointer (some ⟨p, 8 + i, none⟩)) (by first | rfl | exact ⟨by kernel_rfl, rfl⟩) (fun _ _ _ _ h => h) (fun z y hT hf => ?_) ?_
  · simp at hf
    go_simp
    refine (reg_yes (HV.out y hT).1.mac i hi).mono ?_
    rintro e y2 ⟨rfl, rfl⟩
    exact ⟨_, rfl, rfl, Only.refl _ _⟩
  apply rd_val
  · first | rfl | exact ⟨by kernel_rfl, rfl⟩
  · intro z y hT hf
    obtain ⟨b0, b1, b2⟩ := And.intro (Three.cell0 (HV.out y hT).2) (And.intro (Three.cell1 (HV.out y hT).2) (Three.cell2 (HV.out y hT).2))
    simp at hf
    go_simp
    try rfl
  apply rd_val
  · first | rfl | exact ⟨by kernel_rfl, rfl⟩
  · intro z y hT hf
    obtain ⟨b0, b1, b2⟩ := And.intro (Three.cell0 (HV.out y hT).2) (And.intro (Three.cell1 (HV.out y hT).2) (Three.cell2 (HV.out y hT).2))
    simp at hf
    go_simp
    try rfl
  apply rd_val
  · first | rfl | exact ⟨by kernel_rfl, rfl⟩
  · intro z y hT hf
    obtain ⟨b0, b1, b2⟩ := And.intro (Three.cell0 (HV.out y hT).2) (And.intro (Three.cell1 (HV.out y hT).2) (Three.cell2 (HV.out y hT).2))
    simp at hf
    go_simp
    try rfl
  refine rd_die (by first | rfl | exact ⟨by kernel_rfl, rfl⟩) (fun z y hT hf => ?_) ?_
  · simp at hf
    go_simp
    refine (reg_no (HV.out y hT).1.mac b hb).mono ?_
    rintro e y2 ⟨rfl, rfl⟩
    exact ⟨_, rfl, rfl, H1.out.2.1.trans ((only_drew W).trans hT)⟩
  refine rd_not (by first | rfl | exact ⟨by kernel_rfl, rfl⟩) (fun z y hT hf => (by simp at hf)) ?_
  refine rd_not (by first | rfl | exact ⟨by kernel_rfl, rfl⟩) (fun z y hT hf => (by simp at hf)) ?_
  intro w2 hy
  simp only [FinA, Sp.R, forall_eq]
  first | exact False.elim | (intro v hv; exact hv.elim) | (intro v hv v2 hv2; exact hv2.elim) | (intro v hv; exact fun _ h => h.elim)
set_option maxRecDepth 100000 in
set_option maxHeartbeats 1000000 in
theorem do_6z {B p n : Nat} {w : World} {m : Mch} {sh : List Bd} (h : St B p w m sh n) (i j : Nat) (hi : i < 4) (hj : j < 4) (h0 : Rule.reg m.b j = 0) (hr : Rule.act n m.at_ ⟨6, (i : Nat), (j : Nat)⟩ (m.e sh) = .fault 1) : Calls Try.prog 93 #[.pointer (some ⟨p, 0, none⟩), .agg #[.int .i64 (6), .int .i64 ((i : Nat)), .int .i64 ((j : Nat))]] w (DoPost B p w m (Rule.act n m.at_ ⟨6, (i : Nat), (j : Nat)⟩ (m.e sh))) := by
  have HR : Hid _ := hr
  clear hr
  generalize Rule.act n m.at_ ⟨6, (i : Nat), (j : Nat)⟩ (m.e sh) = RR at *
  have k1 := h.at0
  have k2 := h.at1
  have k3 := h.few
  have wn : IntKind.i64.wrap (m.at_ + 1) = m.at_ + 1 := IntWalk.i64_in _ (by omega)
  have c19 := h.mac.at_
  have H0 : Hid _ := h
  have O0 : Hid (OpBox (w.alloc (.cells #[.int .i64 (6), .int .i64 ((i : Nat)), .int .i64 ((j : Nat))] 23)) w.heap.size (6) ((i : Nat)) ((j : Nat))) := Three.new _ _ _ _ _
  have lp := h.mac.lt
  clear h
  go_enter Try.func93, Try.ntmps93
  go_wp2_with fail
  have H1 : Hid (St B p (w.alloc (.cells #[.int .i64 (6), .int .i64 ((i : Nat)), .int .i64 ((j : Nat))] 23)) m sh n ∧ Only [] w (w.alloc (.cells #[.int .i64 (6), .int .i64 ((i : Nat)), .int .i64 ((j : Nat))] 23)) ∧ OpBox (w.alloc (.cells #[.int .i64 (6), .int .i64 ((i : Nat)), .int .i64 ((j : Nat))] 23)) w.heap.size (6) ((i : Nat)) ((j : Nat))) := ⟨H0.out.only ((Only.refl _ _).alloc _), (Only.refl _ _).alloc _, O0.out⟩
  generalize w.alloc (.cells #[.int .i64 (6), .int .i64 ((i : Nat)), .int .i64 ((j : Nat))] 23) = W at *
  generalize w.heap.size = q at *
  clear H0 c19 O0
  have HV : Hid (∀ y, Only [] W.drew y → St B p y m sh n ∧ OpBox y q (6) ((i : Nat)) ((j : Nat))) := fun y hy => ⟨H1.out.1.only ((only_drew W).trans hy), Three.only H1.out.2.2 ((only_drew W).trans hy) (by simp)⟩
  refine wp_region_free 10 (Only []) (Only.refl _) Only.trans [(0, .pointer (some ⟨p, 0, none⟩)), (3, .pointer (some ⟨q, 0, none⟩))] (by intro p hp; simp only [List.mem_cons, List.not_mem_nil, or_false] at hp; rcases hp with rfl | rfl <;> rfl) (by kernel_rfl) (by kernel_rfl) (by decide) (by kernel_rfl) (by kernel_rfl) ?_
  simp only [List.take_succ_cons, List.take_zero, List.drop_succ_cons, List.drop_zero]
  apply rf_val
  · first | rfl | exact ⟨by kernel_rfl, rfl⟩
  · intro z y hT hf
    obtain ⟨b0, b1, b2⟩ := And.intro (Three.cell0 (HV.out y hT).2) (And.intro (Three.cell1 (HV.out y hT).2) (Three.cell2 (HV.out y hT).2))
    simp at hf
    go_simp
    try rfl
  apply rf_val
  · first | rfl | exact ⟨by kernel_rfl, rfl⟩
  · intro z y hT hf
    obtain ⟨b0, b1, b2⟩ := And.intro (Three.cell0 (HV.out y hT).2) (And.intro (Three.cell1 (HV.out y hT).2) (Three.cell2 (HV.out y hT).2))
    simp at hf
    go_simp
    try rfl
  apply rf_val
  · first | rfl | exact ⟨by kernel_rfl, rfl⟩
  · intro z y hT hf
    obtain ⟨b0, b1, b2⟩ := And.intro (Three.cell0 (HV.out y hT).2) (And.intro (Three.cell1 (HV.out y hT).2) (Three.cell2 (HV.out y hT).2))
    simp at hf
    go_simp
    try rfl
  refine rf_eff (fun _ v => v = .pointer (some ⟨p, 8 + i, none⟩)) (by first | rfl | exact ⟨by kernel_rfl, rfl⟩) (fun _ _ _ _ h => h) (fun z y hT hf => ?_) ?_
  · simp at hf
    go_simp
    refine (reg_yes (HV.out y hT).1.mac i hi).mono ?_
    rintro e y2 ⟨rfl, rfl⟩
    exact ⟨_, rfl, rfl, Only.refl _ _⟩
  apply rf_val
  · first | rfl | exact ⟨by kernel_rfl, rfl⟩
  · intro z y hT hf
    obtain ⟨b0, b1, b2⟩ := And.intro (Three.cell0 (HV.out y hT).2) (And.intro (Three.cell1 (HV.out y hT).2) (Three.cell2 (HV.out y hT).2))
    simp at hf
    go_simp
    try rfl
  apply rf_val
  · first | rfl | exact ⟨by kernel_rfl, rfl⟩
  · intro z y hT hf
    obtain ⟨b0, b1, b2⟩ := And.intro (Three.cell0 (HV.out y hT).2) (And.intro (Three.cell1 (HV.out y hT).2) (Three.cell2 (HV.out y hT).2))
    simp at hf
    go_simp
    try rfl
  apply rf_val
  · first | rfl | exact ⟨by kernel_rfl, rfl⟩
  · intro z y hT hf
    obtain ⟨b0, b1, b2⟩ := And.intro (Three.cell0 (HV.out y hT).2) (And.intro (Three.cell1 (HV.out y hT).2) (Three.cell2 (HV.out y hT).2))
    simp at hf
    go_simp
    try rfl
  refine rf_eff (fun _ v => v = .pointer (some ⟨p, 8 + j, none⟩)) (by first | rfl | exact ⟨by kernel_rfl, rfl⟩) (fun _ _ _ _ h => h) (fun z y hT hf => ?_) ?_
  · simp at hf
    go_simp
    refine (reg_yes (HV.out y hT).1.mac j hj).mono ?_
    rintro e y2 ⟨rfl, rfl⟩
    exact ⟨_, rfl, rfl, Only.refl _ _⟩
  apply rf_val
  · first | rfl | exact ⟨by kernel_rfl, rfl⟩
  · intro z y hT hf
    obtain ⟨b0, b1, b2⟩ := And.intro (Three.cell0 (HV.out y hT).2) (And.intro (Three.cell1 (HV.out y hT).2) (Three.cell2 (HV.out y hT).2))
    simp at hf
    go_simp
    try rfl
  apply rf_val
  · first | rfl | exact ⟨by kernel_rfl, rfl⟩
  · intro z y hT hf
    obtain ⟨b0, b1, b2⟩ := And.intro (Three.cell0 (HV.out y hT).2) (And.intro (Three.cell1 (HV.out y hT).2) (Three.cell2 (HV.out y hT).2))
    simp at hf
    go_simp
    try rfl
  intro w2 hy
  simp only [FinA, Sp.R, forall_eq]
  simp only [Act.put, List.setIfInBounds_toArray, List.set_cons_succ, List.set_cons_zero]
  have H2 : Hid (St B p w2 m sh n ∧ Only [] w w2 ∧ OpBox w2 q (6) ((i : Nat)) ((j : Nat))) := ⟨(HV.out w2 hy).1, H1.out.2.1.trans ((only_drew W).trans hy), (HV.out w2 hy).2⟩
  clear hy HV H1
  go_wp2_with fail
  have H1 : Hid _ := H2.out
  clear H2
  have HV : Hid (∀ y, Only [] w2.drew y → St B p y m sh n ∧ OpBox y q (6) ((i : Nat)) ((j : Nat))) := fun y hy => ⟨H1.out.1.only ((only_drew w2).trans hy), Three.only H1.out.2.2 ((only_drew w2).trans hy) (by simp)⟩
  refine wp_region_fate (fun chain y => chain = [{ v := thrownV 1 m.at_, recovered := false }] ∧ Only [] w y) (by rintro chain a' y hd ⟨rfl, ho⟩; exact ⟨hd, doPost_fault HR.out rfl ho⟩) 14 (Only []) (Only.refl _) Only.trans [(0, .pointer (some ⟨p, 0, none⟩)), (3, .pointer (some ⟨q, 0, none⟩)), (6, .pointer (some ⟨p, 8 + i, none⟩)), (7, .pointer (some ⟨p, 8 + j, none⟩))] (by intro p hp; simp only [List.mem_cons, List.not_mem_nil, or_false] at hp; rcases hp with rfl | rfl | rfl | rfl <;> rfl) (by kernel_rfl) (by kernel_rfl) (by decide) (by kernel_rfl) (by kernel_rfl) ?_
  simp only [List.take_succ_cons, List.take_zero, List.drop_succ_cons, List.drop_zero]
  apply rd_val
  · first | rfl | exact ⟨by kernel_rfl, rfl⟩
  · intro z y hT hf
    obtain ⟨b0, b1, b2⟩ := And.intro (Three.cell0 (HV.out y hT).2) (And.intro (Three.cell1 (HV.out y hT).2) (Three.cell2 (HV.out y hT).2))
    have cm0 := (HV.out y hT).1.mac.mem i hi
    have cm1 := (HV.out y hT).1.mac.mem j hj
    simp at hf
    go_simp
    try rfl
  apply rd_val
  · first | rfl | exact ⟨by kernel_rfl, rfl⟩
  · intro z y hT hf
    obtain ⟨b0, b1, b2⟩ := And.intro (Three.cell0 (HV.out y hT).2) (And.intro (Three.cell1 (HV.out y hT).2) (Three.cell2 (HV.out y hT).2))
    have cm0 := (HV.out y hT).1.mac.mem i hi
    have cm1 := (HV.out y hT).1.mac.mem j hj
    simp at hf
    go_simp
    try rfl
  apply rd_val
  · first | rfl | exact ⟨by kernel_rfl, rfl⟩
  · intro z y hT hf
    obtain ⟨b0, b1, b2⟩ := And.intro (Three.cell0 (HV.out y hT).2) (And.intro (Three.cell1 (HV.out y hT).2) (Three.cell2 (HV.out y hT).2))
    have cm0 := (HV.out y hT).1.mac.mem i hi
    have cm1 := (HV.out y hT).1.mac.mem j hj
    simp at hf
    go_simp
    try rfl
  apply rd_val
  · first | rfl | exact ⟨by kernel_rfl, rfl⟩
  · intro z y hT hf
    obtain ⟨b0, b1, b2⟩ := And.intro (Three.cell0 (HV.out y hT).2) (And.intro (Three.cell1 (HV.out y hT).2) (Three.cell2 (HV.out y hT).2))
    have cm0 := (HV.out y hT).1.mac.mem i hi
    have cm1 := (HV.out y hT).1.mac.mem j hj
    simp at hf
    go_simp
    try rfl
  apply rd_val
  · first | rfl | exact ⟨by kernel_rfl, rfl⟩
  · intro z y hT hf
    obtain ⟨b0, b1, b2⟩ := And.intro (Three.cell0 (HV.out y hT).2) (And.intro (Three.cell1 (HV.out y hT).2) (Three.cell2 (HV.out y hT).2))
    have cm0 := (HV.out y hT).1.mac.mem i hi
    have cm1 := (HV.out y hT).1.mac.mem j hj
    simp at hf
    go_simp
    try rfl
  apply rd_val
  · first | rfl | exact ⟨by kernel_rfl, rfl⟩
  · intro z y hT hf
    obtain ⟨b0, b1, b2⟩ := And.intro (Three.cell0 (HV.out y hT).2) (And.intro (Three.cell1 (HV.out y hT).2) (Three.cell2 (HV.out y hT).2))
    have cm0 := (HV.out y hT).1.mac.mem i hi
    have cm1 := (HV.out y hT).1.mac.mem j hj
    simp at hf
    go_simp
    try rfl
  apply rd_val
  · first | rfl | exact ⟨by kernel_rfl, rfl⟩
  · intro z y hT hf
    obtain ⟨b0, b1, b2⟩ := And.intro (Three.cell0 (HV.out y hT).2) (And.intro (Three.cell1 (HV.out y hT).2) (Three.cell2 (HV.out y hT).2))
    have cm0 := (HV.out y hT).1.mac.mem i hi
    have cm1 := (HV.out y hT).1.mac.mem j hj
    simp at hf
    go_simp
    try rfl
  apply rd_val
  · first | rfl | exact ⟨by kernel_rfl, rfl⟩
  · intro z y hT hf
    obtain ⟨b0, b1, b2⟩ := And.intro (Three.cell0 (HV.out y hT).2) (And.intro (Three.cell1 (HV.out y hT).2) (Three.cell2 (HV.out y hT).2))
    have cm0 := (HV.out y hT).1.mac.mem i hi
    have cm1 := (HV.out y hT).1.mac.mem j hj
    simp at hf
    go_simp
    try rfl
  apply rd_val
  · first | rfl | exact ⟨by kernel_rfl, rfl⟩
  · intro z y hT hf
    obtain ⟨b0, b1, b2⟩ := And.intro (Three.cell0 (HV.out y hT).2) (And.intro (Three.cell1 (HV.out y hT).2) (Three.cell2 (HV.out y hT).2))
    have cm0 := (HV.out y hT).1.mac.mem i hi
    have cm1 := (HV.out y hT).1.mac.mem j hj
    simp at hf
    go_simp
    try rfl
  apply rd_val
  · first | rfl | exact ⟨by kernel_rfl, rfl⟩
  · intro z y hT hf
    obtain ⟨b0, b1, b2⟩ := And.intro (Three.cell0 (HV.out y hT).2) (And.intro (Three.cell1 (HV.out y hT).2) (Three.cell2 (HV.out y hT).2))
    have cm0 := (HV.out y hT).1.mac.mem i hi
    have cm1 := (HV.out y hT).1.mac.mem j hj
    simp at hf
    go_simp
    try rfl
  refine rd_die (by first | rfl | exact ⟨by kernel_rfl, rfl⟩) (fun z y hT hf => ?_) ?_
  · simp at hf
    go_simp
    refine (reckon_0 (HV.out y hT).1.mac _).mono ?_
    rintro e y2 ⟨rfl, rfl⟩
    exact ⟨_, rfl, rfl, H1.out.2.1.trans ((only_drew w2).trans hT)⟩
  refine rd_not (by first | rfl | exact ⟨by kernel_rfl, rfl⟩) (fun z y hT hf => (by simp at hf)) ?_
  refine rd_not (by first | rfl | exact ⟨by kernel_rfl, rfl⟩) (fun z y hT hf => (by simp at hf)) ?_
  refine rd_not (by first | rfl | exact ⟨by kernel_rfl, rfl⟩) (fun z y hT hf => (by simp at hf)) ?_
  intro w3 hw
  simp only [FinA, Sp.R, forall_eq]
  first | exact False.elim | (intro v hv; exact hv.elim) | (intro v hv v2 hv2; exact hv2.elim) | (intro v hv; exact fun _ h => h.elim)
end Go.Proofs.Ytngbannidbijmaa
namespace Go.Proofs.Ytngbannidbijmaa
open Go.RowKit
set_option linter.unusedVariables false
set_option maxRecDepth 100000 in
set_option maxHeartbeats 1000000 in
theorem do_7y {B p n : Nat} {w : World} {m : Mch} {sh : List Bd} (h : St B p w m sh n) (i : Nat) (hi : i < 4) (b : Int) (hb : Body.btw b 0 7 = true) (hr : Rule.act n m.at_ ⟨7, (i : Nat), b⟩ (m.e sh) = .next { m.e sh with b := Rule.setr m.b i (Rule.clamp (Rule.field (m.e sh) b)) } (m.at_ + 1)) : Calls Try.prog 93 #[.pointer (some ⟨p, 0, none⟩), .agg #[.int .i64 (7), .int .i64 ((i : Nat)), .int .i64 (b)]] w (DoPost B p w m (Rule.act n m.at_ ⟨7, (i : Nat), b⟩ (m.e sh))) := by
  have HR : Hid _ := hr
  clear hr
  generalize Rule.act n m.at_ ⟨7, (i : Nat), b⟩ (m.e sh) = RR at *
  have k1 := h.at0
  have k2 := h.at1
  have k3 := h.few
  have wn : IntKind.i64.wrap (m.at_ + 1) = m.at_ + 1 := IntWalk.i64_in _ (by omega)
  have c19 := h.mac.at_
  have H0 : Hid _ := h
  have O0 : Hid (OpBox (w.alloc (.cells #[.int .i64 (7), .int .i64 ((i : Nat)), .int .i64 (b)] 23)) w.heap.size (7) ((i : Nat)) (b)) := Three.new _ _ _ _ _
  have lp := h.mac.lt
  clear h
  go_enter Try.func93, Try.ntmps93
  go_wp2_with fail
  have H1 : Hid (St B p (w.alloc (.cells #[.int .i64 (7), .int .i64 ((i : Nat)), .int .i64 (b)] 23)) m sh n ∧ Only [] w (w.alloc (.cells #[.int .i64 (7), .int .i64 ((i : Nat)), .int .i64 (b)] 23)) ∧ OpBox (w.alloc (.cells #[.int .i64 (7), .int .i64 ((i : Nat)), .int .i64 (b)] 23)) w.heap.size (7) ((i : Nat)) (b)) := ⟨H0.out.only ((Only.refl _ _).alloc _), (Only.refl _ _).alloc _, O0.out⟩
  generalize w.alloc (.cells #[.int .i64 (7), .int .i64 ((i : Nat)), .int .i64 (b)] 23) = W at *
  generalize w.heap.size = q at *
  clear H0 c19 O0
  refine (reg_yes H1.out.1.mac i hi).mono ?_
  rintro e w' ⟨rfl, rfl⟩
  obtain ⟨b0, b1, b2⟩ := And.intro (Three.cell0 H1.out.2.2) (And.intro (Three.cell1 H1.out.2.2) (Three.cell2 H1.out.2.2))
  go_wp2_with fail
  refine (field_yes H1.out.1.mac sh b hb).mono ?_
  rintro e w' ⟨rfl, rfl⟩
  go_wp2_with fail
  refine (asReg_any _ _).mono ?_
  rintro e w' ⟨rfl, rfl⟩
  have fz := H1.out.1.mac.frozen
  have cm := H1.out.1.mac.mem i hi
  go_wp2_with fail
  go_ret
  exact doPost_own HR.out rfl H1.out.1 H1.out.2.1 (H1.out.1.mac.setr i hi _) ((Only.refl _ _).setCell (by simp) _) rfl
set_option maxRecDepth 100000 in
set_option maxHeartbeats 1000000 in
theorem do_7a {B p n : Nat} {w : World} {m : Mch} {sh : List Bd} (h : St B p w m sh n) (a b : Int) (ha : Rule.is a = false) (hr : Rule.act n m.at_ ⟨7, a, b⟩ (m.e sh) = .fault 2) : Calls Try.prog 93 #[.pointer (some ⟨p, 0, none⟩), .agg #[.int .i64 (7), .int .i64 (a), .int .i64 (b)]] w (DoPost B p w m (Rule.act n m.at_ ⟨7, a, b⟩ (m.e sh))) := by
  have HR : Hid _ := hr
  clear hr
  generalize Rule.act n m.at_ ⟨7, a, b⟩ (m.e sh) = RR at *
  have k1 := h.at0
  have k2 := h.at1
  have k3 := h.few
  have wn : IntKind.i64.wrap (m.at_ + 1) = m.at_ + 1 := IntWalk.i64_in _ (by omega)
  have c19 := h.mac.at_
  have H0 : Hid _ := h
  have O0 : Hid (OpBox (w.alloc (.cells #[.int .i64 (7), .int .i64 (a), .int .i64 (b)] 23)) w.heap.size (7) (a) (b)) := Three.new _ _ _ _ _
  have lp := h.mac.lt
  clear h
  go_enter Try.func93, Try.ntmps93
  go_wp2_with fail
  have H1 : Hid (St B p (w.alloc (.cells #[.int .i64 (7), .int .i64 (a), .int .i64 (b)] 23)) m sh n ∧ Only [] w (w.alloc (.cells #[.int .i64 (7), .int .i64 (a), .int .i64 (b)] 23)) ∧ OpBox (w.alloc (.cells #[.int .i64 (7), .int .i64 (a), .int .i64 (b)] 23)) w.heap.size (7) (a) (b)) := ⟨H0.out.only ((Only.refl _ _).alloc _), (Only.refl _ _).alloc _, O0.out⟩
  generalize w.alloc (.cells #[.int .i64 (7), .int .i64 (a), .int .i64 (b)] 23) = W at *
  generalize w.heap.size = q at *
  clear H0 c19 O0
  refine (reg_no H1.out.1.mac a ha).mono ?_
  rintro e w' ⟨rfl, rfl⟩
  exact ⟨rfl, doPost_fault HR.out rfl H1.out.2.1⟩
set_option maxRecDepth 100000 in
set_option maxHeartbeats 1000000 in
theorem do_7b {B p n : Nat} {w : World} {m : Mch} {sh : List Bd} (h : St B p w m sh n) (i : Nat) (hi : i < 4) (b : Int) (hb : Body.btw b 0 7 = false) (hr : Rule.act n m.at_ ⟨7, (i : Nat), b⟩ (m.e sh) = .fault 3) : Calls Try.prog 93 #[.pointer (some ⟨p, 0, none⟩), .agg #[.int .i64 (7), .int .i64 ((i : Nat)), .int .i64 (b)]] w (DoPost B p w m (Rule.act n m.at_ ⟨7, (i : Nat), b⟩ (m.e sh))) := by
  have HR : Hid _ := hr
  clear hr
  generalize Rule.act n m.at_ ⟨7, (i : Nat), b⟩ (m.e sh) = RR at *
  have k1 := h.at0
  have k2 := h.at1
  have k3 := h.few
  have wn : IntKind.i64.wrap (m.at_ + 1) = m.at_ + 1 := IntWalk.i64_in _ (by omega)
  have c19 := h.mac.at_
  have H0 : Hid _ := h
  have O0 : Hid (OpBox (w.alloc (.cells #[.int .i64 (7), .int .i64 ((i : Nat)), .int .i64 (b)] 23)) w.heap.size (7) ((i : Nat)) (b)) := Three.new _ _ _ _ _
  have lp := h.mac.lt
  clear h
  go_enter Try.func93, Try.ntmps93
  go_wp2_with fail
  have H1 : Hid (St B p (w.alloc (.cells #[.int .i64 (7), .int .i64 ((i : Nat)), .int .i64 (b)] 23)) m sh n ∧ Only [] w (w.alloc (.cells #[.int .i64 (7), .int .i64 ((i : Nat)), .int .i64 (b)] 23)) ∧ OpBox (w.alloc (.cells #[.int .i64 (7), .int .i64 ((i : Nat)), .int .i64 (b)] 23)) w.heap.size (7) ((i : Nat)) (b)) := ⟨H0.out.only ((Only.refl _ _).alloc _), (Only.refl _ _).alloc _, O0.out⟩
  generalize w.alloc (.cells #[.int .i64 (7), .int .i64 ((i : Nat)), .int .i64 (b)] 23) = W at *
  generalize w.heap.size = q at *
  clear H0 c19 O0
  refine (reg_yes H1.out.1.mac i hi).mono ?_
  rintro e w' ⟨rfl, rfl⟩
  obtain ⟨b0, b1, b2⟩ := And.intro (Three.cell0 H1.out.2.2) (And.intro (Three.cell1 H1.out.2.2) (Three.cell2 H1.out.2.2))
  go_wp2_with fail
  refine (field_no H1.out.1.mac b hb).mono ?_
  rintro e w' ⟨rfl, rfl⟩
  exact ⟨rfl, doPost_fault HR.out rfl H1.out.2.1⟩
set_option maxRecDepth 100000 in
set_option maxHeartbeats 1000000 in
theorem do_8y {B p n : Nat} {w : World} {m : Mch} {sh : List Bd} (h : St B p w m sh n) (a : Int) (j : Nat) (hj : j < 4) (ha : Rule.is a = true) (hr : Rule.act n m.at_ ⟨8, a, (j : Nat)⟩ (m.e sh) = .next { m.e sh with b := Rule.put m.b a (Rule.reg m.b j) } (m.at_ + 1)) : Calls Try.prog 93 #[.pointer (some ⟨p, 0, none⟩), .agg #[.int .i64 (8), .int .i64 (a), .int .i64 ((j : Nat))]] w (DoPost B p w m (Rule.act n m.at_ ⟨8, a, (j : Nat)⟩ (m.e sh))) := by
  have HR : Hid _ := hr
  clear hr
  generalize Rule.act n m.at_ ⟨8, a, (j : Nat)⟩ (m.e sh) = RR at *
  have k1 := h.at0
  have k2 := h.at1
  have k3 := h.few
  have wn : IntKind.i64.wrap (m.at_ + 1) = m.at_ + 1 := IntWalk.i64_in _ (by omega)
  have c19 := h.mac.at_
  have H0 : Hid _ := h
  have O0 : Hid (OpBox (w.alloc (.cells #[.int .i64 (8), .int .i64 (a), .int .i64 ((j : Nat))] 23)) w.heap.size (8) (a) ((j : Nat))) := Three.new _ _ _ _ _
  have lp := h.mac.lt
  clear h
  go_enter Try.func93, Try.ntmps93
  go_wp2_with fail
  have H1 : Hid (St B p (w.alloc (.cells #[.int .i64 (8), .int .i64 (a), .int .i64 ((j : Nat))] 23)) m sh n ∧ Only [] w (w.alloc (.cells #[.int .i64 (8), .int .i64 (a), .int .i64 ((j : Nat))] 23)) ∧ OpBox (w.alloc (.cells #[.int .i64 (8), .int .i64 (a), .int .i64 ((j : Nat))] 23)) w.heap.size (8) (a) ((j : Nat))) := ⟨H0.out.only ((Only.refl _ _).alloc _), (Only.refl _ _).alloc _, O0.out⟩
  generalize w.alloc (.cells #[.int .i64 (8), .int .i64 (a), .int .i64 ((j : Nat))] 23) = W at *
  generalize w.heap.size = q at *
  clear H0 c19 O0
  have HV : Hid (∀ y, Only [] W.drew y → St B p y m sh n ∧ OpBox y q (8) (a) ((j : Nat))) := fun y hy => ⟨H1.out.1.only ((only_drew W).trans hy), Three.only H1.out.2.2 ((only_drew W).trans hy) (by simp)⟩
  refine wp_region_free 9 (Only []) (Only.refl _) Only.trans [(0, .pointer (some ⟨p, 0, none⟩)), (3, .pointer (some ⟨q, 0, none⟩))] (by intro p hp; simp only [List.mem_cons, List.not_mem_nil, or_false] at hp; rcases hp with rfl | rfl <;> rfl) (by kernel_rfl) (by kernel_rfl) (by decide) (by kernel_rfl) (by kernel_rfl) ?_
  simp only [List.take_succ_cons, List.take_zero, List.drop_succ_cons, List.drop_zero]
  apply rf_val
  · first | rfl | exact ⟨by kernel_rfl, rfl⟩
  · intro z y hT hf
    obtain ⟨b0, b1, b2⟩ := And.intro (Three.cell0 (HV.out y hT).2) (And.intro (Three.cell1 (HV.out y hT).2) (Three.cell2 (HV.out y hT).2))
    simp at hf
    go_simp
    try rfl
  apply rf_val
  · first | rfl | exact ⟨by kernel_rfl, rfl⟩
  · intro z y hT hf
    obtain ⟨b0, b1, b2⟩ := And.intro (Three.cell0 (HV.out y hT).2) (And.intro (Three.cell1 (HV.out y hT).2) (Three.cell2 (HV.out y hT).2))
    simp at hf
    go_simp
    try rfl
  apply rf_val
  · first | rfl | exact ⟨by kernel_rfl, rfl⟩
  · intro z y hT hf
    obtain ⟨b0, b1, b2⟩ := And.intro (Three.cell0 (HV.out y hT).2) (And.intro (Three.cell1 (HV.out y hT).2) (Three.cell2 (HV.out y hT).2))
    simp at hf
    go_simp
    try rfl
  apply rf_val
  · first | rfl | exact ⟨by kernel_rfl, rfl⟩
  · intro z y hT hf
    obtain ⟨b0, b1, b2⟩ := And.intro (Three.cell0 (HV.out y hT).2) (And.intro (Three.cell1 (HV.out y hT).2) (Three.cell2 (HV.out y hT).2))
    simp at hf
    go_simp
    try rfl
  apply rf_val
  · first | rfl | exact ⟨by kernel_rfl, rfl⟩
  · intro z y hT hf
    obtain ⟨b0, b1, b2⟩ := And.intro (Three.cell0 (HV.out y hT).2) (And.intro (Three.cell1 (HV.out y hT).2) (Three.cell2 (HV.out y hT).2))
    simp at hf
    go_simp
    try rfl
  apply rf_val
  · first | rfl | exact ⟨by kernel_rfl, rfl⟩
  · intro z y hT hf
    obtain ⟨b0, b1, b2⟩ := And.intro (Three.cell0 (HV.out y hT).2) (And.intro (Three.cell1 (HV.out y hT).2) (Three.cell2 (HV.out y hT).2))
    simp at hf
    go_simp
    try rfl
  refine rf_eff (fun _ v => v = .pointer (some ⟨p, 8 + j, none⟩)) (by first | rfl | exact ⟨by kernel_rfl, rfl⟩) (fun _ _ _ _ h => h) (fun z y hT hf => ?_) ?_
  · simp at hf
    go_simp
    refine (reg_yes (HV.out y hT).1.mac j hj).mono ?_
    rintro e y2 ⟨rfl, rfl⟩
    exact ⟨_, rfl, rfl, Only.refl _ _⟩
  apply rf_val
  · first | rfl | exact ⟨by kernel_rfl, rfl⟩
  · intro z y hT hf
    obtain ⟨b0, b1, b2⟩ := And.intro (Three.cell0 (HV.out y hT).2) (And.intro (Three.cell1 (HV.out y hT).2) (Three.cell2 (HV.out y hT).2))
    have cm0 := (HV.out y hT).1.mac.mem j hj
    simp at hf
    go_simp
    try rfl
  apply rf_val
  · first | rfl | exact ⟨by kernel_rfl, rfl⟩
  · intro z y hT hf
    obtain ⟨b0, b1, b2⟩ := And.intro (Three.cell0 (HV.out y hT).2) (And.intro (Three.cell1 (HV.out y hT).2) (Three.cell2 (HV.out y hT).2))
    have cm0 := (HV.out y hT).1.mac.mem j hj
    simp at hf
    go_simp
    try rfl
  intro w2 hy
  simp only [FinA, Sp.R, forall_eq]
  simp only [Act.put, List.setIfInBounds_toArray, List.set_cons_succ, List.set_cons_zero]
  have H2 : Hid (St B p w2 m sh n ∧ Only [] w w2 ∧ OpBox w2 q (8) (a) ((j : Nat))) := ⟨(HV.out w2 hy).1, H1.out.2.1.trans ((only_drew W).trans hy), (HV.out w2 hy).2⟩
  clear hy HV H1
  go_wp2_with fail
  refine (put_yes H2.out.1.mac a _ ha).mono ?_
  rintro e w3 ⟨rfl, hm, ho, hz⟩
  have H3 : Hid _ := And.intro hm ho
  clear hm ho
  go_wp2_with fail
  go_ret
  exact doPost_own HR.out rfl H2.out.1 H2.out.2.1 H3.out.1 H3.out.2 rfl
set_option maxRecDepth 100000 in
set_option maxHeartbeats 1000000 in
theorem do_8f {B p n : Nat} {w : World} {m : Mch} {sh : List Bd} (h : St B p w m sh n) (a : Int) (j : Nat) (hj : j < 4) (ha : Rule.is a = false) (hr : Rule.act n m.at_ ⟨8, a, (j : Nat)⟩ (m.e sh) = .fault 3) : Calls Try.prog 93 #[.pointer (some ⟨p, 0, none⟩), .agg #[.int .i64 (8), .int .i64 (a), .int .i64 ((j : Nat))]] w (DoPost B p w m (Rule.act n m.at_ ⟨8, a, (j : Nat)⟩ (m.e sh))) := by
  have HR : Hid _ := hr
  clear hr
  generalize Rule.act n m.at_ ⟨8, a, (j : Nat)⟩ (m.e sh) = RR at *
  have k1 := h.at0
  have k2 := h.at1
  have k3 := h.few
  have wn : IntKind.i64.wrap (m.at_ + 1) = m.at_ + 1 := IntWalk.i64_in _ (by omega)
  have c19 := h.mac.at_
  have H0 : Hid _ := h
  have O0 : Hid (OpBox (w.alloc (.cells #[.int .i64 (8), .int .i64 (a), .int .i64 ((j : Nat))] 23)) w.heap.size (8) (a) ((j : Nat))) := Three.new _ _ _ _ _
  have lp := h.mac.lt
  clear h
  go_enter Try.func93, Try.ntmps93
  go_wp2_with fail
  have H1 : Hid (St B p (w.alloc (.cells #[.int .i64 (8), .int .i64 (a), .int .i64 ((j : Nat))] 23)) m sh n ∧ Only [] w (w.alloc (.cells #[.int .i64 (8), .int .i64 (a), .int .i64 ((j : Nat))] 23)) ∧ OpBox (w.alloc (.cells #[.int .i64 (8), .int .i64 (a), .int .i64 ((j : Nat))] 23)) w.heap.size (8) (a) ((j : Nat))) := ⟨H0.out.only ((Only.refl _ _).alloc _), (Only.refl _ _).alloc _, O0.out⟩
  generalize w.alloc (.cells #[.int .i64 (8), .int .i64 (a), .int .i64 ((j : Nat))] 23) = W at *
  generalize w.heap.size = q at *
  clear H0 c19 O0
  have HV : Hid (∀ y, Only [] W.drew y → St B p y m sh n ∧ OpBox y q (8) (a) ((j : Nat))) := fun y hy => ⟨H1.out.1.only ((only_drew W).trans hy), Three.only H1.out.2.2 ((only_drew W).trans hy) (by simp)⟩
  refine wp_region_free 9 (Only []) (Only.refl _) Only.trans [(0, .pointer (some ⟨p, 0, none⟩)), (3, .pointer (some ⟨q, 0, none⟩))] (by intro p hp; simp only [List.mem_cons, List.not_mem_nil, or_false] at hp; rcases hp with rfl | rfl <;> rfl) (by kernel_rfl) (by kernel_rfl) (by decide) (by kernel_rfl) (by kernel_rfl) ?_
  simp only [List.take_succ_cons, List.take_zero, List.drop_succ_cons, List.drop_zero]
  apply rf_val
  · first | rfl | exact ⟨by kernel_rfl, rfl⟩
  · intro z y hT hf
    obtain ⟨b0, b1, b2⟩ := And.intro (Three.cell0 (HV.out y hT).2) (And.intro (Three.cell1 (HV.out y hT).2) (Three.cell2 (HV.out y hT).2))
    simp at hf
    go_simp
    try rfl
  apply rf_val
  · first | rfl | exact ⟨by kernel_rfl, rfl⟩
  · intro z y hT hf
    obtain ⟨b0, b1, b2⟩ := And.intro (Three.cell0 (HV.out y hT).2) (And.intro (Three.cell1 (HV.out y hT).2) (Three.cell2 (HV.out y hT).2))
    simp at hf
    go_simp
    try rfl
  apply rf_val
  · first | rfl | exact ⟨by kernel_rfl, rfl⟩
  · intro z y hT hf
    obtain ⟨b0, b1, b2⟩ := And.intro (Three.cell0 (HV.out y hT).2) (And.intro (Three.cell1 (HV.out y hT).2) (Three.cell2 (HV.out y hT).2))
    simp at hf
    go_simp
    try rfl
  apply rf_val
  · first | rfl | exact ⟨by kernel_rfl, rfl⟩
  · intro z y hT hf
    obtain ⟨b0, b1, b2⟩ := And.intro (Three.cell0 (HV.out y hT).2) (And.intro (Three.cell1 (HV.out y hT).2) (Three.cell2 (HV.out y hT).2))
    simp at hf
    go_simp
    try rfl
  apply rf_val
  · first | rfl | exact ⟨by kernel_rfl, rfl⟩
  · intro z y hT hf
    obtain ⟨b0, b1, b2⟩ := And.intro (Three.cell0 (HV.out y hT).2) (And.intro (Three.cell1 (HV.out y hT).2) (Three.cell2 (HV.out y hT).2))
    simp at hf
    go_simp
    try rfl
  apply rf_val
  · first | rfl | exact ⟨by kernel_rfl, rfl⟩
  · intro z y hT hf
    obtain ⟨b0, b1, b2⟩ := And.intro (Three.cell0 (HV.out y hT).2) (And.intro (Three.cell1 (HV.out y hT).2) (Three.cell2 (HV.out y hT).2))
    simp at hf
    go_simp
    try rfl
  refine rf_eff (fun _ v => v = .pointer (some ⟨p, 8 + j, none⟩)) (by first | rfl | exact ⟨by kernel_rfl, rfl⟩) (fun _ _ _ _ h => h) (fun z y hT hf => ?_) ?_
  · simp at hf
    go_simp
    refine (reg_yes (HV.out y hT).1.mac j hj).mono ?_
    rintro e y2 ⟨rfl, rfl⟩
    exact ⟨_, rfl, rfl, Only.refl _ _⟩
  apply rf_val
  · first | rfl | exact ⟨by kernel_rfl, rfl⟩
  · intro z y hT hf
    obtain ⟨b0, b1, b2⟩ := And.intro (Three.cell0 (HV.out y hT).2) (And.intro (Three.cell1 (HV.out y hT).2) (Three.cell2 (HV.out y hT).2))
    have cm0 := (HV.out y hT).1.mac.mem j hj
    simp at hf
    go_simp
    try rfl
  apply rf_val
  · first | rfl | exact ⟨by kernel_rfl, rfl⟩
  · intro z y hT hf
    obtain ⟨b0, b1, b2⟩ := And.intro (Three.cell0 (HV.out y hT).2) (And.intro (Three.cell1 (HV.out y hT).2) (Three.cell2 (HV.out y hT).2))
    have cm0 := (HV.out y hT).1.mac.mem j hj
    simp at hf
    go_simp
    try rfl
  intro w2 hy
  simp only [FinA, Sp.R, forall_eq]
  simp only [Act.put, List.setIfInBounds_toArray, List.set_cons_succ, List.set_cons_zero]
  have H2 : Hid (St B p w2 m sh n ∧ Only [] w w2 ∧ OpBox w2 q (8) (a) ((j : Nat))) := ⟨(HV.out w2 hy).1, H1.out.2.1.trans ((only_drew W).trans hy), (HV.out w2 hy).2⟩
  clear hy HV H1
  go_wp2_with fail
  refine (put_no H2.out.1.mac a _ ha).mono ?_
  rintro e w3 ⟨rfl, rfl⟩
  exact ⟨rfl, doPost_fault HR.out rfl H2.out.2.1⟩
set_option maxRecDepth 100000 in
set_option maxHeartbeats 1000000 in
theorem do_8b {B p n : Nat} {w : World} {m : Mch} {sh : List Bd} (h : St B p w m sh n) (a b : Int) (hb : Rule.is b = false) (hr : Rule.act n m.at_ ⟨8, a, b⟩ (m.e sh) = .fault 2) : Calls Try.prog 93 #[.pointer (some ⟨p, 0, none⟩), .agg #[.int .i64 (8), .int .i64 (a), .int .i64 (b)]] w (DoPost B p w m (Rule.act n m.at_ ⟨8, a, b⟩ (m.e sh))) := by
  have HR : Hid _ := hr
  clear hr
  generalize Rule.act n m.at_ ⟨8, a, b⟩ (m.e sh) = RR at *
  have k1 := h.at0
  have k2 := h.at1
  have k3 := h.few
  have wn : IntKind.i64.wrap (m.at_ + 1) = m.at_ + 1 := IntWalk.i64_in _ (by omega)
  have c19 := h.mac.at_
  have H0 : Hid _ := h
  have O0 : Hid (OpBox (w.alloc (.cells #[.int .i64 (8), .int .i64 (a), .int .i64 (b)] 23)) w.heap.size (8) (a) (b)) := Three.new _ _ _ _ _
  have lp := h.mac.lt
  clear h
  go_enter Try.func93, Try.ntmps93
  go_wp2_with fail
  have H1 : Hid (St B p (w.alloc (.cells #[.int .i64 (8), .int .i64 (a), .int .i64 (b)] 23)) m sh n ∧ Only [] w (w.alloc (.cells #[.int .i64 (8), .int .i64 (a), .int .i64 (b)] 23)) ∧ OpBox (w.alloc (.cells #[.int .i64 (8), .int .i64 (a), .int .i64 (b)] 23)) w.heap.size (8) (a) (b)) := ⟨H0.out.only ((Only.refl _ _).alloc _), (Only.refl _ _).alloc _, O0.out⟩
  generalize w.alloc (.cells #[.int .i64 (8), .int .i64 (a), .int .i64 (b)] 23) = W at *
  generalize w.heap.size = q at *
  clear H0 c19 O0
  have HV : Hid (∀ y, Only [] W.drew y → St B p y m sh n ∧ OpBox y q (8) (a) (b)) := fun y hy => ⟨H1.out.1.only ((only_drew W).trans hy), Three.only H1.out.2.2 ((only_drew W).trans hy) (by simp)⟩
  refine wp_region_fate (fun chain y => chain = [{ v := thrownV 2 m.at_, recovered := false }] ∧ Only [] w y) (by rintro chain a' y hd ⟨rfl, ho⟩; exact ⟨hd, doPost_fault HR.out rfl ho⟩) 10 (Only []) (Only.refl _) Only.trans [(0, .pointer (some ⟨p, 0, none⟩)), (3, .pointer (some ⟨q, 0, none⟩))] (by intro p hp; simp only [List.mem_cons, List.not_mem_nil, or_false] at hp; rcases hp with rfl | rfl <;> rfl) (by kernel_rfl) (by kernel_rfl) (by decide) (by kernel_rfl) (by kernel_rfl) ?_
  simp only [List.take_succ_cons, List.take_zero, List.drop_succ_cons, List.drop_zero]
  apply rd_val
  · first | rfl | exact ⟨by kernel_rfl, rfl⟩
  · intro z y hT hf
    obtain ⟨b0, b1, b2⟩ := And.intro (Three.cell0 (HV.out y hT).2) (And.intro (Three.cell1 (HV.out y hT).2) (Three.cell2 (HV.out y hT).2))
    simp at hf
    go_simp
    try rfl
  apply rd_val
  · first | rfl | exact ⟨by kernel_rfl, rfl⟩
  · intro z y hT hf
    obtain ⟨b0, b1, b2⟩ := And.intro (Three.cell0 (HV.out y hT).2) (And.intro (Three.cell1 (HV.out y hT).2) (Three.cell2 (HV.out y hT).2))
    simp at hf
    go_simp
    try rfl
  apply rd_val
  · first | rfl | exact ⟨by kernel_rfl, rfl⟩
  · intro z y hT hf
    obtain ⟨b0, b1, b2⟩ := And.intro (Three.cell0 (HV.out y hT).2) (And.intro (Three.cell1 (HV.out y hT).2) (Three.cell2 (HV.out y hT).2))
    simp at hf
    go_simp
    try rfl
  apply rd_val
  · first | rfl | exact ⟨by kernel_rfl, rfl⟩
  · intro z y hT hf
    obtain ⟨b0, b1, b2⟩ := And.intro (Three.cell0 (HV.out y hT).2) (And.intro (Three.cell1 (HV.out y hT).2) (Three.cell2 (HV.out y hT).2))
    simp at hf
    go_simp
    try rfl
  apply rd_val
  · first | rfl | exact ⟨by kernel_rfl, rfl⟩
  · intro z y hT hf
    obtain ⟨b0, b1, b2⟩ := And.intro (Three.cell0 (HV.out y hT).2) (And.intro (Three.cell1 (HV.out y hT).2) (Three.cell2 (HV.out y hT).2))
    simp at hf
    go_simp
    try rfl
  apply rd_val
  · first | rfl | exact ⟨by kernel_rfl, rfl⟩
  · intro z y hT hf
    obtain ⟨b0, b1, b2⟩ := And.intro (Three.cell0 (HV.out y hT).2) (And.intro (Three.cell1 (HV.out y hT).2) (Three.cell2 (HV.out y hT).2))
    simp at hf
    go_simp
    try rfl
  refine rd_die (by first | rfl | exact ⟨by kernel_rfl, rfl⟩) (fun z y hT hf => ?_) ?_
  · simp at hf
    go_simp
    refine (reg_no (HV.out y hT).1.mac b hb).mono ?_
    rintro e y2 ⟨rfl, rfl⟩
    exact ⟨_, rfl, rfl, H1.out.2.1.trans ((only_drew W).trans hT)⟩
  refine rd_not (by first | rfl | exact ⟨by kernel_rfl, rfl⟩) (fun z y hT hf => (by simp at hf)) ?_
  refine rd_not (by first | rfl | exact ⟨by kernel_rfl, rfl⟩) (fun z y hT hf => (by simp at hf)) ?_
  refine rd_not (by first | rfl | exact ⟨by kernel_rfl, rfl⟩) (fun z y hT hf => (by simp at hf)) ?_
  intro w2 hy
  simp only [FinA, Sp.R, forall_eq]
  first | exact False.elim | (intro v hv; exact hv.elim) | (intro v hv v2 hv2; exact hv2.elim) | (intro v hv; exact fun _ h => h.elim)
end Go.Proofs.Ytngbannidbijmaa
namespace Go.Proofs.Ytngbannidbijmaa
open Go.RowKit
set_option linter.unusedVariables false
set_option maxRecDepth 100000 in
set_option maxHeartbeats 1000000 in
theorem do_9y {B p n : Nat} {w : World} {m : Mch} {sh : List Bd} (h : St B p w m sh n) (i : Nat) (hi : i < 4) (b : Int) (hz : Rule.reg m.b i = 0) (hb : Body.btw b 0 n = true) (hr : Rule.act n m.at_ ⟨9, (i : Nat), b⟩ (m.e sh) = .next (m.e sh) b) : Calls Try.prog 93 #[.pointer (some ⟨p, 0, none⟩), .agg #[.int .i64 (9), .int .i64 ((i : Nat)), .int .i64 (b)]] w (DoPost B p w m (Rule.act n m.at_ ⟨9, (i : Nat), b⟩ (m.e sh))) := by
  have HR : Hid _ := hr
  clear hr
  generalize Rule.act n m.at_ ⟨9, (i : Nat), b⟩ (m.e sh) = RR at *
  have k1 := h.at0
  have k2 := h.at1
  have k3 := h.few
  have wn : IntKind.i64.wrap (m.at_ + 1) = m.at_ + 1 := IntWalk.i64_in _ (by omega)
  have c19 := h.mac.at_
  have H0 : Hid _ := h
  have O0 : Hid (OpBox (w.alloc (.cells #[.int .i64 (9), .int .i64 ((i : Nat)), .int .i64 (b)] 23)) w.heap.size (9) ((i : Nat)) (b)) := Three.new _ _ _ _ _
  have lp := h.mac.lt
  clear h
  go_enter Try.func93, Try.ntmps93
  go_wp2_with fail
  have H1 : Hid (St B p (w.alloc (.cells #[.int .i64 (9), .int .i64 ((i : Nat)), .int .i64 (b)] 23)) m sh n ∧ Only [] w (w.alloc (.cells #[.int .i64 (9), .int .i64 ((i : Nat)), .int .i64 (b)] 23)) ∧ OpBox (w.alloc (.cells #[.int .i64 (9), .int .i64 ((i : Nat)), .int .i64 (b)] 23)) w.heap.size (9) ((i : Nat)) (b)) := ⟨H0.out.only ((Only.refl _ _).alloc _), (Only.refl _ _).alloc _, O0.out⟩
  generalize w.alloc (.cells #[.int .i64 (9), .int .i64 ((i : Nat)), .int .i64 (b)] 23) = W at *
  generalize w.heap.size = q at *
  clear H0 c19 O0
  obtain ⟨oa, ocap, hops⟩ := H1.out.1.ops
  refine (reg_yes H1.out.1.mac i hi).mono ?_
  rintro e w' ⟨rfl, rfl⟩
  have cm := H1.out.1.mac.mem i hi
  rw [hz] at cm
  obtain ⟨b0, b1, b2⟩ := And.intro (Three.cell0 H1.out.2.2) (And.intro (Three.cell1 H1.out.2.2) (Three.cell2 H1.out.2.2))
  go_wp2_with fail
  refine (place_yes H1.out.1.mac oa n ocap hops (by omega) b hb).mono ?_
  rintro e w' ⟨rfl, rfl⟩
  go_wp2_with fail
  go_ret
  refine doPost_own HR.out rfl H1.out.1 H1.out.2.1 H1.out.1.mac (Only.refl _ _) rfl
set_option maxRecDepth 100000 in
set_option maxHeartbeats 1000000 in
theorem do_9f {B p n : Nat} {w : World} {m : Mch} {sh : List Bd} (h : St B p w m sh n) (i : Nat) (hi : i < 4) (b : Int) (hz : Rule.reg m.b i = 0) (hb : Body.btw b 0 n = false) (hr : Rule.act n m.at_ ⟨9, (i : Nat), b⟩ (m.e sh) = .fault 4) : Calls Try.prog 93 #[.pointer (some ⟨p, 0, none⟩), .agg #[.int .i64 (9), .int .i64 ((i : Nat)), .int .i64 (b)]] w (DoPost B p w m (Rule.act n m.at_ ⟨9, (i : Nat), b⟩ (m.e sh))) := by
  have HR : Hid _ := hr
  clear hr
  generalize Rule.act n m.at_ ⟨9, (i : Nat), b⟩ (m.e sh) = RR at *
  have k1 := h.at0
  have k2 := h.at1
  have k3 := h.few
  have wn : IntKind.i64.wrap (m.at_ + 1) = m.at_ + 1 := IntWalk.i64_in _ (by omega)
  have c19 := h.mac.at_
  have H0 : Hid _ := h
  have O0 : Hid (OpBox (w.alloc (.cells #[.int .i64 (9), .int .i64 ((i : Nat)), .int .i64 (b)] 23)) w.heap.size (9) ((i : Nat)) (b)) := Three.new _ _ _ _ _
  have lp := h.mac.lt
  clear h
  go_enter Try.func93, Try.ntmps93
  go_wp2_with fail
  have H1 : Hid (St B p (w.alloc (.cells #[.int .i64 (9), .int .i64 ((i : Nat)), .int .i64 (b)] 23)) m sh n ∧ Only [] w (w.alloc (.cells #[.int .i64 (9), .int .i64 ((i : Nat)), .int .i64 (b)] 23)) ∧ OpBox (w.alloc (.cells #[.int .i64 (9), .int .i64 ((i : Nat)), .int .i64 (b)] 23)) w.heap.size (9) ((i : Nat)) (b)) := ⟨H0.out.only ((Only.refl _ _).alloc _), (Only.refl _ _).alloc _, O0.out⟩
  generalize w.alloc (.cells #[.int .i64 (9), .int .i64 ((i : Nat)), .int .i64 (b)] 23) = W at *
  generalize w.heap.size = q at *
  clear H0 c19 O0
  obtain ⟨oa, ocap, hops⟩ := H1.out.1.ops
  refine (reg_yes H1.out.1.mac i hi).mono ?_
  rintro e w' ⟨rfl, rfl⟩
  have cm := H1.out.1.mac.mem i hi
  rw [hz] at cm
  obtain ⟨b0, b1, b2⟩ := And.intro (Three.cell0 H1.out.2.2) (And.intro (Three.cell1 H1.out.2.2) (Three.cell2 H1.out.2.2))
  go_wp2_with fail
  refine (place_no H1.out.1.mac oa n ocap hops (by omega) b hb).mono ?_
  rintro e w' ⟨rfl, rfl⟩
  exact ⟨rfl, doPost_fault HR.out rfl H1.out.2.1⟩
set_option maxRecDepth 100000 in
set_option maxHeartbeats 1000000 in
theorem do_9n {B p n : Nat} {w : World} {m : Mch} {sh : List Bd} (h : St B p w m sh n) (i : Nat) (hi : i < 4) (b : Int) (hz : ¬ Rule.reg m.b i = 0) (hr : Rule.act n m.at_ ⟨9, (i : Nat), b⟩ (m.e sh) = .next (m.e sh) (m.at_ + 1)) : Calls Try.prog 93 #[.pointer (some ⟨p, 0, none⟩), .agg #[.int .i64 (9), .int .i64 ((i : Nat)), .int .i64 (b)]] w (DoPost B p w m (Rule.act n m.at_ ⟨9, (i : Nat), b⟩ (m.e sh))) := by
  have HR : Hid _ := hr
  clear hr
  generalize Rule.act n m.at_ ⟨9, (i : Nat), b⟩ (m.e sh) = RR at *
  have k1 := h.at0
  have k2 := h.at1
  have k3 := h.few
  have wn : IntKind.i64.wrap (m.at_ + 1) = m.at_ + 1 := IntWalk.i64_in _ (by omega)
  have c19 := h.mac.at_
  have H0 : Hid _ := h
  have O0 : Hid (OpBox (w.alloc (.cells #[.int .i64 (9), .int .i64 ((i : Nat)), .int .i64 (b)] 23)) w.heap.size (9) ((i : Nat)) (b)) := Three.new _ _ _ _ _
  have lp := h.mac.lt
  clear h
  go_enter Try.func93, Try.ntmps93
  go_wp2_with fail
  have H1 : Hid (St B p (w.alloc (.cells #[.int .i64 (9), .int .i64 ((i : Nat)), .int .i64 (b)] 23)) m sh n ∧ Only [] w (w.alloc (.cells #[.int .i64 (9), .int .i64 ((i : Nat)), .int .i64 (b)] 23)) ∧ OpBox (w.alloc (.cells #[.int .i64 (9), .int .i64 ((i : Nat)), .int .i64 (b)] 23)) w.heap.size (9) ((i : Nat)) (b)) := ⟨H0.out.only ((Only.refl _ _).alloc _), (Only.refl _ _).alloc _, O0.out⟩
  generalize w.alloc (.cells #[.int .i64 (9), .int .i64 ((i : Nat)), .int .i64 (b)] 23) = W at *
  generalize w.heap.size = q at *
  clear H0 c19 O0
  refine (reg_yes H1.out.1.mac i hi).mono ?_
  rintro e w' ⟨rfl, rfl⟩
  have cm := H1.out.1.mac.mem i hi
  generalize Rule.reg m.b i = z at *
  have hz2 : (z == 0) = false := by simpa using hz
  obtain ⟨b0, b1, b2⟩ := And.intro (Three.cell0 H1.out.2.2) (And.intro (Three.cell1 H1.out.2.2) (Three.cell2 H1.out.2.2))
  go_wp2_with fail
  go_ret
  refine doPost_own HR.out rfl H1.out.1 H1.out.2.1 H1.out.1.mac (Only.refl _ _) rfl
set_option maxRecDepth 100000 in
set_option maxHeartbeats 1000000 in
theorem do_9a {B p n : Nat} {w : World} {m : Mch} {sh : List Bd} (h : St B p w m sh n) (a b : Int) (ha : Rule.is a = false) (hr : Rule.act n m.at_ ⟨9, a, b⟩ (m.e sh) = .fault 2) : Calls Try.prog 93 #[.pointer (some ⟨p, 0, none⟩), .agg #[.int .i64 (9), .int .i64 (a), .int .i64 (b)]] w (DoPost B p w m (Rule.act n m.at_ ⟨9, a, b⟩ (m.e sh))) := by
  have HR : Hid _ := hr
  clear hr
  generalize Rule.act n m.at_ ⟨9, a, b⟩ (m.e sh) = RR at *
  have k1 := h.at0
  have k2 := h.at1
  have k3 := h.few
  have wn : IntKind.i64.wrap (m.at_ + 1) = m.at_ + 1 := IntWalk.i64_in _ (by omega)
  have c19 := h.mac.at_
  have H0 : Hid _ := h
  have O0 : Hid (OpBox (w.alloc (.cells #[.int .i64 (9), .int .i64 (a), .int .i64 (b)] 23)) w.heap.size (9) (a) (b)) := Three.new _ _ _ _ _
  have lp := h.mac.lt
  clear h
  go_enter Try.func93, Try.ntmps93
  go_wp2_with fail
  have H1 : Hid (St B p (w.alloc (.cells #[.int .i64 (9), .int .i64 (a), .int .i64 (b)] 23)) m sh n ∧ Only [] w (w.alloc (.cells #[.int .i64 (9), .int .i64 (a), .int .i64 (b)] 23)) ∧ OpBox (w.alloc (.cells #[.int .i64 (9), .int .i64 (a), .int .i64 (b)] 23)) w.heap.size (9) (a) (b)) := ⟨H0.out.only ((Only.refl _ _).alloc _), (Only.refl _ _).alloc _, O0.out⟩
  generalize w.alloc (.cells #[.int .i64 (9), .int .i64 (a), .int .i64 (b)] 23) = W at *
  generalize w.heap.size = q at *
  clear H0 c19 O0
  refine (reg_no H1.out.1.mac a ha).mono ?_
  rintro e w' ⟨rfl, rfl⟩
  exact ⟨rfl, doPost_fault HR.out rfl H1.out.2.1⟩
set_option maxRecDepth 100000 in
set_option maxHeartbeats 1000000 in
theorem do_10y {B p n : Nat} {w : World} {m : Mch} {sh : List Bd} (h : St B p w m sh n) (a b : Int) (hb : Body.btw b 0 n = true) (hr : Rule.act n m.at_ ⟨10, a, b⟩ (m.e sh) = .next (m.e sh) b) : Calls Try.prog 93 #[.pointer (some ⟨p, 0, none⟩), .agg #[.int .i64 (10), .int .i64 (a), .int .i64 (b)]] w (DoPost B p w m (Rule.act n m.at_ ⟨10, a, b⟩ (m.e sh))) := by
  have HR : Hid _ := hr
  clear hr
  generalize Rule.act n m.at_ ⟨10, a, b⟩ (m.e sh) = RR at *
  have k1 := h.at0
  have k2 := h.at1
  have k3 := h.few
  have wn : IntKind.i64.wrap (m.at_ + 1) = m.at_ + 1 := IntWalk.i64_in _ (by omega)
  have c19 := h.mac.at_
  have H0 : Hid _ := h
  have O0 : Hid (OpBox (w.alloc (.cells #[.int .i64 (10), .int .i64 (a), .int .i64 (b)] 23)) w.heap.size (10) (a) (b)) := Three.new _ _ _ _ _
  have lp := h.mac.lt
  clear h
  go_enter Try.func93, Try.ntmps93
  go_wp2_with fail
  have H1 : Hid (St B p (w.alloc (.cells #[.int .i64 (10), .int .i64 (a), .int .i64 (b)] 23)) m sh n ∧ Only [] w (w.alloc (.cells #[.int .i64 (10), .int .i64 (a), .int .i64 (b)] 23)) ∧ OpBox (w.alloc (.cells #[.int .i64 (10), .int .i64 (a), .int .i64 (b)] 23)) w.heap.size (10) (a) (b)) := ⟨H0.out.only ((Only.refl _ _).alloc _), (Only.refl _ _).alloc _, O0.out⟩
  generalize w.alloc (.cells #[.int .i64 (10), .int .i64 (a), .int .i64 (b)] 23) = W at *
  generalize w.heap.size = q at *
  clear H0 c19 O0
  obtain ⟨oa, ocap, hops⟩ := H1.out.1.ops
  refine (place_yes H1.out.1.mac oa n ocap hops (by omega) b hb).mono ?_
  rintro e w' ⟨rfl, rfl⟩
  go_wp2_with fail
  go_ret
  refine doPost_own HR.out rfl H1.out.1 H1.out.2.1 H1.out.1.mac (Only.refl _ _) rfl
set_option maxRecDepth 100000 in
set_option maxHeartbeats 1000000 in
theorem do_10f {B p n : Nat} {w : World} {m : Mch} {sh : List Bd} (h : St B p w m sh n) (a b : Int) (hb : Body.btw b 0 n = false) (hr : Rule.act n m.at_ ⟨10, a, b⟩ (m.e sh) = .fault 4) : Calls Try.prog 93 #[.pointer (some ⟨p, 0, none⟩), .agg #[.int .i64 (10), .int .i64 (a), .int .i64 (b)]] w (DoPost B p w m (Rule.act n m.at_ ⟨10, a, b⟩ (m.e sh))) := by
  have HR : Hid _ := hr
  clear hr
  generalize Rule.act n m.at_ ⟨10, a, b⟩ (m.e sh) = RR at *
  have k1 := h.at0
  have k2 := h.at1
  have k3 := h.few
  have wn : IntKind.i64.wrap (m.at_ + 1) = m.at_ + 1 := IntWalk.i64_in _ (by omega)
  have c19 := h.mac.at_
  have H0 : Hid _ := h
  have O0 : Hid (OpBox (w.alloc (.cells #[.int .i64 (10), .int .i64 (a), .int .i64 (b)] 23)) w.heap.size (10) (a) (b)) := Three.new _ _ _ _ _
  have lp := h.mac.lt
  clear h
  go_enter Try.func93, Try.ntmps93
  go_wp2_with fail
  have H1 : Hid (St B p (w.alloc (.cells #[.int .i64 (10), .int .i64 (a), .int .i64 (b)] 23)) m sh n ∧ Only [] w (w.alloc (.cells #[.int .i64 (10), .int .i64 (a), .int .i64 (b)] 23)) ∧ OpBox (w.alloc (.cells #[.int .i64 (10), .int .i64 (a), .int .i64 (b)] 23)) w.heap.size (10) (a) (b)) := ⟨H0.out.only ((Only.refl _ _).alloc _), (Only.refl _ _).alloc _, O0.out⟩
  generalize w.alloc (.cells #[.int .i64 (10), .int .i64 (a), .int .i64 (b)] 23) = W at *
  generalize w.heap.size = q at *
  clear H0 c19 O0
  obtain ⟨oa, ocap, hops⟩ := H1.out.1.ops
  refine (place_no H1.out.1.mac oa n ocap hops (by omega) b hb).mono ?_
  rintro e w' ⟨rfl, rfl⟩
  exact ⟨rfl, doPost_fault HR.out rfl H1.out.2.1⟩
set_option maxRecDepth 100000 in
set_option maxHeartbeats 1000000 in
theorem do_13 {B p n : Nat} {w : World} {m : Mch} {sh : List Bd} (h : St B p w m sh n) (a b : Int) (hr : Rule.act n m.at_ ⟨13, a, b⟩ (m.e sh) = .next (m.e sh) n) : Calls Try.prog 93 #[.pointer (some ⟨p, 0, none⟩), .agg #[.int .i64 (13), .int .i64 (a), .int .i64 (b)]] w (DoPost B p w m (Rule.act n m.at_ ⟨13, a, b⟩ (m.e sh))) := by
  have HR : Hid _ := hr
  clear hr
  generalize Rule.act n m.at_ ⟨13, a, b⟩ (m.e sh) = RR at *
  have k1 := h.at0
  have k2 := h.at1
  have k3 := h.few
  have wn : IntKind.i64.wrap (m.at_ + 1) = m.at_ + 1 := IntWalk.i64_in _ (by omega)
  have c19 := h.mac.at_
  have H0 : Hid _ := h
  have O0 : Hid (OpBox (w.alloc (.cells #[.int .i64 (13), .int .i64 (a), .int .i64 (b)] 23)) w.heap.size (13) (a) (b)) := Three.new _ _ _ _ _
  have lp := h.mac.lt
  clear h
  obtain ⟨oa, ocap, hops⟩ := H0.out.ops
  have c0 := H0.out.mac.ops
  rw [hops] at c0
  go_enter Try.func93, Try.ntmps93
  go_wp2_with fail
  have H1 : Hid (St B p (w.alloc (.cells #[.int .i64 (13), .int .i64 (a), .int .i64 (b)] 23)) m sh n ∧ Only [] w (w.alloc (.cells #[.int .i64 (13), .int .i64 (a), .int .i64 (b)] 23)) ∧ OpBox (w.alloc (.cells #[.int .i64 (13), .int .i64 (a), .int .i64 (b)] 23)) w.heap.size (13) (a) (b)) := ⟨H0.out.only ((Only.refl _ _).alloc _), (Only.refl _ _).alloc _, O0.out⟩
  generalize w.alloc (.cells #[.int .i64 (13), .int .i64 (a), .int .i64 (b)] 23) = W at *
  generalize w.heap.size = q at *
  clear H0 c19 O0 c0
  go_ret
  refine doPost_own HR.out rfl H1.out.1 H1.out.2.1 H1.out.1.mac (Only.refl _ _) rfl
set_option maxRecDepth 100000 in
set_option maxHeartbeats 1000000 in
theorem do_x {B p n : Nat} {w : World} {m : Mch} {sh : List Bd} (h : St B p w m sh n) (c a b : Int) (hc : c < 1 ∨ 13 < c) (hr : Rule.act n m.at_ ⟨c, a, b⟩ (m.e sh) = .fault 4) : Calls Try.prog 93 #[.pointer (some ⟨p, 0, none⟩), .agg #[.int .i64 (c), .int .i64 (a), .int .i64 (b)]] w (DoPost B p w m (Rule.act n m.at_ ⟨c, a, b⟩ (m.e sh))) := by
  have HR : Hid _ := hr
  clear hr
  generalize Rule.act n m.at_ ⟨c, a, b⟩ (m.e sh) = RR at *
  have k1 := h.at0
  have k2 := h.at1
  have k3 := h.few
  have wn : IntKind.i64.wrap (m.at_ + 1) = m.at_ + 1 := IntWalk.i64_in _ (by omega)
  have c19 := h.mac.at_
  have H0 : Hid _ := h
  have O0 : Hid (OpBox (w.alloc (.cells #[.int .i64 (c), .int .i64 (a), .int .i64 (b)] 23)) w.heap.size (c) (a) (b)) := Three.new _ _ _ _ _
  have lp := h.mac.lt
  clear h
  have n1 : (c == 1) = false := by simp; omega
  have n2 : (c == 2) = false := by simp; omega
  have n3 : (c == 3) = false := by simp; omega
  have n4 : (c == 4) = false := by simp; omega
  have n5 : (c == 5) = false := by simp; omega
  have n6 : (c == 6) = false := by simp; omega
  have n7 : (c == 7) = false := by simp; omega
  have n8 : (c == 8) = false := by simp; omega
  have n9 : (c == 9) = false := by simp; omega
  have n10 : (c == 10) = false := by simp; omega
  have n11 : (c == 11) = false := by simp; omega
  have n12 : (c == 12) = false := by simp; omega
  have n13 : (c == 13) = false := by simp; omega
  go_enter Try.func93, Try.ntmps93
  go_wp2_with fail
  have H1 : Hid (St B p (w.alloc (.cells #[.int .i64 (c), .int .i64 (a), .int .i64 (b)] 23)) m sh n ∧ Only [] w (w.alloc (.cells #[.int .i64 (c), .int .i64 (a), .int .i64 (b)] 23)) ∧ OpBox (w.alloc (.cells #[.int .i64 (c), .int .i64 (a), .int .i64 (b)] 23)) w.heap.size (c) (a) (b)) := ⟨H0.out.only ((Only.refl _ _).alloc _), (Only.refl _ _).alloc _, O0.out⟩
  generalize w.alloc (.cells #[.int .i64 (c), .int .i64 (a), .int .i64 (b)] 23) = W at *
  generalize w.heap.size = q at *
  clear H0 c19 O0
  refine (mmust_no H1.out.1.mac _).mono ?_
  rintro e w' ⟨rfl, rfl⟩
  exact ⟨rfl, doPost_fault HR.out rfl H1.out.2.1⟩
end Go.Proofs.Ytngbannidbijmaa
namespace Go.Proofs.Ytngbannidbijmaa
open Go.RowKit
set_option linter.unusedVariables false
set_option maxRecDepth 100000 in
set_option maxHeartbeats 1000000 in
theorem do_11y {B p n : Nat} {w : World} {m : Mch} {sh : List Bd} (h : St B p w m sh n) (i j : Nat) (hi : i < 4) (hj : j < 4) (h1 : 1 ≤ Rule.reg m.b j) (hr : Rule.act n m.at_ ⟨11, (i : Nat), (j : Nat)⟩ (m.e sh) = .next { m.e sh with d := Dice.next m.d, b := Rule.setr m.b i (Rule.clamp (Dice.num (Dice.next m.d) % Rule.reg m.b j)) } (m.at_ + 1)) : Calls Try.prog 93 #[.pointer (some ⟨p, 0, none⟩), .agg #[.int .i64 (11), .int .i64 ((i : Nat)), .int .i64 ((j : Nat))]] w (DoPost B p w m (Rule.act n m.at_ ⟨11, (i : Nat), (j : Nat)⟩ (m.e sh))) := by
  have HR : Hid _ := hr
  clear hr
  generalize Rule.act n m.at_ ⟨11, (i : Nat), (j : Nat)⟩ (m.e sh) = RR at *
  have k1 := h.at0
  have k2 := h.at1
  have k3 := h.few
  have wn : IntKind.i64.wrap (m.at_ + 1) = m.at_ + 1 := IntWalk.i64_in _ (by omega)
  have c19 := h.mac.at_
  have H0 : Hid _ := h
  have O0 : Hid (OpBox (w.alloc (.cells #[.int .i64 (11), .int .i64 ((i : Nat)), .int .i64 ((j : Nat))] 23)) w.heap.size (11) ((i : Nat)) ((j : Nat))) := Three.new _ _ _ _ _
  have lp := h.mac.lt
  clear h
  go_enter Try.func93, Try.ntmps93
  go_wp2_with fail
  have H1 : Hid (St B p (w.alloc (.cells #[.int .i64 (11), .int .i64 ((i : Nat)), .int .i64 ((j : Nat))] 23)) m sh n ∧ Only [] w (w.alloc (.cells #[.int .i64 (11), .int .i64 ((i : Nat)), .int .i64 ((j : Nat))] 23)) ∧ OpBox (w.alloc (.cells #[.int .i64 (11), .int .i64 ((i : Nat)), .int .i64 ((j : Nat))] 23)) w.heap.size (11) ((i : Nat)) ((j : Nat))) := ⟨H0.out.only ((Only.refl _ _).alloc _), (Only.refl _ _).alloc _, O0.out⟩
  generalize w.alloc (.cells #[.int .i64 (11), .int .i64 ((i : Nat)), .int .i64 ((j : Nat))] 23) = W at *
  generalize w.heap.size = q at *
  clear H0 c19 O0
  have HV : Hid (∀ y, Only [] W.drew y → St B p y m sh n ∧ OpBox y q (11) ((i : Nat)) ((j : Nat))) := fun y hy => ⟨H1.out.1.only ((only_drew W).trans hy), Three.only H1.out.2.2 ((only_drew W).trans hy) (by simp)⟩
  refine wp_region_free 11 (Only []) (Only.refl _) Only.trans [(0, .pointer (some ⟨p, 0, none⟩)), (3, .pointer (some ⟨q, 0, none⟩))] (by intro p hp; simp only [List.mem_cons, List.not_mem_nil, or_false] at hp; rcases hp with rfl | rfl <;> rfl) (by kernel_rfl) (by kernel_rfl) (by decide) (by kernel_rfl) (by kernel_rfl) ?_
  simp only [List.take_succ_cons, List.take_zero, List.drop_succ_cons, List.drop_zero]
  apply rf_val
  · first | rfl | exact ⟨by kernel_rfl, rfl⟩
  · intro z y hT hf
    obtain ⟨b0, b1, b2⟩ := And.intro (Three.cell0 (HV.out y hT).2) (And.intro (Three.cell1 (HV.out y hT).2) (Three.cell2 (HV.out y hT).2))
    simp at hf
    go_simp
    try rfl
  apply rf_val
  · first | rfl | exact ⟨by kernel_rfl, rfl⟩
  · intro z y hT hf
    obtain ⟨b0, b1, b2⟩ := And.intro (Three.cell0 (HV.out y hT).2) (And.intro (Three.cell1 (HV.out y hT).2) (Three.cell2 (HV.out y hT).2))
    simp at hf
    go_simp
    try rfl
  apply rf_val
  · first | rfl | exact ⟨by kernel_rfl, rfl⟩
  · intro z y hT hf
    obtain ⟨b0, b1, b2⟩ := And.intro (Three.cell0 (HV.out y hT).2) (And.intro (Three.cell1 (HV.out y hT).2) (Three.cell2 (HV.out y hT).2))
    simp at hf
    go_simp
    try rfl
  apply rf_val
  · first | rfl | exact ⟨by kernel_rfl, rfl⟩
  · intro z y hT hf
    obtain ⟨b0, b1, b2⟩ := And.intro (Three.cell0 (HV.out y hT).2) (And.intro (Three.cell1 (HV.out y hT).2) (Three.cell2 (HV.out y hT).2))
    simp at hf
    go_simp
    try rfl
  refine rf_eff (fun _ v => v = .pointer (some ⟨p, 8 + i, none⟩)) (by first | rfl | exact ⟨by kernel_rfl, rfl⟩) (fun _ _ _ _ h => h) (fun z y hT hf => ?_) ?_
  · simp at hf
    go_simp
    refine (reg_yes (HV.out y hT).1.mac i hi).mono ?_
    rintro e y2 ⟨rfl, rfl⟩
    exact ⟨_, rfl, rfl, Only.refl _ _⟩
  apply rf_val
  · first | rfl | exact ⟨by kernel_rfl, rfl⟩
  · intro z y hT hf
    obtain ⟨b0, b1, b2⟩ := And.intro (Three.cell0 (HV.out y hT).2) (And.intro (Three.cell1 (HV.out y hT).2) (Three.cell2 (HV.out y hT).2))
    simp at hf
    go_simp
    try rfl
  apply rf_val
  · first | rfl | exact ⟨by kernel_rfl, rfl⟩
  · intro z y hT hf
    obtain ⟨b0, b1, b2⟩ := And.intro (Three.cell0 (HV.out y hT).2) (And.intro (Three.cell1 (HV.out y hT).2) (Three.cell2 (HV.out y hT).2))
    simp at hf
    go_simp
    try rfl
  apply rf_val
  · first | rfl | exact ⟨by kernel_rfl, rfl⟩
  · intro z y hT hf
    obtain ⟨b0, b1, b2⟩ := And.intro (Three.cell0 (HV.out y hT).2) (And.intro (Three.cell1 (HV.out y hT).2) (Three.cell2 (HV.out y hT).2))
    simp at hf
    go_simp
    try rfl
  refine rf_eff (fun _ v => v = .pointer (some ⟨p, 8 + j, none⟩)) (by first | rfl | exact ⟨by kernel_rfl, rfl⟩) (fun _ _ _ _ h => h) (fun z y hT hf => ?_) ?_
  · simp at hf
    go_simp
    refine (reg_yes (HV.out y hT).1.mac j hj).mono ?_
    rintro e y2 ⟨rfl, rfl⟩
    exact ⟨_, rfl, rfl, Only.refl _ _⟩
  apply rf_val
  · first | rfl | exact ⟨by kernel_rfl, rfl⟩
  · intro z y hT hf
    obtain ⟨b0, b1, b2⟩ := And.intro (Three.cell0 (HV.out y hT).2) (And.intro (Three.cell1 (HV.out y hT).2) (Three.cell2 (HV.out y hT).2))
    have cm0 := (HV.out y hT).1.mac.mem j hj
    simp at hf
    go_simp
    try rfl
  apply rf_val
  · first | rfl | exact ⟨by kernel_rfl, rfl⟩
  · intro z y hT hf
    obtain ⟨b0, b1, b2⟩ := And.intro (Three.cell0 (HV.out y hT).2) (And.intro (Three.cell1 (HV.out y hT).2) (Three.cell2 (HV.out y hT).2))
    have cm0 := (HV.out y hT).1.mac.mem j hj
    simp at hf
    go_simp
    try rfl
  intro w2 hy
  simp only [FinA, Sp.R, forall_eq]
  simp only [Act.put, List.setIfInBounds_toArray, List.set_cons_succ, List.set_cons_zero]
  have H2 : Hid (St B p w2 m sh n ∧ Only [] w w2 ∧ OpBox w2 q (11) ((i : Nat)) ((j : Nat))) := ⟨(HV.out w2 hy).1, H1.out.2.1.trans ((only_drew W).trans hy), (HV.out w2 hy).2⟩
  clear hy HV H1
  go_wp2_with fail
  refine (mroll_any H2.out.1.mac i hi _ h1).mono ?_
  rintro e w3 ⟨rfl, hm, ho, hz⟩
  have H3 : Hid _ := And.intro hm ho
  clear hm ho
  go_wp2_with fail
  go_ret
  exact doPost_own HR.out rfl H2.out.1 H2.out.2.1 H3.out.1 H3.out.2 rfl
set_option maxRecDepth 100000 in
set_option maxHeartbeats 1000000 in
theorem do_11f {B p n : Nat} {w : World} {m : Mch} {sh : List Bd} (h : St B p w m sh n) (i j : Nat) (hi : i < 4) (hj : j < 4) (h1 : ¬ 1 ≤ Rule.reg m.b j) (hr : Rule.act n m.at_ ⟨11, (i : Nat), (j : Nat)⟩ (m.e sh) = .fault 6) : Calls Try.prog 93 #[.pointer (some ⟨p, 0, none⟩), .agg #[.int .i64 (11), .int .i64 ((i : Nat)), .int .i64 ((j : Nat))]] w (DoPost B p w m (Rule.act n m.at_ ⟨11, (i : Nat), (j : Nat)⟩ (m.e sh))) := by
  have HR : Hid _ := hr
  clear hr
  generalize Rule.act n m.at_ ⟨11, (i : Nat), (j : Nat)⟩ (m.e sh) = RR at *
  have k1 := h.at0
  have k2 := h.at1
  have k3 := h.few
  have wn : IntKind.i64.wrap (m.at_ + 1) = m.at_ + 1 := IntWalk.i64_in _ (by omega)
  have c19 := h.mac.at_
  have H0 : Hid _ := h
  have O0 : Hid (OpBox (w.alloc (.cells #[.int .i64 (11), .int .i64 ((i : Nat)), .int .i64 ((j : Nat))] 23)) w.heap.size (11) ((i : Nat)) ((j : Nat))) := Three.new _ _ _ _ _
  have lp := h.mac.lt
  clear h
  go_enter Try.func93, Try.ntmps93
  go_wp2_with fail
  have H1 : Hid (St B p (w.alloc (.cells #[.int .i64 (11), .int .i64 ((i : Nat)), .int .i64 ((j : Nat))] 23)) m sh n ∧ Only [] w (w.alloc (.cells #[.int .i64 (11), .int .i64 ((i : Nat)), .int .i64 ((j : Nat))] 23)) ∧ OpBox (w.alloc (.cells #[.int .i64 (11), .int .i64 ((i : Nat)), .int .i64 ((j : Nat))] 23)) w.heap.size (11) ((i : Nat)) ((j : Nat))) := ⟨H0.out.only ((Only.refl _ _).alloc _), (Only.refl _ _).alloc _, O0.out⟩
  generalize w.alloc (.cells #[.int .i64 (11), .int .i64 ((i : Nat)), .int .i64 ((j : Nat))] 23) = W at *
  generalize w.heap.size = q at *
  clear H0 c19 O0
  have HV : Hid (∀ y, Only [] W.drew y → St B p y m sh n ∧ OpBox y q (11) ((i : Nat)) ((j : Nat))) := fun y hy => ⟨H1.out.1.only ((only_drew W).trans hy), Three.only H1.out.2.2 ((only_drew W).trans hy) (by simp)⟩
  refine wp_region_free 11 (Only []) (Only.refl _) Only.trans [(0, .pointer (some ⟨p, 0, none⟩)), (3, .pointer (some ⟨q, 0, none⟩))] (by intro p hp; simp only [List.mem_cons, List.not_mem_nil, or_false] at hp; rcases hp with rfl | rfl <;> rfl) (by kernel_rfl) (by kernel_rfl) (by decide) (by kernel_rfl) (by kernel_rfl) ?_
  simp only [List.take_succ_cons, List.take_zero, List.drop_succ_cons, List.drop_zero]
  apply rf_val
  · first | rfl | exact ⟨by kernel_rfl, rfl⟩
  · intro z y hT hf
    obtain ⟨b0, b1, b2⟩ := And.intro (Three.cell0 (HV.out y hT).2) (And.intro (Three.cell1 (HV.out y hT).2) (Three.cell2 (HV.out y hT).2))
    simp at hf
    go_simp
    try rfl
  apply rf_val
  · first | rfl | exact ⟨by kernel_rfl, rfl⟩
  · intro z y hT hf
    obtain ⟨b0, b1, b2⟩ := And.intro (Three.cell0 (HV.out y hT).2) (And.intro (Three.cell1 (HV.out y hT).2) (Three.cell2 (HV.out y hT).2))
    simp at hf
    go_simp
    try rfl
  apply rf_val
  · first | rfl | exact ⟨by kernel_rfl, rfl⟩
  · intro z y hT hf
    obtain ⟨b0, b1, b2⟩ := And.intro (Three.cell0 (HV.out y hT).2) (And.intro (Three.cell1 (HV.out y hT).2) (Three.cell2 (HV.out y hT).2))
    simp at hf
    go_simp
    try rfl
  apply rf_val
  · first | rfl | exact ⟨by kernel_rfl, rfl⟩
  · intro z y hT hf
    obtain ⟨b0, b1, b2⟩ := And.intro (Three.cell0 (HV.out y hT).2) (And.intro (Three.cell1 (HV.out y hT).2) (Three.cell2 (HV.out y hT).2))
    simp at hf
    go_simp
    try rfl
  refine rf_eff (fun _ v => v = .pointer (some ⟨p, 8 + i, none⟩)) (by first | rfl | exact ⟨by kernel_rfl, rfl⟩) (fun _ _ _ _ h => h) (fun z y hT hf => ?_) ?_
  · simp at hf
    go_simp
    refine (reg_yes (HV.out y hT).1.mac i hi).mono ?_
    rintro e y2 ⟨rfl, rfl⟩
    exact ⟨_, rfl, rfl, Only.refl _ _⟩
  apply rf_val
  · first | rfl | exact ⟨by kernel_rfl, rfl⟩
  · intro z y hT hf
    obtain ⟨b0, b1, b2⟩ := And.intro (Three.cell0 (HV.out y hT).2) (And.intro (Three.cell1 (HV.out y hT).2) (Three.cell2 (HV.out y hT).2))
    simp at hf
    go_simp
    try rfl
  apply rf_val
  · first | rfl | exact ⟨by kernel_rfl, rfl⟩
  · intro z y hT hf
    obtain ⟨b0, b1, b2⟩ := And.intro (Three.cell0 (HV.out y hT).2) (And.intro (Three.cell1 (HV.out y hT).2) (Three.cell2 (HV.out y hT).2))
    simp at hf
    go_simp
    try rfl
  apply rf_val
  · first | rfl | exact ⟨by kernel_rfl, rfl⟩
  · intro z y hT hf
    obtain ⟨b0, b1, b2⟩ := And.intro (Three.cell0 (HV.out y hT).2) (And.intro (Three.cell1 (HV.out y hT).2) (Three.cell2 (HV.out y hT).2))
    simp at hf
    go_simp
    try rfl
  refine rf_eff (fun _ v => v = .pointer (some ⟨p, 8 + j, none⟩)) (by first | rfl | exact ⟨by kernel_rfl, rfl⟩) (fun _ _ _ _ h => h) (fun z y hT hf => ?_) ?_
  · simp at hf
    go_simp
    refine (reg_yes (HV.out y hT).1.mac j hj).mono ?_
    rintro e y2 ⟨rfl, rfl⟩
    exact ⟨_, rfl, rfl, Only.refl _ _⟩
  apply rf_val
  · first | rfl | exact ⟨by kernel_rfl, rfl⟩
  · intro z y hT hf
    obtain ⟨b0, b1, b2⟩ := And.intro (Three.cell0 (HV.out y hT).2) (And.intro (Three.cell1 (HV.out y hT).2) (Three.cell2 (HV.out y hT).2))
    have cm0 := (HV.out y hT).1.mac.mem j hj
    simp at hf
    go_simp
    try rfl
  apply rf_val
  · first | rfl | exact ⟨by kernel_rfl, rfl⟩
  · intro z y hT hf
    obtain ⟨b0, b1, b2⟩ := And.intro (Three.cell0 (HV.out y hT).2) (And.intro (Three.cell1 (HV.out y hT).2) (Three.cell2 (HV.out y hT).2))
    have cm0 := (HV.out y hT).1.mac.mem j hj
    simp at hf
    go_simp
    try rfl
  intro w2 hy
  simp only [FinA, Sp.R, forall_eq]
  simp only [Act.put, List.setIfInBounds_toArray, List.set_cons_succ, List.set_cons_zero]
  have H2 : Hid (St B p w2 m sh n ∧ Only [] w w2 ∧ OpBox w2 q (11) ((i : Nat)) ((j : Nat))) := ⟨(HV.out w2 hy).1, H1.out.2.1.trans ((only_drew W).trans hy), (HV.out w2 hy).2⟩
  clear hy HV H1
  go_wp2_with fail
  refine (roll_no H2.out.1.mac i _ (by omega)).mono ?_
  rintro e w3 ⟨rfl, rfl⟩
  exact ⟨rfl, doPost_fault HR.out rfl H2.out.2.1⟩
set_option maxRecDepth 100000 in
set_option maxHeartbeats 1000000 in
theorem do_11a {B p n : Nat} {w : World} {m : Mch} {sh : List Bd} (h : St B p w m sh n) (a b : Int) (ha : Rule.is a = false) (hr : Rule.act n m.at_ ⟨11, a, b⟩ (m.e sh) = .fault 2) : Calls Try.prog 93 #[.pointer (some ⟨p, 0, none⟩), .agg #[.int .i64 (11), .int .i64 (a), .int .i64 (b)]] w (DoPost B p w m (Rule.act n m.at_ ⟨11, a, b⟩ (m.e sh))) := by
  have HR : Hid _ := hr
  clear hr
  generalize Rule.act n m.at_ ⟨11, a, b⟩ (m.e sh) = RR at *
  have k1 := h.at0
  have k2 := h.at1
  have k3 := h.few
  have wn : IntKind.i64.wrap (m.at_ + 1) = m.at_ + 1 := IntWalk.i64_in _ (by omega)
  have c19 := h.mac.at_
  have H0 : Hid _ := h
  have O0 : Hid (OpBox (w.alloc (.cells #[.int .i64 (11), .int .i64 (a), .int .i64 (b)] 23)) w.heap.size (11) (a) (b)) := Three.new _ _ _ _ _
  have lp := h.mac.lt
  clear h
  go_enter Try.func93, Try.ntmps93
  go_wp2_with fail
  have H1 : Hid (St B p (w.alloc (.cells #[.int .i64 (11), .int .i64 (a), .int .i64 (b)] 23)) m sh n ∧ Only [] w (w.alloc (.cells #[.int .i64 (11), .int .i64 (a), .int .i64 (b)] 23)) ∧ OpBox (w.alloc (.cells #[.int .i64 (11), .int .i64 (a), .int .i64 (b)] 23)) w.heap.size (11) (a) (b)) := ⟨H0.out.only ((Only.refl _ _).alloc _), (Only.refl _ _).alloc _, O0.out⟩
  generalize w.alloc (.cells #[.int .i64 (11), .int .i64 (a), .int .i64 (b)] 23) = W at *
  generalize w.heap.size = q at *
  clear H0 c19 O0
  have HV : Hid (∀ y, Only [] W.drew y → St B p y m sh n ∧ OpBox y q (11) (a) (b)) := fun y hy => ⟨H1.out.1.only ((only_drew W).trans hy), Three.only H1.out.2.2 ((only_drew W).trans hy) (by simp)⟩
  refine wp_region_fate (fun chain y => chain = [{ v := thrownV 2 m.at_, recovered := false }] ∧ Only [] w y) (by rintro chain a' y hd ⟨rfl, ho⟩; exact ⟨hd, doPost_fault HR.out rfl ho⟩) 12 (Only []) (Only.refl _) Only.trans [(0, .pointer (some ⟨p, 0, none⟩)), (3, .pointer (some ⟨q, 0, none⟩))] (by intro p hp; simp only [List.mem_cons, List.not_mem_nil, or_false] at hp; rcases hp with rfl | rfl <;> rfl) (by kernel_rfl) (by kernel_rfl) (by decide) (by kernel_rfl) (by kernel_rfl) ?_
  simp only [List.take_succ_cons, List.take_zero, List.drop_succ_cons, List.drop_zero]
  apply rd_val
  · first | rfl | exact ⟨by kernel_rfl, rfl⟩
  · intro z y hT hf
    obtain ⟨b0, b1, b2⟩ := And.intro (Three.cell0 (HV.out y hT).2) (And.intro (Three.cell1 (HV.out y hT).2) (Three.cell2 (HV.out y hT).2))
    simp at hf
    go_simp
    try rfl
  apply rd_val
  · first | rfl | exact ⟨by kernel_rfl, rfl⟩
  · intro z y hT hf
    obtain ⟨b0, b1, b2⟩ := And.intro (Three.cell0 (HV.out y hT).2) (And.intro (Three.cell1 (HV.out y hT).2) (Three.cell2 (HV.out y hT).2))
    simp at hf
    go_simp
    try rfl
  apply rd_val
  · first | rfl | exact ⟨by kernel_rfl, rfl⟩
  · intro z y hT hf
    obtain ⟨b0, b1, b2⟩ := And.intro (Three.cell0 (HV.out y hT).2) (And.intro (Three.cell1 (HV.out y hT).2) (Three.cell2 (HV.out y hT).2))
    simp at hf
    go_simp
    try rfl
  apply rd_val
  · first | rfl | exact ⟨by kernel_rfl, rfl⟩
  · intro z y hT hf
    obtain ⟨b0, b1, b2⟩ := And.intro (Three.cell0 (HV.out y hT).2) (And.intro (Three.cell1 (HV.out y hT).2) (Three.cell2 (HV.out y hT).2))
    simp at hf
    go_simp
    try rfl
  refine rd_die (by first | rfl | exact ⟨by kernel_rfl, rfl⟩) (fun z y hT hf => ?_) ?_
  · simp at hf
    go_simp
    refine (reg_no (HV.out y hT).1.mac a ha).mono ?_
    rintro e y2 ⟨rfl, rfl⟩
    exact ⟨_, rfl, rfl, H1.out.2.1.trans ((only_drew W).trans hT)⟩
  apply rd_val
  · first | rfl | exact ⟨by kernel_rfl, rfl⟩
  · intro z y hT hf
    obtain ⟨b0, b1, b2⟩ := And.intro (Three.cell0 (HV.out y hT).2) (And.intro (Three.cell1 (HV.out y hT).2) (Three.cell2 (HV.out y hT).2))
    simp at hf
    go_simp
    try rfl
  apply rd_val
  · first | rfl | exact ⟨by kernel_rfl, rfl⟩
  · intro z y hT hf
    obtain ⟨b0, b1, b2⟩ := And.intro (Three.cell0 (HV.out y hT).2) (And.intro (Three.cell1 (HV.out y hT).2) (Three.cell2 (HV.out y hT).2))
    simp at hf
    go_simp
    try rfl
  apply rd_val
  · first | rfl | exact ⟨by kernel_rfl, rfl⟩
  · intro z y hT hf
    obtain ⟨b0, b1, b2⟩ := And.intro (Three.cell0 (HV.out y hT).2) (And.intro (Three.cell1 (HV.out y hT).2) (Three.cell2 (HV.out y hT).2))
    simp at hf
    go_simp
    try rfl
  refine rd_not (by first | rfl | exact ⟨by kernel_rfl, rfl⟩) (fun z y hT hf => (by simp at hf)) ?_
  refine rd_not (by first | rfl | exact ⟨by kernel_rfl, rfl⟩) (fun z y hT hf => (by simp at hf)) ?_
  refine rd_not (by first | rfl | exact ⟨by kernel_rfl, rfl⟩) (fun z y hT hf => (by simp at hf)) ?_
  refine rd_not (by first | rfl | exact ⟨by kernel_rfl, rfl⟩) (fun z y hT hf => (by simp at hf)) ?_
  intro w2 hy
  simp only [FinA, Sp.R, forall_eq]
  first | exact False.elim | (intro v hv; exact hv.elim) | (intro v hv v2 hv2; exact hv2.elim) | (intro v hv; exact fun _ h => h.elim)
set_option maxRecDepth 100000 in
set_option maxHeartbeats 1000000 in
theorem do_11b {B p n : Nat} {w : World} {m : Mch} {sh : List Bd} (h : St B p w m sh n) (i : Nat) (b : Int) (hi : i < 4) (hb : Rule.is b = false) (hr : Rule.act n m.at_ ⟨11, (i : Nat), b⟩ (m.e sh) = .fault 2) : Calls Try.prog 93 #[.pointer (some ⟨p, 0, none⟩), .agg #[.int .i64 (11), .int .i64 ((i : Nat)), .int .i64 (b)]] w (DoPost B p w m (Rule.act n m.at_ ⟨11, (i : Nat), b⟩ (m.e sh))) := by
  have HR : Hid _ := hr
  clear hr
  generalize Rule.act n m.at_ ⟨11, (i : Nat), b⟩ (m.e sh) = RR at *
  have k1 := h.at0
  have k2 := h.at1
  have k3 := h.few
  have wn : IntKind.i64.wrap (m.at_ + 1) = m.at_ + 1 := IntWalk.i64_in _ (by omega)
  have c19 := h.mac.at_
  have H0 : Hid _ := h
  have O0 : Hid (OpBox (w.alloc (.cells #[.int .i64 (11), .int .i64 ((i : Nat)), .int .i64 (b)] 23)) w.heap.size (11) ((i : Nat)) (b)) := Three.new _ _ _ _ _
  have lp := h.mac.lt
  clear h
  go_enter Try.func93, Try.ntmps93
  go_wp2_with fail
  have H1 : Hid (St B p (w.alloc (.cells #[.int .i64 (11), .int .i64 ((i : Nat)), .int .i64 (b)] 23)) m sh n ∧ Only [] w (w.alloc (.cells #[.int .i64 (11), .int .i64 ((i : Nat)), .int .i64 (b)] 23)) ∧ OpBox (w.alloc (.cells #[.int .i64 (11), .int .i64 ((i : Nat)), .int .i64 (b)] 23)) w.heap.size (11) ((i : Nat)) (b)) := ⟨H0.out.only ((Only.refl _ _).alloc _), (Only.refl _ _).alloc _, O0.out⟩
  generalize w.alloc (.cells #[.int .i64 (11), .int .i64 ((i : Nat)), .int .i64 (b)] 23) = W at *
  generalize w.heap.size = q at *
  clear H0 c19 O0
  have HV : Hid (∀ y, Only [] W.drew y → St B p y m sh n ∧ OpBox y q (11) ((i : Nat)) (b)) := fun y hy => ⟨H1.out.1.only ((only_drew W).trans hy), Three.only H1.out.2.2 ((only_drew W).trans hy) (by simp)⟩
  refine wp_region_fate (fun chain y => chain = [{ v := thrownV 2 m.at_, recovered := false }] ∧ Only [] w y) (by rintro chain a' y hd ⟨rfl, ho⟩; exact ⟨hd, doPost_fault HR.out rfl ho⟩) 12 (Only []) (Only.refl _) Only.trans [(0, .pointer (some ⟨p, 0, none⟩)), (3, .pointer (some ⟨q, 0, none⟩))] (by intro p hp; simp only [List.mem_cons, List.not_mem_nil, or_false] at hp; rcases hp with rfl | rfl <;> rfl) (by kernel_rfl) (by kernel_rfl) (by decide) (by kernel_rfl) (by kernel_rfl) ?_
  simp only [List.take_succ_cons, List.take_zero, List.drop_succ_cons, List.drop_zero]
  apply rd_val
  · first | rfl | exact ⟨by kernel_rfl, rfl⟩
  · intro z y hT hf
    obtain ⟨b0, b1, b2⟩ := And.intro (Three.cell0 (HV.out y hT).2) (And.intro (Three.cell1 (HV.out y hT).2) (Three.cell2 (HV.out y hT).2))
    simp at hf
    go_simp
    try rfl
  apply rd_val
  · first | rfl | exact ⟨by kernel_rfl, rfl⟩
  · intro z y hT hf
    obtain ⟨b0, b1, b2⟩ := And.intro (Three.cell0 (HV.out y hT).2) (And.intro (Three.cell1 (HV.out y hT).2) (Three.cell2 (HV.out y hT).2))
    simp at hf
    go_simp
    try rfl
  apply rd_val
  · first | rfl | exact ⟨by kernel_rfl, rfl⟩
  · intro z y hT hf
    obtain ⟨b0, b1, b2⟩ := And.intro (Three.cell0 (HV.out y hT).2) (And.intro (Three.cell1 (HV.out y hT).2) (Three.cell2 (HV.out y hT).2))
    simp at hf
    go_simp
    try rfl
  apply rd_val
  · first | rfl | exact ⟨by kernel_rfl, rfl⟩
  · intro z y hT hf
    obtain ⟨b0, b1, b2⟩ := And.intro (Three.cell0 (HV.out y hT).2) (And.intro (Three.cell1 (HV.out y hT).2) (Three.cell2 (HV.out y hT).2))
    simp at hf
    go_simp
    try rfl
  refine rd_eff (fun _ v => v = .pointer (some ⟨p, 8 + i, none⟩)) (by first | rfl | exact ⟨by kernel_rfl, rfl⟩) (fun _ _ _ _ h => h) (fun z y hT hf => ?_) ?_
  · simp at hf
    go_simp
    refine (reg_yes (HV.out y hT).1.mac i hi).mono ?_
    rintro e y2 ⟨rfl, rfl⟩
    exact ⟨_, rfl, rfl, Only.refl _ _⟩
  apply rd_val
  · first | rfl | exact ⟨by kernel_rfl, rfl⟩
  · intro z y hT hf
    obtain ⟨b0, b1, b2⟩ := And.intro (Three.cell0 (HV.out y hT).2) (And.intro (Three.cell1 (HV.out y hT).2) (Three.cell2 (HV.out y hT).2))
    simp at hf
    go_simp
    try rfl
  apply rd_val
  · first | rfl | exact ⟨by kernel_rfl, rfl⟩
  · intro z y hT hf
    obtain ⟨b0, b1, b2⟩ := And.intro (Three.cell0 (HV.out y hT).2) (And.intro (Three.cell1 (HV.out y hT).2) (Three.cell2 (HV.out y hT).2))
    simp at hf
    go_simp
    try rfl
  apply rd_val
  · first | rfl | exact ⟨by kernel_rfl, rfl⟩
  · intro z y hT hf
    obtain ⟨b0, b1, b2⟩ := And.intro (Three.cell0 (HV.out y hT).2) (And.intro (Three.cell1 (HV.out y hT).2) (Three.cell2 (HV.out y hT).2))
    simp at hf
    go_simp
    try rfl
  refine rd_die (by first | rfl | exact ⟨by kernel_rfl, rfl⟩) (fun z y hT hf => ?_) ?_
  · simp at hf
    go_simp
    refine (reg_no (HV.out y hT).1.mac b hb).mono ?_
    rintro e y2 ⟨rfl, rfl⟩
    exact ⟨_, rfl, rfl, H1.out.2.1.trans ((only_drew W).trans hT)⟩
  refine rd_not (by first | rfl | exact ⟨by kernel_rfl, rfl⟩) (fun z y hT hf => (by simp at hf)) ?_
  refine rd_not (by first | rfl | exact ⟨by kernel_rfl, rfl⟩) (fun z y hT hf => (by simp at hf)) ?_
  refine rd_not (by first | rfl | exact ⟨by kernel_rfl, rfl⟩) (fun z y hT hf => (by simp at hf)) ?_
  intro w2 hy
  simp only [FinA, Sp.R, forall_eq]
  first | exact False.elim | (intro v hv; exact hv.elim) | (intro v hv v2 hv2; exact hv2.elim) | (intro v hv; exact fun _ h => h.elim)
set_option maxRecDepth 100000 in
set_option maxHeartbeats 1000000 in
theorem do_12y {B p n : Nat} {w : World} {m : Mch} {sh : List Bd} (h : St B p w m sh n) (i j : Nat) (hi : i < 4) (hj : j < 4) (h1 : (sh.length : Int) < m.room) (hr : Rule.act n m.at_ ⟨12, (i : Nat), (j : Nat)⟩ (m.e sh) = .next { m.e sh with sh := sh ++ [Body.shot m.b (Rule.reg m.b i) (Rule.reg m.b j)] } (m.at_ + 1)) : Calls Try.prog 93 #[.pointer (some ⟨p, 0, none⟩), .agg #[.int .i64 (12), .int .i64 ((i : Nat)), .int .i64 ((j : Nat))]] w (DoPost B p w m (Rule.act n m.at_ ⟨12, (i : Nat), (j : Nat)⟩ (m.e sh))) := by
  have HR : Hid _ := hr
  clear hr
  generalize Rule.act n m.at_ ⟨12, (i : Nat), (j : Nat)⟩ (m.e sh) = RR at *
  have k1 := h.at0
  have k2 := h.at1
  have k3 := h.few
  have wn : IntKind.i64.wrap (m.at_ + 1) = m.at_ + 1 := IntWalk.i64_in _ (by omega)
  have c19 := h.mac.at_
  have H0 : Hid _ := h
  have O0 : Hid (OpBox (w.alloc (.cells #[.int .i64 (12), .int .i64 ((i : Nat)), .int .i64 ((j : Nat))] 23)) w.heap.size (12) ((i : Nat)) ((j : Nat))) := Three.new _ _ _ _ _
  have lp := h.mac.lt
  clear h
  go_enter Try.func93, Try.ntmps93
  go_wp2_with fail
  have H1 : Hid (St B p (w.alloc (.cells #[.int .i64 (12), .int .i64 ((i : Nat)), .int .i64 ((j : Nat))] 23)) m sh n ∧ Only [] w (w.alloc (.cells #[.int .i64 (12), .int .i64 ((i : Nat)), .int .i64 ((j : Nat))] 23)) ∧ OpBox (w.alloc (.cells #[.int .i64 (12), .int .i64 ((i : Nat)), .int .i64 ((j : Nat))] 23)) w.heap.size (12) ((i : Nat)) ((j : Nat))) := ⟨H0.out.only ((Only.refl _ _).alloc _), (Only.refl _ _).alloc _, O0.out⟩
  generalize w.alloc (.cells #[.int .i64 (12), .int .i64 ((i : Nat)), .int .i64 ((j : Nat))] 23) = W at *
  generalize w.heap.size = q at *
  clear H0 c19 O0
  have HV : Hid (∀ y, Only [] W.drew y → St B p y m sh n ∧ OpBox y q (12) ((i : Nat)) ((j : Nat))) := fun y hy => ⟨H1.out.1.only ((only_drew W).trans hy), Three.only H1.out.2.2 ((only_drew W).trans hy) (by simp)⟩
  refine wp_region_free 13 (Only []) (Only.refl _) Only.trans [(0, .pointer (some ⟨p, 0, none⟩)), (3, .pointer (some ⟨q, 0, none⟩))] (by intro p hp; simp only [List.mem_cons, List.not_mem_nil, or_false] at hp; rcases hp with rfl | rfl <;> rfl) (by kernel_rfl) (by kernel_rfl) (by decide) (by kernel_rfl) (by kernel_rfl) ?_
  simp only [List.take_succ_cons, List.take_zero, List.drop_succ_cons, List.drop_zero]
  apply rf_val
  · first | rfl | exact ⟨by kernel_rfl, rfl⟩
  · intro z y hT hf
    obtain ⟨b0, b1, b2⟩ := And.intro (Three.cell0 (HV.out y hT).2) (And.intro (Three.cell1 (HV.out y hT).2) (Three.cell2 (HV.out y hT).2))
    simp at hf
    go_simp
    try rfl
  apply rf_val
  · first | rfl | exact ⟨by kernel_rfl, rfl⟩
  · intro z y hT hf
    obtain ⟨b0, b1, b2⟩ := And.intro (Three.cell0 (HV.out y hT).2) (And.intro (Three.cell1 (HV.out y hT).2) (Three.cell2 (HV.out y hT).2))
    simp at hf
    go_simp
    try rfl
  apply rf_val
  · first | rfl | exact ⟨by kernel_rfl, rfl⟩
  · intro z y hT hf
    obtain ⟨b0, b1, b2⟩ := And.intro (Three.cell0 (HV.out y hT).2) (And.intro (Three.cell1 (HV.out y hT).2) (Three.cell2 (HV.out y hT).2))
    simp at hf
    go_simp
    try rfl
  apply rf_val
  · first | rfl | exact ⟨by kernel_rfl, rfl⟩
  · intro z y hT hf
    obtain ⟨b0, b1, b2⟩ := And.intro (Three.cell0 (HV.out y hT).2) (And.intro (Three.cell1 (HV.out y hT).2) (Three.cell2 (HV.out y hT).2))
    simp at hf
    go_simp
    try rfl
  refine rf_eff (fun _ v => v = .pointer (some ⟨p, 8 + i, none⟩)) (by first | rfl | exact ⟨by kernel_rfl, rfl⟩) (fun _ _ _ _ h => h) (fun z y hT hf => ?_) ?_
  · simp at hf
    go_simp
    refine (reg_yes (HV.out y hT).1.mac i hi).mono ?_
    rintro e y2 ⟨rfl, rfl⟩
    exact ⟨_, rfl, rfl, Only.refl _ _⟩
  apply rf_val
  · first | rfl | exact ⟨by kernel_rfl, rfl⟩
  · intro z y hT hf
    obtain ⟨b0, b1, b2⟩ := And.intro (Three.cell0 (HV.out y hT).2) (And.intro (Three.cell1 (HV.out y hT).2) (Three.cell2 (HV.out y hT).2))
    have cm0 := (HV.out y hT).1.mac.mem i hi
    simp at hf
    go_simp
    try rfl
  apply rf_val
  · first | rfl | exact ⟨by kernel_rfl, rfl⟩
  · intro z y hT hf
    obtain ⟨b0, b1, b2⟩ := And.intro (Three.cell0 (HV.out y hT).2) (And.intro (Three.cell1 (HV.out y hT).2) (Three.cell2 (HV.out y hT).2))
    have cm0 := (HV.out y hT).1.mac.mem i hi
    simp at hf
    go_simp
    try rfl
  apply rf_val
  · first | rfl | exact ⟨by kernel_rfl, rfl⟩
  · intro z y hT hf
    obtain ⟨b0, b1, b2⟩ := And.intro (Three.cell0 (HV.out y hT).2) (And.intro (Three.cell1 (HV.out y hT).2) (Three.cell2 (HV.out y hT).2))
    simp at hf
    go_simp
    try rfl
  apply rf_val
  · first | rfl | exact ⟨by kernel_rfl, rfl⟩
  · intro z y hT hf
    obtain ⟨b0, b1, b2⟩ := And.intro (Three.cell0 (HV.out y hT).2) (And.intro (Three.cell1 (HV.out y hT).2) (Three.cell2 (HV.out y hT).2))
    simp at hf
    go_simp
    try rfl
  apply rf_val
  · first | rfl | exact ⟨by kernel_rfl, rfl⟩
  · intro z y hT hf
    obtain ⟨b0, b1, b2⟩ := And.intro (Three.cell0 (HV.out y hT).2) (And.intro (Three.cell1 (HV.out y hT).2) (Three.cell2 (HV.out y hT).2))
    simp at hf
    go_simp
    try rfl
  refine rf_eff (fun _ v => v = .pointer (some ⟨p, 8 + j, none⟩)) (by first | rfl | exact ⟨by kernel_rfl, rfl⟩) (fun _ _ _ _ h => h) (fun z y hT hf => ?_) ?_
  · simp at hf
    go_simp
    refine (reg_yes (HV.out y hT).1.mac j hj).mono ?_
    rintro e y2 ⟨rfl, rfl⟩
    exact ⟨_, rfl, rfl, Only.refl _ _⟩
  apply rf_val
  · first | rfl | exact ⟨by kernel_rfl, rfl⟩
  · intro z y hT hf
    obtain ⟨b0, b1, b2⟩ := And.intro (Three.cell0 (HV.out y hT).2) (And.intro (Three.cell1 (HV.out y hT).2) (Three.cell2 (HV.out y hT).2))
    have cm0 := (HV.out y hT).1.mac.mem j hj
    simp at hf
    go_simp
    try rfl
  apply rf_val
  · first | rfl | exact ⟨by kernel_rfl, rfl⟩
  · intro z y hT hf
    obtain ⟨b0, b1, b2⟩ := And.intro (Three.cell0 (HV.out y hT).2) (And.intro (Three.cell1 (HV.out y hT).2) (Three.cell2 (HV.out y hT).2))
    have cm0 := (HV.out y hT).1.mac.mem j hj
    simp at hf
    go_simp
    try rfl
  intro w2 hy
  simp only [FinA, Sp.R, forall_eq]
  simp only [Act.put, List.setIfInBounds_toArray, List.set_cons_succ, List.set_cons_zero]
  have H2 : Hid (St B p w2 m sh n ∧ Only [] w w2 ∧ OpBox w2 q (12) ((i : Nat)) ((j : Nat))) := ⟨(HV.out w2 hy).1, H1.out.2.1.trans ((only_drew W).trans hy), (HV.out w2 hy).2⟩
  clear hy HV H1
  go_wp2_with fail
  refine (fire_yes H2.out.1.mac H2.out.1.row H2.out.1.own H2.out.1.low H2.out.1.len h1 H2.out.1.ok _ _).mono ?_
  rintro e w3 ⟨rfl, v, hm, hs, hv, mv⟩
  have H3 : Hid _ := And.intro hm (And.intro hs (And.intro hv mv))
  clear hm hs hv mv
  go_wp2_with fail
  go_ret
  exact doPost_next HR.out rfl H3.out.1 H3.out.2.1 H3.out.2.2.1 ((Moved.of_only (H2.out.2.1.weaken (by simp))).trans H3.out.2.2.2)
set_option maxRecDepth 100000 in
set_option maxHeartbeats 1000000 in
theorem do_12f {B p n : Nat} {w : World} {m : Mch} {sh : List Bd} (h : St B p w m sh n) (i j : Nat) (hi : i < 4) (hj : j < 4) (h1 : ¬ (sh.length : Int) < m.room) (hr : Rule.act n m.at_ ⟨12, (i : Nat), (j : Nat)⟩ (m.e sh) = .fault 7) : Calls Try.prog 93 #[.pointer (some ⟨p, 0, none⟩), .agg #[.int .i64 (12), .int .i64 ((i : Nat)), .int .i64 ((j : Nat))]] w (DoPost B p w m (Rule.act n m.at_ ⟨12, (i : Nat), (j : Nat)⟩ (m.e sh))) := by
  have HR : Hid _ := hr
  clear hr
  generalize Rule.act n m.at_ ⟨12, (i : Nat), (j : Nat)⟩ (m.e sh) = RR at *
  have k1 := h.at0
  have k2 := h.at1
  have k3 := h.few
  have wn : IntKind.i64.wrap (m.at_ + 1) = m.at_ + 1 := IntWalk.i64_in _ (by omega)
  have c19 := h.mac.at_
  have H0 : Hid _ := h
  have O0 : Hid (OpBox (w.alloc (.cells #[.int .i64 (12), .int .i64 ((i : Nat)), .int .i64 ((j : Nat))] 23)) w.heap.size (12) ((i : Nat)) ((j : Nat))) := Three.new _ _ _ _ _
  have lp := h.mac.lt
  clear h
  go_enter Try.func93, Try.ntmps93
  go_wp2_with fail
  have H1 : Hid (St B p (w.alloc (.cells #[.int .i64 (12), .int .i64 ((i : Nat)), .int .i64 ((j : Nat))] 23)) m sh n ∧ Only [] w (w.alloc (.cells #[.int .i64 (12), .int .i64 ((i : Nat)), .int .i64 ((j : Nat))] 23)) ∧ OpBox (w.alloc (.cells #[.int .i64 (12), .int .i64 ((i : Nat)), .int .i64 ((j : Nat))] 23)) w.heap.size (12) ((i : Nat)) ((j : Nat))) := ⟨H0.out.only ((Only.refl _ _).alloc _), (Only.refl _ _).alloc _, O0.out⟩
  generalize w.alloc (.cells #[.int .i64 (12), .int .i64 ((i : Nat)), .int .i64 ((j : Nat))] 23) = W at *
  generalize w.heap.size = q at *
  clear H0 c19 O0
  have HV : Hid (∀ y, Only [] W.drew y → St B p y m sh n ∧ OpBox y q (12) ((i : Nat)) ((j : Nat))) := fun y hy => ⟨H1.out.1.only ((only_drew W).trans hy), Three.only H1.out.2.2 ((only_drew W).trans hy) (by simp)⟩
  refine wp_region_free 13 (Only []) (Only.refl _) Only.trans [(0, .pointer (some ⟨p, 0, none⟩)), (3, .pointer (some ⟨q, 0, none⟩))] (by intro p hp; simp only [List.mem_cons, List.not_mem_nil, or_false] at hp; rcases hp with rfl | rfl <;> rfl) (by kernel_rfl) (by kernel_rfl) (by decide) (by kernel_rfl) (by kernel_rfl) ?_
  simp only [List.take_succ_cons, List.take_zero, List.drop_succ_cons, List.drop_zero]
  apply rf_val
  · first | rfl | exact ⟨by kernel_rfl, rfl⟩
  · intro z y hT hf
    obtain ⟨b0, b1, b2⟩ := And.intro (Three.cell0 (HV.out y hT).2) (And.intro (Three.cell1 (HV.out y hT).2) (Three.cell2 (HV.out y hT).2))
    simp at hf
    go_simp
    try rfl
  apply rf_val
  · first | rfl | exact ⟨by kernel_rfl, rfl⟩
  · intro z y hT hf
    obtain ⟨b0, b1, b2⟩ := And.intro (Three.cell0 (HV.out y hT).2) (And.intro (Three.cell1 (HV.out y hT).2) (Three.cell2 (HV.out y hT).2))
    simp at hf
    go_simp
    try rfl
  apply rf_val
  · first | rfl | exact ⟨by kernel_rfl, rfl⟩
  · intro z y hT hf
    obtain ⟨b0, b1, b2⟩ := And.intro (Three.cell0 (HV.out y hT).2) (And.intro (Three.cell1 (HV.out y hT).2) (Three.cell2 (HV.out y hT).2))
    simp at hf
    go_simp
    try rfl
  apply rf_val
  · first | rfl | exact ⟨by kernel_rfl, rfl⟩
  · intro z y hT hf
    obtain ⟨b0, b1, b2⟩ := And.intro (Three.cell0 (HV.out y hT).2) (And.intro (Three.cell1 (HV.out y hT).2) (Three.cell2 (HV.out y hT).2))
    simp at hf
    go_simp
    try rfl
  refine rf_eff (fun _ v => v = .pointer (some ⟨p, 8 + i, none⟩)) (by first | rfl | exact ⟨by kernel_rfl, rfl⟩) (fun _ _ _ _ h => h) (fun z y hT hf => ?_) ?_
  · simp at hf
    go_simp
    refine (reg_yes (HV.out y hT).1.mac i hi).mono ?_
    rintro e y2 ⟨rfl, rfl⟩
    exact ⟨_, rfl, rfl, Only.refl _ _⟩
  apply rf_val
  · first | rfl | exact ⟨by kernel_rfl, rfl⟩
  · intro z y hT hf
    obtain ⟨b0, b1, b2⟩ := And.intro (Three.cell0 (HV.out y hT).2) (And.intro (Three.cell1 (HV.out y hT).2) (Three.cell2 (HV.out y hT).2))
    have cm0 := (HV.out y hT).1.mac.mem i hi
    simp at hf
    go_simp
    try rfl
  apply rf_val
  · first | rfl | exact ⟨by kernel_rfl, rfl⟩
  · intro z y hT hf
    obtain ⟨b0, b1, b2⟩ := And.intro (Three.cell0 (HV.out y hT).2) (And.intro (Three.cell1 (HV.out y hT).2) (Three.cell2 (HV.out y hT).2))
    have cm0 := (HV.out y hT).1.mac.mem i hi
    simp at hf
    go_simp
    try rfl
  apply rf_val
  · first | rfl | exact ⟨by kernel_rfl, rfl⟩
  · intro z y hT hf
    obtain ⟨b0, b1, b2⟩ := And.intro (Three.cell0 (HV.out y hT).2) (And.intro (Three.cell1 (HV.out y hT).2) (Three.cell2 (HV.out y hT).2))
    simp at hf
    go_simp
    try rfl
  apply rf_val
  · first | rfl | exact ⟨by kernel_rfl, rfl⟩
  · intro z y hT hf
    obtain ⟨b0, b1, b2⟩ := And.intro (Three.cell0 (HV.out y hT).2) (And.intro (Three.cell1 (HV.out y hT).2) (Three.cell2 (HV.out y hT).2))
    simp at hf
    go_simp
    try rfl
  apply rf_val
  · first | rfl | exact ⟨by kernel_rfl, rfl⟩
  · intro z y hT hf
    obtain ⟨b0, b1, b2⟩ := And.intro (Three.cell0 (HV.out y hT).2) (And.intro (Three.cell1 (HV.out y hT).2) (Three.cell2 (HV.out y hT).2))
    simp at hf
    go_simp
    try rfl
  refine rf_eff (fun _ v => v = .pointer (some ⟨p, 8 + j, none⟩)) (by first | rfl | exact ⟨by kernel_rfl, rfl⟩) (fun _ _ _ _ h => h) (fun z y hT hf => ?_) ?_
  · simp at hf
    go_simp
    refine (reg_yes (HV.out y hT).1.mac j hj).mono ?_
    rintro e y2 ⟨rfl, rfl⟩
    exact ⟨_, rfl, rfl, Only.refl _ _⟩
  apply rf_val
  · first | rfl | exact ⟨by kernel_rfl, rfl⟩
  · intro z y hT hf
    obtain ⟨b0, b1, b2⟩ := And.intro (Three.cell0 (HV.out y hT).2) (And.intro (Three.cell1 (HV.out y hT).2) (Three.cell2 (HV.out y hT).2))
    have cm0 := (HV.out y hT).1.mac.mem j hj
    simp at hf
    go_simp
    try rfl
  apply rf_val
  · first | rfl | exact ⟨by kernel_rfl, rfl⟩
  · intro z y hT hf
    obtain ⟨b0, b1, b2⟩ := And.intro (Three.cell0 (HV.out y hT).2) (And.intro (Three.cell1 (HV.out y hT).2) (Three.cell2 (HV.out y hT).2))
    have cm0 := (HV.out y hT).1.mac.mem j hj
    simp at hf
    go_simp
    try rfl
  intro w2 hy
  simp only [FinA, Sp.R, forall_eq]
  simp only [Act.put, List.setIfInBounds_toArray, List.set_cons_succ, List.set_cons_zero]
  have H2 : Hid (St B p w2 m sh n ∧ Only [] w w2 ∧ OpBox w2 q (12) ((i : Nat)) ((j : Nat))) := ⟨(HV.out w2 hy).1, H1.out.2.1.trans ((only_drew W).trans hy), (HV.out w2 hy).2⟩
  clear hy HV H1
  go_wp2_with fail
  obtain ⟨sa, scap, hsv, hsn⟩ := H2.out.1.row.form
  refine (fire_no H2.out.1.mac sa sh.length scap hsv hsn (by omega) _ _).mono ?_
  rintro e w3 ⟨rfl, ho⟩
  exact ⟨rfl, doPost_fault HR.out rfl (H2.out.2.1.trans ho)⟩
set_option maxRecDepth 100000 in
set_option maxHeartbeats 1000000 in
theorem do_12a {B p n : Nat} {w : World} {m : Mch} {sh : List Bd} (h : St B p w m sh n) (a b : Int) (ha : Rule.is a = false) (hr : Rule.act n m.at_ ⟨12, a, b⟩ (m.e sh) = .fault 2) : Calls Try.prog 93 #[.pointer (some ⟨p, 0, none⟩), .agg #[.int .i64 (12), .int .i64 (a), .int .i64 (b)]] w (DoPost B p w m (Rule.act n m.at_ ⟨12, a, b⟩ (m.e sh))) := by
  have HR : Hid _ := hr
  clear hr
  generalize Rule.act n m.at_ ⟨12, a, b⟩ (m.e sh) = RR at *
  have k1 := h.at0
  have k2 := h.at1
  have k3 := h.few
  have wn : IntKind.i64.wrap (m.at_ + 1) = m.at_ + 1 := IntWalk.i64_in _ (by omega)
  have c19 := h.mac.at_
  have H0 : Hid _ := h
  have O0 : Hid (OpBox (w.alloc (.cells #[.int .i64 (12), .int .i64 (a), .int .i64 (b)] 23)) w.heap.size (12) (a) (b)) := Three.new _ _ _ _ _
  have lp := h.mac.lt
  clear h
  go_enter Try.func93, Try.ntmps93
  go_wp2_with fail
  have H1 : Hid (St B p (w.alloc (.cells #[.int .i64 (12), .int .i64 (a), .int .i64 (b)] 23)) m sh n ∧ Only [] w (w.alloc (.cells #[.int .i64 (12), .int .i64 (a), .int .i64 (b)] 23)) ∧ OpBox (w.alloc (.cells #[.int .i64 (12), .int .i64 (a), .int .i64 (b)] 23)) w.heap.size (12) (a) (b)) := ⟨H0.out.only ((Only.refl _ _).alloc _), (Only.refl _ _).alloc _, O0.out⟩
  generalize w.alloc (.cells #[.int .i64 (12), .int .i64 (a), .int .i64 (b)] 23) = W at *
  generalize w.heap.size = q at *
  clear H0 c19 O0
  have HV : Hid (∀ y, Only [] W.drew y → St B p y m sh n ∧ OpBox y q (12) (a) (b)) := fun y hy => ⟨H1.out.1.only ((only_drew W).trans hy), Three.only H1.out.2.2 ((only_drew W).trans hy) (by simp)⟩
  refine wp_region_fate (fun chain y => chain = [{ v := thrownV 2 m.at_, recovered := false }] ∧ Only [] w y) (by rintro chain a' y hd ⟨rfl, ho⟩; exact ⟨hd, doPost_fault HR.out rfl ho⟩) 14 (Only []) (Only.refl _) Only.trans [(0, .pointer (some ⟨p, 0, none⟩)), (3, .pointer (some ⟨q, 0, none⟩))] (by intro p hp; simp only [List.mem_cons, List.not_mem_nil, or_false] at hp; rcases hp with rfl | rfl <;> rfl) (by kernel_rfl) (by kernel_rfl) (by decide) (by kernel_rfl) (by kernel_rfl) ?_
  simp only [List.take_succ_cons, List.take_zero, List.drop_succ_cons, List.drop_zero]
  apply rd_val
  · first | rfl | exact ⟨by kernel_rfl, rfl⟩
  · intro z y hT hf
    obtain ⟨b0, b1, b2⟩ := And.intro (Three.cell0 (HV.out y hT).2) (And.intro (Three.cell1 (HV.out y hT).2) (Three.cell2 (HV.out y hT).2))
    simp at hf
    go_simp
    try rfl
  apply rd_val
  · first | rfl | exact ⟨by kernel_rfl, rfl⟩
  · intro z y hT hf
    obtain ⟨b0, b1, b2⟩ := And.intro (Three.cell0 (HV.out y hT).2) (And.intro (Three.cell1 (HV.out y hT).2) (Three.cell2 (HV.out y hT).2))
    simp at hf
    go_simp
    try rfl
  apply rd_val
  · first | rfl | exact ⟨by kernel_rfl, rfl⟩
  · intro z y hT hf
    obtain ⟨b0, b1, b2⟩ := And.intro (Three.cell0 (HV.out y hT).2) (And.intro (Three.cell1 (HV.out y hT).2) (Three.cell2 (HV.out y hT).2))
    simp at hf
    go_simp
    try rfl
  apply rd_val
  · first | rfl | exact ⟨by kernel_rfl, rfl⟩
  · intro z y hT hf
    obtain ⟨b0, b1, b2⟩ := And.intro (Three.cell0 (HV.out y hT).2) (And.intro (Three.cell1 (HV.out y hT).2) (Three.cell2 (HV.out y hT).2))
    simp at hf
    go_simp
    try rfl
  refine rd_die (by first | rfl | exact ⟨by kernel_rfl, rfl⟩) (fun z y hT hf => ?_) ?_
  · simp at hf
    go_simp
    refine (reg_no (HV.out y hT).1.mac a ha).mono ?_
    rintro e y2 ⟨rfl, rfl⟩
    exact ⟨_, rfl, rfl, H1.out.2.1.trans ((only_drew W).trans hT)⟩
  refine rd_not (by first | rfl | exact ⟨by kernel_rfl, rfl⟩) (fun z y hT hf => (by simp at hf)) ?_
  refine rd_not (by first | rfl | exact ⟨by kernel_rfl, rfl⟩) (fun z y hT hf => (by simp at hf)) ?_
  apply rd_val
  · first | rfl | exact ⟨by kernel_rfl, rfl⟩
  · intro z y hT hf
    obtain ⟨b0, b1, b2⟩ := And.intro (Three.cell0 (HV.out y hT).2) (And.intro (Three.cell1 (HV.out y hT).2) (Three.cell2 (HV.out y hT).2))
    simp at hf
    go_simp
    try rfl
  apply rd_val
  · first | rfl | exact ⟨by kernel_rfl, rfl⟩
  · intro z y hT hf
    obtain ⟨b0, b1, b2⟩ := And.intro (Three.cell0 (HV.out y hT).2) (And.intro (Three.cell1 (HV.out y hT).2) (Three.cell2 (HV.out y hT).2))
    simp at hf
    go_simp
    try rfl
  apply rd_val
  · first | rfl | exact ⟨by kernel_rfl, rfl⟩
  · intro z y hT hf
    obtain ⟨b0, b1, b2⟩ := And.intro (Three.cell0 (HV.out y hT).2) (And.intro (Three.cell1 (HV.out y hT).2) (Three.cell2 (HV.out y hT).2))
    simp at hf
    go_simp
    try rfl
  refine rd_not (by first | rfl | exact ⟨by kernel_rfl, rfl⟩) (fun z y hT hf => (by simp at hf)) ?_
  refine rd_not (by first | rfl | exact ⟨by kernel_rfl, rfl⟩) (fun z y hT hf => (by simp at hf)) ?_
  refine rd_not (by first | rfl | exact ⟨by kernel_rfl, rfl⟩) (fun z y hT hf => (by simp at hf)) ?_
  refine rd_not (by first | rfl | exact ⟨by kernel_rfl, rfl⟩) (fun z y hT hf => (by simp at hf)) ?_
  intro w2 hy
  simp only [FinA, Sp.R, forall_eq]
  first | exact False.elim | (intro v hv; exact hv.elim) | (intro v hv v2 hv2; exact hv2.elim) | (intro v hv; exact fun _ h => h.elim)
set_option maxRecDepth 100000 in
set_option maxHeartbeats 1000000 in
theorem do_12b {B p n : Nat} {w : World} {m : Mch} {sh : List Bd} (h : St B p w m sh n) (i : Nat) (b : Int) (hi : i < 4) (hb : Rule.is b = false) (hr : Rule.act n m.at_ ⟨12, (i : Nat), b⟩ (m.e sh) = .fault 2) : Calls Try.prog 93 #[.pointer (some ⟨p, 0, none⟩), .agg #[.int .i64 (12), .int .i64 ((i : Nat)), .int .i64 (b)]] w (DoPost B p w m (Rule.act n m.at_ ⟨12, (i : Nat), b⟩ (m.e sh))) := by
  have HR : Hid _ := hr
  clear hr
  generalize Rule.act n m.at_ ⟨12, (i : Nat), b⟩ (m.e sh) = RR at *
  have k1 := h.at0
  have k2 := h.at1
  have k3 := h.few
  have wn : IntKind.i64.wrap (m.at_ + 1) = m.at_ + 1 := IntWalk.i64_in _ (by omega)
  have c19 := h.mac.at_
  have H0 : Hid _ := h
  have O0 : Hid (OpBox (w.alloc (.cells #[.int .i64 (12), .int .i64 ((i : Nat)), .int .i64 (b)] 23)) w.heap.size (12) ((i : Nat)) (b)) := Three.new _ _ _ _ _
  have lp := h.mac.lt
  clear h
  go_enter Try.func93, Try.ntmps93
  go_wp2_with fail
  have H1 : Hid (St B p (w.alloc (.cells #[.int .i64 (12), .int .i64 ((i : Nat)), .int .i64 (b)] 23)) m sh n ∧ Only [] w (w.alloc (.cells #[.int .i64 (12), .int .i64 ((i : Nat)), .int .i64 (b)] 23)) ∧ OpBox (w.alloc (.cells #[.int .i64 (12), .int .i64 ((i : Nat)), .int .i64 (b)] 23)) w.heap.size (12) ((i : Nat)) (b)) := ⟨H0.out.only ((Only.refl _ _).alloc _), (Only.refl _ _).alloc _, O0.out⟩
  generalize w.alloc (.cells #[.int .i64 (12), .int .i64 ((i : Nat)), .int .i64 (b)] 23) = W at *
  generalize w.heap.size = q at *
  clear H0 c19 O0
  have HV : Hid (∀ y, Only [] W.drew y → St B p y m sh n ∧ OpBox y q (12) ((i : Nat)) (b)) := fun y hy => ⟨H1.out.1.only ((only_drew W).trans hy), Three.only H1.out.2.2 ((only_drew W).trans hy) (by simp)⟩
  refine wp_region_fate (fun chain y => chain = [{ v := thrownV 2 m.at_, recovered := false }] ∧ Only [] w y) (by rintro chain a' y hd ⟨rfl, ho⟩; exact ⟨hd, doPost_fault HR.out rfl ho⟩) 14 (Only []) (Only.refl _) Only.trans [(0, .pointer (some ⟨p, 0, none⟩)), (3, .pointer (some ⟨q, 0, none⟩))] (by intro p hp; simp only [List.mem_cons, List.not_mem_nil, or_false] at hp; rcases hp with rfl | rfl <;> rfl) (by kernel_rfl) (by kernel_rfl) (by decide) (by kernel_rfl) (by kernel_rfl) ?_
  simp only [List.take_succ_cons, List.take_zero, List.drop_succ_cons, List.drop_zero]
  apply rd_val
  · first | rfl | exact ⟨by kernel_rfl, rfl⟩
  · intro z y hT hf
    obtain ⟨b0, b1, b2⟩ := And.intro (Three.cell0 (HV.out y hT).2) (And.intro (Three.cell1 (HV.out y hT).2) (Three.cell2 (HV.out y hT).2))
    simp at hf
    go_simp
    try rfl
  apply rd_val
  · first | rfl | exact ⟨by kernel_rfl, rfl⟩
  · intro z y hT hf
    obtain ⟨b0, b1, b2⟩ := And.intro (Three.cell0 (HV.out y hT).2) (And.intro (Three.cell1 (HV.out y hT).2) (Three.cell2 (HV.out y hT).2))
    simp at hf
    go_simp
    try rfl
  apply rd_val
  · first | rfl | exact ⟨by kernel_rfl, rfl⟩
  · intro z y hT hf
    obtain ⟨b0, b1, b2⟩ := And.intro (Three.cell0 (HV.out y hT).2) (And.intro (Three.cell1 (HV.out y hT).2) (Three.cell2 (HV.out y hT).2))
    simp at hf
    go_simp
    try rfl
  apply rd_val
  · first | rfl | exact ⟨by kernel_rfl, rfl⟩
  · intro z y hT hf
    obtain ⟨b0, b1, b2⟩ := And.intro (Three.cell0 (HV.out y hT).2) (And.intro (Three.cell1 (HV.out y hT).2) (Three.cell2 (HV.out y hT).2))
    simp at hf
    go_simp
    try rfl
  refine rd_eff (fun _ v => v = .pointer (some ⟨p, 8 + i, none⟩)) (by first | rfl | exact ⟨by kernel_rfl, rfl⟩) (fun _ _ _ _ h => h) (fun z y hT hf => ?_) ?_
  · simp at hf
    go_simp
    refine (reg_yes (HV.out y hT).1.mac i hi).mono ?_
    rintro e y2 ⟨rfl, rfl⟩
    exact ⟨_, rfl, rfl, Only.refl _ _⟩
  apply rd_val
  · first | rfl | exact ⟨by kernel_rfl, rfl⟩
  · intro z y hT hf
    obtain ⟨b0, b1, b2⟩ := And.intro (Three.cell0 (HV.out y hT).2) (And.intro (Three.cell1 (HV.out y hT).2) (Three.cell2 (HV.out y hT).2))
    have cm0 := (HV.out y hT).1.mac.mem i hi
    simp at hf
    go_simp
    try rfl
  apply rd_val
  · first | rfl | exact ⟨by kernel_rfl, rfl⟩
  · intro z y hT hf
    obtain ⟨b0, b1, b2⟩ := And.intro (Three.cell0 (HV.out y hT).2) (And.intro (Three.cell1 (HV.out y hT).2) (Three.cell2 (HV.out y hT).2))
    have cm0 := (HV.out y hT).1.mac.mem i hi
    simp at hf
    go_simp
    try rfl
  apply rd_val
  · first | rfl | exact ⟨by kernel_rfl, rfl⟩
  · intro z y hT hf
    obtain ⟨b0, b1, b2⟩ := And.intro (Three.cell0 (HV.out y hT).2) (And.intro (Three.cell1 (HV.out y hT).2) (Three.cell2 (HV.out y hT).2))
    simp at hf
    go_simp
    try rfl
  apply rd_val
  · first | rfl | exact ⟨by kernel_rfl, rfl⟩
  · intro z y hT hf
    obtain ⟨b0, b1, b2⟩ := And.intro (Three.cell0 (HV.out y hT).2) (And.intro (Three.cell1 (HV.out y hT).2) (Three.cell2 (HV.out y hT).2))
    simp at hf
    go_simp
    try rfl
  apply rd_val
  · first | rfl | exact ⟨by kernel_rfl, rfl⟩
  · intro z y hT hf
    obtain ⟨b0, b1, b2⟩ := And.intro (Three.cell0 (HV.out y hT).2) (And.intro (Three.cell1 (HV.out y hT).2) (Three.cell2 (HV.out y hT).2))
    simp at hf
    go_simp
    try rfl
  refine rd_die (by first | rfl | exact ⟨by kernel_rfl, rfl⟩) (fun z y hT hf => ?_) ?_
  · simp at hf
    go_simp
    refine (reg_no (HV.out y hT).1.mac b hb).mono ?_
    rintro e y2 ⟨rfl, rfl⟩
    exact ⟨_, rfl, rfl, H1.out.2.1.trans ((only_drew W).trans hT)⟩
  refine rd_not (by first | rfl | exact ⟨by kernel_rfl, rfl⟩) (fun z y hT hf => (by simp at hf)) ?_
  refine rd_not (by first | rfl | exact ⟨by kernel_rfl, rfl⟩) (fun z y hT hf => (by simp at hf)) ?_
  refine rd_not (by first | rfl | exact ⟨by kernel_rfl, rfl⟩) (fun z y hT hf => (by simp at hf)) ?_
  intro w2 hy
  simp only [FinA, Sp.R, forall_eq]
  first | exact False.elim | (intro v hv; exact hv.elim) | (intro v hv v2 hv2; exact hv2.elim) | (intro v hv; exact fun _ h => h.elim)
end Go.Proofs.Ytngbannidbijmaa

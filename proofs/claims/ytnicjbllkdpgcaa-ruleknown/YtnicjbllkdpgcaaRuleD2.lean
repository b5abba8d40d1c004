/- Package rule: Copy, Add, Sub, Mul, Div. Made by tools/ruled.py. -/
import Derived.Test.YtnicjbllkdpgcaaRuleD0
namespace Go.Proofs.Ytnicjbllkdpgcaa
open Go.RowKit
set_option linter.unusedVariables false
set_option maxRecDepth 100000 in
set_option maxHeartbeats 1000000 in
theorem do_2y {B p n : Nat} {w : World} {m : Mch} {sh : List Bd} (h : St B p w m sh n) (i j : Nat) (hi : i < 4) (hj : j < 4) (hx : -1000000 ≤ Rule.reg m.b i ∧ Rule.reg m.b i ≤ 1000000) (hy : -1000000 ≤ Rule.reg m.b j ∧ Rule.reg m.b j ≤ 1000000) (hr : Rule.act n m.at_ ⟨2, (i : Nat), (j : Nat)⟩ (m.e sh) = .next { m.e sh with b := Rule.setr m.b i (Rule.clamp (Rule.reckon 2 (Rule.reg m.b i) (Rule.reg m.b j))) } (m.at_ + 1)) : Calls Try.prog 40 #[.pointer (some ⟨p, 0, none⟩), .agg #[.int .i64 (2), .int .i64 ((i : Nat)), .int .i64 ((j : Nat))]] w (DoPost B p w m (Rule.act n m.at_ ⟨2, (i : Nat), (j : Nat)⟩ (m.e sh))) := by
  have HR : Hid _ := hr
  clear hr
  generalize Rule.act n m.at_ ⟨2, (i : Nat), (j : Nat)⟩ (m.e sh) = RR at *
  have k1 := h.at0
  have k2 := h.at1
  have k3 := h.few
  have wn : IntKind.i64.wrap (m.at_ + 1) = m.at_ + 1 := IntWalk.i64_in _ (by omega)
  have c19 := h.mac.at_
  have H0 : Hid _ := h
  have O0 : Hid (OpBox (w.alloc (.cells #[.int .i64 (2), .int .i64 ((i : Nat)), .int .i64 ((j : Nat))] 23)) w.heap.size (2) ((i : Nat)) ((j : Nat))) := Three.new _ _ _ _ _
  have lp := h.mac.lt
  clear h
  go_enter Try.func40, Try.ntmps40
  go_wp2_with fail
  have H1 : Hid (St B p (w.alloc (.cells #[.int .i64 (2), .int .i64 ((i : Nat)), .int .i64 ((j : Nat))] 23)) m sh n ∧ Only [] w (w.alloc (.cells #[.int .i64 (2), .int .i64 ((i : Nat)), .int .i64 ((j : Nat))] 23)) ∧ OpBox (w.alloc (.cells #[.int .i64 (2), .int .i64 ((i : Nat)), .int .i64 ((j : Nat))] 23)) w.heap.size (2) ((i : Nat)) ((j : Nat))) := ⟨H0.out.only ((Only.refl _ _).alloc _), (Only.refl _ _).alloc _, O0.out⟩
  generalize w.alloc (.cells #[.int .i64 (2), .int .i64 ((i : Nat)), .int .i64 ((j : Nat))] 23) = W at *
  generalize w.heap.size = q at *
  clear H0 c19 O0
  have HV : Hid (∀ y, Only [] W.drew y → St B p y m sh n ∧ OpBox y q (2) ((i : Nat)) ((j : Nat))) := fun y hy => ⟨H1.out.1.only ((only_drew W).trans hy), Three.only H1.out.2.2 ((only_drew W).trans hy) (by simp)⟩
  refine wp_region_free 10 (Only []) (Only.refl _) Only.trans [(0, .pointer (some ⟨p, 0, none⟩)), (3, .pointer (some ⟨q, 0, none⟩))] (by intro p hp; simp only [List.mem_cons, List.not_mem_nil, or_false] at hp; rcases hp with rfl | rfl <;> rfl) (by kernel_rfl) (by kernel_rfl) (by decide) (by kernel_rfl) (by kernel_rfl) ?_
  simp only [List.take_succ_cons, List.take_zero, List.drop_succ_cons, List.drop_zero]
  apply rf_val
  · first | rfl | exact ⟨by kernel_rfl, rfl⟩
  · intro z y hT hf
    obtain ⟨b0, b1, b2⟩ := And.intro (Three.cell0 (HV.out y hT).2) (And.intro (Three.cell1 (HV.out y hT).2) (Three.cell2 (HV.out y hT).2))
    simp at hf
    go_simp
    try rfl
  apply rf_val
  · first | rfl | exact ⟨by kernel_rfl, rfl⟩
  · intro z y hT hf
    obtain ⟨b0, b1, b2⟩ := And.intro (Three.cell0 (HV.out y hT).2) (And.intro (Three.cell1 (HV.out y hT).2) (Three.cell2 (HV.out y hT).2))
    simp at hf
    go_simp
    try rfl
  apply rf_val
  · first | rfl | exact ⟨by kernel_rfl, rfl⟩
  · intro z y hT hf
    obtain ⟨b0, b1, b2⟩ := And.intro (Three.cell0 (HV.out y hT).2) (And.intro (Three.cell1 (HV.out y hT).2) (Three.cell2 (HV.out y hT).2))
    simp at hf
    go_simp
    try rfl
  refine rf_eff (fun _ v => v = .pointer (some ⟨p, 8 + i, none⟩)) (by first | rfl | exact ⟨by kernel_rfl, rfl⟩) (fun _ _ _ _ h => h) (fun z y hT hf => ?_) ?_
  · simp at hf
    go_simp
    refine (reg_yes (HV.out y hT).1.mac i hi).mono ?_
    rintro e y2 ⟨rfl, rfl⟩
    exact ⟨_, rfl, rfl, Only.refl _ _⟩
  apply rf_val
  · first | rfl | exact ⟨by kernel_rfl, rfl⟩
  · intro z y hT hf
    obtain ⟨b0, b1, b2⟩ := And.intro (Three.cell0 (HV.out y hT).2) (And.intro (Three.cell1 (HV.out y hT).2) (Three.cell2 (HV.out y hT).2))
    simp at hf
    go_simp
    try rfl
  apply rf_val
  · first | rfl | exact ⟨by kernel_rfl, rfl⟩
  · intro z y hT hf
    obtain ⟨b0, b1, b2⟩ := And.intro (Three.cell0 (HV.out y hT).2) (And.intro (Three.cell1 (HV.out y hT).2) (Three.cell2 (HV.out y hT).2))
    simp at hf
    go_simp
    try rfl
  apply rf_val
  · first | rfl | exact ⟨by kernel_rfl, rfl⟩
  · intro z y hT hf
    obtain ⟨b0, b1, b2⟩ := And.intro (Three.cell0 (HV.out y hT).2) (And.intro (Three.cell1 (HV.out y hT).2) (Three.cell2 (HV.out y hT).2))
    simp at hf
    go_simp
    try rfl
  refine rf_eff (fun _ v => v = .pointer (some ⟨p, 8 + j, none⟩)) (by first | rfl | exact ⟨by kernel_rfl, rfl⟩) (fun _ _ _ _ h => h) (fun z y hT hf => ?_) ?_
  · simp at hf
    go_simp
    refine (reg_yes (HV.out y hT).1.mac j hj).mono ?_
    rintro e y2 ⟨rfl, rfl⟩
    exact ⟨_, rfl, rfl, Only.refl _ _⟩
  apply rf_val
  · first | rfl | exact ⟨by kernel_rfl, rfl⟩
  · intro z y hT hf
    obtain ⟨b0, b1, b2⟩ := And.intro (Three.cell0 (HV.out y hT).2) (And.intro (Three.cell1 (HV.out y hT).2) (Three.cell2 (HV.out y hT).2))
    simp at hf
    go_simp
    try rfl
  apply rf_val
  · first | rfl | exact ⟨by kernel_rfl, rfl⟩
  · intro z y hT hf
    obtain ⟨b0, b1, b2⟩ := And.intro (Three.cell0 (HV.out y hT).2) (And.intro (Three.cell1 (HV.out y hT).2) (Three.cell2 (HV.out y hT).2))
    simp at hf
    go_simp
    try rfl
  intro w2 hy
  simp only [FinA, Sp.R, forall_eq]
  simp only [Act.put, List.setIfInBounds_toArray, List.set_cons_succ, List.set_cons_zero]
  have H2 : Hid (St B p w2 m sh n ∧ Only [] w w2 ∧ OpBox w2 q (2) ((i : Nat)) ((j : Nat))) := ⟨(HV.out w2 hy).1, H1.out.2.1.trans ((only_drew W).trans hy), (HV.out w2 hy).2⟩
  clear hy HV H1
  go_wp2_with fail
  have H1 : Hid _ := H2.out
  clear H2
  have HV : Hid (∀ y, Only [] w2.drew y → St B p y m sh n ∧ OpBox y q (2) ((i : Nat)) ((j : Nat))) := fun y hy => ⟨H1.out.1.only ((only_drew w2).trans hy), Three.only H1.out.2.2 ((only_drew w2).trans hy) (by simp)⟩
  refine wp_region_free 13 (Only []) (Only.refl _) Only.trans [(0, .pointer (some ⟨p, 0, none⟩)), (3, .pointer (some ⟨q, 0, none⟩)), (6, .pointer (some ⟨p, 8 + i, none⟩)), (7, .pointer (some ⟨p, 8 + j, none⟩))] (by intro p hp; simp only [List.mem_cons, List.not_mem_nil, or_false] at hp; rcases hp with rfl | rfl | rfl | rfl <;> rfl) (by kernel_rfl) (by kernel_rfl) (by decide) (by kernel_rfl) (by kernel_rfl) ?_
  simp only [List.take_succ_cons, List.take_zero, List.drop_succ_cons, List.drop_zero]
  apply rf_val
  · first | rfl | exact ⟨by kernel_rfl, rfl⟩
  · intro z y hT hf
    obtain ⟨b0, b1, b2⟩ := And.intro (Three.cell0 (HV.out y hT).2) (And.intro (Three.cell1 (HV.out y hT).2) (Three.cell2 (HV.out y hT).2))
    have cm0 := (HV.out y hT).1.mac.mem i hi
    have cm1 := (HV.out y hT).1.mac.mem j hj
    simp at hf
    go_simp
    try rfl
  apply rf_val
  · first | rfl | exact ⟨by kernel_rfl, rfl⟩
  · intro z y hT hf
    obtain ⟨b0, b1, b2⟩ := And.intro (Three.cell0 (HV.out y hT).2) (And.intro (Three.cell1 (HV.out y hT).2) (Three.cell2 (HV.out y hT).2))
    have cm0 := (HV.out y hT).1.mac.mem i hi
    have cm1 := (HV.out y hT).1.mac.mem j hj
    simp at hf
    go_simp
    try rfl
  apply rf_val
  · first | rfl | exact ⟨by kernel_rfl, rfl⟩
  · intro z y hT hf
    obtain ⟨b0, b1, b2⟩ := And.intro (Three.cell0 (HV.out y hT).2) (And.intro (Three.cell1 (HV.out y hT).2) (Three.cell2 (HV.out y hT).2))
    have cm0 := (HV.out y hT).1.mac.mem i hi
    have cm1 := (HV.out y hT).1.mac.mem j hj
    simp at hf
    go_simp
    try rfl
  apply rf_val
  · first | rfl | exact ⟨by kernel_rfl, rfl⟩
  · intro z y hT hf
    obtain ⟨b0, b1, b2⟩ := And.intro (Three.cell0 (HV.out y hT).2) (And.intro (Three.cell1 (HV.out y hT).2) (Three.cell2 (HV.out y hT).2))
    have cm0 := (HV.out y hT).1.mac.mem i hi
    have cm1 := (HV.out y hT).1.mac.mem j hj
    simp at hf
    go_simp
    try rfl
  apply rf_val
  · first | rfl | exact ⟨by kernel_rfl, rfl⟩
  · intro z y hT hf
    obtain ⟨b0, b1, b2⟩ := And.intro (Three.cell0 (HV.out y hT).2) (And.intro (Three.cell1 (HV.out y hT).2) (Three.cell2 (HV.out y hT).2))
    have cm0 := (HV.out y hT).1.mac.mem i hi
    have cm1 := (HV.out y hT).1.mac.mem j hj
    simp at hf
    go_simp
    try rfl
  apply rf_val
  · first | rfl | exact ⟨by kernel_rfl, rfl⟩
  · intro z y hT hf
    obtain ⟨b0, b1, b2⟩ := And.intro (Three.cell0 (HV.out y hT).2) (And.intro (Three.cell1 (HV.out y hT).2) (Three.cell2 (HV.out y hT).2))
    have cm0 := (HV.out y hT).1.mac.mem i hi
    have cm1 := (HV.out y hT).1.mac.mem j hj
    simp at hf
    go_simp
    try rfl
  apply rf_val
  · first | rfl | exact ⟨by kernel_rfl, rfl⟩
  · intro z y hT hf
    obtain ⟨b0, b1, b2⟩ := And.intro (Three.cell0 (HV.out y hT).2) (And.intro (Three.cell1 (HV.out y hT).2) (Three.cell2 (HV.out y hT).2))
    have cm0 := (HV.out y hT).1.mac.mem i hi
    have cm1 := (HV.out y hT).1.mac.mem j hj
    simp at hf
    go_simp
    try rfl
  apply rf_val
  · first | rfl | exact ⟨by kernel_rfl, rfl⟩
  · intro z y hT hf
    obtain ⟨b0, b1, b2⟩ := And.intro (Three.cell0 (HV.out y hT).2) (And.intro (Three.cell1 (HV.out y hT).2) (Three.cell2 (HV.out y hT).2))
    have cm0 := (HV.out y hT).1.mac.mem i hi
    have cm1 := (HV.out y hT).1.mac.mem j hj
    simp at hf
    go_simp
    try rfl
  apply rf_val
  · first | rfl | exact ⟨by kernel_rfl, rfl⟩
  · intro z y hT hf
    obtain ⟨b0, b1, b2⟩ := And.intro (Three.cell0 (HV.out y hT).2) (And.intro (Three.cell1 (HV.out y hT).2) (Three.cell2 (HV.out y hT).2))
    have cm0 := (HV.out y hT).1.mac.mem i hi
    have cm1 := (HV.out y hT).1.mac.mem j hj
    simp at hf
    go_simp
    try rfl
  apply rf_val
  · first | rfl | exact ⟨by kernel_rfl, rfl⟩
  · intro z y hT hf
    obtain ⟨b0, b1, b2⟩ := And.intro (Three.cell0 (HV.out y hT).2) (And.intro (Three.cell1 (HV.out y hT).2) (Three.cell2 (HV.out y hT).2))
    have cm0 := (HV.out y hT).1.mac.mem i hi
    have cm1 := (HV.out y hT).1.mac.mem j hj
    simp at hf
    go_simp
    try rfl
  refine rf_eff (fun _ v => v = .int .i64 (Rule.reckon 2 (Rule.reg m.b i) (Rule.reg m.b j))) (by first | rfl | exact ⟨by kernel_rfl, rfl⟩) (fun _ _ _ _ h => h) (fun z y hT hf => ?_) ?_
  · simp at hf
    go_simp
    refine (reckon_any (HV.out y hT).1.mac 2 _ _ (by omega) hx hy (by omega)).mono ?_
    rintro e y2 ⟨rfl, rfl⟩
    exact ⟨_, rfl, rfl, Only.refl _ _⟩
  refine rf_eff (fun _ v => v = .int .i64 (Rule.clamp (Rule.reckon 2 (Rule.reg m.b i) (Rule.reg m.b j)))) (by first | rfl | exact ⟨by kernel_rfl, rfl⟩) (fun _ _ _ _ h => h) (fun z y hT hf => ?_) ?_
  · simp at hf
    go_simp
    refine (asReg_any _ _).mono ?_
    rintro e y2 ⟨rfl, rfl⟩
    exact ⟨_, rfl, rfl, Only.refl _ _⟩
  apply rf_val
  · first | rfl | exact ⟨by kernel_rfl, rfl⟩
  · intro z y hT hf
    obtain ⟨b0, b1, b2⟩ := And.intro (Three.cell0 (HV.out y hT).2) (And.intro (Three.cell1 (HV.out y hT).2) (Three.cell2 (HV.out y hT).2))
    simp at hf
    go_simp
    try rfl
  intro w3 hw
  simp only [FinA, Sp.R, forall_eq]
  simp only [Act.put, List.setIfInBounds_toArray, List.set_cons_succ, List.set_cons_zero]
  have H2 : Hid (St B p w3 m sh n ∧ Only [] w w3 ∧ OpBox w3 q (2) ((i : Nat)) ((j : Nat))) := ⟨(HV.out w3 hw).1, H1.out.2.1.trans ((only_drew w2).trans hw), (HV.out w3 hw).2⟩
  clear hw HV H1
  have fz := H2.out.1.mac.frozen
  have cm := H2.out.1.mac.mem i hi
  go_wp2_with fail
  go_ret
  exact doPost_own HR.out rfl H2.out.1 H2.out.2.1 (H2.out.1.mac.setr i hi _) ((Only.refl _ _).setCell (by simp) _) rfl
set_option maxRecDepth 100000 in
set_option maxHeartbeats 1000000 in
theorem do_2a {B p n : Nat} {w : World} {m : Mch} {sh : List Bd} (h : St B p w m sh n) (a b : Int) (ha : Rule.is a = false) (hr : Rule.act n m.at_ ⟨2, a, b⟩ (m.e sh) = .fault 2) : Calls Try.prog 40 #[.pointer (some ⟨p, 0, none⟩), .agg #[.int .i64 (2), .int .i64 (a), .int .i64 (b)]] w (DoPost B p w m (Rule.act n m.at_ ⟨2, a, b⟩ (m.e sh))) := by
  have HR : Hid _ := hr
  clear hr
  generalize Rule.act n m.at_ ⟨2, a, b⟩ (m.e sh) = RR at *
  have k1 := h.at0
  have k2 := h.at1
  have k3 := h.few
  have wn : IntKind.i64.wrap (m.at_ + 1) = m.at_ + 1 := IntWalk.i64_in _ (by omega)
  have c19 := h.mac.at_
  have H0 : Hid _ := h
  have O0 : Hid (OpBox (w.alloc (.cells #[.int .i64 (2), .int .i64 (a), .int .i64 (b)] 23)) w.heap.size (2) (a) (b)) := Three.new _ _ _ _ _
  have lp := h.mac.lt
  clear h
  go_enter Try.func40, Try.ntmps40
  go_wp2_with fail
  have H1 : Hid (St B p (w.alloc (.cells #[.int .i64 (2), .int .i64 (a), .int .i64 (b)] 23)) m sh n ∧ Only [] w (w.alloc (.cells #[.int .i64 (2), .int .i64 (a), .int .i64 (b)] 23)) ∧ OpBox (w.alloc (.cells #[.int .i64 (2), .int .i64 (a), .int .i64 (b)] 23)) w.heap.size (2) (a) (b)) := ⟨H0.out.only ((Only.refl _ _).alloc _), (Only.refl _ _).alloc _, O0.out⟩
  generalize w.alloc (.cells #[.int .i64 (2), .int .i64 (a), .int .i64 (b)] 23) = W at *
  generalize w.heap.size = q at *
  clear H0 c19 O0
  have HV : Hid (∀ y, Only [] W.drew y → St B p y m sh n ∧ OpBox y q (2) (a) (b)) := fun y hy => ⟨H1.out.1.only ((only_drew W).trans hy), Three.only H1.out.2.2 ((only_drew W).trans hy) (by simp)⟩
  refine wp_region_fate (fun chain y => chain = [{ v := thrownV 2 m.at_, recovered := false }] ∧ Only [] w y) (by rintro chain a' y hd ⟨rfl, ho⟩; exact ⟨hd, doPost_fault HR.out rfl ho⟩) 10 (Only []) (Only.refl _) Only.trans [(0, .pointer (some ⟨p, 0, none⟩)), (3, .pointer (some ⟨q, 0, none⟩))] (by intro p hp; simp only [List.mem_cons, List.not_mem_nil, or_false] at hp; rcases hp with rfl | rfl <;> rfl) (by kernel_rfl) (by kernel_rfl) (by decide) (by kernel_rfl) (by kernel_rfl) ?_
  simp only [List.take_succ_cons, List.take_zero, List.drop_succ_cons, List.drop_zero]
  apply rd_val
  · first | rfl | exact ⟨by kernel_rfl, rfl⟩
  · intro z y hT hf
    obtain ⟨b0, b1, b2⟩ := And.intro (Three.cell0 (HV.out y hT).2) (And.intro (Three.cell1 (HV.out y hT).2) (Three.cell2 (HV.out y hT).2))
    simp at hf
    go_simp
    try rfl
  apply rd_val
  · first | rfl | exact ⟨by kernel_rfl, rfl⟩
  · intro z y hT hf
    obtain ⟨b0, b1, b2⟩ := And.intro (Three.cell0 (HV.out y hT).2) (And.intro (Three.cell1 (HV.out y hT).2) (Three.cell2 (HV.out y hT).2))
    simp at hf
    go_simp
    try rfl
  apply rd_val
  · first | rfl | exact ⟨by kernel_rfl, rfl⟩
  · intro z y hT hf
    obtain ⟨b0, b1, b2⟩ := And.intro (Three.cell0 (HV.out y hT).2) (And.intro (Three.cell1 (HV.out y hT).2) (Three.cell2 (HV.out y hT).2))
    simp at hf
    go_simp
    try rfl
  refine rd_die (by first | rfl | exact ⟨by kernel_rfl, rfl⟩) (fun z y hT hf => ?_) ?_
  · simp at hf
    go_simp
    refine (reg_no (HV.out y hT).1.mac a ha).mono ?_
    rintro e y2 ⟨rfl, rfl⟩
    exact ⟨_, rfl, rfl, H1.out.2.1.trans ((only_drew W).trans hT)⟩
  apply rd_val
  · first | rfl | exact ⟨by kernel_rfl, rfl⟩
  · intro z y hT hf
    obtain ⟨b0, b1, b2⟩ := And.intro (Three.cell0 (HV.out y hT).2) (And.intro (Three.cell1 (HV.out y hT).2) (Three.cell2 (HV.out y hT).2))
    simp at hf
    go_simp
    try rfl
  apply rd_val
  · first | rfl | exact ⟨by kernel_rfl, rfl⟩
  · intro z y hT hf
    obtain ⟨b0, b1, b2⟩ := And.intro (Three.cell0 (HV.out y hT).2) (And.intro (Three.cell1 (HV.out y hT).2) (Three.cell2 (HV.out y hT).2))
    simp at hf
    go_simp
    try rfl
  apply rd_val
  · first | rfl | exact ⟨by kernel_rfl, rfl⟩
  · intro z y hT hf
    obtain ⟨b0, b1, b2⟩ := And.intro (Three.cell0 (HV.out y hT).2) (And.intro (Three.cell1 (HV.out y hT).2) (Three.cell2 (HV.out y hT).2))
    simp at hf
    go_simp
    try rfl
  refine rd_not (by first | rfl | exact ⟨by kernel_rfl, rfl⟩) (fun z y hT hf => (by simp at hf)) ?_
  refine rd_not (by first | rfl | exact ⟨by kernel_rfl, rfl⟩) (fun z y hT hf => (by simp at hf)) ?_
  refine rd_not (by first | rfl | exact ⟨by kernel_rfl, rfl⟩) (fun z y hT hf => (by simp at hf)) ?_
  intro w2 hy
  simp only [FinA, Sp.R, forall_eq]
  first | exact False.elim | (intro v hv; exact hv.elim) | (intro v hv v2 hv2; exact hv2.elim) | (intro v hv; exact fun _ h => h.elim)
set_option maxRecDepth 100000 in
set_option maxHeartbeats 1000000 in
theorem do_2b {B p n : Nat} {w : World} {m : Mch} {sh : List Bd} (h : St B p w m sh n) (i : Nat) (b : Int) (hi : i < 4) (hb : Rule.is b = false) (hr : Rule.act n m.at_ ⟨2, (i : Nat), b⟩ (m.e sh) = .fault 2) : Calls Try.prog 40 #[.pointer (some ⟨p, 0, none⟩), .agg #[.int .i64 (2), .int .i64 ((i : Nat)), .int .i64 (b)]] w (DoPost B p w m (Rule.act n m.at_ ⟨2, (i : Nat), b⟩ (m.e sh))) := by
  have HR : Hid _ := hr
  clear hr
  generalize Rule.act n m.at_ ⟨2, (i : Nat), b⟩ (m.e sh) = RR at *
  have k1 := h.at0
  have k2 := h.at1
  have k3 := h.few
  have wn : IntKind.i64.wrap (m.at_ + 1) = m.at_ + 1 := IntWalk.i64_in _ (by omega)
  have c19 := h.mac.at_
  have H0 : Hid _ := h
  have O0 : Hid (OpBox (w.alloc (.cells #[.int .i64 (2), .int .i64 ((i : Nat)), .int .i64 (b)] 23)) w.heap.size (2) ((i : Nat)) (b)) := Three.new _ _ _ _ _
  have lp := h.mac.lt
  clear h
  go_enter Try.func40, Try.ntmps40
  go_wp2_with fail
  have H1 : Hid (St B p (w.alloc (.cells #[.int .i64 (2), .int .i64 ((i : Nat)), .int .i64 (b)] 23)) m sh n ∧ Only [] w (w.alloc (.cells #[.int .i64 (2), .int .i64 ((i : Nat)), .int .i64 (b)] 23)) ∧ OpBox (w.alloc (.cells #[.int .i64 (2), .int .i64 ((i : Nat)), .int .i64 (b)] 23)) w.heap.size (2) ((i : Nat)) (b)) := ⟨H0.out.only ((Only.refl _ _).alloc _), (Only.refl _ _).alloc _, O0.out⟩
  generalize w.alloc (.cells #[.int .i64 (2), .int .i64 ((i : Nat)), .int .i64 (b)] 23) = W at *
  generalize w.heap.size = q at *
  clear H0 c19 O0
  have HV : Hid (∀ y, Only [] W.drew y → St B p y m sh n ∧ OpBox y q (2) ((i : Nat)) (b)) := fun y hy => ⟨H1.out.1.only ((only_drew W).trans hy), Three.only H1.out.2.2 ((only_drew W).trans hy) (by simp)⟩
  refine wp_region_fate (fun chain y => chain = [{ v := thrownV 2 m.at_, recovered := false }] ∧ Only [] w y) (by rintro chain a' y hd ⟨rfl, ho⟩; exact ⟨hd, doPost_fault HR.out rfl ho⟩) 10 (Only []) (Only.refl _) Only.trans [(0, .pointer (some ⟨p, 0, none⟩)), (3, .pointer (some ⟨q, 0, none⟩))] (by intro p hp; simp only [List.mem_cons, List.not_mem_nil, or_false] at hp; rcases hp with rfl | rfl <;> rfl) (by kernel_rfl) (by kernel_rfl) (by decide) (by kernel_rfl) (by kernel_rfl) ?_
  simp only [List.take_succ_cons, List.take_zero, List.drop_succ_cons, List.drop_zero]
  apply rd_val
  · first | rfl | exact ⟨by kernel_rfl, rfl⟩
  · intro z y hT hf
    obtain ⟨b0, b1, b2⟩ := And.intro (Three.cell0 (HV.out y hT).2) (And.intro (Three.cell1 (HV.out y hT).2) (Three.cell2 (HV.out y hT).2))
    simp at hf
    go_simp
    try rfl
  apply rd_val
  · first | rfl | exact ⟨by kernel_rfl, rfl⟩
  · intro z y hT hf
    obtain ⟨b0, b1, b2⟩ := And.intro (Three.cell0 (HV.out y hT).2) (And.intro (Three.cell1 (HV.out y hT).2) (Three.cell2 (HV.out y hT).2))
    simp at hf
    go_simp
    try rfl
  apply rd_val
  · first | rfl | exact ⟨by kernel_rfl, rfl⟩
  · intro z y hT hf
    obtain ⟨b0, b1, b2⟩ := And.intro (Three.cell0 (HV.out y hT).2) (And.intro (Three.cell1 (HV.out y hT).2) (Three.cell2 (HV.out y hT).2))
    simp at hf
    go_simp
    try rfl
  refine rd_eff (fun _ v => v = .pointer (some ⟨p, 8 + i, none⟩)) (by first | rfl | exact ⟨by kernel_rfl, rfl⟩) (fun _ _ _ _ h => h) (fun z y hT hf => ?_) ?_
  · simp at hf
    go_simp
    refine (reg_yes (HV.out y hT).1.mac i hi).mono ?_
    rintro e y2 ⟨rfl, rfl⟩
    exact ⟨_, rfl, rfl, Only.refl _ _⟩
  apply rd_val
  · first | rfl | exact ⟨by kernel_rfl, rfl⟩
  · intro z y hT hf
    obtain ⟨b0, b1, b2⟩ := And.intro (Three.cell0 (HV.out y hT).2) (And.intro (Three.cell1 (HV.out y hT).2) (Three.cell2 (HV.out y hT).2))
    simp at hf
    go_simp
    try rfl
  apply rd_val
  · first | rfl | exact ⟨by kernel_rfl, rfl⟩
  · intro z y hT hf
    obtain ⟨b0, b1, b2⟩ := And.intro (Three.cell0 (HV.out y hT).2) (And.intro (Three.cell1 (HV.out y hT).2) (Three.cell2 (HV.out y hT).2))
    simp at hf
    go_simp
    try rfl
  apply rd_val
  · first | rfl | exact ⟨by kernel_rfl, rfl⟩
  · intro z y hT hf
    obtain ⟨b0, b1, b2⟩ := And.intro (Three.cell0 (HV.out y hT).2) (And.intro (Three.cell1 (HV.out y hT).2) (Three.cell2 (HV.out y hT).2))
    simp at hf
    go_simp
    try rfl
  refine rd_die (by first | rfl | exact ⟨by kernel_rfl, rfl⟩) (fun z y hT hf => ?_) ?_
  · simp at hf
    go_simp
    refine (reg_no (HV.out y hT).1.mac b hb).mono ?_
    rintro e y2 ⟨rfl, rfl⟩
    exact ⟨_, rfl, rfl, H1.out.2.1.trans ((only_drew W).trans hT)⟩
  refine rd_not (by first | rfl | exact ⟨by kernel_rfl, rfl⟩) (fun z y hT hf => (by simp at hf)) ?_
  refine rd_not (by first | rfl | exact ⟨by kernel_rfl, rfl⟩) (fun z y hT hf => (by simp at hf)) ?_
  intro w2 hy
  simp only [FinA, Sp.R, forall_eq]
  first | exact False.elim | (intro v hv; exact hv.elim) | (intro v hv v2 hv2; exact hv2.elim) | (intro v hv; exact fun _ h => h.elim)
set_option maxRecDepth 100000 in
set_option maxHeartbeats 1000000 in
theorem do_3y {B p n : Nat} {w : World} {m : Mch} {sh : List Bd} (h : St B p w m sh n) (i j : Nat) (hi : i < 4) (hj : j < 4) (hx : -1000000 ≤ Rule.reg m.b i ∧ Rule.reg m.b i ≤ 1000000) (hy : -1000000 ≤ Rule.reg m.b j ∧ Rule.reg m.b j ≤ 1000000) (hr : Rule.act n m.at_ ⟨3, (i : Nat), (j : Nat)⟩ (m.e sh) = .next { m.e sh with b := Rule.setr m.b i (Rule.clamp (Rule.reckon 3 (Rule.reg m.b i) (Rule.reg m.b j))) } (m.at_ + 1)) : Calls Try.prog 40 #[.pointer (some ⟨p, 0, none⟩), .agg #[.int .i64 (3), .int .i64 ((i : Nat)), .int .i64 ((j : Nat))]] w (DoPost B p w m (Rule.act n m.at_ ⟨3, (i : Nat), (j : Nat)⟩ (m.e sh))) := by
  have HR : Hid _ := hr
  clear hr
  generalize Rule.act n m.at_ ⟨3, (i : Nat), (j : Nat)⟩ (m.e sh) = RR at *
  have k1 := h.at0
  have k2 := h.at1
  have k3 := h.few
  have wn : IntKind.i64.wrap (m.at_ + 1) = m.at_ + 1 := IntWalk.i64_in _ (by omega)
  have c19 := h.mac.at_
  have H0 : Hid _ := h
  have O0 : Hid (OpBox (w.alloc (.cells #[.int .i64 (3), .int .i64 ((i : Nat)), .int .i64 ((j : Nat))] 23)) w.heap.size (3) ((i : Nat)) ((j : Nat))) := Three.new _ _ _ _ _
  have lp := h.mac.lt
  clear h
  go_enter Try.func40, Try.ntmps40
  go_wp2_with fail
  have H1 : Hid (St B p (w.alloc (.cells #[.int .i64 (3), .int .i64 ((i : Nat)), .int .i64 ((j : Nat))] 23)) m sh n ∧ Only [] w (w.alloc (.cells #[.int .i64 (3), .int .i64 ((i : Nat)), .int .i64 ((j : Nat))] 23)) ∧ OpBox (w.alloc (.cells #[.int .i64 (3), .int .i64 ((i : Nat)), .int .i64 ((j : Nat))] 23)) w.heap.size (3) ((i : Nat)) ((j : Nat))) := ⟨H0.out.only ((Only.refl _ _).alloc _), (Only.refl _ _).alloc _, O0.out⟩
  generalize w.alloc (.cells #[.int .i64 (3), .int .i64 ((i : Nat)), .int .i64 ((j : Nat))] 23) = W at *
  generalize w.heap.size = q at *
  clear H0 c19 O0
  have HV : Hid (∀ y, Only [] W.drew y → St B p y m sh n ∧ OpBox y q (3) ((i : Nat)) ((j : Nat))) := fun y hy => ⟨H1.out.1.only ((only_drew W).trans hy), Three.only H1.out.2.2 ((only_drew W).trans hy) (by simp)⟩
  refine wp_region_free 10 (Only []) (Only.refl _) Only.trans [(0, .pointer (some ⟨p, 0, none⟩)), (3, .pointer (some ⟨q, 0, none⟩))] (by intro p hp; simp only [List.mem_cons, List.not_mem_nil, or_false] at hp; rcases hp with rfl | rfl <;> rfl) (by kernel_rfl) (by kernel_rfl) (by decide) (by kernel_rfl) (by kernel_rfl) ?_
  simp only [List.take_succ_cons, List.take_zero, List.drop_succ_cons, List.drop_zero]
  apply rf_val
  · first | rfl | exact ⟨by kernel_rfl, rfl⟩
  · intro z y hT hf
    obtain ⟨b0, b1, b2⟩ := And.intro (Three.cell0 (HV.out y hT).2) (And.intro (Three.cell1 (HV.out y hT).2) (Three.cell2 (HV.out y hT).2))
    simp at hf
    go_simp
    try rfl
  apply rf_val
  · first | rfl | exact ⟨by kernel_rfl, rfl⟩
  · intro z y hT hf
    obtain ⟨b0, b1, b2⟩ := And.intro (Three.cell0 (HV.out y hT).2) (And.intro (Three.cell1 (HV.out y hT).2) (Three.cell2 (HV.out y hT).2))
    simp at hf
    go_simp
    try rfl
  apply rf_val
  · first | rfl | exact ⟨by kernel_rfl, rfl⟩
  · intro z y hT hf
    obtain ⟨b0, b1, b2⟩ := And.intro (Three.cell0 (HV.out y hT).2) (And.intro (Three.cell1 (HV.out y hT).2) (Three.cell2 (HV.out y hT).2))
    simp at hf
    go_simp
    try rfl
  refine rf_eff (fun _ v => v = .pointer (some ⟨p, 8 + i, none⟩)) (by first | rfl | exact ⟨by kernel_rfl, rfl⟩) (fun _ _ _ _ h => h) (fun z y hT hf => ?_) ?_
  · simp at hf
    go_simp
    refine (reg_yes (HV.out y hT).1.mac i hi).mono ?_
    rintro e y2 ⟨rfl, rfl⟩
    exact ⟨_, rfl, rfl, Only.refl _ _⟩
  apply rf_val
  · first | rfl | exact ⟨by kernel_rfl, rfl⟩
  · intro z y hT hf
    obtain ⟨b0, b1, b2⟩ := And.intro (Three.cell0 (HV.out y hT).2) (And.intro (Three.cell1 (HV.out y hT).2) (Three.cell2 (HV.out y hT).2))
    simp at hf
    go_simp
    try rfl
  apply rf_val
  · first | rfl | exact ⟨by kernel_rfl, rfl⟩
  · intro z y hT hf
    obtain ⟨b0, b1, b2⟩ := And.intro (Three.cell0 (HV.out y hT).2) (And.intro (Three.cell1 (HV.out y hT).2) (Three.cell2 (HV.out y hT).2))
    simp at hf
    go_simp
    try rfl
  apply rf_val
  · first | rfl | exact ⟨by kernel_rfl, rfl⟩
  · intro z y hT hf
    obtain ⟨b0, b1, b2⟩ := And.intro (Three.cell0 (HV.out y hT).2) (And.intro (Three.cell1 (HV.out y hT).2) (Three.cell2 (HV.out y hT).2))
    simp at hf
    go_simp
    try rfl
  refine rf_eff (fun _ v => v = .pointer (some ⟨p, 8 + j, none⟩)) (by first | rfl | exact ⟨by kernel_rfl, rfl⟩) (fun _ _ _ _ h => h) (fun z y hT hf => ?_) ?_
  · simp at hf
    go_simp
    refine (reg_yes (HV.out y hT).1.mac j hj).mono ?_
    rintro e y2 ⟨rfl, rfl⟩
    exact ⟨_, rfl, rfl, Only.refl _ _⟩
  apply rf_val
  · first | rfl | exact ⟨by kernel_rfl, rfl⟩
  · intro z y hT hf
    obtain ⟨b0, b1, b2⟩ := And.intro (Three.cell0 (HV.out y hT).2) (And.intro (Three.cell1 (HV.out y hT).2) (Three.cell2 (HV.out y hT).2))
    simp at hf
    go_simp
    try rfl
  apply rf_val
  · first | rfl | exact ⟨by kernel_rfl, rfl⟩
  · intro z y hT hf
    obtain ⟨b0, b1, b2⟩ := And.intro (Three.cell0 (HV.out y hT).2) (And.intro (Three.cell1 (HV.out y hT).2) (Three.cell2 (HV.out y hT).2))
    simp at hf
    go_simp
    try rfl
  intro w2 hy
  simp only [FinA, Sp.R, forall_eq]
  simp only [Act.put, List.setIfInBounds_toArray, List.set_cons_succ, List.set_cons_zero]
  have H2 : Hid (St B p w2 m sh n ∧ Only [] w w2 ∧ OpBox w2 q (3) ((i : Nat)) ((j : Nat))) := ⟨(HV.out w2 hy).1, H1.out.2.1.trans ((only_drew W).trans hy), (HV.out w2 hy).2⟩
  clear hy HV H1
  go_wp2_with fail
  have H1 : Hid _ := H2.out
  clear H2
  have HV : Hid (∀ y, Only [] w2.drew y → St B p y m sh n ∧ OpBox y q (3) ((i : Nat)) ((j : Nat))) := fun y hy => ⟨H1.out.1.only ((only_drew w2).trans hy), Three.only H1.out.2.2 ((only_drew w2).trans hy) (by simp)⟩
  refine wp_region_free 13 (Only []) (Only.refl _) Only.trans [(0, .pointer (some ⟨p, 0, none⟩)), (3, .pointer (some ⟨q, 0, none⟩)), (6, .pointer (some ⟨p, 8 + i, none⟩)), (7, .pointer (some ⟨p, 8 + j, none⟩))] (by intro p hp; simp only [List.mem_cons, List.not_mem_nil, or_false] at hp; rcases hp with rfl | rfl | rfl | rfl <;> rfl) (by kernel_rfl) (by kernel_rfl) (by decide) (by kernel_rfl) (by kernel_rfl) ?_
  simp only [List.take_succ_cons, List.take_zero, List.drop_succ_cons, List.drop_zero]
  apply rf_val
  · first | rfl | exact ⟨by kernel_rfl, rfl⟩
  · intro z y hT hf
    obtain ⟨b0, b1, b2⟩ := And.intro (Three.cell0 (HV.out y hT).2) (And.intro (Three.cell1 (HV.out y hT).2) (Three.cell2 (HV.out y hT).2))
    have cm0 := (HV.out y hT).1.mac.mem i hi
    have cm1 := (HV.out y hT).1.mac.mem j hj
    simp at hf
    go_simp
    try rfl
  apply rf_val
  · first | rfl | exact ⟨by kernel_rfl, rfl⟩
  · intro z y hT hf
    obtain ⟨b0, b1, b2⟩ := And.intro (Three.cell0 (HV.out y hT).2) (And.intro (Three.cell1 (HV.out y hT).2) (Three.cell2 (HV.out y hT).2))
    have cm0 := (HV.out y hT).1.mac.mem i hi
    have cm1 := (HV.out y hT).1.mac.mem j hj
    simp at hf
    go_simp
    try rfl
  apply rf_val
  · first | rfl | exact ⟨by kernel_rfl, rfl⟩
  · intro z y hT hf
    obtain ⟨b0, b1, b2⟩ := And.intro (Three.cell0 (HV.out y hT).2) (And.intro (Three.cell1 (HV.out y hT).2) (Three.cell2 (HV.out y hT).2))
    have cm0 := (HV.out y hT).1.mac.mem i hi
    have cm1 := (HV.out y hT).1.mac.mem j hj
    simp at hf
    go_simp
    try rfl
  apply rf_val
  · first | rfl | exact ⟨by kernel_rfl, rfl⟩
  · intro z y hT hf
    obtain ⟨b0, b1, b2⟩ := And.intro (Three.cell0 (HV.out y hT).2) (And.intro (Three.cell1 (HV.out y hT).2) (Three.cell2 (HV.out y hT).2))
    have cm0 := (HV.out y hT).1.mac.mem i hi
    have cm1 := (HV.out y hT).1.mac.mem j hj
    simp at hf
    go_simp
    try rfl
  apply rf_val
  · first | rfl | exact ⟨by kernel_rfl, rfl⟩
  · intro z y hT hf
    obtain ⟨b0, b1, b2⟩ := And.intro (Three.cell0 (HV.out y hT).2) (And.intro (Three.cell1 (HV.out y hT).2) (Three.cell2 (HV.out y hT).2))
    have cm0 := (HV.out y hT).1.mac.mem i hi
    have cm1 := (HV.out y hT).1.mac.mem j hj
    simp at hf
    go_simp
    try rfl
  apply rf_val
  · first | rfl | exact ⟨by kernel_rfl, rfl⟩
  · intro z y hT hf
    obtain ⟨b0, b1, b2⟩ := And.intro (Three.cell0 (HV.out y hT).2) (And.intro (Three.cell1 (HV.out y hT).2) (Three.cell2 (HV.out y hT).2))
    have cm0 := (HV.out y hT).1.mac.mem i hi
    have cm1 := (HV.out y hT).1.mac.mem j hj
    simp at hf
    go_simp
    try rfl
  apply rf_val
  · first | rfl | exact ⟨by kernel_rfl, rfl⟩
  · intro z y hT hf
    obtain ⟨b0, b1, b2⟩ := And.intro (Three.cell0 (HV.out y hT).2) (And.intro (Three.cell1 (HV.out y hT).2) (Three.cell2 (HV.out y hT).2))
    have cm0 := (HV.out y hT).1.mac.mem i hi
    have cm1 := (HV.out y hT).1.mac.mem j hj
    simp at hf
    go_simp
    try rfl
  apply rf_val
  · first | rfl | exact ⟨by kernel_rfl, rfl⟩
  · intro z y hT hf
    obtain ⟨b0, b1, b2⟩ := And.intro (Three.cell0 (HV.out y hT).2) (And.intro (Three.cell1 (HV.out y hT).2) (Three.cell2 (HV.out y hT).2))
    have cm0 := (HV.out y hT).1.mac.mem i hi
    have cm1 := (HV.out y hT).1.mac.mem j hj
    simp at hf
    go_simp
    try rfl
  apply rf_val
  · first | rfl | exact ⟨by kernel_rfl, rfl⟩
  · intro z y hT hf
    obtain ⟨b0, b1, b2⟩ := And.intro (Three.cell0 (HV.out y hT).2) (And.intro (Three.cell1 (HV.out y hT).2) (Three.cell2 (HV.out y hT).2))
    have cm0 := (HV.out y hT).1.mac.mem i hi
    have cm1 := (HV.out y hT).1.mac.mem j hj
    simp at hf
    go_simp
    try rfl
  apply rf_val
  · first | rfl | exact ⟨by kernel_rfl, rfl⟩
  · intro z y hT hf
    obtain ⟨b0, b1, b2⟩ := And.intro (Three.cell0 (HV.out y hT).2) (And.intro (Three.cell1 (HV.out y hT).2) (Three.cell2 (HV.out y hT).2))
    have cm0 := (HV.out y hT).1.mac.mem i hi
    have cm1 := (HV.out y hT).1.mac.mem j hj
    simp at hf
    go_simp
    try rfl
  refine rf_eff (fun _ v => v = .int .i64 (Rule.reckon 3 (Rule.reg m.b i) (Rule.reg m.b j))) (by first | rfl | exact ⟨by kernel_rfl, rfl⟩) (fun _ _ _ _ h => h) (fun z y hT hf => ?_) ?_
  · simp at hf
    go_simp
    refine (reckon_any (HV.out y hT).1.mac 3 _ _ (by omega) hx hy (by omega)).mono ?_
    rintro e y2 ⟨rfl, rfl⟩
    exact ⟨_, rfl, rfl, Only.refl _ _⟩
  refine rf_eff (fun _ v => v = .int .i64 (Rule.clamp (Rule.reckon 3 (Rule.reg m.b i) (Rule.reg m.b j)))) (by first | rfl | exact ⟨by kernel_rfl, rfl⟩) (fun _ _ _ _ h => h) (fun z y hT hf => ?_) ?_
  · simp at hf
    go_simp
    refine (asReg_any _ _).mono ?_
    rintro e y2 ⟨rfl, rfl⟩
    exact ⟨_, rfl, rfl, Only.refl _ _⟩
  apply rf_val
  · first | rfl | exact ⟨by kernel_rfl, rfl⟩
  · intro z y hT hf
    obtain ⟨b0, b1, b2⟩ := And.intro (Three.cell0 (HV.out y hT).2) (And.intro (Three.cell1 (HV.out y hT).2) (Three.cell2 (HV.out y hT).2))
    simp at hf
    go_simp
    try rfl
  intro w3 hw
  simp only [FinA, Sp.R, forall_eq]
  simp only [Act.put, List.setIfInBounds_toArray, List.set_cons_succ, List.set_cons_zero]
  have H2 : Hid (St B p w3 m sh n ∧ Only [] w w3 ∧ OpBox w3 q (3) ((i : Nat)) ((j : Nat))) := ⟨(HV.out w3 hw).1, H1.out.2.1.trans ((only_drew w2).trans hw), (HV.out w3 hw).2⟩
  clear hw HV H1
  have fz := H2.out.1.mac.frozen
  have cm := H2.out.1.mac.mem i hi
  go_wp2_with fail
  go_ret
  exact doPost_own HR.out rfl H2.out.1 H2.out.2.1 (H2.out.1.mac.setr i hi _) ((Only.refl _ _).setCell (by simp) _) rfl
set_option maxRecDepth 100000 in
set_option maxHeartbeats 1000000 in
theorem do_3a {B p n : Nat} {w : World} {m : Mch} {sh : List Bd} (h : St B p w m sh n) (a b : Int) (ha : Rule.is a = false) (hr : Rule.act n m.at_ ⟨3, a, b⟩ (m.e sh) = .fault 2) : Calls Try.prog 40 #[.pointer (some ⟨p, 0, none⟩), .agg #[.int .i64 (3), .int .i64 (a), .int .i64 (b)]] w (DoPost B p w m (Rule.act n m.at_ ⟨3, a, b⟩ (m.e sh))) := by
  have HR : Hid _ := hr
  clear hr
  generalize Rule.act n m.at_ ⟨3, a, b⟩ (m.e sh) = RR at *
  have k1 := h.at0
  have k2 := h.at1
  have k3 := h.few
  have wn : IntKind.i64.wrap (m.at_ + 1) = m.at_ + 1 := IntWalk.i64_in _ (by omega)
  have c19 := h.mac.at_
  have H0 : Hid _ := h
  have O0 : Hid (OpBox (w.alloc (.cells #[.int .i64 (3), .int .i64 (a), .int .i64 (b)] 23)) w.heap.size (3) (a) (b)) := Three.new _ _ _ _ _
  have lp := h.mac.lt
  clear h
  go_enter Try.func40, Try.ntmps40
  go_wp2_with fail
  have H1 : Hid (St B p (w.alloc (.cells #[.int .i64 (3), .int .i64 (a), .int .i64 (b)] 23)) m sh n ∧ Only [] w (w.alloc (.cells #[.int .i64 (3), .int .i64 (a), .int .i64 (b)] 23)) ∧ OpBox (w.alloc (.cells #[.int .i64 (3), .int .i64 (a), .int .i64 (b)] 23)) w.heap.size (3) (a) (b)) := ⟨H0.out.only ((Only.refl _ _).alloc _), (Only.refl _ _).alloc _, O0.out⟩
  generalize w.alloc (.cells #[.int .i64 (3), .int .i64 (a), .int .i64 (b)] 23) = W at *
  generalize w.heap.size = q at *
  clear H0 c19 O0
  have HV : Hid (∀ y, Only [] W.drew y → St B p y m sh n ∧ OpBox y q (3) (a) (b)) := fun y hy => ⟨H1.out.1.only ((only_drew W).trans hy), Three.only H1.out.2.2 ((only_drew W).trans hy) (by simp)⟩
  refine wp_region_fate (fun chain y => chain = [{ v := thrownV 2 m.at_, recovered := false }] ∧ Only [] w y) (by rintro chain a' y hd ⟨rfl, ho⟩; exact ⟨hd, doPost_fault HR.out rfl ho⟩) 10 (Only []) (Only.refl _) Only.trans [(0, .pointer (some ⟨p, 0, none⟩)), (3, .pointer (some ⟨q, 0, none⟩))] (by intro p hp; simp only [List.mem_cons, List.not_mem_nil, or_false] at hp; rcases hp with rfl | rfl <;> rfl) (by kernel_rfl) (by kernel_rfl) (by decide) (by kernel_rfl) (by kernel_rfl) ?_
  simp only [List.take_succ_cons, List.take_zero, List.drop_succ_cons, List.drop_zero]
  apply rd_val
  · first | rfl | exact ⟨by kernel_rfl, rfl⟩
  · intro z y hT hf
    obtain ⟨b0, b1, b2⟩ := And.intro (Three.cell0 (HV.out y hT).2) (And.intro (Three.cell1 (HV.out y hT).2) (Three.cell2 (HV.out y hT).2))
    simp at hf
    go_simp
    try rfl
  apply rd_val
  · first | rfl | exact ⟨by kernel_rfl, rfl⟩
  · intro z y hT hf
    obtain ⟨b0, b1, b2⟩ := And.intro (Three.cell0 (HV.out y hT).2) (And.intro (Three.cell1 (HV.out y hT).2) (Three.cell2 (HV.out y hT).2))
    simp at hf
    go_simp
    try rfl
  apply rd_val
  · first | rfl | exact ⟨by kernel_rfl, rfl⟩
  · intro z y hT hf
    obtain ⟨b0, b1, b2⟩ := And.intro (Three.cell0 (HV.out y hT).2) (And.intro (Three.cell1 (HV.out y hT).2) (Three.cell2 (HV.out y hT).2))
    simp at hf
    go_simp
    try rfl
  refine rd_die (by first | rfl | exact ⟨by kernel_rfl, rfl⟩) (fun z y hT hf => ?_) ?_
  · simp at hf
    go_simp
    refine (reg_no (HV.out y hT).1.mac a ha).mono ?_
    rintro e y2 ⟨rfl, rfl⟩
    exact ⟨_, rfl, rfl, H1.out.2.1.trans ((only_drew W).trans hT)⟩
  apply rd_val
  · first | rfl | exact ⟨by kernel_rfl, rfl⟩
  · intro z y hT hf
    obtain ⟨b0, b1, b2⟩ := And.intro (Three.cell0 (HV.out y hT).2) (And.intro (Three.cell1 (HV.out y hT).2) (Three.cell2 (HV.out y hT).2))
    simp at hf
    go_simp
    try rfl
  apply rd_val
  · first | rfl | exact ⟨by kernel_rfl, rfl⟩
  · intro z y hT hf
    obtain ⟨b0, b1, b2⟩ := And.intro (Three.cell0 (HV.out y hT).2) (And.intro (Three.cell1 (HV.out y hT).2) (Three.cell2 (HV.out y hT).2))
    simp at hf
    go_simp
    try rfl
  apply rd_val
  · first | rfl | exact ⟨by kernel_rfl, rfl⟩
  · intro z y hT hf
    obtain ⟨b0, b1, b2⟩ := And.intro (Three.cell0 (HV.out y hT).2) (And.intro (Three.cell1 (HV.out y hT).2) (Three.cell2 (HV.out y hT).2))
    simp at hf
    go_simp
    try rfl
  refine rd_not (by first | rfl | exact ⟨by kernel_rfl, rfl⟩) (fun z y hT hf => (by simp at hf)) ?_
  refine rd_not (by first | rfl | exact ⟨by kernel_rfl, rfl⟩) (fun z y hT hf => (by simp at hf)) ?_
  refine rd_not (by first | rfl | exact ⟨by kernel_rfl, rfl⟩) (fun z y hT hf => (by simp at hf)) ?_
  intro w2 hy
  simp only [FinA, Sp.R, forall_eq]
  first | exact False.elim | (intro v hv; exact hv.elim) | (intro v hv v2 hv2; exact hv2.elim) | (intro v hv; exact fun _ h => h.elim)
set_option maxRecDepth 100000 in
set_option maxHeartbeats 1000000 in
theorem do_3b {B p n : Nat} {w : World} {m : Mch} {sh : List Bd} (h : St B p w m sh n) (i : Nat) (b : Int) (hi : i < 4) (hb : Rule.is b = false) (hr : Rule.act n m.at_ ⟨3, (i : Nat), b⟩ (m.e sh) = .fault 2) : Calls Try.prog 40 #[.pointer (some ⟨p, 0, none⟩), .agg #[.int .i64 (3), .int .i64 ((i : Nat)), .int .i64 (b)]] w (DoPost B p w m (Rule.act n m.at_ ⟨3, (i : Nat), b⟩ (m.e sh))) := by
  have HR : Hid _ := hr
  clear hr
  generalize Rule.act n m.at_ ⟨3, (i : Nat), b⟩ (m.e sh) = RR at *
  have k1 := h.at0
  have k2 := h.at1
  have k3 := h.few
  have wn : IntKind.i64.wrap (m.at_ + 1) = m.at_ + 1 := IntWalk.i64_in _ (by omega)
  have c19 := h.mac.at_
  have H0 : Hid _ := h
  have O0 : Hid (OpBox (w.alloc (.cells #[.int .i64 (3), .int .i64 ((i : Nat)), .int .i64 (b)] 23)) w.heap.size (3) ((i : Nat)) (b)) := Three.new _ _ _ _ _
  have lp := h.mac.lt
  clear h
  go_enter Try.func40, Try.ntmps40
  go_wp2_with fail
  have H1 : Hid (St B p (w.alloc (.cells #[.int .i64 (3), .int .i64 ((i : Nat)), .int .i64 (b)] 23)) m sh n ∧ Only [] w (w.alloc (.cells #[.int .i64 (3), .int .i64 ((i : Nat)), .int .i64 (b)] 23)) ∧ OpBox (w.alloc (.cells #[.int .i64 (3), .int .i64 ((i : Nat)), .int .i64 (b)] 23)) w.heap.size (3) ((i : Nat)) (b)) := ⟨H0.out.only ((Only.refl _ _).alloc _), (Only.refl _ _).alloc _, O0.out⟩
  generalize w.alloc (.cells #[.int .i64 (3), .int .i64 ((i : Nat)), .int .i64 (b)] 23) = W at *
  generalize w.heap.size = q at *
  clear H0 c19 O0
  have HV : Hid (∀ y, Only [] W.drew y → St B p y m sh n ∧ OpBox y q (3) ((i : Nat)) (b)) := fun y hy => ⟨H1.out.1.only ((only_drew W).trans hy), Three.only H1.out.2.2 ((only_drew W).trans hy) (by simp)⟩
  refine wp_region_fate (fun chain y => chain = [{ v := thrownV 2 m.at_, recovered := false }] ∧ Only [] w y) (by rintro chain a' y hd ⟨rfl, ho⟩; exact ⟨hd, doPost_fault HR.out rfl ho⟩) 10 (Only []) (Only.refl _) Only.trans [(0, .pointer (some ⟨p, 0, none⟩)), (3, .pointer (some ⟨q, 0, none⟩))] (by intro p hp; simp only [List.mem_cons, List.not_mem_nil, or_false] at hp; rcases hp with rfl | rfl <;> rfl) (by kernel_rfl) (by kernel_rfl) (by decide) (by kernel_rfl) (by kernel_rfl) ?_
  simp only [List.take_succ_cons, List.take_zero, List.drop_succ_cons, List.drop_zero]
  apply rd_val
  · first | rfl | exact ⟨by kernel_rfl, rfl⟩
  · intro z y hT hf
    obtain ⟨b0, b1, b2⟩ := And.intro (Three.cell0 (HV.out y hT).2) (And.intro (Three.cell1 (HV.out y hT).2) (Three.cell2 (HV.out y hT).2))
    simp at hf
    go_simp
    try rfl
  apply rd_val
  · first | rfl | exact ⟨by kernel_rfl, rfl⟩
  · intro z y hT hf
    obtain ⟨b0, b1, b2⟩ := And.intro (Three.cell0 (HV.out y hT).2) (And.intro (Three.cell1 (HV.out y hT).2) (Three.cell2 (HV.out y hT).2))
    simp at hf
    go_simp
    try rfl
  apply rd_val
  · first | rfl | exact ⟨by kernel_rfl, rfl⟩
  · intro z y hT hf
    obtain ⟨b0, b1, b2⟩ := And.intro (Three.cell0 (HV.out y hT).2) (And.intro (Three.cell1 (HV.out y hT).2) (Three.cell2 (HV.out y hT).2))
    simp at hf
    go_simp
    try rfl
  refine rd_eff (fun _ v => v = .pointer (some ⟨p, 8 + i, none⟩)) (by first | rfl | exact ⟨by kernel_rfl, rfl⟩) (fun _ _ _ _ h => h) (fun z y hT hf => ?_) ?_
  · simp at hf
    go_simp
    refine (reg_yes (HV.out y hT).1.mac i hi).mono ?_
    rintro e y2 ⟨rfl, rfl⟩
    exact ⟨_, rfl, rfl, Only.refl _ _⟩
  apply rd_val
  · first | rfl | exact ⟨by kernel_rfl, rfl⟩
  · intro z y hT hf
    obtain ⟨b0, b1, b2⟩ := And.intro (Three.cell0 (HV.out y hT).2) (And.intro (Three.cell1 (HV.out y hT).2) (Three.cell2 (HV.out y hT).2))
    simp at hf
    go_simp
    try rfl
  apply rd_val
  · first | rfl | exact ⟨by kernel_rfl, rfl⟩
  · intro z y hT hf
    obtain ⟨b0, b1, b2⟩ := And.intro (Three.cell0 (HV.out y hT).2) (And.intro (Three.cell1 (HV.out y hT).2) (Three.cell2 (HV.out y hT).2))
    simp at hf
    go_simp
    try rfl
  apply rd_val
  · first | rfl | exact ⟨by kernel_rfl, rfl⟩
  · intro z y hT hf
    obtain ⟨b0, b1, b2⟩ := And.intro (Three.cell0 (HV.out y hT).2) (And.intro (Three.cell1 (HV.out y hT).2) (Three.cell2 (HV.out y hT).2))
    simp at hf
    go_simp
    try rfl
  refine rd_die (by first | rfl | exact ⟨by kernel_rfl, rfl⟩) (fun z y hT hf => ?_) ?_
  · simp at hf
    go_simp
    refine (reg_no (HV.out y hT).1.mac b hb).mono ?_
    rintro e y2 ⟨rfl, rfl⟩
    exact ⟨_, rfl, rfl, H1.out.2.1.trans ((only_drew W).trans hT)⟩
  refine rd_not (by first | rfl | exact ⟨by kernel_rfl, rfl⟩) (fun z y hT hf => (by simp at hf)) ?_
  refine rd_not (by first | rfl | exact ⟨by kernel_rfl, rfl⟩) (fun z y hT hf => (by simp at hf)) ?_
  intro w2 hy
  simp only [FinA, Sp.R, forall_eq]
  first | exact False.elim | (intro v hv; exact hv.elim) | (intro v hv v2 hv2; exact hv2.elim) | (intro v hv; exact fun _ h => h.elim)
set_option maxRecDepth 100000 in
set_option maxHeartbeats 1000000 in
theorem do_4y {B p n : Nat} {w : World} {m : Mch} {sh : List Bd} (h : St B p w m sh n) (i j : Nat) (hi : i < 4) (hj : j < 4) (hx : -1000000 ≤ Rule.reg m.b i ∧ Rule.reg m.b i ≤ 1000000) (hy : -1000000 ≤ Rule.reg m.b j ∧ Rule.reg m.b j ≤ 1000000) (hr : Rule.act n m.at_ ⟨4, (i : Nat), (j : Nat)⟩ (m.e sh) = .next { m.e sh with b := Rule.setr m.b i (Rule.clamp (Rule.reckon 4 (Rule.reg m.b i) (Rule.reg m.b j))) } (m.at_ + 1)) : Calls Try.prog 40 #[.pointer (some ⟨p, 0, none⟩), .agg #[.int .i64 (4), .int .i64 ((i : Nat)), .int .i64 ((j : Nat))]] w (DoPost B p w m (Rule.act n m.at_ ⟨4, (i : Nat), (j : Nat)⟩ (m.e sh))) := by
  have HR : Hid _ := hr
  clear hr
  generalize Rule.act n m.at_ ⟨4, (i : Nat), (j : Nat)⟩ (m.e sh) = RR at *
  have k1 := h.at0
  have k2 := h.at1
  have k3 := h.few
  have wn : IntKind.i64.wrap (m.at_ + 1) = m.at_ + 1 := IntWalk.i64_in _ (by omega)
  have c19 := h.mac.at_
  have H0 : Hid _ := h
  have O0 : Hid (OpBox (w.alloc (.cells #[.int .i64 (4), .int .i64 ((i : Nat)), .int .i64 ((j : Nat))] 23)) w.heap.size (4) ((i : Nat)) ((j : Nat))) := Three.new _ _ _ _ _
  have lp := h.mac.lt
  clear h
  go_enter Try.func40, Try.ntmps40
  go_wp2_with fail
  have H1 : Hid (St B p (w.alloc (.cells #[.int .i64 (4), .int .i64 ((i : Nat)), .int .i64 ((j : Nat))] 23)) m sh n ∧ Only [] w (w.alloc (.cells #[.int .i64 (4), .int .i64 ((i : Nat)), .int .i64 ((j : Nat))] 23)) ∧ OpBox (w.alloc (.cells #[.int .i64 (4), .int .i64 ((i : Nat)), .int .i64 ((j : Nat))] 23)) w.heap.size (4) ((i : Nat)) ((j : Nat))) := ⟨H0.out.only ((Only.refl _ _).alloc _), (Only.refl _ _).alloc _, O0.out⟩
  generalize w.alloc (.cells #[.int .i64 (4), .int .i64 ((i : Nat)), .int .i64 ((j : Nat))] 23) = W at *
  generalize w.heap.size = q at *
  clear H0 c19 O0
  have HV : Hid (∀ y, Only [] W.drew y → St B p y m sh n ∧ OpBox y q (4) ((i : Nat)) ((j : Nat))) := fun y hy => ⟨H1.out.1.only ((only_drew W).trans hy), Three.only H1.out.2.2 ((only_drew W).trans hy) (by simp)⟩
  refine wp_region_free 10 (Only []) (Only.refl _) Only.trans [(0, .pointer (some ⟨p, 0, none⟩)), (3, .pointer (some ⟨q, 0, none⟩))] (by intro p hp; simp only [List.mem_cons, List.not_mem_nil, or_false] at hp; rcases hp with rfl | rfl <;> rfl) (by kernel_rfl) (by kernel_rfl) (by decide) (by kernel_rfl) (by kernel_rfl) ?_
  simp only [List.take_succ_cons, List.take_zero, List.drop_succ_cons, List.drop_zero]
  apply rf_val
  · first | rfl | exact ⟨by kernel_rfl, rfl⟩
  · intro z y hT hf
    obtain ⟨b0, b1, b2⟩ := And.intro (Three.cell0 (HV.out y hT).2) (And.intro (Three.cell1 (HV.out y hT).2) (Three.cell2 (HV.out y hT).2))
    simp at hf
    go_simp
    try rfl
  apply rf_val
  · first | rfl | exact ⟨by kernel_rfl, rfl⟩
  · intro z y hT hf
    obtain ⟨b0, b1, b2⟩ := And.intro (Three.cell0 (HV.out y hT).2) (And.intro (Three.cell1 (HV.out y hT).2) (Three.cell2 (HV.out y hT).2))
    simp at hf
    go_simp
    try rfl
  apply rf_val
  · first | rfl | exact ⟨by kernel_rfl, rfl⟩
  · intro z y hT hf
    obtain ⟨b0, b1, b2⟩ := And.intro (Three.cell0 (HV.out y hT).2) (And.intro (Three.cell1 (HV.out y hT).2) (Three.cell2 (HV.out y hT).2))
    simp at hf
    go_simp
    try rfl
  refine rf_eff (fun _ v => v = .pointer (some ⟨p, 8 + i, none⟩)) (by first | rfl | exact ⟨by kernel_rfl, rfl⟩) (fun _ _ _ _ h => h) (fun z y hT hf => ?_) ?_
  · simp at hf
    go_simp
    refine (reg_yes (HV.out y hT).1.mac i hi).mono ?_
    rintro e y2 ⟨rfl, rfl⟩
    exact ⟨_, rfl, rfl, Only.refl _ _⟩
  apply rf_val
  · first | rfl | exact ⟨by kernel_rfl, rfl⟩
  · intro z y hT hf
    obtain ⟨b0, b1, b2⟩ := And.intro (Three.cell0 (HV.out y hT).2) (And.intro (Three.cell1 (HV.out y hT).2) (Three.cell2 (HV.out y hT).2))
    simp at hf
    go_simp
    try rfl
  apply rf_val
  · first | rfl | exact ⟨by kernel_rfl, rfl⟩
  · intro z y hT hf
    obtain ⟨b0, b1, b2⟩ := And.intro (Three.cell0 (HV.out y hT).2) (And.intro (Three.cell1 (HV.out y hT).2) (Three.cell2 (HV.out y hT).2))
    simp at hf
    go_simp
    try rfl
  apply rf_val
  · first | rfl | exact ⟨by kernel_rfl, rfl⟩
  · intro z y hT hf
    obtain ⟨b0, b1, b2⟩ := And.intro (Three.cell0 (HV.out y hT).2) (And.intro (Three.cell1 (HV.out y hT).2) (Three.cell2 (HV.out y hT).2))
    simp at hf
    go_simp
    try rfl
  refine rf_eff (fun _ v => v = .pointer (some ⟨p, 8 + j, none⟩)) (by first | rfl | exact ⟨by kernel_rfl, rfl⟩) (fun _ _ _ _ h => h) (fun z y hT hf => ?_) ?_
  · simp at hf
    go_simp
    refine (reg_yes (HV.out y hT).1.mac j hj).mono ?_
    rintro e y2 ⟨rfl, rfl⟩
    exact ⟨_, rfl, rfl, Only.refl _ _⟩
  apply rf_val
  · first | rfl | exact ⟨by kernel_rfl, rfl⟩
  · intro z y hT hf
    obtain ⟨b0, b1, b2⟩ := And.intro (Three.cell0 (HV.out y hT).2) (And.intro (Three.cell1 (HV.out y hT).2) (Three.cell2 (HV.out y hT).2))
    simp at hf
    go_simp
    try rfl
  apply rf_val
  · first | rfl | exact ⟨by kernel_rfl, rfl⟩
  · intro z y hT hf
    obtain ⟨b0, b1, b2⟩ := And.intro (Three.cell0 (HV.out y hT).2) (And.intro (Three.cell1 (HV.out y hT).2) (Three.cell2 (HV.out y hT).2))
    simp at hf
    go_simp
    try rfl
  intro w2 hy
  simp only [FinA, Sp.R, forall_eq]
  simp only [Act.put, List.setIfInBounds_toArray, List.set_cons_succ, List.set_cons_zero]
  have H2 : Hid (St B p w2 m sh n ∧ Only [] w w2 ∧ OpBox w2 q (4) ((i : Nat)) ((j : Nat))) := ⟨(HV.out w2 hy).1, H1.out.2.1.trans ((only_drew W).trans hy), (HV.out w2 hy).2⟩
  clear hy HV H1
  go_wp2_with fail
  have H1 : Hid _ := H2.out
  clear H2
  have HV : Hid (∀ y, Only [] w2.drew y → St B p y m sh n ∧ OpBox y q (4) ((i : Nat)) ((j : Nat))) := fun y hy => ⟨H1.out.1.only ((only_drew w2).trans hy), Three.only H1.out.2.2 ((only_drew w2).trans hy) (by simp)⟩
  refine wp_region_free 13 (Only []) (Only.refl _) Only.trans [(0, .pointer (some ⟨p, 0, none⟩)), (3, .pointer (some ⟨q, 0, none⟩)), (6, .pointer (some ⟨p, 8 + i, none⟩)), (7, .pointer (some ⟨p, 8 + j, none⟩))] (by intro p hp; simp only [List.mem_cons, List.not_mem_nil, or_false] at hp; rcases hp with rfl | rfl | rfl | rfl <;> rfl) (by kernel_rfl) (by kernel_rfl) (by decide) (by kernel_rfl) (by kernel_rfl) ?_
  simp only [List.take_succ_cons, List.take_zero, List.drop_succ_cons, List.drop_zero]
  apply rf_val
  · first | rfl | exact ⟨by kernel_rfl, rfl⟩
  · intro z y hT hf
    obtain ⟨b0, b1, b2⟩ := And.intro (Three.cell0 (HV.out y hT).2) (And.intro (Three.cell1 (HV.out y hT).2) (Three.cell2 (HV.out y hT).2))
    have cm0 := (HV.out y hT).1.mac.mem i hi
    have cm1 := (HV.out y hT).1.mac.mem j hj
    simp at hf
    go_simp
    try rfl
  apply rf_val
  · first | rfl | exact ⟨by kernel_rfl, rfl⟩
  · intro z y hT hf
    obtain ⟨b0, b1, b2⟩ := And.intro (Three.cell0 (HV.out y hT).2) (And.intro (Three.cell1 (HV.out y hT).2) (Three.cell2 (HV.out y hT).2))
    have cm0 := (HV.out y hT).1.mac.mem i hi
    have cm1 := (HV.out y hT).1.mac.mem j hj
    simp at hf
    go_simp
    try rfl
  apply rf_val
  · first | rfl | exact ⟨by kernel_rfl, rfl⟩
  · intro z y hT hf
    obtain ⟨b0, b1, b2⟩ := And.intro (Three.cell0 (HV.out y hT).2) (And.intro (Three.cell1 (HV.out y hT).2) (Three.cell2 (HV.out y hT).2))
    have cm0 := (HV.out y hT).1.mac.mem i hi
    have cm1 := (HV.out y hT).1.mac.mem j hj
    simp at hf
    go_simp
    try rfl
  apply rf_val
  · first | rfl | exact ⟨by kernel_rfl, rfl⟩
  · intro z y hT hf
    obtain ⟨b0, b1, b2⟩ := And.intro (Three.cell0 (HV.out y hT).2) (And.intro (Three.cell1 (HV.out y hT).2) (Three.cell2 (HV.out y hT).2))
    have cm0 := (HV.out y hT).1.mac.mem i hi
    have cm1 := (HV.out y hT).1.mac.mem j hj
    simp at hf
    go_simp
    try rfl
  apply rf_val
  · first | rfl | exact ⟨by kernel_rfl, rfl⟩
  · intro z y hT hf
    obtain ⟨b0, b1, b2⟩ := And.intro (Three.cell0 (HV.out y hT).2) (And.intro (Three.cell1 (HV.out y hT).2) (Three.cell2 (HV.out y hT).2))
    have cm0 := (HV.out y hT).1.mac.mem i hi
    have cm1 := (HV.out y hT).1.mac.mem j hj
    simp at hf
    go_simp
    try rfl
  apply rf_val
  · first | rfl | exact ⟨by kernel_rfl, rfl⟩
  · intro z y hT hf
    obtain ⟨b0, b1, b2⟩ := And.intro (Three.cell0 (HV.out y hT).2) (And.intro (Three.cell1 (HV.out y hT).2) (Three.cell2 (HV.out y hT).2))
    have cm0 := (HV.out y hT).1.mac.mem i hi
    have cm1 := (HV.out y hT).1.mac.mem j hj
    simp at hf
    go_simp
    try rfl
  apply rf_val
  · first | rfl | exact ⟨by kernel_rfl, rfl⟩
  · intro z y hT hf
    obtain ⟨b0, b1, b2⟩ := And.intro (Three.cell0 (HV.out y hT).2) (And.intro (Three.cell1 (HV.out y hT).2) (Three.cell2 (HV.out y hT).2))
    have cm0 := (HV.out y hT).1.mac.mem i hi
    have cm1 := (HV.out y hT).1.mac.mem j hj
    simp at hf
    go_simp
    try rfl
  apply rf_val
  · first | rfl | exact ⟨by kernel_rfl, rfl⟩
  · intro z y hT hf
    obtain ⟨b0, b1, b2⟩ := And.intro (Three.cell0 (HV.out y hT).2) (And.intro (Three.cell1 (HV.out y hT).2) (Three.cell2 (HV.out y hT).2))
    have cm0 := (HV.out y hT).1.mac.mem i hi
    have cm1 := (HV.out y hT).1.mac.mem j hj
    simp at hf
    go_simp
    try rfl
  apply rf_val
  · first | rfl | exact ⟨by kernel_rfl, rfl⟩
  · intro z y hT hf
    obtain ⟨b0, b1, b2⟩ := And.intro (Three.cell0 (HV.out y hT).2) (And.intro (Three.cell1 (HV.out y hT).2) (Three.cell2 (HV.out y hT).2))
    have cm0 := (HV.out y hT).1.mac.mem i hi
    have cm1 := (HV.out y hT).1.mac.mem j hj
    simp at hf
    go_simp
    try rfl
  apply rf_val
  · first | rfl | exact ⟨by kernel_rfl, rfl⟩
  · intro z y hT hf
    obtain ⟨b0, b1, b2⟩ := And.intro (Three.cell0 (HV.out y hT).2) (And.intro (Three.cell1 (HV.out y hT).2) (Three.cell2 (HV.out y hT).2))
    have cm0 := (HV.out y hT).1.mac.mem i hi
    have cm1 := (HV.out y hT).1.mac.mem j hj
    simp at hf
    go_simp
    try rfl
  refine rf_eff (fun _ v => v = .int .i64 (Rule.reckon 4 (Rule.reg m.b i) (Rule.reg m.b j))) (by first | rfl | exact ⟨by kernel_rfl, rfl⟩) (fun _ _ _ _ h => h) (fun z y hT hf => ?_) ?_
  · simp at hf
    go_simp
    refine (reckon_any (HV.out y hT).1.mac 4 _ _ (by omega) hx hy (by omega)).mono ?_
    rintro e y2 ⟨rfl, rfl⟩
    exact ⟨_, rfl, rfl, Only.refl _ _⟩
  refine rf_eff (fun _ v => v = .int .i64 (Rule.clamp (Rule.reckon 4 (Rule.reg m.b i) (Rule.reg m.b j)))) (by first | rfl | exact ⟨by kernel_rfl, rfl⟩) (fun _ _ _ _ h => h) (fun z y hT hf => ?_) ?_
  · simp at hf
    go_simp
    refine (asReg_any _ _).mono ?_
    rintro e y2 ⟨rfl, rfl⟩
    exact ⟨_, rfl, rfl, Only.refl _ _⟩
  apply rf_val
  · first | rfl | exact ⟨by kernel_rfl, rfl⟩
  · intro z y hT hf
    obtain ⟨b0, b1, b2⟩ := And.intro (Three.cell0 (HV.out y hT).2) (And.intro (Three.cell1 (HV.out y hT).2) (Three.cell2 (HV.out y hT).2))
    simp at hf
    go_simp
    try rfl
  intro w3 hw
  simp only [FinA, Sp.R, forall_eq]
  simp only [Act.put, List.setIfInBounds_toArray, List.set_cons_succ, List.set_cons_zero]
  have H2 : Hid (St B p w3 m sh n ∧ Only [] w w3 ∧ OpBox w3 q (4) ((i : Nat)) ((j : Nat))) := ⟨(HV.out w3 hw).1, H1.out.2.1.trans ((only_drew w2).trans hw), (HV.out w3 hw).2⟩
  clear hw HV H1
  have fz := H2.out.1.mac.frozen
  have cm := H2.out.1.mac.mem i hi
  go_wp2_with fail
  go_ret
  exact doPost_own HR.out rfl H2.out.1 H2.out.2.1 (H2.out.1.mac.setr i hi _) ((Only.refl _ _).setCell (by simp) _) rfl
set_option maxRecDepth 100000 in
set_option maxHeartbeats 1000000 in
theorem do_4a {B p n : Nat} {w : World} {m : Mch} {sh : List Bd} (h : St B p w m sh n) (a b : Int) (ha : Rule.is a = false) (hr : Rule.act n m.at_ ⟨4, a, b⟩ (m.e sh) = .fault 2) : Calls Try.prog 40 #[.pointer (some ⟨p, 0, none⟩), .agg #[.int .i64 (4), .int .i64 (a), .int .i64 (b)]] w (DoPost B p w m (Rule.act n m.at_ ⟨4, a, b⟩ (m.e sh))) := by
  have HR : Hid _ := hr
  clear hr
  generalize Rule.act n m.at_ ⟨4, a, b⟩ (m.e sh) = RR at *
  have k1 := h.at0
  have k2 := h.at1
  have k3 := h.few
  have wn : IntKind.i64.wrap (m.at_ + 1) = m.at_ + 1 := IntWalk.i64_in _ (by omega)
  have c19 := h.mac.at_
  have H0 : Hid _ := h
  have O0 : Hid (OpBox (w.alloc (.cells #[.int .i64 (4), .int .i64 (a), .int .i64 (b)] 23)) w.heap.size (4) (a) (b)) := Three.new _ _ _ _ _
  have lp := h.mac.lt
  clear h
  go_enter Try.func40, Try.ntmps40
  go_wp2_with fail
  have H1 : Hid (St B p (w.alloc (.cells #[.int .i64 (4), .int .i64 (a), .int .i64 (b)] 23)) m sh n ∧ Only [] w (w.alloc (.cells #[.int .i64 (4), .int .i64 (a), .int .i64 (b)] 23)) ∧ OpBox (w.alloc (.cells #[.int .i64 (4), .int .i64 (a), .int .i64 (b)] 23)) w.heap.size (4) (a) (b)) := ⟨H0.out.only ((Only.refl _ _).alloc _), (Only.refl _ _).alloc _, O0.out⟩
  generalize w.alloc (.cells #[.int .i64 (4), .int .i64 (a), .int .i64 (b)] 23) = W at *
  generalize w.heap.size = q at *
  clear H0 c19 O0
  have HV : Hid (∀ y, Only [] W.drew y → St B p y m sh n ∧ OpBox y q (4) (a) (b)) := fun y hy => ⟨H1.out.1.only ((only_drew W).trans hy), Three.only H1.out.2.2 ((only_drew W).trans hy) (by simp)⟩
  refine wp_region_fate (fun chain y => chain = [{ v := thrownV 2 m.at_, recovered := false }] ∧ Only [] w y) (by rintro chain a' y hd ⟨rfl, ho⟩; exact ⟨hd, doPost_fault HR.out rfl ho⟩) 10 (Only []) (Only.refl _) Only.trans [(0, .pointer (some ⟨p, 0, none⟩)), (3, .pointer (some ⟨q, 0, none⟩))] (by intro p hp; simp only [List.mem_cons, List.not_mem_nil, or_false] at hp; rcases hp with rfl | rfl <;> rfl) (by kernel_rfl) (by kernel_rfl) (by decide) (by kernel_rfl) (by kernel_rfl) ?_
  simp only [List.take_succ_cons, List.take_zero, List.drop_succ_cons, List.drop_zero]
  apply rd_val
  · first | rfl | exact ⟨by kernel_rfl, rfl⟩
  · intro z y hT hf
    obtain ⟨b0, b1, b2⟩ := And.intro (Three.cell0 (HV.out y hT).2) (And.intro (Three.cell1 (HV.out y hT).2) (Three.cell2 (HV.out y hT).2))
    simp at hf
    go_simp
    try rfl
  apply rd_val
  · first | rfl | exact ⟨by kernel_rfl, rfl⟩
  · intro z y hT hf
    obtain ⟨b0, b1, b2⟩ := And.intro (Three.cell0 (HV.out y hT).2) (And.intro (Three.cell1 (HV.out y hT).2) (Three.cell2 (HV.out y hT).2))
    simp at hf
    go_simp
    try rfl
  apply rd_val
  · first | rfl | exact ⟨by kernel_rfl, rfl⟩
  · intro z y hT hf
    obtain ⟨b0, b1, b2⟩ := And.intro (Three.cell0 (HV.out y hT).2) (And.intro (Three.cell1 (HV.out y hT).2) (Three.cell2 (HV.out y hT).2))
    simp at hf
    go_simp
    try rfl
  refine rd_die (by first | rfl | exact ⟨by kernel_rfl, rfl⟩) (fun z y hT hf => ?_) ?_
  · simp at hf
    go_simp
    refine (reg_no (HV.out y hT).1.mac a ha).mono ?_
    rintro e y2 ⟨rfl, rfl⟩
    exact ⟨_, rfl, rfl, H1.out.2.1.trans ((only_drew W).trans hT)⟩
  apply rd_val
  · first | rfl | exact ⟨by kernel_rfl, rfl⟩
  · intro z y hT hf
    obtain ⟨b0, b1, b2⟩ := And.intro (Three.cell0 (HV.out y hT).2) (And.intro (Three.cell1 (HV.out y hT).2) (Three.cell2 (HV.out y hT).2))
    simp at hf
    go_simp
    try rfl
  apply rd_val
  · first | rfl | exact ⟨by kernel_rfl, rfl⟩
  · intro z y hT hf
    obtain ⟨b0, b1, b2⟩ := And.intro (Three.cell0 (HV.out y hT).2) (And.intro (Three.cell1 (HV.out y hT).2) (Three.cell2 (HV.out y hT).2))
    simp at hf
    go_simp
    try rfl
  apply rd_val
  · first | rfl | exact ⟨by kernel_rfl, rfl⟩
  · intro z y hT hf
    obtain ⟨b0, b1, b2⟩ := And.intro (Three.cell0 (HV.out y hT).2) (And.intro (Three.cell1 (HV.out y hT).2) (Three.cell2 (HV.out y hT).2))
    simp at hf
    go_simp
    try rfl
  refine rd_not (by first | rfl | exact ⟨by kernel_rfl, rfl⟩) (fun z y hT hf => (by simp at hf)) ?_
  refine rd_not (by first | rfl | exact ⟨by kernel_rfl, rfl⟩) (fun z y hT hf => (by simp at hf)) ?_
  refine rd_not (by first | rfl | exact ⟨by kernel_rfl, rfl⟩) (fun z y hT hf => (by simp at hf)) ?_
  intro w2 hy
  simp only [FinA, Sp.R, forall_eq]
  first | exact False.elim | (intro v hv; exact hv.elim) | (intro v hv v2 hv2; exact hv2.elim) | (intro v hv; exact fun _ h => h.elim)
set_option maxRecDepth 100000 in
set_option maxHeartbeats 1000000 in
theorem do_4b {B p n : Nat} {w : World} {m : Mch} {sh : List Bd} (h : St B p w m sh n) (i : Nat) (b : Int) (hi : i < 4) (hb : Rule.is b = false) (hr : Rule.act n m.at_ ⟨4, (i : Nat), b⟩ (m.e sh) = .fault 2) : Calls Try.prog 40 #[.pointer (some ⟨p, 0, none⟩), .agg #[.int .i64 (4), .int .i64 ((i : Nat)), .int .i64 (b)]] w (DoPost B p w m (Rule.act n m.at_ ⟨4, (i : Nat), b⟩ (m.e sh))) := by
  have HR : Hid _ := hr
  clear hr
  generalize Rule.act n m.at_ ⟨4, (i : Nat), b⟩ (m.e sh) = RR at *
  have k1 := h.at0
  have k2 := h.at1
  have k3 := h.few
  have wn : IntKind.i64.wrap (m.at_ + 1) = m.at_ + 1 := IntWalk.i64_in _ (by omega)
  have c19 := h.mac.at_
  have H0 : Hid _ := h
  have O0 : Hid (OpBox (w.alloc (.cells #[.int .i64 (4), .int .i64 ((i : Nat)), .int .i64 (b)] 23)) w.heap.size (4) ((i : Nat)) (b)) := Three.new _ _ _ _ _
  have lp := h.mac.lt
  clear h
  go_enter Try.func40, Try.ntmps40
  go_wp2_with fail
  have H1 : Hid (St B p (w.alloc (.cells #[.int .i64 (4), .int .i64 ((i : Nat)), .int .i64 (b)] 23)) m sh n ∧ Only [] w (w.alloc (.cells #[.int .i64 (4), .int .i64 ((i : Nat)), .int .i64 (b)] 23)) ∧ OpBox (w.alloc (.cells #[.int .i64 (4), .int .i64 ((i : Nat)), .int .i64 (b)] 23)) w.heap.size (4) ((i : Nat)) (b)) := ⟨H0.out.only ((Only.refl _ _).alloc _), (Only.refl _ _).alloc _, O0.out⟩
  generalize w.alloc (.cells #[.int .i64 (4), .int .i64 ((i : Nat)), .int .i64 (b)] 23) = W at *
  generalize w.heap.size = q at *
  clear H0 c19 O0
  have HV : Hid (∀ y, Only [] W.drew y → St B p y m sh n ∧ OpBox y q (4) ((i : Nat)) (b)) := fun y hy => ⟨H1.out.1.only ((only_drew W).trans hy), Three.only H1.out.2.2 ((only_drew W).trans hy) (by simp)⟩
  refine wp_region_fate (fun chain y => chain = [{ v := thrownV 2 m.at_, recovered := false }] ∧ Only [] w y) (by rintro chain a' y hd ⟨rfl, ho⟩; exact ⟨hd, doPost_fault HR.out rfl ho⟩) 10 (Only []) (Only.refl _) Only.trans [(0, .pointer (some ⟨p, 0, none⟩)), (3, .pointer (some ⟨q, 0, none⟩))] (by intro p hp; simp only [List.mem_cons, List.not_mem_nil, or_false] at hp; rcases hp with rfl | rfl <;> rfl) (by kernel_rfl) (by kernel_rfl) (by decide) (by kernel_rfl) (by kernel_rfl) ?_
  simp only [List.take_succ_cons, List.take_zero, List.drop_succ_cons, List.drop_zero]
  apply rd_val
  · first | rfl | exact ⟨by kernel_rfl, rfl⟩
  · intro z y hT hf
    obtain ⟨b0, b1, b2⟩ := And.intro (Three.cell0 (HV.out y hT).2) (And.intro (Three.cell1 (HV.out y hT).2) (Three.cell2 (HV.out y hT).2))
    simp at hf
    go_simp
    try rfl
  apply rd_val
  · first | rfl | exact ⟨by kernel_rfl, rfl⟩
  · intro z y hT hf
    obtain ⟨b0, b1, b2⟩ := And.intro (Three.cell0 (HV.out y hT).2) (And.intro (Three.cell1 (HV.out y hT).2) (Three.cell2 (HV.out y hT).2))
    simp at hf
    go_simp
    try rfl
  apply rd_val
  · first | rfl | exact ⟨by kernel_rfl, rfl⟩
  · intro z y hT hf
    obtain ⟨b0, b1, b2⟩ := And.intro (Three.cell0 (HV.out y hT).2) (And.intro (Three.cell1 (HV.out y hT).2) (Three.cell2 (HV.out y hT).2))
    simp at hf
    go_simp
    try rfl
  refine rd_eff (fun _ v => v = .pointer (some ⟨p, 8 + i, none⟩)) (by first | rfl | exact ⟨by kernel_rfl, rfl⟩) (fun _ _ _ _ h => h) (fun z y hT hf => ?_) ?_
  · simp at hf
    go_simp
    refine (reg_yes (HV.out y hT).1.mac i hi).mono ?_
    rintro e y2 ⟨rfl, rfl⟩
    exact ⟨_, rfl, rfl, Only.refl _ _⟩
  apply rd_val
  · first | rfl | exact ⟨by kernel_rfl, rfl⟩
  · intro z y hT hf
    obtain ⟨b0, b1, b2⟩ := And.intro (Three.cell0 (HV.out y hT).2) (And.intro (Three.cell1 (HV.out y hT).2) (Three.cell2 (HV.out y hT).2))
    simp at hf
    go_simp
    try rfl
  apply rd_val
  · first | rfl | exact ⟨by kernel_rfl, rfl⟩
  · intro z y hT hf
    obtain ⟨b0, b1, b2⟩ := And.intro (Three.cell0 (HV.out y hT).2) (And.intro (Three.cell1 (HV.out y hT).2) (Three.cell2 (HV.out y hT).2))
    simp at hf
    go_simp
    try rfl
  apply rd_val
  · first | rfl | exact ⟨by kernel_rfl, rfl⟩
  · intro z y hT hf
    obtain ⟨b0, b1, b2⟩ := And.intro (Three.cell0 (HV.out y hT).2) (And.intro (Three.cell1 (HV.out y hT).2) (Three.cell2 (HV.out y hT).2))
    simp at hf
    go_simp
    try rfl
  refine rd_die (by first | rfl | exact ⟨by kernel_rfl, rfl⟩) (fun z y hT hf => ?_) ?_
  · simp at hf
    go_simp
    refine (reg_no (HV.out y hT).1.mac b hb).mono ?_
    rintro e y2 ⟨rfl, rfl⟩
    exact ⟨_, rfl, rfl, H1.out.2.1.trans ((only_drew W).trans hT)⟩
  refine rd_not (by first | rfl | exact ⟨by kernel_rfl, rfl⟩) (fun z y hT hf => (by simp at hf)) ?_
  refine rd_not (by first | rfl | exact ⟨by kernel_rfl, rfl⟩) (fun z y hT hf => (by simp at hf)) ?_
  intro w2 hy
  simp only [FinA, Sp.R, forall_eq]
  first | exact False.elim | (intro v hv; exact hv.elim) | (intro v hv v2 hv2; exact hv2.elim) | (intro v hv; exact fun _ h => h.elim)
set_option maxRecDepth 100000 in
set_option maxHeartbeats 1000000 in
theorem do_5y {B p n : Nat} {w : World} {m : Mch} {sh : List Bd} (h : St B p w m sh n) (i j : Nat) (hi : i < 4) (hj : j < 4) (hx : -1000000 ≤ Rule.reg m.b i ∧ Rule.reg m.b i ≤ 1000000) (hy : -1000000 ≤ Rule.reg m.b j ∧ Rule.reg m.b j ≤ 1000000) (hr : Rule.act n m.at_ ⟨5, (i : Nat), (j : Nat)⟩ (m.e sh) = .next { m.e sh with b := Rule.setr m.b i (Rule.clamp (Rule.reckon 5 (Rule.reg m.b i) (Rule.reg m.b j))) } (m.at_ + 1)) : Calls Try.prog 40 #[.pointer (some ⟨p, 0, none⟩), .agg #[.int .i64 (5), .int .i64 ((i : Nat)), .int .i64 ((j : Nat))]] w (DoPost B p w m (Rule.act n m.at_ ⟨5, (i : Nat), (j : Nat)⟩ (m.e sh))) := by
  have HR : Hid _ := hr
  clear hr
  generalize Rule.act n m.at_ ⟨5, (i : Nat), (j : Nat)⟩ (m.e sh) = RR at *
  have k1 := h.at0
  have k2 := h.at1
  have k3 := h.few
  have wn : IntKind.i64.wrap (m.at_ + 1) = m.at_ + 1 := IntWalk.i64_in _ (by omega)
  have c19 := h.mac.at_
  have H0 : Hid _ := h
  have O0 : Hid (OpBox (w.alloc (.cells #[.int .i64 (5), .int .i64 ((i : Nat)), .int .i64 ((j : Nat))] 23)) w.heap.size (5) ((i : Nat)) ((j : Nat))) := Three.new _ _ _ _ _
  have lp := h.mac.lt
  clear h
  go_enter Try.func40, Try.ntmps40
  go_wp2_with fail
  have H1 : Hid (St B p (w.alloc (.cells #[.int .i64 (5), .int .i64 ((i : Nat)), .int .i64 ((j : Nat))] 23)) m sh n ∧ Only [] w (w.alloc (.cells #[.int .i64 (5), .int .i64 ((i : Nat)), .int .i64 ((j : Nat))] 23)) ∧ OpBox (w.alloc (.cells #[.int .i64 (5), .int .i64 ((i : Nat)), .int .i64 ((j : Nat))] 23)) w.heap.size (5) ((i : Nat)) ((j : Nat))) := ⟨H0.out.only ((Only.refl _ _).alloc _), (Only.refl _ _).alloc _, O0.out⟩
  generalize w.alloc (.cells #[.int .i64 (5), .int .i64 ((i : Nat)), .int .i64 ((j : Nat))] 23) = W at *
  generalize w.heap.size = q at *
  clear H0 c19 O0
  have HV : Hid (∀ y, Only [] W.drew y → St B p y m sh n ∧ OpBox y q (5) ((i : Nat)) ((j : Nat))) := fun y hy => ⟨H1.out.1.only ((only_drew W).trans hy), Three.only H1.out.2.2 ((only_drew W).trans hy) (by simp)⟩
  refine wp_region_free 10 (Only []) (Only.refl _) Only.trans [(0, .pointer (some ⟨p, 0, none⟩)), (3, .pointer (some ⟨q, 0, none⟩))] (by intro p hp; simp only [List.mem_cons, List.not_mem_nil, or_false] at hp; rcases hp with rfl | rfl <;> rfl) (by kernel_rfl) (by kernel_rfl) (by decide) (by kernel_rfl) (by kernel_rfl) ?_
  simp only [List.take_succ_cons, List.take_zero, List.drop_succ_cons, List.drop_zero]
  apply rf_val
  · first | rfl | exact ⟨by kernel_rfl, rfl⟩
  · intro z y hT hf
    obtain ⟨b0, b1, b2⟩ := And.intro (Three.cell0 (HV.out y hT).2) (And.intro (Three.cell1 (HV.out y hT).2) (Three.cell2 (HV.out y hT).2))
    simp at hf
    go_simp
    try rfl
  apply rf_val
  · first | rfl | exact ⟨by kernel_rfl, rfl⟩
  · intro z y hT hf
    obtain ⟨b0, b1, b2⟩ := And.intro (Three.cell0 (HV.out y hT).2) (And.intro (Three.cell1 (HV.out y hT).2) (Three.cell2 (HV.out y hT).2))
    simp at hf
    go_simp
    try rfl
  apply rf_val
  · first | rfl | exact ⟨by kernel_rfl, rfl⟩
  · intro z y hT hf
    obtain ⟨b0, b1, b2⟩ := And.intro (Three.cell0 (HV.out y hT).2) (And.intro (Three.cell1 (HV.out y hT).2) (Three.cell2 (HV.out y hT).2))
    simp at hf
    go_simp
    try rfl
  refine rf_eff (fun _ v => v = .pointer (some ⟨p, 8 + i, none⟩)) (by first | rfl | exact ⟨by kernel_rfl, rfl⟩) (fun _ _ _ _ h => h) (fun z y hT hf => ?_) ?_
  · simp at hf
    go_simp
    refine (reg_yes (HV.out y hT).1.mac i hi).mono ?_
    rintro e y2 ⟨rfl, rfl⟩
    exact ⟨_, rfl, rfl, Only.refl _ _⟩
  apply rf_val
  · first | rfl | exact ⟨by kernel_rfl, rfl⟩
  · intro z y hT hf
    obtain ⟨b0, b1, b2⟩ := And.intro (Three.cell0 (HV.out y hT).2) (And.intro (Three.cell1 (HV.out y hT).2) (Three.cell2 (HV.out y hT).2))
    simp at hf
    go_simp
    try rfl
  apply rf_val
  · first | rfl | exact ⟨by kernel_rfl, rfl⟩
  · intro z y hT hf
    obtain ⟨b0, b1, b2⟩ := And.intro (Three.cell0 (HV.out y hT).2) (And.intro (Three.cell1 (HV.out y hT).2) (Three.cell2 (HV.out y hT).2))
    simp at hf
    go_simp
    try rfl
  apply rf_val
  · first | rfl | exact ⟨by kernel_rfl, rfl⟩
  · intro z y hT hf
    obtain ⟨b0, b1, b2⟩ := And.intro (Three.cell0 (HV.out y hT).2) (And.intro (Three.cell1 (HV.out y hT).2) (Three.cell2 (HV.out y hT).2))
    simp at hf
    go_simp
    try rfl
  refine rf_eff (fun _ v => v = .pointer (some ⟨p, 8 + j, none⟩)) (by first | rfl | exact ⟨by kernel_rfl, rfl⟩) (fun _ _ _ _ h => h) (fun z y hT hf => ?_) ?_
  · simp at hf
    go_simp
    refine (reg_yes (HV.out y hT).1.mac j hj).mono ?_
    rintro e y2 ⟨rfl, rfl⟩
    exact ⟨_, rfl, rfl, Only.refl _ _⟩
  apply rf_val
  · first | rfl | exact ⟨by kernel_rfl, rfl⟩
  · intro z y hT hf
    obtain ⟨b0, b1, b2⟩ := And.intro (Three.cell0 (HV.out y hT).2) (And.intro (Three.cell1 (HV.out y hT).2) (Three.cell2 (HV.out y hT).2))
    simp at hf
    go_simp
    try rfl
  apply rf_val
  · first | rfl | exact ⟨by kernel_rfl, rfl⟩
  · intro z y hT hf
    obtain ⟨b0, b1, b2⟩ := And.intro (Three.cell0 (HV.out y hT).2) (And.intro (Three.cell1 (HV.out y hT).2) (Three.cell2 (HV.out y hT).2))
    simp at hf
    go_simp
    try rfl
  intro w2 hy
  simp only [FinA, Sp.R, forall_eq]
  simp only [Act.put, List.setIfInBounds_toArray, List.set_cons_succ, List.set_cons_zero]
  have H2 : Hid (St B p w2 m sh n ∧ Only [] w w2 ∧ OpBox w2 q (5) ((i : Nat)) ((j : Nat))) := ⟨(HV.out w2 hy).1, H1.out.2.1.trans ((only_drew W).trans hy), (HV.out w2 hy).2⟩
  clear hy HV H1
  go_wp2_with fail
  have H1 : Hid _ := H2.out
  clear H2
  have HV : Hid (∀ y, Only [] w2.drew y → St B p y m sh n ∧ OpBox y q (5) ((i : Nat)) ((j : Nat))) := fun y hy => ⟨H1.out.1.only ((only_drew w2).trans hy), Three.only H1.out.2.2 ((only_drew w2).trans hy) (by simp)⟩
  refine wp_region_free 13 (Only []) (Only.refl _) Only.trans [(0, .pointer (some ⟨p, 0, none⟩)), (3, .pointer (some ⟨q, 0, none⟩)), (6, .pointer (some ⟨p, 8 + i, none⟩)), (7, .pointer (some ⟨p, 8 + j, none⟩))] (by intro p hp; simp only [List.mem_cons, List.not_mem_nil, or_false] at hp; rcases hp with rfl | rfl | rfl | rfl <;> rfl) (by kernel_rfl) (by kernel_rfl) (by decide) (by kernel_rfl) (by kernel_rfl) ?_
  simp only [List.take_succ_cons, List.take_zero, List.drop_succ_cons, List.drop_zero]
  apply rf_val
  · first | rfl | exact ⟨by kernel_rfl, rfl⟩
  · intro z y hT hf
    obtain ⟨b0, b1, b2⟩ := And.intro (Three.cell0 (HV.out y hT).2) (And.intro (Three.cell1 (HV.out y hT).2) (Three.cell2 (HV.out y hT).2))
    have cm0 := (HV.out y hT).1.mac.mem i hi
    have cm1 := (HV.out y hT).1.mac.mem j hj
    simp at hf
    go_simp
    try rfl
  apply rf_val
  · first | rfl | exact ⟨by kernel_rfl, rfl⟩
  · intro z y hT hf
    obtain ⟨b0, b1, b2⟩ := And.intro (Three.cell0 (HV.out y hT).2) (And.intro (Three.cell1 (HV.out y hT).2) (Three.cell2 (HV.out y hT).2))
    have cm0 := (HV.out y hT).1.mac.mem i hi
    have cm1 := (HV.out y hT).1.mac.mem j hj
    simp at hf
    go_simp
    try rfl
  apply rf_val
  · first | rfl | exact ⟨by kernel_rfl, rfl⟩
  · intro z y hT hf
    obtain ⟨b0, b1, b2⟩ := And.intro (Three.cell0 (HV.out y hT).2) (And.intro (Three.cell1 (HV.out y hT).2) (Three.cell2 (HV.out y hT).2))
    have cm0 := (HV.out y hT).1.mac.mem i hi
    have cm1 := (HV.out y hT).1.mac.mem j hj
    simp at hf
    go_simp
    try rfl
  apply rf_val
  · first | rfl | exact ⟨by kernel_rfl, rfl⟩
  · intro z y hT hf
    obtain ⟨b0, b1, b2⟩ := And.intro (Three.cell0 (HV.out y hT).2) (And.intro (Three.cell1 (HV.out y hT).2) (Three.cell2 (HV.out y hT).2))
    have cm0 := (HV.out y hT).1.mac.mem i hi
    have cm1 := (HV.out y hT).1.mac.mem j hj
    simp at hf
    go_simp
    try rfl
  apply rf_val
  · first | rfl | exact ⟨by kernel_rfl, rfl⟩
  · intro z y hT hf
    obtain ⟨b0, b1, b2⟩ := And.intro (Three.cell0 (HV.out y hT).2) (And.intro (Three.cell1 (HV.out y hT).2) (Three.cell2 (HV.out y hT).2))
    have cm0 := (HV.out y hT).1.mac.mem i hi
    have cm1 := (HV.out y hT).1.mac.mem j hj
    simp at hf
    go_simp
    try rfl
  apply rf_val
  · first | rfl | exact ⟨by kernel_rfl, rfl⟩
  · intro z y hT hf
    obtain ⟨b0, b1, b2⟩ := And.intro (Three.cell0 (HV.out y hT).2) (And.intro (Three.cell1 (HV.out y hT).2) (Three.cell2 (HV.out y hT).2))
    have cm0 := (HV.out y hT).1.mac.mem i hi
    have cm1 := (HV.out y hT).1.mac.mem j hj
    simp at hf
    go_simp
    try rfl
  apply rf_val
  · first | rfl | exact ⟨by kernel_rfl, rfl⟩
  · intro z y hT hf
    obtain ⟨b0, b1, b2⟩ := And.intro (Three.cell0 (HV.out y hT).2) (And.intro (Three.cell1 (HV.out y hT).2) (Three.cell2 (HV.out y hT).2))
    have cm0 := (HV.out y hT).1.mac.mem i hi
    have cm1 := (HV.out y hT).1.mac.mem j hj
    simp at hf
    go_simp
    try rfl
  apply rf_val
  · first | rfl | exact ⟨by kernel_rfl, rfl⟩
  · intro z y hT hf
    obtain ⟨b0, b1, b2⟩ := And.intro (Three.cell0 (HV.out y hT).2) (And.intro (Three.cell1 (HV.out y hT).2) (Three.cell2 (HV.out y hT).2))
    have cm0 := (HV.out y hT).1.mac.mem i hi
    have cm1 := (HV.out y hT).1.mac.mem j hj
    simp at hf
    go_simp
    try rfl
  apply rf_val
  · first | rfl | exact ⟨by kernel_rfl, rfl⟩
  · intro z y hT hf
    obtain ⟨b0, b1, b2⟩ := And.intro (Three.cell0 (HV.out y hT).2) (And.intro (Three.cell1 (HV.out y hT).2) (Three.cell2 (HV.out y hT).2))
    have cm0 := (HV.out y hT).1.mac.mem i hi
    have cm1 := (HV.out y hT).1.mac.mem j hj
    simp at hf
    go_simp
    try rfl
  apply rf_val
  · first | rfl | exact ⟨by kernel_rfl, rfl⟩
  · intro z y hT hf
    obtain ⟨b0, b1, b2⟩ := And.intro (Three.cell0 (HV.out y hT).2) (And.intro (Three.cell1 (HV.out y hT).2) (Three.cell2 (HV.out y hT).2))
    have cm0 := (HV.out y hT).1.mac.mem i hi
    have cm1 := (HV.out y hT).1.mac.mem j hj
    simp at hf
    go_simp
    try rfl
  refine rf_eff (fun _ v => v = .int .i64 (Rule.reckon 5 (Rule.reg m.b i) (Rule.reg m.b j))) (by first | rfl | exact ⟨by kernel_rfl, rfl⟩) (fun _ _ _ _ h => h) (fun z y hT hf => ?_) ?_
  · simp at hf
    go_simp
    refine (reckon_any (HV.out y hT).1.mac 5 _ _ (by omega) hx hy (by omega)).mono ?_
    rintro e y2 ⟨rfl, rfl⟩
    exact ⟨_, rfl, rfl, Only.refl _ _⟩
  refine rf_eff (fun _ v => v = .int .i64 (Rule.clamp (Rule.reckon 5 (Rule.reg m.b i) (Rule.reg m.b j)))) (by first | rfl | exact ⟨by kernel_rfl, rfl⟩) (fun _ _ _ _ h => h) (fun z y hT hf => ?_) ?_
  · simp at hf
    go_simp
    refine (asReg_any _ _).mono ?_
    rintro e y2 ⟨rfl, rfl⟩
    exact ⟨_, rfl, rfl, Only.refl _ _⟩
  apply rf_val
  · first | rfl | exact ⟨by kernel_rfl, rfl⟩
  · intro z y hT hf
    obtain ⟨b0, b1, b2⟩ := And.intro (Three.cell0 (HV.out y hT).2) (And.intro (Three.cell1 (HV.out y hT).2) (Three.cell2 (HV.out y hT).2))
    simp at hf
    go_simp
    try rfl
  intro w3 hw
  simp only [FinA, Sp.R, forall_eq]
  simp only [Act.put, List.setIfInBounds_toArray, List.set_cons_succ, List.set_cons_zero]
  have H2 : Hid (St B p w3 m sh n ∧ Only [] w w3 ∧ OpBox w3 q (5) ((i : Nat)) ((j : Nat))) := ⟨(HV.out w3 hw).1, H1.out.2.1.trans ((only_drew w2).trans hw), (HV.out w3 hw).2⟩
  clear hw HV H1
  have fz := H2.out.1.mac.frozen
  have cm := H2.out.1.mac.mem i hi
  go_wp2_with fail
  go_ret
  exact doPost_own HR.out rfl H2.out.1 H2.out.2.1 (H2.out.1.mac.setr i hi _) ((Only.refl _ _).setCell (by simp) _) rfl
set_option maxRecDepth 100000 in
set_option maxHeartbeats 1000000 in
theorem do_5a {B p n : Nat} {w : World} {m : Mch} {sh : List Bd} (h : St B p w m sh n) (a b : Int) (ha : Rule.is a = false) (hr : Rule.act n m.at_ ⟨5, a, b⟩ (m.e sh) = .fault 2) : Calls Try.prog 40 #[.pointer (some ⟨p, 0, none⟩), .agg #[.int .i64 (5), .int .i64 (a), .int .i64 (b)]] w (DoPost B p w m (Rule.act n m.at_ ⟨5, a, b⟩ (m.e sh))) := by
  have HR : Hid _ := hr
  clear hr
  generalize Rule.act n m.at_ ⟨5, a, b⟩ (m.e sh) = RR at *
  have k1 := h.at0
  have k2 := h.at1
  have k3 := h.few
  have wn : IntKind.i64.wrap (m.at_ + 1) = m.at_ + 1 := IntWalk.i64_in _ (by omega)
  have c19 := h.mac.at_
  have H0 : Hid _ := h
  have O0 : Hid (OpBox (w.alloc (.cells #[.int .i64 (5), .int .i64 (a), .int .i64 (b)] 23)) w.heap.size (5) (a) (b)) := Three.new _ _ _ _ _
  have lp := h.mac.lt
  clear h
  go_enter Try.func40, Try.ntmps40
  go_wp2_with fail
  have H1 : Hid (St B p (w.alloc (.cells #[.int .i64 (5), .int .i64 (a), .int .i64 (b)] 23)) m sh n ∧ Only [] w (w.alloc (.cells #[.int .i64 (5), .int .i64 (a), .int .i64 (b)] 23)) ∧ OpBox (w.alloc (.cells #[.int .i64 (5), .int .i64 (a), .int .i64 (b)] 23)) w.heap.size (5) (a) (b)) := ⟨H0.out.only ((Only.refl _ _).alloc _), (Only.refl _ _).alloc _, O0.out⟩
  generalize w.alloc (.cells #[.int .i64 (5), .int .i64 (a), .int .i64 (b)] 23) = W at *
  generalize w.heap.size = q at *
  clear H0 c19 O0
  have HV : Hid (∀ y, Only [] W.drew y → St B p y m sh n ∧ OpBox y q (5) (a) (b)) := fun y hy => ⟨H1.out.1.only ((only_drew W).trans hy), Three.only H1.out.2.2 ((only_drew W).trans hy) (by simp)⟩
  refine wp_region_fate (fun chain y => chain = [{ v := thrownV 2 m.at_, recovered := false }] ∧ Only [] w y) (by rintro chain a' y hd ⟨rfl, ho⟩; exact ⟨hd, doPost_fault HR.out rfl ho⟩) 10 (Only []) (Only.refl _) Only.trans [(0, .pointer (some ⟨p, 0, none⟩)), (3, .pointer (some ⟨q, 0, none⟩))] (by intro p hp; simp only [List.mem_cons, List.not_mem_nil, or_false] at hp; rcases hp with rfl | rfl <;> rfl) (by kernel_rfl) (by kernel_rfl) (by decide) (by kernel_rfl) (by kernel_rfl) ?_
  simp only [List.take_succ_cons, List.take_zero, List.drop_succ_cons, List.drop_zero]
  apply rd_val
  · first | rfl | exact ⟨by kernel_rfl, rfl⟩
  · intro z y hT hf
    obtain ⟨b0, b1, b2⟩ := And.intro (Three.cell0 (HV.out y hT).2) (And.intro (Three.cell1 (HV.out y hT).2) (Three.cell2 (HV.out y hT).2))
    simp at hf
    go_simp
    try rfl
  apply rd_val
  · first | rfl | exact ⟨by kernel_rfl, rfl⟩
  · intro z y hT hf
    obtain ⟨b0, b1, b2⟩ := And.intro (Three.cell0 (HV.out y hT).2) (And.intro (Three.cell1 (HV.out y hT).2) (Three.cell2 (HV.out y hT).2))
    simp at hf
    go_simp
    try rfl
  apply rd_val
  · first | rfl | exact ⟨by kernel_rfl, rfl⟩
  · intro z y hT hf
    obtain ⟨b0, b1, b2⟩ := And.intro (Three.cell0 (HV.out y hT).2) (And.intro (Three.cell1 (HV.out y hT).2) (Three.cell2 (HV.out y hT).2))
    simp at hf
    go_simp
    try rfl
  refine rd_die (by first | rfl | exact ⟨by kernel_rfl, rfl⟩) (fun z y hT hf => ?_) ?_
  · simp at hf
    go_simp
    refine (reg_no (HV.out y hT).1.mac a ha).mono ?_
    rintro e y2 ⟨rfl, rfl⟩
    exact ⟨_, rfl, rfl, H1.out.2.1.trans ((only_drew W).trans hT)⟩
  apply rd_val
  · first | rfl | exact ⟨by kernel_rfl, rfl⟩
  · intro z y hT hf
    obtain ⟨b0, b1, b2⟩ := And.intro (Three.cell0 (HV.out y hT).2) (And.intro (Three.cell1 (HV.out y hT).2) (Three.cell2 (HV.out y hT).2))
    simp at hf
    go_simp
    try rfl
  apply rd_val
  · first | rfl | exact ⟨by kernel_rfl, rfl⟩
  · intro z y hT hf
    obtain ⟨b0, b1, b2⟩ := And.intro (Three.cell0 (HV.out y hT).2) (And.intro (Three.cell1 (HV.out y hT).2) (Three.cell2 (HV.out y hT).2))
    simp at hf
    go_simp
    try rfl
  apply rd_val
  · first | rfl | exact ⟨by kernel_rfl, rfl⟩
  · intro z y hT hf
    obtain ⟨b0, b1, b2⟩ := And.intro (Three.cell0 (HV.out y hT).2) (And.intro (Three.cell1 (HV.out y hT).2) (Three.cell2 (HV.out y hT).2))
    simp at hf
    go_simp
    try rfl
  refine rd_not (by first | rfl | exact ⟨by kernel_rfl, rfl⟩) (fun z y hT hf => (by simp at hf)) ?_
  refine rd_not (by first | rfl | exact ⟨by kernel_rfl, rfl⟩) (fun z y hT hf => (by simp at hf)) ?_
  refine rd_not (by first | rfl | exact ⟨by kernel_rfl, rfl⟩) (fun z y hT hf => (by simp at hf)) ?_
  intro w2 hy
  simp only [FinA, Sp.R, forall_eq]
  first | exact False.elim | (intro v hv; exact hv.elim) | (intro v hv v2 hv2; exact hv2.elim) | (intro v hv; exact fun _ h => h.elim)
set_option maxRecDepth 100000 in
set_option maxHeartbeats 1000000 in
theorem do_5b {B p n : Nat} {w : World} {m : Mch} {sh : List Bd} (h : St B p w m sh n) (i : Nat) (b : Int) (hi : i < 4) (hb : Rule.is b = false) (hr : Rule.act n m.at_ ⟨5, (i : Nat), b⟩ (m.e sh) = .fault 2) : Calls Try.prog 40 #[.pointer (some ⟨p, 0, none⟩), .agg #[.int .i64 (5), .int .i64 ((i : Nat)), .int .i64 (b)]] w (DoPost B p w m (Rule.act n m.at_ ⟨5, (i : Nat), b⟩ (m.e sh))) := by
  have HR : Hid _ := hr
  clear hr
  generalize Rule.act n m.at_ ⟨5, (i : Nat), b⟩ (m.e sh) = RR at *
  have k1 := h.at0
  have k2 := h.at1
  have k3 := h.few
  have wn : IntKind.i64.wrap (m.at_ + 1) = m.at_ + 1 := IntWalk.i64_in _ (by omega)
  have c19 := h.mac.at_
  have H0 : Hid _ := h
  have O0 : Hid (OpBox (w.alloc (.cells #[.int .i64 (5), .int .i64 ((i : Nat)), .int .i64 (b)] 23)) w.heap.size (5) ((i : Nat)) (b)) := Three.new _ _ _ _ _
  have lp := h.mac.lt
  clear h
  go_enter Try.func40, Try.ntmps40
  go_wp2_with fail
  have H1 : Hid (St B p (w.alloc (.cells #[.int .i64 (5), .int .i64 ((i : Nat)), .int .i64 (b)] 23)) m sh n ∧ Only [] w (w.alloc (.cells #[.int .i64 (5), .int .i64 ((i : Nat)), .int .i64 (b)] 23)) ∧ OpBox (w.alloc (.cells #[.int .i64 (5), .int .i64 ((i : Nat)), .int .i64 (b)] 23)) w.heap.size (5) ((i : Nat)) (b)) := ⟨H0.out.only ((Only.refl _ _).alloc _), (Only.refl _ _).alloc _, O0.out⟩
  generalize w.alloc (.cells #[.int .i64 (5), .int .i64 ((i : Nat)), .int .i64 (b)] 23) = W at *
  generalize w.heap.size = q at *
  clear H0 c19 O0
  have HV : Hid (∀ y, Only [] W.drew y → St B p y m sh n ∧ OpBox y q (5) ((i : Nat)) (b)) := fun y hy => ⟨H1.out.1.only ((only_drew W).trans hy), Three.only H1.out.2.2 ((only_drew W).trans hy) (by simp)⟩
  refine wp_region_fate (fun chain y => chain = [{ v := thrownV 2 m.at_, recovered := false }] ∧ Only [] w y) (by rintro chain a' y hd ⟨rfl, ho⟩; exact ⟨hd, doPost_fault HR.out rfl ho⟩) 10 (Only []) (Only.refl _) Only.trans [(0, .pointer (some ⟨p, 0, none⟩)), (3, .pointer (some ⟨q, 0, none⟩))] (by intro p hp; simp only [List.mem_cons, List.not_mem_nil, or_false] at hp; rcases hp with rfl | rfl <;> rfl) (by kernel_rfl) (by kernel_rfl) (by decide) (by kernel_rfl) (by kernel_rfl) ?_
  simp only [List.take_succ_cons, List.take_zero, List.drop_succ_cons, List.drop_zero]
  apply rd_val
  · first | rfl | exact ⟨by kernel_rfl, rfl⟩
  · intro z y hT hf
    obtain ⟨b0, b1, b2⟩ := And.intro (Three.cell0 (HV.out y hT).2) (And.intro (Three.cell1 (HV.out y hT).2) (Three.cell2 (HV.out y hT).2))
    simp at hf
    go_simp
    try rfl
  apply rd_val
  · first | rfl | exact ⟨by kernel_rfl, rfl⟩
  · intro z y hT hf
    obtain ⟨b0, b1, b2⟩ := And.intro (Three.cell0 (HV.out y hT).2) (And.intro (Three.cell1 (HV.out y hT).2) (Three.cell2 (HV.out y hT).2))
    simp at hf
    go_simp
    try rfl
  apply rd_val
  · first | rfl | exact ⟨by kernel_rfl, rfl⟩
  · intro z y hT hf
    obtain ⟨b0, b1, b2⟩ := And.intro (Three.cell0 (HV.out y hT).2) (And.intro (Three.cell1 (HV.out y hT).2) (Three.cell2 (HV.out y hT).2))
    simp at hf
    go_simp
    try rfl
  refine rd_eff (fun _ v => v = .pointer (some ⟨p, 8 + i, none⟩)) (by first | rfl | exact ⟨by kernel_rfl, rfl⟩) (fun _ _ _ _ h => h) (fun z y hT hf => ?_) ?_
  · simp at hf
    go_simp
    refine (reg_yes (HV.out y hT).1.mac i hi).mono ?_
    rintro e y2 ⟨rfl, rfl⟩
    exact ⟨_, rfl, rfl, Only.refl _ _⟩
  apply rd_val
  · first | rfl | exact ⟨by kernel_rfl, rfl⟩
  · intro z y hT hf
    obtain ⟨b0, b1, b2⟩ := And.intro (Three.cell0 (HV.out y hT).2) (And.intro (Three.cell1 (HV.out y hT).2) (Three.cell2 (HV.out y hT).2))
    simp at hf
    go_simp
    try rfl
  apply rd_val
  · first | rfl | exact ⟨by kernel_rfl, rfl⟩
  · intro z y hT hf
    obtain ⟨b0, b1, b2⟩ := And.intro (Three.cell0 (HV.out y hT).2) (And.intro (Three.cell1 (HV.out y hT).2) (Three.cell2 (HV.out y hT).2))
    simp at hf
    go_simp
    try rfl
  apply rd_val
  · first | rfl | exact ⟨by kernel_rfl, rfl⟩
  · intro z y hT hf
    obtain ⟨b0, b1, b2⟩ := And.intro (Three.cell0 (HV.out y hT).2) (And.intro (Three.cell1 (HV.out y hT).2) (Three.cell2 (HV.out y hT).2))
    simp at hf
    go_simp
    try rfl
  refine rd_die (by first | rfl | exact ⟨by kernel_rfl, rfl⟩) (fun z y hT hf => ?_) ?_
  · simp at hf
    go_simp
    refine (reg_no (HV.out y hT).1.mac b hb).mono ?_
    rintro e y2 ⟨rfl, rfl⟩
    exact ⟨_, rfl, rfl, H1.out.2.1.trans ((only_drew W).trans hT)⟩
  refine rd_not (by first | rfl | exact ⟨by kernel_rfl, rfl⟩) (fun z y hT hf => (by simp at hf)) ?_
  refine rd_not (by first | rfl | exact ⟨by kernel_rfl, rfl⟩) (fun z y hT hf => (by simp at hf)) ?_
  intro w2 hy
  simp only [FinA, Sp.R, forall_eq]
  first | exact False.elim | (intro v hv; exact hv.elim) | (intro v hv v2 hv2; exact hv2.elim) | (intro v hv; exact fun _ h => h.elim)
set_option maxRecDepth 100000 in
set_option maxHeartbeats 1000000 in
theorem do_6y {B p n : Nat} {w : World} {m : Mch} {sh : List Bd} (h : St B p w m sh n) (i j : Nat) (hi : i < 4) (hj : j < 4) (h0 : Rule.reg m.b j ≠ 0) (hx : -1000000 ≤ Rule.reg m.b i ∧ Rule.reg m.b i ≤ 1000000) (hy : -1000000 ≤ Rule.reg m.b j ∧ Rule.reg m.b j ≤ 1000000) (hr : Rule.act n m.at_ ⟨6, (i : Nat), (j : Nat)⟩ (m.e sh) = .next { m.e sh with b := Rule.setr m.b i (Rule.clamp (Rule.reckon 6 (Rule.reg m.b i) (Rule.reg m.b j))) } (m.at_ + 1)) : Calls Try.prog 40 #[.pointer (some ⟨p, 0, none⟩), .agg #[.int .i64 (6), .int .i64 ((i : Nat)), .int .i64 ((j : Nat))]] w (DoPost B p w m (Rule.act n m.at_ ⟨6, (i : Nat), (j : Nat)⟩ (m.e sh))) := by
  have HR : Hid _ := hr
  clear hr
  generalize Rule.act n m.at_ ⟨6, (i : Nat), (j : Nat)⟩ (m.e sh) = RR at *
  have k1 := h.at0
  have k2 := h.at1
  have k3 := h.few
  have wn : IntKind.i64.wrap (m.at_ + 1) = m.at_ + 1 := IntWalk.i64_in _ (by omega)
  have c19 := h.mac.at_
  have H0 : Hid _ := h
  have O0 : Hid (OpBox (w.alloc (.cells #[.int .i64 (6), .int .i64 ((i : Nat)), .int .i64 ((j : Nat))] 23)) w.heap.size (6) ((i : Nat)) ((j : Nat))) := Three.new _ _ _ _ _
  have lp := h.mac.lt
  clear h
  go_enter Try.func40, Try.ntmps40
  go_wp2_with fail
  have H1 : Hid (St B p (w.alloc (.cells #[.int .i64 (6), .int .i64 ((i : Nat)), .int .i64 ((j : Nat))] 23)) m sh n ∧ Only [] w (w.alloc (.cells #[.int .i64 (6), .int .i64 ((i : Nat)), .int .i64 ((j : Nat))] 23)) ∧ OpBox (w.alloc (.cells #[.int .i64 (6), .int .i64 ((i : Nat)), .int .i64 ((j : Nat))] 23)) w.heap.size (6) ((i : Nat)) ((j : Nat))) := ⟨H0.out.only ((Only.refl _ _).alloc _), (Only.refl _ _).alloc _, O0.out⟩
  generalize w.alloc (.cells #[.int .i64 (6), .int .i64 ((i : Nat)), .int .i64 ((j : Nat))] 23) = W at *
  generalize w.heap.size = q at *
  clear H0 c19 O0
  have HV : Hid (∀ y, Only [] W.drew y → St B p y m sh n ∧ OpBox y q (6) ((i : Nat)) ((j : Nat))) := fun y hy => ⟨H1.out.1.only ((only_drew W).trans hy), Three.only H1.out.2.2 ((only_drew W).trans hy) (by simp)⟩
  refine wp_region_free 10 (Only []) (Only.refl _) Only.trans [(0, .pointer (some ⟨p, 0, none⟩)), (3, .pointer (some ⟨q, 0, none⟩))] (by intro p hp; simp only [List.mem_cons, List.not_mem_nil, or_false] at hp; rcases hp with rfl | rfl <;> rfl) (by kernel_rfl) (by kernel_rfl) (by decide) (by kernel_rfl) (by kernel_rfl) ?_
  simp only [List.take_succ_cons, List.take_zero, List.drop_succ_cons, List.drop_zero]
  apply rf_val
  · first | rfl | exact ⟨by kernel_rfl, rfl⟩
  · intro z y hT hf
    obtain ⟨b0, b1, b2⟩ := And.intro (Three.cell0 (HV.out y hT).2) (And.intro (Three.cell1 (HV.out y hT).2) (Three.cell2 (HV.out y hT).2))
    simp at hf
    go_simp
    try rfl
  apply rf_val
  · first | rfl | exact ⟨by kernel_rfl, rfl⟩
  · intro z y hT hf
    obtain ⟨b0, b1, b2⟩ := And.intro (Three.cell0 (HV.out y hT).2) (And.intro (Three.cell1 (HV.out y hT).2) (Three.cell2 (HV.out y hT).2))
    simp at hf
    go_simp
    try rfl
  apply rf_val
  · first | rfl | exact ⟨by kernel_rfl, rfl⟩
  · intro z y hT hf
    obtain ⟨b0, b1, b2⟩ := And.intro (Three.cell0 (HV.out y hT).2) (And.intro (Three.cell1 (HV.out y hT).2) (Three.cell2 (HV.out y hT).2))
    simp at hf
    go_simp
    try rfl
  refine rf_eff (fun _ v => v = .pointer (some ⟨p, 8 + i, none⟩)) (by first | rfl | exact ⟨by kernel_rfl, rfl⟩) (fun _ _ _ _ h => h) (fun z y hT hf => ?_) ?_
  · simp at hf
    go_simp
    refine (reg_yes (HV.out y hT).1.mac i hi).mono ?_
    rintro e y2 ⟨rfl, rfl⟩
    exact ⟨_, rfl, rfl, Only.refl _ _⟩
  apply rf_val
  · first | rfl | exact ⟨by kernel_rfl, rfl⟩
  · intro z y hT hf
    obtain ⟨b0, b1, b2⟩ := And.intro (Three.cell0 (HV.out y hT).2) (And.intro (Three.cell1 (HV.out y hT).2) (Three.cell2 (HV.out y hT).2))
    simp at hf
    go_simp
    try rfl
  apply rf_val
  · first | rfl | exact ⟨by kernel_rfl, rfl⟩
  · intro z y hT hf
    obtain ⟨b0, b1, b2⟩ := And.intro (Three.cell0 (HV.out y hT).2) (And.intro (Three.cell1 (HV.out y hT).2) (Three.cell2 (HV.out y hT).2))
    simp at hf
    go_simp
    try rfl
  apply rf_val
  · first | rfl | exact ⟨by kernel_rfl, rfl⟩
  · intro z y hT hf
    obtain ⟨b0, b1, b2⟩ := And.intro (Three.cell0 (HV.out y hT).2) (And.intro (Three.cell1 (HV.out y hT).2) (Three.cell2 (HV.out y hT).2))
    simp at hf
    go_simp
    try rfl
  refine rf_eff (fun _ v => v = .pointer (some ⟨p, 8 + j, none⟩)) (by first | rfl | exact ⟨by kernel_rfl, rfl⟩) (fun _ _ _ _ h => h) (fun z y hT hf => ?_) ?_
  · simp at hf
    go_simp
    refine (reg_yes (HV.out y hT).1.mac j hj).mono ?_
    rintro e y2 ⟨rfl, rfl⟩
    exact ⟨_, rfl, rfl, Only.refl _ _⟩
  apply rf_val
  · first | rfl | exact ⟨by kernel_rfl, rfl⟩
  · intro z y hT hf
    obtain ⟨b0, b1, b2⟩ := And.intro (Three.cell0 (HV.out y hT).2) (And.intro (Three.cell1 (HV.out y hT).2) (Three.cell2 (HV.out y hT).2))
    simp at hf
    go_simp
    try rfl
  apply rf_val
  · first | rfl | exact ⟨by kernel_rfl, rfl⟩
  · intro z y hT hf
    obtain ⟨b0, b1, b2⟩ := And.intro (Three.cell0 (HV.out y hT).2) (And.intro (Three.cell1 (HV.out y hT).2) (Three.cell2 (HV.out y hT).2))
    simp at hf
    go_simp
    try rfl
  intro w2 hy
  simp only [FinA, Sp.R, forall_eq]
  simp only [Act.put, List.setIfInBounds_toArray, List.set_cons_succ, List.set_cons_zero]
  have H2 : Hid (St B p w2 m sh n ∧ Only [] w w2 ∧ OpBox w2 q (6) ((i : Nat)) ((j : Nat))) := ⟨(HV.out w2 hy).1, H1.out.2.1.trans ((only_drew W).trans hy), (HV.out w2 hy).2⟩
  clear hy HV H1
  go_wp2_with fail
  have H1 : Hid _ := H2.out
  clear H2
  have HV : Hid (∀ y, Only [] w2.drew y → St B p y m sh n ∧ OpBox y q (6) ((i : Nat)) ((j : Nat))) := fun y hy => ⟨H1.out.1.only ((only_drew w2).trans hy), Three.only H1.out.2.2 ((only_drew w2).trans hy) (by simp)⟩
  refine wp_region_free 13 (Only []) (Only.refl _) Only.trans [(0, .pointer (some ⟨p, 0, none⟩)), (3, .pointer (some ⟨q, 0, none⟩)), (6, .pointer (some ⟨p, 8 + i, none⟩)), (7, .pointer (some ⟨p, 8 + j, none⟩))] (by intro p hp; simp only [List.mem_cons, List.not_mem_nil, or_false] at hp; rcases hp with rfl | rfl | rfl | rfl <;> rfl) (by kernel_rfl) (by kernel_rfl) (by decide) (by kernel_rfl) (by kernel_rfl) ?_
  simp only [List.take_succ_cons, List.take_zero, List.drop_succ_cons, List.drop_zero]
  apply rf_val
  · first | rfl | exact ⟨by kernel_rfl, rfl⟩
  · intro z y hT hf
    obtain ⟨b0, b1, b2⟩ := And.intro (Three.cell0 (HV.out y hT).2) (And.intro (Three.cell1 (HV.out y hT).2) (Three.cell2 (HV.out y hT).2))
    have cm0 := (HV.out y hT).1.mac.mem i hi
    have cm1 := (HV.out y hT).1.mac.mem j hj
    simp at hf
    go_simp
    try rfl
  apply rf_val
  · first | rfl | exact ⟨by kernel_rfl, rfl⟩
  · intro z y hT hf
    obtain ⟨b0, b1, b2⟩ := And.intro (Three.cell0 (HV.out y hT).2) (And.intro (Three.cell1 (HV.out y hT).2) (Three.cell2 (HV.out y hT).2))
    have cm0 := (HV.out y hT).1.mac.mem i hi
    have cm1 := (HV.out y hT).1.mac.mem j hj
    simp at hf
    go_simp
    try rfl
  apply rf_val
  · first | rfl | exact ⟨by kernel_rfl, rfl⟩
  · intro z y hT hf
    obtain ⟨b0, b1, b2⟩ := And.intro (Three.cell0 (HV.out y hT).2) (And.intro (Three.cell1 (HV.out y hT).2) (Three.cell2 (HV.out y hT).2))
    have cm0 := (HV.out y hT).1.mac.mem i hi
    have cm1 := (HV.out y hT).1.mac.mem j hj
    simp at hf
    go_simp
    try rfl
  apply rf_val
  · first | rfl | exact ⟨by kernel_rfl, rfl⟩
  · intro z y hT hf
    obtain ⟨b0, b1, b2⟩ := And.intro (Three.cell0 (HV.out y hT).2) (And.intro (Three.cell1 (HV.out y hT).2) (Three.cell2 (HV.out y hT).2))
    have cm0 := (HV.out y hT).1.mac.mem i hi
    have cm1 := (HV.out y hT).1.mac.mem j hj
    simp at hf
    go_simp
    try rfl
  apply rf_val
  · first | rfl | exact ⟨by kernel_rfl, rfl⟩
  · intro z y hT hf
    obtain ⟨b0, b1, b2⟩ := And.intro (Three.cell0 (HV.out y hT).2) (And.intro (Three.cell1 (HV.out y hT).2) (Three.cell2 (HV.out y hT).2))
    have cm0 := (HV.out y hT).1.mac.mem i hi
    have cm1 := (HV.out y hT).1.mac.mem j hj
    simp at hf
    go_simp
    try rfl
  apply rf_val
  · first | rfl | exact ⟨by kernel_rfl, rfl⟩
  · intro z y hT hf
    obtain ⟨b0, b1, b2⟩ := And.intro (Three.cell0 (HV.out y hT).2) (And.intro (Three.cell1 (HV.out y hT).2) (Three.cell2 (HV.out y hT).2))
    have cm0 := (HV.out y hT).1.mac.mem i hi
    have cm1 := (HV.out y hT).1.mac.mem j hj
    simp at hf
    go_simp
    try rfl
  apply rf_val
  · first | rfl | exact ⟨by kernel_rfl, rfl⟩
  · intro z y hT hf
    obtain ⟨b0, b1, b2⟩ := And.intro (Three.cell0 (HV.out y hT).2) (And.intro (Three.cell1 (HV.out y hT).2) (Three.cell2 (HV.out y hT).2))
    have cm0 := (HV.out y hT).1.mac.mem i hi
    have cm1 := (HV.out y hT).1.mac.mem j hj
    simp at hf
    go_simp
    try rfl
  apply rf_val
  · first | rfl | exact ⟨by kernel_rfl, rfl⟩
  · intro z y hT hf
    obtain ⟨b0, b1, b2⟩ := And.intro (Three.cell0 (HV.out y hT).2) (And.intro (Three.cell1 (HV.out y hT).2) (Three.cell2 (HV.out y hT).2))
    have cm0 := (HV.out y hT).1.mac.mem i hi
    have cm1 := (HV.out y hT).1.mac.mem j hj
    simp at hf
    go_simp
    try rfl
  apply rf_val
  · first | rfl | exact ⟨by kernel_rfl, rfl⟩
  · intro z y hT hf
    obtain ⟨b0, b1, b2⟩ := And.intro (Three.cell0 (HV.out y hT).2) (And.intro (Three.cell1 (HV.out y hT).2) (Three.cell2 (HV.out y hT).2))
    have cm0 := (HV.out y hT).1.mac.mem i hi
    have cm1 := (HV.out y hT).1.mac.mem j hj
    simp at hf
    go_simp
    try rfl
  apply rf_val
  · first | rfl | exact ⟨by kernel_rfl, rfl⟩
  · intro z y hT hf
    obtain ⟨b0, b1, b2⟩ := And.intro (Three.cell0 (HV.out y hT).2) (And.intro (Three.cell1 (HV.out y hT).2) (Three.cell2 (HV.out y hT).2))
    have cm0 := (HV.out y hT).1.mac.mem i hi
    have cm1 := (HV.out y hT).1.mac.mem j hj
    simp at hf
    go_simp
    try rfl
  refine rf_eff (fun _ v => v = .int .i64 (Rule.reckon 6 (Rule.reg m.b i) (Rule.reg m.b j))) (by first | rfl | exact ⟨by kernel_rfl, rfl⟩) (fun _ _ _ _ h => h) (fun z y hT hf => ?_) ?_
  · simp at hf
    go_simp
    refine (reckon_any (HV.out y hT).1.mac 6 _ _ (by omega) hx hy (fun e => h0 e.2)).mono ?_
    rintro e y2 ⟨rfl, rfl⟩
    exact ⟨_, rfl, rfl, Only.refl _ _⟩
  refine rf_eff (fun _ v => v = .int .i64 (Rule.clamp (Rule.reckon 6 (Rule.reg m.b i) (Rule.reg m.b j)))) (by first | rfl | exact ⟨by kernel_rfl, rfl⟩) (fun _ _ _ _ h => h) (fun z y hT hf => ?_) ?_
  · simp at hf
    go_simp
    refine (asReg_any _ _).mono ?_
    rintro e y2 ⟨rfl, rfl⟩
    exact ⟨_, rfl, rfl, Only.refl _ _⟩
  apply rf_val
  · first | rfl | exact ⟨by kernel_rfl, rfl⟩
  · intro z y hT hf
    obtain ⟨b0, b1, b2⟩ := And.intro (Three.cell0 (HV.out y hT).2) (And.intro (Three.cell1 (HV.out y hT).2) (Three.cell2 (HV.out y hT).2))
    simp at hf
    go_simp
    try rfl
  intro w3 hw
  simp only [FinA, Sp.R, forall_eq]
  simp only [Act.put, List.setIfInBounds_toArray, List.set_cons_succ, List.set_cons_zero]
  have H2 : Hid (St B p w3 m sh n ∧ Only [] w w3 ∧ OpBox w3 q (6) ((i : Nat)) ((j : Nat))) := ⟨(HV.out w3 hw).1, H1.out.2.1.trans ((only_drew w2).trans hw), (HV.out w3 hw).2⟩
  clear hw HV H1
  have fz := H2.out.1.mac.frozen
  have cm := H2.out.1.mac.mem i hi
  go_wp2_with fail
  go_ret
  exact doPost_own HR.out rfl H2.out.1 H2.out.2.1 (H2.out.1.mac.setr i hi _) ((Only.refl _ _).setCell (by simp) _) rfl
set_option maxRecDepth 100000 in
set_option maxHeartbeats 1000000 in
theorem do_6a {B p n : Nat} {w : World} {m : Mch} {sh : List Bd} (h : St B p w m sh n) (a b : Int) (ha : Rule.is a = false) (hr : Rule.act n m.at_ ⟨6, a, b⟩ (m.e sh) = .fault 2) : Calls Try.prog 40 #[.pointer (some ⟨p, 0, none⟩), .agg #[.int .i64 (6), .int .i64 (a), .int .i64 (b)]] w (DoPost B p w m (Rule.act n m.at_ ⟨6, a, b⟩ (m.e sh))) := by
  have HR : Hid _ := hr
  clear hr
  generalize Rule.act n m.at_ ⟨6, a, b⟩ (m.e sh) = RR at *
  have k1 := h.at0
  have k2 := h.at1
  have k3 := h.few
  have wn : IntKind.i64.wrap (m.at_ + 1) = m.at_ + 1 := IntWalk.i64_in _ (by omega)
  have c19 := h.mac.at_
  have H0 : Hid _ := h
  have O0 : Hid (OpBox (w.alloc (.cells #[.int .i64 (6), .int .i64 (a), .int .i64 (b)] 23)) w.heap.size (6) (a) (b)) := Three.new _ _ _ _ _
  have lp := h.mac.lt
  clear h
  go_enter Try.func40, Try.ntmps40
  go_wp2_with fail
  have H1 : Hid (St B p (w.alloc (.cells #[.int .i64 (6), .int .i64 (a), .int .i64 (b)] 23)) m sh n ∧ Only [] w (w.alloc (.cells #[.int .i64 (6), .int .i64 (a), .int .i64 (b)] 23)) ∧ OpBox (w.alloc (.cells #[.int .i64 (6), .int .i64 (a), .int .i64 (b)] 23)) w.heap.size (6) (a) (b)) := ⟨H0.out.only ((Only.refl _ _).alloc _), (Only.refl _ _).alloc _, O0.out⟩
  generalize w.alloc (.cells #[.int .i64 (6), .int .i64 (a), .int .i64 (b)] 23) = W at *
  generalize w.heap.size = q at *
  clear H0 c19 O0
  have HV : Hid (∀ y, Only [] W.drew y → St B p y m sh n ∧ OpBox y q (6) (a) (b)) := fun y hy => ⟨H1.out.1.only ((only_drew W).trans hy), Three.only H1.out.2.2 ((only_drew W).trans hy) (by simp)⟩
  refine wp_region_fate (fun chain y => chain = [{ v := thrownV 2 m.at_, recovered := false }] ∧ Only [] w y) (by rintro chain a' y hd ⟨rfl, ho⟩; exact ⟨hd, doPost_fault HR.out rfl ho⟩) 10 (Only []) (Only.refl _) Only.trans [(0, .pointer (some ⟨p, 0, none⟩)), (3, .pointer (some ⟨q, 0, none⟩))] (by intro p hp; simp only [List.mem_cons, List.not_mem_nil, or_false] at hp; rcases hp with rfl | rfl <;> rfl) (by kernel_rfl) (by kernel_rfl) (by decide) (by kernel_rfl) (by kernel_rfl) ?_
  simp only [List.take_succ_cons, List.take_zero, List.drop_succ_cons, List.drop_zero]
  apply rd_val
  · first | rfl | exact ⟨by kernel_rfl, rfl⟩
  · intro z y hT hf
    obtain ⟨b0, b1, b2⟩ := And.intro (Three.cell0 (HV.out y hT).2) (And.intro (Three.cell1 (HV.out y hT).2) (Three.cell2 (HV.out y hT).2))
    simp at hf
    go_simp
    try rfl
  apply rd_val
  · first | rfl | exact ⟨by kernel_rfl, rfl⟩
  · intro z y hT hf
    obtain ⟨b0, b1, b2⟩ := And.intro (Three.cell0 (HV.out y hT).2) (And.intro (Three.cell1 (HV.out y hT).2) (Three.cell2 (HV.out y hT).2))
    simp at hf
    go_simp
    try rfl
  apply rd_val
  · first | rfl | exact ⟨by kernel_rfl, rfl⟩
  · intro z y hT hf
    obtain ⟨b0, b1, b2⟩ := And.intro (Three.cell0 (HV.out y hT).2) (And.intro (Three.cell1 (HV.out y hT).2) (Three.cell2 (HV.out y hT).2))
    simp at hf
    go_simp
    try rfl
  refine rd_die (by first | rfl | exact ⟨by kernel_rfl, rfl⟩) (fun z y hT hf => ?_) ?_
  · simp at hf
    go_simp
    refine (reg_no (HV.out y hT).1.mac a ha).mono ?_
    rintro e y2 ⟨rfl, rfl⟩
    exact ⟨_, rfl, rfl, H1.out.2.1.trans ((only_drew W).trans hT)⟩
  apply rd_val
  · first | rfl | exact ⟨by kernel_rfl, rfl⟩
  · intro z y hT hf
    obtain ⟨b0, b1, b2⟩ := And.intro (Three.cell0 (HV.out y hT).2) (And.intro (Three.cell1 (HV.out y hT).2) (Three.cell2 (HV.out y hT).2))
    simp at hf
    go_simp
    try rfl
  apply rd_val
  · first | rfl | exact ⟨by kernel_rfl, rfl⟩
  · intro z y hT hf
    obtain ⟨b0, b1, b2⟩ := And.intro (Three.cell0 (HV.out y hT).2) (And.intro (Three.cell1 (HV.out y hT).2) (Three.cell2 (HV.out y hT).2))
    simp at hf
    go_simp
    try rfl
  apply rd_val
  · first | rfl | exact ⟨by kernel_rfl, rfl⟩
  · intro z y hT hf
    obtain ⟨b0, b1, b2⟩ := And.intro (Three.cell0 (HV.out y hT).2) (And.intro (Three.cell1 (HV.out y hT).2) (Three.cell2 (HV.out y hT).2))
    simp at hf
    go_simp
    try rfl
  refine rd_not (by first | rfl | exact ⟨by kernel_rfl, rfl⟩) (fun z y hT hf => (by simp at hf)) ?_
  refine rd_not (by first | rfl | exact ⟨by kernel_rfl, rfl⟩) (fun z y hT hf => (by simp at hf)) ?_
  refine rd_not (by first | rfl | exact ⟨by kernel_rfl, rfl⟩) (fun z y hT hf => (by simp at hf)) ?_
  intro w2 hy
  simp only [FinA, Sp.R, forall_eq]
  first | exact False.elim | (intro v hv; exact hv.elim) | (intro v hv v2 hv2; exact hv2.elim) | (intro v hv; exact fun _ h => h.elim)
set_option maxRecDepth 100000 in
set_option maxHeartbeats 1000000 in
theorem do_6b {B p n : Nat} {w : World} {m : Mch} {sh : List Bd} (h : St B p w m sh n) (i : Nat) (b : Int) (hi : i < 4) (hb : Rule.is b = false) (hr : Rule.act n m.at_ ⟨6, (i : Nat), b⟩ (m.e sh) = .fault 2) : Calls Try.prog 40 #[.pointer (some ⟨p, 0, none⟩), .agg #[.int .i64 (6), .int .i64 ((i : Nat)), .int .i64 (b)]] w (DoPost B p w m (Rule.act n m.at_ ⟨6, (i : Nat), b⟩ (m.e sh))) := by
  have HR : Hid _ := hr
  clear hr
  generalize Rule.act n m.at_ ⟨6, (i : Nat), b⟩ (m.e sh) = RR at *
  have k1 := h.at0
  have k2 := h.at1
  have k3 := h.few
  have wn : IntKind.i64.wrap (m.at_ + 1) = m.at_ + 1 := IntWalk.i64_in _ (by omega)
  have c19 := h.mac.at_
  have H0 : Hid _ := h
  have O0 : Hid (OpBox (w.alloc (.cells #[.int .i64 (6), .int .i64 ((i : Nat)), .int .i64 (b)] 23)) w.heap.size (6) ((i : Nat)) (b)) := Three.new _ _ _ _ _
  have lp := h.mac.lt
  clear h
  go_enter Try.func40, Try.ntmps40
  go_wp2_with fail
  have H1 : Hid (St B p (w.alloc (.cells #[.int .i64 (6), .int .i64 ((i : Nat)), .int .i64 (b)] 23)) m sh n ∧ Only [] w (w.alloc (.cells #[.int .i64 (6), .int .i64 ((i : Nat)), .int .i64 (b)] 23)) ∧ OpBox (w.alloc (.cells #[.int .i64 (6), .int .i64 ((i : Nat)), .int .i64 (b)] 23)) w.heap.size (6) ((i : Nat)) (b)) := ⟨H0.out.only ((Only.refl _ _).alloc _), (Only.refl _ _).alloc _, O0.out⟩
  generalize w.alloc (.cells #[.int .i64 (6), .int .i64 ((i : Nat)), .int .i64 (b)] 23) = W at *
  generalize w.heap.size = q at *
  clear H0 c19 O0
  have HV : Hid (∀ y, Only [] W.drew y → St B p y m sh n ∧ OpBox y q (6) ((i : Nat)) (b)) := fun y hy => ⟨H1.out.1.only ((only_drew W).trans hy), Three.only H1.out.2.2 ((only_drew W).trans hy) (by simp)⟩
  refine wp_region_fate (fun chain y => chain = [{ v := thrownV 2 m.at_, recovered := false }] ∧ Only [] w y) (by rintro chain a' y hd ⟨rfl, ho⟩; exact ⟨hd, doPost_fault HR.out rfl ho⟩) 10 (Only []) (Only.refl _) Only.trans [(0, .pointer (some ⟨p, 0, none⟩)), (3, .pointer (some ⟨q, 0, none⟩))] (by intro p hp; simp only [List.mem_cons, List.not_mem_nil, or_false] at hp; rcases hp with rfl | rfl <;> rfl) (by kernel_rfl) (by kernel_rfl) (by decide) (by kernel_rfl) (by kernel_rfl) ?_
  simp only [List.take_succ_cons, List.take_zero, List.drop_succ_cons, List.drop_zero]
  apply rd_val
  · first | rfl | exact ⟨by kernel_rfl, rfl⟩
  · intro z y hT hf
    obtain ⟨b0, b1, b2⟩ := And.intro (Three.cell0 (HV.out y hT).2) (And.intro (Three.cell1 (HV.out y hT).2) (Three.cell2 (HV.out y hT).2))
    simp at hf
    go_simp
    try rfl
  apply rd_val
  · first | rfl | exact ⟨by kernel_rfl, rfl⟩
  · intro z y hT hf
    obtain ⟨b0, b1, b2⟩ := And.intro (Three.cell0 (HV.out y hT).2) (And.intro (Three.cell1 (HV.out y hT).2) (Three.cell2 (HV.out y hT).2))
    simp at hf
    go_simp
    try rfl
  apply rd_val
  · first | rfl | exact ⟨by kernel_rfl, rfl⟩
  · intro z y hT hf
    obtain ⟨b0, b1, b2⟩ := And.intro (Three.cell0 (HV.out y hT).2) (And.intro (Three.cell1 (HV.out y hT).2) (Three.cell2 (HV.out y hT).2))
    simp at hf
    go_simp
    try rfl
  refine rd_eff (fun _ v => v = .pointer (some ⟨p, 8 + i, none⟩)) (by first | rfl | exact ⟨by kernel_rfl, rfl⟩) (fun _ _ _ _ h => h) (fun z y hT hf => ?_) ?_
  · simp at hf
    go_simp
    refine (reg_yes (HV.out y hT).1.mac i hi).mono ?_
    rintro e y2 ⟨rfl, rfl⟩
    exact ⟨_, rfl, rfl, Only.refl _ _⟩
  apply rd_val
  · first | rfl | exact ⟨by kernel_rfl, rfl⟩
  · intro z y hT hf
    obtain ⟨b0, b1, b2⟩ := And.intro (Three.cell0 (HV.out y hT).2) (And.intro (Three.cell1 (HV.out y hT).2) (Three.cell2 (HV.out y hT).2))
    simp at hf
    go_simp
    try rfl
  apply rd_val
  · first | rfl | exact ⟨by kernel_rfl, rfl⟩
  · intro z y hT hf
    obtain ⟨b0, b1, b2⟩ := And.intro (Three.cell0 (HV.out y hT).2) (And.intro (Three.cell1 (HV.out y hT).2) (Three.cell2 (HV.out y hT).2))
    simp at hf
    go_simp
    try rfl
  apply rd_val
  · first | rfl | exact ⟨by kernel_rfl, rfl⟩
  · intro z y hT hf
    obtain ⟨b0, b1, b2⟩ := And.intro (Three.cell0 (HV.out y hT).2) (And.intro (Three.cell1 (HV.out y hT).2) (Three.cell2 (HV.out y hT).2))
    simp at hf
    go_simp
    try rfl
  refine rd_die (by first | rfl | exact ⟨by kernel_rfl, rfl⟩) (fun z y hT hf => ?_) ?_
  · simp at hf
    go_simp
    refine (reg_no (HV.out y hT).1.mac b hb).mono ?_
    rintro e y2 ⟨rfl, rfl⟩
    exact ⟨_, rfl, rfl, H1.out.2.1.trans ((only_drew W).trans hT)⟩
  refine rd_not (by first | rfl | exact ⟨by kernel_rfl, rfl⟩) (fun z y hT hf => (by simp at hf)) ?_
  refine rd_not (by first | rfl | exact ⟨by kernel_rfl, rfl⟩) (fun z y hT hf => (by simp at hf)) ?_
  intro w2 hy
  simp only [FinA, Sp.R, forall_eq]
  first | exact False.elim | (intro v hv; exact hv.elim) | (intro v hv v2 hv2; exact hv2.elim) | (intro v hv; exact fun _ h => h.elim)
set_option maxRecDepth 100000 in
set_option maxHeartbeats 1000000 in
theorem do_6z {B p n : Nat} {w : World} {m : Mch} {sh : List Bd} (h : St B p w m sh n) (i j : Nat) (hi : i < 4) (hj : j < 4) (h0 : Rule.reg m.b j = 0) (hr : Rule.act n m.at_ ⟨6, (i : Nat), (j : Nat)⟩ (m.e sh) = .fault 1) : Calls Try.prog 40 #[.pointer (some ⟨p, 0, none⟩), .agg #[.int .i64 (6), .int .i64 ((i : Nat)), .int .i64 ((j : Nat))]] w (DoPost B p w m (Rule.act n m.at_ ⟨6, (i : Nat), (j : Nat)⟩ (m.e sh))) := by
  have HR : Hid _ := hr
  clear hr
  generalize Rule.act n m.at_ ⟨6, (i : Nat), (j : Nat)⟩ (m.e sh) = RR at *
  have k1 := h.at0
  have k2 := h.at1
  have k3 := h.few
  have wn : IntKind.i64.wrap (m.at_ + 1) = m.at_ + 1 := IntWalk.i64_in _ (by omega)
  have c19 := h.mac.at_
  have H0 : Hid _ := h
  have O0 : Hid (OpBox (w.alloc (.cells #[.int .i64 (6), .int .i64 ((i : Nat)), .int .i64 ((j : Nat))] 23)) w.heap.size (6) ((i : Nat)) ((j : Nat))) := Three.new _ _ _ _ _
  have lp := h.mac.lt
  clear h
  go_enter Try.func40, Try.ntmps40
  go_wp2_with fail
  have H1 : Hid (St B p (w.alloc (.cells #[.int .i64 (6), .int .i64 ((i : Nat)), .int .i64 ((j : Nat))] 23)) m sh n ∧ Only [] w (w.alloc (.cells #[.int .i64 (6), .int .i64 ((i : Nat)), .int .i64 ((j : Nat))] 23)) ∧ OpBox (w.alloc (.cells #[.int .i64 (6), .int .i64 ((i : Nat)), .int .i64 ((j : Nat))] 23)) w.heap.size (6) ((i : Nat)) ((j : Nat))) := ⟨H0.out.only ((Only.refl _ _).alloc _), (Only.refl _ _).alloc _, O0.out⟩
  generalize w.alloc (.cells #[.int .i64 (6), .int .i64 ((i : Nat)), .int .i64 ((j : Nat))] 23) = W at *
  generalize w.heap.size = q at *
  clear H0 c19 O0
  have HV : Hid (∀ y, Only [] W.drew y → St B p y m sh n ∧ OpBox y q (6) ((i : Nat)) ((j : Nat))) := fun y hy => ⟨H1.out.1.only ((only_drew W).trans hy), Three.only H1.out.2.2 ((only_drew W).trans hy) (by simp)⟩
  refine wp_region_free 10 (Only []) (Only.refl _) Only.trans [(0, .pointer (some ⟨p, 0, none⟩)), (3, .pointer (some ⟨q, 0, none⟩))] (by intro p hp; simp only [List.mem_cons, List.not_mem_nil, or_false] at hp; rcases hp with rfl | rfl <;> rfl) (by kernel_rfl) (by kernel_rfl) (by decide) (by kernel_rfl) (by kernel_rfl) ?_
  simp only [List.take_succ_cons, List.take_zero, List.drop_succ_cons, List.drop_zero]
  apply rf_val
  · first | rfl | exact ⟨by kernel_rfl, rfl⟩
  · intro z y hT hf
    obtain ⟨b0, b1, b2⟩ := And.intro (Three.cell0 (HV.out y hT).2) (And.intro (Three.cell1 (HV.out y hT).2) (Three.cell2 (HV.out y hT).2))
    simp at hf
    go_simp
    try rfl
  apply rf_val
  · first | rfl | exact ⟨by kernel_rfl, rfl⟩
  · intro z y hT hf
    obtain ⟨b0, b1, b2⟩ := And.intro (Three.cell0 (HV.out y hT).2) (And.intro (Three.cell1 (HV.out y hT).2) (Three.cell2 (HV.out y hT).2))
    simp at hf
    go_simp
    try rfl
  apply rf_val
  · first | rfl | exact ⟨by kernel_rfl, rfl⟩
  · intro z y hT hf
    obtain ⟨b0, b1, b2⟩ := And.intro (Three.cell0 (HV.out y hT).2) (And.intro (Three.cell1 (HV.out y hT).2) (Three.cell2 (HV.out y hT).2))
    simp at hf
    go_simp
    try rfl
  refine rf_eff (fun _ v => v = .pointer (some ⟨p, 8 + i, none⟩)) (by first | rfl | exact ⟨by kernel_rfl, rfl⟩) (fun _ _ _ _ h => h) (fun z y hT hf => ?_) ?_
  · simp at hf
    go_simp
    refine (reg_yes (HV.out y hT).1.mac i hi).mono ?_
    rintro e y2 ⟨rfl, rfl⟩
    exact ⟨_, rfl, rfl, Only.refl _ _⟩
  apply rf_val
  · first | rfl | exact ⟨by kernel_rfl, rfl⟩
  · intro z y hT hf
    obtain ⟨b0, b1, b2⟩ := And.intro (Three.cell0 (HV.out y hT).2) (And.intro (Three.cell1 (HV.out y hT).2) (Three.cell2 (HV.out y hT).2))
    simp at hf
    go_simp
    try rfl
  apply rf_val
  · first | rfl | exact ⟨by kernel_rfl, rfl⟩
  · intro z y hT hf
    obtain ⟨b0, b1, b2⟩ := And.intro (Three.cell0 (HV.out y hT).2) (And.intro (Three.cell1 (HV.out y hT).2) (Three.cell2 (HV.out y hT).2))
    simp at hf
    go_simp
    try rfl
  apply rf_val
  · first | rfl | exact ⟨by kernel_rfl, rfl⟩
  · intro z y hT hf
    obtain ⟨b0, b1, b2⟩ := And.intro (Three.cell0 (HV.out y hT).2) (And.intro (Three.cell1 (HV.out y hT).2) (Three.cell2 (HV.out y hT).2))
    simp at hf
    go_simp
    try rfl
  refine rf_eff (fun _ v => v = .pointer (some ⟨p, 8 + j, none⟩)) (by first | rfl | exact ⟨by kernel_rfl, rfl⟩) (fun _ _ _ _ h => h) (fun z y hT hf => ?_) ?_
  · simp at hf
    go_simp
    refine (reg_yes (HV.out y hT).1.mac j hj).mono ?_
    rintro e y2 ⟨rfl, rfl⟩
    exact ⟨_, rfl, rfl, Only.refl _ _⟩
  apply rf_val
  · first | rfl | exact ⟨by kernel_rfl, rfl⟩
  · intro z y hT hf
    obtain ⟨b0, b1, b2⟩ := And.intro (Three.cell0 (HV.out y hT).2) (And.intro (Three.cell1 (HV.out y hT).2) (Three.cell2 (HV.out y hT).2))
    simp at hf
    go_simp
    try rfl
  apply rf_val
  · first | rfl | exact ⟨by kernel_rfl, rfl⟩
  · intro z y hT hf
    obtain ⟨b0, b1, b2⟩ := And.intro (Three.cell0 (HV.out y hT).2) (And.intro (Three.cell1 (HV.out y hT).2) (Three.cell2 (HV.out y hT).2))
    simp at hf
    go_simp
    try rfl
  intro w2 hy
  simp only [FinA, Sp.R, forall_eq]
  simp only [Act.put, List.setIfInBounds_toArray, List.set_cons_succ, List.set_cons_zero]
  have H2 : Hid (St B p w2 m sh n ∧ Only [] w w2 ∧ OpBox w2 q (6) ((i : Nat)) ((j : Nat))) := ⟨(HV.out w2 hy).1, H1.out.2.1.trans ((only_drew W).trans hy), (HV.out w2 hy).2⟩
  clear hy HV H1
  go_wp2_with fail
  have H1 : Hid _ := H2.out
  clear H2
  have HV : Hid (∀ y, Only [] w2.drew y → St B p y m sh n ∧ OpBox y q (6) ((i : Nat)) ((j : Nat))) := fun y hy => ⟨H1.out.1.only ((only_drew w2).trans hy), Three.only H1.out.2.2 ((only_drew w2).trans hy) (by simp)⟩
  refine wp_region_fate (fun chain y => chain = [{ v := thrownV 1 m.at_, recovered := false }] ∧ Only [] w y) (by rintro chain a' y hd ⟨rfl, ho⟩; exact ⟨hd, doPost_fault HR.out rfl ho⟩) 14 (Only []) (Only.refl _) Only.trans [(0, .pointer (some ⟨p, 0, none⟩)), (3, .pointer (some ⟨q, 0, none⟩)), (6, .pointer (some ⟨p, 8 + i, none⟩)), (7, .pointer (some ⟨p, 8 + j, none⟩))] (by intro p hp; simp only [List.mem_cons, List.not_mem_nil, or_false] at hp; rcases hp with rfl | rfl | rfl | rfl <;> rfl) (by kernel_rfl) (by kernel_rfl) (by decide) (by kernel_rfl) (by kernel_rfl) ?_
  simp only [List.take_succ_cons, List.take_zero, List.drop_succ_cons, List.drop_zero]
  apply rd_val
  · first | rfl | exact ⟨by kernel_rfl, rfl⟩
  · intro z y hT hf
    obtain ⟨b0, b1, b2⟩ := And.intro (Three.cell0 (HV.out y hT).2) (And.intro (Three.cell1 (HV.out y hT).2) (Three.cell2 (HV.out y hT).2))
    have cm0 := (HV.out y hT).1.mac.mem i hi
    have cm1 := (HV.out y hT).1.mac.mem j hj
    simp at hf
    go_simp
    try rfl
  apply rd_val
  · first | rfl | exact ⟨by kernel_rfl, rfl⟩
  · intro z y hT hf
    obtain ⟨b0, b1, b2⟩ := And.intro (Three.cell0 (HV.out y hT).2) (And.intro (Three.cell1 (HV.out y hT).2) (Three.cell2 (HV.out y hT).2))
    have cm0 := (HV.out y hT).1.mac.mem i hi
    have cm1 := (HV.out y hT).1.mac.mem j hj
    simp at hf
    go_simp
    try rfl
  apply rd_val
  · first | rfl | exact ⟨by kernel_rfl, rfl⟩
  · intro z y hT hf
    obtain ⟨b0, b1, b2⟩ := And.intro (Three.cell0 (HV.out y hT).2) (And.intro (Three.cell1 (HV.out y hT).2) (Three.cell2 (HV.out y hT).2))
    have cm0 := (HV.out y hT).1.mac.mem i hi
    have cm1 := (HV.out y hT).1.mac.mem j hj
    simp at hf
    go_simp
    try rfl
  apply rd_val
  · first | rfl | exact ⟨by kernel_rfl, rfl⟩
  · intro z y hT hf
    obtain ⟨b0, b1, b2⟩ := And.intro (Three.cell0 (HV.out y hT).2) (And.intro (Three.cell1 (HV.out y hT).2) (Three.cell2 (HV.out y hT).2))
    have cm0 := (HV.out y hT).1.mac.mem i hi
    have cm1 := (HV.out y hT).1.mac.mem j hj
    simp at hf
    go_simp
    try rfl
  apply rd_val
  · first | rfl | exact ⟨by kernel_rfl, rfl⟩
  · intro z y hT hf
    obtain ⟨b0, b1, b2⟩ := And.intro (Three.cell0 (HV.out y hT).2) (And.intro (Three.cell1 (HV.out y hT).2) (Three.cell2 (HV.out y hT).2))
    have cm0 := (HV.out y hT).1.mac.mem i hi
    have cm1 := (HV.out y hT).1.mac.mem j hj
    simp at hf
    go_simp
    try rfl
  apply rd_val
  · first | rfl | exact ⟨by kernel_rfl, rfl⟩
  · intro z y hT hf
    obtain ⟨b0, b1, b2⟩ := And.intro (Three.cell0 (HV.out y hT).2) (And.intro (Three.cell1 (HV.out y hT).2) (Three.cell2 (HV.out y hT).2))
    have cm0 := (HV.out y hT).1.mac.mem i hi
    have cm1 := (HV.out y hT).1.mac.mem j hj
    simp at hf
    go_simp
    try rfl
  apply rd_val
  · first | rfl | exact ⟨by kernel_rfl, rfl⟩
  · intro z y hT hf
    obtain ⟨b0, b1, b2⟩ := And.intro (Three.cell0 (HV.out y hT).2) (And.intro (Three.cell1 (HV.out y hT).2) (Three.cell2 (HV.out y hT).2))
    have cm0 := (HV.out y hT).1.mac.mem i hi
    have cm1 := (HV.out y hT).1.mac.mem j hj
    simp at hf
    go_simp
    try rfl
  apply rd_val
  · first | rfl | exact ⟨by kernel_rfl, rfl⟩
  · intro z y hT hf
    obtain ⟨b0, b1, b2⟩ := And.intro (Three.cell0 (HV.out y hT).2) (And.intro (Three.cell1 (HV.out y hT).2) (Three.cell2 (HV.out y hT).2))
    have cm0 := (HV.out y hT).1.mac.mem i hi
    have cm1 := (HV.out y hT).1.mac.mem j hj
    simp at hf
    go_simp
    try rfl
  apply rd_val
  · first | rfl | exact ⟨by kernel_rfl, rfl⟩
  · intro z y hT hf
    obtain ⟨b0, b1, b2⟩ := And.intro (Three.cell0 (HV.out y hT).2) (And.intro (Three.cell1 (HV.out y hT).2) (Three.cell2 (HV.out y hT).2))
    have cm0 := (HV.out y hT).1.mac.mem i hi
    have cm1 := (HV.out y hT).1.mac.mem j hj
    simp at hf
    go_simp
    try rfl
  apply rd_val
  · first | rfl | exact ⟨by kernel_rfl, rfl⟩
  · intro z y hT hf
    obtain ⟨b0, b1, b2⟩ := And.intro (Three.cell0 (HV.out y hT).2) (And.intro (Three.cell1 (HV.out y hT).2) (Three.cell2 (HV.out y hT).2))
    have cm0 := (HV.out y hT).1.mac.mem i hi
    have cm1 := (HV.out y hT).1.mac.mem j hj
    simp at hf
    go_simp
    try rfl
  refine rd_die (by first | rfl | exact ⟨by kernel_rfl, rfl⟩) (fun z y hT hf => ?_) ?_
  · simp at hf
    go_simp
    refine (reckon_0 (HV.out y hT).1.mac _).mono ?_
    rintro e y2 ⟨rfl, rfl⟩
    exact ⟨_, rfl, rfl, H1.out.2.1.trans ((only_drew w2).trans hT)⟩
  refine rd_not (by first | rfl | exact ⟨by kernel_rfl, rfl⟩) (fun z y hT hf => (by simp at hf)) ?_
  refine rd_not (by first | rfl | exact ⟨by kernel_rfl, rfl⟩) (fun z y hT hf => (by simp at hf)) ?_
  refine rd_not (by first | rfl | exact ⟨by kernel_rfl, rfl⟩) (fun z y hT hf => (by simp at hf)) ?_
  intro w3 hw
  simp only [FinA, Sp.R, forall_eq]
  first | exact False.elim | (intro v hv; exact hv.elim) | (intro v hv v2 hv2; exact hv2.elim) | (intro v hv; exact fun _ h => h.elim)
end Go.Proofs.Ytnicjbllkdpgcaa

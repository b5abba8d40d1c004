/- Package rule: Set. Made by tools/ruled.py. -/
import Derived.Test.YtnicjbllkdpgcaaRuleD0
namespace Go.Proofs.Ytnicjbllkdpgcaa
open Go.RowKit
set_option linter.unusedVariables false
set_option maxRecDepth 100000 in
set_option maxHeartbeats 1000000 in
theorem do_1y {B p n : Nat} {w : World} {m : Mch} {sh : List Bd} (h : St B p w m sh n) (i : Nat) (hi : i < 4) (b : Int) (hr : Rule.act n m.at_ ⟨1, (i : Nat), b⟩ (m.e sh) = .next { m.e sh with b := Rule.setr m.b i (Rule.clamp b) } (m.at_ + 1)) : Calls Try.prog 40 #[.pointer (some ⟨p, 0, none⟩), .agg #[.int .i64 (1), .int .i64 ((i : Nat)), .int .i64 (b)]] w (DoPost B p w m (Rule.act n m.at_ ⟨1, (i : Nat), b⟩ (m.e sh))) := by
  have HR : Hid _ := hr
  clear hr
  generalize Rule.act n m.at_ ⟨1, (i : Nat), b⟩ (m.e sh) = RR at *
  have k1 := h.at0
  have k2 := h.at1
  have k3 := h.few
  have wn : IntKind.i64.wrap (m.at_ + 1) = m.at_ + 1 := IntWalk.i64_in _ (by omega)
  have c19 := h.mac.at_
  have H0 : Hid _ := h
  have O0 : Hid (OpBox (w.alloc (.cells #[.int .i64 (1), .int .i64 ((i : Nat)), .int .i64 (b)] 23)) w.heap.size (1) ((i : Nat)) (b)) := Three.new _ _ _ _ _
  have lp := h.mac.lt
  clear h
  go_enter Try.func40, Try.ntmps40
  go_wp2_with fail
  have H1 : Hid (St B p (w.alloc (.cells #[.int .i64 (1), .int .i64 ((i : Nat)), .int .i64 (b)] 23)) m sh n ∧ Only [] w (w.alloc (.cells #[.int .i64 (1), .int .i64 ((i : Nat)), .int .i64 (b)] 23)) ∧ OpBox (w.alloc (.cells #[.int .i64 (1), .int .i64 ((i : Nat)), .int .i64 (b)] 23)) w.heap.size (1) ((i : Nat)) (b)) := ⟨H0.out.only ((Only.refl _ _).alloc _), (Only.refl _ _).alloc _, O0.out⟩
  generalize w.alloc (.cells #[.int .i64 (1), .int .i64 ((i : Nat)), .int .i64 (b)] 23) = W at *
  generalize w.heap.size = q at *
  clear H0 c19 O0
  have HV : Hid (∀ y, Only [] W.drew y → St B p y m sh n ∧ OpBox y q (1) ((i : Nat)) (b)) := fun y hy => ⟨H1.out.1.only ((only_drew W).trans hy), Three.only H1.out.2.2 ((only_drew W).trans hy) (by simp)⟩
  refine wp_region_free 8 (Only []) (Only.refl _) Only.trans [(0, .pointer (some ⟨p, 0, none⟩)), (3, .pointer (some ⟨q, 0, none⟩))] (by intro p hp; simp only [List.mem_cons, List.not_mem_nil, or_false] at hp; rcases hp with rfl | rfl <;> rfl) (by kernel_rfl) (by kernel_rfl) (by decide) (by kernel_rfl) (by kernel_rfl) ?_
  simp only [List.take_succ_cons, List.take_zero, List.drop_succ_cons, List.drop_zero]
  apply rf_val
  · first | rfl | exact ⟨by kernel_rfl, rfl⟩
  · intro z y hT hf
    obtain ⟨b0, b1, b2⟩ := And.intro (Three.cell0 (HV.out y hT).2) (And.intro (Three.cell1 (HV.out y hT).2) (Three.cell2 (HV.out y hT).2))
    simp at hf
    go_simp
    try rfl
  apply rf_val
  · first | rfl | exact ⟨by kernel_rfl, rfl⟩
  · intro z y hT hf
    obtain ⟨b0, b1, b2⟩ := And.intro (Three.cell0 (HV.out y hT).2) (And.intro (Three.cell1 (HV.out y hT).2) (Three.cell2 (HV.out y hT).2))
    simp at hf
    go_simp
    try rfl
  apply rf_val
  · first | rfl | exact ⟨by kernel_rfl, rfl⟩
  · intro z y hT hf
    obtain ⟨b0, b1, b2⟩ := And.intro (Three.cell0 (HV.out y hT).2) (And.intro (Three.cell1 (HV.out y hT).2) (Three.cell2 (HV.out y hT).2))
    simp at hf
    go_simp
    try rfl
  refine rf_eff (fun _ v => v = .pointer (some ⟨p, 8 + i, none⟩)) (by first | rfl | exact ⟨by kernel_rfl, rfl⟩) (fun _ _ _ _ h => h) (fun z y hT hf => ?_) ?_
  · simp at hf
    go_simp
    refine (reg_yes (HV.out y hT).1.mac i hi).mono ?_
    rintro e y2 ⟨rfl, rfl⟩
    exact ⟨_, rfl, rfl, Only.refl _ _⟩
  apply rf_val
  · first | rfl | exact ⟨by kernel_rfl, rfl⟩
  · intro z y hT hf
    obtain ⟨b0, b1, b2⟩ := And.intro (Three.cell0 (HV.out y hT).2) (And.intro (Three.cell1 (HV.out y hT).2) (Three.cell2 (HV.out y hT).2))
    simp at hf
    go_simp
    try rfl
  apply rf_val
  · first | rfl | exact ⟨by kernel_rfl, rfl⟩
  · intro z y hT hf
    obtain ⟨b0, b1, b2⟩ := And.intro (Three.cell0 (HV.out y hT).2) (And.intro (Three.cell1 (HV.out y hT).2) (Three.cell2 (HV.out y hT).2))
    simp at hf
    go_simp
    try rfl
  refine rf_eff (fun _ v => v = .int .i64 (Rule.clamp b)) (by first | rfl | exact ⟨by kernel_rfl, rfl⟩) (fun _ _ _ _ h => h) (fun z y hT hf => ?_) ?_
  · simp at hf
    go_simp
    refine (asReg_any _ _).mono ?_
    rintro e y2 ⟨rfl, rfl⟩
    exact ⟨_, rfl, rfl, Only.refl _ _⟩
  apply rf_val
  · first | rfl | exact ⟨by kernel_rfl, rfl⟩
  · intro z y hT hf
    obtain ⟨b0, b1, b2⟩ := And.intro (Three.cell0 (HV.out y hT).2) (And.intro (Three.cell1 (HV.out y hT).2) (Three.cell2 (HV.out y hT).2))
    simp at hf
    go_simp
    try rfl
  intro w2 hy
  simp only [FinA, Sp.R, forall_eq]
  simp only [Act.put, List.setIfInBounds_toArray, List.set_cons_succ, List.set_cons_zero]
  have H2 : Hid (St B p w2 m sh n ∧ Only [] w w2 ∧ OpBox w2 q (1) ((i : Nat)) (b)) := ⟨(HV.out w2 hy).1, H1.out.2.1.trans ((only_drew W).trans hy), (HV.out w2 hy).2⟩
  clear hy HV H1
  have fz := H2.out.1.mac.frozen
  have cm := H2.out.1.mac.mem i hi
  go_wp2_with fail
  go_ret
  exact doPost_own HR.out rfl H2.out.1 H2.out.2.1 (H2.out.1.mac.setr i hi _) ((Only.refl _ _).setCell (by simp) _) rfl
set_option maxRecDepth 100000 in
set_option maxHeartbeats 1000000 in
theorem do_1n {B p n : Nat} {w : World} {m : Mch} {sh : List Bd} (h : St B p w m sh n) (a b : Int) (ha : Rule.is a = false) (hr : Rule.act n m.at_ ⟨1, a, b⟩ (m.e sh) = .fault 2) : Calls Try.prog 40 #[.pointer (some ⟨p, 0, none⟩), .agg #[.int .i64 (1), .int .i64 (a), .int .i64 (b)]] w (DoPost B p w m (Rule.act n m.at_ ⟨1, a, b⟩ (m.e sh))) := by
  have HR : Hid _ := hr
  clear hr
  generalize Rule.act n m.at_ ⟨1, a, b⟩ (m.e sh) = RR at *
  have k1 := h.at0
  have k2 := h.at1
  have k3 := h.few
  have wn : IntKind.i64.wrap (m.at_ + 1) = m.at_ + 1 := IntWalk.i64_in _ (by omega)
  have c19 := h.mac.at_
  have H0 : Hid _ := h
  have O0 : Hid (OpBox (w.alloc (.cells #[.int .i64 (1), .int .i64 (a), .int .i64 (b)] 23)) w.heap.size (1) (a) (b)) := Three.new _ _ _ _ _
  have lp := h.mac.lt
  clear h
  go_enter Try.func40, Try.ntmps40
  go_wp2_with fail
  have H1 : Hid (St B p (w.alloc (.cells #[.int .i64 (1), .int .i64 (a), .int .i64 (b)] 23)) m sh n ∧ Only [] w (w.alloc (.cells #[.int .i64 (1), .int .i64 (a), .int .i64 (b)] 23)) ∧ OpBox (w.alloc (.cells #[.int .i64 (1), .int .i64 (a), .int .i64 (b)] 23)) w.heap.size (1) (a) (b)) := ⟨H0.out.only ((Only.refl _ _).alloc _), (Only.refl _ _).alloc _, O0.out⟩
  generalize w.alloc (.cells #[.int .i64 (1), .int .i64 (a), .int .i64 (b)] 23) = W at *
  generalize w.heap.size = q at *
  clear H0 c19 O0
  have HV : Hid (∀ y, Only [] W.drew y → St B p y m sh n ∧ OpBox y q (1) (a) (b)) := fun y hy => ⟨H1.out.1.only ((only_drew W).trans hy), Three.only H1.out.2.2 ((only_drew W).trans hy) (by simp)⟩
  refine wp_region_fate (fun chain y => chain = [{ v := thrownV 2 m.at_, recovered := false }] ∧ Only [] w y) (by rintro chain a' y hd ⟨rfl, ho⟩; exact ⟨hd, doPost_fault HR.out rfl ho⟩) 9 (Only []) (Only.refl _) Only.trans [(0, .pointer (some ⟨p, 0, none⟩)), (3, .pointer (some ⟨q, 0, none⟩))] (by intro p hp; simp only [List.mem_cons, List.not_mem_nil, or_false] at hp; rcases hp with rfl | rfl <;> rfl) (by kernel_rfl) (by kernel_rfl) (by decide) (by kernel_rfl) (by kernel_rfl) ?_
  simp only [List.take_succ_cons, List.take_zero, List.drop_succ_cons, List.drop_zero]
  apply rd_val
  · first | rfl | exact ⟨by kernel_rfl, rfl⟩
  · intro z y hT hf
    obtain ⟨b0, b1, b2⟩ := And.intro (Three.cell0 (HV.out y hT).2) (And.intro (Three.cell1 (HV.out y hT).2) (Three.cell2 (HV.out y hT).2))
    simp at hf
    go_simp
    try rfl
  apply rd_val
  · first | rfl | exact ⟨by kernel_rfl, rfl⟩
  · intro z y hT hf
    obtain ⟨b0, b1, b2⟩ := And.intro (Three.cell0 (HV.out y hT).2) (And.intro (Three.cell1 (HV.out y hT).2) (Three.cell2 (HV.out y hT).2))
    simp at hf
    go_simp
    try rfl
  apply rd_val
  · first | rfl | exact ⟨by kernel_rfl, rfl⟩
  · intro z y hT hf
    obtain ⟨b0, b1, b2⟩ := And.intro (Three.cell0 (HV.out y hT).2) (And.intro (Three.cell1 (HV.out y hT).2) (Three.cell2 (HV.out y hT).2))
    simp at hf
    go_simp
    try rfl
  refine rd_die (by first | rfl | exact ⟨by kernel_rfl, rfl⟩) (fun z y hT hf => ?_) ?_
  · simp at hf
    go_simp
    refine (reg_no (HV.out y hT).1.mac a ha).mono ?_
    rintro e y2 ⟨rfl, rfl⟩
    exact ⟨_, rfl, rfl, H1.out.2.1.trans ((only_drew W).trans hT)⟩
  apply rd_val
  · first | rfl | exact ⟨by kernel_rfl, rfl⟩
  · intro z y hT hf
    obtain ⟨b0, b1, b2⟩ := And.intro (Three.cell0 (HV.out y hT).2) (And.intro (Three.cell1 (HV.out y hT).2) (Three.cell2 (HV.out y hT).2))
    simp at hf
    go_simp
    try rfl
  apply rd_val
  · first | rfl | exact ⟨by kernel_rfl, rfl⟩
  · intro z y hT hf
    obtain ⟨b0, b1, b2⟩ := And.intro (Three.cell0 (HV.out y hT).2) (And.intro (Three.cell1 (HV.out y hT).2) (Three.cell2 (HV.out y hT).2))
    simp at hf
    go_simp
    try rfl
  refine rd_not (by first | rfl | exact ⟨by kernel_rfl, rfl⟩) (fun z y hT hf => (by simp at hf)) ?_
  refine rd_not (by first | rfl | exact ⟨by kernel_rfl, rfl⟩) (fun z y hT hf => (by simp at hf)) ?_
  refine rd_not (by first | rfl | exact ⟨by kernel_rfl, rfl⟩) (fun z y hT hf => (by simp at hf)) ?_
  intro w2 hy
  simp only [FinA, Sp.R, forall_eq]
  first | exact False.elim | (intro v hv; exact hv.elim) | (intro v hv v2 hv2; exact hv2.elim) | (intro v hv; exact fun _ h => h.elim)
end Go.Proofs.Ytnicjbllkdpgcaa

/- Package rule: Zero, Jump, Stop, no op. Made by tools/ruled.py. -/
import Derived.Test.YtnicjbllkdpgcaaRuleD0
namespace Go.Proofs.Ytnicjbllkdpgcaa
open Go.RowKit
set_option linter.unusedVariables false
set_option maxRecDepth 100000 in
set_option maxHeartbeats 1000000 in
theorem do_9y {B p n : Nat} {w : World} {m : Mch} {sh : List Bd} (h : St B p w m sh n) (i : Nat) (hi : i < 4) (b : Int) (hz : Rule.reg m.b i = 0) (hb : Body.btw b 0 n = true) (hr : Rule.act n m.at_ ⟨9, (i : Nat), b⟩ (m.e sh) = .next (m.e sh) b) : Calls Try.prog 40 #[.pointer (some ⟨p, 0, none⟩), .agg #[.int .i64 (9), .int .i64 ((i : Nat)), .int .i64 (b)]] w (DoPost B p w m (Rule.act n m.at_ ⟨9, (i : Nat), b⟩ (m.e sh))) := by
  have HR : Hid _ := hr
  clear hr
  generalize Rule.act n m.at_ ⟨9, (i : Nat), b⟩ (m.e sh) = RR at *
  have k1 := h.at0
  have k2 := h.at1
  have k3 := h.few
  have wn : IntKind.i64.wrap (m.at_ + 1) = m.at_ + 1 := IntWalk.i64_in _ (by omega)
  have c19 := h.mac.at_
  have H0 : Hid _ := h
  have O0 : Hid (OpBox (w.alloc (.cells #[.int .i64 (9), .int .i64 ((i : Nat)), .int .i64 (b)] 23)) w.heap.size (9) ((i : Nat)) (b)) := Three.new _ _ _ _ _
  have lp := h.mac.lt
  clear h
  go_enter Try.func40, Try.ntmps40
  go_wp2_with fail
  have H1 : Hid (St B p (w.alloc (.cells #[.int .i64 (9), .int .i64 ((i : Nat)), .int .i64 (b)] 23)) m sh n ∧ Only [] w (w.alloc (.cells #[.int .i64 (9), .int .i64 ((i : Nat)), .int .i64 (b)] 23)) ∧ OpBox (w.alloc (.cells #[.int .i64 (9), .int .i64 ((i : Nat)), .int .i64 (b)] 23)) w.heap.size (9) ((i : Nat)) (b)) := ⟨H0.out.only ((Only.refl _ _).alloc _), (Only.refl _ _).alloc _, O0.out⟩
  generalize w.alloc (.cells #[.int .i64 (9), .int .i64 ((i : Nat)), .int .i64 (b)] 23) = W at *
  generalize w.heap.size = q at *
  clear H0 c19 O0
  obtain ⟨oa, ocap, hops⟩ := H1.out.1.ops
  refine (reg_yes H1.out.1.mac i hi).mono ?_
  rintro e w' ⟨rfl, rfl⟩
  have cm := H1.out.1.mac.mem i hi
  rw [hz] at cm
  obtain ⟨b0, b1, b2⟩ := And.intro (Three.cell0 H1.out.2.2) (And.intro (Three.cell1 H1.out.2.2) (Three.cell2 H1.out.2.2))
  go_wp2_with fail
  refine (place_yes H1.out.1.mac oa n ocap hops (by omega) b hb).mono ?_
  rintro e w' ⟨rfl, rfl⟩
  go_wp2_with fail
  go_ret
  refine doPost_own HR.out rfl H1.out.1 H1.out.2.1 H1.out.1.mac (Only.refl _ _) rfl
set_option maxRecDepth 100000 in
set_option maxHeartbeats 1000000 in
theorem do_9f {B p n : Nat} {w : World} {m : Mch} {sh : List Bd} (h : St B p w m sh n) (i : Nat) (hi : i < 4) (b : Int) (hz : Rule.reg m.b i = 0) (hb : Body.btw b 0 n = false) (hr : Rule.act n m.at_ ⟨9, (i : Nat), b⟩ (m.e sh) = .fault 4) : Calls Try.prog 40 #[.pointer (some ⟨p, 0, none⟩), .agg #[.int .i64 (9), .int .i64 ((i : Nat)), .int .i64 (b)]] w (DoPost B p w m (Rule.act n m.at_ ⟨9, (i : Nat), b⟩ (m.e sh))) := by
  have HR : Hid _ := hr
  clear hr
  generalize Rule.act n m.at_ ⟨9, (i : Nat), b⟩ (m.e sh) = RR at *
  have k1 := h.at0
  have k2 := h.at1
  have k3 := h.few
  have wn : IntKind.i64.wrap (m.at_ + 1) = m.at_ + 1 := IntWalk.i64_in _ (by omega)
  have c19 := h.mac.at_
  have H0 : Hid _ := h
  have O0 : Hid (OpBox (w.alloc (.cells #[.int .i64 (9), .int .i64 ((i : Nat)), .int .i64 (b)] 23)) w.heap.size (9) ((i : Nat)) (b)) := Three.new _ _ _ _ _
  have lp := h.mac.lt
  clear h
  go_enter Try.func40, Try.ntmps40
  go_wp2_with fail
  have H1 : Hid (St B p (w.alloc (.cells #[.int .i64 (9), .int .i64 ((i : Nat)), .int .i64 (b)] 23)) m sh n ∧ Only [] w (w.alloc (.cells #[.int .i64 (9), .int .i64 ((i : Nat)), .int .i64 (b)] 23)) ∧ OpBox (w.alloc (.cells #[.int .i64 (9), .int .i64 ((i : Nat)), .int .i64 (b)] 23)) w.heap.size (9) ((i : Nat)) (b)) := ⟨H0.out.only ((Only.refl _ _).alloc _), (Only.refl _ _).alloc _, O0.out⟩
  generalize w.alloc (.cells #[.int .i64 (9), .int .i64 ((i : Nat)), .int .i64 (b)] 23) = W at *
  generalize w.heap.size = q at *
  clear H0 c19 O0
  obtain ⟨oa, ocap, hops⟩ := H1.out.1.ops
  refine (reg_yes H1.out.1.mac i hi).mono ?_
  rintro e w' ⟨rfl, rfl⟩
  have cm := H1.out.1.mac.mem i hi
  rw [hz] at cm
  obtain ⟨b0, b1, b2⟩ := And.intro (Three.cell0 H1.out.2.2) (And.intro (Three.cell1 H1.out.2.2) (Three.cell2 H1.out.2.2))
  go_wp2_with fail
  refine (place_no H1.out.1.mac oa n ocap hops (by omega) b hb).mono ?_
  rintro e w' ⟨rfl, rfl⟩
  exact ⟨rfl, doPost_fault HR.out rfl H1.out.2.1⟩
set_option maxRecDepth 100000 in
set_option maxHeartbeats 1000000 in
theorem do_9n {B p n : Nat} {w : World} {m : Mch} {sh : List Bd} (h : St B p w m sh n) (i : Nat) (hi : i < 4) (b : Int) (hz : ¬ Rule.reg m.b i = 0) (hr : Rule.act n m.at_ ⟨9, (i : Nat), b⟩ (m.e sh) = .next (m.e sh) (m.at_ + 1)) : Calls Try.prog 40 #[.pointer (some ⟨p, 0, none⟩), .agg #[.int .i64 (9), .int .i64 ((i : Nat)), .int .i64 (b)]] w (DoPost B p w m (Rule.act n m.at_ ⟨9, (i : Nat), b⟩ (m.e sh))) := by
  have HR : Hid _ := hr
  clear hr
  generalize Rule.act n m.at_ ⟨9, (i : Nat), b⟩ (m.e sh) = RR at *
  have k1 := h.at0
  have k2 := h.at1
  have k3 := h.few
  have wn : IntKind.i64.wrap (m.at_ + 1) = m.at_ + 1 := IntWalk.i64_in _ (by omega)
  have c19 := h.mac.at_
  have H0 : Hid _ := h
  have O0 : Hid (OpBox (w.alloc (.cells #[.int .i64 (9), .int .i64 ((i : Nat)), .int .i64 (b)] 23)) w.heap.size (9) ((i : Nat)) (b)) := Three.new _ _ _ _ _
  have lp := h.mac.lt
  clear h
  go_enter Try.func40, Try.ntmps40
  go_wp2_with fail
  have H1 : Hid (St B p (w.alloc (.cells #[.int .i64 (9), .int .i64 ((i : Nat)), .int .i64 (b)] 23)) m sh n ∧ Only [] w (w.alloc (.cells #[.int .i64 (9), .int .i64 ((i : Nat)), .int .i64 (b)] 23)) ∧ OpBox (w.alloc (.cells #[.int .i64 (9), .int .i64 ((i : Nat)), .int .i64 (b)] 23)) w.heap.size (9) ((i : Nat)) (b)) := ⟨H0.out.only ((Only.refl _ _).alloc _), (Only.refl _ _).alloc _, O0.out⟩
  generalize w.alloc (.cells #[.int .i64 (9), .int .i64 ((i : Nat)), .int .i64 (b)] 23) = W at *
  generalize w.heap.size = q at *
  clear H0 c19 O0
  refine (reg_yes H1.out.1.mac i hi).mono ?_
  rintro e w' ⟨rfl, rfl⟩
  have cm := H1.out.1.mac.mem i hi
  generalize Rule.reg m.b i = z at *
  have hz2 : (z == 0) = false := by simpa using hz
  obtain ⟨b0, b1, b2⟩ := And.intro (Three.cell0 H1.out.2.2) (And.intro (Three.cell1 H1.out.2.2) (Three.cell2 H1.out.2.2))
  go_wp2_with fail
  go_ret
  refine doPost_own HR.out rfl H1.out.1 H1.out.2.1 H1.out.1.mac (Only.refl _ _) rfl
set_option maxRecDepth 100000 in
set_option maxHeartbeats 1000000 in
theorem do_9a {B p n : Nat} {w : World} {m : Mch} {sh : List Bd} (h : St B p w m sh n) (a b : Int) (ha : Rule.is a = false) (hr : Rule.act n m.at_ ⟨9, a, b⟩ (m.e sh) = .fault 2) : Calls Try.prog 40 #[.pointer (some ⟨p, 0, none⟩), .agg #[.int .i64 (9), .int .i64 (a), .int .i64 (b)]] w (DoPost B p w m (Rule.act n m.at_ ⟨9, a, b⟩ (m.e sh))) := by
  have HR : Hid _ := hr
  clear hr
  generalize Rule.act n m.at_ ⟨9, a, b⟩ (m.e sh) = RR at *
  have k1 := h.at0
  have k2 := h.at1
  have k3 := h.few
  have wn : IntKind.i64.wrap (m.at_ + 1) = m.at_ + 1 := IntWalk.i64_in _ (by omega)
  have c19 := h.mac.at_
  have H0 : Hid _ := h
  have O0 : Hid (OpBox (w.alloc (.cells #[.int .i64 (9), .int .i64 (a), .int .i64 (b)] 23)) w.heap.size (9) (a) (b)) := Three.new _ _ _ _ _
  have lp := h.mac.lt
  clear h
  go_enter Try.func40, Try.ntmps40
  go_wp2_with fail
  have H1 : Hid (St B p (w.alloc (.cells #[.int .i64 (9), .int .i64 (a), .int .i64 (b)] 23)) m sh n ∧ Only [] w (w.alloc (.cells #[.int .i64 (9), .int .i64 (a), .int .i64 (b)] 23)) ∧ OpBox (w.alloc (.cells #[.int .i64 (9), .int .i64 (a), .int .i64 (b)] 23)) w.heap.size (9) (a) (b)) := ⟨H0.out.only ((Only.refl _ _).alloc _), (Only.refl _ _).alloc _, O0.out⟩
  generalize w.alloc (.cells #[.int .i64 (9), .int .i64 (a), .int .i64 (b)] 23) = W at *
  generalize w.heap.size = q at *
  clear H0 c19 O0
  refine (reg_no H1.out.1.mac a ha).mono ?_
  rintro e w' ⟨rfl, rfl⟩
  exact ⟨rfl, doPost_fault HR.out rfl H1.out.2.1⟩
set_option maxRecDepth 100000 in
set_option maxHeartbeats 1000000 in
theorem do_10y {B p n : Nat} {w : World} {m : Mch} {sh : List Bd} (h : St B p w m sh n) (a b : Int) (hb : Body.btw b 0 n = true) (hr : Rule.act n m.at_ ⟨10, a, b⟩ (m.e sh) = .next (m.e sh) b) : Calls Try.prog 40 #[.pointer (some ⟨p, 0, none⟩), .agg #[.int .i64 (10), .int .i64 (a), .int .i64 (b)]] w (DoPost B p w m (Rule.act n m.at_ ⟨10, a, b⟩ (m.e sh))) := by
  have HR : Hid _ := hr
  clear hr
  generalize Rule.act n m.at_ ⟨10, a, b⟩ (m.e sh) = RR at *
  have k1 := h.at0
  have k2 := h.at1
  have k3 := h.few
  have wn : IntKind.i64.wrap (m.at_ + 1) = m.at_ + 1 := IntWalk.i64_in _ (by omega)
  have c19 := h.mac.at_
  have H0 : Hid _ := h
  have O0 : Hid (OpBox (w.alloc (.cells #[.int .i64 (10), .int .i64 (a), .int .i64 (b)] 23)) w.heap.size (10) (a) (b)) := Three.new _ _ _ _ _
  have lp := h.mac.lt
  clear h
  go_enter Try.func40, Try.ntmps40
  go_wp2_with fail
  have H1 : Hid (St B p (w.alloc (.cells #[.int .i64 (10), .int .i64 (a), .int .i64 (b)] 23)) m sh n ∧ Only [] w (w.alloc (.cells #[.int .i64 (10), .int .i64 (a), .int .i64 (b)] 23)) ∧ OpBox (w.alloc (.cells #[.int .i64 (10), .int .i64 (a), .int .i64 (b)] 23)) w.heap.size (10) (a) (b)) := ⟨H0.out.only ((Only.refl _ _).alloc _), (Only.refl _ _).alloc _, O0.out⟩
  generalize w.alloc (.cells #[.int .i64 (10), .int .i64 (a), .int .i64 (b)] 23) = W at *
  generalize w.heap.size = q at *
  clear H0 c19 O0
  obtain ⟨oa, ocap, hops⟩ := H1.out.1.ops
  refine (place_yes H1.out.1.mac oa n ocap hops (by omega) b hb).mono ?_
  rintro e w' ⟨rfl, rfl⟩
  go_wp2_with fail
  go_ret
  refine doPost_own HR.out rfl H1.out.1 H1.out.2.1 H1.out.1.mac (Only.refl _ _) rfl
set_option maxRecDepth 100000 in
set_option maxHeartbeats 1000000 in
theorem do_10f {B p n : Nat} {w : World} {m : Mch} {sh : List Bd} (h : St B p w m sh n) (a b : Int) (hb : Body.btw b 0 n = false) (hr : Rule.act n m.at_ ⟨10, a, b⟩ (m.e sh) = .fault 4) : Calls Try.prog 40 #[.pointer (some ⟨p, 0, none⟩), .agg #[.int .i64 (10), .int .i64 (a), .int .i64 (b)]] w (DoPost B p w m (Rule.act n m.at_ ⟨10, a, b⟩ (m.e sh))) := by
  have HR : Hid _ := hr
  clear hr
  generalize Rule.act n m.at_ ⟨10, a, b⟩ (m.e sh) = RR at *
  have k1 := h.at0
  have k2 := h.at1
  have k3 := h.few
  have wn : IntKind.i64.wrap (m.at_ + 1) = m.at_ + 1 := IntWalk.i64_in _ (by omega)
  have c19 := h.mac.at_
  have H0 : Hid _ := h
  have O0 : Hid (OpBox (w.alloc (.cells #[.int .i64 (10), .int .i64 (a), .int .i64 (b)] 23)) w.heap.size (10) (a) (b)) := Three.new _ _ _ _ _
  have lp := h.mac.lt
  clear h
  go_enter Try.func40, Try.ntmps40
  go_wp2_with fail
  have H1 : Hid (St B p (w.alloc (.cells #[.int .i64 (10), .int .i64 (a), .int .i64 (b)] 23)) m sh n ∧ Only [] w (w.alloc (.cells #[.int .i64 (10), .int .i64 (a), .int .i64 (b)] 23)) ∧ OpBox (w.alloc (.cells #[.int .i64 (10), .int .i64 (a), .int .i64 (b)] 23)) w.heap.size (10) (a) (b)) := ⟨H0.out.only ((Only.refl _ _).alloc _), (Only.refl _ _).alloc _, O0.out⟩
  generalize w.alloc (.cells #[.int .i64 (10), .int .i64 (a), .int .i64 (b)] 23) = W at *
  generalize w.heap.size = q at *
  clear H0 c19 O0
  obtain ⟨oa, ocap, hops⟩ := H1.out.1.ops
  refine (place_no H1.out.1.mac oa n ocap hops (by omega) b hb).mono ?_
  rintro e w' ⟨rfl, rfl⟩
  exact ⟨rfl, doPost_fault HR.out rfl H1.out.2.1⟩
set_option maxRecDepth 100000 in
set_option maxHeartbeats 1000000 in
theorem do_13 {B p n : Nat} {w : World} {m : Mch} {sh : List Bd} (h : St B p w m sh n) (a b : Int) (hr : Rule.act n m.at_ ⟨13, a, b⟩ (m.e sh) = .next (m.e sh) n) : Calls Try.prog 40 #[.pointer (some ⟨p, 0, none⟩), .agg #[.int .i64 (13), .int .i64 (a), .int .i64 (b)]] w (DoPost B p w m (Rule.act n m.at_ ⟨13, a, b⟩ (m.e sh))) := by
  have HR : Hid _ := hr
  clear hr
  generalize Rule.act n m.at_ ⟨13, a, b⟩ (m.e sh) = RR at *
  have k1 := h.at0
  have k2 := h.at1
  have k3 := h.few
  have wn : IntKind.i64.wrap (m.at_ + 1) = m.at_ + 1 := IntWalk.i64_in _ (by omega)
  have c19 := h.mac.at_
  have H0 : Hid _ := h
  have O0 : Hid (OpBox (w.alloc (.cells #[.int .i64 (13), .int .i64 (a), .int .i64 (b)] 23)) w.heap.size (13) (a) (b)) := Three.new _ _ _ _ _
  have lp := h.mac.lt
  clear h
  obtain ⟨oa, ocap, hops⟩ := H0.out.ops
  have c0 := H0.out.mac.ops
  rw [hops] at c0
  go_enter Try.func40, Try.ntmps40
  go_wp2_with fail
  have H1 : Hid (St B p (w.alloc (.cells #[.int .i64 (13), .int .i64 (a), .int .i64 (b)] 23)) m sh n ∧ Only [] w (w.alloc (.cells #[.int .i64 (13), .int .i64 (a), .int .i64 (b)] 23)) ∧ OpBox (w.alloc (.cells #[.int .i64 (13), .int .i64 (a), .int .i64 (b)] 23)) w.heap.size (13) (a) (b)) := ⟨H0.out.only ((Only.refl _ _).alloc _), (Only.refl _ _).alloc _, O0.out⟩
  generalize w.alloc (.cells #[.int .i64 (13), .int .i64 (a), .int .i64 (b)] 23) = W at *
  generalize w.heap.size = q at *
  clear H0 c19 O0 c0
  go_ret
  refine doPost_own HR.out rfl H1.out.1 H1.out.2.1 H1.out.1.mac (Only.refl _ _) rfl
set_option maxRecDepth 100000 in
set_option maxHeartbeats 1000000 in
theorem do_x {B p n : Nat} {w : World} {m : Mch} {sh : List Bd} (h : St B p w m sh n) (c a b : Int) (hc : c < 1 ∨ 13 < c) (hr : Rule.act n m.at_ ⟨c, a, b⟩ (m.e sh) = .fault 4) : Calls Try.prog 40 #[.pointer (some ⟨p, 0, none⟩), .agg #[.int .i64 (c), .int .i64 (a), .int .i64 (b)]] w (DoPost B p w m (Rule.act n m.at_ ⟨c, a, b⟩ (m.e sh))) := by
  have HR : Hid _ := hr
  clear hr
  generalize Rule.act n m.at_ ⟨c, a, b⟩ (m.e sh) = RR at *
  have k1 := h.at0
  have k2 := h.at1
  have k3 := h.few
  have wn : IntKind.i64.wrap (m.at_ + 1) = m.at_ + 1 := IntWalk.i64_in _ (by omega)
  have c19 := h.mac.at_
  have H0 : Hid _ := h
  have O0 : Hid (OpBox (w.alloc (.cells #[.int .i64 (c), .int .i64 (a), .int .i64 (b)] 23)) w.heap.size (c) (a) (b)) := Three.new _ _ _ _ _
  have lp := h.mac.lt
  clear h
  have n1 : (c == 1) = false := by simp; omega
  have n2 : (c == 2) = false := by simp; omega
  have n3 : (c == 3) = false := by simp; omega
  have n4 : (c == 4) = false := by simp; omega
  have n5 : (c == 5) = false := by simp; omega
  have n6 : (c == 6) = false := by simp; omega
  have n7 : (c == 7) = false := by simp; omega
  have n8 : (c == 8) = false := by simp; omega
  have n9 : (c == 9) = false := by simp; omega
  have n10 : (c == 10) = false := by simp; omega
  have n11 : (c == 11) = false := by simp; omega
  have n12 : (c == 12) = false := by simp; omega
  have n13 : (c == 13) = false := by simp; omega
  go_enter Try.func40, Try.ntmps40
  go_wp2_with fail
  have H1 : Hid (St B p (w.alloc (.cells #[.int .i64 (c), .int .i64 (a), .int .i64 (b)] 23)) m sh n ∧ Only [] w (w.alloc (.cells #[.int .i64 (c), .int .i64 (a), .int .i64 (b)] 23)) ∧ OpBox (w.alloc (.cells #[.int .i64 (c), .int .i64 (a), .int .i64 (b)] 23)) w.heap.size (c) (a) (b)) := ⟨H0.out.only ((Only.refl _ _).alloc _), (Only.refl _ _).alloc _, O0.out⟩
  generalize w.alloc (.cells #[.int .i64 (c), .int .i64 (a), .int .i64 (b)] 23) = W at *
  generalize w.heap.size = q at *
  clear H0 c19 O0
  refine (mmust_no H1.out.1.mac _).mono ?_
  rintro e w' ⟨rfl, rfl⟩
  exact ⟨rfl, doPost_fault HR.out rfl H1.out.2.1⟩
end Go.Proofs.Ytnicjbllkdpgcaa

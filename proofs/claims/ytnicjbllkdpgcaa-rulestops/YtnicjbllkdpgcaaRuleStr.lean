/- RuleStops: its helper that makes straight ops of raw ones. -/
import Derived.Test.YtnicjbllkdpgcaaSeqRun
import Derived.Test.YtnicjbllkdpgcaaRuleG
import Derived.Test.YtnicjbllkdpgcaaHandOp
import Derived.Test.YtnicjbllkdpgcaaFrame3
import Derived.Test.YtnicjbllkdpgcaaRuleTotW
namespace Go.Proofs.Ytnicjbllkdpgcaa.ruleStops
open Go.RowKit
set_option linter.unusedVariables false

/-- what the helper has laid -/
structure Str (w W : World) (v : Value) (l : List Op3) : Prop where
  row : SO w.heap.size W v l
  only : Only [] w W
  all : ∀ o ∈ l, Straight o
theorem Str.then {w W W' : World} {v : Value} {l : List Op3} (h : Str w W v l) (o : Only [] W W') : Str w W' v l := ⟨h.row.only o (by simp), h.only.trans o, h.all⟩
theorem Str.app {w W W' : World} {v v' : Value} {l : List Op3} {o : Op3} (h : Str w W v l) (a : AppO w.heap.size W v W' v' (l ++ [o])) (ho : Straight o) : Str w W' v' (l ++ [o]) :=
  ⟨a.row, h.only.then a.only (fun x hx hlt => by have := h.row.lt x (by simpa [Option.mem_toList] using hx); omega), fun x hx => by
    rcases List.mem_append.1 hx with hx | hx
    · exact h.all x hx
    · rw [List.mem_singleton.1 hx]; exact ho⟩
set_option maxRecDepth 100000 in
set_option maxHeartbeats 4000000 in
theorem straight_any {s0 : Value} {n0 : Nat} {a0 : Nat → Nat → Int} (w : World) (h0 : CameR 3 w s0 n0 a0) :
    Calls Try.prog 18 #[s0] w fun x w' => ∃ v l, x = .returned v ∧ l.length ≤ 7 ∧ Str w w' v l := by
  obtain ⟨d0, cap0, rfl, m0, c0⟩ := ruleTotal.came_at h0
  have C0 : Hid _ := c0
  clear c0 h0
  go_enter Try.func18, Try.ntmps18
  go_wp2_with fail
  go_loopg [3, 4] 8 (fun gk vo vi wr => ∃ (i : Nat) (l : List Op3), vi = .int .i64 i ∧ l.length ≤ i ∧ i ≤ 7 ∧ i ≤ n0 ∧ 8 - i ≤ gk ∧ Hid (Str w wr vo l))
  case atStart => exact ⟨0, [], rfl, by simp, by omega, by omega, by omega, SO.nil _ _, Only.refl _ _, by simp⟩
  case round =>
    obtain ⟨i, l, rfl, hl, hi, hin, hg, HT⟩ := hrel
    obtain ⟨va, vc, hvo, hvl⟩ := HT.out.row.form
    obtain ⟨N, hN⟩ : ∃ N, l.length = N := ⟨_, rfl⟩
    rw [hN] at hvo hvl hl
    subst hvo
    by_cases h1 : i < n0
    rotate_left
    · have z1 : ¬ (i : Int) < (n0 : Int) := by omega
      go_wp2_with fail
      go_ret
      exact ⟨_, rfl, l, by omega, HT.out⟩
    by_cases h2 : i < 7
    rotate_left
    · have z1 : (i : Int) < (n0 : Int) := by omega
      have z2 : ¬ (i : Int) < 7 := by omega
      go_wp2_with fail
      go_ret
      exact ⟨_, rfl, l, by omega, HT.out⟩
    have z0 : (0 : Int) ≤ (i : Int) := by omega
    have z1 : (i : Int) < (n0 : Int) := by omega
    have z2 : (i : Int) < 7 := by omega
    obtain ⟨bb, off, hd, hbb, hc⟩ := C0.out i h1
    subst hd
    have e0 : wr.cell? ⟨bb, off + i * 3, none⟩ = some (.int .i64 (a0 i 0)) := (HT.out.only.cell hbb (by simp)).trans (hc 0 (by omega))
    have e1 : wr.cell? ⟨bb, off + i * 3 + 1, none⟩ = some (.int .i64 (a0 i 1)) := (HT.out.only.cell hbb (by simp)).trans (by have := hc 1 (by omega); rwa [show off + (i * 3 + 1) = off + i * 3 + 1 by omega] at this)
    have e2 : wr.cell? ⟨bb, off + i * 3 + 2, none⟩ = some (.int .i64 (a0 i 2)) := (HT.out.only.cell hbb (by simp)).trans (by have := hc 2 (by omega); rwa [show off + (i * 3 + 2) = off + i * 3 + 2 by omega] at this)
    clear hc
    go_wp2_with fail
    refine (hop_any _ _ _ _).mono ?_
    rintro x wy ⟨⟨o, rfl⟩, oy⟩
    have H3 : Hid (Str w wy (.slice va N vc) l) := HT.out.then oy
    clear oy HT e0 e1 e2
    go_upto_region 6 with fail
    have H4 : Hid (Str w (wy.alloc (.cells #[.int .i64 o.c, .int .i64 o.a, .int .i64 o.b] 23)) (.slice va N vc) l ∧ Three (wy.alloc (.cells #[.int .i64 o.c, .int .i64 o.a, .int .i64 o.b] 23)) wy.heap.size (.int .i64 o.c) (.int .i64 o.a) (.int .i64 o.b)) := ⟨H3.out.then ((Only.refl [] _).alloc _), Three.new _ _ _ _ _⟩
    clear H3
    generalize wy.heap.size = p at *
    generalize wy.alloc (.cells #[.int .i64 o.c, .int .i64 o.a, .int .i64 o.b] 23) = w4 at *
    obtain ⟨oc, oa, ob⟩ := o
    have f0 : w4.cell? ⟨p, 0, none⟩ = some (.int .i64 oc) := H4.out.2.cell0
    have f1 : w4.cell? ⟨p, 1, none⟩ = some (.int .i64 oa) := H4.out.2.cell1
    have f2 : w4.cell? ⟨p, 2, none⟩ = some (.int .i64 ob) := H4.out.2.cell2
    by_cases c10 : oc = 10
    · subst c10
      go_wp2_with fail
      go_roundg (8 - (i + 1))
      case measure => omega
      case rel => exact ⟨i + 1, l, by go_num, by omega, by omega, by omega, by omega, H4.out.1⟩
    have n10 : (oc != 10) = true := by simpa using c10
    by_cases c9 : oc = 9
    · subst c9
      go_wp2_with fail
      go_roundg (8 - (i + 1))
      case measure => omega
      case rel => exact ⟨i + 1, l, by go_num, by omega, by omega, by omega, by omega, H4.out.1⟩
    have n9 : (oc != 9) = true := by simpa using c9
    by_cases c13 : oc = 13
    · subst c13
      go_wp2_with fail
      go_roundg (8 - (i + 1))
      case measure => omega
      case rel => exact ⟨i + 1, l, by go_num, by omega, by omega, by omega, by omega, H4.out.1⟩
    have n13 : (oc != 13) = true := by simpa using c13
    have H5 : Hid (Str w (w4.alloc (.cells #[.int .i64 oc, .int .i64 oa, .int .i64 ob] 23)) (.slice va N vc) l ∧ RdP (w4.alloc (.cells #[.int .i64 oc, .int .i64 oa, .int .i64 ob] 23)) (.slice (some ⟨w4.heap.size, 0, none⟩) 1 1) [⟨oc, oa, ob⟩] ∧ w.heap.size ≤ (w4.alloc (.cells #[.int .i64 oc, .int .i64 oa, .int .i64 ob] 23)).heap.size) := ⟨H4.out.1.then ((Only.refl [] _).alloc _), rdp_new w4 [⟨oc, oa, ob⟩] (by unfold maxLen; simp), by have := H4.out.1.only.size; simp; omega⟩
    clear H4
    go_wp2_with (at_builtin; refine app_o rfl _ _ rfl rfl rfl H5.out.1.row H5.out.2.1 (by simp; omega) H5.out.2.2 ?_)
    intro v' w' A
    have H6 : Hid (Str w w' v' (l ++ [(⟨oc, oa, ob⟩ : Op3)])) := H5.out.1.app A ⟨c9, c10, c13⟩
    clear A H5 f0 f1 f2
    go_wp2_with fail
    go_roundg (8 - (i + 1))
    case measure => omega
    case rel => exact ⟨i + 1, l ++ [(⟨oc, oa, ob⟩ : Op3)], by go_num, by simp; omega, by omega, by omega, by omega, H6.out⟩
end Go.Proofs.Ytnicjbllkdpgcaa.ruleStops

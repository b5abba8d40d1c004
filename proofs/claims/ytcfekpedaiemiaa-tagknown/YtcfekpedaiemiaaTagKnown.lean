/- Proved: TagKnown returns true. No condition. -/
import Derived.Test.YtcfekpedaiemiaaTagK
import Derived.Test.YtcfekpedaiemiaaFrame
namespace Go.Proofs.Ytcfekpedaiemiaa.tagKnown
open Go.ChangeShapes Go.WideShapes Go.ChangeAt Go.RowKit Tag
set_option linter.unusedVariables false

theorem k1 : opens 0 [0, 0, 1] = false := by decide
theorem k2 : opens 0 [0, 0, 0, 1] = true := by decide
theorem k3 : body 0 [0, 0, 0, 1] = [] := by decide
theorem k4 : sum 0 [0] = 259 := by decide
theorem k5 : sum (-1) [] = 0 := by decide
theorem k6 : sum 2147483647 [] = 1 := by decide
theorem k7 : Tag.mark [] = 17179869196 := by decide

set_option maxRecDepth 100000 in
set_option maxHeartbeats 4000000 in
theorem walk  (w : World)  :
    Calls Try.prog 3 #[] w fun e w' => e = .returned (.bool true) ∧ Below w.heap.size w w' := by
  have hnot : ∀ (x : Bool) (w : World), (Op.unary .not (.bool x)).run Try.prog w = .ok (.bool (!x)) w := fun _ _ => rfl
  go_enter Try.func3, Try.ntmps3
  go_wp2_with fail
  obtain ⟨w1, e1⟩ : ∃ w1, w1 = w.alloc (.cells #[.int .u8 0, .int .u8 0, .int .u8 1] 5) := ⟨_, rfl⟩
  have r1 : ReadC w1 (.slice (some ⟨w.heap.size, 0, none⟩) 3 3) [0, 0, 1] := e1 ▸ lit_read w [0, 0, 1] (0, 0) (by decide) (by decide)
  have O1 : Hid (Only [] w w1) := e1 ▸ (Only.refl [] w).alloc _
  rw [← e1]
  clear e1
  refine (open_any 0 _ [0, 0, 1] w1 r1 (by decide)).mono ?_
  rintro e w2 ⟨v2, rfl, r2, o2⟩
  rw [k1]
  have O2 : Hid _ := O1.out.trans o2
  clear r1 r2 o2 O1
  go_wp2_with fail
  obtain ⟨w3, e3⟩ : ∃ w3, w3 = w2.alloc (.cells #[.int .u8 0, .int .u8 0, .int .u8 0, .int .u8 1] 5) := ⟨_, rfl⟩
  have r3 : ReadC w3 (.slice (some ⟨w2.heap.size, 0, none⟩) 4 4) [0, 0, 0, 1] := e3 ▸ lit_read w2 [0, 0, 0, 1] (0, 0) (by decide) (by decide)
  have O3 : Hid (Only [] w w3) := e3 ▸ O2.out.alloc _
  rw [← e3]
  clear e3 O2
  refine (open_any 0 _ [0, 0, 0, 1] w3 r3 (by decide)).mono ?_
  rintro e w4 ⟨v4, rfl, r4, o4⟩
  rw [k3] at r4
  rw [k2]
  obtain ⟨a4, c4, rfl⟩ : ∃ a c, v4 = .slice a 0 c := by obtain ⟨_, a, c, e, _⟩ := r4.read (by decide); exact ⟨a, c, e⟩
  have O4 : Hid _ := O3.out.trans o4
  clear r3 r4 o4 O3
  go_wp2_with fail
  refine (known_any w4).mono ?_
  rintro e w5 ⟨rfl, o5⟩
  have O5 : Hid _ := O4.out.trans o5
  clear o5 O4
  go_wp2_with fail
  obtain ⟨w6, e6⟩ : ∃ w6, w6 = w5.alloc (.cells #[.int .u8 0] 5) := ⟨_, rfl⟩
  have r6 : ReadC w6 (.slice (some ⟨w5.heap.size, 0, none⟩) 1 1) [0] := e6 ▸ lit_read w5 [0] (0, 0) (by decide) (by decide)
  have O6 : Hid (Only [] w w6) := e6 ▸ O5.out.alloc _
  rw [← e6]
  clear e6 O5
  refine (sum_any 0 _ [0] w6 r6.read (by decide)).mono ?_
  rintro e w' ⟨rfl, rfl⟩
  rw [k4]
  clear r6
  go_wp2_with fail
  refine (sum_any (-1) _ [] w6 (readC_nil w6).read (by decide)).mono ?_
  rintro e w' ⟨rfl, rfl⟩
  rw [k5]
  go_wp2_with fail
  refine (sum_any 2147483647 _ [] w6 (readC_nil w6).read (by decide)).mono ?_
  rintro e w' ⟨rfl, rfl⟩
  rw [k6]
  go_wp2_with fail
  refine (close_any 0 _ [] w6 (readC_nil w6).read (by decide)).mono ?_
  rintro e w7 ⟨v7, rfl, r7, o7⟩
  obtain ⟨a7, c7, rfl⟩ : ∃ a c, v7 = .slice a 4 c := by obtain ⟨_, a, c, e, _⟩ := r7.read (close_lt 0 [] (by decide)); exact ⟨a, c, e⟩
  have O7 : Hid _ := O6.out.trans o7
  clear r7 o7 O6
  go_wp2_with fail
  refine (mark_any _ [] w7 (readC_nil w7).read (by decide)).mono ?_
  rintro e w' ⟨rfl, rfl⟩
  rw [k7]
  go_wp2_with fail
  go_ret
  exact ⟨rfl, O7.out.below (Nat.le_refl _) (by simp)⟩

set_option maxRecDepth 100000 in
theorem lifted (os : Os) (started : os.Started) (H : Type) (enc : TypeId × Value → H) :
    ReturnsInHanded {} Try.checked os 3 .any (Rows.tagKnownSpec.pre6 enc Try.prog Try.f3 Rows.tagKnownRow.domain false) (Rows.tagKnownSpec.post enc Try.prog Try.f3 false true false false) := by
  refine returnsInHanded_of_change (C := Try.checked) own started (by kernel_rfl) Try.func3
    (ChangeSpec.witness6 (enc := enc) (C := Try.checked) false ⟨#[], #[], []⟩ 8 (by kernel_rfl) (by kernel_rfl) (by kernel_rfl) (by kernel_rfl)) ?_
  intro W base args ds gs before hval0 hW hcnd _
  have hval : ∀ (j : Nat) t v, Try.f3.params[j]? = some t → args[j]? = some v → Value.okWide Try.prog W .any base t v := hval0
  have hW' := hW
  obtain ⟨p, q, hA0, hV, rfl, hfz, hnd⟩ := hW
  have hA : DataW.TrodAll enc Try.prog W 0 (fun _ => true) true Try.f3.params.toList args.toList ds p := hA0
  rw [Try.params3] at hA hval
  obtain ⟨rfl, rfl, rfl⟩ := trodAll_none hA
  obtain ⟨rfl, rfl⟩ := trodVars_none hV
  clear hA0 hval0
  refine (walk  W ).mono fun e W' ⟨he, bel⟩ => ?_
  subst he
  exact ⟨_, rfl, _, _, _, [], _, [], hW', trodAll_mk1 (shut_bool Try.underlying4 _), trodAll_mk0, rfl, bel.frame _, fun h => by cases h⟩

theorem over : Rows.tagKnownRow.holds Try.pinned (OpenSpec.ofChange Rows.tagKnownSpec) :=
  OpenClaim.holds_of_wide 3 Try.f3 rfl rfl rfl rfl rfl rfl rfl ⟨rfl, rfl, rfl, rfl, rfl⟩ rfl rfl rfl rfl rfl (by kernel_rfl) Try.func3 (by kernel_rfl)
    (of_decide_eq_true (by kernel_rfl)) (by unfold Func.isWrapper; first | (rw [if_pos (by decide +kernel)]; kernel_rfl) | (rw [if_neg (by decide +kernel)]; exact ⟨rfl, rfl⟩))
    (fun os started H enc _ => lifted os started H enc)

/-- THE STATEMENT -/
theorem proved : Rows.TagKnownSaid := over
end Go.Proofs.Ytcfekpedaiemiaa.tagKnown

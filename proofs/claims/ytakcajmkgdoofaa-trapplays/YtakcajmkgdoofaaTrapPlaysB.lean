/- TrapPlays: the walk, of at most forty acts. -/
import Derived.Test.YtakcajmkgdoofaaPlayR
namespace Go.Proofs.Ytakcajmkgdoofaa.trapPlays
open Go.ChangeShapes Go.WideShapes Go.ChangeAt Go.RowKit
set_option linter.unusedVariables false

theorem eqvB {a b : Int} (h : a = b) : Value.int .i64 a = .int .i64 b := by rw [h]

set_option maxHeartbeats 8000000 in
set_option maxRecDepth 100000 in
theorem walk_B (ao : Option Addr) (n0 c0 : Nat) (X : Nat → Nat → Int) (m0 : n0 ≤ 9223372036854775807) (hx : n0 ≤ 40) (w : World) (acts : Acts w.heap.size w ao n0 X) :
    Calls Try.prog 4 #[.slice ao n0 c0] w fun e w' => e = .returned (.bool true) ∧ Below w.heap.size w w' := by
  have hnot : ∀ (x : Bool) (w : World), (Op.unary .not (.bool x)).run Try.prog w = .ok (.bool (!x)) w := fun _ _ => rfl
  obtain ⟨N, hN⟩ : ∃ N, N = min n0 40 := ⟨_, rfl⟩
  have HN : Hid _ := hN
  have N40 : N ≤ 40 := by omega
  have ACTS : Hid _ := acts
  clear hN acts
  go_enter Try.func4, Try.ntmps4
  go_wp2_with fail
  refine (known_any w).mono ?_
  rintro e v1 ⟨rfl, o1⟩
  have O1 : Hid _ := o1
  have l1 := o1.size
  clear o1
  go_wp2_with fail
  obtain ⟨v2, e2⟩ : ∃ v2, v2 = v1.alloc (.cells #[.slice ao n0 c0, .int .i64 0, .int .i64 0, .slice none 0 0] 34) := ⟨_, rfl⟩
  have ST : Hid (Only [] w v2 ∧ Play v2 v1.heap.size (.slice ao n0 c0) 0 0 (.slice none 0 0)) := ⟨by rw [e2]; exact O1.out.alloc _, by rw [e2]; exact Play.new _ _ _⟩
  rw [← e2]
  clear e2 O1
  generalize v1.heap.size = bp at *
  go_loopg [] 41 (fun gk wr => ∃ j fv, j ≤ N ∧ 41 - j ≤ gk ∧ Hid (Only [] w wr ∧ Play wr bp (.slice ao n0 c0) j (cnt X j) fv ∧ FR w.heap.size wr fv (flt X j) ∧ fv.ownBlock ≠ some bp ∧ (j < N → dep X j = 0)))
  case atStart => exact ⟨0, .slice none 0 0, by omega, by omega, ST.out.1, ST.out.2, World.ownsRow_nil _ _ _ _, by simp [Value.ownBlock], fun _ => rfl⟩
  case round =>
    obtain ⟨j, fv, hjN, hgk, HR⟩ := hrel
    have q1 := HR.out.2.1.cell1
    by_cases hlt : j < N
    · have z1 : (j : Int) < (n0 : Int) := by have := HN.out; omega
      have z2 : (j : Int) < 40 := by omega
      go_wp2_with fail
      refine Calls.mono (w := wr) (runs_all X N w.heap.size bp ao n0 c0 HN.out l1 m0 N j 0 (by omega) hjN (by omega) wr fv (Acts.only ACTS.out HR.out.1 (by simp)) HR.out.2.1 HR.out.2.2.1 HR.out.2.2.2.1 HR.out.2.2.2.2) ?_
      rintro e w' ⟨rfl, j', fv', g1, g2, g3, g4, g5, g6⟩
      have G3 : Hid _ := g3
      have G4 : Hid _ := g4
      have G5 : Hid _ := g5
      have G6 : Hid _ := g6
      clear g3 g4 g5 g6
      have gj : j < j' := by
        rcases Nat.lt_or_ge j' N with h | h
        · exact (G6.out h).2
        · omega
      go_wp2_with fail
      go_roundg (41 - j')
      case measure => omega
      case rel =>
        refine ⟨j', fv', g2, Nat.le_refl _, HR.out.1.then G3.out.only (fun x hx hl => ?_), G4.out, G5.out, G3.out.ne HR.out.2.1.lt HR.out.2.2.2.1, fun h => by have := (G6.out h).1; omega⟩
        exfalso
        rcases List.mem_cons.1 hx with rfl | hx
        · omega
        · have := (World.ownsRow.lt HR.out.2.2.1 x (by simpa [Option.mem_toList] using hx)).1
          omega
    · obtain rfl : N = j := by omega
      have hN := HN.out
      have z1 : ¬ (N : Int) < (n0 : Int) := by omega
      clear hN
      go_wp2_with fail
      have ON : Hid _ := HR.out.1
      have PL : Hid _ := HR.out.2.1
      have FF : Hid _ := HR.out.2.2.1
      have lw := HR.out.1.size
      clear HR q1 ST hgk hjN hlt
      generalize wr = W1 at *
      go_loopg [4, 5, 6, 7] 41 (fun gk vd vc vf vi wr => ∃ i : Nat, vi = .int .i64 i ∧ vd = .int .i64 (dep X i) ∧ vc = .int .i64 (cnt X i) ∧ i ≤ N ∧ 41 - i ≤ gk ∧ Hid (wr.ownsRow W1.heap.size 24 2 vf (flt X i).length (flat (flt X i)) ∧ Below W1.heap.size W1 wr))
      case atStart => exact ⟨0, rfl, rfl, rfl, by omega, by omega, World.ownsRow_nil _ _ _ _, Below.refl _ _⟩
      case round =>
        obtain ⟨i, rfl, rfl, rfl, hiN, hgi, HR⟩ := hrel
        by_cases hlt : i < N
        · have y1 : (i : Int) < (n0 : Int) := by have := HN.out; omega
          have y2 : (i : Int) < 40 := by omega
          obtain ⟨b, o, hao, hb, hlb, hc⟩ := ACTS.out i (by omega)
          have hcell : ∀ k, k < 3 → wr.cell? ⟨b, o + (i * 3 + k), none⟩ = some (.int .i64 (X i k)) := fun k hk => by
            rw [HR.out.2.cell (show b < W1.heap.size by omega), ON.out.cell hlb (by simp)]
            exact hc k hk
          have k0 : wr.cell? ⟨b, o + i * 3, none⟩ = some (.int .i64 (X i 0)) := hcell 0 (by omega)
          have k1 : wr.cell? ⟨b, o + i * 3 + 1, none⟩ = some (.int .i64 (X i 1)) := hcell 1 (by omega)
          have k2 : wr.cell? ⟨b, o + i * 3 + 2, none⟩ = some (.int .i64 (X i 2)) := hcell 2 (by omega)
          subst hao
          clear hc hcell
          go_wp2_with fail
          refine (pick_any _ _ (by omega) (by omega) _).mono ?_
          rintro e w' ⟨rfl, rfl⟩
          have kb := kind_bd X i
          obtain ⟨k, hk⟩ : ∃ k, X i 0 % 8 = k := ⟨_, rfl⟩
          have HK : Hid (kind X i = k) := hk
          rw [hk]
          clear hk
          have hkb : 0 ≤ k ∧ k < 8 := by have := HK.out; omega
          clear kb
          have D := bounds X i
          have d6 : dep X i ≤ 6 := D.1
          have c40 : cnt X i ≤ 40 := by omega
          have f40 : (flt X i).length ≤ 40 := by omega
          clear D k0 k1 k2
          rcases (show k = 0 ∨ k = 1 ∨ k = 2 ∨ k = 3 ∨ k = 4 ∨ k = 5 ∨ k = 6 ∨ k = 7 by omega) with rfl | rfl | rfl | rfl | rfl | rfl | rfl | rfl
          · have AA : Hid _ := at_0 X i HK.out
            go_wp2_with fail
            all_goals
              go_roundg (41 - (i + 1))
              case measure => omega
              case rel =>
                refine ⟨i + 1, by go_num, eqvB (by have := AA.out.1; omega), eqvB (by have := AA.out.2.1; omega), by omega, Nat.le_refl _, ?_, ?_⟩
                · rw [AA.out.2.2]; exact HR.out.1.alloc _
                · exact HR.out.2.alloc HR.out.2.size _
          · have AA : Hid _ := at_1 X i HK.out
            go_wp2_with fail
            all_goals
              go_roundg (41 - (i + 1))
              case measure => omega
              case rel =>
                refine ⟨i + 1, by go_num, eqvB (by have := AA.out.1; omega), eqvB (by have := AA.out.2.1; omega), by omega, Nat.le_refl _, ?_, ?_⟩
                · rw [AA.out.2.2]; exact HR.out.1.alloc _
                · exact HR.out.2.alloc HR.out.2.size _
          · have AA : Hid _ := at_t X i (Or.inl HK.out)
            obtain ⟨i0, hi0, hz0, hz1, hz2⟩ := info_parts info_fault
            have own5 : Hid (((wr.alloc (.cells #[.int .i64 (X i 0), .int .i64 (X i 1), .int .i64 (X i 2)] 37)).alloc (.cells #[.int .i64 (X i 1), .int .i64 (X i 2)] 24)).ownsRow W1.heap.size 24 2 u6 (flt X i).length (flat (flt X i))) := (HR.out.1.alloc _).alloc _
            have news5 : Hid (∀ k u, [Value.int .i64 (X i 1), Value.int .i64 (X i 2)][k]? = some u → ((wr.alloc (.cells #[.int .i64 (X i 0), .int .i64 (X i 1), .int .i64 (X i 2)] 37)).alloc (.cells #[.int .i64 (X i 1), .int .i64 (X i 2)] 24)).cell? ((⟨wr.heap.size + 1, 0, none⟩ : Addr).add k) = some u) := fun k u hk => by
              match k, hk with
              | 0, hk => simp at hk; subst hk; simp [Addr.add]
              | 1, hk => simp at hk; subst hk; simp [Addr.add]
              | k + 2, hk => simp at hk
            have ONE : Hid (∀ u ∈ [Value.int .i64 (X i 1), Value.int .i64 (X i 2)], u.oneCell' = true) := by intro u hu; simp at hu; rcases hu with rfl | rfl <;> rfl
            have lW := HR.out.2.size
            have BB : Hid (W1.heap.size ≤ ((wr.alloc (.cells #[.int .i64 (X i 0), .int .i64 (X i 1), .int .i64 (X i 2)] 37)).alloc (.cells #[.int .i64 (X i 1), .int .i64 (X i 2)] 24)).heap.size) := by show _ ≤ _; simp; omega
            go_wp2_with (at_builtin; refine wpList_append_lies _ rfl (.tmp 72) (.tmp 78) 32 rfl W1.heap.size 24 i0 (.agg #[.int .i64 0, .int .i64 0]) 2 16 Try.underlying32 hi0 hz0 hz1 hz2 rfl (by decide) u6 (flt X i).length (flat (flt X i)) rfl own5.out ⟨wr.heap.size + 1, 0, none⟩ 1 1 [.int .i64 (X i 1), .int .i64 (X i 2)] rfl rfl news5.out ONE.out (by decide) (by unfold maxLen; omega) (by omega) BB.out _ rfl ?_; intro g cap w6 hown hgrow hat hlt6; have HH : Hid _ := And.intro hown hgrow; clear hown hgrow hat hlt6)
            all_goals
              go_roundg (41 - (i + 1))
              case measure => omega
              case rel =>
                refine ⟨i + 1, by go_num, eqvB (by have := AA.out.1; omega), eqvB (by have := AA.out.2.1; omega), by omega, Nat.le_refl _, ?_, ?_⟩
                · rw [AA.out.2.2, List.length_append, List.length_singleton, flat_app]; exact HH.out.1
                · exact ((HR.out.2.alloc HR.out.2.size _).alloc (by simp; omega) _).grown HH.out.2 (by simp; omega) (fun k hk => (World.ownsRow.lt HR.out.1 k hk).1)
          · by_cases ht : (X i 1).tmod 2 = 0
            · have AA : Hid _ := at_n X i (by rw [HK.out]; omega) (by rw [HK.out]; omega) ht
              have ht2 : ((X i 1).tmod 2 != 0) = false := by simpa using ht
              go_wp2_with fail
              all_goals
                go_roundg (41 - (i + 1))
                case measure => omega
                case rel =>
                  refine ⟨i + 1, by go_num, eqvB (by have := AA.out.1; omega), eqvB (by have := AA.out.2.1; omega), by omega, Nat.le_refl _, ?_, ?_⟩
                  · rw [AA.out.2.2]; exact HR.out.1.alloc _
                  · exact HR.out.2.alloc HR.out.2.size _
            · have AA : Hid _ := at_t X i (Or.inr ⟨by rw [HK.out]; omega, by rw [HK.out]; omega, ht⟩)
              have ht2 : ((X i 1).tmod 2 != 0) = true := by simpa using ht
              obtain ⟨i0, hi0, hz0, hz1, hz2⟩ := info_parts info_fault
              have own5 : Hid (((wr.alloc (.cells #[.int .i64 (X i 0), .int .i64 (X i 1), .int .i64 (X i 2)] 37)).alloc (.cells #[.int .i64 (X i 1), .int .i64 (X i 2)] 24)).ownsRow W1.heap.size 24 2 u6 (flt X i).length (flat (flt X i))) := (HR.out.1.alloc _).alloc _
              have news5 : Hid (∀ k u, [Value.int .i64 (X i 1), Value.int .i64 (X i 2)][k]? = some u → ((wr.alloc (.cells #[.int .i64 (X i 0), .int .i64 (X i 1), .int .i64 (X i 2)] 37)).alloc (.cells #[.int .i64 (X i 1), .int .i64 (X i 2)] 24)).cell? ((⟨wr.heap.size + 1, 0, none⟩ : Addr).add k) = some u) := fun k u hk => by
                match k, hk with
                | 0, hk => simp at hk; subst hk; simp [Addr.add]
                | 1, hk => simp at hk; subst hk; simp [Addr.add]
                | k + 2, hk => simp at hk
              have ONE : Hid (∀ u ∈ [Value.int .i64 (X i 1), Value.int .i64 (X i 2)], u.oneCell' = true) := by intro u hu; simp at hu; rcases hu with rfl | rfl <;> rfl
              have lW := HR.out.2.size
              have BB : Hid (W1.heap.size ≤ ((wr.alloc (.cells #[.int .i64 (X i 0), .int .i64 (X i 1), .int .i64 (X i 2)] 37)).alloc (.cells #[.int .i64 (X i 1), .int .i64 (X i 2)] 24)).heap.size) := by show _ ≤ _; simp; omega
              go_wp2_with (at_builtin; refine wpList_append_lies _ rfl (.tmp 72) (.tmp 78) 32 rfl W1.heap.size 24 i0 (.agg #[.int .i64 0, .int .i64 0]) 2 16 Try.underlying32 hi0 hz0 hz1 hz2 rfl (by decide) u6 (flt X i).length (flat (flt X i)) rfl own5.out ⟨wr.heap.size + 1, 0, none⟩ 1 1 [.int .i64 (X i 1), .int .i64 (X i 2)] rfl rfl news5.out ONE.out (by decide) (by unfold maxLen; omega) (by omega) BB.out _ rfl ?_; intro g cap w6 hown hgrow hat hlt6; have HH : Hid _ := And.intro hown hgrow; clear hown hgrow hat hlt6)
              all_goals
                go_roundg (41 - (i + 1))
                case measure => omega
                case rel =>
                  refine ⟨i + 1, by go_num, eqvB (by have := AA.out.1; omega), eqvB (by have := AA.out.2.1; omega), by omega, Nat.le_refl _, ?_, ?_⟩
                  · rw [AA.out.2.2, List.length_append, List.length_singleton, flat_app]; exact HH.out.1
                  · exact ((HR.out.2.alloc HR.out.2.size _).alloc (by simp; omega) _).grown HH.out.2 (by simp; omega) (fun k hk => (World.ownsRow.lt HR.out.1 k hk).1)
          · by_cases ht : (X i 1).tmod 2 = 0
            · have AA : Hid _ := at_n X i (by rw [HK.out]; omega) (by rw [HK.out]; omega) ht
              have ht2 : ((X i 1).tmod 2 != 0) = false := by simpa using ht
              go_wp2_with fail
              all_goals
                go_roundg (41 - (i + 1))
                case measure => omega
                case rel =>
                  refine ⟨i + 1, by go_num, eqvB (by have := AA.out.1; omega), eqvB (by have := AA.out.2.1; omega), by omega, Nat.le_refl _, ?_, ?_⟩
                  · rw [AA.out.2.2]; exact HR.out.1.alloc _
                  · exact HR.out.2.alloc HR.out.2.size _
            · have AA : Hid _ := at_t X i (Or.inr ⟨by rw [HK.out]; omega, by rw [HK.out]; omega, ht⟩)
              have ht2 : ((X i 1).tmod 2 != 0) = true := by simpa using ht
              obtain ⟨i0, hi0, hz0, hz1, hz2⟩ := info_parts info_fault
              have own5 : Hid (((wr.alloc (.cells #[.int .i64 (X i 0), .int .i64 (X i 1), .int .i64 (X i 2)] 37)).alloc (.cells #[.int .i64 (X i 1), .int .i64 (X i 2)] 24)).ownsRow W1.heap.size 24 2 u6 (flt X i).length (flat (flt X i))) := (HR.out.1.alloc _).alloc _
              have news5 : Hid (∀ k u, [Value.int .i64 (X i 1), Value.int .i64 (X i 2)][k]? = some u → ((wr.alloc (.cells #[.int .i64 (X i 0), .int .i64 (X i 1), .int .i64 (X i 2)] 37)).alloc (.cells #[.int .i64 (X i 1), .int .i64 (X i 2)] 24)).cell? ((⟨wr.heap.size + 1, 0, none⟩ : Addr).add k) = some u) := fun k u hk => by
                match k, hk with
                | 0, hk => simp at hk; subst hk; simp [Addr.add]
                | 1, hk => simp at hk; subst hk; simp [Addr.add]
                | k + 2, hk => simp at hk
              have ONE : Hid (∀ u ∈ [Value.int .i64 (X i 1), Value.int .i64 (X i 2)], u.oneCell' = true) := by intro u hu; simp at hu; rcases hu with rfl | rfl <;> rfl
              have lW := HR.out.2.size
              have BB : Hid (W1.heap.size ≤ ((wr.alloc (.cells #[.int .i64 (X i 0), .int .i64 (X i 1), .int .i64 (X i 2)] 37)).alloc (.cells #[.int .i64 (X i 1), .int .i64 (X i 2)] 24)).heap.size) := by show _ ≤ _; simp; omega
              go_wp2_with (at_builtin; refine wpList_append_lies _ rfl (.tmp 72) (.tmp 78) 32 rfl W1.heap.size 24 i0 (.agg #[.int .i64 0, .int .i64 0]) 2 16 Try.underlying32 hi0 hz0 hz1 hz2 rfl (by decide) u6 (flt X i).length (flat (flt X i)) rfl own5.out ⟨wr.heap.size + 1, 0, none⟩ 1 1 [.int .i64 (X i 1), .int .i64 (X i 2)] rfl rfl news5.out ONE.out (by decide) (by unfold maxLen; omega) (by omega) BB.out _ rfl ?_; intro g cap w6 hown hgrow hat hlt6; have HH : Hid _ := And.intro hown hgrow; clear hown hgrow hat hlt6)
              all_goals
                go_roundg (41 - (i + 1))
                case measure => omega
                case rel =>
                  refine ⟨i + 1, by go_num, eqvB (by have := AA.out.1; omega), eqvB (by have := AA.out.2.1; omega), by omega, Nat.le_refl _, ?_, ?_⟩
                  · rw [AA.out.2.2, List.length_append, List.length_singleton, flat_app]; exact HH.out.1
                  · exact ((HR.out.2.alloc HR.out.2.size _).alloc (by simp; omega) _).grown HH.out.2 (by simp; omega) (fun k hk => (World.ownsRow.lt HR.out.1 k hk).1)
          · have AA : Hid _ := at_5 X i (by rw [HK.out]; omega)
            go_wp2_with fail
            all_goals
              go_roundg (41 - (i + 1))
              case measure => omega
              case rel =>
                refine ⟨i + 1, by go_num, eqvB (by have := AA.out.1; omega), eqvB (by have := AA.out.2.1; omega), by omega, Nat.le_refl _, ?_, ?_⟩
                · rw [AA.out.2.2]; exact HR.out.1.alloc _
                · exact HR.out.2.alloc HR.out.2.size _
          · have AA : Hid _ := at_5 X i (by rw [HK.out]; omega)
            go_wp2_with fail
            all_goals
              go_roundg (41 - (i + 1))
              case measure => omega
              case rel =>
                refine ⟨i + 1, by go_num, eqvB (by have := AA.out.1; omega), eqvB (by have := AA.out.2.1; omega), by omega, Nat.le_refl _, ?_, ?_⟩
                · rw [AA.out.2.2]; exact HR.out.1.alloc _
                · exact HR.out.2.alloc HR.out.2.size _
          · have AA : Hid _ := at_5 X i (by rw [HK.out]; omega)
            go_wp2_with fail
            all_goals
              go_roundg (41 - (i + 1))
              case measure => omega
              case rel =>
                refine ⟨i + 1, by go_num, eqvB (by have := AA.out.1; omega), eqvB (by have := AA.out.2.1; omega), by omega, Nat.le_refl _, ?_, ?_⟩
                · rw [AA.out.2.2]; exact HR.out.1.alloc _
                · exact HR.out.2.alloc HR.out.2.size _
        · obtain rfl : N = i := by omega
          have OB : Only [] W1 wr := ⟨HR.out.2.os, HR.out.2.tape, HR.out.2.output, HR.out.2.size, fun k hk _ => HR.out.2.block k hk⟩
          have OW : Hid (Only [] w wr) := Only.trans ON.out OB
          have p2 : Play wr bp (.slice ao n0 c0) N (cnt X N) fv := Play.only PL.out OB (by simp)
          obtain ⟨r1, cap1, hv1, hr1⟩ := own_slice (own_only FF.out OB (by simp))
          obtain ⟨r2, cap2, hv2, hr2⟩ := own_slice HR.out.1
          have R1 : Hid _ := hr1
          have R2 : Hid _ := hr2
          have lnf := (bounds X N).2.2
          clear hr1 hr2 OB HR PL FF ON ACTS hlt hgi hiN
          subst hv1 hv2
          generalize (flt X N).length = nf at *
          have q2 := p2.cell2
          have q3 := p2.cell3
          have lp := p2.lt
          clear p2
          go_wp2_with fail
          have Q3 : Hid _ := q3
          clear q2 q3
          generalize wr = W2 at *
          go_loopg [106] 41 (fun gk vi wr => ∃ k : Nat, vi = .int .i64 k ∧ k ≤ nf ∧ 41 - k ≤ gk ∧ Hid (Only [] W2 wr))
          case atStart => exact ⟨0, rfl, by omega, by omega, Only.refl _ _⟩
          case round =>
            obtain ⟨k, rfl, hkn, hgk3, HO⟩ := hrel
            by_cases hk : k < nf
            · have hk' : (k : Int) < (nf : Int) := by omega
              obtain ⟨g1, hg1, lg1, e0, e1⟩ := R1.out k hk
              obtain ⟨g2, hg2, lg2, e2, e3⟩ := R2.out k hk
              rw [← HO.out.cell lg1 (by simp)] at e0 e1
              rw [← HO.out.cell lg2 (by simp)] at e2 e3
              have q3 := (HO.out.cell (p := ⟨bp, 3, none⟩) lp (by simp)).trans Q3.out
              subst hg1 hg2
              generalize ((flt X N).getD k (0, 0)).1 = f0 at *
              generalize ((flt X N).getD k (0, 0)).2 = f1 at *
              go_wp2_with fail
              go_quiet (fail)
              go_wp2_with fail
              have HO2 : Hid (Only [] W2 (wr.drewN nq)) := HO.out.trans (only_drewN wr nq)
              go_roundg (41 - (k + 1))
              case measure => omega
              case rel => exact ⟨k + 1, by go_num, by omega, Nat.le_refl _, HO2.out⟩
            · have hk' : ¬ (k : Int) < (nf : Int) := by omega
              go_wp2_with fail
              go_ret
              exact ⟨rfl, (OW.out.trans HO.out).below (Nat.le_refl _) (by simp)⟩
end Go.Proofs.Ytakcajmkgdoofaa.trapPlays

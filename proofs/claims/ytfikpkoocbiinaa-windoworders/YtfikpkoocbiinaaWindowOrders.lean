/- Proved: WindowOrders returns true for every input. No condition. -/
import Derived.Test.YtfikpkoocbiinaaWinOrd
namespace Go.Proofs.Ytfikpkoocbiinaa.windowOrders
open Go.ChangeShapes Go.WideShapes Go.ChangeAt Go.RowKit
set_option linter.unusedVariables false

set_option maxRecDepth 100000 in
set_option maxHeartbeats 4000000 in
theorem walk (a0 : Int) (s1 : Value) (a1 : List Int) (s2 : Value) (a2 : List Int) (w : World) (w0 : (Lit.int .i64 a0).wf = true) (w1 : CameI .i64 w s1 a1) (w2 : CameI .i64 w s2 a2) :
    Calls Try.prog 6 #[.int .i64 a0, s1, s2] w fun e w' => e = .returned (.bool true) ∧ Below w.heap.size w w' := by
  have hnot : ∀ (x : Bool) (w : World), (Op.unary .not (.bool x)).run Try.prog w = .ok (.bool (!x)) w := fun _ _ => rfl
  obtain ⟨ao, cap, rfl, hcap, hcm, _, hcl⟩ := w1
  have HC : Hid (∀ i, i < a1.length → ∃ b o, ao = some ⟨b, o, none⟩ ∧ b < w.heap.size ∧ w.cell? ⟨b, o + i, none⟩ = some (.int .i64 (a1.getD i 0))) := fun i hi => by
    rcases hcl with h | ⟨b, o, h1, h2, h3⟩
    · rw [h] at hi; simp at hi
    · exact ⟨b, o, h1, h2, h3 i hi⟩
  have m1 : a1.length ≤ 9223372036854775807 := by simp only [maxLen] at hcm; omega
  clear hcl hcm hcap
  generalize hn : a1.length = n1 at *
  obtain ⟨ao2, cap2, rfl, hcap, hcm, _, hcl⟩ := w2
  have HD : Hid (∀ i, i < a2.length → ∃ b o, ao2 = some ⟨b, o, none⟩ ∧ b < w.heap.size ∧ w.cell? ⟨b, o + i, none⟩ = some (.int .i64 (a2.getD i 0))) := fun i hi => by
    rcases hcl with h | ⟨b, o, h1, h2, h3⟩
    · rw [h] at hi; simp at hi
    · exact ⟨b, o, h1, h2, h3 i hi⟩
  have m2 : a2.length ≤ 9223372036854775807 := by simp only [maxLen] at hcm; omega
  clear hcl hcm hcap
  generalize hn2 : a2.length = n2 at *
  clear hn hn2 w0
  go_enter Try.func6, Try.ntmps6
  go_upto_region 2 with fail
  obtain ⟨x0, e0⟩ : ∃ x0, x0 = w.alloc (.cells #[.bool false, .int .i64 0, .int .u64 0] 24) := ⟨_, rfl⟩
  have H0 : Hid (Wn x0 w.heap.size Win.none ∧ Only [] w x0 ∧ x0.heap.size = w.heap.size + 1) := ⟨e0 ▸ Wn.new _ _, e0 ▸ (Only.refl _ _).alloc _, by rw [e0]; simp⟩
  rw [← e0]
  clear e0
  obtain ⟨x1, e1⟩ : ∃ x1, x1 = x0.alloc (.cells #[.bool false, .int .i64 0, .int .u64 0] 24) := ⟨_, rfl⟩
  have H1 : Hid (Wn x1 w.heap.size Win.none ∧ Wn x1 (w.heap.size + 1) Win.none ∧ Only [] w x1 ∧ x1.heap.size = w.heap.size + 2) := by
    have o1 : Only [] x0 x1 := e1 ▸ (Only.refl _ _).alloc _
    refine ⟨H0.out.1.only o1 (by simp), ?_, H0.out.2.1.trans o1, by rw [e1]; simp; have := H0.out.2.2; omega⟩
    rw [← H0.out.2.2, e1]
    exact Wn.new _ _
  rw [← e1]
  clear e1 H0
  obtain ⟨A, hA⟩ : ∃ A, w.heap.size = A := ⟨_, rfl⟩
  rw [hA] at H1
  rw [hA]
  go_wp2_with fail
  refine (pick_any _ _ (by omega) (by omega) _).mono ?_
  rintro e w' ⟨rfl, rfl⟩
  obtain ⟨b, hb⟩ : ∃ b, a0 % 65536 = b := ⟨_, rfl⟩
  have hb1 : 0 ≤ b ∧ b ≤ 65535 := by omega
  rw [hb]
  clear hb
  go_upto_region 4 with fail
  generalize hx : x1.alloc (.cells _ 38) = x2
  have H2 : Hid (L1 w b A (A + 1) (A + 2) x2 (.slice none 0 0) []) := by
    have o2 : Only [] x1 x2 := hx ▸ (Only.refl _ _).alloc _
    have sz := H1.out.2.2.2
    refine ⟨H1.out.1.only o2 (by simp), H1.out.2.1.only o2 (by simp), ?_, World.ownsRow_nil _ _ _ _, by simp [Value.ownBlock], by simp [Value.ownBlock], by simp [Value.ownBlock], H1.out.2.2.1.trans o2, List.nodup_nil, by simp⟩
    rw [← hx, ← sz]
    exact Blk.new x1 _ _
  have sz2 : x1.heap.size = A + 2 := H1.out.2.2.2
  rw [sz2]
  clear hx H1 sz2
  go_upto_block 0 with fail
  go_cut [10] (fun va wx => ∃ ks : List Nat, ks.length ≤ 50 ∧ Hid (L1 w b A (A + 1) (A + 2) wx va ks))
  case first =>
    go_wp2_with fail
    go_loopg [10, 11] 51 (fun gk va vi wr => ∃ (k : Nat) (ks : List Nat), vi = .int .i64 k ∧ k ≤ 50 ∧ k ≤ n1 ∧ ks.length ≤ k ∧ 51 - k ≤ gk ∧ Hid (L1 w b A (A + 1) (A + 2) wr va ks))
    case atStart => exact ⟨0, [], rfl, by omega, by omega, by simp, by omega, H2.out⟩
    case round =>
      obtain ⟨k, ks, rfl, hk, hkn, hks, hg, HR⟩ := hrel
      by_cases c1 : k < n1
      · by_cases c2 : k < 50
        · have z1 : (k : Int) < (n1 : Int) := by omega
          have z2 : (k : Int) < 50 := by omega
          obtain ⟨bb, o0, rfl, lbb, hc⟩ := HC.out k c1
          have hcell : wr.cell? ⟨bb, o0 + k, none⟩ = some (.int .i64 (a1.getD k 0)) := (HR.out.only.cell lbb (by simp)).trans hc
          clear hc HC
          generalize a1.getD k 0 = x at hcell
          go_wp2_with fail
          refine (pick_any _ _ (by omega) (by omega) _).mono ?_
          rintro e w' ⟨rfl, rfl⟩
          obtain ⟨κ, hκ⟩ : ∃ κ : Nat, x % 60 = κ := ⟨(x % 60).toNat, by omega⟩
          have hκ1 : κ < 60 := by omega
          have hκ2 : (κ : Int) < 60 := by omega
          rw [hκ]
          clear hκ
          have dc : wr.cell? ⟨A + 2, κ, none⟩ = some (.bool (decide (κ ∈ ks))) := by rw [HR.out.had.cell]; exact hadL_get _ hκ1
          have df := HR.out.had.frozen κ
          by_cases hin : κ ∈ ks
          · rw [decide_eq_true hin] at dc
            go_wp2_with fail
            go_roundg (50 - k)
            case measure => omega
            case rel => exact ⟨k + 1, ks, rfl, by omega, by omega, by omega, by omega, HR.out⟩
          · rw [decide_eq_false hin] at dc
            have hrow := HR.out.rowPut κ (.bool true)
            have hsz : w.heap.size ≤ (wr.setCell ⟨A + 2, κ, none⟩ (.bool true)).heap.size := by have := HR.out.only.size; simp [World.setCell]; omega
            have HNX : Hid _ := fun z va' => HR.out.next (z := z) (va' := va') hκ1 hin (by omega) (by omega) (by omega)
            have HROW : Hid _ := hrow
            clear hrow hin
            go_upto_region 11 with fail
            generalize wr.setCell ⟨A + 2, κ, none⟩ (.bool true) = y2 at *
            go_wp2_with (at_builtin; refine app_1 rfl (.tmp 40) (.tmp 44) rfl Try.underlying30 info_int rfl rfl (by decide) w.heap.size _ ks.length _ rfl HROW.out rfl (by omega) hsz ?_; intro va' w2 x1 x2 x3; have X : Hid _ := HNX.out w2 va' x1 x2 x3; clear x1 x2 x3)
            go_roundg (50 - k)
            case measure => omega
            case rel => exact ⟨k + 1, ks ++ [κ], rfl, by omega, by omega, by simp; omega, by omega, X.out⟩
        · have z1 : (k : Int) < (n1 : Int) := by omega
          have z2 : ¬ (k : Int) < 50 := by omega
          go_wp2_with fail
          go_meet
          exact ⟨ks, by omega, HR.out⟩
      · have z1 : ¬ (k : Int) < (n1 : Int) := by omega
        go_wp2_with fail
        go_meet
        exact ⟨ks, by omega, HR.out⟩
  case rest =>
    obtain ⟨ks, hks, HK⟩ := hcut
    have HN : Hid (ks.Nodup ∧ ∀ k ∈ ks, k < 60) := ⟨HK.out.nodup, HK.out.lt⟩
    have H3 : Hid _ := HK.out.on
    clear HK H2
    obtain ⟨N, hN⟩ : ∃ N, ks.length = N := ⟨_, rfl⟩
    have form := rowForm H3.out.row
    rw [hN] at form hks
    obtain ⟨av, cv, rfl, hcv⟩ : ∃ av cv, u10 = .slice av N cv ∧ N ≤ 9223372036854775807 := by
      rcases form with ⟨h1, h2, _⟩ | ⟨g, c, h1, _, _, h4, h5, _⟩
      · exact ⟨_, _, by rw [h2]; exact h1, by omega⟩
      · exact ⟨_, _, h1, by omega⟩
    clear form
    have HL : Hid _ := hN
    clear hN
    go_wp2_with fail
    go_loopg [48] N (fun gk vi wr => ∃ (i : Nat) (s : Win.S), vi = .int .i64 i ∧ i ≤ N ∧ N - i ≤ gk ∧ Hid (L2 w b A (A + 1) wr (.slice av N cv) ks i s))
    case atStart => exact ⟨0, _, rfl, by omega, by omega, H3.out⟩
    case round =>
      obtain ⟨i, s, rfl, hi, hg, HR⟩ := hrel
      by_cases c : i < N
      · have z1 : (i : Int) < (N : Int) := by omega
        obtain ⟨κ, hκ⟩ : ∃ κ, ks.getD i 0 = κ := ⟨_, rfl⟩
        obtain ⟨g, rfl, hcell⟩ : ∃ g, av = some ⟨g, 0, none⟩ ∧ wr.cell? ⟨g, i, none⟩ = some (.int .i64 (b + κ)) := by
          rcases rowForm HR.out.row with ⟨h1, h2, _⟩ | ⟨g, cg, h1, _, _, h4, h5, h6⟩
          · rw [HL.out] at h2; omega
          · injection h1 with h1
            refine ⟨g, h1, h6 i _ ?_⟩
            rw [vals_get b ks (by rw [HL.out]; exact c), hκ]
        have hkk := get_new ks HN.out.1 (i := i) (by rw [HL.out]; exact c)
        rw [hκ] at hkk
        have NM := HR.out.noted.more (fun x hx => HN.out.2 x (List.mem_of_mem_take hx)) (HN.out.2 κ hkk.1) hkk.2
        have NC : Hid (Win.Noted b (ks.take (i + 1)) (s.note (b + κ)).1) := by
          have := NM.1.congr (ls := ks.take (i + 1))
          rw [← hκ] at this ⊢
          exact this (take_more ks (by rw [HL.out]; exact c))
        have N1 : Hid _ := NM.2
        clear NM hkk hκ
        go_wp2_with fail
        refine (note_any A s (b + κ) _ HR.out.wa).mono ?_
        rintro e y2 ⟨rfl, h1, o1, _⟩
        rw [N1.out]
        have H5 : Hid _ := HR.out.next NC.out h1 o1 (by omega) (by omega)
        clear h1 o1 N1 NC
        go_wp2_with fail
        go_roundg (N - (i + 1))
        case measure => omega
        case rel => exact ⟨i + 1, _, rfl, by omega, by omega, H5.out⟩
      · have z1 : ¬ (i : Int) < (N : Int) := by omega
        obtain rfl : i = N := by omega
        go_upto_region 18 with fail
        have L : Hid (ks.length = i) := HL.out
        have HD2 : Hid (∀ z v', Only [] wr z → z.ownsRow wr.heap.size 3 1 v' i (vals b ks) → L3 w b A (A + 1) z v' ks [] ks s Win.none) := fun z v' o hr => by
          have h2 := HR.out
          rw [← HL.out] at h2 hr
          exact h2.done HN.out.1 HN.out.2 o hr
        have form := rowForm HR.out.row
        rw [HL.out] at form
        clear H3
        go_cut [14] (fun vl wx => Hid (L3 w b A (A + 1) wx vl ks [] ks s Win.none))
        case first =>
          have E0 : Hid ((wr.alloc (.cells #[] 3)).ownsRow wr.heap.size 3 1 (.slice (some ⟨wr.heap.size, 0, none⟩) 0 0) 0 []) := World.ownsRow_lit wr #[] 0 (Nat.le_refl _) (Nat.zero_le _) rfl
          rcases form with ⟨h1, h2, h3⟩ | ⟨g, c, h1, _, h2, _, _, h3⟩
          · subst h2
            injection h1 with h1 _ hc
            subst h1
            subst hc
            have X : Hid _ := HD2.out (wr.alloc (.cells #[] 3)) (.slice (some ⟨wr.heap.size, 0, none⟩) 0 0) ((Only.refl _ _).alloc _) (h3 ▸ E0.out)
            go_wp2_with (at_builtin; refine app_none rfl (.tmp 58) (.tmp 59) rfl Try.underlying30 info_int wr.heap.size _ 0 [] rfl E0.out rfl ?_)
            go_meet
            exact X.out
          · injection h1 with h1 _ hc
            subst h1
            subst hc
            have hsrc : ∀ j u, (vals b ks)[j]? = some u → (wr.alloc (.cells #[] 3)).cell? ((⟨g, 0, none⟩ : Addr).add j) = some u := fun j u hj => by
              rw [Go.WideShapes.add_plain, Nat.zero_add, ((Only.refl [] wr).alloc (.cells #[] 3)).cell (show g < wr.heap.size from h2) (by simp)]
              exact h3 j u hj
            have HS : Hid _ := hsrc
            have hlen : (vals b ks).length = i := by rw [vals_len, HL.out]
            have HLN : Hid _ := hlen
            clear hsrc h3 hlen
            go_wp2_with (at_builtin; refine app_gen rfl (.tmp 58) (.tmp 59) rfl Try.underlying30 info_int rfl wr.heap.size _ 0 [] rfl E0.out ⟨g, 0, none⟩ i cv (vals b ks) rfl HLN.out HS.out (vals_one _ _) (by unfold maxLen; omega) (by omega) (by simp) ?_; intro v5 w5 y1 y2 _; rw [Nat.zero_add, List.nil_append] at y1; have X : Hid _ := HD2.out w5 v5 (only_new E0.out y2) y1; clear y1 y2)
            go_meet
            exact X.out
        case rest =>
          clear form HD2 c z1 hi hg HR
          generalize wr = W0 at *
          have hlen : ks.length ≤ 50 := by rw [HL.out]; exact hks
          go_wp2_with fail
          go_loopg [14, 15] 51 (fun gk vl vi wr => ∃ (j : Nat) (ds ls : List Nat) (sb : Win.S), vi = .int .i64 j ∧ j + ls.length ≤ 50 ∧ ls.length < gk ∧ Hid (L3 w b A (A + 1) wr vl ks ds ls s sb))
          case atStart => exact ⟨0, [], ks, _, rfl, by omega, by omega, hcut.out⟩
          case round =>
            obtain ⟨j, ds, ls, sb, rfl, hj, hg, HR⟩ := hrel
            obtain ⟨N, hN⟩ : ∃ N, ls.length = N := ⟨_, rfl⟩
            have form := rowForm HR.out.row
            rw [hN] at form hj hg
            by_cases h0 : N = 0
            · subst h0
              have hls : ls = [] := List.eq_nil_of_length_eq_zero hN
              have he := HR.out.end' hls
              subst he
              obtain ⟨al, cl, rfl⟩ : ∃ al cl, u14 = .slice al 0 cl := by
                rcases form with ⟨h1, h2, _⟩ | ⟨g, c, h1, _⟩
                · exact ⟨_, _, h1⟩
                · exact ⟨_, _, h1⟩
              clear form
              go_wp2_with fail
              refine (known_any _).mono ?_
              rintro e y3 ⟨rfl, o3⟩
              have H6 : Hid (Wn y3 A s ∧ Wn y3 (A + 1) s ∧ Only [] w y3) := ⟨HR.out.wa.only o3 (by simp), HR.out.wb.only o3 (by simp), HR.out.only.trans o3⟩
              clear o3 HR
              go_wp2_with fail
              refine (any_any A s _ H6.out.1).mono ?_
              rintro e w' ⟨rfl, hw⟩
              subst hw
              go_wp2_with fail
              refine (any_any (A + 1) s _ H6.out.2.1).mono ?_
              rintro e w' ⟨rfl, hw⟩
              subst hw
              go_wp2_with fail
              refine (last_any A s _ H6.out.1).mono ?_
              rintro e w' ⟨rfl, hw⟩
              subst hw
              go_wp2_with fail
              refine (last_any (A + 1) s _ H6.out.2.1).mono ?_
              rintro e w' ⟨rfl, hw⟩
              subst hw
              go_wp2_with fail
              refine (bits_any A s _ H6.out.1).mono ?_
              rintro e w' ⟨rfl, hw⟩
              subst hw
              go_wp2_with fail
              refine (bits_any (A + 1) s _ H6.out.2.1).mono ?_
              rintro e w' ⟨rfl, hw⟩
              subst hw
              go_wp2_with fail
              go_ret
              exact ⟨by simp, H6.out.2.2.below (by omega) (by simp)⟩
            · obtain ⟨g, cl, rfl, gl, hNc, hcm, hcells⟩ : ∃ g cl, u14 = .slice (some ⟨g, 0, none⟩) N cl ∧ g < wr.heap.size ∧ N ≤ cl ∧ cl ≤ 9223372036854775807 ∧ ∀ j u, (vals b ls)[j]? = some u → wr.cell? ⟨g, j, none⟩ = some u := by
                rcases form with ⟨h1, h2, _⟩ | ⟨g, c, h1, _, h2, h3, h4, h5⟩
                · exact absurd h2 h0
                · exact ⟨g, c, h1, h2, h3, h4, h5⟩
              have HCL : Hid _ := hcells
              have HLN : Hid _ := hN
              clear form hcells hN
              have z0 : (0 : Int) < (N : Int) := by omega
              go_upto_if 69 with fail
              go_cut [16] (fun vk wx => ∃ κ : Nat, vk = .int .i64 κ ∧ κ < N ∧ wx = wr)
              case first =>
                by_cases c : j < n2
                · have z1 : (j : Int) < (n2 : Int) := by omega
                  obtain ⟨bb, o0, rfl, lbb, hc⟩ := HD.out j c
                  have hcell : wr.cell? ⟨bb, o0 + j, none⟩ = some (.int .i64 (a2.getD j 0)) := (HR.out.only.cell lbb (by simp)).trans hc
                  clear hc HD
                  generalize a2.getD j 0 = x at hcell
                  go_wp2_with fail
                  refine (pick_any _ _ (by omega) (by omega) _).mono ?_
                  rintro e w' ⟨rfl, rfl⟩
                  have q1 := Int.emod_nonneg x (show (N : Int) ≠ 0 by omega)
                  have q2 := Int.emod_lt_of_pos x z0
                  obtain ⟨κ, hκ⟩ : ∃ κ : Nat, x % (N : Int) = κ := ⟨(x % (N : Int)).toNat, by omega⟩
                  rw [hκ]
                  go_wp2_with fail
                  go_meet
                  exact ⟨κ, rfl, by omega, rfl⟩
                · have z1 : ¬ (j : Int) < (n2 : Int) := by omega
                  go_wp2_with fail
                  go_meet
                  exact ⟨0, rfl, by omega, rfl⟩
              case rest =>
                obtain ⟨κ, rfl, hκ, rfl⟩ := hcut
                have nt := HR.out.note (z := wc) (i := κ) (by rw [HLN.out]; exact hκ)
                have hcell := HCL.out κ _ (vals_get b ls (by rw [HLN.out]; exact hκ))
                obtain ⟨x, hx⟩ : ∃ x, ls.getD κ 0 = x := ⟨_, rfl⟩
                rw [hx] at nt hcell
                have N1 : Hid _ := nt.1
                have NX : Hid _ := nt.2
                clear nt hx
                have zk : (κ : Int) < (N : Int) := by omega
                go_wp2_with fail
                refine (note_any (A + 1) sb (b + x) _ HR.out.wb).mono ?_
                rintro e y2 ⟨rfl, h1, o1, s1⟩
                rw [N1.out]
                have NY : Hid _ := NX.out y2 h1 o1 (by omega) (by omega)
                have SRC : Hid (g < y2.heap.size ∧ ∀ j u, (vals b ls)[j]? = some u → y2.cell? ⟨g, j, none⟩ = some u) := by
                  refine ⟨by omega, fun j u hj => ?_⟩
                  rw [o1.cell (show g < wc.heap.size from gl) (by
                    have := HR.out.nb
                    simpa [Value.ownBlock] using this)]
                  exact HCL.out j u hj
                clear h1 o1 N1 NX HCL hcell
                go_wp2_with fail
                obtain ⟨q, hq⟩ : ∃ q, q = κ + 1 := ⟨_, rfl⟩
                have LE : Hid ((ls.eraseIdx κ).length = N - 1) := by
                  show _ = _
                  rw [List.length_eraseIdx_of_lt (by rw [HLN.out]; exact hκ), HLN.out]
                have OE1 : Aside ((y2.alloc (.cells #[] 3)).drew.ownsRow y2.heap.size 3 1 (.slice (some ⟨y2.heap.size, 0, none⟩) 0 0) 0 []) := own_empty (heap_alloc_new y2 _) (Nat.le_refl _)
                have BE1 : Aside (Below y2.heap.size y2 (y2.alloc (.cells #[] 3)).drew) := Below.drew ((Below.refl _ _).alloc (Nat.le_refl _) _)
                have SR1 : Aside (g < y2.heap.size ∧ ∀ j u, (vals b (ls.take κ))[j]? = some u → y2.cell? ⟨g, j, none⟩ = some u) := by
                  refine ⟨SRC.out.1, fun j u hj => SRC.out.2 j u ?_⟩
                  unfold vals at hj ⊢
                  rw [List.getElem?_map, List.getElem?_take] at hj
                  rw [List.getElem?_map]
                  split at hj
                  · exact hj
                  · cases hj
                have SR2 : Aside (g < y2.heap.size ∧ ∀ j u, (vals b (ls.drop q))[j]? = some u → y2.cell? ⟨g, q + j, none⟩ = some u) := by
                  refine ⟨SRC.out.1, fun j u hj => SRC.out.2 (q + j) u ?_⟩
                  unfold vals at hj ⊢
                  rw [List.getElem?_map, List.getElem?_drop] at hj
                  rw [List.getElem?_map]
                  exact hj
                have LA : Aside ((vals b (ls.take κ)).length = κ ∧ ∀ u ∈ vals b (ls.take κ), u.oneCell' = true) := by
                  refine ⟨?_, vals_one _ _⟩
                  rw [vals_len, List.length_take, HLN.out]; omega
                have LB : Aside ((vals b (ls.drop q)).length = N - q ∧ ∀ u ∈ vals b (ls.drop q), u.oneCell' = true) := by
                  refine ⟨?_, vals_one _ _⟩
                  rw [vals_len, List.length_drop, HLN.out]
                have NZ : Hid (∀ (z' : World) (v' : Value), Only [] y2 z' → z'.ownsRow y2.heap.size 3 1 v' (κ + (N - q)) (vals b (ls.take κ) ++ vals b (ls.drop q)) → L3 w b A (A + 1) z' v' ks (x :: ds) (ls.eraseIdx κ) s (sb.note (b + (x : Nat))).1) := fun z' v' o hr => by
                  refine NY.out z' v' o ?_
                  rw [HLN.out, show N - 1 = κ + (N - q) by omega, ← hq]
                  exact hr
                have HN1 : Aside (κ ≤ 100) := by show _ ≤ _; omega
                have HN2 : Aside (κ + (N - q) ≤ 200) := by show _ ≤ _; omega
                have x1 : (0 : Int) ≤ (κ : Int) := by omega
                have x2 : (κ : Int) ≤ (N : Int) := by omega
                have x3 : (N : Int) ≤ (cl : Int) := by omega
                have x4 : (κ : Int) ≤ (cl : Int) := by omega
                have x5 : (0 : Int) ≤ (q : Int) := by omega
                have x6 : (q : Int) ≤ (N : Int) := by omega
                have x7 : (q : Int) ≤ (cl : Int) := by omega
                have hNq : q ≤ N := by omega
                have x9 : IntKind.i64.wrap ((κ : Int) + 1) = (q : Int) := by rw [IntWalk.i64_in _ (by omega)]; omega
                clear NY SRC s1 hq gl zk
                by_cases hcap : q = cl
                · subst hcap
                  have e0 : N - q = 0 := by omega
                  rw [e0] at LB HN2 NZ
                  have HAD : Aside (0 = 0 ∨ (⟨g, 0, none⟩ : Addr) = ⟨g, q, none⟩) := Or.inl rfl
                  clear e0
                  go_region_held3 (fun _ => True) (trivial) (first | ((refine st3 (by rfl) (.tmp 87) (.tmp 91) (by rfl) _ κ _ _ ⟨g, 0, none⟩ g q 0 _ (by rfl) (by rfl) X1.out B1.out SR2.out LB.out HAD.out HN2.out ?_; intro v3 w3 z1 z2; have X3 : Aside _ := z1; have B3 : Aside _ := z2; clear z1 z2)) | ((refine st1 (by rfl) (.tmp 83) (.tmp 86) (by rfl) _ g y2.heap.size κ _ (by rfl) (by rfl) OE1.out BE1.out SR1.out LA.out HN1.out ?_; intro v1 w1 x1 x2; have X1 : Aside _ := x1; have B1 : Aside _ := x2; clear x1 x2)))
                  all_goals (
                    have FIN : Hid _ := NZ.out w3 v3 (below_only B3.out) X3.out
                    go_wp2_with fail
                    go_roundg N
                    case measure => omega
                    case rel => exact ⟨j + 1, x :: ds, ls.eraseIdx κ, _, rfl, by rw [LE.out]; omega, by rw [LE.out]; omega, FIN.out⟩)
                · have hcap' : ¬ cl = q := fun e => hcap e.symm
                  have HAD : Aside (N - q = 0 ∨ (⟨g, q, none⟩ : Addr) = ⟨g, q, none⟩) := Or.inr rfl
                  go_region_held3 (fun _ => True) (trivial) (first | ((refine st3 (by rfl) (.tmp 87) (.tmp 91) (by rfl) _ κ _ _ ⟨g, q, none⟩ g q (N - q) _ (by rfl) (by rfl) X1.out B1.out SR2.out LB.out HAD.out HN2.out ?_; intro v3 w3 z1 z2; have X3 : Aside _ := z1; have B3 : Aside _ := z2; clear z1 z2)) | ((refine st1 (by rfl) (.tmp 83) (.tmp 86) (by rfl) _ g y2.heap.size κ _ (by rfl) (by rfl) OE1.out BE1.out SR1.out LA.out HN1.out ?_; intro v1 w1 x1 x2; have X1 : Aside _ := x1; have B1 : Aside _ := x2; clear x1 x2)))
                  all_goals (
                    have FIN : Hid _ := NZ.out w3 v3 (below_only B3.out) X3.out
                    go_wp2_with fail
                    go_roundg N
                    case measure => omega
                    case rel => exact ⟨j + 1, x :: ds, ls.eraseIdx κ, _, rfl, by rw [LE.out]; omega, by rw [LE.out]; omega, FIN.out⟩)

set_option maxRecDepth 100000 in
theorem lifted (os : Os) (started : os.Started) (H : Type) (enc : TypeId × Value → H) :
    ReturnsInHanded {} Try.checked os 6 .any (Rows.windowOrdersSpec.pre6 enc Try.prog Try.f6 Rows.windowOrdersRow.domain false) (Rows.windowOrdersSpec.post enc Try.prog Try.f6 false true false false) := by
  refine returnsInHanded_of_change (C := Try.checked) own started (by kernel_rfl) Try.func6
    (ChangeSpec.witness6 (enc := enc) (C := Try.checked) false ⟨#[], #[.int .i64 0, .slice none 0 0, .slice none 0 0], []⟩ 8 (by kernel_rfl) (by kernel_rfl) (by kernel_rfl) (by kernel_rfl)) ?_
  intro W base args ds gs before hval0 hW hcnd _
  have hval : ∀ (j : Nat) t v, Try.f6.params[j]? = some t → args[j]? = some v → Value.okWide Try.prog W .any base t v := hval0
  have hW' := hW
  obtain ⟨p, q, hA0, hV, rfl, hfz, hnd⟩ := hW
  have hA : DataW.TrodAll enc Try.prog W 0 (fun _ => true) true Try.f6.params.toList args.toList ds p := hA0
  rw [Try.params6] at hA hval
  obtain ⟨v0, vs0, d0, ds0, p0, q0, hargs, rfl, rfl, h0, r0⟩ := trodAll_cons hA
  obtain ⟨v1, vs1, d1, ds1, p1, q1, rfl, rfl, rfl, h1, r1⟩ := trodAll_cons r0
  obtain ⟨v2, vs2, d2, ds2, p2, q2, rfl, rfl, rfl, h2, r2⟩ := trodAll_cons r1
  obtain ⟨rfl, rfl, rfl⟩ := trodAll_nil r2
  obtain rfl : args = #[v0, v1, v2] := by cases args; simp_all
  obtain ⟨rfl, rfl⟩ := trodVars_none hV
  obtain ⟨a0, rfl, rfl, rfl, w0⟩ := open_int Try.underlying3 (hval 0 3 v0 rfl rfl) h0
  obtain ⟨e1, len1, cap1, rfl⟩ := okWide_slice Try.underlying30 (hval 1 30 v1 rfl rfl)
  have k1 := h1
  have lt1 : ∀ x ∈ p1, x.block < W.heap.size := by obtain ⟨m, hm⟩ := k1; exact DataW.trod_lt m _ _ _ hm
  obtain ⟨a1, w1⟩ := came_i Try.underlying30 Try.underlying3 (by kernel_rfl) h1
  obtain ⟨e2, len2, cap2, rfl⟩ := okWide_slice Try.underlying30 (hval 2 30 v2 rfl rfl)
  have k2 := h2
  have lt2 : ∀ x ∈ p2, x.block < W.heap.size := by obtain ⟨m, hm⟩ := k2; exact DataW.trod_lt m _ _ _ hm
  obtain ⟨a2, w2⟩ := came_i Try.underlying30 Try.underlying3 (by kernel_rfl) h2
  clear hA0 hval0
  refine (walk a0 _ a1 _ a2 W w0 w1 w2).mono fun e W' ⟨he, bel⟩ => ?_
  subst he
  exact ⟨_, rfl, _, _, _, [], _, [], hW', trodAll_mk1 (shut_bool Try.underlying4 _), (trodAll_cons_mk (shut_int Try.underlying3 w0) (trodAll_cons_mk (Below.trod laidOut (by kernel_rfl) (of_decide_eq_true (by kernel_rfl)) k1 bel lt1) (trodAll_cons_mk (Below.trod laidOut (by kernel_rfl) (of_decide_eq_true (by kernel_rfl)) k2 bel lt2) trodAll_mk0))), rfl, bel.frame _, fun h => by cases h⟩

theorem over : Rows.windowOrdersRow.holds Try.pinned (OpenSpec.ofChange Rows.windowOrdersSpec) :=
  OpenClaim.holds_of_wide 6 Try.f6 rfl rfl rfl rfl rfl rfl rfl ⟨rfl, rfl, rfl, rfl, rfl⟩ rfl rfl rfl rfl rfl (by kernel_rfl) Try.func6 (by kernel_rfl)
    (of_decide_eq_true (by kernel_rfl)) (by unfold Func.isWrapper; first | (rw [if_pos (by decide +kernel)]; kernel_rfl) | (rw [if_neg (by decide +kernel)]; exact ⟨rfl, rfl⟩))
    (fun os started H enc _ => lifted os started H enc)

/-- THE STATEMENT -/
theorem proved : Rows.WindowOrdersSaid := over
end Go.Proofs.Ytfikpkoocbiinaa.windowOrders

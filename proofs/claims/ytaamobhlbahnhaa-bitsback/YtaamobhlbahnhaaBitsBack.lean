/- Proved: BitsBack returns true, for every list of Fields. No condition. -/
import Derived.Test.YtaamobhlbahnhaaFieldE
import Derived.Test.YtaamobhlbahnhaaRegBy3
import Derived.Deep.DeepCutAuto
import Derived.Deep.CutBlock
namespace Go.Proofs.Ytaamobhlbahnhaa.bitsBack
open Go.ChangeShapes Go.WideShapes Go.ChangeAt Go.RowKit Bit
set_option linter.unusedVariables false

/-- the size of the i-th, its bits -/
def kk (N : Nat → Int) (i : Nat) : Nat := (1 + N i % 64).toNat
theorem kk_bd (N : Nat → Int) (i : Nat) : 1 ≤ kk N i ∧ kk N i ≤ 64 := by unfold kk; omega
/-- int(V) >> (64 - k) -/
def sh (V : Nat → Nat) (N : Nat → Int) (i : Nat) : Int := IntKind.i64.wrap (V i : Int) / 2 ^ (64 - kk N i)
def fb (V : Nat → Nat) (N : Nat → Int) (G : Nat → Bool) (i : Nat) : List Bool := if G i then bitsOf (sh V N i % 18446744073709551616).toNat (kk N i) else bitsOf (V i) (kk N i)
def all (V : Nat → Nat) (N : Nat → Int) (G : Nat → Bool) : Nat → List Bool
  | 0 => []
  | i + 1 => all V N G i ++ fb V N G i
theorem fb_len (V : Nat → Nat) (N : Nat → Int) (G : Nat → Bool) (i : Nat) : (fb V N G i).length = kk N i := by unfold fb; split <;> simp
theorem all_len (V : Nat → Nat) (N : Nat → Int) (G : Nat → Bool) (i : Nat) : (all V N G i).length ≤ 64 * i := by
  induction i with
  | zero => simp [all]
  | succ i ih => rw [all, List.length_append, fb_len]; have := kk_bd N i; omega
theorem all_pre (V : Nat → Nat) (N : Nat → Int) (G : Nat → Bool) (m i : Nat) (h : i ≤ m) : ∃ r, all V N G m = all V N G i ++ r := by
  induction m with
  | zero => exact ⟨[], by rw [show i = 0 by omega]; simp⟩
  | succ m ih =>
    by_cases e : i = m + 1
    · exact ⟨[], by rw [e]; simp⟩
    · obtain ⟨r, hr⟩ := ih (by omega)
      exact ⟨r ++ fb V N G m, by rw [all, hr, List.append_assoc]⟩
/-- what is taken back at the i-th -/
theorem back (V : Nat → Nat) (N : Nat → Int) (G : Nat → Bool) (m i : Nat) (h : i < m) : takenN (pack (all V N G m)) (all V N G i).length (kk N i) = num (fb V N G i) := by
  unfold takenN
  obtain ⟨r, hr⟩ := all_pre V N G m (i + 1) h
  rw [bits_pack, hr, all, List.append_assoc, List.append_assoc, List.drop_left, List.take_append_of_le_length (by rw [fb_len]; exact Nat.le_refl _), List.take_of_length_le (by rw [fb_len]; exact Nat.le_refl _)]
theorem sh_bd (V : Nat → Nat) (N : Nat → Int) (i : Nat) : -2 ^ (kk N i - 1) ≤ sh V N i ∧ sh V N i < 2 ^ (kk N i - 1) := by
  have hk := kk_bd N i
  unfold sh
  rw [wrap_i64]
  generalize hx : ((V i : Int) + 9223372036854775808) % 18446744073709551616 - 9223372036854775808 = x
  have hx1 : -9223372036854775808 ≤ x ∧ x < 9223372036854775808 := by omega
  clear hx
  have e : (2 : Int) ^ (kk N i - 1) * 2 ^ (64 - kk N i) = 9223372036854775808 := by rw [← Int.pow_add, show kk N i - 1 + (64 - kk N i) = 63 by omega]; rfl
  have hp : (0 : Int) < 2 ^ (64 - kk N i) := Int.pow_pos (by decide)
  generalize (2 : Int) ^ (64 - kk N i) = t at *
  generalize (2 : Int) ^ (kk N i - 1) = s at *
  refine ⟨?_, ?_⟩
  · refine (Int.le_ediv_iff_mul_le hp).2 ?_
    rw [Int.neg_mul]; omega
  · refine (Int.ediv_lt_iff_lt_mul hp).2 ?_
    omega
theorem back_s (V : Nat → Nat) (N : Nat → Int) (G : Nat → Bool) (i : Nat) (hG : G i = true) : sgn (kk N i) (num (fb V N G i)) = sh V N i := by
  have hk := kk_bd N i
  have hb := sh_bd V N i
  unfold fb
  rw [if_pos hG, num_bitsOf]
  have e : ((sh V N i % 18446744073709551616).toNat % 2 ^ kk N i) = (sh V N i % 2 ^ kk N i).toNat := by
    have hp : (2 : Int) ^ kk N i ∣ 18446744073709551616 := ⟨2 ^ (64 - kk N i), by rw [← Int.pow_add, show kk N i + (64 - kk N i) = 64 by omega]; rfl⟩
    have h0 : (0 : Int) ≤ sh V N i % 18446744073709551616 := Int.emod_nonneg _ (by decide)
    have h1 : (0 : Int) ≤ sh V N i % 2 ^ kk N i := Int.emod_nonneg _ (Int.ne_of_gt (Int.pow_pos (by decide)))
    have h2 : (((sh V N i % 18446744073709551616).toNat % 2 ^ kk N i : Nat) : Int) = ((sh V N i % 2 ^ kk N i).toNat : Int) := by
      rw [Int.toNat_of_nonneg h1, Int.natCast_emod, Int.toNat_of_nonneg h0]
      simp only [Int.natCast_pow, Int.cast_ofNat_Int]
      exact Int.emod_emod_of_dvd _ hp
    omega
  rw [e]
  exact sgn_back _ _ (by omega) hb.1 hb.2
theorem back_n (V : Nat → Nat) (N : Nat → Int) (G : Nat → Bool) (i : Nat) (hG : G i = false) : num (fb V N G i) = V i % 2 ^ kk N i := by
  unfold fb
  rw [if_neg (by rw [hG]; simp), num_bitsOf]
theorem left_zero (l : List Bool) : takenN (pack l) l.length (8 * (pack l).length - l.length) = 0 := by
  unfold takenN
  rw [bits_pack, List.drop_left, pack_length]
  rw [List.take_of_length_le (by simp)]
  exact num_zeros _
theorem sz_nat (n : Nat) (h : n ≤ 64) : sz (n : Int) = n := by unfold sz; omega

set_option maxRecDepth 100000 in
set_option maxHeartbeats 4000000 in
theorem walk (s0 : Value) (n0 : Nat) (a0 : Nat → List Value) (w : World) (w0 : CameG 3 FieldE w s0 n0 a0) :
    Calls Try.prog 6 #[s0] w fun e w' => e = .returned (.bool true) ∧ Below w.heap.size w w' := by
  have hnot : ∀ (x : Bool) (w : World), (Op.unary .not (.bool x)).run Try.prog w = .ok (.bool (!x)) w := fun _ _ => rfl
  obtain ⟨a, cap, V, N, G, rfl, hn0, fl⟩ := flds_of w0
  clear w0 a0
  have FL : Hid (Flds w.heap.size w a n0 V N G) := fl
  clear fl
  obtain ⟨M, hM⟩ : ∃ M, min n0 30 = M := ⟨_, rfl⟩
  have hM30 : M ≤ 30 := by omega
  have HM : Hid _ := hM
  clear hM
  go_enter Try.func6, Try.ntmps6
  go_wp2_with fail
  refine (newWriter_any w).mono ?_
  rintro e x1 ⟨rfl, h1, o1, s1⟩
  have H1 : Hid _ := And.intro h1 o1
  clear h1 o1 s1
  go_wp2_with fail
  refine (known_any x1).mono ?_
  rintro e x2 ⟨rfl, o2⟩
  have H2 : Hid (Wr w.heap.size x2 w.heap.size (.slice none 0 0) [] ∧ Only [] w x2) := ⟨H1.out.1.only o2 (by simp) (by simp), H1.out.2.trans o2⟩
  clear o2 H1
  obtain ⟨B, hB⟩ : ∃ B, w.heap.size = B := ⟨_, rfl⟩
  have HB : Hid _ := hB
  rw [hB] at H2 FL
  rw [hB]
  clear hB
  go_upto_block 0 with fail
  go_cut [4] (fun vn wx => ∃ sv, vn = .int .i64 ((all V N G M).length : Nat) ∧ Hid (Wr B wx B sv (all V N G M) ∧ Only [] w wx))
  case first =>
   go_wp2_with fail
   go_loopg [4, 5] 31 (fun gk vn vi wr => ∃ (j : Nat) (sv : Value), vi = .int .i64 j ∧ vn = .int .i64 ((all V N G j).length : Nat) ∧ j ≤ M ∧ 31 - j ≤ gk ∧ Hid (Wr B wr B sv (all V N G j) ∧ Only [] w wr))
   case atStart => exact ⟨0, .slice none 0 0, rfl, rfl, by omega, by omega, H2.out⟩
   case round =>
     obtain ⟨j, sv, rfl, rfl, hj, hg, HR⟩ := hrel
     have hal := all_len V N G j
     by_cases hlt : j < M
     · have z1 : (j : Int) < (n0 : Int) := by have := HM.out; omega
       have z2 : (j : Int) < 30 := by omega
       obtain ⟨hV, b, o, rfl, hbB, hbw, c0, c1, c2⟩ := Flds.only FL.out HR.out.2 (by simp) j (by omega)
       have hk := kk_bd N j
       have ek : 1 + N j % 64 = (kk N j : Int) := by unfold kk; omega
       have hwB : B ≤ wr.heap.size := by have := HR.out.2.size; have := HB.out; omega
       have al : all V N G (j + 1) = all V N G j ++ fb V N G j := rfl
       have AL : Hid _ := al
       have fbl := fb_len V N G j
       have FBL : Hid _ := fbl
       have EK : Hid _ := ek
       have DSH : Hid (sh V N j = IntKind.i64.wrap (V j : Int) / 2 ^ (64 - kk N j)) := rfl
       have DFB : Hid (fb V N G j = if G j then bitsOf (sh V N j % 18446744073709551616).toNat (kk N j) else bitsOf (V j) (kk N j)) := rfl
       clear ek al fbl
       generalize fb V N G j = F at *
       generalize sh V N j = X at *
       generalize hA : all V N G j = A at *
       have HA : Hid _ := hA
       clear hA
       go_wp2_with fail
       refine (pick_any _ _ (by omega) (by omega) _).mono ?_
       rintro e w' ⟨rfl, rfl⟩
       obtain ⟨K, hK⟩ : ∃ K, kk N j = K := ⟨_, rfl⟩
       have eN : N j % 64 = (K : Int) - 1 := by have := EK.out; omega
       rw [hK] at hk FBL DSH DFB
       rw [eN]
       have HK : Hid _ := hK
       clear eN hK EK
       obtain ⟨gj, hgj⟩ : ∃ gj, G j = gj := ⟨_, rfl⟩
       rw [hgj] at c2 DFB
       have HG : Hid _ := hgj
       clear hgj
       cases gj
       · go_wp2_with fail
         rw [show (1 : Int) + ((K : Int) - 1) = K by omega]
         refine (put_any B B (V j) K hV A (by omega) sv wr HR.out.1 hwB).mono ?_
         rintro e x3 ⟨rfl, sv3, h3, m3⟩
         have H3 : Hid (Wr B x3 B sv3 (all V N G (j + 1)) ∧ Only [] w x3) := by
           refine ⟨?_, m3.own HR.out.2 (by rw [HB.out]; exact Nat.le_refl _) (by rw [HB.out]; exact HR.out.1.from)⟩
           rw [AL.out, DFB.out, if_neg (by simp)]
           rw [sz_nat K hk.2] at h3
           exact h3
         clear h3 m3 HR
         go_wp2_with fail
         go_roundg (31 - (j + 1))
         case measure => omega
         case rel => exact ⟨j + 1, sv3, by go_num, by rw [AL.out, List.length_append, FBL.out]; go_num, by omega, Nat.le_refl _, H3.out⟩
       · go_wp2_with fail
         rw [show (1 : Int) + ((K : Int) - 1) = K by omega, ← IntWalk.i64_left, ← DSH.out]
         refine (signed_any B B X K A (by omega) sv wr HR.out.1 hwB).mono ?_
         rintro e x3 ⟨rfl, sv3, h3, m3⟩
         have H3 : Hid (Wr B x3 B sv3 (all V N G (j + 1)) ∧ Only [] w x3) := by
           refine ⟨?_, m3.own HR.out.2 (by rw [HB.out]; exact Nat.le_refl _) (by rw [HB.out]; exact HR.out.1.from)⟩
           rw [AL.out, DFB.out, if_pos (by simp)]
           rw [sz_nat K hk.2] at h3
           exact h3
         clear h3 m3 HR
         go_wp2_with fail
         go_roundg (31 - (j + 1))
         case measure => omega
         case rel => exact ⟨j + 1, sv3, by go_num, by rw [AL.out, List.length_append, FBL.out]; go_num, by omega, Nat.le_refl _, H3.out⟩
     · obtain rfl : j = M := by omega
       have HF : Hid (¬ ((j : Int) < (n0 : Int) ∧ (j : Int) < 30)) := by have := HM.out; show ¬ _; omega
       by_cases z1 : (j : Int) < (n0 : Int)
       · have z2 : ¬ (j : Int) < 30 := fun h => HF.out ⟨z1, h⟩
         go_wp2_with fail
         go_meet
         exact ⟨sv, rfl, HR.out⟩
       · go_wp2_with fail
         go_meet
         exact ⟨sv, rfl, HR.out⟩
  case rest =>
   obtain ⟨sv, rfl, H3⟩ := hcut
   have hal := all_len V N G M
   clear H2
   obtain ⟨L, hL⟩ : ∃ L, all V N G M = L := ⟨_, rfl⟩
   rw [hL] at hal H3
   rw [hL]
   have HL : Hid _ := hL
   clear hL
   obtain ⟨Z, hZ⟩ : ∃ Z, L.length = Z := ⟨_, rfl⟩
   rw [hZ] at hal
   rw [hZ]
   have HZ : Hid _ := hZ
   have lL : L.length ≤ 1000000000 := by omega
   have hP : (pack L).length = (Z + 7) / 8 := by rw [pack_length, hZ]
   obtain ⟨p8, hp8⟩ : ∃ p8, (Z + 7) / 8 = p8 := ⟨_, rfl⟩
   rw [hp8] at hP
   have HP : Hid _ := hP
   have P8 : Hid _ := hp8
   have hq : ((Z : Int) + 7) / 8 = (p8 : Int) := by omega
   have lP : p8 ≤ 1000 := by omega
   have LL : Hid _ := lL
   clear hZ hP lL hp8
   go_wp2_with fail
   refine (bytes_any B B sv L LL.out wc H3.out.1).mono ?_
   rintro e x3 ⟨v3, rfl, r3, o3⟩
   have H4 : Hid (RowB wc.heap.size x3 v3 (pack L) ∧ Wr B x3 B sv L ∧ Only [] w x3) := ⟨r3, H3.out.1.only o3 (by simp) (by simp), H3.out.2.trans o3⟩
   clear r3 o3 H3
   go_wp2_with fail
   refine (newReader_any v3 (pack L) x3 (H4.out.1.read (pack_lt _)) (by rw [HP.out]; omega)).mono ?_
   rintro e x4 ⟨b, sv4, rfl, hb, hsv, h4, o4⟩
   have H5 : Hid (Rd x4 b sv4 (pack L) 0 ∧ Wr B x4 B sv L ∧ Only [] w x4) := ⟨h4, H4.out.2.1.only o4 (by simp) (by simp), H4.out.2.2.trans o4⟩
   have bB : B ≤ b := by have := H4.out.2.2.size; have := HB.out; omega
   have sB : Hid (∀ g, sv4.ownBlock = some g → B ≤ g) := by
     show ∀ g, _ → _
     intro g hg; have := hsv g hg; have := H4.out.2.2.size; have := HB.out; omega
   clear h4 o4 H4 hsv hb
   go_wp2_with fail
   refine (len_any B B sv L x4 H5.out.2.1).mono ?_
   rintro e x4 ⟨rfl, rfl⟩
   rw [HZ.out]
   go_wp2_with fail
   refine (bytes_any B B sv L LL.out x4 H5.out.2.1).mono ?_
   rintro e x5 ⟨v5, rfl, r5, o5⟩
   obtain ⟨_, a5, c5, rfl, _⟩ := r5.read (pack_lt _)
   rw [HP.out]
   have H6 : Hid (Rd x5 b sv4 (pack L) 0 ∧ Only [] w x5) := ⟨H5.out.1.only o5 (by simp) (by simp), H5.out.2.2.trans o5⟩
   clear r5 o5 H5
   go_upto_block 2 with fail
   have HQ : Hid _ := hq
   clear hq
   go_cut [] (fun wx => Hid (Rd wx b sv4 (pack L) Z ∧ Only [] w wx))
   case first =>
    go_wp2_with fail
    go_loopg [8] 31 (fun gk vi wr => ∃ (j : Nat), vi = .int .i64 j ∧ j ≤ M ∧ 31 - j ≤ gk ∧ Hid (Rd wr b sv4 (pack L) (all V N G j).length ∧ Only [] w wr))
    case atStart => exact ⟨0, rfl, by omega, by omega, H6.out⟩
    case round =>
      obtain ⟨j, rfl, hj, hg, HR⟩ := hrel
      by_cases hlt : j < M
      · have z0 : (0 : Int) ≤ (j : Int) := by omega
        have z1 : (j : Int) < (n0 : Int) := by have := HM.out; omega
        have z2 : (j : Int) < 30 := by omega
        obtain ⟨hV, b0, o, rfl, hbB, hbw, c0, c1, c2⟩ := Flds.only FL.out HR.out.2 (by simp) j (by omega)
        have hk := kk_bd N j
        obtain ⟨K, hK⟩ : ∃ K, kk N j = K := ⟨_, rfl⟩
        have eN : N j % 64 = (K : Int) - 1 := by have : 1 + N j % 64 = (kk N j : Int) := by { unfold kk; omega }
                                                 omega
        have bk := back V N G M j hlt
        obtain ⟨p, hp⟩ : ∃ p, (all V N G j).length = p := ⟨_, rfl⟩
        have hp1 : (all V N G (j + 1)).length = p + K := by rw [all, List.length_append, fb_len, hp, hK]
        have hfit : p + K ≤ 8 * (pack L).length := by
          obtain ⟨r, hr⟩ := all_pre V N G M (j + 1) hlt
          have e : L.length = (all V N G (j + 1)).length + r.length := by rw [← HL.out, hr, List.length_append]
          rw [pack_length]; omega
        rw [hp] at HR bk
        rw [HL.out, hK] at bk
        have BK : Hid _ := bk
        have HP1 : Hid _ := hp1
        have HFIT : Hid _ := hfit
        have BS : Hid (G j = true → sgn K (num (fb V N G j)) = sh V N j) := fun h => by rw [← hK]; exact back_s V N G j h
        have BN : Hid (G j = false → num (fb V N G j) = V j % 2 ^ K) := fun h => by rw [← hK]; exact back_n V N G j h
        have DSH : Hid (sh V N j = IntKind.i64.wrap (V j : Int) / 2 ^ (64 - K)) := by rw [← hK]; exact rfl
        rw [hK] at hk
        have HK : Hid _ := hK
        have EN : Hid _ := eN
        have PP : Hid _ := hp
        clear hp bk hp1 hfit eN hK
        obtain ⟨gj, hgj⟩ : ∃ gj, G j = gj := ⟨_, rfl⟩
        rw [hgj] at c2 BS BN
        clear hgj
        go_wp2_with fail
        refine (pick_any _ _ (by omega) (by omega) _).mono ?_
        rintro e w' ⟨rfl, rfl⟩
        rw [EN.out]
        cases gj
        · obtain ⟨W, hW⟩ : ∃ W, V j % 2 ^ K = W := ⟨_, rfl⟩
          have TK : Hid (takenN (pack L) p K = W) := by
            have := BN.out rfl
            show _ = _
            rw [BK.out, this, hW]
          have TAIL : Hid (∀ y, Rd y b sv4 (pack L) p → Calls Try.prog 16 #[.pointer (some ⟨b, 0, none⟩), .int .i64 (K : Int)] y fun e y' => e = .returned (.int .u64 (W : Int)) ∧ Rd y' b sv4 (pack L) (p + K) ∧ Only [b] y y') := by
            show ∀ y, _ → _
            intro y hy
            refine (get_any b sv4 (pack L) p K (by rw [HP.out]; omega) y hy (by rw [sz_nat K hk.2]; exact HFIT.out)).mono ?_
            rintro e y' ⟨rfl, h1, h2⟩
            rw [sz_nat K hk.2] at h1
            exact ⟨by rw [sz_nat K hk.2, TK.out], h1, h2⟩
          by_cases hk64 : K < 64
          · have l64 : (1 : Int) + ((K : Int) - 1) < 64 := by omega
            have q1 : 2 ^ K ≤ 9223372036854775808 := by
              have := Nat.pow_le_pow_right (show 0 < 2 by decide) (show K ≤ 63 by omega)
              simpa using this
            have q0 := Nat.two_pow_pos K
            have e1 : IntKind.u64.wrap ((2 : Int) ^ K) = ((2 ^ K : Nat) : Int) := by
              rw [wrap_u64, show (2 : Int) ^ K = ((2 ^ K : Nat) : Int) by simp]; omega
            obtain ⟨q, hq'⟩ : ∃ q, 2 ^ K = q := ⟨_, rfl⟩
            rw [hq'] at e1 q0 q1 hW
            have e2 : (V j : Int) % (q : Int) = (W : Int) := by rw [← hW]; simp
            have e3 : ¬ (q : Int) = 0 := by omega
            have HW : Hid _ := hW
            clear hq' hW q0 q1 BN BS DSH
            go_wp2_with fail
            rw [show (1 : Int) + ((K : Int) - 1) = K by omega]
            refine (TAIL.out wr HR.out.1).mono ?_
            rintro e x7 ⟨rfl, h7, o7⟩
            have H7 : Hid (Rd x7 b sv4 (pack L) (p + K) ∧ Only [] w x7) := ⟨h7, HR.out.2.then o7 (by simp; have := HB.out; omega)⟩
            clear h7 o7 HR TAIL
            go_wp2_with fail
            go_roundg (31 - (j + 1))
            case measure => omega
            case rel => exact ⟨j + 1, by go_num, by omega, Nat.le_refl _, by rw [HP1.out]; exact H7.out⟩
          · have l64 : ¬ (1 : Int) + ((K : Int) - 1) < 64 := by omega
            have hW2 : V j = W := by rw [← hW, show K = 64 by omega]; exact (Nat.mod_eq_of_lt hV).symm
            have HW2 : Hid _ := hW2
            clear hW hW2 BN BS DSH
            go_wp2_with fail
            rw [show (1 : Int) + ((K : Int) - 1) = K by omega, HW2.out]
            refine (TAIL.out wr HR.out.1).mono ?_
            rintro e x7 ⟨rfl, h7, o7⟩
            have H7 : Hid (Rd x7 b sv4 (pack L) (p + K) ∧ Only [] w x7) := ⟨h7, HR.out.2.then o7 (by simp; have := HB.out; omega)⟩
            clear h7 o7 HR TAIL
            go_wp2_with fail
            go_roundg (31 - (j + 1))
            case measure => omega
            case rel => exact ⟨j + 1, by go_num, by omega, Nat.le_refl _, by rw [HP1.out]; exact H7.out⟩
        · go_wp2_with fail
          rw [show (1 : Int) + ((K : Int) - 1) = K by omega]
          obtain ⟨D, hD⟩ : ∃ D, 64 - K = D := ⟨_, rfl⟩
          rw [hD] at DSH
          have hw1 : IntKind.i64.wrap (64 - (K : Int)) = (D : Int) := by rw [IntWalk.i64_in _ (by omega)]; omega
          have hw2 : IntKind.u64.wrap (D : Int) = (D : Int) := by rw [wrap_u64]; omega
          have hD64 : D ≤ 64 := by omega
          obtain ⟨X, hX⟩ : ∃ X, sh V N j = X := ⟨_, rfl⟩
          have hX1 : IntKind.i64.wrap (V j : Int) / 2 ^ D = X := by rw [← DSH.out]; exact hX
          have hX2 : wrap64 (V j : Int) / 2 ^ D = X := by rw [← IntWalk.i64_left]; exact hX1
          rw [hX] at BS
          clear hX DSH hD
          have HC : Hid (∀ y, Only [b] wr.drew y → y.cell? ⟨b0, o + j * 3, none⟩ = some (.int .u64 (V j : Nat))) := by
            show ∀ y, _ → _
            intro y hy
            rw [hy.cell (p := ⟨b0, o + j * 3, none⟩) hbw (by simp; omega)]
            exact c0
          refine wp_region_by (Only [b]) (Only.refl [b]) Only.trans [(0, .slice (some ⟨b0, o, none⟩) n0 cap), (7, .pointer (some ⟨b, 0, none⟩)), (8, .int .i64 (j : Int)), (9, .int .i64 (K : Int))] (by intro p hp; simp only [List.mem_cons, List.not_mem_nil, or_false] at hp; rcases hp with rfl | rfl | rfl | rfl <;> rfl) (by kernel_rfl) (by kernel_rfl) (fun y => Rd y b sv4 (pack L) p) (HR.out.1.only (only_drew wr) (by simp) (by simp)) ?_
          repeat (
            apply rb_val
            · first | rfl | exact ⟨by kernel_rfl, rfl⟩
            · intro a w hT hf
              simp at hf
              go_simp
              try rfl)
          refine rb_call (fun _ v => v = .int .i64 X) (fun y => Rd y b sv4 (pack L) (p + K)) (by first | rfl | exact ⟨by kernel_rfl, rfl⟩) (by kernel_rfl) (fun _ _ _ _ h => h) (fun a y hJ hT hf => ?_) ?_
          · simp at hf
            go_simp
            refine (sget_any b sv4 (pack L) p K (by rw [HP.out]; omega) _ hJ (by rw [sz_nat K hk.2]; exact HFIT.out)).mono ?_
            rintro e y2 ⟨rfl, r2, o2⟩
            rw [sz_nat K hk.2] at r2
            exact ⟨_, rfl, by rw [sz_nat K hk.2, BK.out, BS.out (by simp)], r2, o2⟩
          repeat (
            apply rb_val
            · first | rfl | exact ⟨by kernel_rfl, rfl⟩
            · intro a y hT hf
              have hcy := HC.out y hT
              simp at hf
              go_simp
              try rfl)
          intro y hJ hy
          simp only [FinA, Sp.R, forall_eq]
          simp only [Act.put, List.setIfInBounds_toArray, List.set_cons_succ, List.set_cons_zero]
          have H7 : Hid (Rd y b sv4 (pack L) (p + K) ∧ Only [] w y) := ⟨hJ, HR.out.2.then (((only_drew wr).weaken (by simp)).trans hy) (by simp; have := HB.out; omega)⟩
          clear hJ hy HR HC
          go_wp2_with fail
          go_roundg (31 - (j + 1))
          case measure => omega
          case rel => exact ⟨j + 1, by go_num, by omega, Nat.le_refl _, by rw [HP1.out]; exact H7.out⟩
      · obtain rfl : j = M := by omega
        have HF : Hid (¬ ((j : Int) < (n0 : Int) ∧ (j : Int) < 30)) := by have := HM.out; show ¬ _; omega
        have HE : Hid (Rd wr b sv4 (pack L) Z ∧ Only [] w wr) := by
          have := HR.out
          rw [HL.out, HZ.out] at this
          exact this
        by_cases z1 : (j : Int) < (n0 : Int)
        · have z2 : ¬ (j : Int) < 30 := fun h => HF.out ⟨z1, h⟩
          go_wp2_with fail
          go_meet
          exact HE.out
        · go_wp2_with fail
          go_meet
          exact HE.out
   case rest =>
    have H8 : Hid _ := hcut
    clear hcut H6
    go_wp2_with fail
    refine (left_any b sv4 (pack L) Z (by rw [HP.out]; omega) _ H8.out.1).mono ?_
    rintro e y1 ⟨rfl, m1, rfl⟩
    have H9 : Hid (Rd (wc.drewN m1) b sv4 (pack L) Z ∧ Only [] w (wc.drewN m1)) := ⟨H8.out.1.drewN _, H8.out.2.trans (only_drewN _ _)⟩
    rw [HP.out]
    have hR8 : 8 * p8 - Z < 8 := by have := P8.out; omega
    have e8 : Hid (Z + (8 * p8 - Z) = 8 * p8) := by have := P8.out; show _ = _; omega
    obtain ⟨R, hR⟩ : ∃ R, 8 * p8 - Z = R := ⟨_, rfl⟩
    rw [hR] at hR8 e8
    rw [hR]
    have HRR : Hid _ := hR
    clear hR H8
    generalize wc.drewN m1 = y2 at *
    have z8 : (R : Int) < 8 := by omega
    go_wp2_with fail
    refine (left_any b sv4 (pack L) Z (by rw [HP.out]; omega) _ H9.out.1).mono ?_
    rintro e y1 ⟨rfl, m1, rfl⟩
    have H10 : Hid (Rd (y2.drewN m1) b sv4 (pack L) Z ∧ Only [] w (y2.drewN m1)) := ⟨H9.out.1.drewN _, H9.out.2.trans (only_drewN _ _)⟩
    rw [HP.out, HRR.out]
    clear H9
    generalize y2.drewN m1 = y3 at *
    go_wp2_with fail
    refine (get_any b sv4 (pack L) Z R (by rw [HP.out]; omega) _ H10.out.1 (by rw [sz_nat R (by omega), HP.out, e8.out]; exact Nat.le_refl _)).mono ?_
    rintro e y4 ⟨rfl, r4, o4⟩
    have lz := left_zero L
    rw [HZ.out, HP.out, HRR.out] at lz
    rw [sz_nat R (by omega), lz]
    have H11 : Hid (Only [] w y4) := H10.out.2.then o4 (by simp; have := HB.out; omega)
    clear r4 o4 lz H10
    go_wp2_with fail
    go_ret
    exact ⟨rfl, H11.out.below (Nat.le_refl _) (by simp)⟩

set_option maxRecDepth 100000 in
theorem lifted (os : Os) (started : os.Started) (H : Type) (enc : TypeId × Value → H) :
    ReturnsInHanded {} Try.checked os 6 .any (Rows.bitsBackSpec.pre6 enc Try.prog Try.f6 Rows.bitsBackRow.domain false) (Rows.bitsBackSpec.post enc Try.prog Try.f6 false true false false) := by
  refine returnsInHanded_of_change (C := Try.checked) own started (by kernel_rfl) Try.func6
    (ChangeSpec.witness6 (enc := enc) (C := Try.checked) false ⟨#[], #[.slice none 0 0], []⟩ 8 (by kernel_rfl) (by kernel_rfl) (by kernel_rfl) (by kernel_rfl)) ?_
  intro W base args ds gs before hval0 hW hcnd _
  have hval : ∀ (j : Nat) t v, Try.f6.params[j]? = some t → args[j]? = some v → Value.okWide Try.prog W .any base t v := hval0
  have hW' := hW
  obtain ⟨p, q, hA0, hV, rfl, hfz, hnd⟩ := hW
  have hA : DataW.TrodAll enc Try.prog W 0 (fun _ => true) true Try.f6.params.toList args.toList ds p := hA0
  rw [Try.params6] at hA hval
  obtain ⟨v0, vs0, d0, ds0, p0, q0, hargs, rfl, rfl, h0, r0⟩ := trodAll_cons hA
  obtain ⟨rfl, rfl, rfl⟩ := trodAll_nil r0
  obtain rfl : args = #[v0] := by cases args; simp_all
  obtain ⟨rfl, rfl⟩ := trodVars_none hV
  obtain ⟨e0, len0, cap0, rfl⟩ := okWide_slice Try.underlying39 (hval 0 39 v0 rfl rfl)
  have k0 := h0
  have lt0 : ∀ x ∈ p0, x.block < W.heap.size := by obtain ⟨m, hm⟩ := k0; exact DataW.trod_lt m _ _ _ hm
  obtain ⟨a0, w0⟩ := came_g (c := 3) (E := FieldE) Try.underlying39 (by kernel_rfl) (by decide) fieldE h0
  clear hA0 hval0
  refine (walk _ _ a0 W w0).mono fun e W' ⟨he, bel⟩ => ?_
  subst he
  exact ⟨_, rfl, _, _, _, [], _, [], hW', trodAll_mk1 (shut_bool Try.underlying4 _), (trodAll_cons_mk (Below.trod laidOut (by kernel_rfl) (of_decide_eq_true (by kernel_rfl)) k0 bel lt0) trodAll_mk0), rfl, bel.frame _, fun h => by cases h⟩

theorem over : Rows.bitsBackRow.holds Try.pinned (OpenSpec.ofChange Rows.bitsBackSpec) :=
  OpenClaim.holds_of_wide 6 Try.f6 rfl rfl rfl rfl rfl rfl rfl ⟨rfl, rfl, rfl, rfl, rfl⟩ rfl rfl rfl rfl rfl (by kernel_rfl) Try.func6 (by kernel_rfl)
    (of_decide_eq_true (by kernel_rfl)) (by unfold Func.isWrapper; first | (rw [if_pos (by decide +kernel)]; kernel_rfl) | (rw [if_neg (by decide +kernel)]; exact ⟨rfl, rfl⟩))
    (fun os started H enc _ => lifted os started H enc)

/-- THE STATEMENT -/
theorem proved : Rows.BitsBackSaid := over
end Go.Proofs.Ytaamobhlbahnhaa.bitsBack

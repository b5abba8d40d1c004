/- The reference's tag: Sum, four, Close, Mark, Open. -/
import Derived.Test.YtcfekpedaiemiaaTagO
import Derived.Deep.DeepCutAuto
import Derived.Deep.CutBlock
namespace Go.Proofs.Ytcfekpedaiemiaa
open Go.RowKit Tag

theorem str_inj : ∀ {bs cs : List Nat}, (∀ x ∈ bs, x < 256) → (∀ x ∈ cs, x < 256) → str bs = str cs → bs = cs := by
  intro bs cs hb hc h
  have h1 : bs.map (fun b => UInt8.ofNat b) = cs.map (fun b => UInt8.ofNat b) := by
    simp only [str, strOfNums, ByteArray.mk.injEq] at h
    have := congrArg Array.toList h
    simpa [List.map_map, Function.comp_def] using this
  clear h
  induction bs generalizing cs with
  | nil => cases cs with
    | nil => rfl
    | cons c cs => simp at h1
  | cons b bs ih => cases cs with
    | nil => simp at h1
    | cons c cs =>
      simp only [List.map_cons, List.cons.injEq] at h1
      have hb0 := hb b (by simp)
      have hc0 := hc c (by simp)
      have h2 := congrArg UInt8.toNat h1.1
      simp only [UInt8.toNat_ofNat'] at h2
      rw [Nat.mod_eq_of_lt hb0, Nat.mod_eq_of_lt hc0] at h2
      rw [h2, ih (fun x hx => hb x (by simp [hx])) (fun x hx => hc x (by simp [hx])) h1.2]

theorem str_beq {bs cs : List Nat} (hb : ∀ x ∈ bs, x < 256) (hc : ∀ x ∈ cs, x < 256) : ((str bs).toList == (str cs).toList) = decide (bs = cs) := by
  rw [ByteArray.toList_eq, ByteArray.toList_eq, Bool.eq_iff_iff, beq_iff_eq, decide_eq_true_eq]
  constructor
  · intro h
    refine str_inj hb hc ?_
    show ByteArray.mk (str bs).data = ByteArray.mk (str cs).data
    rw [Array.toList_inj.1 h]
  · rintro rfl; rfl

theorem rsum_any (k : Int) (v : Value) (bs : List Nat) (w : World) (h : ReadB w v bs) (hl : bs.length ≤ 140737488355328) :
    Calls Try.prog 16 #[.int .i64 k, v] w fun e w' => e = .returned (.int .i64 (sum k bs : Nat)) ∧ w = w' := by
  obtain ⟨h8, a, cap, rfl, h⟩ := h
  have H8 : Hid _ := h8
  have HH : Hid _ := h
  have b1 : -2147483647 < k.tmod 2147483647 ∧ k.tmod 2147483647 < 2147483647 := ⟨Int.lt_tmod_of_pos k (by decide), Int.tmod_lt_of_pos k (by decide)⟩
  have hr := res_lt k
  have er : (if k.tmod 2147483647 < 0 then k.tmod 2147483647 + 2147483647 else k.tmod 2147483647) = (res k : Nat) := by
    have := Int.tmod_def k 2147483647
    rw [res_cast]
    split <;> omega
  clear h8 h
  obtain ⟨r, hr0⟩ : ∃ r, k.tmod 2147483647 = r := ⟨_, rfl⟩
  rw [hr0] at b1 er
  go_enter Try.func16, Try.ntmps16
  go_upto_if 10 with fail
  clear hr0
  go_cut [5] (fun v5 wx => wx = w ∧ v5 = .int .i64 (res k : Nat))
  case first =>
    by_cases c : r < 0
    · rw [if_pos c] at er
      go_wp2_with fail
      go_meet
      exact ⟨rfl, rfl⟩
    · rw [if_neg c] at er
      go_wp2_with fail
      go_meet
      exact ⟨rfl, rfl⟩
  case rest =>
  obtain ⟨rfl, rfl⟩ := hcut
  clear er b1
  go_wp2_with fail
  go_loopg [5, 6] (bs.length + 1) (fun gk v5 v6 wr => wr = wc ∧ ∃ (j s : Nat), v5 = .int .i64 s ∧ v6 = .int .i64 j ∧ j ≤ bs.length ∧ bs.length + 1 - j ≤ gk ∧ s ≤ 2147483647 ∧ Hid (s = sumH (res k + 1) (bs.take j)))
  case atStart => exact ⟨rfl, 0, res k + 1, rfl, rfl, by omega, by omega, by omega, by show _ = _; simp [sumH]⟩
  case round =>
    obtain ⟨rfl, j, s, rfl, rfl, hj, hg, hs, HS⟩ := hrel
    by_cases hjl : j < bs.length
    · have z1 : (j : Int) < (bs.length : Int) := by omega
      rcases HH.out with h0 | ⟨b, off, rfl, hb, hc⟩
      · rw [h0] at hjl; simp at hjl
      · have c1 := hc j hjl
        have hx : bs.getD j 0 < 256 := H8.out _ (by simp [List.getD_eq_getElem?_getD, hjl])
        obtain ⟨x, hx2⟩ : ∃ x, bs.getD j 0 = x := ⟨_, rfl⟩
        rw [hx2] at c1 hx
        have HX : Hid _ := hx2
        clear hx2 hc
        go_wp2_with fail
        go_roundg (bs.length - j)
        case measure => omega
        case rel =>
          refine ⟨rfl, j + 1, stepN s x, ?_, rfl, by omega, by omega, by unfold stepN; omega, ?_⟩
          · unfold stepN; congr 1
          · show _ = _
            rw [sumH_take _ _ _ hjl, ← HS.out, HX.out]
    · obtain rfl : j = bs.length := by omega
      go_wp2_with fail
      go_ret
      refine ⟨ret_i ?_, rfl⟩
      have := HS.out
      rw [List.take_length] at this
      unfold sum
      rw [← this]
      omega

theorem four_row (w : World) (s : Nat) (hs : s < 2147483647) : RowB w.heap.size (w.alloc (.cells #[.int .u8 ((s : Int) / 16777216), .int .u8 ((s : Int) / 65536 % 256), .int .u8 ((s : Int) / 256 % 256), .int .u8 ((s : Int) % 256)] 5)) (.slice (some ⟨w.heap.size, 0, none⟩) 4 4) (four s) := by
  have := World.ownsRow_lit (base := w.heap.size) (e := 5) (size := 1) w #[.int .u8 ((s : Int) / 16777216), .int .u8 ((s : Int) / 65536 % 256), .int .u8 ((s : Int) / 256 % 256), .int .u8 ((s : Int) % 256)] 4 (Nat.le_refl _) (by decide) rfl
  unfold RowB
  have e : bv (four s) = [.int .u8 ((s : Int) / 16777216), .int .u8 ((s : Int) / 65536 % 256), .int .u8 ((s : Int) / 256 % 256), .int .u8 ((s : Int) % 256)] := by
    simp only [bv, four, List.map_cons, List.map_nil]
    rw [show ((s / 16777216 % 256 : Nat) : Int) = (s : Int) / 16777216 by omega]
    simp
  rw [e]
  exact this
theorem rfour_any (s : Nat) (hs : s < 2147483647) (w : World) : Calls Try.prog 22 #[.int .i64 s] w (ClosePost w (four s)) := by
  go_enter Try.func22, Try.ntmps22
  go_wp2_with fail
  go_ret
  exact ⟨_, rfl, four_row w s hs, (Only.refl [] w).alloc _⟩

set_option maxHeartbeats 1000000 in
theorem rclose_any (k : Int) (v : Value) (bs : List Nat) (w : World) (h : ReadB w v bs) (hl : bs.length ≤ 140737488351232) :
    Calls Try.prog 13 #[.int .i64 k, v] w (ClosePost w (close k bs)) := by
  obtain ⟨a, cap, rfl⟩ : ∃ a cap, v = .slice a bs.length cap := by obtain ⟨_, a, cap, e, _⟩ := h; exact ⟨a, cap, e⟩
  have H : Hid _ := h
  have A : Hid (RowB w.heap.size (w.alloc (.cells #[] 5)) (.slice (some ⟨w.heap.size, 0, none⟩) 0 0) [] ∧ ReadB (w.alloc (.cells #[] 5)) (.slice a bs.length cap) bs) :=
    ⟨rowB_empty _ w (Nat.le_refl _), h.only ((Only.refl [] w).alloc (.cells #[] 5)) (by simp)⟩
  clear h
  go_enter Try.func13, Try.ntmps13
  go_wp2_with (at_builtin; refine app_bytes rfl _ _ rfl rfl rfl A.out.1 A.out.2 (by simp; omega) (by simp) ?_)
  intro v1 w1 A1
  have r1 : RowB w.heap.size w1 v1 bs := by simpa [RowB] using A1.row
  have o1 : Only [] w w1 := ((Only.refl [] w).alloc _).then A1.only (by simp [Value.ownBlock])
  have R1 : Hid _ := r1
  have O1 : Hid _ := o1
  clear A A1 r1 o1
  go_wp2_with fail
  refine (rsum_any k _ bs w1 (H.out.only O1.out (by simp)) (by omega)).mono ?_
  rintro e w' ⟨rfl, rfl⟩
  have hs := sum_lt k bs
  obtain ⟨s, es⟩ : ∃ s, sum k bs = s := ⟨_, rfl⟩
  rw [es] at hs ⊢
  have ES : Hid _ := es
  clear es
  go_wp2_with fail
  refine (rfour_any s hs w1).mono ?_
  rintro e w2 ⟨v2, rfl, r2, o2⟩
  have R2 : Hid (RowB w.heap.size w2 v1 bs ∧ ReadB w2 v2 (four s)) := ⟨RowB.only R1.out o2 (by simp), r2.read (four_lt s)⟩
  have O2 : Hid (Only [] w w2) := O1.out.trans o2
  have hB : w.heap.size ≤ w2.heap.size := O2.out.size
  clear r2 o2 R1 O1
  go_wp2_with (at_builtin; refine app_bytes rfl _ _ rfl rfl rfl R2.out.1 R2.out.2 (by rw [four_length]; omega) hB ?_)
  intro v3 w3 A3
  have o3 : Only [] w w3 := O2.out.then A3.only (fun x hx hl => by
    have hx' : v1.ownBlock = some x := by simpa [Option.mem_toList] using hx
    have := (World.ownsRow.lt R2.out.1 x hx').1
    omega)
  have R3 : Hid _ := A3.row
  clear A3
  go_wp2_with fail
  go_ret
  refine ⟨v3, rfl, ?_, o3⟩
  unfold close
  rw [ES.out]
  exact R3.out

theorem rmark_any (v : Value) (bs : List Nat) (w : World) (h : ReadB w v bs) (hl : bs.length ≤ 140737488355328) :
    Calls Try.prog 17 #[v] w fun e w' => e = .returned (.int .i64 (Tag.mark bs : Nat)) ∧ w = w' := by
  have s1 := sum_lt 7 bs
  have s2 := sum_lt 11 bs
  go_enter Try.func17, Try.ntmps17
  go_wp2_with fail
  refine (rsum_any 7 v bs w h hl).mono ?_
  rintro e w' ⟨rfl, rfl⟩
  go_wp2_with fail
  refine (rsum_any 11 v bs w h hl).mono ?_
  rintro e w' ⟨rfl, rfl⟩
  go_wp2_with fail
  go_ret
  exact ⟨ret_i (by unfold Tag.mark; omega), rfl⟩


set_option maxRecDepth 100000 in
set_option maxHeartbeats 1000000 in
theorem ropen_any (k : Int) (v : Value) (z : List Nat) (w : World) (h : ReadC w v z) (hl : z.length ≤ 140737488351236) :
    Calls Try.prog 15 #[.int .i64 k, v] w (OpenPost w k z) := by
  obtain ⟨a, cap, rfl⟩ : ∃ a cap, v = .slice a z.length cap := by obtain ⟨_, a, cap, e, _⟩ := h; exact ⟨a, cap, e⟩
  by_cases h4 : z.length < 4
  · have z1 : (z.length : Int) - 4 < 0 := by omega
    have H : Hid _ := opens_short k z h4
    clear h
    go_enter Try.func15, Try.ntmps15
    go_wp2_with fail
    refine wp_region_by (fun a b => a = b) (fun _ => rfl) (fun h k => h.trans k) [(0, .int .i64 k), (1, .slice a z.length cap), (6, .int .i64 ((z.length : Int) - 4))] (by intro p hp; simp only [List.mem_cons, List.not_mem_nil, or_false] at hp; rcases hp with rfl | rfl | rfl <;> rfl) (by kernel_rfl) (by kernel_rfl) (fun _ => True) trivial ?_
    repeat (
      apply rb_val
      · first | rfl | exact ⟨by kernel_rfl, rfl⟩
      · intro a y hT hf
        simp at hf
        go_simp
        try rfl)
    repeat (
      apply rb_skip
      · exact ⟨by kernel_rfl, rfl⟩)
    repeat (
      apply rb_val
      · first | rfl | exact ⟨by kernel_rfl, rfl⟩
      · intro a y hT hf
        simp at hf
        go_simp
        try rfl)
    intro y _ hy
    subst hy
    simp only [FinA, Sp.R, forall_eq]
    simp only [Act.put, List.setIfInBounds_toArray, List.set_cons_succ, List.set_cons_zero]
    go_wp2_with fail
    go_ret2
    refine ⟨.slice none 0 0, by rw [H.out]; rfl, ?_, only_drew w⟩
    unfold body
    rw [H.out]
    exact World.ownsRow_nil _ _ _ _
  · have h8 : Hid _ := h.lt
    have hO : Hid _ := opens_close k z h.lt (by omega)
    obtain ⟨b, off, rfl⟩ : ∃ b off, a = some ⟨b, off, none⟩ := by
      obtain ⟨_, a', cap', e, _, _, h⟩ := h
      injection e with e1 e2 e3
      subst e1
      rcases h with rfl | ⟨b, off, e, _⟩
      · simp at h4
      · exact ⟨b, off, e⟩
    have hcap : z.length ≤ cap := by obtain ⟨_, a', cap', e, h1, _⟩ := h; injection e with e1 e2 e3; omega
    obtain ⟨n, hn⟩ : ∃ n, z.length = n + 4 := ⟨z.length - 4, by omega⟩
    have ht : Hid _ := readC_take h n (by omega)
    have hz : Hid _ := h.read
    rw [hn] at hl hcap hO hz ⊢
    have HN : Hid _ := hn
    rw [show n + 4 - 4 = n by omega] at hO
    have y2 : (0 : Int) ≤ (n : Int) := by omega
    have y4 : (n : Int) ≤ (cap : Int) := by omega
    clear h h4 hn
    obtain ⟨C, hC⟩ : ∃ C, close k (z.take n) = C := ⟨_, rfl⟩
    have hC8 : ∀ x ∈ C, x < 256 := hC ▸ close_lt k _ (fun x hx => h8.out x (List.mem_of_mem_take hx))
    rw [hC] at hO
    have HC8 : Hid _ := hC8
    obtain ⟨sc, hsc⟩ : ∃ s, str C = s := ⟨_, rfl⟩
    obtain ⟨sz, hsz⟩ : ∃ s, str z = s := ⟨_, rfl⟩
    have EQ : Hid ((sc.toList == sz.toList) = decide (C = z)) := by
      show _ = _
      rw [← hsc, ← hsz]
      exact str_beq hC8 h8.out
    have HC : Hid _ := hC
    have HSC : Hid _ := hsc
    have CVZ : Hid (∀ y, Only [] w y → (convert 22 9 (.slice (some ⟨b, off, none⟩) (n + 4) cap)).run Try.prog y = .ok (.string sz) y) := by
      show ∀ y, _ → _
      intro y hy
      have := (hz.out.only hy (by simp)).conv
      rw [hsz] at this
      exact this
    have JW : Hid (∀ y, Only [] w.drew y → Only [] w y) := by show ∀ y, _ → _; exact fun y hy => (only_drew w).trans hy
    clear hC hsc hsz hC8
    have y0 : ¬ (n : Int) < 0 := by omega
    go_enter Try.func15, Try.ntmps15
    go_wp2_with fail
    refine wp_region_by (Only []) (Only.refl []) Only.trans [(0, .int .i64 k), (1, .slice (some ⟨b, off, none⟩) (n + 4) cap), (6, .int .i64 (n : Int))] (by intro p hp; simp only [List.mem_cons, List.not_mem_nil, or_false] at hp; rcases hp with rfl | rfl | rfl <;> rfl) (by kernel_rfl) (by kernel_rfl) (fun _ => True) trivial ?_
    repeat (
      apply rb_val
      · first | rfl | exact ⟨by kernel_rfl, rfl⟩
      · intro a y hT hf
        simp at hf
        go_simp
        try rfl)
    refine rb_call (fun w v => ReadB w v C) (fun _ => True) (by first | rfl | exact ⟨by kernel_rfl, rfl⟩) (by kernel_rfl) (fun w w' v o h => h.only o (by simp)) (fun a y _ hT hf => ?_) ?_
    · simp at hf
      go_simp
      refine (rclose_any k _ (z.take n) _ (ht.out.read.only (JW.out y hT) (by simp)) (by rw [List.length_take]; omega)).mono ?_
      rintro e y2 ⟨v2, rfl, r2, o2⟩
      rw [HC.out] at r2
      exact ⟨v2, rfl, r2.read HC8.out, o2⟩
    apply rb_val
    · first | rfl | exact ⟨by kernel_rfl, rfl⟩
    · intro a y hT hf
      simp at hf
      have cv := hf.2.1.conv
      rw [HSC.out] at cv
      go_simp
      try rfl
    repeat (
      apply rb_val
      · first | rfl | exact ⟨by kernel_rfl, rfl⟩
      · intro a y hT hf
        have cvz := CVZ.out y (JW.out y hT)
        simp at hf
        go_simp
        try rfl)
    intro y _ hy
    have OY : Hid _ := JW.out y hy
    simp only [FinA, Sp.R, forall_eq]
    intro v3 _
    simp only [Act.put, List.setIfInBounds_toArray, List.set_cons_succ, List.set_cons_zero]
    have RT : Hid (RowB y.heap.size (y.alloc (.cells #[] 5)) (.slice (some ⟨y.heap.size, 0, none⟩) 0 0) [] ∧ ReadB (y.alloc (.cells #[] 5)) (.slice (some ⟨b, off, none⟩) n cap) (z.take n)) :=
      ⟨rowB_empty _ y (Nat.le_refl _), (ht.out.only (OY.out.alloc (.cells #[] 5)) (by simp)).read⟩
    have hlt : (z.take n).length ≤ 140737488351232 := by rw [List.length_take]; omega
    by_cases hcz : C = z
    · have H1 : Hid (opens k z = true) := by show _ = _; rw [hO.out]; simpa using hcz
      have hs : (sc.toList == sz.toList) = true := by rw [EQ.out]; simpa using hcz
      have hd : decide ((n : Int) < 0) = false := decide_eq_false (by omega)
      simp only [hs, hd, Bool.not_true, Bool.or_false]
      clear hs hd
      clear hcz EQ
      go_wp2_with (at_builtin; refine app_bytes rfl _ _ rfl rfl rfl RT.out.1 RT.out.2 (by simpa using (by omega)) (by simp) ?_)
      intro v4 w4 A4
      have r4 : RowB y.heap.size w4 v4 (z.take n) := by simpa [RowB] using A4.row
      have o4 : Only [] w w4 := (OY.out.alloc _).then A4.only (by have := OY.out.size; simp [Value.ownBlock]; omega)
      clear A4
      go_wp2_with fail
      go_ret2
      refine ⟨v4, by rw [H1.out]; rfl, ?_, o4⟩
      unfold body
      rw [H1.out, if_pos rfl, HN.out, Nat.add_sub_cancel]
      exact r4.lower OY.out.size
    · have H1 : Hid (opens k z = false) := by show _ = _; rw [hO.out]; simpa using hcz
      have hs : (sc.toList == sz.toList) = false := by rw [EQ.out]; simpa using hcz
      simp only [hs, Bool.not_false, Bool.or_true]
      clear hs
      clear hcz EQ
      go_wp2_with fail
      go_ret2
      refine ⟨.slice none 0 0, by rw [H1.out]; rfl, ?_, OY.out⟩
      unfold body
      rw [H1.out]
      exact World.ownsRow_nil _ _ _ _
end Go.Proofs.Ytcfekpedaiemiaa

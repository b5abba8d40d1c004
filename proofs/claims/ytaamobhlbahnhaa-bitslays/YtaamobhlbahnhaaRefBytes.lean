/- The reference's writer of single bits: Bytes. -/
import Derived.Test.YtaamobhlbahnhaaRefBits
namespace Go.Proofs.Ytaamobhlbahnhaa
open Go.RowKit Bit

/-- the bytes of the first i bits, and behind them 0s, P in all -/
def half (l : List Bool) (i P : Nat) : List Nat := (List.range P).map (byteAt (l.take i))
theorem half_length (l : List Bool) (i P : Nat) : (half l i P).length = P := by simp [half]
theorem half_zero (l : List Bool) (P : Nat) : half l 0 P = List.replicate P 0 := by
  unfold half
  apply List.ext_getElem?
  intro j
  by_cases h : j < P
  · simp [h, byteAt, num]
  · simp [h]
theorem half_all (l : List Bool) : half l l.length ((l.length + 7) / 8) = pack l := by unfold half pack; rw [List.take_length]
theorem take_next (l : List Bool) (i : Nat) (h : i < l.length) : l.take (i + 1) = l.take i ++ [l[i]] := by rw [List.take_succ_eq_append_getElem h]
theorem byte_next (l : List Bool) (i j : Nat) (h : i < l.length) : byteAt (l.take (i + 1)) j = byteAt (l.take i) j + if j = i / 8 ∧ l[i] = true then 2 ^ (7 - i % 8) else 0 := by
  rw [take_next l i h]
  have hl : (l.take i).length = i := by rw [List.length_take]; omega
  rcases Nat.lt_trichotomy j (i / 8) with g | g | g
  · rw [byteAt_ahead _ _ _ (by rw [hl]; omega), if_neg (by omega)]; rfl
  · have := (byteAt_more (l.take i) [l[i]] (by rw [hl]; simp; omega)).1
    rw [hl] at this
    rw [g, this]
    congr 1
    cases l[i]
    · simp [num]
    · simp only [num, List.length_nil, List.length_singleton]
      rw [if_pos (by simp)]
      simp
      congr 1
      omega
  · rw [byteAt_far _ _ (by rw [List.length_append, hl]; simp; omega), byteAt_far _ _ (by rw [hl]; omega), if_neg (by omega)]
theorem half_no (l : List Bool) (i P : Nat) (h : i < l.length) (hb : l[i] = false) : half l (i + 1) P = half l i P := by
  unfold half
  apply List.map_congr_left
  intro j _
  rw [byte_next l i j h, if_neg (by rw [hb]; simp)]; rfl
theorem half_yes (l : List Bool) (i P : Nat) (h : i < l.length) (hb : l[i] = true) : half l (i + 1) P = (half l i P).set (i / 8) (byteAt (l.take i) (i / 8) + 2 ^ (7 - i % 8)) := by
  unfold half
  apply List.ext_getElem?
  intro j
  rw [List.getElem?_set]
  by_cases hj : i / 8 = j
  · subst hj
    rw [if_pos rfl]
    by_cases hP : i / 8 < P
    · rw [if_pos (by simpa using hP)]
      simp [hP, byte_next l i (i / 8) h, hb]
    · rw [if_neg (by simpa using hP)]; simp [hP]
  · rw [if_neg hj]
    by_cases hP : j < P
    · simp [hP, byte_next l i j h, show ¬ (j = i / 8) from fun e => hj e.symm]
    · simp [hP]
theorem half_get (l : List Bool) (i P j : Nat) (h : j < P) : (half l i P)[j]? = some (byteAt (l.take i) j) := by simp [half, h]
theorem half_lt (l : List Bool) (i : Nat) (h : i < l.length) (hb : l[i] = true) : byteAt (l.take i) (i / 8) + 2 ^ (7 - i % 8) < 256 := by
  have := byte_next l i (i / 8) h
  rw [if_pos ⟨rfl, hb⟩] at this
  rw [← this]
  exact byteAt_lt _ _

theorem make_bytes (n : Nat) (h : n ≤ 1000000000) (w : World) : (Instr.makeSlice 30 (.int .i64 (n : Int)) (.int .i64 (n : Int))).run Try.prog w = .ok (.slice (some ⟨w.heap.size, 0, none⟩) n n) (w.alloc (.cells (madeCells #[.int .u8 0] n) 5)) := by
  obtain ⟨i0, hi, hz0, hz1, hz2⟩ := info_parts info_u8
  have := run_make (P := Try.prog) w 30 5 i0 (.int .u8 0) Try.underlying30 hi hz0 .i64 .i64 (n : Int) (n : Int) (by omega) (Int.le_refl _) (by rw [hz2]; omega) (by omega)
  rw [this]
  simp [hz1, Value.cells]

set_option maxHeartbeats 1000000 in
theorem rbytes_any (B b : Nat) (sv : Value) (l : List Bool) (hl : l.length ≤ 1000000000) (w : World) (h : Rf B w b sv l) : Calls Try.prog 24 #[.pointer (some ⟨b, 0, none⟩)] w (ClonePost w (pack l)) := by
  have c0 := h.var.cell
  have hrow := h.row
  have lt := h.var.lt
  obtain ⟨P, hP⟩ : ∃ P, (l.length + 7) / 8 = P := ⟨_, rfl⟩
  have hmk := make_bytes P (by omega)
  have hq : ((l.length : Int) + 7) / 8 = (P : Int) := by omega
  have HP : Hid _ := hP
  have H : Hid _ := h
  have hsv : ∃ a cap, sv = .slice a l.length cap ∧ ∀ i, i < l.length → ∃ g, a = some ⟨g, 0, none⟩ ∧ g < w.heap.size ∧ w.cell? ⟨g, i, none⟩ = (l[i]?).map Value.bool := by
    rcases hrow.2 with ⟨rfl, h0⟩ | ⟨g, cap, cur, rfl, _⟩
    · exact ⟨none, 0, by rw [h0], fun i hi => by omega⟩
    · refine ⟨_, cap, rfl, fun i hi => ⟨g, rfl, (hrow.lt g rfl).2, ?_⟩⟩
      have := World.ownsRow.cellAt hrow i (by omega)
      rw [this]; simp [vb]
  obtain ⟨a, cap, rfl, hcell⟩ := hsv
  have HC : Hid _ := hcell
  clear h hrow hP hcell
  go_enter Try.func24, Try.ntmps24
  go_wp2_with fail
  have HQ : Hid _ := hq
  clear hq hmk
  go_loopg [4] l.length (fun gk vi wr => ∃ (i : Nat), vi = .int .i64 i ∧ i ≤ l.length ∧ l.length - i ≤ gk ∧ Hid (Only [] w wr ∧ wr.ownsRow w.heap.size 5 1 (.slice (some ⟨w.heap.size, 0, none⟩) P P) P (bv (half l i P))))
  case atStart =>
    refine ⟨0, rfl, by omega, by omega, (Only.refl _ _).alloc _, ?_⟩
    have h1 : (madeCells #[Value.int .u8 0] P).toList = bv (half l 0 P) := by rw [toList_madeCells_one, half_zero]; simp [bv]
    rw [← h1]
    exact World.ownsRow_lit w _ P (Nat.le_refl _) (by unfold maxLen; have := HP.out; omega) (by rw [size_madeCells]; simp)
  case round =>
    obtain ⟨i, rfl, hi, hg, HR⟩ := hrel
    have c1 := (H.out.var.only HR.out.1 (by simp)).cell
    by_cases hlt : i < l.length
    · have z0 : (0 : Int) ≤ (i : Int) := by omega
      have z1 : (i : Int) < (l.length : Int) := by omega
      obtain ⟨g, rfl, hgw, hcl⟩ := HC.out i hlt
      have c2 : wr.cell? ⟨g, i, none⟩ = some (.bool l[i]) := by
        rw [HR.out.1.cell (p := ⟨g, i, none⟩) hgw (by simp), hcl, List.getElem?_eq_getElem hlt]; rfl
      obtain ⟨t, ht⟩ : ∃ t, l[i] = t := ⟨_, rfl⟩
      rw [ht] at c2
      cases t
      · have hno := half_no l i P hlt ht
        have HN : Hid _ := hno
        clear hno ht
        go_wp2_with fail
        go_roundg (l.length - (i + 1))
        case measure => omega
        case rel => exact ⟨i + 1, by go_num, by omega, Nat.le_refl _, HR.out.1, by rw [HN.out]; exact HR.out.2⟩
      · have hyes := half_yes l i P hlt ht
        have hlt2 := half_lt l i hlt ht
        have hiP : i / 8 < P := by have := HP.out; omega
        have hbyte := World.ownsRow.cellAt HR.out.2 (i / 8) (by omega)
        rw [bv_get _ _ _ (half_get l i P (i / 8) hiP)] at hbyte
        have hfz := World.ownsRow.frozenAt HR.out.2 (i / 8)
        have HY : Hid _ := hyes
        clear ht hyes
        obtain ⟨x, hx⟩ : ∃ x, byteAt (l.take i) (i / 8) = x := ⟨_, rfl⟩
        rw [hx] at hbyte hlt2 HY
        clear hx
        obtain ⟨s, hs⟩ : ∃ s, 7 - i % 8 = s := ⟨_, rfl⟩
        rw [hs] at hlt2 HY
        have z7 : (7 : Int) - (i : Int) % 8 = (s : Int) := by omega
        obtain ⟨j, hj⟩ : ∃ j, i / 8 = j := ⟨_, rfl⟩
        rw [hj] at hbyte hfz HY hiP
        have z8 : (i : Int) / 8 = (j : Int) := by omega
        have z9 : (j : Int) < (P : Int) := by omega
        have s8 : s ≤ 7 := by omega
        have HS : Hid _ := hs
        have HJ : Hid _ := hj
        clear hs hj
        go_wp2_with fail
        have ev : ((x : Int) + 2 ^ s) % 256 = ((x + 2 ^ s : Nat) : Int) := by
          have e2 : (2 : Int) ^ s = ((2 ^ s : Nat) : Int) := by simp
          rw [e2]
          generalize 2 ^ s = q at *
          omega
        rw [ev]
        have st := World.ownsRow.stored HR.out.2 j (.int .u8 ((x + 2 ^ s : Nat) : Int))
        rw [bv_set, ← HY.out] at st
        have H2 : Hid (Only [] w (wr.setCell ⟨w.heap.size, j, none⟩ (.int .u8 ((x + 2 ^ s : Nat) : Int))) ∧ (wr.setCell ⟨w.heap.size, j, none⟩ (.int .u8 ((x + 2 ^ s : Nat) : Int))).ownsRow w.heap.size 5 1 (.slice (some ⟨w.heap.size, 0, none⟩) P P) P (bv (half l (i + 1) P))) := ⟨HR.out.1.setCell (by simp) _, st.1⟩
        clear st ev
        go_roundg (l.length - (i + 1))
        case measure => omega
        case rel => exact ⟨i + 1, by go_num, by omega, Nat.le_refl _, H2.out⟩
    · obtain rfl : i = l.length := by omega
      go_wp2_with fail
      go_ret
      refine ⟨_, rfl, ?_, HR.out.1⟩
      have := HR.out.2
      rw [← HP.out, half_all] at this
      unfold RowB
      rw [pack_length, HP.out]
      rw [HP.out] at this
      exact this
end Go.Proofs.Ytaamobhlbahnhaa

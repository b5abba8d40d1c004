/- The reference's Window: Note, in a walk. -/
import Derived.Test.YtfikpkoocbiinaaRefWin
namespace Go.Proofs.Ytfikpkoocbiinaa
open Go.RowKit
theorem zero_in : (∀ w, (zeroValue 32).run Try.prog w = .ok (.agg (Array.replicate 65 (.bool false))) w) ∧ (Try.prog.info? 32).map (·.size) = some 65 := zero_of_info (by kernel_rfl)

theorem ret_v {k : IntKind} {a b : Int} (h : a = b) : Value.int k a = .int k b := by rw [h]
theorem shift_succ (l : List Bool) (d j : Nat) (hd : 1 ≤ d) (h : d + j < 65) : (Win.shift l d (d + j + 1)).map Value.bool = ((Win.shift l d (d + j)).map Value.bool).set (d + j) (.bool (l.getD j false)) := by
  rw [← List.map_set]
  congr 1
  apply List.ext_getElem?
  intro i
  rw [List.getElem?_set, Win.shift_len]
  unfold Win.shift
  rw [List.getElem?_map, List.getElem?_map]
  by_cases hi : i < 65
  · rw [List.getElem?_range hi]
    by_cases e : d + j = i
    · subst e
      rw [if_pos rfl, if_pos h]
      simp only [Option.map_some, Option.some.injEq]
      rw [decide_eq_false (show ¬ d + j = 0 by omega), decide_eq_true (show d ≤ d + j ∧ d + j < d + j + 1 by omega), Nat.add_sub_cancel_left]
      rfl
    · rw [if_neg e]
      simp only [Option.map_some, Option.some.injEq]
      congr 2
      rw [decide_eq_decide]
      omega
  · rw [List.getElem?_eq_none (by simp; omega), if_neg (by omega)]; rfl
theorem shift_far (l : List Bool) (d k : Nat) (h : 65 ≤ k) : Win.shift l d k = Win.shift l d 65 := by
  unfold Win.shift
  apply List.map_congr_left
  intro i hi
  have := List.mem_range.1 hi
  congr 2
  rw [decide_eq_decide]
  omega

def RNotePost (b : Nat) (w : World) (r : Win.R × Int) (e : Ending) (w' : World) : Prop := e = .returned (.int .i64 r.2) ∧ Rw w' b r.1 ∧ Only [b] w w'
theorem rnote_any (b : Nat) (r : Win.R) (hl : r.inn.length = 65) (n : Int) (w : World) (h : Rw w b r) : Calls Try.prog 15 #[.pointer (some ⟨b, 0, none⟩), .int .i64 n] w (RNotePost b w (r.note n)) := by
  have c0 : w.cell? ⟨b, 0, none⟩ = some (.bool r.any) := Blk.cell h 0
  have c1 : w.cell? ⟨b, 1, none⟩ = some (.int .i64 r.last) := Blk.cell h 1
  have hc : ∀ i, i < 65 → w.cell? ⟨b, 2 + i, none⟩ = some (.bool (r.inn.getD i false)) := fun i hi => by
    rw [Blk.cell h, Nat.add_comm]
    exact inn_cell (by omega)
  have en := ahead_norm n r.last
  have rg := ahead_rng n r.last
  by_cases ha : r.any = false
  · have e : r.note n = (⟨true, norm n, r.inn.set 0 true⟩, 1) := by rw [Win.R.note, if_pos ha]
    rw [e]
    rw [ha] at c0
    have f0 := Blk.frozen h 0
    have t1 := Blk.set h 0 (.bool true)
    have t2 := Blk.set t1 1 (.int .i64 (norm n))
    have t3 := Blk.set t2 2 (.bool true)
    have f1 := Blk.frozen t1 1
    have f2 := Blk.frozen t2 2
    have d1 : (w.setCell ⟨b, 0, none⟩ (.bool true)).cell? ⟨b, 1, none⟩ = some (.int .i64 r.last) := Blk.cell t1 1
    have d2 : ((w.setCell ⟨b, 0, none⟩ (.bool true)).setCell ⟨b, 1, none⟩ (.int .i64 (norm n))).cell? ⟨b, 2, none⟩ = some (.bool (r.inn.getD 0 false)) := by
      rw [Blk.cell t2]; exact inn_cell (i := 0) (by omega)
    have H : Hid _ := t3
    clear h e t1 t2 t3 hc
    go_enter Try.func15, Try.ntmps15
    go_wp2_with fail
    refine (rnorm_any _ _).mono ?_
    rintro e w' ⟨rfl, rfl⟩
    go_wp2_with fail
    refine (rahead_any _ _ _).mono ?_
    rintro e w' ⟨rfl, rfl⟩
    go_wp2_with fail
    go_ret
    refine ⟨rfl, ?_, ?_⟩
    · have q : (((Value.bool r.any :: Value.int .i64 r.last :: r.inn.map Value.bool).set 0 (.bool true)).set 1 (.int .i64 (norm n))).set 2 (.bool true) = (.bool true :: .int .i64 (norm n) :: (r.inn.set 0 true).map Value.bool) := by simp [List.map_set]
      show Blk _ _ (.bool true :: .int .i64 (norm n) :: (r.inn.set 0 true).map Value.bool)
      rw [← q]
      exact H.out
    · exact (((Only.refl _ _).setCell (by simp) _).setCell (by simp) _).setCell (by simp) _
  have ha : r.any = true := by simpa using ha
  rw [ha] at c0
  by_cases hd : 0 < ahead n r.last
  · obtain ⟨d, ed⟩ : ∃ d : Nat, ahead n r.last = d := ⟨(ahead n r.last).toNat, by omega⟩
    have e : r.note n = (⟨true, norm n, Win.shift r.inn d 65⟩, 1) := by
      rw [Win.R.note, if_neg (by rw [ha]; decide), if_pos hd, ed, Int.toNat_natCast]
    rw [e]
    rw [ed] at hd rg en
    have hz := zero_in.1
    have hd0 : 1 ≤ d := by omega
    have H : Hid _ := h
    have HC : Hid _ := hc
    clear h e ed hc
    go_enter Try.func15, Try.ntmps15
    go_wp2_with fail
    refine (rnorm_any _ _).mono ?_
    rintro e w' ⟨rfl, rfl⟩
    go_wp2_with fail
    refine (rahead_any _ _ _).mono ?_
    rintro e w' ⟨rfl, rfl⟩
    rw [en]
    go_upto_region 10 with fail
    obtain ⟨x1, e1⟩ : ∃ x1, x1 = w.alloc (.cells (Array.replicate 65 (.bool false)) 32) := ⟨_, rfl⟩
    have n1 : Blk x1 w.heap.size (List.replicate 65 (.bool false)) := by rw [e1]; simpa using Blk.new w (Array.replicate 65 (.bool false)) 32
    have o1 : Only [] w x1 := e1 ▸ (Only.refl _ _).alloc _
    rw [← e1]
    clear e1
    have lb : b < w.heap.size := Blk.lt H.out
    have g0 : x1.cell? ⟨w.heap.size, 0, none⟩ = some (.bool false) := by rw [n1.cell]; rfl
    have gf := n1.frozen 0
    have n2 : Blk (x1.setCell ⟨w.heap.size, 0, none⟩ (.bool true)) w.heap.size ((Win.shift r.inn d d).map .bool) := by
      have := n1.set 0 (.bool true)
      have q : (List.replicate 65 (Value.bool false)).set 0 (.bool true) = (Win.shift r.inn d d).map .bool := by
        unfold Win.shift
        rw [List.map_map]
        apply List.ext_getElem?
        intro i
        rw [List.getElem?_set, List.getElem?_map]
        by_cases hi : i < 65
        · rw [List.getElem?_range hi, List.getElem?_replicate, if_pos hi, List.length_replicate]
          by_cases h0 : i = 0
          · subst h0; rfl
          · rw [if_neg (by omega)]
            simp [h0]
            omega
        · rw [List.getElem?_eq_none (l := List.range 65) (by simp; omega), List.getElem?_replicate, if_neg hi, if_neg (by omega)]; rfl
      rw [← q]; exact this
    have o2 : Only [] w (x1.setCell ⟨w.heap.size, 0, none⟩ (.bool true)) := o1.setCell (Or.inr (Nat.le_refl _)) _
    have H2 : Hid (Blk (x1.setCell ⟨w.heap.size, 0, none⟩ (.bool true)) w.heap.size ((Win.shift r.inn d d).map .bool) ∧ Only [] w (x1.setCell ⟨w.heap.size, 0, none⟩ (.bool true))) := ⟨n2, o2⟩
    clear n1 o1 n2 o2
    obtain ⟨Q, hQ⟩ : ∃ Q, w.heap.size = Q := ⟨_, rfl⟩
    rw [hQ] at lb g0 gf H2 ⊢
    go_wp2_with fail
    generalize x1.setCell ⟨Q, 0, none⟩ (.bool true) = x2 at *
    go_loopg [7] 66 (fun gk vi wr => ∃ j : Nat, vi = .int .i64 ((d + j : Nat) : Int) ∧ (j = 0 ∨ d + j ≤ 65) ∧ 65 - (d + j) < gk ∧ Hid (Blk wr Q ((Win.shift r.inn d (d + j)).map .bool) ∧ Only [] w wr))
    case atStart => exact ⟨0, rfl, Or.inl rfl, by omega, H2.out⟩
    case round =>
      obtain ⟨j, rfl, hj, hg, HR⟩ := hrel
      by_cases c : d + j < 65
      · have z1 : (((d + j : Nat)) : Int) < 65 := by omega
        have z2 : (d : Int) + (j : Int) < 65 := by omega
        have sc := (HR.out.2.cell (p := ⟨b, 2 + j, none⟩) (by show b < w.heap.size; omega) (by simp)).trans (HC.out j (by omega))
        have dc : wr.cell? ⟨Q, d + j, none⟩ = some (.bool ((Win.shift r.inn d (d + j)).getD (d + j) false)) := by rw [HR.out.1.cell]; exact inn_cell (by rw [Win.shift_len]; omega)
        have df := HR.out.1.frozen (d + j)
        go_wp2_with fail
        go_roundg (65 - (d + j))
        case measure => omega
        case rel =>
          refine ⟨j + 1, ret_v (by omega), Or.inr (by omega), by omega, ?_, HR.out.2.setCell (Or.inr (by show w.heap.size ≤ Q; omega)) _⟩
          rw [← Nat.add_assoc, shift_succ _ _ _ hd0 c, ← List.getD_eq_getElem?_getD]
          exact HR.out.1.set _ _
      · have z1 : ¬ (((d + j : Nat)) : Int) < 65 := by omega
        have z2 : ¬ (d : Int) + (j : Int) < 65 := by omega
        have rr : Blk wr b (.bool r.any :: .int .i64 r.last :: r.inn.map .bool) := Blk.only H.out HR.out.2 (by simp)
        have eL : Win.shift r.inn d (d + j) = Win.shift r.inn d 65 := shift_far _ _ _ (by omega)
        rw [eL] at HR
        have LEN : (Win.shift r.inn d 65).length = 65 := Win.shift_len _ _ _
        have sz : (Try.prog.info? 32).map (·.size) = some ((Win.shift r.inn d 65).map Value.bool).length := by rw [List.length_map, LEN]; exact zero_in.2
        have one : ∀ v ∈ (Win.shift r.inn d 65).map Value.bool, v.oneCell' = true := fun v hv => by
          obtain ⟨x, _, rfl⟩ := List.mem_map.1 hv; rfl
        have q : List.take 2 (Value.bool r.any :: Value.int .i64 r.last :: r.inn.map Value.bool) ++ (Win.shift r.inn d 65).map Value.bool ++ List.drop (2 + ((Win.shift r.inn d 65).map Value.bool).length) (Value.bool r.any :: Value.int .i64 r.last :: r.inn.map Value.bool) = (.bool r.any :: .int .i64 r.last :: (Win.shift r.inn d 65).map .bool) := by
          rw [List.length_map, LEN]
          simp
          omega
        go_upto_region 15 with fail
        apply wp_region_lit
        refine op_val rfl _ rfl ?_
        refine op_load rfl _ _ rfl rfl HR.out.1 65 4 Try.underlying32 sz ?_
        refine op_val rfl _ rfl ?_
        refine op_val (w' := wr) rfl (.pointer (some ⟨b, 2, none⟩)) ?_ ?_
        · kernel_rfl
        refine op_store rfl _ _ _ rfl 2 rfl rfl rr sz ?_ one ?_
        · simp [LEN]; omega
        intro w3 h3 o3 s3
        rw [q] at h3
        have O3 : Hid (Blk w3 b (.bool r.any :: .int .i64 r.last :: (Win.shift r.inn d 65).map .bool) ∧ Only [b] w w3) := ⟨h3, (HR.out.2.weaken (by simp)).trans o3⟩
        clear rr h3 o3 eL s3 q sz one
        generalize Win.shift r.inn d 65 = L at *
        have e1 : w3.cell? ⟨b, 1, none⟩ = some (.int .i64 r.last) := O3.out.1.cell 1
        have f1 := O3.out.1.frozen 1
        go_wp2_with fail
        go_ret
        refine ⟨rfl, ?_, O3.out.2.setCell (by simp) _⟩
        have := O3.out.1.set 1 (.int .i64 (norm n))
        rw [ha] at this
        exact this
  · obtain ⟨d, ed⟩ : ∃ d : Nat, ahead n r.last = -(d : Int) := ⟨(-ahead n r.last).toNat, by omega⟩
    rw [ed] at hd rg en
    have e0 : r.note n = if 64 < d then (r, 3) else if r.inn.getD d false = true then (r, 2) else (⟨r.any, r.last, r.inn.set d true⟩, 1) := by
      rw [Win.R.note, if_neg (by rw [ha]; decide), if_neg (by omega), ed, Int.neg_neg, Int.toNat_natCast]
    rw [e0]
    clear e0 ed
    by_cases g : 64 < d
    · rw [if_pos g]
      have H : Hid _ := h
      clear h hc
      go_enter Try.func15, Try.ntmps15
      go_wp2_with fail
      refine (rnorm_any _ _).mono ?_
      rintro e w' ⟨rfl, rfl⟩
      go_wp2_with fail
      refine (rahead_any _ _ _).mono ?_
      rintro e w' ⟨rfl, rfl⟩
      rw [en]
      go_wp2_with fail
      go_ret
      exact ⟨rfl, H.out, Only.refl _ _⟩
    rw [if_neg g]
    have hcell := hc d (by omega)
    have hfr := Blk.frozen h (2 + d)
    have hset := Blk.set h (2 + d) (.bool true)
    have H : Hid _ := And.intro h hset
    clear h hc hset
    have g1 : (d : Int) ≤ 64 := by omega
    cases hv : r.inn.getD d false
    · rw [hv] at hcell
      rw [if_neg (by decide)]
      go_enter Try.func15, Try.ntmps15
      go_wp2_with fail
      refine (rnorm_any _ _).mono ?_
      rintro e w' ⟨rfl, rfl⟩
      go_wp2_with fail
      refine (rahead_any _ _ _).mono ?_
      rintro e w' ⟨rfl, rfl⟩
      rw [en]
      go_wp2_with fail
      go_ret
      refine ⟨rfl, ?_, (Only.refl _ _).setCell (by simp) _⟩
      have q : (Value.bool r.any :: Value.int .i64 r.last :: r.inn.map Value.bool).set (2 + d) (.bool true) = (.bool r.any :: .int .i64 r.last :: (r.inn.set d true).map Value.bool) := by
        rw [Nat.add_comm]; simp [List.map_set]
      show Blk _ _ (.bool r.any :: .int .i64 r.last :: (r.inn.set d true).map Value.bool)
      rw [← q]
      exact H.out.2
    · rw [hv] at hcell
      rw [if_pos rfl]
      go_enter Try.func15, Try.ntmps15
      go_wp2_with fail
      refine (rnorm_any _ _).mono ?_
      rintro e w' ⟨rfl, rfl⟩
      go_wp2_with fail
      refine (rahead_any _ _ _).mono ?_
      rintro e w' ⟨rfl, rfl⟩
      rw [en]
      go_wp2_with fail
      go_ret
      exact ⟨rfl, H.out.1, Only.refl _ _⟩
end Go.Proofs.Ytfikpkoocbiinaa

/- The program's Order: of up to twenty-one depths the one order of their places, in new memory. -/
import Derived.Test.YtpcmeajphfifiaaSortY
namespace Go.Proofs.Ytpcmeajphfifiaa
open Go.ChangeShapes Go.WideShapes Go.ChangeAt Go.RowKit Go.Sort Go.Shelf Go.Lib
open Fl (V nn fin rg sg U IsOrd)

/-- a list of floats at the head of a row -/
def FRow (w : World) (v : Value) (ds : List Nat) : Prop :=
  (ds = [] ∧ ∃ a cap, v = .slice a 0 cap) ∨
  (ds ≠ [] ∧ ∃ g cap, v = .slice (some ⟨g, 0, none⟩) ds.length cap ∧ g < w.heap.size ∧ ∀ k, k < ds.length → w.cell? ⟨g, k, none⟩ = some (.float .f64 (ds.getD k 0)))
/-- a list of places in new memory -/
def PRow (B : Nat) (w : World) (v : Value) (o : List Nat) : Prop :=
  ∃ g cap, v = .slice (some ⟨g, 0, none⟩) o.length cap ∧ B ≤ g ∧ g < w.heap.size ∧ ∀ k, k < o.length → w.cell? ⟨g, k, none⟩ = some (.int .i64 ((o.getD k 0 : Nat) : Int))

theorem info_int : (Try.prog.info? 3).map (fun i => (i.zero, i.size, i.bytes)) = some (some (.int .i64 0), 1, 8) := by kernel_rfl

theorem make_ints (n : Nat) (h : n ≤ 21) (w : World) : (Instr.makeSlice 32 (.int .i64 (n : Int)) (.int .i64 (n : Int))).run Try.prog w = .ok (.slice (some ⟨w.heap.size, 0, none⟩) n n) (w.alloc (.cells (madeCells #[.int .i64 0] n) 3)) := by
  obtain ⟨i0, hi, hz0, hz1, hz2⟩ := info_parts info_int
  have := run_make (P := Try.prog) w 32 3 i0 (.int .i64 0) Try.underlying32 hi hz0 .i64 .i64 (n : Int) (n : Int) (by omega) (Int.le_refl _) (by rw [hz2]; omega) (by omega)
  rw [hz1] at this
  simpa [Value.cells] using this

def fillL (n k : Nat) : List Value := (List.range n).map fun j => if j < k then .int .i64 (j : Int) else .int .i64 0
theorem fillL_get (n k j : Nat) (h : j < n) : (fillL n k)[j]? = some (if j < k then .int .i64 (j : Int) else .int .i64 0) := by
  unfold fillL; rw [List.getElem?_map, List.getElem?_range h]; rfl
theorem fillL_0 (n : Nat) : (madeCells #[.int .i64 0] n).toList = fillL n 0 := by
  rw [toList_madeCells_one]
  apply List.ext_getElem
  · simp [fillL]
  · intro i h1 h2; simp [fillL]
theorem fillL_set (n k : Nat) (h : k < n) : (fillL n k).set k (.int .i64 (k : Int)) = fillL n (k + 1) := by
  apply List.ext_getElem?
  intro j
  rw [List.getElem?_set]
  by_cases hj : j < n
  · rw [fillL_get n (k + 1) j hj]
    by_cases e : k = j
    · subst e; simp [fillL, h]
    · rw [if_neg e, fillL_get n k j hj]
      by_cases c : j < k
      · rw [if_pos c, if_pos (by omega)]
      · rw [if_neg c, if_neg (by omega)]
  · have e1 : (fillL n (k + 1))[j]? = none := List.getElem?_eq_none (by simp [fillL]; omega)
    have e2 : (fillL n k)[j]? = none := List.getElem?_eq_none (by simp [fillL]; omega)
    rw [e1, e2, if_neg (by omega)]

theorem sort_id {w : World} {bx g cap0 : Nat} {ds : List Nat} (hB : Box w bx g cap0 ds) {m blk : Nat} (h1 : bx ≠ blk) (h2 : g ≠ blk) (k : Nat) (hH : Holds (encF m) w blk 0 (Fl.idA m)) (hl : ds.length = m + 1) (hk : k = m + 1) (hn : k ≤ 21) :
    Calls Try.prog 31 #[.slice (some ⟨blk, 0, none⟩) k k, .func (.func 32) #[] #[.pointer (some ⟨bx, 0, none⟩)]] w fun e w' =>
      e = .returned (.tuple #[]) ∧ ∃ n, w' = (putRow (encF m) w blk 0 (Sort.insertionSort (ltF ds m) (Fl.idA m) 0 (m + 1))).drewN n := by
  have := sort_any hB hl h1 h2 k (Fl.idA m) hH (by rw [Fl.idA_size, ← hk]; exact hn)
  rw [Fl.idA_size] at this
  subst hk
  exact this

theorem below_putRow {α : Type} [Inhabited α] (enc : α → Value) (w : World) (blk off : Nat) (d : Array α) (q : Nat) {B : Nat} (h : B ≤ blk) : Below B w ((putRow enc w blk off d).drewN q) := by
  refine ⟨rfl, rfl, rfl, by simp, fun k hk => ?_⟩
  show ((putRow enc w blk off d).heap)[k]? = _
  unfold putRow mapBlock
  simp only [Array.getElem?_modify]
  rw [if_neg (by omega)]

set_option maxHeartbeats 4000000 in
set_option maxRecDepth 100000 in
theorem order_pos (ds : List Nat) (m : Nat) (hl : ds.length = m + 1) (hn : ds.length ≤ 21) (hlt : ∀ k, ds.getD k 0 < 2 ^ 64) (w : World) (g cap : Nat) (hg : g < w.heap.size)
    (hc : ∀ k, k < ds.length → w.cell? ⟨g, k, none⟩ = some (.float .f64 (ds.getD k 0))) :
    Calls Try.prog 18 #[.slice (some ⟨g, 0, none⟩) ds.length cap] w fun e w' => ∃ o v, IsOrd ds o ∧ e = .returned v ∧ PRow w.heap.size w' v o ∧ Below w.heap.size w w' := by
  obtain ⟨w1, hw1⟩ : ∃ w1, w1 = w.alloc (.cells #[.slice (some ⟨g, 0, none⟩) ds.length cap] 34) := ⟨_, rfl⟩
  have hB : Aside (∀ W, Below (w.heap.size + 1) w1 W → Box W w.heap.size g cap ds) := fun W hW => by
    refine ⟨?_, fun k hk => ?_, hlt⟩
    · rw [hW.cell (by exact Nat.lt_succ_self _), hw1]; simp
    · rw [hW.cell (by show g < _; omega), hw1, World.cell?_alloc_past _ _ _ hg]; exact hc k hk
  have hbel : Aside (Below w.heap.size w w1) := by rw [hw1]; exact (Below.refl _ _).alloc (Nat.le_refl _) _
  have hsz1 : Aside (w1.heap.size = w.heap.size + 1) := by show _ = _; rw [hw1]; simp
  have HW1 : Aside (w1 = w.alloc (.cells #[.slice (some ⟨g, 0, none⟩) ds.length cap] 34)) := hw1
  clear hw1
  have hN : Aside (ds.length = m + 1) := hl
  have hmk := make_ints ds.length hn
  clear hl hc hlt
  generalize hlen : ds.length = n at *
  go_enter Try.func18, Try.ntmps18
  go_wp2
  go_loopg [10] n (fun gk vi wr => ∃ k : Nat, vi = .int .i64 k ∧ k ≤ n ∧ n - k ≤ gk ∧ Aside (Below (w.heap.size + 1) w1 wr ∧ wr.ownsRow (w.heap.size + 1) 3 1 (.slice (some ⟨w.heap.size + 1, 0, none⟩) n n) n (fillL n k)))
  case atStart =>
    refine ⟨0, rfl, by omega, by omega, ?_, ?_⟩
    · rw [← HW1.out]; exact (Below.refl _ _).alloc (by rw [hsz1.out]; omega) _
    · rw [← HW1.out, ← fillL_0, ← hsz1.out]
      exact World.ownsRow_lit w1 _ n (Nat.le_refl _) (by unfold maxLen; omega) (by rw [size_madeCells]; simp)
  case round =>
    obtain ⟨k, rfl, hk, hgk, HR⟩ := hrel
    by_cases hlt : k < n
    · have hltz : (k : Int) < (n : Int) := by omega
      obtain ⟨u, hu⟩ : ∃ u, wr.cell? ⟨w.heap.size + 1, k, none⟩ = some u := ⟨_, (HR.out.2.cellAt k (by omega)).trans (fillL_get n k k hlt)⟩
      have hfz := HR.out.2.frozenAt k
      go_wp2
      go_roundg (n - (k + 1))
      case measure => omega
      case rel =>
        refine ⟨k + 1, by go_num, by omega, Nat.le_refl _, ?_, ?_⟩
        · exact HR.out.1.setCell (Nat.le_refl _) _
        · rw [← fillL_set n k hlt]
          exact (HR.out.2.stored k _).1
    · obtain rfl : k = n := by omega
      have hltz : ¬ (k : Int) < (k : Int) := by omega
      obtain ⟨hb, hown⟩ := HR.out
      have hbox := hB.out wr hb
      have hH : Holds (encF m) wr (w.heap.size + 1) 0 (Fl.idA m) := by
        intro j hj
        rw [Fl.idA_size] at hj
        have hjn : j < k := by rw [← hN.out] at hj; exact hj
        refine ⟨?_, ?_⟩
        · have := (hown.cellAt j (by omega)).trans (fillL_get k k j hjn)
          rw [if_pos hjn] at this
          have e : (0 + j) = j := by omega
          rw [e, this]
          unfold encF
          rw [Fl.idA_get m j hj]
        · have e : (0 + j) = j := by omega
          rw [e]; exact hown.frozenAt j
      have hs := sort_id hbox (show w.heap.size ≠ w.heap.size + 1 by omega) (show g ≠ w.heap.size + 1 by omega) k hH (by rw [hlen]; exact hN.out) hN.out hn
      have HS : Aside _ := hH
      have HB : Aside _ := hb
      have HZ : Aside (w.heap.size + 1 < wr.heap.size) := (hown.lt _ rfl).2
      clear hH hbox hown hb
      go_wp2_with (go_at_call 31; refine hs.mono ?_; rintro e w' ⟨rfl, q, rfl⟩)
      go_ret
      have io := Fl.isOrd_ins ds m (by rw [hlen]; exact hN.out)
      have szo : (Sort.insertionSort (ltF ds m) (Fl.idA m) 0 (m + 1)).size = (Fl.idA m).size := ins_size _ (swoF ds m) _ 0 (m + 1) (by omega) (by rw [Fl.idA_size]; omega)
      refine ⟨_, _, io, rfl, ⟨w.heap.size + 1, k, ?_, by omega, ?_, ?_⟩, ?_⟩
      · have := io.length
        rw [this, hlen]; rfl
      · simpa using HZ.out
      · intro j hj
        rw [List.length_map, Array.length_toList] at hj
        have := (holds_putRow (encF m) wr (w.heap.size + 1) 0 (Fl.idA m) _ HS.out szo j hj).1
        have e : (0 + j) = j := by omega
        rw [e] at this
        have e2 : ∀ a, ((putRow (encF m) wr (w.heap.size + 1) 0 (Sort.insertionSort (ltF ds m) (Fl.idA m) 0 (m + 1))).drewN q).cell? a = (putRow (encF m) wr (w.heap.size + 1) 0 (Sort.insertionSort (ltF ds m) (Fl.idA m) 0 (m + 1))).cell? a := fun _ => rfl
        rw [e2, this]
        unfold encF
        congr 3
        simp [hj]
      · refine (hbel.out.trans (HB.out.mono (by omega))).trans ?_
        exact below_putRow _ _ _ _ _ _ (by omega)

end Go.Proofs.Ytpcmeajphfifiaa

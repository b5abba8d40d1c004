/- What is known of package tag, by the law's own 'known'. -/
import Derived.Test.YtcfekpedaiemiaaTagO
namespace Go.Proofs.Ytcfekpedaiemiaa
open Go.RowKit Tag

/-- bytes just laid -/
theorem lit_row (w : World) (bs : List Nat) (hl : bs.length ≤ 1000) : RowB w.heap.size (w.alloc (.cells (bv bs).toArray 5)) (.slice (some ⟨w.heap.size, 0, none⟩) bs.length bs.length) bs := by
  have := World.ownsRow_lit (base := w.heap.size) (e := 5) (size := 1) w (bv bs).toArray bs.length (Nat.le_refl _) (by unfold maxLen; omega) (by simp)
  simpa [RowB] using this
theorem str_ab : str [97, 98] = ⟨#[97, 98]⟩ := by rfl
theorem sum_0 : sum 0 [] = 1 := by decide
theorem body_3 : body 3 (close 3 [97, 98]) = [97, 98] := by decide
theorem opens_3 : opens 3 (close 3 [97, 98]) = true := by decide

/-- bytes just laid that are told to be a string's: one place behind them is frozen -/
theorem conv_new (w : World) (C : Array Value) (n c : Nat) : (convert 22 22 (.slice (some ⟨w.heap.size, 0, none⟩) n c)).run Try.prog (w.alloc (.cells C 5)) = .ok (.slice (some ⟨w.heap.size, 0, none⟩) n c) (w.alloc (.cells C 5 (C.size, C.size + 1))) := by
  have hsh : (w.alloc (.cells C 5)).shape? w.heap.size = some (5, C.size) := by
    have : (w.alloc (.cells C 5)).heap[w.heap.size]? = some (.cells C 5) := heap_alloc_new w _
    unfold World.shape?
    rw [this]
  have hfr : (w.alloc (.cells C 5)).freeze ⟨w.heap.size, C.size, none⟩ 1 = w.alloc (.cells C 5 (C.size, C.size + 1)) := by
    have hm : ∀ (a : Array Obj) (x : Obj) (f : Obj → Obj), (a.push x).modify a.size f = a.push (f x) := by
      intro a x f
      apply Array.ext
      · simp
      · intro i h1 h2
        simp only [Array.getElem_modify, Array.getElem_push]
        by_cases h : a.size = i
        · subst h
          simp
        · have hi : i < a.size := by simp at h1; omega
          simp [h, hi]
    unfold World.freeze
    rw [if_neg (by decide)]
    show ({ w.alloc (.cells C 5) with heap := (w.heap.push (.cells C 5)).modify w.heap.size _ } : World) = _
    rw [hm]
    rfl
  unfold convert
  simp only [run_underlying Try.underlying22, run_underlying Try.underlying5, Sem.run_bind, Result.andThen_ok, markStringish]
  simp [hsh, hfr]
theorem lit_read (w : World) (bs : List Nat) (f : Nat × Nat) (h8 : ∀ x ∈ bs, x < 256) (hl : bs.length ≤ 1000) : ReadC (w.alloc (.cells (bv bs).toArray 5 f)) (.slice (some ⟨w.heap.size, 0, none⟩) bs.length bs.length) bs := by
  refine ⟨h8, _, _, rfl, Nat.le_refl _, by unfold maxLen; omega, Or.inr ⟨w.heap.size, 0, rfl, by simp, fun i hi => ?_⟩⟩
  unfold World.cell?
  rw [heap_alloc_new]
  simp [bv, List.getD_eq_getElem?_getD, hi]

def TruePost (w : World) (e : Ending) (w' : World) : Prop := e = .returned (.bool true) ∧ Only [] w w'
set_option maxHeartbeats 1000000 in
theorem known_any (w : World) : Calls Try.prog 8 #[] w (TruePost w) := by
  have hcs := conv_new
  go_enter Try.func8, Try.ntmps8
  go_wp2_with fail
  obtain ⟨w1, e1⟩ : ∃ w1, w1 = w.alloc (.cells #[.int .u8 97, .int .u8 98] 5 (2, 3)) := ⟨_, rfl⟩
  have r1 : ReadC w1 (.slice (some ⟨w.heap.size, 0, none⟩) 2 2) [97, 98] := e1 ▸ lit_read w [97, 98] (2, 3) (by decide) (by decide)
  have o1 : Only [] w w1 := e1 ▸ (Only.refl [] w).alloc _
  rw [← e1]
  clear e1
  refine (close_any 3 _ [97, 98] w1 r1.read (by decide)).mono ?_
  rintro e w2 ⟨v2, rfl, r2, o2⟩
  have R2 : Hid _ := r2
  have O2 : Hid _ := o1.trans o2
  clear r1 o1 r2 o2
  go_wp2_with fail
  refine (open_any 3 _ (close 3 [97, 98]) w2 (RowB.readC R2.out (close_lt 3 _ (by decide))) (by rw [close_length]; decide)).mono ?_
  rintro e w3 ⟨v3, rfl, r3, o3⟩
  rw [body_3] at r3
  rw [opens_3]
  have R3 : Hid _ := r3
  have O3 : Hid _ := O2.out.trans o3
  clear r3 o3 O2
  go_wp2_with fail
  refine (sum_any 0 _ [] w3 (readC_nil w3).read (by decide)).mono ?_
  rintro e w' ⟨rfl, rfl⟩
  rw [sum_0]
  have cv := (RowB.read R3.out (by decide)).conv
  rw [str_ab] at cv
  go_wp2_with fail
  go_ret
  exact ⟨rfl, O3.out⟩
end Go.Proofs.Ytcfekpedaiemiaa

/- Bytes in memory: rows of the call's own, what reads as bytes, as a string, slices.Clone of them. Nothing of package bits. -/
import Derived.Test.YtcfekpedaiemiaaRows
import Derived.Test.YtcfekpedaiemiaaOwn
import Derived.WalkKit
import Derived.ProofKit
import Derived.Laws.BytesArg
import Derived.Lib.SliceRun
import Derived.Lib.Hide
namespace Go.Proofs.Ytcfekpedaiemiaa
open Go.RowKit

/-- bytes as values -/
def bv (bs : List Nat) : List Value := bs.map fun (b : Nat) => .int .u8 (b : Int)
@[simp] theorem bv_length (bs : List Nat) : (bv bs).length = bs.length := by simp [bv]
theorem bv_get (bs : List Nat) (i : Nat) (b : Nat) (h : bs[i]? = some b) : (bv bs)[i]? = some (.int .u8 (b : Int)) := by simp [bv, h]
theorem bv_set (bs : List Nat) (i b : Nat) : (bv bs).set i (.int .u8 (b : Int)) = bv (bs.set i b) := by simp [bv, List.map_set]
theorem bv_one (bs : List Nat) : ∀ u ∈ bv bs, u.oneCell' = true := fun u hu => by
  obtain ⟨x, _, rfl⟩ := List.mem_map.1 hu; rfl

/-- a row of bytes of the call's own -/
def RowB (B : Nat) (w : World) (v : Value) (bs : List Nat) : Prop := w.ownsRow B 5 1 v bs.length (bv bs)
theorem RowB.only {B : Nat} {w w' : World} {v : Value} {bs : List Nat} {S : List Nat} (h : RowB B w v bs) (o : Only S w w') (hS : ∀ g, v.ownBlock = some g → g ∉ S) : RowB B w' v bs := own_only h o hS

theorem info_u8 : (Try.prog.info? 5).map (fun i => (i.zero, i.size, i.bytes)) = some (some (.int .u8 0), 1, 1) := by kernel_rfl

/-- v reads as these bytes -/
structure ReadB (w : World) (v : Value) (bs : List Nat) : Prop where
  lt : ∀ x ∈ bs, x < 256
  is : ∃ a cap, v = .slice a bs.length cap ∧ (bs = [] ∨ ∃ b off, a = some ⟨b, off, none⟩ ∧ b < w.heap.size ∧ ∀ i, i < bs.length → w.cell? ⟨b, off + i, none⟩ = some (.int .u8 (bs.getD i 0 : Nat)))
/-- its block, if it has one that matters -/
theorem lt_cell {w : World} {a : Addr} {v : Value} (h : w.cell? a = some v) : a.block < w.heap.size := by
  rcases Nat.lt_or_ge a.block w.heap.size with k | k
  · exact k
  · exfalso
    unfold World.cell? at h
    rw [Array.getElem?_eq_none k] at h
    cases h
theorem RowB.read {B : Nat} {w : World} {v : Value} {bs : List Nat} (h : RowB B w v bs) (h8 : ∀ x ∈ bs, x < 256) : ReadB w v bs := by
  refine ⟨h8, ?_⟩
  have h2 := h.2
  rcases h2 with ⟨rfl, h0⟩ | ⟨g, cap, cur, rfl, _⟩
  · have : bs = [] := List.length_eq_zero_iff.1 h0
    subst this
    exact ⟨none, 0, rfl, Or.inl rfl⟩
  · refine ⟨_, cap, rfl, ?_⟩
    by_cases h0 : bs = []
    · exact Or.inl h0
    · right
      refine ⟨g, 0, rfl, (h.lt g rfl).2, fun i hi => ?_⟩
      have := World.ownsRow.cellAt h i (by omega)
      rw [bv_get bs i (bs.getD i 0) (by simp [List.getD_eq_getElem?_getD, hi])] at this
      simpa using this
theorem ReadB.only {w w' : World} {v : Value} {bs : List Nat} {S : List Nat} (h : ReadB w v bs) (o : Only S w w') (hS : ∀ g, v.ownBlock = some g → g ∉ S) : ReadB w' v bs := by
  obtain ⟨h8, a, cap, rfl, h⟩ := h
  refine ⟨h8, a, cap, rfl, ?_⟩
  rcases h with h | ⟨b, off, rfl, hb, hc⟩
  · exact Or.inl h
  · exact Or.inr ⟨b, off, rfl, Nat.lt_of_lt_of_le hb o.size, fun i hi => by rw [o.cell (p := ⟨b, off + i, none⟩) hb (hS b rfl)]; exact hc i hi⟩

/-- bytes as a string -/
def str (bs : List Nat) : ByteArray := strOfNums (bs.map fun (b : Nat) => (b : Int))
theorem ReadB.conv {w : World} {v : Value} {bs : List Nat} (h : ReadB w v bs) : (convert 22 9 v).run Try.prog w = .ok (.string (str bs)) w := by
  obtain ⟨h8, a, cap, rfl, h⟩ := h
  rcases h with rfl | ⟨b, off, rfl, hb, hc⟩
  · cases a with
    | none => exact run_convert_bytes_nil w 22 5 Try.underlying22 Try.underlying5 _ _ 9 Try.underlying9
    | some ad =>
      rw [run_convert_bytes_string w 22 9 5 _ _ _ Try.underlying22 Try.underlying5 Try.underlying9]
      have hl : (loadCells ad 0).run Try.prog w = .ok (([] : List Int).map (Value.int .u8)).toArray w := by
        have := run_loadCells_list (P := Try.prog) w ad [] (fun j v hj => by simp at hj)
        simpa using this
      have := run_bytesToString (P := Try.prog) w ad 0 cap [] hl
      exact this
  · refine run_convert_bytes_arg w 22 5 Try.underlying22 Try.underlying5 b off bs.length cap (bs.map fun (b : Nat) => (b : Int)) (by simp) (fun i hi => ?_) 9 Try.underlying9
    rw [hc i hi]
    simp [List.getD_eq_getElem?_getD, hi]

/-- what Clone leaves -/
def ClonePost (w : World) (bs : List Nat) (e : Ending) (w' : World) : Prop := ∃ v, e = .returned v ∧ RowB w.heap.size w' v bs ∧ Only [] w w'

set_option maxHeartbeats 1000000 in
theorem clone_any (v : Value) (bs : List Nat) (w : World) (h : ReadB w v bs) (hl : bs.length ≤ 140737488355328) : Calls Try.prog 19 #[v] w (ClonePost w bs) := by
  obtain ⟨h8, a, cap, rfl, h⟩ := h
  have q22 : ∀ (w : World) (a : Option Addr) (n c n' c' : Nat), (binOp .eql 22 (.slice a n c) (.slice none n' c')).run Try.prog w = .ok (.bool a.isNone) w := fun w a n c n' c' => Lib.run_eql_slice_nil w _ _ a n c n' c' Try.underlying22
  cases a with
  | none =>
    have : bs = [] := by
      rcases h with h | ⟨b, off, h, _⟩
      · exact h
      · cases h
    subst this
    clear h h8
    go_enter Try.func19, Try.ntmps19
    go_wp2
    go_ret
    exact ⟨_, rfl, World.ownsRow_nil _ _ _ _, Only.refl _ _⟩
  | some ad =>
    obtain ⟨i0, hi, hz0, hz1, hz2⟩ := info_parts info_u8
    have A : Hid (∀ j u, (bv bs)[j]? = some u → (w.alloc (.cells #[] 5)).cell? (ad.add j) = some u) := by
      show ∀ j u, _ → _
      intro j u hj
      have hjn : j < bs.length := by
        have := (List.getElem?_eq_some_iff.1 hj).1
        simpa using this
      rcases h with rfl | ⟨b, off, hab, hb, hc⟩
      · simp at hjn
      · injection hab with hab
        subst hab
        rw [Addr.add_lit]
        refine Lib.cell?_alloc_some _ ?_
        rw [hc j hjn, ← hj, bv_get bs j (bs.getD j 0) (by simp [List.getD_eq_getElem?_getD, hjn])]
    clear h h8
    go_enter Try.func19, Try.ntmps19
    go_wp2_with (at_builtin; refine wpList_append_own _ rfl _ _ 22 rfl w.heap.size 5 i0 (.int .u8 0) 1 1 Try.underlying22 hi hz0 hz1 hz2 rfl (by decide) _ _ _ rfl (World.ownsRow_made w #[] 0 (Nat.le_refl _) (Nat.zero_le _) rfl) ad bs.length cap (bv bs) rfl ?qc1 A.out (bv_one bs) ?qc4 ?qc5 ?qc6 ?_)
    case qc1 => simp
    case qc4 => unfold maxLen; omega
    case qc5 => omega
    case qc6 => simp
    intro v' w1 hown hgrow hnil
    go_wp2
    go_ret
    refine ⟨v', rfl, by simpa [RowB] using hown, ?_⟩
    exact ((Only.refl [] w).alloc _).then (grown_only hgrow) (by simp [Value.ownBlock])
end Go.Proofs.Ytcfekpedaiemiaa

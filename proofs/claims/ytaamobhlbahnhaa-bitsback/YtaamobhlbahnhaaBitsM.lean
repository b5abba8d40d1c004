/- Package bits: the other methods of a Writer. -/
import Derived.Test.YtaamobhlbahnhaaBytes
namespace Go.Proofs.Ytaamobhlbahnhaa
open Go.RowKit Bit

def NewPost (w : World) (e : Ending) (w' : World) : Prop := e = .returned (.pointer (some ⟨w.heap.size, 0, none⟩)) ∧ Wr w.heap.size w' w.heap.size (.slice none 0 0) [] ∧ Only [] w w' ∧ w'.heap.size = w.heap.size + 1
theorem newWriter_any (w : World) : Calls Try.prog 8 #[] w (NewPost w) := by
  go_enter Try.func8, Try.ntmps8
  go_wp2
  go_ret
  exact ⟨rfl, ⟨Two.new _ _ _ _, World.ownsRow_nil _ _ _ _, by simp [Value.ownBlock]⟩, (Only.refl _ _).alloc _, by simp⟩

theorem len_any (B b : Nat) (sv : Value) (l : List Bool) (w : World) (h : Wr B w b sv l) : Calls Try.prog 14 #[.pointer (some ⟨b, 0, none⟩)] w fun e w' => e = .returned (.int .i64 l.length) ∧ w' = w := by
  have c1 := h.two.cell1
  go_enter Try.func14, Try.ntmps14
  go_wp2
  go_ret
  exact ⟨rfl, rfl⟩

theorem bytes_any (B b : Nat) (sv : Value) (l : List Bool) (hl : l.length ≤ 1000000000) (w : World) (h : Wr B w b sv l) : Calls Try.prog 13 #[.pointer (some ⟨b, 0, none⟩)] w (ClonePost w (pack l)) := by
  have c0 := h.two.cell0
  have H : Hid _ := h
  clear h
  go_enter Try.func13, Try.ntmps13
  go_wp2_with fail
  refine (clone_any sv (pack l) w (H.out.row.read (pack_lt l)) (by rw [pack_length]; omega)).mono ?_
  rintro e w' ⟨v, rfl, hr, ho⟩
  have HH : Hid _ := And.intro hr ho
  clear hr ho
  go_wp2_with fail
  go_ret
  exact ⟨v, rfl, HH.out.1, HH.out.2⟩

theorem uint64_of (x : Int) : IntKind.u64.wrap x = ((x % 18446744073709551616).toNat : Int) := by rw [wrap_u64]; omega
theorem signed_any (B b : Nat) (x : Int) (n : Int) (l : List Bool) (hl : l.length ≤ 1000000000) (sv : Value) (w : World) (h : Wr B w b sv l) (hB : B ≤ w.heap.size) :
    Calls Try.prog 10 #[.pointer (some ⟨b, 0, none⟩), .int .i64 x, .int .i64 n] w (PutPost B b w sv (l ++ bitsOf (x % 18446744073709551616).toNat (sz n))) := by
  have H : Hid _ := h
  clear h
  go_enter Try.func10, Try.ntmps10
  go_wp2_with fail
  rw [uint64_of]
  refine (put_any B b _ n (by omega) l hl sv w H.out hB).mono ?_
  rintro e w' ⟨rfl, HH⟩
  have HP : Hid _ := HH
  clear HH
  go_wp2_with fail
  go_end0
  exact ⟨rfl, HP.out⟩
end Go.Proofs.Ytaamobhlbahnhaa

/- Package bits: a Reader: Left, NewReader. -/
import Derived.Test.YtaamobhlbahnhaaBitsM
import Derived.Test.YtaamobhlbahnhaaTrap
namespace Go.Proofs.Ytaamobhlbahnhaa
open Go.RowKit Bit

/-- a Reader of bs that stands at p -/
structure Rd (w : World) (b : Nat) (sv : Value) (bs : List Nat) (p : Nat) : Prop where
  two : Two w b sv (.int .i64 p)
  read : ReadB w sv bs
  apart : sv.ownBlock ≠ some b
  le : p ≤ 8 * bs.length
theorem Rd.only {w w' : World} {b : Nat} {sv : Value} {bs : List Nat} {p : Nat} {S : List Nat} (h : Rd w b sv bs p) (o : Only S w w') (hb : b ∉ S) (hS : ∀ g, sv.ownBlock = some g → g ∉ S) : Rd w' b sv bs p :=
  ⟨h.two.only o hb, h.read.only o hS, h.apart, h.le⟩
theorem Rd.drewN {w : World} {b : Nat} {sv : Value} {bs : List Nat} {p : Nat} (h : Rd w b sv bs p) (n : Nat) : Rd (w.drewN n) b sv bs p := h.only (only_drewN w n) (by simp) (by simp)

def NewRPost (w : World) (bs : List Nat) (e : Ending) (w' : World) : Prop :=
  ∃ b sv, e = .returned (.pointer (some ⟨b, 0, none⟩)) ∧ w.heap.size ≤ b ∧ (∀ g, sv.ownBlock = some g → w.heap.size ≤ g ∧ g < b) ∧ Rd w' b sv bs 0 ∧ Only [] w w'
theorem newReader_any (v : Value) (bs : List Nat) (w : World) (h : ReadB w v bs) (hl : bs.length ≤ 1099511627776) : Calls Try.prog 12 #[v] w (NewRPost w bs) := by
  have h8 := h.1
  have H8 : Hid _ := h8
  have H : Hid _ := h
  clear h h8
  go_enter Try.func12, Try.ntmps12
  go_wp2_with fail
  refine (clone_any v bs w H.out hl).mono ?_
  rintro e w1 ⟨sv, rfl, hr, ho⟩
  obtain ⟨_, a, cap, rfl, _⟩ := hr.read H8.out
  have HH : Hid _ := And.intro hr ho
  clear hr ho
  go_wp2_with fail
  go_ret
  have o1 : Only [] w1 (w1.alloc (.cells #[.slice a bs.length cap, .int .i64 0] 60)) := (Only.refl _ _).alloc _
  have hlt : ∀ g, (Value.slice a bs.length cap).ownBlock = some g → w.heap.size ≤ g ∧ g < w1.heap.size := World.ownsRow.lt HH.out.1
  refine ⟨w1.heap.size, _, rfl, HH.out.2.size, hlt, ⟨Two.new _ _ _ _, (HH.out.1.read H8.out).only o1 (by simp), fun e => by have := (hlt _ e).2; omega, Nat.zero_le _⟩, HH.out.2.alloc _⟩

theorem left_any (b : Nat) (sv : Value) (bs : List Nat) (p : Nat) (hl : bs.length ≤ 1099511627776) (w : World) (h : Rd w b sv bs p) :
    Calls Try.prog 17 #[.pointer (some ⟨b, 0, none⟩)] w fun e w' => e = .returned (.int .i64 ((8 * bs.length - p : Nat) : Int)) ∧ ∃ m, w' = w.drewN m := by
  have c0 := h.two.cell0
  have c1 := h.two.cell1
  have le := h.le
  obtain ⟨_, a, cap, rfl, _⟩ := h.read
  have H : Hid _ := h
  clear h
  have hw1 : IntKind.i64.wrap (8 * (bs.length : Int)) = 8 * bs.length := IntWalk.i64_in _ (by omega)
  have hw2 : IntKind.i64.wrap (8 * (bs.length : Int) - p) = 8 * bs.length - p := IntWalk.i64_in _ (by omega)
  go_enter Try.func17, Try.ntmps17
  go_wp2_with fail
  go_quiet (fail)
  go_wp2_with fail
  go_ret
  exact ⟨ret_num (by omega), nq, rfl⟩
end Go.Proofs.Ytaamobhlbahnhaa

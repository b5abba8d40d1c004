/- The law's own helpers 'other' and 'thrown'. -/
import Derived.Test.YtakcajmkgdoofaaTrap
namespace Go.Proofs.Ytakcajmkgdoofaa
open Go.RowKit

theorem assert_string (W : World) (v : Value) : (Instr.typeAssert (.iface 9 v) 20 9 true).run Try.prog W = .ok (.tuple #[v, .bool true]) W := by kernel_rfl
theorem rep13 : (Array.replicate 13 undef : Array Value) = #[undef, undef, undef, undef, undef, undef, undef, undef, undef, undef, undef, undef, undef] := rfl
theorem rep2 : (Array.replicate 2 undef : Array Value) = #[undef, undef] := rfl

theorem other_text (b : Nat) (x : Value) (t : ByteArray) (old : List PanicEntry) (w : World) (hb : Var w b x) :
    CallsD Try.prog 36 #[.pointer (some ⟨b, 0, none⟩)] (.panicking ({ v := .iface 9 (.string t), recovered := false } :: old)) w fun e u' w' =>
      e = .returned (.tuple #[]) ∧ u' = .panicking ({ v := .iface 9 (.string t), recovered := true } :: old) ∧ Only [b] w w' ∧ Var w' b (.string t) := by
  refine callsD_of_wpS Try.func36 rfl fun c₀ cs hu => ?_
  have ha := fun W => assert_string W (.string t)
  have c0 := hb.cell
  have z0 := hb.frozen
  apply wpS_seq
  apply wpS_region
  simp [wpOpsS, go_sem, recoverD, hu, Try.ntmps36, Exit.thenS, rep13]
  refine wpS_of_wp ?_
  go_wp2_with fail
  refine ⟨rfl, _, rfl, _, by simp [results, Try.results36, go_sem], rfl, rfl, ?_, ?_⟩
  · exact (Only.refl _ _).setCell (by simp) _
  · exact hb.set _

/-- the world in which 'other' does f -/
def inOther (w : World) : World := w.alloc (.cells #[.string ⟨#[]⟩] 9)
theorem inOther_size (w : World) : (inOther w).heap.size = w.heap.size + 1 := by simp [inOther]
theorem inOther_only (w : World) : Only [] w (inOther w) := (Only.refl [] w).alloc _

set_option maxHeartbeats 1000000 in
theorem other_any {Q : Ending → World → Prop} (F : Nat) (cap : Array Value) (S : List Nat) (w : World) (h0 : w.heap.size ∉ S)
    (hF : ∀ w, (callFunc F cap).run Try.prog w = .ok (.enter F cap) w)
    (h : Calls Try.prog F cap (inOther w) fun e w2 => Only S (inOther w) w2 ∧ ∃ t old, (∀ x ∈ old, x.goexit = false) ∧ e = .panicked ({ v := .iface 9 (.string t), recovered := false } :: old) ∧ ∀ w', Only [w.heap.size] w2 w' → Q (.returned (.string t)) w') :
    Calls Try.prog 16 #[.func (.func F) #[] cap] w Q := by
  have hmf : ∀ (fn : Fn) (first cap : Array Value) (w : World), (Instr.makeFunc fn first cap).run Try.prog w = .ok (.func fn first cap) w := fun _ _ _ _ => rfl
  have H : Hid _ := h
  clear h
  go_enter_defers Try.func16, Try.ntmps16
  go_wp2_with fail
  refine Calls.mono (P := Try.prog) (f := F) (args := cap) (w := inOther w) H.out ?_
  clear H
  rintro e w2 ⟨o2, t, old, ho, rfl, hQ⟩
  have hb : Var w2 w.heap.size (.string ⟨#[]⟩) := Var.only (w := inOther w) (Var.new w _ _) o2 h0
  refine leaves_cons (f := 36) (args := #[.pointer (some ⟨w.heap.size, 0, none⟩)]) (by simp) (by simp [go_sem]) ?_
  refine (other_text _ _ t old w2 hb).mono ?_
  rintro e u' w3 ⟨rfl, rfl, o3, b3⟩
  have k0 := b3.cell
  have hs := settle_no { v := .iface 9 (.string t), recovered := true } rfl old ho
  simp only [hs]
  refine ⟨_, by simp [results, Try.results16, go_sem, k0], hQ _ o3⟩

theorem thrown_in (b : Nat) (x : Value) (c a : Int) (old : List PanicEntry) (w : World) (hb : Var w b x) :
    CallsD Try.prog 37 #[.pointer (some ⟨b, 0, none⟩)] (.panicking ({ v := thrownV c a, recovered := false } :: old)) w fun e u' w' =>
      e = .returned (.tuple #[]) ∧ u' = .panicking ({ v := thrownV c a, recovered := true } :: old) ∧ Only [b] w w' ∧ Var w' b (.bool true) := by
  refine callsD_of_wpS Try.func37 rfl fun c₀ cs hu => ?_
  have c0 := hb.cell
  have z0 := hb.frozen
  apply wpS_region
  simp [wpOpsS, go_sem, recoverD, hu, Try.ntmps37, rep2, thrownV, c0, z0]
  refine ⟨rfl, _, rfl, _, by simp [results, Try.results37, go_sem], rfl, rfl, (Only.refl _ _).setCell (by simp) _, hb.set _⟩
theorem thrown_any (w : World) : Calls Try.prog 22 #[] w fun e w' => e = .returned (.bool true) ∧ Only [] w w' := by
  have hmf : ∀ (fn : Fn) (first cap : Array Value) (w : World), (Instr.makeFunc fn first cap).run Try.prog w = .ok (.func fn first cap) w := fun _ _ _ _ => rfl
  go_enter_defers Try.func22, Try.ntmps22
  go_wp2_with fail
  refine (throw_any _ _ _).mono ?_
  rintro e w2 ⟨rfl, rfl⟩
  refine leaves_cons (f := 37) (args := #[.pointer (some ⟨w.heap.size, 0, none⟩)]) (by simp) (by simp [go_sem]) ?_
  refine (thrown_in _ _ 1 1 [] _ (Var.new w _ _)).mono ?_
  rintro e u' w3 ⟨rfl, rfl, o3, b3⟩
  have k0 := b3.cell
  have hs := settle_no { v := thrownV 1 1, recovered := true } rfl [] (by simp)
  simp only [hs]
  exact ⟨_, by simp [results, Try.results22, go_sem, k0], rfl, ((Only.refl [] w).alloc _).then o3 (by simp)⟩
end Go.Proofs.Ytakcajmkgdoofaa

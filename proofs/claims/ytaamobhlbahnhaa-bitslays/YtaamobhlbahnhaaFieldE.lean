/- The Fields that came in to a law of chapter 4. -/
import Derived.Test.YtaamobhlbahnhaaFrameG
import Derived.Test.YtaamobhlbahnhaaBitsTwo
import Derived.Test.YtaamobhlbahnhaaPick
namespace Go.Proofs.Ytaamobhlbahnhaa
open Go.ChangeShapes Go.WideShapes Go.ChangeAt Go.RowKit Go.Deep Bit

def FieldE (cs : List Value) : Prop := ∃ (v : Nat) (n : Int) (s : Bool), cs = [.int .u64 (v : Int), .int .i64 n, .bool s] ∧ v < 18446744073709551616
theorem fieldE {H : Type} {enc : TypeId × Value → H} {w : World} {base : Nat} : ∀ n cs x, cs.length = 3 → DataW.trod enc Try.prog w base (fun _ => true) true n 45 cs = some x → FieldE cs := by
  intro n cs x hl h
  obtain ⟨y0, y1, y2, m, _, _, g0, g1, g2⟩ := trod_struct3 (P := Try.prog) Try.underlying45 h
  match cs, hl with
  | [v0, v1, v2], _ =>
    have c0 : Try.prog.cellsOf 27 = 1 := by kernel_rfl
    have c1 : Try.prog.cellsOf 3 = 1 := by kernel_rfl
    have c2 : Try.prog.cellsOf 4 = 1 := by kernel_rfl
    simp [c0, c1, c2] at g0 g1 g2
    obtain ⟨z0, k0, _, w0⟩ := DataW.trod_int Try.underlying27 g0
    obtain ⟨z1, k1, _, w1⟩ := DataW.trod_int Try.underlying3 g1
    obtain ⟨z2, k2, _⟩ := DataW.trod_bool Try.underlying4 g2
    simp only [List.cons.injEq, and_true] at k0 k1 k2
    have := wf_u64 w0
    exact ⟨z0.toNat, z1, z2, by rw [k0, k1, k2, show ((z0.toNat : Nat) : Int) = z0 by omega], by omega⟩

/-- the fields: V the number, N the raw size, G whether signed -/
def Flds (B : Nat) (w : World) (a : Option Addr) (n : Nat) (V : Nat → Nat) (N : Nat → Int) (G : Nat → Bool) : Prop :=
  ∀ i, i < n → V i < 18446744073709551616 ∧ ∃ b o, a = some ⟨b, o, none⟩ ∧ b < B ∧ b < w.heap.size ∧ w.cell? ⟨b, o + i * 3, none⟩ = some (.int .u64 (V i : Nat)) ∧ w.cell? ⟨b, o + i * 3 + 1, none⟩ = some (.int .i64 (N i)) ∧ w.cell? ⟨b, o + i * 3 + 2, none⟩ = some (.bool (G i))
theorem flds_of {w : World} {v : Value} {n : Nat} {F : Nat → List Value} (h : CameG 3 FieldE w v n F) : ∃ a cap V N G, v = .slice a n cap ∧ n ≤ 9223372036854775807 ∧ Flds w.heap.size w a n V N G := by
  obtain ⟨a, cap, rfl, h1, h2, h3⟩ := h
  have hn : n ≤ 9223372036854775807 := by unfold maxLen at h2; omega
  rcases h3 with rfl | ⟨b, off, rfl, hb, hF⟩
  · exact ⟨a, cap, fun _ => 0, fun _ => 0, fun _ => false, rfl, hn, fun i hi => by omega⟩
  · have key : ∀ i, i < n → ∃ t : Nat × Int × Bool, F i = [.int .u64 (t.1 : Int), .int .i64 t.2.1, .bool t.2.2] ∧ t.1 < 18446744073709551616 := fun i hi => by
      obtain ⟨v, m, s, e, hv⟩ := (hF i hi).1
      exact ⟨(v, m, s), e, hv⟩
    obtain ⟨t, ht⟩ := choose_lt (α := Nat × Int × Bool) key
    refine ⟨some ⟨b, off, none⟩, cap, fun i => (t i).1, fun i => (t i).2.1, fun i => (t i).2.2, rfl, hn, fun i hi => ⟨(ht i hi).2, b, off, rfl, hb, hb, ?_, ?_, ?_⟩⟩
    · have := (hF i hi).2.2 0 (by omega); rw [(ht i hi).1] at this; simpa using this
    · have := (hF i hi).2.2 1 (by omega); rw [(ht i hi).1, ← Nat.add_assoc] at this; simpa using this
    · have := (hF i hi).2.2 2 (by omega); rw [(ht i hi).1, ← Nat.add_assoc] at this; simpa using this
theorem Flds.only {B : Nat} {w w' : World} {a : Option Addr} {n : Nat} {V : Nat → Nat} {N : Nat → Int} {G : Nat → Bool} {S : List Nat} (h : Flds B w a n V N G) (o : Only S w w') (hS : ∀ g ∈ S, B ≤ g) : Flds B w' a n V N G := fun i hi => by
  obtain ⟨h0, b, p, h1, h2, h3, h4, h5, h6⟩ := h i hi
  have hb : b ∉ S := fun hm => by have := hS b hm; omega
  refine ⟨h0, b, p, h1, h2, Nat.lt_of_lt_of_le h3 o.size, ?_, ?_, ?_⟩
  · rw [o.cell (p := ⟨b, p + i * 3, none⟩) h3 hb]; exact h4
  · rw [o.cell (p := ⟨b, p + i * 3 + 1, none⟩) h3 hb]; exact h5
  · rw [o.cell (p := ⟨b, p + i * 3 + 2, none⟩) h3 hb]; exact h6

/-- the law's size of a raw number -/
def szr (n : Int) : Int := if n.tmod 13 = 12 then n % 90 - 10 else n % 66
theorem szr_any (n : Int) (w : World) : Calls Try.prog 21 #[.int .i64 n] w fun e w' => e = .returned (.int .i64 (szr n)) ∧ w = w' := by
  by_cases h : n.tmod 13 = 12
  · have h' : (n.tmod 13 == 12) = true := by simpa using h
    have e : szr n = n % 90 - 10 := by unfold szr; rw [if_pos h]
    have E : Hid _ := e
    have H : Hid _ := h
    clear e h
    go_enter Try.func21, Try.ntmps21
    go_wp2_with fail
    refine (pick_any _ _ (by omega) (by omega) _).mono ?_
    rintro e w' ⟨rfl, rfl⟩
    go_wp2_with fail
    go_ret
    exact ⟨ret_num E.out.symm, rfl⟩
  · have h' : (n.tmod 13 == 12) = false := by simpa using h
    have e : szr n = n % 66 := by unfold szr; rw [if_neg h]
    have E : Hid _ := e
    have H : Hid _ := h
    clear e h
    go_enter Try.func21, Try.ntmps21
    go_wp2_with fail
    refine (pick_any _ _ (by omega) (by omega) _).mono ?_
    rintro e w' ⟨rfl, rfl⟩
    go_wp2_with fail
    go_ret
    exact ⟨ret_num E.out.symm, rfl⟩
end Go.Proofs.Ytaamobhlbahnhaa

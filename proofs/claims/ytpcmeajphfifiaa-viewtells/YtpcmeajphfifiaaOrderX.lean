/- Order of whatever list; the laws' 'same' of two lists that are alike; the chapter's examples ('known'). -/
import Derived.Test.YtpcmeajphfifiaaOrderW
import Derived.Test.YtpcmeajphfifiaaViewX
import Derived.Test.YtpcmeajphfifiaaHandF
namespace Go.Proofs.Ytpcmeajphfifiaa
open Go.ChangeShapes Go.WideShapes Go.ChangeAt Go.RowKit Go.Sort Go.Shelf Go.Lib
open Fl (V nn fin rg sg U IsOrd)

set_option maxHeartbeats 2000000 in
set_option maxRecDepth 100000 in
theorem order_0 (a : Option Addr) (cap : Nat) (w : World) :
    Calls Try.prog 18 #[.slice a 0 cap] w fun e w' => ∃ v, e = .returned v ∧ PRow w.heap.size w' v [] ∧ Below w.heap.size w w' := by
  have hmk : ∀ w : World, (Instr.makeSlice 32 (.int .i64 0) (.int .i64 0)).run Try.prog w = .ok (.slice (some ⟨w.heap.size, 0, none⟩) 0 0) (w.alloc (.cells (madeCells #[.int .i64 0] 0) 3)) := fun w => make_ints 0 (by omega) w
  have hb : Aside (Below w.heap.size w ((w.alloc (.cells #[.slice a 0 cap] 34)).alloc (.cells (madeCells #[.int .i64 0] 0) 3))) := ((Below.refl _ _).alloc (Nat.le_refl _) _).alloc (by simp) _
  go_enter Try.func18, Try.ntmps18
  go_wp2
  refine wp_loop_rounds 1 ?_
  rw [rounds_succ]
  go_wp2_with (go_at_call 31; refine (sort_0 _ _ _ _).mono ?_; rintro e w' ⟨rfl, rfl⟩)
  go_ret
  exact ⟨_, rfl, ⟨w.heap.size + 1, 0, rfl, by omega, by simp, fun k hk => absurd hk (by simp)⟩, hb.out⟩

theorem order_any (v : Value) (ds : List Nat) (w : World) (h : FRow w v ds) (hn : ds.length ≤ 21) (hlt : ∀ k, ds.getD k 0 < 2 ^ 64) :
    Calls Try.prog 18 #[v] w fun e w' => ∃ o v, IsOrd ds o ∧ e = .returned v ∧ PRow w.heap.size w' v o ∧ Below w.heap.size w w' := by
  rcases h with ⟨rfl, a, cap, rfl⟩ | ⟨hne, g, cap, rfl, hg, hc⟩
  · exact (order_0 a cap w).mono fun e w' ⟨v, h1, h2, h3⟩ => ⟨[], v, Fl.isOrd_nil, h1, h2, h3⟩
  · obtain ⟨m, hm⟩ : ∃ m, ds.length = m + 1 := ⟨ds.length - 1, by have := List.length_pos_iff.2 hne; omega⟩
    exact order_pos ds m hm hn hlt w g cap hg hc

/-- a list of numbers at the head of a row -/
def NRow (w : World) (v : Value) (xs : List Nat) : Prop :=
  (xs = [] ∧ ∃ a cap, v = .slice a 0 cap) ∨
  ∃ g cap, v = .slice (some ⟨g, 0, none⟩) xs.length cap ∧ ∀ k, k < xs.length → w.cell? ⟨g, k, none⟩ = some (.int .i64 ((xs.getD k 0 : Nat) : Int))
theorem PRow.n {B : Nat} {w : World} {v : Value} {o : List Nat} (h : PRow B w v o) : NRow w v o := by
  obtain ⟨g, cap, h1, _, _, h2⟩ := h
  exact Or.inr ⟨g, cap, h1, h2⟩

set_option maxHeartbeats 2000000 in
set_option maxRecDepth 100000 in
theorem same_pos (n g1 c1 g2 c2 : Nat) (X : Nat → Int) (hn : n < 1000) (w : World) (h1 : ∀ k, k < n → w.cell? ⟨g1, k, none⟩ = some (.int .i64 (X k))) (h2 : ∀ k, k < n → w.cell? ⟨g2, k, none⟩ = some (.int .i64 (X k))) :
    Calls Try.prog 17 #[.slice (some ⟨g1, 0, none⟩) n c1, .slice (some ⟨g2, 0, none⟩) n c2] w fun e w' => e = .returned (.bool true) ∧ ∃ q, w' = w.drewN q := by
  have H1 : Aside _ := h1
  have H2 : Aside _ := h2
  clear h1 h2
  go_enter Try.func17, Try.ntmps17
  go_wp2
  go_loopg [13] n (fun gk vi wr => ∃ k q : Nat, vi = .int .i64 k ∧ k ≤ n ∧ n - k ≤ gk ∧ Aside (wr = w.drewN q))
  case atStart => exact ⟨0, 0, rfl, by omega, by omega, rfl⟩
  case round =>
    obtain ⟨k, q, rfl, hk, hg, HW⟩ := hrel
    by_cases hlt : k < n
    · have hltz : (k : Int) < (n : Int) := by omega
      have k1 : wr.cell? ⟨g1, k, none⟩ = some (.int .i64 (X k)) := by rw [HW.out]; exact H1.out k hlt
      have k2 : wr.cell? ⟨g2, k, none⟩ = some (.int .i64 (X k)) := by rw [HW.out]; exact H2.out k hlt
      generalize X k = x at k1 k2
      go_wp2_with fail
      go_region
      all_goals go_wp2
      go_roundg (n - (k + 1))
      case measure => omega
      case rel => exact ⟨k + 1, q + 1, by go_num, by omega, Nat.le_refl _, by show _ = _; rw [HW.out]; rfl⟩
    · obtain rfl : k = n := by omega
      have hltz : ¬ (k : Int) < (k : Int) := by omega
      go_wp2
      go_ret
      exact ⟨rfl, q, HW.out⟩
set_option maxHeartbeats 2000000 in
set_option maxRecDepth 100000 in
theorem same_0 (a b : Option Addr) (c1 c2 : Nat) (w : World) :
    Calls Try.prog 17 #[.slice a 0 c1, .slice b 0 c2] w fun e w' => e = .returned (.bool true) ∧ ∃ q, w' = w.drewN q := by
  go_enter Try.func17, Try.ntmps17
  go_wp2
  refine wp_loop_rounds 1 ?_
  rw [rounds_succ]
  go_wp2
  go_ret
  exact ⟨rfl, 0, rfl⟩
theorem same_any (v1 v2 : Value) (xs : List Nat) (hn : xs.length < 1000) (w : World) (h1 : NRow w v1 xs) (h2 : NRow w v2 xs) :
    Calls Try.prog 17 #[v1, v2] w fun e w' => e = .returned (.bool true) ∧ ∃ q, w' = w.drewN q := by
  rcases h1 with ⟨rfl, a, c1, rfl⟩ | ⟨g1, c1, rfl, k1⟩
  · rcases h2 with ⟨_, b, c2, rfl⟩ | ⟨g2, c2, rfl, k2⟩
    · exact same_0 a b c1 c2 w
    · exact same_0 a _ c1 c2 w
  · rcases h2 with ⟨rfl, b, c2, rfl⟩ | ⟨g2, c2, rfl, k2⟩
    · exact same_0 _ b c1 c2 w
    · exact same_pos xs.length g1 c1 g2 c2 (fun k => ((xs.getD k 0 : Nat) : Int)) hn w k1 k2

/-! ### the chapter's examples -/
def d3 : List Nat := [4607182418800017408, 9221120237041090561, 4611686018427387904]
theorem ord3 : IsOrd d3 [1, 2, 0] := ⟨by decide, by decide +kernel⟩
theorem bt3 : (FloatKind.f64.format.order (Fl.btw 0 4621819117588971520 4598175219545276416) 4612811918334230528 == some .eq) = true := by decide +kernel
theorem so3 : Fl.soon 4611686018427387904 4607182418800017408 = true := by decide +kernel
theorem lt3 : ∀ k, d3.getD k 0 < 2 ^ 64
  | 0 => by decide
  | 1 => by decide
  | 2 => by decide
  | k + 3 => by show (0 : Nat) < _; decide

/-- a literal's row -/
theorem frow_lit (w : World) (cs : Array Value) (t : TypeId) (ds : List Nat) (hne : ds ≠ []) (cap : Nat) (h : cs.toList = ds.map (Value.float .f64)) :
    FRow (w.alloc (.cells cs t)) (.slice (some ⟨w.heap.size, 0, none⟩) ds.length cap) ds :=
  Or.inr ⟨hne, _, _, rfl, by simp, fun k hk => by
    rw [World.cell?_alloc_at _ _ _ _ rfl, ← Array.getElem?_toList, h, List.getElem?_map, List.getElem?_eq_getElem hk]
    simp [hk]⟩
theorem nrow_lit (w : World) (cs : Array Value) (t : TypeId) (xs : List Nat) (cap : Nat) (h : cs.toList = xs.map fun (x : Nat) => Value.int .i64 (x : Int)) :
    NRow (w.alloc (.cells cs t)) (.slice (some ⟨w.heap.size, 0, none⟩) xs.length cap) xs :=
  Or.inr ⟨_, _, rfl, fun k hk => by
    rw [World.cell?_alloc_at _ _ _ _ rfl, ← Array.getElem?_toList, h, List.getElem?_map, List.getElem?_eq_getElem hk]
    simp [hk]⟩
theorem PRow.alloc {B : Nat} {w : World} {v : Value} {o : List Nat} (h : PRow B w v o) (ob : Obj) : PRow B (w.alloc ob) v o := by
  obtain ⟨g, cap, h1, h2, h3, h4⟩ := h
  exact ⟨g, cap, h1, h2, by simp; omega, fun k hk => by rw [World.cell?_alloc_past _ _ _ h3]; exact h4 k hk⟩
theorem below_alloc {w w' : World} (h : Below w.heap.size w w') (o : Obj) : Below w.heap.size w (w'.alloc o) := h.alloc h.size o
theorem below_drewN {B : Nat} {w w' : World} (h : Below B w w') (n : Nat) : Below B w (w'.drewN n) := ⟨h.os, h.tape, h.output, h.size, h.block⟩
theorem below_step {w w1 w2 : World} (h : Below w.heap.size w w1) (k : Below w1.heap.size w1 w2) : Below w.heap.size w w2 := h.trans (k.mono h.size)

set_option maxHeartbeats 2000000 in
set_option maxRecDepth 100000 in
theorem known_any (w : World) : Calls Try.prog 12 #[] w fun e w' => e = .returned (.bool true) ∧ Below w.heap.size w w' := by
  have h1 := bt3
  have h2 := so3
  go_enter Try.func12, Try.ntmps12
  go_wp2_with (first
    | (go_at_call 14; refine (between_any _ _ _ (by decide) (by decide) _).mono ?_; rintro e w' ⟨rfl, rfl⟩)
    | (go_at_call 11; go_in))
  refine (order_any _ d3 _ (frow_lit w _ _ d3 (by decide) 3 rfl) (by decide) lt3).mono ?_
  rintro e w1 ⟨o, v, ho, rfl, hp, hb⟩
  obtain rfl := ho.unique ord3
  have HP : Aside (PRow _ w1 v [1, 2, 0]) := hp
  have HB : Aside _ := hb
  have hv : ∃ g cap, v = .slice (some ⟨g, 0, none⟩) 3 cap := by obtain ⟨g, cap, h, _⟩ := hp; exact ⟨g, cap, h⟩
  obtain ⟨g, cap, rfl⟩ := hv
  clear hp hb ho
  go_wp2_with fail
  refine (same_any _ _ [1, 2, 0] (by decide) _ (PRow.alloc HP.out _).n (nrow_lit w1 _ _ [1, 2, 0] 3 rfl)).mono ?_
  rintro e w2 ⟨rfl, q, rfl⟩
  go_wp2_with (first
    | (go_at_call 16; refine (sooner_any _ _ (by decide) (by decide) _).mono ?_; rintro e w' ⟨rfl, rfl⟩))
  go_ret
  refine ⟨rfl, ?_⟩
  have b1 := below_step (below_alloc (Below.refl w.heap.size w) _) HB.out
  exact below_drewN (below_alloc b1 _) _

end Go.Proofs.Ytpcmeajphfifiaa

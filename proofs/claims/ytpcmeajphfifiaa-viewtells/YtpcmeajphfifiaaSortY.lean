/- The stable sort of one to twenty-one places by the order's comparing closure. -/
import Derived.Test.YtpcmeajphfifiaaSortX
import Derived.Test.YtpcmeajphfifiaaOrd
namespace Go.Proofs.Ytpcmeajphfifiaa
open Go.ChangeShapes Go.WideShapes Go.ChangeAt Go.RowKit Go.Sort Go.Shelf Go.Lib
open Fl (V nn fin rg sg U)

abbrev ltF (ds : List Nat) (m : Nat) (x y : Fin (m + 1)) : Bool := Fl.ltA ds m x y
theorem ltOf_cfF (ds : List Nat) (m : Nat) : ltOf (cfF ds m) = ltF ds m := by
  funext x y; exact cmpI_neg _ _
theorem swoF (ds : List Nat) (m : Nat) : SWO (ltF ds m) where
  irrefl x := decide_eq_false (by omega)
  trans x y z h1 h2 := by
    have h1 := of_decide_eq_true h1
    have h2 := of_decide_eq_true h2
    exact decide_eq_true (by omega)
  ntrans x y z h1 h2 := by
    have h1 := of_decide_eq_false h1
    have h2 := of_decide_eq_false h2
    exact decide_eq_false (by omega)

theorem one_cell (m : Nat) : OneCell (encF m) := fun _ => rfl
theorem enter32 : ∀ args w, (callFunc 32 args).run Try.prog w = .ok (.enter 32 args) w := enters_of Try.func32 (by kernel_rfl) rfl

theorem ins_any {w : World} {bx g cap0 : Nat} {ds : List Nat} (hB : Box w bx g cap0 ds) {m blk : Nat} (hl : ds.length = m + 1) (h1 : bx ≠ blk) (h2 : g ≠ blk) (cap a b : Nat) (d : Array (Fin (m + 1)))
    (hH : Holds (encF m) w blk 0 d) (hab : a ≤ b) (hb : b ≤ d.size) (hsz : d.size < 1000) :
    Calls Try.prog 39 #[.slice (some ⟨blk, 0, none⟩) d.size cap, .int .i64 a, .int .i64 b, .func (.func 32) #[] #[.pointer (some ⟨bx, 0, none⟩)]] w fun e w' =>
      e = .returned (.tuple #[]) ∧ ∃ n, w' = (putRow (encF m) w blk 0 (Sort.insertionSort (ltF ds m) d a b)).drewN n := by
  rw [← ltOf_cfF]
  exact Any.insertionSortCmpFunc_one l20 (encF m) (one_cell m) (cfF ds m) 32 #[.pointer (some ⟨bx, 0, none⟩)] blk 0 cap a b d w enter32 (reads hB hl h1 h2 d.size) hH hab hb (by omega)

theorem ins_size {α : Type} [Inhabited α] (lt : α → α → Bool) (hS : SWO lt) (d : Array α) (a b : Nat) (hab : a ≤ b) (hb : b ≤ d.size) : (Sort.insertionSort lt d a b).size = d.size := (insertionSort_holds hS d a b hab hb).1.1

theorem box_at {w : World} {bx g cap : Nat} {ds : List Nat} (hB : Box w bx g cap ds) {m blk : Nat} (h1 : bx ≠ blk) (h2 : g ≠ blk) (n : Nat) (dk : Array (Fin (m + 1))) :
    Box ((putRow (encF m) w blk 0 dk).drewN n) bx g cap ds := by
  have := box_sort hB h1 h2 n dk #[]
  rwa [sortWorld_none] at this

/-! ### up to 19 -/
set_option maxHeartbeats 2000000 in
set_option maxRecDepth 100000 in
theorem stable_low {w : World} {bx g cap0 : Nat} {ds : List Nat} (hB : Box w bx g cap0 ds) {m blk : Nat} (hl : ds.length = m + 1) (h1 : bx ≠ blk) (h2 : g ≠ blk) (cap : Nat) (d : Array (Fin (m + 1)))
    (hH : Holds (encF m) w blk 0 d) (hsz : d.size < 20) :
    Calls Try.prog 37 #[.slice (some ⟨blk, 0, none⟩) d.size cap, .int .i64 d.size, .func (.func 32) #[] #[.pointer (some ⟨bx, 0, none⟩)]] w fun e w' =>
      e = .returned (.tuple #[]) ∧ ∃ n, w' = (putRow (encF m) w blk 0 (Sort.insertionSort (ltF ds m) d 0 d.size)).drewN n := by
  have hi := ins_any hB hl h1 h2 cap 0 d.size d hH (by omega) (Nat.le_refl _) (by omega)
  clear hH hB
  generalize putRow (encF m) w blk 0 (Sort.insertionSort (ltF ds m) d 0 d.size) = wE at *
  generalize d.size = n at *
  go_enter Try.func37, Try.ntmps37
  go_wp2
  refine wp_loop_rounds 1 ?_
  rw [rounds_succ]
  go_wp2_with (go_at_call 39; refine hi.mono ?_; rintro e w' ⟨rfl, q, rfl⟩)
  refine wp_loop_rounds 1 ?_
  rw [rounds_succ]
  go_wp2
  go_end0
  exact ⟨rfl, q, rfl⟩

theorem ins_none {α : Type} [Inhabited α] (lt : α → α → Bool) (d : Array α) (a b : Nat) (h : b ≤ a + 1) : Sort.insertionSort lt d a b = d := by
  unfold Sort.insertionSort
  exact insOuter_stop lt a b (a + 1) d (by omega)
theorem ins_last {α : Type} [Inhabited α] (lt : α → α → Bool) (a b : Nat) (hab : a < b) : ∀ (k i : Nat) (d : Array α), i + k = b → a < i → insOuter lt a (b + 1) i d = insInner lt a b (insOuter lt a b i d) := by
  intro k
  induction k with
  | zero =>
    intro i d h1 _
    obtain rfl : i = b := by omega
    rw [insOuter_go lt a (i + 1) i d (by omega), insOuter_stop lt a (i + 1) (i + 1) _ (by omega), insOuter_stop lt a i i d (by omega)]
  | succ k ih =>
    intro i d h1 h2
    rw [insOuter_go lt a (b + 1) i d (by omega), ih (i + 1) _ (by omega) (by omega), insOuter_go lt a b i d (by omega)]
theorem ins_succ {α : Type} [Inhabited α] (lt : α → α → Bool) (d : Array α) (b : Nat) (hb : 0 < b) : Sort.insertionSort lt d 0 (b + 1) = insInner lt 0 b (Sort.insertionSort lt d 0 b) := by
  unfold Sort.insertionSort
  exact ins_last lt 0 b hb (b - 1) 1 d (by omega) (by omega)

/-! ### 20 -/
set_option maxHeartbeats 2000000 in
set_option maxRecDepth 100000 in
theorem stable_20 {w : World} {bx g cap0 : Nat} {ds : List Nat} (hB : Box w bx g cap0 ds) {m blk : Nat} (hl : ds.length = m + 1) (h1 : bx ≠ blk) (h2 : g ≠ blk) (cap : Nat) (d : Array (Fin (m + 1)))
    (hH : Holds (encF m) w blk 0 d) (hsz : d.size = 20) :
    Calls Try.prog 37 #[.slice (some ⟨blk, 0, none⟩) 20 cap, .int .i64 20, .func (.func 32) #[] #[.pointer (some ⟨bx, 0, none⟩)]] w fun e w' =>
      e = .returned (.tuple #[]) ∧ ∃ n, w' = (putRow (encF m) w blk 0 (Sort.insertionSort (ltF ds m) d 0 20)).drewN n := by
  have hi := ins_any hB hl h1 h2 cap 0 20 d hH (by omega) (by omega) (by omega)
  have es := ins_size (ltF ds m) (swoF ds m) d 0 20 (by omega) (by omega)
  have hi2 : ∀ q, Calls Try.prog 39 #[.slice (some ⟨blk, 0, none⟩) 20 cap, .int .i64 20, .int .i64 20, .func (.func 32) #[] #[.pointer (some ⟨bx, 0, none⟩)]] ((putRow (encF m) w blk 0 (Sort.insertionSort (ltF ds m) d 0 20)).drewN q) fun e w' =>
      e = .returned (.tuple #[]) ∧ ∃ n, w' = (putRow (encF m) w blk 0 (Sort.insertionSort (ltF ds m) d 0 20)).drewN n := fun q => by
    have hH2 := holds_putRow (encF m) w blk 0 d _ hH es
    have := ins_any (box_at hB h1 h2 q (Sort.insertionSort (ltF ds m) d 0 20)) hl h1 h2 cap 20 20 _ (show Holds (encF m) ((putRow (encF m) w blk 0 (Sort.insertionSort (ltF ds m) d 0 20)).drewN q) blk 0 _ from hH2) (by omega) (by omega) (by omega)
    rw [es, hsz, ins_none (ltF ds m) (Sort.insertionSort (ltF ds m) d 0 20) 20 20 (by omega), putRow_self _ _ _ _ _ (show Holds (encF m) ((putRow (encF m) w blk 0 (Sort.insertionSort (ltF ds m) d 0 20)).drewN q) blk 0 _ from hH2)] at this
    exact this.mono fun _ _ ⟨he, n, hw⟩ => ⟨he, q + n, by rw [hw, World.drewN_drewN]⟩
  rw [hsz] at hi
  clear hH hB es
  generalize putRow (encF m) w blk 0 (Sort.insertionSort (ltF ds m) d 0 20) = wE at *
  go_enter Try.func37, Try.ntmps37
  go_wp2
  refine wp_loop_rounds 2 ?_
  rw [rounds_succ]
  go_wp2_with (go_at_call 39; refine hi.mono ?_; rintro e w' ⟨rfl, q, rfl⟩)
  rw [rounds_succ]
  go_wp2_with (go_at_call 39; refine (hi2 q).mono ?_; rintro e w' ⟨rfl, q2, rfl⟩)
  refine wp_loop_rounds 1 ?_
  rw [rounds_succ]
  go_wp2
  go_end0
  exact ⟨rfl, q2, rfl⟩

/-! ### 21 -/
theorem mono_sorted {α : Type} [Inhabited α] {lt : α → α → Bool} (hS : SWO lt) {d : Array α} (h : SortedIn lt 0 20 d) (x : α) : ∀ s t, s ≤ t → t < 20 → lt x d[s]! = true → lt x d[t]! = true := by
  intro s t hst ht hx
  rcases Nat.lt_or_eq_of_le hst with h1 | rfl
  · cases e : lt x d[t]!
    · have := hS.ntrans x d[t]! d[s]! e (h s t (by omega) h1 ht)
      rw [hx] at this; cases this
    · rfl
  · exact hx

set_option maxHeartbeats 2000000 in
set_option maxRecDepth 100000 in
theorem stable_21 {w : World} {bx g cap0 : Nat} {ds : List Nat} (hB : Box w bx g cap0 ds) {m blk : Nat} (hl : ds.length = m + 1) (h1 : bx ≠ blk) (h2 : g ≠ blk) (cap : Nat) (d : Array (Fin (m + 1)))
    (hH : Holds (encF m) w blk 0 d) (hsz : d.size = 21) :
    Calls Try.prog 37 #[.slice (some ⟨blk, 0, none⟩) 21 cap, .int .i64 21, .func (.func 32) #[] #[.pointer (some ⟨bx, 0, none⟩)]] w fun e w' =>
      e = .returned (.tuple #[]) ∧ ∃ n, w' = (putRow (encF m) w blk 0 (Sort.insertionSort (ltF ds m) d 0 21)).drewN n := by
  have hi := ins_any hB hl h1 h2 cap 0 20 d hH (by omega) (by omega) (by omega)
  have es := ins_size (ltF ds m) (swoF ds m) d 0 20 (by omega) (by omega)
  have hso := (insertionSort_holds (swoF ds m) d 0 20 (by omega) (by omega)).2
  rw [ins_succ (ltF ds m) d 20 (by omega)]
  have hH2 := holds_putRow (encF m) w blk 0 d _ hH es
  have hi2 : ∀ q, Calls Try.prog 39 #[.slice (some ⟨blk, 0, none⟩) 21 cap, .int .i64 20, .int .i64 21, .func (.func 32) #[] #[.pointer (some ⟨bx, 0, none⟩)]] ((putRow (encF m) w blk 0 (Sort.insertionSort (ltF ds m) d 0 20)).drewN q) fun e w' =>
      e = .returned (.tuple #[]) ∧ ∃ n, w' = (putRow (encF m) w blk 0 (Sort.insertionSort (ltF ds m) d 0 20)).drewN n := fun q => by
    have := ins_any (box_at hB h1 h2 q (Sort.insertionSort (ltF ds m) d 0 20)) hl h1 h2 cap 20 21 _ (show Holds (encF m) ((putRow (encF m) w blk 0 (Sort.insertionSort (ltF ds m) d 0 20)).drewN q) blk 0 _ from hH2) (by omega) (by omega) (by omega)
    rw [es, hsz, ins_none (ltF ds m) (Sort.insertionSort (ltF ds m) d 0 20) 20 21 (by omega), putRow_self _ _ _ _ _ (show Holds (encF m) ((putRow (encF m) w blk 0 (Sort.insertionSort (ltF ds m) d 0 20)).drewN q) blk 0 _ from hH2)] at this
    exact this.mono fun _ _ ⟨he, n, hw⟩ => ⟨he, q + n, by rw [hw, World.drewN_drewN]⟩
  have hi3 : ∀ q, Calls Try.prog 40 #[.slice (some ⟨blk, 0, none⟩) 21 cap, .int .i64 0, .int .i64 20, .int .i64 21, .func (.func 32) #[] #[.pointer (some ⟨bx, 0, none⟩)]] ((putRow (encF m) w blk 0 (Sort.insertionSort (ltF ds m) d 0 20)).drewN q) fun e w' =>
      e = .returned (.tuple #[]) ∧ ∃ n, w' = (putRow (encF m) w blk 0 (insInner (ltF ds m) 0 20 (Sort.insertionSort (ltF ds m) d 0 20))).drewN n := fun q => by
    have hq := box_at hB h1 h2 q (Sort.insertionSort (ltF ds m) d 0 20)
    have := sym_any m (cfF ds m) bx blk cap (Sort.insertionSort (ltF ds m) d 0 20) ((putRow (encF m) w blk 0 (Sort.insertionSort (ltF ds m) d 0 20)).drewN q) (reads hq hl h1 h2 _) hH2 (by omega) (by rw [ltOf_cfF]; exact mono_sorted (swoF ds m) hso _)
    rw [ltOf_cfF] at this
    refine this.mono fun _ _ ⟨he, n, hw⟩ => ⟨he, q + n, ?_⟩
    rw [hw, ← World.drewN_drewN]
    have hsz2 : (insInner (ltF ds m) 0 20 (Sort.insertionSort (ltF ds m) d 0 20)).size = (Sort.insertionSort (ltF ds m) d 0 20).size := by
      have a1 := ins_size (ltF ds m) (swoF ds m) d 0 21 (by omega) (by omega)
      rw [ins_succ (ltF ds m) d 20 (by omega)] at a1
      rw [a1, es]
    rw [← putRow_putRow (encF m) w blk 0 _ _ hsz2]
    rfl
  rw [hsz] at hi
  clear hH hB es hso hH2
  generalize putRow (encF m) w blk 0 (insInner (ltF ds m) 0 20 (Sort.insertionSort (ltF ds m) d 0 20)) = wF at *
  generalize putRow (encF m) w blk 0 (Sort.insertionSort (ltF ds m) d 0 20) = wE at *
  go_enter Try.func37, Try.ntmps37
  go_wp2
  refine wp_loop_rounds 2 ?_
  rw [rounds_succ]
  go_wp2_with (go_at_call 39; refine hi.mono ?_; rintro e w' ⟨rfl, q, rfl⟩)
  rw [rounds_succ]
  go_wp2_with (go_at_call 39; refine (hi2 q).mono ?_; rintro e w' ⟨rfl, q2, rfl⟩)
  refine wp_loop_rounds 2 ?_
  rw [rounds_succ]
  go_wp2
  refine wp_loop_rounds 1 ?_
  rw [rounds_succ]
  go_wp2_with (go_at_call 40; refine (hi3 q2).mono ?_; rintro e w' ⟨rfl, q3, rfl⟩)
  rw [rounds_succ]
  go_wp2
  go_end0
  exact ⟨rfl, q3, rfl⟩

/-! ### none -/
set_option maxHeartbeats 2000000 in
set_option maxRecDepth 100000 in
theorem ins_0 (p : Option Addr) (cap : Nat) (fv : Value) (w : World) :
    Calls Try.prog 39 #[.slice p 0 cap, .int .i64 0, .int .i64 0, fv] w fun e w' => e = .returned (.tuple #[]) ∧ w = w' := by
  go_enter Try.func39, Try.ntmps39
  go_wp2
  refine wp_loop_rounds 1 ?_
  rw [rounds_succ]
  go_wp2
  go_end0
  exact ⟨rfl, rfl⟩
set_option maxHeartbeats 2000000 in
set_option maxRecDepth 100000 in
theorem stable_0 (p : Option Addr) (cap : Nat) (fv : Value) (w : World) :
    Calls Try.prog 37 #[.slice p 0 cap, .int .i64 0, fv] w fun e w' => e = .returned (.tuple #[]) ∧ w = w' := by
  go_enter Try.func37, Try.ntmps37
  go_wp2
  refine wp_loop_rounds 1 ?_
  rw [rounds_succ]
  go_wp2_with (go_at_call 39; refine (ins_0 _ _ _ _).mono ?_; rintro e w' ⟨rfl, rfl⟩)
  refine wp_loop_rounds 1 ?_
  rw [rounds_succ]
  go_wp2
  go_end0
  exact ⟨rfl, rfl⟩

theorem stable_any {w : World} {bx g cap0 : Nat} {ds : List Nat} (hB : Box w bx g cap0 ds) {m blk : Nat} (hl : ds.length = m + 1) (h1 : bx ≠ blk) (h2 : g ≠ blk) (cap : Nat) (d : Array (Fin (m + 1)))
    (hH : Holds (encF m) w blk 0 d) (hsz : d.size ≤ 21) :
    Calls Try.prog 37 #[.slice (some ⟨blk, 0, none⟩) d.size cap, .int .i64 d.size, .func (.func 32) #[] #[.pointer (some ⟨bx, 0, none⟩)]] w fun e w' =>
      e = .returned (.tuple #[]) ∧ ∃ n, w' = (putRow (encF m) w blk 0 (Sort.insertionSort (ltF ds m) d 0 d.size)).drewN n := by
  rcases (show d.size < 20 ∨ d.size = 20 ∨ d.size = 21 by omega) with h | h | h
  · exact stable_low hB hl h1 h2 cap d hH h
  · have := stable_20 hB hl h1 h2 cap d hH h
    rw [h]; exact this
  · have := stable_21 hB hl h1 h2 cap d hH h
    rw [h]; exact this

set_option maxHeartbeats 2000000 in
theorem sort_any {w : World} {bx g cap0 : Nat} {ds : List Nat} (hB : Box w bx g cap0 ds) {m blk : Nat} (hl : ds.length = m + 1) (h1 : bx ≠ blk) (h2 : g ≠ blk) (cap : Nat) (d : Array (Fin (m + 1)))
    (hH : Holds (encF m) w blk 0 d) (hsz : d.size ≤ 21) :
    Calls Try.prog 31 #[.slice (some ⟨blk, 0, none⟩) d.size cap, .func (.func 32) #[] #[.pointer (some ⟨bx, 0, none⟩)]] w fun e w' =>
      e = .returned (.tuple #[]) ∧ ∃ n, w' = (putRow (encF m) w blk 0 (Sort.insertionSort (ltF ds m) d 0 d.size)).drewN n := by
  have hi := stable_any hB hl h1 h2 cap d hH hsz
  clear hH hB
  generalize putRow (encF m) w blk 0 (Sort.insertionSort (ltF ds m) d 0 d.size) = wE at *
  generalize d.size = n at *
  go_enter Try.func31, Try.ntmps31
  go_wp2_with (go_at_call 37; refine hi.mono ?_; rintro e w' ⟨rfl, q, rfl⟩)
  go_end0
  exact ⟨rfl, q, rfl⟩
set_option maxHeartbeats 2000000 in
theorem sort_0 (p : Option Addr) (cap : Nat) (fv : Value) (w : World) :
    Calls Try.prog 31 #[.slice p 0 cap, fv] w fun e w' => e = .returned (.tuple #[]) ∧ w = w' := by
  go_enter Try.func31, Try.ntmps31
  go_wp2_with (go_at_call 37; refine (stable_0 _ _ _ _).mono ?_; rintro e w' ⟨rfl, rfl⟩)
  go_end0
  exact ⟨rfl, rfl⟩

end Go.Proofs.Ytpcmeajphfifiaa

/- The last step of the stable sort of twenty-one places: one element brought into a sorted row. -/
import Derived.Test.YtpcmeajphfifiaaSortW
namespace Go.Proofs.Ytpcmeajphfifiaa
open Go.ChangeShapes Go.WideShapes Go.ChangeAt Go.RowKit Go.Sort Go.Shelf Go.Lib
open Fl (V nn fin rg sg U)

def encF (m : Nat) (x : Fin (m + 1)) : Value := .int .i64 ((x : Nat) : Int)
def cfF (ds : List Nat) (m : Nat) (x y : Fin (m + 1)) : Int := cmpI (ds.getD x 0) (ds.getD y 0)

theorem box_sort {w : World} {bx g cap : Nat} {ds : List Nat} (hB : Box w bx g cap ds) {m blk : Nat} (h1 : bx ≠ blk) (h2 : g ≠ blk) (n : Nat) (dk : Array (Fin (m + 1))) (os : Array Obj) :
    Box (sortWorld (encF m) w blk 0 n dk os) bx g cap ds := by
  have key : ∀ a : Addr, a.block ≠ blk → ∀ v, w.cell? a = some v → (sortWorld (encF m) w blk 0 n dk os).cell? a = some v := by
    intro a ha v hv
    have hb : a.block < w.heap.size := by
      rcases Nat.lt_or_ge a.block w.heap.size with h | h
      · exact h
      · exfalso
        unfold World.cell? at hv
        rw [Array.getElem?_eq_none h] at hv
        cases hv
    unfold sortWorld
    rw [cell?_grow _ _ _ (by simpa using hb), cell?_putRow_other _ _ _ _ _ _ (Or.inl ha)]
    exact hv
  exact ⟨key _ h1 _ hB.box, fun k hk => key _ h2 _ (hB.cells k hk), hB.lt⟩

theorem reads {w : World} {bx g cap : Nat} {ds : List Nat} (hB : Box w bx g cap ds) {m blk : Nat} (hl : ds.length = m + 1) (h1 : bx ≠ blk) (h2 : g ≠ blk) (size : Nat) :
    CmpReads Try.prog 32 #[.pointer (some ⟨bx, 0, none⟩)] (encF m) (cfF ds m) blk 0 size w :=
  fun n os dk _ x y => closure_any bx g cap ds _ (box_sort hB h1 h2 n dk os) x y (by omega) (by omega)

theorem cmp_at {m : Nat} {cf : Fin (m + 1) → Fin (m + 1) → Int} {bx blk : Nat} {d : Array (Fin (m + 1))} {w : World}
    (hcmp : CmpReads Try.prog 32 #[.pointer (some ⟨bx, 0, none⟩)] (encF m) cf blk 0 d.size w) (hH : Holds (encF m) w blk 0 d) (x y : Fin (m + 1)) {wr : World} {n : Nat} (hw : wr = w.drewN n) (k : Nat) :
    Calls Try.prog 32 #[.int .i64 ((x : Nat) : Int), .int .i64 ((y : Nat) : Int), .pointer (some ⟨bx, 0, none⟩)] (wr.drewN k) fun e w' => e = .returned (.int .i64 (cf x y)) ∧ ∃ q, w' = (wr.drewN k).drewN q := by
  have := hcmp (n + k) #[] d rfl x y
  rw [sortWorld_none, putRow_self _ _ _ _ _ hH, ← World.drewN_drewN, ← hw] at this
  exact this

set_option maxHeartbeats 8000000 in
set_option maxRecDepth 1000000 in
theorem sym_any (m : Nat) (cf : Fin (m + 1) → Fin (m + 1) → Int) (bx blk cap : Nat) (d : Array (Fin (m + 1))) (w : World)
    (hcmp : CmpReads Try.prog 32 #[.pointer (some ⟨bx, 0, none⟩)] (encF m) cf blk 0 d.size w) (hH : Holds (encF m) w blk 0 d) (hs : d.size = 21)
    (hm : ∀ s t, s ≤ t → t < 20 → ltOf cf d[20]! d[s]! = true → ltOf cf d[20]! d[t]! = true) :
    Calls Try.prog 40 #[.slice (some ⟨blk, 0, none⟩) 21 cap, .int .i64 0, .int .i64 20, .int .i64 21, .func (.func 32) #[] #[.pointer (some ⟨bx, 0, none⟩)]] w fun e w' =>
      e = .returned (.tuple #[]) ∧ ∃ n, w' = (putRow (encF m) w blk 0 (insInner (ltOf cf) 0 20 d)).drewN n := by
  have HM : Aside _ := hm
  have HC : Aside _ := hcmp
  have HH : Aside (Holds (encF m) w blk 0 d) := hH
  have HS : Aside (d.size = 21) := hs
  clear hm hcmp hH hs
  go_enter Try.func40, Try.ntmps40
  go_wp2
  go_loopg [14, 15] 20 (fun gk vi vj wr => ∃ (i j n : Nat), vi = .int .i64 i ∧ vj = .int .i64 j ∧ i ≤ j ∧ j ≤ 20 ∧ j - i ≤ gk ∧ wr = w.drewN n ∧ Aside ((∀ t, t < i → ltOf cf d[20]! d[t]! = false) ∧ (∀ t, j ≤ t → t < 20 → ltOf cf d[20]! d[t]! = true)))
  case atStart => exact ⟨0, 20, 0, rfl, rfl, by omega, by omega, by omega, rfl, fun t ht => absurd ht (by omega), fun t h1 h2 => absurd h1 (by omega)⟩
  case round =>
    obtain ⟨i, j, n, rfl, rfl, hij, hj, hg, hwr, HI⟩ := hrel
    have HW : Aside (wr = w.drewN n) := hwr
    clear hwr
    by_cases hlt : i < j
    · have hltz : (i : Int) < (j : Int) := by omega
      obtain ⟨h, hh⟩ : ∃ h : Nat, ((i : Int) + (j : Int)) / 2 = (h : Int) := ⟨(i + j) / 2, by omega⟩
      have b1 : i ≤ h := by omega
      have b2 : h < j := by omega
      have b3 : (h : Int) < 21 := by omega
      have cx : wr.cell? ⟨blk, 20, none⟩ = some (.int .i64 ((d[20]! : Nat) : Int)) := by
        have := (HH.out 20 (by rw [HS.out]; omega)).1
        rw [HW.out]; simpa [encF] using this
      have cy : wr.cell? ⟨blk, h, none⟩ = some (.int .i64 ((d[h]! : Nat) : Int)) := by
        have := (HH.out h (by rw [HS.out]; omega)).1
        rw [HW.out]; simpa [encF] using this
      have hc := fun k => cmp_at HC.out HH.out d[20]! d[h]! HW.out k
      have hcase : ltOf cf d[20]! d[h]! = decide (cf d[20]! d[h]! < 0) := rfl
      have HCase : Aside _ := hcase
      clear hcase
      generalize d[20]! = x at *
      generalize hy : d[h]! = y at *
      have HY : Aside (d[h]! = y) := hy
      clear hy
      by_cases hlv : cf x y < 0
      · have hd : decide (cf x y < 0) = true := decide_eq_true hlv
        go_wp2_with fail
        go_quiet (first | (go_at_call 32; exact Calls.quiet_of (hc _)))
        go_wp2
        go_roundg (h - i)
        case measure => omega
        case rel =>
          refine ⟨i, h, n + nq, rfl, rfl, by omega, by omega, Nat.le_refl _, by rw [HW.out, World.drewN_drewN], HI.out.1, fun t h1 h2 => ?_⟩
          exact HM.out h t h1 h2 (by rw [HY.out, HCase.out]; exact hd)
      · have hd : decide (cf x y < 0) = false := decide_eq_false hlv
        go_wp2_with fail
        go_quiet (first | (go_at_call 32; exact Calls.quiet_of (hc _)))
        go_wp2
        go_roundg (j - (h + 1))
        case measure => omega
        case rel =>
          refine ⟨h + 1, j, n + nq, by go_num, rfl, by omega, by omega, Nat.le_refl _, by rw [HW.out, World.drewN_drewN], fun t h1 => ?_, HI.out.2⟩
          cases e : ltOf cf x d[t]!
          · rfl
          · have := HM.out t h (by omega) (by omega) e
            rw [HY.out, HCase.out, hd] at this
            cases this
    · obtain rfl : i = j := by omega
      have hltz : ¬ (i : Int) < (i : Int) := by omega
      go_wp2
      go_loopg [17] 20 (fun gk vk wr2 => ∃ (k n : Nat) (dk : Array (Fin (m + 1))), vk = .int .i64 k ∧ i ≤ k ∧ k ≤ 20 ∧ k ≤ gk ∧ wr2 = (putRow (encF m) w blk 0 dk).drewN n ∧ Aside (dk.size = 21 ∧ dk[k]! = d[20]! ∧ (∀ t, t < k → dk[t]! = d[t]!) ∧ insInner (ltOf cf) 0 k dk = insInner (ltOf cf) 0 20 d))
      case atStart => exact ⟨20, n, d, rfl, hj, by omega, by omega, by rw [putRow_self _ _ _ _ _ HH.out]; exact HW.out, HS.out, rfl, fun _ _ => rfl, rfl⟩
      case round =>
        obtain ⟨k, n2, dk, rfl, hik, hk, hg2, hw2, HK⟩ := hrel
        have HW2 : Aside (wr = (putRow (encF m) w blk 0 dk).drewN n2) := hw2
        clear hw2
        by_cases hlt2 : i < k
        · obtain ⟨kp, rfl⟩ : ∃ kp, k = kp + 1 := ⟨k - 1, by omega⟩
          have z1 : (i : Int) < (kp : Int) + 1 := by omega
          have z2 : (kp : Int) + 1 < 21 := by omega
          have z3 : (kp : Int) < 21 := by omega
          obtain ⟨sz, hx, hrest, hins⟩ := HK.out
          have hHk := holds_putRow (encF m) w blk 0 d dk HH.out (by rw [sz, HS.out])
          obtain ⟨c1, f1⟩ := hHk (kp + 1) (by omega)
          obtain ⟨c2, f2⟩ := hHk kp (by omega)
          obtain ⟨x, ex⟩ : ∃ x, x = dk[kp + 1]! := ⟨_, rfl⟩
          obtain ⟨y, ey⟩ : ∃ y, y = dk[kp]! := ⟨_, rfl⟩
          rw [← ex] at c1
          rw [← ey] at c2
          have W1 : wr.cell? ⟨blk, kp + 1, none⟩ = some (.int .i64 ((x : Nat) : Int)) := by rw [HW2.out]; simpa [encF] using c1
          have W2 : wr.cell? ⟨blk, kp, none⟩ = some (.int .i64 ((y : Nat) : Int)) := by rw [HW2.out]; simpa [encF] using c2
          have W3 : wr.frozen? ⟨blk, kp + 1, none⟩ = false := by rw [HW2.out]; simpa using f1
          have W4 : wr.frozen? ⟨blk, kp, none⟩ = false := by rw [HW2.out]; simpa using f2
          have hl : ltOf cf d[20]! d[kp]! = true := HI.out.2 kp (by omega) (by omega)
          have hgo := insInner_go (ltOf cf) 0 (kp + 1) dk (by omega) (by simp only [Nat.add_sub_cancel]; rw [hx, hrest kp (by omega)]; exact hl)
          simp only [Nat.add_sub_cancel] at hgo
          have HE : Aside (x = dk[kp + 1]! ∧ y = dk[kp]!) := ⟨ex, ey⟩
          have HG : Aside _ := hgo
          obtain ⟨k1, hk1⟩ : ∃ k1, k1 = kp + 1 := ⟨_, rfl⟩
          rw [← hk1] at W1 W3
          have e0 : ((kp : Int) + 1).toNat = k1 := by omega
          have K1 : Aside (k1 = kp + 1) := hk1
          clear c1 c2 f1 f2 hHk sz hx hrest hins hl hgo ex ey hk1
          go_wp2_with fail
          go_region
          all_goals go_wp2
          go_roundg kp
          case measure => omega
          case rel =>
            obtain ⟨sz, hx, hrest, hins⟩ := HK.out
            have hgo := HG.out
            obtain ⟨ex, ey⟩ := HE.out
            have hk1 := K1.out
            subst hk1
            have g1 : ∀ t, t < 21 → (swp dk (kp + 1) kp)[t]! = if t = kp then dk[kp + 1]! else if t = kp + 1 then dk[kp]! else dk[t]! := by
              intro t _
              exact swp_get dk (by omega) (by omega) t
            refine ⟨kp, n2 + 1, swp dk (kp + 1) kp, by first | rfl | go_num, by omega, by omega, Nat.le_refl _, ?_, by rw [swp_size]; exact sz, ?_, ?_, ?_⟩
            · rw [HW2.out, ex, ey]
              have := swap_worldC (encF m) w blk 0 dk n2 (kp + 1) kp (by omega) (by omega)
              simpa [encF] using this
            · rw [g1 kp (by omega), if_pos rfl]; exact hx
            · intro t ht
              rw [g1 t (by omega), if_neg (by omega), if_neg (by omega)]
              exact hrest t (by omega)
            · rw [← hgo]; exact hins
        · obtain rfl : i = k := by omega
          have z1 : ¬ (i : Int) < (i : Int) := by omega
          go_wp2
          (try simp only [Exit.inBlock, Exit.then]); refine bodyPost_ret (results_none rfl _ _ _) rfl ?_
          obtain ⟨sz, hx, hrest, hins⟩ := HK.out
          refine ⟨rfl, n2, ?_⟩
          rw [← hins, HW2.out]
          rw [insInner_stop]
          by_cases h0 : i = 0
          · exact Or.inl (by omega)
          · right
            rw [hx, hrest (i - 1) (by omega)]
            exact HI.out.1 (i - 1) (by omega)

end Go.Proofs.Ytpcmeajphfifiaa

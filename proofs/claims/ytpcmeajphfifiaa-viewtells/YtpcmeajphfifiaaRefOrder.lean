/- The reference's Order: the one order of the places, in new memory. -/
import Derived.Test.YtpcmeajphfifiaaFloatsW
import Derived.Test.YtpcmeajphfifiaaApp
import Derived.Test.YtpcmeajphfifiaaRefOrd
import Derived.Deep.RegionHeld3
import Derived.Deep.DrawnRows
namespace Go.Proofs.Ytpcmeajphfifiaa
open Go.ChangeShapes Go.WideShapes Go.ChangeAt Go.RowKit Go.Sort
open Fl (V nn fin rg sg U IsOrd)

theorem rsooner_q (a b : Nat) (ha : a < 2 ^ 64) (hb : b < 2 ^ 64) (w : World) :
    Calls Try.prog 22 #[.float .f64 a, .float .f64 b] w fun e w' => e = .returned (.bool (Fl.soon a b)) ∧ w' = w :=
  (rsooner_any a b ha hb w).mono fun _ _ ⟨h1, h2⟩ => ⟨h1, h2.symm⟩

def intsN (o : List Nat) : List Value := o.map fun (x : Nat) => Value.int .i64 (x : Int)

theorem own_base {w : World} {base base' : Nat} {e : TypeId} {v : Value} {n : Nat} {xs : List Value} (h : w.ownsRow base e 1 v n xs) (hb : base' ≤ base) : w.ownsRow base' e 1 v n xs := by
  obtain ⟨h1, h2⟩ := h
  refine ⟨h1, ?_⟩
  rcases h2 with h2 | ⟨g, cap, cur, k1, k2, k3⟩
  · exact Or.inl h2
  · exact Or.inr ⟨g, cap, cur, k1, Nat.le_trans hb k2, k3⟩
theorem cell_new1 (w : World) (v : Value) (t : TypeId) : (w.alloc (.cells #[v] t)).cell? ⟨w.heap.size, 0, none⟩ = some v := by simp
theorem intsN_one (o : List Nat) : ∀ u ∈ intsN o, u.oneCell' = true := by
  intro u hu
  obtain ⟨x, _, rfl⟩ := List.mem_map.1 hu
  rfl
theorem src_get {W1 W : World} {g i : Nat} {o : List Nat} (h : g < W1.heap.size ∧ ∀ j, j < i → W1.cell? ⟨g, j, none⟩ = some (.int .i64 ((o.getD j 0 : Nat) : Int))) (hb : Below W1.heap.size W1 W) {j : Nat} (hj : j < i) :
    W.cell? ⟨g, j, none⟩ = some (.int .i64 ((o.getD j 0 : Nat) : Int)) := (hb.cell h.1).trans (h.2 j hj)
theorem news1 {W1 W : World} {g kk : Nat} {o : List Nat} (h : g < W1.heap.size ∧ ∀ j, j < o.length → W1.cell? ⟨g, j, none⟩ = some (.int .i64 ((o.getD j 0 : Nat) : Int))) (hb : Below W1.heap.size W1 W) :
    ∀ j u, (intsN (o.take kk))[j]? = some u → W.cell? ((⟨g, 0, none⟩ : Addr).add j) = some u := by
  intro j u hj
  unfold intsN at hj
  rw [List.getElem?_map, List.getElem?_take] at hj
  split at hj
  · rcases Nat.lt_or_ge j o.length with hl | hl
    · rw [List.getElem?_eq_getElem hl] at hj
      rw [Go.WideShapes.add_plain, Nat.zero_add, src_get h hb hl, ← hj]
      simp [hl]
    · rw [List.getElem?_eq_none hl] at hj; cases hj
  · cases hj
theorem news3 {W1 W : World} {g kk : Nat} {o : List Nat} (h : g < W1.heap.size ∧ ∀ j, j < o.length → W1.cell? ⟨g, j, none⟩ = some (.int .i64 ((o.getD j 0 : Nat) : Int))) (hb : Below W1.heap.size W1 W) :
    ∀ j u, (intsN (o.drop kk))[j]? = some u → W.cell? ((⟨g, kk, none⟩ : Addr).add j) = some u := by
  intro j u hj
  unfold intsN at hj
  rw [List.getElem?_map, List.getElem?_drop] at hj
  rcases Nat.lt_or_ge (kk + j) o.length with hl | hl
  · rw [List.getElem?_eq_getElem hl] at hj
    rw [Go.WideShapes.add_plain, src_get h hb hl, ← hj]
    simp [hl]
  · rw [List.getElem?_eq_none hl] at hj; cases hj

section
variable {W1 W : World} {ops : Array Oper} {o : Oper} {act : Act} {K : Act → World → Prop} {Q : Exit → Act → World → Prop} {E : Prop}
/-- out[:k] behind an empty row -/
theorem st1 (hgd : o.guard = none) (s x : Operand) (ho : o.op = .call { callee := .builtin .append, args := #[s, x], argTypes := #[32, 32] })
    (l : List Nat) (g b kk c : Nat) (hs : act.eval s = .slice (some ⟨b, 0, none⟩) 0 0) (hx : act.eval x = .slice (some ⟨g, 0, none⟩) kk c)
    (hE : W.ownsRow W1.heap.size 3 1 (.slice (some ⟨b, 0, none⟩) 0 0) 0 []) (hB : Below W1.heap.size W1 W) (hsrc : g < W1.heap.size ∧ ∀ j, j < l.length → W1.cell? ⟨g, j, none⟩ = some (.int .i64 ((l.getD j 0 : Nat) : Int)))
    (hl : (intsN (l.take kk)).length = kk) (hk : kk ≤ 100)
    (h : ∀ v' w', w'.ownsRow W1.heap.size 3 1 v' kk (intsN (l.take kk)) → Below W1.heap.size W1 w' → (∀ a u, a.block ≠ b → W.cell? a = some u → w'.cell? a = some u) → K (act.put o.dst v') w') :
    if Region.wanted o (yielded ops act.tmps) = true then Oper.wp Try.prog o act W K Q else E := by
  refine step_app hgd s x ho Try.underlying32 info_int rfl W1.heap.size _ 0 [] hs hE ⟨g, 0, none⟩ kk c (intsN (l.take kk)) hx hl (news1 hsrc hB) (intsN_one _) (by unfold maxLen; omega) (by omega) hB.size ?_
  intro v' w' x1 x2 _
  rw [Nat.zero_add, List.nil_append] at x1
  exact h v' w' x1 (hB.grown x2 hB.size (fun j hj => (hE.lt j hj).1)) (fun a u ha hu => x2.cell hu (by simpa [Value.ownBlock] using ha))
/-- .. the one in the midst -/
theorem st2 (hgd : o.guard = none) (s x : Operand) (ho : o.op = .call { callee := .builtin .append, args := #[s, x], argTypes := #[32, 32] })
    (v : Value) (n y : Nat) (i : Int) (xs : List Value) (hs : act.eval s = v) (hx : act.eval x = .slice (some ⟨y, 0, none⟩) 1 1)
    (hE : W.ownsRow W1.heap.size 3 1 v n xs) (hB : Below W1.heap.size W1 W) (hY : W.cell? ⟨y, 0, none⟩ = some (.int .i64 i)) (hk : n ≤ 100)
    (h : ∀ v' w', w'.ownsRow W1.heap.size 3 1 v' (n + 1) (xs ++ [.int .i64 i]) → Below W1.heap.size W1 w' → K (act.put o.dst v') w') :
    if Region.wanted o (yielded ops act.tmps) = true then Oper.wp Try.prog o act W K Q else E := by
  refine step_app hgd s x ho Try.underlying32 info_int rfl W1.heap.size v n xs hs hE ⟨y, 0, none⟩ 1 1 [.int .i64 i] hx rfl ?_ ?_ (by unfold maxLen; omega) (by omega) hB.size ?_
  · intro j u hj
    match j, hj with
    | 0, hj => simp at hj; subst hj; rw [Go.WideShapes.add_plain]; exact hY
    | k + 1, hj => simp at hj
  · intro u hu
    rw [List.mem_singleton] at hu; subst hu; rfl
  · intro v' w' x1 x2 _
    exact h v' w' x1 (hB.grown x2 hB.size (fun j hj => (hE.lt j hj).1))
/-- .. and out[k:] -/
theorem st3 (hgd : o.guard = none) (s x : Operand) (ho : o.op = .call { callee := .builtin .append, args := #[s, x], argTypes := #[32, 32] })
    (v : Value) (n : Nat) (xs : List Value) (l : List Nat) (ad : Addr) (g kk m c : Nat) (hs : act.eval s = v) (hx : act.eval x = .slice (some ad) m c)
    (hE : W.ownsRow W1.heap.size 3 1 v n xs) (hB : Below W1.heap.size W1 W) (hsrc : g < W1.heap.size ∧ ∀ j, j < l.length → W1.cell? ⟨g, j, none⟩ = some (.int .i64 ((l.getD j 0 : Nat) : Int)))
    (hl : (intsN (l.drop kk)).length = m) (had : m = 0 ∨ ad = ⟨g, kk, none⟩) (hk : n + m ≤ 200)
    (h : ∀ v' w', w'.ownsRow W1.heap.size 3 1 v' (n + m) (xs ++ intsN (l.drop kk)) → Below W1.heap.size W1 w' → K (act.put o.dst v') w') :
    if Region.wanted o (yielded ops act.tmps) = true then Oper.wp Try.prog o act W K Q else E := by
  refine step_app hgd s x ho Try.underlying32 info_int rfl W1.heap.size v n xs hs hE ad m c (intsN (l.drop kk)) hx hl ?_ (intsN_one _) (by unfold maxLen; omega) (by omega) hB.size ?_
  · rcases had with h0 | h0
    · intro j u hj
      rw [List.eq_nil_of_length_eq_zero (by omega : (intsN (l.drop kk)).length = 0)] at hj
      simp at hj
    · rw [h0]; exact news3 hsrc hB
  · intro v' w' x1 x2 _
    exact h v' w' x1 (hB.grown x2 hB.size (fun j hj => (hE.lt j hj).1))
end

set_option maxHeartbeats 4000000 in
set_option maxRecDepth 100000 in
theorem rorder_pos (ds : List Nat) (L : Nat) (hlen : ds.length = L) (hL : L ≤ 20) (hlt : ∀ k, ds.getD k 0 < 2 ^ 64) (w : World) (gd capd : Nat) (hg : gd < w.heap.size)
    (hc : ∀ k, k < L → w.cell? ⟨gd, k, none⟩ = some (.float .f64 (ds.getD k 0))) :
    Calls Try.prog 24 #[.slice (some ⟨gd, 0, none⟩) L capd] w fun e w' => ∃ o v, IsOrd ds o ∧ e = .returned v ∧ w'.ownsRow w.heap.size 3 1 v L (intsN o) ∧ Below w.heap.size w w' := by
  have HL : Aside (ds.length = L) := hlen
  have HT : Aside (∀ k, ds.getD k 0 < 2 ^ 64) := hlt
  have HC : Aside _ := hc
  clear hlen hlt hc
  go_enter Try.func24, Try.ntmps24
  go_wp2
  go_loopg [3, 4] L (fun gk vo vi wr => ∃ (i : Nat) (o : List Nat), vi = .int .i64 i ∧ i ≤ L ∧ L - i ≤ gk ∧ Aside (IsOrd (ds.take i) o ∧ wr.ownsRow w.heap.size 3 1 vo i (intsN o) ∧ Below w.heap.size w wr))
  case atStart => exact ⟨0, [], rfl, by omega, by omega, by rw [List.take_zero]; exact Fl.isOrd_nil, World.ownsRow_nil _ _ _ _, Below.refl _ _⟩
  case round =>
    obtain ⟨i, o, rfl, hi, hgk, HR⟩ := hrel
    by_cases hlti : i < L
    · have z1 : (i : Int) < (L : Int) := by omega
      have hci : wr.cell? ⟨gd, i, none⟩ = some (.float .f64 (ds.getD i 0)) := (HR.out.2.2.cell hg).trans (HC.out i hlti)
      have form : (u3 = .slice none 0 0 ∧ i = 0) ∨ ∃ g cap, u3 = .slice (some ⟨g, 0, none⟩) i cap ∧ g < wr.heap.size ∧ i ≤ cap ∧ cap ≤ 9223372036854775807 ∧ ∀ j, j < i → wr.cell? ⟨g, j, none⟩ = some (.int .i64 ((o.getD j 0 : Nat) : Int)) := by
        rcases HR.out.2.1.2 with ⟨h1, h2⟩ | ⟨g, cap, cur, h1, _, _, h4, h5, _⟩
        · exact Or.inl ⟨h1, h2⟩
        · refine Or.inr ⟨g, cap, h1, ?_, h4, h5, fun j hj => ?_⟩
          · exact (World.ownsRow.lt HR.out.2.1 g (by rw [h1]; rfl)).2
          · have ho := HR.out.2.1
            rw [h1] at ho
            rw [World.ownsRow.cellAt ho j (by omega)]
            have hol : j < o.length := by rw [HR.out.1.length, List.length_take, HL.out]; omega
            unfold intsN
            rw [List.getElem?_map, List.getElem?_eq_getElem hol]
            simp [hol]
      rcases form with ⟨rfl, hi0⟩ | ⟨g, cap, rfl, hgl, hic, hcm, hco⟩
      · have HI0 : Aside (i = 0) := hi0
        clear hi0
        generalize wr = W0 at *
        go_wp2
        refine wp_loop_rounds 1 ?_
        rw [rounds_succ]
        go_wp2_with fail
        go_big_region
        go_wp2_with fail
        have HW : Aside (W0.drew = W0.drewN 1) := rfl
        generalize W0.drew = W1 at HW ⊢
        have E3 := World.ownsRow.alloc (own_empty (base := W1.heap.size) (e := 3) (heap_alloc_new W1 (.cells #[] 3)) (Nat.le_refl _)) (.cells #[.int .i64 (i : Int)] 3)
        have OE1 : Aside ((W1.alloc (.cells #[] 3)).drew.ownsRow W1.heap.size 3 1 (.slice (some ⟨W1.heap.size, 0, none⟩) 0 0) 0 []) := own_empty (heap_alloc_new W1 _) (Nat.le_refl _)
        have OE2 : Aside (((W1.alloc (.cells #[] 3)).alloc (.cells #[.int .i64 (i : Int)] 3)).drew.ownsRow W1.heap.size 3 1 (.slice (some ⟨W1.heap.size, 0, none⟩) 0 0) 0 []) := E3
        have OE3 : Aside (((W1.alloc (.cells #[.int .i64 (i : Int)] 3)).alloc (.cells #[] 3)).drew.ownsRow W1.heap.size 3 1 (.slice (some ⟨W1.heap.size + 1, 0, none⟩) 0 0) 0 []) := by
          have this := own_empty (base := W1.heap.size) (heap_alloc_new (W1.alloc (.cells #[.int .i64 (i : Int)] 3)) (.cells #[] 3)) (by simp)
          rw [World.size_alloc] at this
          exact this
        have BE1 : Aside (Below W1.heap.size W1 (W1.alloc (.cells #[] 3)).drew) := Below.drew ((Below.refl _ _).alloc (Nat.le_refl _) _)
        have BE2 : Aside (Below W1.heap.size W1 ((W1.alloc (.cells #[] 3)).alloc (.cells #[.int .i64 (i : Int)] 3)).drew) := Below.drew (Below.alloc ((Below.refl _ _).alloc (Nat.le_refl _) _) (by simp) _)
        have BE3 : Aside (Below W1.heap.size W1 ((W1.alloc (.cells #[.int .i64 (i : Int)] 3)).alloc (.cells #[] 3)).drew) := Below.drew (Below.alloc ((Below.refl _ _).alloc (Nat.le_refl _) _) (by simp) _)
        have CY2 : Aside (((W1.alloc (.cells #[] 3)).alloc (.cells #[.int .i64 (i : Int)] 3)).drew.cell? ⟨W1.heap.size + 1, 0, none⟩ = some (.int .i64 (i : Int))) := by show _ = _; simp
        have CY3 : Aside (((W1.alloc (.cells #[.int .i64 (i : Int)] 3)).alloc (.cells #[] 3)).drew.cell? ⟨W1.heap.size, 0, none⟩ = some (.int .i64 (i : Int))) := by show _ = _; simp
        clear E3
        go_region_held3 (fun _ => True) (trivial) (first | ((refine step_none (by rfl) (.tmp 40) (.tmp 43) (by rfl) Try.underlying32 info_int W1.heap.size _ 1 [.int .i64 (i : Int)] (by rfl) X2.out (by rfl) ?_)) | ((refine st2 (by rfl) (.tmp 37) (.tmp 39) (by rfl) _ 0 (W1.heap.size + 1) (i : Int) [] (by rfl) (by rfl) OE2.out BE2.out CY2.out (by decide) ?_; intro v2 w2 y1 y2; have X2 : Aside _ := y1; have B2 : Aside _ := y2; clear y1 y2)) | ((refine st2 (by rfl) (.tmp 37) (.tmp 39) (by rfl) _ 0 W1.heap.size (i : Int) [] (by rfl) (by rfl) OE3.out BE3.out CY3.out (by decide) ?_; intro v2 w2 y1 y2; have X2 : Aside _ := y1; have B2 : Aside _ := y2; clear y1 y2)) | ((refine step_none (by rfl) (.tmp 33) (.tmp 36) (by rfl) Try.underlying32 info_int W1.heap.size _ 0 [] (by rfl) OE1.out (by rfl) ?_)) | ((refine step_none (by rfl) (.tmp 33) (.tmp 36) (by rfl) Try.underlying32 info_int W1.heap.size _ 0 [] (by rfl) OE2.out (by rfl) ?_)) | ((refine step_none (by rfl) (.tmp 33) (.tmp 36) (by rfl) Try.underlying32 info_int W1.heap.size _ 0 [] (by rfl) OE3.out (by rfl) ?_)))
        all_goals (
          go_wp2
          go_roundg (L - (i + 1))
          case measure => omega
          case rel =>
            have ho0 : o = [] := List.eq_nil_of_length_eq_zero (by rw [HR.out.1.length, List.length_take, HI0.out]; omega)
            refine ⟨i + 1, [i], by go_num, by omega, Nat.le_refl _, ?_, ?_, ?_⟩
            · have := HR.out.1.insert (k := 0) (by rw [HL.out]; exact hlti) (by omega) (fun p h1 h2 => absurd h2 (by rw [HI0.out]; omega)) (Or.inl rfl)
              rw [ho0] at this
              exact this
            · have e : i + 1 = 1 := by rw [HI0.out]
              rw [e]
              exact own_base X2.out (by rw [HW.out]; exact HR.out.2.2.size)
            · refine (HR.out.2.2.trans ?_).trans (B2.out.mono (by rw [HW.out]; exact HR.out.2.2.size))
              rw [HW.out]; exact below_drewN (Below.refl _ _) _)
      · have HO : Aside _ := hco
        clear hco
        go_wp2
        generalize wr = W0 at *
        have hLi : i < 20 := by omega
        go_loopg [5] i (fun g2 vk wk => ∃ k q : Nat, vk = .int .i64 k ∧ k ≤ i ∧ k ≤ g2 ∧ Aside (wk = W0.drewN q ∧ ∀ p, k ≤ p → p < i → Fl.soon (ds.getD i 0) (ds.getD (o.getD p 0) 0) = true))
        case atStart => exact ⟨i, 0, rfl, by omega, by omega, rfl, fun p h1 h2 => absurd h1 (by omega)⟩
        case round =>
          obtain ⟨k, q, rfl, hk, hg2, HK⟩ := hrel
          have base : ∀ a v, W0.cell? a = some v → wr.cell? a = some v := fun a v h => by rw [HK.out.1]; exact h
          by_cases hk0 : 0 < k
          · obtain ⟨kp, rfl⟩ : ∃ kp, k = kp + 1 := ⟨k - 1, by omega⟩
            have hyl : o.getD kp 0 < L := by
              have hol : kp < o.length := by rw [HR.out.1.length, List.length_take, HL.out]; omega
              have : o.getD kp 0 = o[kp] := by simp [hol]
              rw [this]
              have := HR.out.1.lt (List.getElem_mem hol)
              rw [List.length_take, HL.out] at this; omega
            have c1 := base _ _ hci
            have c2 := base _ _ (HO.out kp (by omega))
            have c3 := base _ _ ((HR.out.2.2.cell hg).trans (HC.out (o.getD kp 0) hyl))
            have l1 := HT.out i
            have l2 := HT.out (o.getD kp 0)
            obtain ⟨y, hy⟩ : ∃ y, y = o.getD kp 0 := ⟨_, rfl⟩
            rw [← hy] at c2 c3 hyl l2
            have hs : Fl.soon (ds.getD i 0) (ds.getD y 0) = Fl.soon (ds.getD i 0) (ds.getD (o.getD kp 0) 0) := by rw [hy]
            obtain ⟨di, hdi⟩ : ∃ di, di = ds.getD i 0 := ⟨_, rfl⟩
            rw [← hdi] at c1 l1 hs
            have HDI : Aside (di = ds.getD i 0) := hdi
            clear hdi
            obtain ⟨dy, hdy⟩ : ∃ dy, dy = ds.getD y 0 := ⟨_, rfl⟩
            rw [← hdy] at c3 l2 hs
            clear hdy
            have HS : Aside _ := hs
            clear hy hs base
            have y1 : (0 : Int) < (kp : Int) + 1 := by omega
            have yd : decide ((kp : Int) + 1 > 0) = true := decide_eq_true (by omega)
            have y2 : (kp : Int) < (i : Int) := by omega
            have y3 : (y : Int) < (L : Int) := by omega
            have hwp : IntKind.i64.wrap (kp : Int) = (kp : Int) := by rw [IntKind.wrap_i64]; omega
            cases s : Fl.soon di dy
            · have q1 : ∀ W : World, Calls Try.prog 22 #[.float .f64 di, .float .f64 dy] W fun e w' => e = .returned (.bool false) ∧ w' = W := fun W => by
                have := rsooner_q di dy l1 l2 W
                rwa [s] at this
              have SS : Aside _ := s
              clear l1 l2 s
              go_wp2_with fail
              go_big_quiet (first | (go_at_call 22; with_reducible exact Calls.quiet_of_same (q1 _)))
              go_wp2_with fail
              obtain ⟨kk, hkk⟩ : ∃ kk, kk = kp + 1 := ⟨_, rfl⟩
              rw [← hkk]
              have HKK : Aside (kk = kp + 1) := hkk
              have x1 : (0 : Int) ≤ (kk : Int) := by omega
              have x2 : (kk : Int) ≤ (i : Int) := by omega
              have x3 : (i : Int) ≤ (cap : Int) := by omega
              have x4 : (kk : Int) ≤ (cap : Int) := by omega
              clear hkk hwp y1 yd y2 y3 c1 c2 c3 q1
              have HW : Aside (wr.drewN nq = W0.drewN (q + nq)) := by show _ = _; rw [HK.out.1, World.drewN_drewN]
              generalize wr.drewN nq = W1 at HW ⊢
              have HOL : Aside (o.length = i) := by show _ = _; rw [HR.out.1.length, List.length_take, HL.out]; omega
              have HSRC : Aside (g < W1.heap.size ∧ ∀ j, j < o.length → W1.cell? ⟨g, j, none⟩ = some (.int .i64 ((o.getD j 0 : Nat) : Int))) := by rw [HW.out]; exact ⟨hgl, fun j hj => HO.out j (by rw [HOL.out] at hj; exact hj)⟩
              have HPOS : Aside ((∀ p, kk ≤ p → p < i → Fl.soon (ds.getD i 0) (ds.getD (o.getD p 0) 0) = true) ∧ (kk = 0 ∨ Fl.soon (ds.getD i 0) (ds.getD (o.getD (kk - 1) 0) 0) = false)) := by
                rw [HKK.out]
                refine ⟨HK.out.2, Or.inr ?_⟩
                rw [Nat.add_sub_cancel, ← HDI.out, ← HS.out]; exact SS.out
              by_cases hcap : kk = cap
              · subst hcap
                have HN3 : Aside (i - kk = 0) := by show _ = _; omega
                have E3 := World.ownsRow.alloc (own_empty (base := W1.heap.size) (e := 3) (heap_alloc_new W1 (.cells #[] 3)) (Nat.le_refl _)) (.cells #[.int .i64 (i : Int)] 3)
                have OE1 : Aside ((W1.alloc (.cells #[] 3)).drew.ownsRow W1.heap.size 3 1 (.slice (some ⟨W1.heap.size, 0, none⟩) 0 0) 0 []) := own_empty (heap_alloc_new W1 _) (Nat.le_refl _)
                have OE2 : Aside (((W1.alloc (.cells #[] 3)).alloc (.cells #[.int .i64 (i : Int)] 3)).drew.ownsRow W1.heap.size 3 1 (.slice (some ⟨W1.heap.size, 0, none⟩) 0 0) 0 []) := E3
                have OE3 : Aside (((W1.alloc (.cells #[.int .i64 (i : Int)] 3)).alloc (.cells #[] 3)).drew.ownsRow W1.heap.size 3 1 (.slice (some ⟨W1.heap.size + 1, 0, none⟩) 0 0) 0 []) := by
                  have this := own_empty (base := W1.heap.size) (heap_alloc_new (W1.alloc (.cells #[.int .i64 (i : Int)] 3)) (.cells #[] 3)) (by simp)
                  rw [World.size_alloc] at this
                  exact this
                have BE1 : Aside (Below W1.heap.size W1 (W1.alloc (.cells #[] 3)).drew) := Below.drew ((Below.refl _ _).alloc (Nat.le_refl _) _)
                have BE2 : Aside (Below W1.heap.size W1 ((W1.alloc (.cells #[] 3)).alloc (.cells #[.int .i64 (i : Int)] 3)).drew) := Below.drew (Below.alloc ((Below.refl _ _).alloc (Nat.le_refl _) _) (by simp) _)
                have BE3 : Aside (Below W1.heap.size W1 ((W1.alloc (.cells #[.int .i64 (i : Int)] 3)).alloc (.cells #[] 3)).drew) := Below.drew (Below.alloc ((Below.refl _ _).alloc (Nat.le_refl _) _) (by simp) _)
                have CY2 : Aside (((W1.alloc (.cells #[] 3)).alloc (.cells #[.int .i64 (i : Int)] 3)).drew.cell? ⟨W1.heap.size + 1, 0, none⟩ = some (.int .i64 (i : Int))) := by show _ = _; simp
                have CY3 : Aside (((W1.alloc (.cells #[.int .i64 (i : Int)] 3)).alloc (.cells #[] 3)).drew.cell? ⟨W1.heap.size, 0, none⟩ = some (.int .i64 (i : Int))) := by show _ = _; simp
                clear E3
                have HN1 : Aside (kk ≤ 100) := by show _ ≤ _; omega
                have HN2 : Aside (kk + 1 + 0 ≤ 200) := by show _ ≤ _; omega
                have LA : Aside ((intsN (o.take kk)).length = kk) := by show _ = _; unfold intsN; rw [List.length_map, List.length_take, HOL.out]; omega
                have LB : Aside ((intsN (o.drop kk)).length = 0) := by show _ = _; unfold intsN; rw [List.length_map, List.length_drop, HOL.out]; omega
                go_region_held3 (fun _ => True) (trivial) (first | ((refine st3 (by rfl) (.tmp 40) (.tmp 43) (by rfl) _ (kk + 1) _ o ⟨g, 0, none⟩ g kk 0 _ (by rfl) (by rfl) X2.out B2.out HSRC.out LB.out (Or.inl rfl) HN2.out ?_; intro v3 w3 z1 z2; have X3 : Aside _ := z1; have B3 : Aside _ := z2; clear z1 z2)) | ((refine st1 (by rfl) (.tmp 33) (.tmp 36) (by rfl) o g W1.heap.size kk _ (by rfl) (by rfl) OE1.out BE1.out HSRC.out LA.out HN1.out ?_; intro v1 w1 x1 x2 x3; have X1 : Aside _ := x1; have B1 : Aside _ := x2; clear x1 x2 x3)) | ((refine st1 (by rfl) (.tmp 33) (.tmp 36) (by rfl) o g W1.heap.size kk _ (by rfl) (by rfl) OE2.out BE2.out HSRC.out LA.out HN1.out ?_; intro v1 w1 x1 x2 x3; have X1 : Aside _ := x1; have B1 : Aside _ := x2; have CY : Aside _ := x3 _ _ (by simp) CY2.out; clear x1 x2 x3)) | ((refine st1 (by rfl) (.tmp 33) (.tmp 36) (by rfl) o g (W1.heap.size + 1) kk _ (by rfl) (by rfl) OE3.out BE3.out HSRC.out LA.out HN1.out ?_; intro v1 w1 x1 x2 x3; have X1 : Aside _ := x1; have B1 : Aside _ := x2; have CY : Aside _ := x3 _ _ (by simp) CY3.out; clear x1 x2 x3)) | ((refine st2 (by rfl) (.tmp 37) (.tmp 39) (by rfl) _ kk (W1.heap.size + 1) (i : Int) (intsN (o.take kk)) (by rfl) (by rfl) X1.out B1.out CY.out HN1.out ?_; intro v2 w2 y1 y2; have X2 : Aside _ := y1; have B2 : Aside _ := y2; clear y1 y2)) | ((refine st2 (by rfl) (.tmp 37) (.tmp 39) (by rfl) _ kk W1.heap.size (i : Int) (intsN (o.take kk)) (by rfl) (by rfl) X1.out B1.out CY.out HN1.out ?_; intro v2 w2 y1 y2; have X2 : Aside _ := y1; have B2 : Aside _ := y2; clear y1 y2)) | ((refine st2 (by rfl) (.tmp 37) (.tmp 39) (by rfl) _ kk w1.heap.size (i : Int) (intsN (o.take kk)) (by rfl) (by rfl) (World.ownsRow.alloc X1.out _) (Below.alloc B1.out B1.out.size _) (cell_new1 _ _ _) HN1.out ?_; intro v2 w2 y1 y2; have X2 : Aside _ := y1; have B2 : Aside _ := y2; clear y1 y2)))
                all_goals (
                  go_wp2
                  go_roundg (L - (i + 1))
                  case measure => omega
                  case rel =>
                    refine ⟨i + 1, o.take kk ++ [i] ++ o.drop kk, by go_num, by omega, Nat.le_refl _, ?_, ?_, ?_⟩
                    · exact HR.out.1.insert (by rw [HL.out]; exact hlti) (by omega) (fun p h1 h2 => HPOS.out.1 p h1 h2) HPOS.out.2
                    · have e1 : kk + 1 + 0 = i + 1 := by omega
                      have e2 : intsN (o.take kk ++ [i] ++ o.drop kk) = intsN (o.take kk) ++ [.int .i64 (i : Int)] ++ intsN (o.drop kk) := by unfold intsN; rw [List.map_append, List.map_append]; rfl
                      have := X3.out
                      rw [e1, ← e2] at this
                      exact own_base this (by rw [HW.out]; exact HR.out.2.2.size)
                    · refine (HR.out.2.2.trans ?_).trans (B3.out.mono (by rw [HW.out]; exact HR.out.2.2.size))
                      rw [HW.out]; exact below_drewN (Below.refl _ _) _)
              · have hcap2 : ¬ cap = kk := fun h => hcap h.symm
                have E3 := World.ownsRow.alloc (own_empty (base := W1.heap.size) (e := 3) (heap_alloc_new W1 (.cells #[] 3)) (Nat.le_refl _)) (.cells #[.int .i64 (i : Int)] 3)
                have OE1 : Aside ((W1.alloc (.cells #[] 3)).drew.ownsRow W1.heap.size 3 1 (.slice (some ⟨W1.heap.size, 0, none⟩) 0 0) 0 []) := own_empty (heap_alloc_new W1 _) (Nat.le_refl _)
                have OE2 : Aside (((W1.alloc (.cells #[] 3)).alloc (.cells #[.int .i64 (i : Int)] 3)).drew.ownsRow W1.heap.size 3 1 (.slice (some ⟨W1.heap.size, 0, none⟩) 0 0) 0 []) := E3
                have OE3 : Aside (((W1.alloc (.cells #[.int .i64 (i : Int)] 3)).alloc (.cells #[] 3)).drew.ownsRow W1.heap.size 3 1 (.slice (some ⟨W1.heap.size + 1, 0, none⟩) 0 0) 0 []) := by
                  have this := own_empty (base := W1.heap.size) (heap_alloc_new (W1.alloc (.cells #[.int .i64 (i : Int)] 3)) (.cells #[] 3)) (by simp)
                  rw [World.size_alloc] at this
                  exact this
                have BE1 : Aside (Below W1.heap.size W1 (W1.alloc (.cells #[] 3)).drew) := Below.drew ((Below.refl _ _).alloc (Nat.le_refl _) _)
                have BE2 : Aside (Below W1.heap.size W1 ((W1.alloc (.cells #[] 3)).alloc (.cells #[.int .i64 (i : Int)] 3)).drew) := Below.drew (Below.alloc ((Below.refl _ _).alloc (Nat.le_refl _) _) (by simp) _)
                have BE3 : Aside (Below W1.heap.size W1 ((W1.alloc (.cells #[.int .i64 (i : Int)] 3)).alloc (.cells #[] 3)).drew) := Below.drew (Below.alloc ((Below.refl _ _).alloc (Nat.le_refl _) _) (by simp) _)
                have CY2 : Aside (((W1.alloc (.cells #[] 3)).alloc (.cells #[.int .i64 (i : Int)] 3)).drew.cell? ⟨W1.heap.size + 1, 0, none⟩ = some (.int .i64 (i : Int))) := by show _ = _; simp
                have CY3 : Aside (((W1.alloc (.cells #[.int .i64 (i : Int)] 3)).alloc (.cells #[] 3)).drew.cell? ⟨W1.heap.size, 0, none⟩ = some (.int .i64 (i : Int))) := by show _ = _; simp
                clear E3
                have HN1 : Aside (kk ≤ 100) := by show _ ≤ _; omega
                have HN2 : Aside (kk + 1 + (i - kk) ≤ 200) := by show _ ≤ _; omega
                have LA : Aside ((intsN (o.take kk)).length = kk) := by show _ = _; unfold intsN; rw [List.length_map, List.length_take, HOL.out]; omega
                have LB : Aside ((intsN (o.drop kk)).length = i - kk) := by show _ = _; unfold intsN; rw [List.length_map, List.length_drop, HOL.out]
                go_region_held3 (fun _ => True) (trivial) (first | ((refine st3 (by rfl) (.tmp 40) (.tmp 43) (by rfl) _ (kk + 1) _ o ⟨g, kk, none⟩ g kk (i - kk) _ (by rfl) (by rfl) X2.out B2.out HSRC.out LB.out (Or.inr rfl) HN2.out ?_; intro v3 w3 z1 z2; have X3 : Aside _ := z1; have B3 : Aside _ := z2; clear z1 z2)) | ((refine st1 (by rfl) (.tmp 33) (.tmp 36) (by rfl) o g W1.heap.size kk _ (by rfl) (by rfl) OE1.out BE1.out HSRC.out LA.out HN1.out ?_; intro v1 w1 x1 x2 x3; have X1 : Aside _ := x1; have B1 : Aside _ := x2; clear x1 x2 x3)) | ((refine st1 (by rfl) (.tmp 33) (.tmp 36) (by rfl) o g W1.heap.size kk _ (by rfl) (by rfl) OE2.out BE2.out HSRC.out LA.out HN1.out ?_; intro v1 w1 x1 x2 x3; have X1 : Aside _ := x1; have B1 : Aside _ := x2; have CY : Aside _ := x3 _ _ (by simp) CY2.out; clear x1 x2 x3)) | ((refine st1 (by rfl) (.tmp 33) (.tmp 36) (by rfl) o g (W1.heap.size + 1) kk _ (by rfl) (by rfl) OE3.out BE3.out HSRC.out LA.out HN1.out ?_; intro v1 w1 x1 x2 x3; have X1 : Aside _ := x1; have B1 : Aside _ := x2; have CY : Aside _ := x3 _ _ (by simp) CY3.out; clear x1 x2 x3)) | ((refine st2 (by rfl) (.tmp 37) (.tmp 39) (by rfl) _ kk (W1.heap.size + 1) (i : Int) (intsN (o.take kk)) (by rfl) (by rfl) X1.out B1.out CY.out HN1.out ?_; intro v2 w2 y1 y2; have X2 : Aside _ := y1; have B2 : Aside _ := y2; clear y1 y2)) | ((refine st2 (by rfl) (.tmp 37) (.tmp 39) (by rfl) _ kk W1.heap.size (i : Int) (intsN (o.take kk)) (by rfl) (by rfl) X1.out B1.out CY.out HN1.out ?_; intro v2 w2 y1 y2; have X2 : Aside _ := y1; have B2 : Aside _ := y2; clear y1 y2)) | ((refine st2 (by rfl) (.tmp 37) (.tmp 39) (by rfl) _ kk w1.heap.size (i : Int) (intsN (o.take kk)) (by rfl) (by rfl) (World.ownsRow.alloc X1.out _) (Below.alloc B1.out B1.out.size _) (cell_new1 _ _ _) HN1.out ?_; intro v2 w2 y1 y2; have X2 : Aside _ := y1; have B2 : Aside _ := y2; clear y1 y2)))
                all_goals (
                  go_wp2
                  go_roundg (L - (i + 1))
                  case measure => omega
                  case rel =>
                    refine ⟨i + 1, o.take kk ++ [i] ++ o.drop kk, by go_num, by omega, Nat.le_refl _, ?_, ?_, ?_⟩
                    · exact HR.out.1.insert (by rw [HL.out]; exact hlti) (by omega) (fun p h1 h2 => HPOS.out.1 p h1 h2) HPOS.out.2
                    · have e1 : kk + 1 + (i - kk) = i + 1 := by omega
                      have e2 : intsN (o.take kk ++ [i] ++ o.drop kk) = intsN (o.take kk) ++ [.int .i64 (i : Int)] ++ intsN (o.drop kk) := by unfold intsN; rw [List.map_append, List.map_append]; rfl
                      have := X3.out
                      rw [e1, ← e2] at this
                      exact own_base this (by rw [HW.out]; exact HR.out.2.2.size)
                    · refine (HR.out.2.2.trans ?_).trans (B3.out.mono (by rw [HW.out]; exact HR.out.2.2.size))
                      rw [HW.out]; exact below_drewN (Below.refl _ _) _)
            · have q1 : ∀ W : World, Calls Try.prog 22 #[.float .f64 di, .float .f64 dy] W fun e w' => e = .returned (.bool true) ∧ w' = W := fun W => by
                have := rsooner_q di dy l1 l2 W
                rwa [s] at this
              have SS : Aside _ := s
              clear l1 l2 s
              go_wp2_with fail
              go_big_quiet (first | (go_at_call 22; with_reducible exact Calls.quiet_of_same (q1 _)))
              go_wp2
              go_roundg kp
              case measure => omega
              case rel =>
                refine ⟨kp, q + nq, by go_num, by omega, Nat.le_refl _, by rw [HK.out.1, World.drewN_drewN], fun p h1 h2 => ?_⟩
                rcases Nat.lt_or_eq_of_le h1 with h3 | h3
                · exact HK.out.2 p (by omega) h2
                · rw [← h3, ← HDI.out, ← HS.out]; exact SS.out
          · obtain ⟨kk, hkk⟩ : ∃ kk, kk = k := ⟨_, rfl⟩
            rw [← hkk]
            have HKK : Aside (kk = 0) := by show _ = _; omega
            have HK2 : Aside (wr = W0.drewN q ∧ ∀ p, kk ≤ p → p < i → Fl.soon (ds.getD i 0) (ds.getD (o.getD p 0) 0) = true) := by rw [hkk]; exact HK.out
            have x1 : (0 : Int) ≤ (kk : Int) := by omega
            have x2 : (kk : Int) ≤ (i : Int) := by omega
            have x3 : (i : Int) ≤ (cap : Int) := by omega
            have x4 : (kk : Int) ≤ (cap : Int) := by omega
            have y1 : ¬ (0 : Int) < (kk : Int) := by omega
            have yd : decide ((kk : Int) > 0) = false := decide_eq_false (by omega)
            have hki : kk ≤ i := by omega
            have yd2 : decide (0 < kk) = false := decide_eq_false (by omega)
            have yd3 : ¬ 0 < kk := by omega
            have yd4 : decide ((0 : Int) < (kk : Int)) = false := decide_eq_false (by omega)
            clear hkk HK base hk hk0 hg2
            go_wp2_with fail
            go_big_region
            go_wp2_with fail
            have HW : Aside (wr.drew = W0.drewN (q + 1)) := by show _ = _; rw [HK2.out.1]; rfl
            generalize wr.drew = W1 at HW ⊢
            have HOL : Aside (o.length = i) := by show _ = _; rw [HR.out.1.length, List.length_take, HL.out]; omega
            have HSRC : Aside (g < W1.heap.size ∧ ∀ j, j < o.length → W1.cell? ⟨g, j, none⟩ = some (.int .i64 ((o.getD j 0 : Nat) : Int))) := by rw [HW.out]; exact ⟨hgl, fun j hj => HO.out j (by rw [HOL.out] at hj; exact hj)⟩
            have HPOS : Aside ((∀ p, kk ≤ p → p < i → Fl.soon (ds.getD i 0) (ds.getD (o.getD p 0) 0) = true) ∧ (kk = 0 ∨ Fl.soon (ds.getD i 0) (ds.getD (o.getD (kk - 1) 0) 0) = false)) := ⟨HK2.out.2, Or.inl HKK.out⟩
            by_cases hcap : kk = cap
            · subst hcap
              have HN3 : Aside (i - kk = 0) := by show _ = _; omega
              have E3 := World.ownsRow.alloc (own_empty (base := W1.heap.size) (e := 3) (heap_alloc_new W1 (.cells #[] 3)) (Nat.le_refl _)) (.cells #[.int .i64 (i : Int)] 3)
              have OE1 : Aside ((W1.alloc (.cells #[] 3)).drew.ownsRow W1.heap.size 3 1 (.slice (some ⟨W1.heap.size, 0, none⟩) 0 0) 0 []) := own_empty (heap_alloc_new W1 _) (Nat.le_refl _)
              have OE2 : Aside (((W1.alloc (.cells #[] 3)).alloc (.cells #[.int .i64 (i : Int)] 3)).drew.ownsRow W1.heap.size 3 1 (.slice (some ⟨W1.heap.size, 0, none⟩) 0 0) 0 []) := E3
              have OE3 : Aside (((W1.alloc (.cells #[.int .i64 (i : Int)] 3)).alloc (.cells #[] 3)).drew.ownsRow W1.heap.size 3 1 (.slice (some ⟨W1.heap.size + 1, 0, none⟩) 0 0) 0 []) := by
                have this := own_empty (base := W1.heap.size) (heap_alloc_new (W1.alloc (.cells #[.int .i64 (i : Int)] 3)) (.cells #[] 3)) (by simp)
                rw [World.size_alloc] at this
                exact this
              have BE1 : Aside (Below W1.heap.size W1 (W1.alloc (.cells #[] 3)).drew) := Below.drew ((Below.refl _ _).alloc (Nat.le_refl _) _)
              have BE2 : Aside (Below W1.heap.size W1 ((W1.alloc (.cells #[] 3)).alloc (.cells #[.int .i64 (i : Int)] 3)).drew) := Below.drew (Below.alloc ((Below.refl _ _).alloc (Nat.le_refl _) _) (by simp) _)
              have BE3 : Aside (Below W1.heap.size W1 ((W1.alloc (.cells #[.int .i64 (i : Int)] 3)).alloc (.cells #[] 3)).drew) := Below.drew (Below.alloc ((Below.refl _ _).alloc (Nat.le_refl _) _) (by simp) _)
              have CY2 : Aside (((W1.alloc (.cells #[] 3)).alloc (.cells #[.int .i64 (i : Int)] 3)).drew.cell? ⟨W1.heap.size + 1, 0, none⟩ = some (.int .i64 (i : Int))) := by show _ = _; simp
              have CY3 : Aside (((W1.alloc (.cells #[.int .i64 (i : Int)] 3)).alloc (.cells #[] 3)).drew.cell? ⟨W1.heap.size, 0, none⟩ = some (.int .i64 (i : Int))) := by show _ = _; simp
              clear E3
              have HN1 : Aside (kk ≤ 100) := by show _ ≤ _; omega
              have HN2 : Aside (kk + 1 + 0 ≤ 200) := by show _ ≤ _; omega
              have LA : Aside ((intsN (o.take kk)).length = kk) := by show _ = _; unfold intsN; rw [List.length_map, List.length_take, HOL.out]; omega
              have LB : Aside ((intsN (o.drop kk)).length = 0) := by show _ = _; unfold intsN; rw [List.length_map, List.length_drop, HOL.out]; omega
              go_region_held3 (fun _ => True) (trivial) (first | ((refine st3 (by rfl) (.tmp 40) (.tmp 43) (by rfl) _ (kk + 1) _ o ⟨g, 0, none⟩ g kk 0 _ (by rfl) (by rfl) X2.out B2.out HSRC.out LB.out (Or.inl rfl) HN2.out ?_; intro v3 w3 z1 z2; have X3 : Aside _ := z1; have B3 : Aside _ := z2; clear z1 z2)) | ((refine st1 (by rfl) (.tmp 33) (.tmp 36) (by rfl) o g W1.heap.size kk _ (by rfl) (by rfl) OE1.out BE1.out HSRC.out LA.out HN1.out ?_; intro v1 w1 x1 x2 x3; have X1 : Aside _ := x1; have B1 : Aside _ := x2; clear x1 x2 x3)) | ((refine st1 (by rfl) (.tmp 33) (.tmp 36) (by rfl) o g W1.heap.size kk _ (by rfl) (by rfl) OE2.out BE2.out HSRC.out LA.out HN1.out ?_; intro v1 w1 x1 x2 x3; have X1 : Aside _ := x1; have B1 : Aside _ := x2; have CY : Aside _ := x3 _ _ (by simp) CY2.out; clear x1 x2 x3)) | ((refine st1 (by rfl) (.tmp 33) (.tmp 36) (by rfl) o g (W1.heap.size + 1) kk _ (by rfl) (by rfl) OE3.out BE3.out HSRC.out LA.out HN1.out ?_; intro v1 w1 x1 x2 x3; have X1 : Aside _ := x1; have B1 : Aside _ := x2; have CY : Aside _ := x3 _ _ (by simp) CY3.out; clear x1 x2 x3)) | ((refine st2 (by rfl) (.tmp 37) (.tmp 39) (by rfl) _ kk (W1.heap.size + 1) (i : Int) (intsN (o.take kk)) (by rfl) (by rfl) X1.out B1.out CY.out HN1.out ?_; intro v2 w2 y1 y2; have X2 : Aside _ := y1; have B2 : Aside _ := y2; clear y1 y2)) | ((refine st2 (by rfl) (.tmp 37) (.tmp 39) (by rfl) _ kk W1.heap.size (i : Int) (intsN (o.take kk)) (by rfl) (by rfl) X1.out B1.out CY.out HN1.out ?_; intro v2 w2 y1 y2; have X2 : Aside _ := y1; have B2 : Aside _ := y2; clear y1 y2)) | ((refine st2 (by rfl) (.tmp 37) (.tmp 39) (by rfl) _ kk w1.heap.size (i : Int) (intsN (o.take kk)) (by rfl) (by rfl) (World.ownsRow.alloc X1.out _) (Below.alloc B1.out B1.out.size _) (cell_new1 _ _ _) HN1.out ?_; intro v2 w2 y1 y2; have X2 : Aside _ := y1; have B2 : Aside _ := y2; clear y1 y2)))
              all_goals (
                go_wp2
                go_roundg (L - (i + 1))
                case measure => omega
                case rel =>
                  refine ⟨i + 1, o.take kk ++ [i] ++ o.drop kk, by go_num, by omega, Nat.le_refl _, ?_, ?_, ?_⟩
                  · exact HR.out.1.insert (by rw [HL.out]; exact hlti) (by omega) (fun p h1 h2 => HPOS.out.1 p h1 h2) HPOS.out.2
                  · have e1 : kk + 1 + 0 = i + 1 := by omega
                    have e2 : intsN (o.take kk ++ [i] ++ o.drop kk) = intsN (o.take kk) ++ [.int .i64 (i : Int)] ++ intsN (o.drop kk) := by unfold intsN; rw [List.map_append, List.map_append]; rfl
                    have := X3.out
                    rw [e1, ← e2] at this
                    exact own_base this (by rw [HW.out]; exact HR.out.2.2.size)
                  · refine (HR.out.2.2.trans ?_).trans (B3.out.mono (by rw [HW.out]; exact HR.out.2.2.size))
                    rw [HW.out]; exact below_drewN (Below.refl _ _) _)
            · have hcap2 : ¬ cap = kk := fun h => hcap h.symm
              have E3 := World.ownsRow.alloc (own_empty (base := W1.heap.size) (e := 3) (heap_alloc_new W1 (.cells #[] 3)) (Nat.le_refl _)) (.cells #[.int .i64 (i : Int)] 3)
              have OE1 : Aside ((W1.alloc (.cells #[] 3)).drew.ownsRow W1.heap.size 3 1 (.slice (some ⟨W1.heap.size, 0, none⟩) 0 0) 0 []) := own_empty (heap_alloc_new W1 _) (Nat.le_refl _)
              have OE2 : Aside (((W1.alloc (.cells #[] 3)).alloc (.cells #[.int .i64 (i : Int)] 3)).drew.ownsRow W1.heap.size 3 1 (.slice (some ⟨W1.heap.size, 0, none⟩) 0 0) 0 []) := E3
              have OE3 : Aside (((W1.alloc (.cells #[.int .i64 (i : Int)] 3)).alloc (.cells #[] 3)).drew.ownsRow W1.heap.size 3 1 (.slice (some ⟨W1.heap.size + 1, 0, none⟩) 0 0) 0 []) := by
                have this := own_empty (base := W1.heap.size) (heap_alloc_new (W1.alloc (.cells #[.int .i64 (i : Int)] 3)) (.cells #[] 3)) (by simp)
                rw [World.size_alloc] at this
                exact this
              have BE1 : Aside (Below W1.heap.size W1 (W1.alloc (.cells #[] 3)).drew) := Below.drew ((Below.refl _ _).alloc (Nat.le_refl _) _)
              have BE2 : Aside (Below W1.heap.size W1 ((W1.alloc (.cells #[] 3)).alloc (.cells #[.int .i64 (i : Int)] 3)).drew) := Below.drew (Below.alloc ((Below.refl _ _).alloc (Nat.le_refl _) _) (by simp) _)
              have BE3 : Aside (Below W1.heap.size W1 ((W1.alloc (.cells #[.int .i64 (i : Int)] 3)).alloc (.cells #[] 3)).drew) := Below.drew (Below.alloc ((Below.refl _ _).alloc (Nat.le_refl _) _) (by simp) _)
              have CY2 : Aside (((W1.alloc (.cells #[] 3)).alloc (.cells #[.int .i64 (i : Int)] 3)).drew.cell? ⟨W1.heap.size + 1, 0, none⟩ = some (.int .i64 (i : Int))) := by show _ = _; simp
              have CY3 : Aside (((W1.alloc (.cells #[.int .i64 (i : Int)] 3)).alloc (.cells #[] 3)).drew.cell? ⟨W1.heap.size, 0, none⟩ = some (.int .i64 (i : Int))) := by show _ = _; simp
              clear E3
              have HN1 : Aside (kk ≤ 100) := by show _ ≤ _; omega
              have HN2 : Aside (kk + 1 + (i - kk) ≤ 200) := by show _ ≤ _; omega
              have LA : Aside ((intsN (o.take kk)).length = kk) := by show _ = _; unfold intsN; rw [List.length_map, List.length_take, HOL.out]; omega
              have LB : Aside ((intsN (o.drop kk)).length = i - kk) := by show _ = _; unfold intsN; rw [List.length_map, List.length_drop, HOL.out]
              go_region_held3 (fun _ => True) (trivial) (first | ((refine st3 (by rfl) (.tmp 40) (.tmp 43) (by rfl) _ (kk + 1) _ o ⟨g, kk, none⟩ g kk (i - kk) _ (by rfl) (by rfl) X2.out B2.out HSRC.out LB.out (Or.inr rfl) HN2.out ?_; intro v3 w3 z1 z2; have X3 : Aside _ := z1; have B3 : Aside _ := z2; clear z1 z2)) | ((refine st1 (by rfl) (.tmp 33) (.tmp 36) (by rfl) o g W1.heap.size kk _ (by rfl) (by rfl) OE1.out BE1.out HSRC.out LA.out HN1.out ?_; intro v1 w1 x1 x2 x3; have X1 : Aside _ := x1; have B1 : Aside _ := x2; clear x1 x2 x3)) | ((refine st1 (by rfl) (.tmp 33) (.tmp 36) (by rfl) o g W1.heap.size kk _ (by rfl) (by rfl) OE2.out BE2.out HSRC.out LA.out HN1.out ?_; intro v1 w1 x1 x2 x3; have X1 : Aside _ := x1; have B1 : Aside _ := x2; have CY : Aside _ := x3 _ _ (by simp) CY2.out; clear x1 x2 x3)) | ((refine st1 (by rfl) (.tmp 33) (.tmp 36) (by rfl) o g (W1.heap.size + 1) kk _ (by rfl) (by rfl) OE3.out BE3.out HSRC.out LA.out HN1.out ?_; intro v1 w1 x1 x2 x3; have X1 : Aside _ := x1; have B1 : Aside _ := x2; have CY : Aside _ := x3 _ _ (by simp) CY3.out; clear x1 x2 x3)) | ((refine st2 (by rfl) (.tmp 37) (.tmp 39) (by rfl) _ kk (W1.heap.size + 1) (i : Int) (intsN (o.take kk)) (by rfl) (by rfl) X1.out B1.out CY.out HN1.out ?_; intro v2 w2 y1 y2; have X2 : Aside _ := y1; have B2 : Aside _ := y2; clear y1 y2)) | ((refine st2 (by rfl) (.tmp 37) (.tmp 39) (by rfl) _ kk W1.heap.size (i : Int) (intsN (o.take kk)) (by rfl) (by rfl) X1.out B1.out CY.out HN1.out ?_; intro v2 w2 y1 y2; have X2 : Aside _ := y1; have B2 : Aside _ := y2; clear y1 y2)) | ((refine st2 (by rfl) (.tmp 37) (.tmp 39) (by rfl) _ kk w1.heap.size (i : Int) (intsN (o.take kk)) (by rfl) (by rfl) (World.ownsRow.alloc X1.out _) (Below.alloc B1.out B1.out.size _) (cell_new1 _ _ _) HN1.out ?_; intro v2 w2 y1 y2; have X2 : Aside _ := y1; have B2 : Aside _ := y2; clear y1 y2)))
              all_goals (
                go_wp2
                go_roundg (L - (i + 1))
                case measure => omega
                case rel =>
                  refine ⟨i + 1, o.take kk ++ [i] ++ o.drop kk, by go_num, by omega, Nat.le_refl _, ?_, ?_, ?_⟩
                  · exact HR.out.1.insert (by rw [HL.out]; exact hlti) (by omega) (fun p h1 h2 => HPOS.out.1 p h1 h2) HPOS.out.2
                  · have e1 : kk + 1 + (i - kk) = i + 1 := by omega
                    have e2 : intsN (o.take kk ++ [i] ++ o.drop kk) = intsN (o.take kk) ++ [.int .i64 (i : Int)] ++ intsN (o.drop kk) := by unfold intsN; rw [List.map_append, List.map_append]; rfl
                    have := X3.out
                    rw [e1, ← e2] at this
                    exact own_base this (by rw [HW.out]; exact HR.out.2.2.size)
                  · refine (HR.out.2.2.trans ?_).trans (B3.out.mono (by rw [HW.out]; exact HR.out.2.2.size))
                    rw [HW.out]; exact below_drewN (Below.refl _ _) _)
    · obtain rfl : i = L := by omega
      have z1 : ¬ (i : Int) < (i : Int) := by omega
      go_wp2
      go_ret
      have hI : IsOrd ds o := by
        have := HR.out.1
        rwa [List.take_of_length_le (by rw [HL.out]; omega)] at this
      have ha := HR.out.2.1
      have hb := HR.out.2.2
      first | exact ⟨o, u3, hI, rfl, ha, hb⟩ | exact ⟨o, hI, u3, rfl, ha, hb⟩ | exact ⟨o, hI, ha, hb⟩

end Go.Proofs.Ytpcmeajphfifiaa

/- Proved: ViewSlides returns true for every input. No condition. -/
import Derived.Test.YtpcmeajphfifiaaFloatsW
import Derived.Test.YtpcmeajphfifiaaApp
namespace Go.Proofs.Ytpcmeajphfifiaa.viewSlides
open Go.ChangeShapes Go.WideShapes Go.ChangeAt Go.RowKit Go.Sort
open Fl (V nn fin rg sg U IsOrd)
set_option linter.unusedVariables false

/-! ### the two lists, and the one more -/
def fa (X : Int) : Nat := floatOfInt .f64 (X % 12)
def fb (X : Int) : Nat := Fl.addw (floatOfInt .f64 (X % 12)) 4634204016564240384
def fc (X : Int) : Nat := floatOfInt .f64 (X % 14)
theorem ofI_key (k : Int) (h : 0 ≤ k) (h2 : k ≤ 100) : Fl.key (floatOfInt .f64 k) = 2 * (k * (U : Int)) ∧ floatOfInt .f64 k < 2 ^ 64 ∧ fin (floatOfInt .f64 k) ∧ V (floatOfInt .f64 k) = k * (U : Int) := by
  obtain ⟨f, v, l⟩ := Fl.ofInt_V k (by have : (100 : Nat) < 2 ^ 53 := by decide
                                       omega)
  refine ⟨?_, l, f, v⟩
  rw [Fl.key_nn (show nn (floatOfInt .f64 k) from f.nn), show V (floatOfInt .f64 k) = _ from v]
  by_cases h0 : k = 0
  · subst h0
    have : sg (floatOfInt .f64 0) = false := by decide +kernel
    rw [this]
    simp
  · rw [if_neg]
    rintro ⟨e, _⟩
    have hU := Fl.Upos
    rcases Int.mul_eq_zero.1 e with h3 | h3 <;> omega
theorem V64 : V 4634204016564240384 = 64 * (U : Int) := by decide +kernel
theorem fin64 : fin 4634204016564240384 := by decide +kernel
theorem fb_spec (X : Int) : Ieee.double.add (floatOfInt .f64 (X % 12)) 4634204016564240384 = some (fb X) ∧ fb X < 2 ^ 64 ∧ Fl.key (fb X) = 2 * ((X % 12) * (U : Int)) + 128 * (U : Int) := by
  obtain ⟨_, l1, f1, v1⟩ := ofI_key (X % 12) (by omega) (by omega)
  obtain ⟨_, l2, f2, v2⟩ := ofI_key (X % 12 + 64) (by omega) (by omega)
  obtain ⟨r, e, R, _⟩ := Fl.add_fin f1 fin64
  have e2 : fb X = r := by unfold fb Fl.addw; rw [e]; rfl
  rw [e2]
  refine ⟨e, R.1, ?_⟩
  have hU := Fl.Upos
  have hv : V r = V (floatOfInt .f64 (X % 12 + 64)) := Fl.rounds_exact (by decide) R f2.nn l2 (by rw [v1, V64, v2, Int.add_mul]; omega)
  rw [v2, Int.add_mul] at hv
  have h0 : 0 ≤ (X % 12) * (U : Int) := Int.mul_nonneg (by omega) (by omega)
  rw [Fl.key_nn R.nn, if_neg (by rintro ⟨h, _⟩; omega), hv]
  omega
theorem add64 (X : Int) (w : World) : (binOp .add 22 (.float .f64 (floatOfInt .f64 (X % 12))) (.float .f64 4634204016564240384)).run Try.prog w = .ok (.float .f64 (fb X)) w :=
  run_float_arith (P := Try.prog) w .add 22 .f64 _ _ _ (fb_spec X).1

def la (l : List Int) (k : Nat) : List Nat := (List.range k).map fun i => fa (l.getD i 0)
def lb (l : List Int) (k : Nat) : List Nat := (List.range k).map fun i => fb (l.getD i 0)
theorem la_succ (l : List Int) (k : Nat) : (la l (k + 1)).map (Value.float .f64) = (la l k).map (Value.float .f64) ++ [.float .f64 (floatOfInt .f64 (l.getD k 0 % 12))] := by
  unfold la; rw [List.range_succ]; simp [fa]
theorem lb_succ (l : List Int) (k : Nat) : (lb l (k + 1)).map (Value.float .f64) = (lb l k).map (Value.float .f64) ++ [.float .f64 (fb (l.getD k 0))] := by
  unfold lb; rw [List.range_succ]; simp
theorem la_len (l : List Int) (k : Nat) : (la l k).length = k := by simp [la]
theorem lb_len (l : List Int) (k : Nat) : (lb l k).length = k := by simp [lb]
theorem la_get (l : List Int) (k j : Nat) (h : j < k) : (la l k).getD j 0 = fa (l.getD j 0) := by
  unfold la; rw [List.getD_eq_getElem?_getD, List.getElem?_map, List.getElem?_range h]; rfl
theorem lb_get (l : List Int) (k j : Nat) (h : j < k) : (lb l k).getD j 0 = fb (l.getD j 0) := by
  unfold lb; rw [List.getD_eq_getElem?_getD, List.getElem?_map, List.getElem?_range h]; rfl
theorem la_lt (l : List Int) (k j : Nat) : (la l k).getD j 0 < 2 ^ 64 := by
  rcases Nat.lt_or_ge j k with h | h
  · rw [la_get l k j h]; exact (ofI_key _ (by omega) (by omega)).2.1
  · rw [List.getD_eq_getElem?_getD, List.getElem?_eq_none (by rw [la_len]; exact h)]; show (0 : Nat) < _; decide
theorem lb_lt (l : List Int) (k j : Nat) : (lb l k).getD j 0 < 2 ^ 64 := by
  rcases Nat.lt_or_ge j k with h | h
  · rw [lb_get l k j h]; exact (fb_spec _).2.1
  · rw [List.getD_eq_getElem?_getD, List.getElem?_eq_none (by rw [lb_len]; exact h)]; show (0 : Nat) < _; decide
/-- all one farther: the same order -/
theorem slid {l : List Int} {k : Nat} {o : List Nat} (h : IsOrd (la l k) o) : IsOrd (lb l k) o := by
  refine h.congr (by rw [la_len, lb_len]) fun a b ha hb r => ?_
  rw [la_len] at ha hb
  unfold Fl.before at r ⊢
  rw [la_get l k a ha, la_get l k b hb] at r
  rw [lb_get l k a ha, lb_get l k b hb, (fb_spec _).2.2, (fb_spec _).2.2]
  unfold fa at r
  rw [(ofI_key (l.getD a 0 % 12) (by omega) (by omega)).1, (ofI_key (l.getD b 0 % 12) (by omega) (by omega)).1] at r
  omega
/-- one more at the end: the others' order -/
theorem less {ds o : List Nat} {c : Nat} (h : IsOrd (ds ++ [c]) o) : IsOrd ds (o.filter (· ≠ ds.length)) := by
  refine ⟨?_, ?_⟩
  · have h1 := h.perm.filter (· ≠ ds.length)
    have h2 : (List.range (ds ++ [c]).length).filter (· ≠ ds.length) = List.range ds.length := by
      rw [List.length_append, List.length_singleton, List.range_succ, List.filter_append]
      have e1 : (List.range ds.length).filter (· ≠ ds.length) = List.range ds.length := by
        rw [List.filter_eq_self]
        intro a ha
        have := List.mem_range.1 ha
        exact decide_eq_true (by omega)
      rw [e1]; simp
    rw [h2] at h1; exact h1
  · refine (h.sorted.filter _).imp_of_mem fun {a b} ha hb r => ?_
    have g : ∀ a, a ∈ o.filter (· ≠ ds.length) → (ds ++ [c]).getD a 0 = ds.getD a 0 := fun a ha => by
      obtain ⟨h1, h2⟩ := List.mem_filter.1 ha
      have h3 := h.lt h1
      have h4 : a ≠ ds.length := of_decide_eq_true h2
      rw [List.length_append, List.length_singleton] at h3
      rw [List.getD_eq_getElem?_getD, List.getElem?_append_left (by omega), ← List.getD_eq_getElem?_getD]
    unfold Fl.before at r ⊢
    rw [g a ha, g b hb] at r
    exact r

theorem FRow.below {w w' : World} {v : Value} {ds : List Nat} (h : FRow w v ds) (hb : Below w.heap.size w w') : FRow w' v ds := by
  rcases h with h | ⟨h0, g, c, h1, h2, h3⟩
  · exact Or.inl h
  · exact Or.inr ⟨h0, g, c, h1, Nat.lt_of_lt_of_le h2 hb.size, fun k hk => (hb.cell h2).trans (h3 k hk)⟩
theorem PRow.below {B : Nat} {w w' : World} {v : Value} {o : List Nat} (h : PRow B w v o) (hb : Below w.heap.size w w') : PRow B w' v o := by
  obtain ⟨g, c, h1, h2, h3, h4⟩ := h
  exact ⟨g, c, h1, h2, Nat.lt_of_lt_of_le h3 hb.size, fun k hk => (hb.cell h3).trans (h4 k hk)⟩

theorem src_cells {wr w4 : World} {g : Nat} {news : List Value} (h : g < wr.heap.size ∧ ∀ j u, news[j]? = some u → wr.cell? ⟨g, j, none⟩ = some u) (hb : Below wr.heap.size wr w4) {ob : Obj} :
    ∀ j u, news[j]? = some u → (w4.alloc ob).cell? ((⟨g, 0, none⟩ : Addr).add j) = some u := by
  intro j u hj
  have e : ((⟨g, 0, none⟩ : Addr).add j) = ⟨g, j, none⟩ := by rw [Go.WideShapes.add_plain, Nat.zero_add]
  rw [e, World.cell?_alloc_past _ _ _ (Nat.lt_of_lt_of_le h.1 hb.size), hb.cell h.1]
  exact h.2 j u hj
theorem floats_one (ds : List Nat) : ∀ u ∈ ds.map (Value.float .f64), u.oneCell' = true := by
  intro u hu
  obtain ⟨x, _, rfl⟩ := List.mem_map.1 hu
  rfl
theorem lc_lt (l : List Int) (k : Nat) (X : Int) : ∀ j, (la l k ++ [fc X]).getD j 0 < 2 ^ 64 := by
  intro j
  rcases Nat.lt_or_ge j k with h | h
  · rw [List.getD_eq_getElem?_getD, List.getElem?_append_left (by rw [la_len]; exact h), ← List.getD_eq_getElem?_getD]; exact la_lt l k j
  · rw [List.getD_eq_getElem?_getD, List.getElem?_append_right (by rw [la_len]; exact h), la_len]
    cases e : j - k with
    | zero => exact (ofI_key (X % 14) (by omega) (by omega)).2.1
    | succ n => show (0 : Nat) < _; decide
theorem nrow_own {w : World} {base : Nat} {e : TypeId} {v : Value} {xs : List Nat} (h : w.ownsRow base e 1 v xs.length (xs.map fun (x : Nat) => Value.int .i64 (x : Int))) : NRow w v xs := by
  rcases h.2 with ⟨rfl, h0⟩ | ⟨g, cap, cur, rfl, h1, h2, h3, h4, h5, h6⟩
  · exact Or.inl ⟨List.eq_nil_of_length_eq_zero h0, _, _, rfl⟩
  · refine Or.inr ⟨g, cap, rfl, fun k hk => ?_⟩
    rw [World.ownsRow.cellAt h k (by omega), List.getElem?_map, List.getElem?_eq_getElem hk]
    simp [hk]
theorem two_swap {u v : Option Nat} (h : u = none ∨ u ≠ v) : v = none ∨ v ≠ u := by
  rcases h with rfl | h
  · cases v
    · exact Or.inl rfl
    · exact Or.inr (by simp)
  · exact Or.inr (Ne.symm h)

def rl (o : List Nat) (n k : Nat) : List Nat := (o.take k).filter (· ≠ n)
theorem rl_succ (o : List Nat) (n k : Nat) (h : k < o.length) : rl o n (k + 1) = if o.getD k 0 = n then rl o n k else rl o n k ++ [o.getD k 0] := by
  unfold rl
  have e : o.getD k 0 = o[k] := by simp [h]
  rw [List.take_add_one, List.getElem?_eq_getElem h, List.filter_append, e]
  by_cases c : o[k] = n
  · rw [if_pos c]; simp [c]
  · rw [if_neg c]; simp [c]
theorem rl_le (o : List Nat) (n k : Nat) : (rl o n k).length ≤ k := by
  unfold rl
  exact Nat.le_trans (List.length_filter_le _ _) (by rw [List.length_take]; omega)

set_option maxHeartbeats 4000000 in
set_option maxRecDepth 100000 in
theorem walk (s0 : Value) (a0 : List Int) (a1 : Int) (w : World) (w0 : CameI .i64 w s0 a0) (w1 : (Lit.int .i64 a1).wf = true) :
    Calls Try.prog 9 #[s0, .int .i64 a1] w fun e w' => e = .returned (.bool true) ∧ Below w.heap.size w w' := by
  obtain ⟨ao, cap, rfl, k1, k2, _, k3⟩ := w0
  unfold maxLen at k2
  have HC : Aside (∀ i, i < a0.length → ∃ b o, ao = some ⟨b, o, none⟩ ∧ b < w.heap.size ∧ w.cell? ⟨b, o + i, none⟩ = some (.int .i64 (a0.getD i 0))) := by
    intro i hi
    rcases k3 with rfl | ⟨b, o, rfl, hb, hc⟩
    · simp at hi
    · exact ⟨b, o, rfl, hb, hc i hi⟩
  clear k3
  obtain ⟨n0, hn0⟩ : ∃ n0, n0 = a0.length := ⟨_, rfl⟩
  obtain ⟨K, hK⟩ : ∃ K, K = min n0 20 := ⟨_, rfl⟩
  have hK20 : K ≤ 20 := by omega
  have hm0 : n0 ≤ 9223372036854775807 := by omega
  have HK : Aside (K = min n0 20 ∧ n0 = a0.length) := ⟨hK, hn0⟩
  rw [← hn0] at k1 ⊢
  clear hK hn0 k1 k2 w1
  go_enter Try.func9, Try.ntmps9
  go_wp2_with fail
  refine (known_any _).mono ?_
  rintro e w1 ⟨rfl, hb1⟩
  have HB1 : Aside (Below w.heap.size w w1) := hb1
  clear hb1
  have A64 := add64
  go_wp2
  go_loopg [5, 6, 7] K (fun gk va vb vi wr => ∃ k : Nat, vi = .int .i64 k ∧ k ≤ K ∧ K - k ≤ gk ∧ Aside (wr.ownsRow w1.heap.size 22 1 va k ((la a0 k).map (Value.float .f64)) ∧ wr.ownsRow w1.heap.size 22 1 vb k ((lb a0 k).map (Value.float .f64)) ∧ (vb.ownBlock = none ∨ vb.ownBlock ≠ va.ownBlock) ∧ Below w1.heap.size w1 wr))
  case atStart => exact ⟨0, rfl, by omega, by omega, World.ownsRow_nil _ _ _ _, World.ownsRow_nil _ _ _ _, Or.inl rfl, Below.refl _ _⟩
  case round =>
    obtain ⟨k, rfl, hk, hg, HR⟩ := hrel
    by_cases hlt : k < K
    · have z1 : (k : Int) < (n0 : Int) := by have := HK.out; omega
      have z2 : (k : Int) < 20 := by omega
      obtain ⟨b0, o0, rfl, lb0, hc0⟩ := HC.out k (by have := HK.out; omega)
      have hcell : wr.cell? ⟨b0, o0 + k, none⟩ = some (.int .i64 (a0.getD k 0)) := (HR.out.2.2.2.cell (Nat.lt_of_lt_of_le lb0 HB1.out.size)).trans ((HB1.out.cell lb0).trans hc0)
      generalize hLk : a0.getD k 0 = Lk at hcell
      have HL : Aside (a0.getD k 0 = Lk) := hLk
      have hsz := HR.out.2.2.2.size
      clear hLk hc0 HC
      go_wp2_with (first
        | (go_at_call 25; refine (pick_any _ _ (by omega) (by omega) _).mono ?_; rintro e w' ⟨rfl, rfl⟩)
        | (at_builtin; refine app_1 rfl (.tmp 31) (.tmp 33) rfl Try.underlying34 info_float rfl rfl (by decide) w1.heap.size _ k _ rfl HR.out.1 rfl (by omega) hsz ?_; intro va' w2 x1 x2 x3; have X1 : Aside _ := x1; have X2 : Aside _ := x2; have Y := other_kept HR.out.2.1 x2 HR.out.2.2.1 (Nat.le_succ _) x3; have Y1 : Aside _ := Y.1; have Y2 : Aside _ := Y.2; have hsz2 := Nat.le_trans hsz x2.size; clear x1 x2 x3 Y)
        | (at_builtin; refine app_1 rfl (.tmp 35) (.tmp 38) rfl Try.underlying34 info_float rfl rfl (by decide) w1.heap.size _ k _ rfl Y1.out rfl (by omega) hsz2 ?_; intro vb' w3 y1 y2 y3; have Z1 : Aside _ := y1; have Z2 : Aside _ := y2; have Q := other_kept X1.out y2 (two_swap Y2.out) (Nat.le_succ _) y3; have Q1 : Aside _ := Q.1; have Q2 : Aside _ := Q.2; clear y1 y2 y3 Q))
      go_roundg (K - (k + 1))
      case measure => omega
      case rel =>
        refine ⟨k + 1, by go_num, by omega, Nat.le_refl _, ?_, ?_, two_swap Q2.out, ?_⟩
        · rw [la_succ, HL.out]; exact Q1.out
        · rw [lb_succ, HL.out]; exact Z1.out
        · refine (HR.out.2.2.2.grown X2.out hsz (fun k hk => (HR.out.1.lt k hk).1)).grown Z2.out hsz2 (fun k hk => (World.ownsRow.lt Y1.out k hk).1)
    · obtain rfl : k = K := by omega
      have HF : Aside (¬ ((k : Int) < (n0 : Int) ∧ (k : Int) < 20)) := by have := HK.out; show ¬ _; omega
      obtain ⟨ra, rb, _, hbel⟩ := HR.out
      have hva : ∃ aa ca, u5 = .slice aa k ca := by
        rcases ra.2 with ⟨h, h2⟩ | ⟨g, c, _, h, _⟩
        · exact ⟨none, 0, by rw [h, h2]⟩
        · exact ⟨_, c, h⟩
      obtain ⟨aa, ca, rfl⟩ := hva
      have FA : Aside (FRow wr (.slice aa k ca) (la a0 k)) := frow_own ra (la_len _ _)
      have FB : Aside (FRow wr u6 (lb a0 k)) := frow_own rb (lb_len _ _)
      have BW : Aside (Below w1.heap.size w1 wr) := hbel
      have form : (aa = none ∧ ca = 0 ∧ k = 0) ∨ ∃ g, aa = some ⟨g, 0, none⟩ ∧ g < wr.heap.size ∧ ∀ j u, ((la a0 k).map (Value.float .f64))[j]? = some u → wr.cell? ⟨g, j, none⟩ = some u := by
        rcases ra.2 with ⟨h, h2⟩ | ⟨g, c, _, h, h3⟩
        · left
          injection h with e1 e2 e3
          exact ⟨e1, e3, h2⟩
        · right
          injection h with e1 e2 e3
          subst e1
          refine ⟨g, rfl, (ra.lt g rfl).2, fun j u hj => ?_⟩
          have hjl : j < k := by
            rcases Nat.lt_or_ge j k with hh | hh
            · exact hh
            · rw [List.getElem?_eq_none (by simp [la]; exact hh)] at hj; cases hj
          rw [← hj]
          exact World.ownsRow.cellAt ra j (by omega)
      clear ra rb hbel HR A64
      have split : ¬ (k : Int) < (n0 : Int) ∨ ((k : Int) < (n0 : Int) ∧ ¬ (k : Int) < 20) := by have := HF.out; omega
      have pk : ∀ X : Int, 0 ≤ X % 14 ∧ X % 14 < 14 := fun X => by omega
      rcases form with ⟨rfl, rfl, hk0⟩ | ⟨g, rfl, hgl, hgc⟩
      · have HK0 : Aside (k = 0) := hk0
        have hgc : Aside True := trivial
        clear hk0
        rcases split with z1 | ⟨z1, z2⟩
        · go_wp2_with fail
          refine (order_any _ (la a0 k) _ FA.out (by rw [la_len]; omega) (la_lt _ _)).mono ?_
          rintro e w2 ⟨o, vo, ho, rfl, hp, hb2⟩
          have HO : Aside (IsOrd (la a0 k) o) := ho
          have HP : Aside (PRow wr.heap.size w2 vo o) := hp
          have HB2 : Aside (Below wr.heap.size wr w2) := hb2
          have hvo : ∃ go co, vo = .slice (some ⟨go, 0, none⟩) k co := by obtain ⟨g, c, h, _⟩ := hp; exact ⟨g, c, by rw [← la_len a0 k, ← ho.length]; exact h⟩
          obtain ⟨go, co, rfl⟩ := hvo
          clear ho hp hb2
          go_wp2_with fail
          refine (order_any _ (lb a0 k) _ (FRow.below FB.out HB2.out) (by rw [lb_len]; omega) (lb_lt _ _)).mono ?_
          rintro e w3 ⟨ob, vob, hob, rfl, hp, hb3⟩
          obtain rfl := hob.unique (slid HO.out)
          have HP3 : Aside (PRow w2.heap.size w3 vob ob) := hp
          have HB3 : Aside (Below w2.heap.size w2 w3) := hb3
          clear hob hp hb3
          go_wp2_with fail
          refine (same_any _ _ ob (by rw [HO.out.length, la_len]; omega) _ (PRow.below HP.out HB3.out).n (PRow.n HP3.out)).mono ?_
          rintro e w4 ⟨rfl, q, hw4⟩
          have HB4 : Aside (Below wr.heap.size wr w4) := by rw [hw4]; exact below_drewN (below_step HB2.out HB3.out) _
          have HP4 : Aside (PRow wr.heap.size w4 (.slice (some ⟨go, 0, none⟩) k co) ob) := by rw [hw4]; exact PRow.below HP.out (below_drewN HB3.out _)
          clear hw4 HB2 HB3 HP HP3
          have HW0 : Aside ((w4.alloc (.cells #[] 22)).ownsRow w4.heap.size 22 1 (.slice (some ⟨w4.heap.size, 0, none⟩) 0 0) 0 []) := World.ownsRow_lit w4 #[] 0 (Nat.le_refl _) (Nat.zero_le _) rfl
          go_wp2_with (first
            | (go_at_call 25; refine (pick_any _ _ (by omega) (by omega) _).mono ?_; rintro e w' ⟨rfl, rfl⟩)
            | (at_builtin; refine app_none rfl (.tmp 47) (.tmp 48) rfl Try.underlying34 info_float w4.heap.size _ 0 [] rfl HW0.out (by show Value.slice none k 0 = _; rw [HK0.out]) ?_; have Z1 : Aside ((w4.alloc (.cells #[] 22)).ownsRow w4.heap.size 22 1 (.slice (some ⟨w4.heap.size, 0, none⟩) 0 0) k ((la a0 k).map (Value.float .f64))) := (by rw [HK0.out]; exact HW0.out); have Z2 : Aside (Below w4.heap.size w4 (w4.alloc (.cells #[] 22))) := (Below.refl _ _).alloc (Nat.le_refl _) _; have hz5 : w4.heap.size ≤ (w4.alloc (.cells #[] 22)).heap.size := (by simp); clear HW0; generalize w4.alloc (.cells #[] 22) = w5 at Z1 Z2 hz5 ⊢)
            | (at_builtin; refine app_1 rfl (.tmp 49) (.tmp 53) rfl Try.underlying34 info_float rfl rfl (by decide) w4.heap.size _ k _ rfl Z1.out rfl (by omega) hz5 ?_; intro vm w6 m1 m2 m3; have M1 : Aside _ := m1; have M2 : Aside (Below w4.heap.size w4 w6) := Z2.out.grown m2 hz5 (fun j hj => (World.ownsRow.lt Z1.out j hj).1); clear m1 m2 m3))
          have hlc : (la a0 k ++ [fc a1]).length = k + 1 := by rw [List.length_append, la_len]; rfl
          have FM : Aside (FRow w6 vm (la a0 k ++ [fc a1])) := frow_own (n := k + 1) (by rw [List.map_append]; exact M1.out) hlc
          have HM : Aside _ := hlc
          clear hlc
          refine (order_any _ (la a0 k ++ [fc a1]) _ FM.out (by rw [HM.out]; omega) (lc_lt _ _ _)).mono ?_
          rintro e w7 ⟨om, vom, hom, rfl, hp, hb7⟩
          have HOM : Aside (IsOrd (la a0 k ++ [fc a1]) om ∧ om.length = k + 1) := ⟨hom, by rw [hom.length]; exact HM.out⟩
          have HPM : Aside (PRow w6.heap.size w7 vom om) := hp
          have HB7 : Aside (Below w6.heap.size w6 w7) := hb7
          have hvm : ∃ gm cm, vom = .slice (some ⟨gm, 0, none⟩) (k + 1) cm := by obtain ⟨g, c, h, _⟩ := hp; exact ⟨g, c, by rw [← HOM.out.2]; exact h⟩
          obtain ⟨gm, cm, rfl⟩ := hvm
          clear hom hp hb7
          have HBW : Aside (Below w.heap.size w w7) := below_step (below_step (below_step (below_step HB1.out BW.out) HB4.out) M2.out) HB7.out
          have HPO : Aside (PRow wr.heap.size w7 (.slice (some ⟨go, 0, none⟩) k co) ob) := PRow.below HP4.out (below_step M2.out HB7.out)
          have HCM : Aside (gm < w7.heap.size ∧ ∀ i, i < k + 1 → w7.cell? ⟨gm, i, none⟩ = some (.int .i64 ((om.getD i 0 : Nat) : Int))) := by
            obtain ⟨g2, c2, h, _, h2, h3⟩ := HPM.out
            have hg : gm = g2 := by simpa [Value.ownBlock] using congrArg Value.ownBlock h
            subst hg
            exact ⟨h2, fun i hi => h3 i (by rw [HOM.out.2]; exact hi)⟩
          have HFIN : Aside (rl om k (k + 1) = ob) := by
            show _ = _
            unfold rl
            rw [List.take_of_length_le (by rw [HOM.out.2]; omega)]
            have := less HOM.out.1
            rw [la_len] at this
            exact this.unique HO.out
          clear HB1 BW HB4 M2 HB7 HP4 HPM HM FM M1
          go_wp2
          go_loopg [11, 58] (k + 1) (fun gk vr vi wx => ∃ i : Nat, vi = .int .i64 i ∧ i ≤ k + 1 ∧ k + 1 - i ≤ gk ∧ Aside (wx.ownsRow w7.heap.size 3 1 vr (rl om k i).length ((rl om k i).map fun (x : Nat) => Value.int .i64 (x : Int)) ∧ Below w7.heap.size w7 wx))
          case atStart => exact ⟨0, rfl, by omega, by omega, World.ownsRow_nil _ _ _ _, Below.refl _ _⟩
          case round =>
            obtain ⟨i, rfl, hi, hgi, HR⟩ := hrel
            by_cases hlti : i < k + 1
            · have y1 : (i : Int) < (k : Int) + 1 := by omega
              have hc : wr.cell? ⟨gm, i, none⟩ = some (.int .i64 ((om.getD i 0 : Nat) : Int)) := (HR.out.2.cell HCM.out.1).trans (HCM.out.2 i hlti)
              have hrs := rl_succ om k i (by rw [HOM.out.2]; exact hlti)
              have hsz := HR.out.2.size
              have hrl := rl_le om k i
              obtain ⟨x, hx⟩ : ∃ x, x = om.getD i 0 := ⟨_, rfl⟩
              rw [← hx] at hc hrs
              have HRS : Aside _ := hrs
              clear hx hrs
              by_cases hxk : x = k
              · have y2 : (x : Int) = (k : Int) := by omega
                have y3 : ((x : Int) != (k : Int)) = false := by rw [y2]; simp
                have HXK : Aside (x = k) := hxk
                clear hxk y2
                go_wp2
                go_roundg (k + 1 - (i + 1))
                case measure => omega
                case rel =>
                  refine ⟨i + 1, by go_num, by omega, Nat.le_refl _, ?_, HR.out.2⟩
                  rw [HRS.out, if_pos HXK.out]; exact HR.out.1
              · have y3 : ((x : Int) != (k : Int)) = true := by simpa using (by omega : ¬ (x : Int) = (k : Int))
                have HXK : Aside (¬ x = k) := hxk
                clear hxk
                go_wp2_with (at_builtin; refine app_1 rfl (.tmp 68) (.tmp 73) rfl Try.underlying32 info_int rfl rfl (by decide) w7.heap.size _ (rl om k i).length _ rfl HR.out.1 rfl (by omega) hsz ?_; intro vr' w8 x1 x2 x3; have X1 : Aside _ := x1; have X2 : Aside _ := x2; clear x1 x2 x3)
                go_roundg (k + 1 - (i + 1))
                case measure => omega
                case rel =>
                  refine ⟨i + 1, by go_num, by omega, Nat.le_refl _, ?_, HR.out.2.grown X2.out hsz (fun j hj => (World.ownsRow.lt HR.out.1 j hj).1)⟩
                  rw [HRS.out, if_neg HXK.out, List.map_append, List.length_append]; exact X1.out
            · obtain rfl : i = k + 1 := by omega
              have y1 : ¬ (k : Int) + 1 < (k : Int) + 1 := by omega
              have hnr : NRow wr u11 ob := by rw [← HFIN.out]; exact nrow_own HR.out.1
              have HNR : Aside _ := hnr
              clear hnr
              go_wp2_with fail
              refine (same_any _ _ ob (by rw [HO.out.length, la_len]; omega) _ HNR.out (PRow.below HPO.out HR.out.2).n).mono ?_
              rintro e w9 ⟨rfl, q9, rfl⟩
              go_wp2
              go_ret
              exact ⟨rfl, below_drewN (below_step HBW.out HR.out.2) _⟩
        · go_wp2_with fail
          refine (order_any _ (la a0 k) _ FA.out (by rw [la_len]; omega) (la_lt _ _)).mono ?_
          rintro e w2 ⟨o, vo, ho, rfl, hp, hb2⟩
          have HO : Aside (IsOrd (la a0 k) o) := ho
          have HP : Aside (PRow wr.heap.size w2 vo o) := hp
          have HB2 : Aside (Below wr.heap.size wr w2) := hb2
          have hvo : ∃ go co, vo = .slice (some ⟨go, 0, none⟩) k co := by obtain ⟨g, c, h, _⟩ := hp; exact ⟨g, c, by rw [← la_len a0 k, ← ho.length]; exact h⟩
          obtain ⟨go, co, rfl⟩ := hvo
          clear ho hp hb2
          go_wp2_with fail
          refine (order_any _ (lb a0 k) _ (FRow.below FB.out HB2.out) (by rw [lb_len]; omega) (lb_lt _ _)).mono ?_
          rintro e w3 ⟨ob, vob, hob, rfl, hp, hb3⟩
          obtain rfl := hob.unique (slid HO.out)
          have HP3 : Aside (PRow w2.heap.size w3 vob ob) := hp
          have HB3 : Aside (Below w2.heap.size w2 w3) := hb3
          clear hob hp hb3
          go_wp2_with fail
          refine (same_any _ _ ob (by rw [HO.out.length, la_len]; omega) _ (PRow.below HP.out HB3.out).n (PRow.n HP3.out)).mono ?_
          rintro e w4 ⟨rfl, q, hw4⟩
          have HB4 : Aside (Below wr.heap.size wr w4) := by rw [hw4]; exact below_drewN (below_step HB2.out HB3.out) _
          have HP4 : Aside (PRow wr.heap.size w4 (.slice (some ⟨go, 0, none⟩) k co) ob) := by rw [hw4]; exact PRow.below HP.out (below_drewN HB3.out _)
          clear hw4 HB2 HB3 HP HP3
          have HW0 : Aside ((w4.alloc (.cells #[] 22)).ownsRow w4.heap.size 22 1 (.slice (some ⟨w4.heap.size, 0, none⟩) 0 0) 0 []) := World.ownsRow_lit w4 #[] 0 (Nat.le_refl _) (Nat.zero_le _) rfl
          go_wp2_with (first
            | (go_at_call 25; refine (pick_any _ _ (by omega) (by omega) _).mono ?_; rintro e w' ⟨rfl, rfl⟩)
            | (at_builtin; refine app_none rfl (.tmp 47) (.tmp 48) rfl Try.underlying34 info_float w4.heap.size _ 0 [] rfl HW0.out (by show Value.slice none k 0 = _; rw [HK0.out]) ?_; have Z1 : Aside ((w4.alloc (.cells #[] 22)).ownsRow w4.heap.size 22 1 (.slice (some ⟨w4.heap.size, 0, none⟩) 0 0) k ((la a0 k).map (Value.float .f64))) := (by rw [HK0.out]; exact HW0.out); have Z2 : Aside (Below w4.heap.size w4 (w4.alloc (.cells #[] 22))) := (Below.refl _ _).alloc (Nat.le_refl _) _; have hz5 : w4.heap.size ≤ (w4.alloc (.cells #[] 22)).heap.size := (by simp); clear HW0; generalize w4.alloc (.cells #[] 22) = w5 at Z1 Z2 hz5 ⊢)
            | (at_builtin; refine app_1 rfl (.tmp 49) (.tmp 53) rfl Try.underlying34 info_float rfl rfl (by decide) w4.heap.size _ k _ rfl Z1.out rfl (by omega) hz5 ?_; intro vm w6 m1 m2 m3; have M1 : Aside _ := m1; have M2 : Aside (Below w4.heap.size w4 w6) := Z2.out.grown m2 hz5 (fun j hj => (World.ownsRow.lt Z1.out j hj).1); clear m1 m2 m3))
          have hlc : (la a0 k ++ [fc a1]).length = k + 1 := by rw [List.length_append, la_len]; rfl
          have FM : Aside (FRow w6 vm (la a0 k ++ [fc a1])) := frow_own (n := k + 1) (by rw [List.map_append]; exact M1.out) hlc
          have HM : Aside _ := hlc
          clear hlc
          refine (order_any _ (la a0 k ++ [fc a1]) _ FM.out (by rw [HM.out]; omega) (lc_lt _ _ _)).mono ?_
          rintro e w7 ⟨om, vom, hom, rfl, hp, hb7⟩
          have HOM : Aside (IsOrd (la a0 k ++ [fc a1]) om ∧ om.length = k + 1) := ⟨hom, by rw [hom.length]; exact HM.out⟩
          have HPM : Aside (PRow w6.heap.size w7 vom om) := hp
          have HB7 : Aside (Below w6.heap.size w6 w7) := hb7
          have hvm : ∃ gm cm, vom = .slice (some ⟨gm, 0, none⟩) (k + 1) cm := by obtain ⟨g, c, h, _⟩ := hp; exact ⟨g, c, by rw [← HOM.out.2]; exact h⟩
          obtain ⟨gm, cm, rfl⟩ := hvm
          clear hom hp hb7
          have HBW : Aside (Below w.heap.size w w7) := below_step (below_step (below_step (below_step HB1.out BW.out) HB4.out) M2.out) HB7.out
          have HPO : Aside (PRow wr.heap.size w7 (.slice (some ⟨go, 0, none⟩) k co) ob) := PRow.below HP4.out (below_step M2.out HB7.out)
          have HCM : Aside (gm < w7.heap.size ∧ ∀ i, i < k + 1 → w7.cell? ⟨gm, i, none⟩ = some (.int .i64 ((om.getD i 0 : Nat) : Int))) := by
            obtain ⟨g2, c2, h, _, h2, h3⟩ := HPM.out
            have hg : gm = g2 := by simpa [Value.ownBlock] using congrArg Value.ownBlock h
            subst hg
            exact ⟨h2, fun i hi => h3 i (by rw [HOM.out.2]; exact hi)⟩
          have HFIN : Aside (rl om k (k + 1) = ob) := by
            show _ = _
            unfold rl
            rw [List.take_of_length_le (by rw [HOM.out.2]; omega)]
            have := less HOM.out.1
            rw [la_len] at this
            exact this.unique HO.out
          clear HB1 BW HB4 M2 HB7 HP4 HPM HM FM M1
          go_wp2
          go_loopg [11, 58] (k + 1) (fun gk vr vi wx => ∃ i : Nat, vi = .int .i64 i ∧ i ≤ k + 1 ∧ k + 1 - i ≤ gk ∧ Aside (wx.ownsRow w7.heap.size 3 1 vr (rl om k i).length ((rl om k i).map fun (x : Nat) => Value.int .i64 (x : Int)) ∧ Below w7.heap.size w7 wx))
          case atStart => exact ⟨0, rfl, by omega, by omega, World.ownsRow_nil _ _ _ _, Below.refl _ _⟩
          case round =>
            obtain ⟨i, rfl, hi, hgi, HR⟩ := hrel
            by_cases hlti : i < k + 1
            · have y1 : (i : Int) < (k : Int) + 1 := by omega
              have hc : wr.cell? ⟨gm, i, none⟩ = some (.int .i64 ((om.getD i 0 : Nat) : Int)) := (HR.out.2.cell HCM.out.1).trans (HCM.out.2 i hlti)
              have hrs := rl_succ om k i (by rw [HOM.out.2]; exact hlti)
              have hsz := HR.out.2.size
              have hrl := rl_le om k i
              obtain ⟨x, hx⟩ : ∃ x, x = om.getD i 0 := ⟨_, rfl⟩
              rw [← hx] at hc hrs
              have HRS : Aside _ := hrs
              clear hx hrs
              by_cases hxk : x = k
              · have y2 : (x : Int) = (k : Int) := by omega
                have y3 : ((x : Int) != (k : Int)) = false := by rw [y2]; simp
                have HXK : Aside (x = k) := hxk
                clear hxk y2
                go_wp2
                go_roundg (k + 1 - (i + 1))
                case measure => omega
                case rel =>
                  refine ⟨i + 1, by go_num, by omega, Nat.le_refl _, ?_, HR.out.2⟩
                  rw [HRS.out, if_pos HXK.out]; exact HR.out.1
              · have y3 : ((x : Int) != (k : Int)) = true := by simpa using (by omega : ¬ (x : Int) = (k : Int))
                have HXK : Aside (¬ x = k) := hxk
                clear hxk
                go_wp2_with (at_builtin; refine app_1 rfl (.tmp 68) (.tmp 73) rfl Try.underlying32 info_int rfl rfl (by decide) w7.heap.size _ (rl om k i).length _ rfl HR.out.1 rfl (by omega) hsz ?_; intro vr' w8 x1 x2 x3; have X1 : Aside _ := x1; have X2 : Aside _ := x2; clear x1 x2 x3)
                go_roundg (k + 1 - (i + 1))
                case measure => omega
                case rel =>
                  refine ⟨i + 1, by go_num, by omega, Nat.le_refl _, ?_, HR.out.2.grown X2.out hsz (fun j hj => (World.ownsRow.lt HR.out.1 j hj).1)⟩
                  rw [HRS.out, if_neg HXK.out, List.map_append, List.length_append]; exact X1.out
            · obtain rfl : i = k + 1 := by omega
              have y1 : ¬ (k : Int) + 1 < (k : Int) + 1 := by omega
              have hnr : NRow wr u11 ob := by rw [← HFIN.out]; exact nrow_own HR.out.1
              have HNR : Aside _ := hnr
              clear hnr
              go_wp2_with fail
              refine (same_any _ _ ob (by rw [HO.out.length, la_len]; omega) _ HNR.out (PRow.below HPO.out HR.out.2).n).mono ?_
              rintro e w9 ⟨rfl, q9, rfl⟩
              go_wp2
              go_ret
              exact ⟨rfl, below_drewN (below_step HBW.out HR.out.2) _⟩
      · have HK0 : Aside True := trivial
        have HG : Aside (g < wr.heap.size ∧ ∀ j u, ((la a0 k).map (Value.float .f64))[j]? = some u → wr.cell? ⟨g, j, none⟩ = some u) := ⟨hgl, hgc⟩
        clear hgl hgc
        rcases split with z1 | ⟨z1, z2⟩
        · go_wp2_with fail
          refine (order_any _ (la a0 k) _ FA.out (by rw [la_len]; omega) (la_lt _ _)).mono ?_
          rintro e w2 ⟨o, vo, ho, rfl, hp, hb2⟩
          have HO : Aside (IsOrd (la a0 k) o) := ho
          have HP : Aside (PRow wr.heap.size w2 vo o) := hp
          have HB2 : Aside (Below wr.heap.size wr w2) := hb2
          have hvo : ∃ go co, vo = .slice (some ⟨go, 0, none⟩) k co := by obtain ⟨g, c, h, _⟩ := hp; exact ⟨g, c, by rw [← la_len a0 k, ← ho.length]; exact h⟩
          obtain ⟨go, co, rfl⟩ := hvo
          clear ho hp hb2
          go_wp2_with fail
          refine (order_any _ (lb a0 k) _ (FRow.below FB.out HB2.out) (by rw [lb_len]; omega) (lb_lt _ _)).mono ?_
          rintro e w3 ⟨ob, vob, hob, rfl, hp, hb3⟩
          obtain rfl := hob.unique (slid HO.out)
          have HP3 : Aside (PRow w2.heap.size w3 vob ob) := hp
          have HB3 : Aside (Below w2.heap.size w2 w3) := hb3
          clear hob hp hb3
          go_wp2_with fail
          refine (same_any _ _ ob (by rw [HO.out.length, la_len]; omega) _ (PRow.below HP.out HB3.out).n (PRow.n HP3.out)).mono ?_
          rintro e w4 ⟨rfl, q, hw4⟩
          have HB4 : Aside (Below wr.heap.size wr w4) := by rw [hw4]; exact below_drewN (below_step HB2.out HB3.out) _
          have HP4 : Aside (PRow wr.heap.size w4 (.slice (some ⟨go, 0, none⟩) k co) ob) := by rw [hw4]; exact PRow.below HP.out (below_drewN HB3.out _)
          clear hw4 HB2 HB3 HP HP3
          have HW0 : Aside ((w4.alloc (.cells #[] 22)).ownsRow w4.heap.size 22 1 (.slice (some ⟨w4.heap.size, 0, none⟩) 0 0) 0 []) := World.ownsRow_lit w4 #[] 0 (Nat.le_refl _) (Nat.zero_le _) rfl
          go_wp2_with (first
            | (go_at_call 25; refine (pick_any _ _ (by omega) (by omega) _).mono ?_; rintro e w' ⟨rfl, rfl⟩)
            | (at_builtin; refine app_gen rfl (.tmp 47) (.tmp 48) rfl Try.underlying34 info_float rfl w4.heap.size _ 0 [] rfl HW0.out ⟨g, 0, none⟩ k ca ((la a0 k).map (Value.float .f64)) rfl (by rw [List.length_map]; exact la_len _ _) (src_cells HG.out HB4.out) (floats_one _) (by unfold maxLen; omega) (by omega) (by simp) ?_; intro v5 w5 m1 m2 _; rw [Nat.zero_add, List.nil_append] at m1; have Z1 : Aside _ := m1; have Z2 : Aside (Below w4.heap.size w4 w5) := ((Below.refl _ _).alloc (Nat.le_refl _) _).grown m2 (by simp) (fun j hj => (World.ownsRow.lt HW0.out j hj).1); have hz5 : w4.heap.size ≤ w5.heap.size := Z2.out.size; clear m1 m2)
            | (at_builtin; refine app_1 rfl (.tmp 49) (.tmp 53) rfl Try.underlying34 info_float rfl rfl (by decide) w4.heap.size _ k _ rfl Z1.out rfl (by omega) hz5 ?_; intro vm w6 m1 m2 m3; have M1 : Aside _ := m1; have M2 : Aside (Below w4.heap.size w4 w6) := Z2.out.grown m2 hz5 (fun j hj => (World.ownsRow.lt Z1.out j hj).1); clear m1 m2 m3))
          have hlc : (la a0 k ++ [fc a1]).length = k + 1 := by rw [List.length_append, la_len]; rfl
          have FM : Aside (FRow w6 vm (la a0 k ++ [fc a1])) := frow_own (n := k + 1) (by rw [List.map_append]; exact M1.out) hlc
          have HM : Aside _ := hlc
          clear hlc
          refine (order_any _ (la a0 k ++ [fc a1]) _ FM.out (by rw [HM.out]; omega) (lc_lt _ _ _)).mono ?_
          rintro e w7 ⟨om, vom, hom, rfl, hp, hb7⟩
          have HOM : Aside (IsOrd (la a0 k ++ [fc a1]) om ∧ om.length = k + 1) := ⟨hom, by rw [hom.length]; exact HM.out⟩
          have HPM : Aside (PRow w6.heap.size w7 vom om) := hp
          have HB7 : Aside (Below w6.heap.size w6 w7) := hb7
          have hvm : ∃ gm cm, vom = .slice (some ⟨gm, 0, none⟩) (k + 1) cm := by obtain ⟨g, c, h, _⟩ := hp; exact ⟨g, c, by rw [← HOM.out.2]; exact h⟩
          obtain ⟨gm, cm, rfl⟩ := hvm
          clear hom hp hb7
          have HBW : Aside (Below w.heap.size w w7) := below_step (below_step (below_step (below_step HB1.out BW.out) HB4.out) M2.out) HB7.out
          have HPO : Aside (PRow wr.heap.size w7 (.slice (some ⟨go, 0, none⟩) k co) ob) := PRow.below HP4.out (below_step M2.out HB7.out)
          have HCM : Aside (gm < w7.heap.size ∧ ∀ i, i < k + 1 → w7.cell? ⟨gm, i, none⟩ = some (.int .i64 ((om.getD i 0 : Nat) : Int))) := by
            obtain ⟨g2, c2, h, _, h2, h3⟩ := HPM.out
            have hg : gm = g2 := by simpa [Value.ownBlock] using congrArg Value.ownBlock h
            subst hg
            exact ⟨h2, fun i hi => h3 i (by rw [HOM.out.2]; exact hi)⟩
          have HFIN : Aside (rl om k (k + 1) = ob) := by
            show _ = _
            unfold rl
            rw [List.take_of_length_le (by rw [HOM.out.2]; omega)]
            have := less HOM.out.1
            rw [la_len] at this
            exact this.unique HO.out
          clear HB1 BW HB4 M2 HB7 HP4 HPM HM FM M1
          go_wp2
          go_loopg [11, 58] (k + 1) (fun gk vr vi wx => ∃ i : Nat, vi = .int .i64 i ∧ i ≤ k + 1 ∧ k + 1 - i ≤ gk ∧ Aside (wx.ownsRow w7.heap.size 3 1 vr (rl om k i).length ((rl om k i).map fun (x : Nat) => Value.int .i64 (x : Int)) ∧ Below w7.heap.size w7 wx))
          case atStart => exact ⟨0, rfl, by omega, by omega, World.ownsRow_nil _ _ _ _, Below.refl _ _⟩
          case round =>
            obtain ⟨i, rfl, hi, hgi, HR⟩ := hrel
            by_cases hlti : i < k + 1
            · have y1 : (i : Int) < (k : Int) + 1 := by omega
              have hc : wr.cell? ⟨gm, i, none⟩ = some (.int .i64 ((om.getD i 0 : Nat) : Int)) := (HR.out.2.cell HCM.out.1).trans (HCM.out.2 i hlti)
              have hrs := rl_succ om k i (by rw [HOM.out.2]; exact hlti)
              have hsz := HR.out.2.size
              have hrl := rl_le om k i
              obtain ⟨x, hx⟩ : ∃ x, x = om.getD i 0 := ⟨_, rfl⟩
              rw [← hx] at hc hrs
              have HRS : Aside _ := hrs
              clear hx hrs
              by_cases hxk : x = k
              · have y2 : (x : Int) = (k : Int) := by omega
                have y3 : ((x : Int) != (k : Int)) = false := by rw [y2]; simp
                have HXK : Aside (x = k) := hxk
                clear hxk y2
                go_wp2
                go_roundg (k + 1 - (i + 1))
                case measure => omega
                case rel =>
                  refine ⟨i + 1, by go_num, by omega, Nat.le_refl _, ?_, HR.out.2⟩
                  rw [HRS.out, if_pos HXK.out]; exact HR.out.1
              · have y3 : ((x : Int) != (k : Int)) = true := by simpa using (by omega : ¬ (x : Int) = (k : Int))
                have HXK : Aside (¬ x = k) := hxk
                clear hxk
                go_wp2_with (at_builtin; refine app_1 rfl (.tmp 68) (.tmp 73) rfl Try.underlying32 info_int rfl rfl (by decide) w7.heap.size _ (rl om k i).length _ rfl HR.out.1 rfl (by omega) hsz ?_; intro vr' w8 x1 x2 x3; have X1 : Aside _ := x1; have X2 : Aside _ := x2; clear x1 x2 x3)
                go_roundg (k + 1 - (i + 1))
                case measure => omega
                case rel =>
                  refine ⟨i + 1, by go_num, by omega, Nat.le_refl _, ?_, HR.out.2.grown X2.out hsz (fun j hj => (World.ownsRow.lt HR.out.1 j hj).1)⟩
                  rw [HRS.out, if_neg HXK.out, List.map_append, List.length_append]; exact X1.out
            · obtain rfl : i = k + 1 := by omega
              have y1 : ¬ (k : Int) + 1 < (k : Int) + 1 := by omega
              have hnr : NRow wr u11 ob := by rw [← HFIN.out]; exact nrow_own HR.out.1
              have HNR : Aside _ := hnr
              clear hnr
              go_wp2_with fail
              refine (same_any _ _ ob (by rw [HO.out.length, la_len]; omega) _ HNR.out (PRow.below HPO.out HR.out.2).n).mono ?_
              rintro e w9 ⟨rfl, q9, rfl⟩
              go_wp2
              go_ret
              exact ⟨rfl, below_drewN (below_step HBW.out HR.out.2) _⟩
        · go_wp2_with fail
          refine (order_any _ (la a0 k) _ FA.out (by rw [la_len]; omega) (la_lt _ _)).mono ?_
          rintro e w2 ⟨o, vo, ho, rfl, hp, hb2⟩
          have HO : Aside (IsOrd (la a0 k) o) := ho
          have HP : Aside (PRow wr.heap.size w2 vo o) := hp
          have HB2 : Aside (Below wr.heap.size wr w2) := hb2
          have hvo : ∃ go co, vo = .slice (some ⟨go, 0, none⟩) k co := by obtain ⟨g, c, h, _⟩ := hp; exact ⟨g, c, by rw [← la_len a0 k, ← ho.length]; exact h⟩
          obtain ⟨go, co, rfl⟩ := hvo
          clear ho hp hb2
          go_wp2_with fail
          refine (order_any _ (lb a0 k) _ (FRow.below FB.out HB2.out) (by rw [lb_len]; omega) (lb_lt _ _)).mono ?_
          rintro e w3 ⟨ob, vob, hob, rfl, hp, hb3⟩
          obtain rfl := hob.unique (slid HO.out)
          have HP3 : Aside (PRow w2.heap.size w3 vob ob) := hp
          have HB3 : Aside (Below w2.heap.size w2 w3) := hb3
          clear hob hp hb3
          go_wp2_with fail
          refine (same_any _ _ ob (by rw [HO.out.length, la_len]; omega) _ (PRow.below HP.out HB3.out).n (PRow.n HP3.out)).mono ?_
          rintro e w4 ⟨rfl, q, hw4⟩
          have HB4 : Aside (Below wr.heap.size wr w4) := by rw [hw4]; exact below_drewN (below_step HB2.out HB3.out) _
          have HP4 : Aside (PRow wr.heap.size w4 (.slice (some ⟨go, 0, none⟩) k co) ob) := by rw [hw4]; exact PRow.below HP.out (below_drewN HB3.out _)
          clear hw4 HB2 HB3 HP HP3
          have HW0 : Aside ((w4.alloc (.cells #[] 22)).ownsRow w4.heap.size 22 1 (.slice (some ⟨w4.heap.size, 0, none⟩) 0 0) 0 []) := World.ownsRow_lit w4 #[] 0 (Nat.le_refl _) (Nat.zero_le _) rfl
          go_wp2_with (first
            | (go_at_call 25; refine (pick_any _ _ (by omega) (by omega) _).mono ?_; rintro e w' ⟨rfl, rfl⟩)
            | (at_builtin; refine app_gen rfl (.tmp 47) (.tmp 48) rfl Try.underlying34 info_float rfl w4.heap.size _ 0 [] rfl HW0.out ⟨g, 0, none⟩ k ca ((la a0 k).map (Value.float .f64)) rfl (by rw [List.length_map]; exact la_len _ _) (src_cells HG.out HB4.out) (floats_one _) (by unfold maxLen; omega) (by omega) (by simp) ?_; intro v5 w5 m1 m2 _; rw [Nat.zero_add, List.nil_append] at m1; have Z1 : Aside _ := m1; have Z2 : Aside (Below w4.heap.size w4 w5) := ((Below.refl _ _).alloc (Nat.le_refl _) _).grown m2 (by simp) (fun j hj => (World.ownsRow.lt HW0.out j hj).1); have hz5 : w4.heap.size ≤ w5.heap.size := Z2.out.size; clear m1 m2)
            | (at_builtin; refine app_1 rfl (.tmp 49) (.tmp 53) rfl Try.underlying34 info_float rfl rfl (by decide) w4.heap.size _ k _ rfl Z1.out rfl (by omega) hz5 ?_; intro vm w6 m1 m2 m3; have M1 : Aside _ := m1; have M2 : Aside (Below w4.heap.size w4 w6) := Z2.out.grown m2 hz5 (fun j hj => (World.ownsRow.lt Z1.out j hj).1); clear m1 m2 m3))
          have hlc : (la a0 k ++ [fc a1]).length = k + 1 := by rw [List.length_append, la_len]; rfl
          have FM : Aside (FRow w6 vm (la a0 k ++ [fc a1])) := frow_own (n := k + 1) (by rw [List.map_append]; exact M1.out) hlc
          have HM : Aside _ := hlc
          clear hlc
          refine (order_any _ (la a0 k ++ [fc a1]) _ FM.out (by rw [HM.out]; omega) (lc_lt _ _ _)).mono ?_
          rintro e w7 ⟨om, vom, hom, rfl, hp, hb7⟩
          have HOM : Aside (IsOrd (la a0 k ++ [fc a1]) om ∧ om.length = k + 1) := ⟨hom, by rw [hom.length]; exact HM.out⟩
          have HPM : Aside (PRow w6.heap.size w7 vom om) := hp
          have HB7 : Aside (Below w6.heap.size w6 w7) := hb7
          have hvm : ∃ gm cm, vom = .slice (some ⟨gm, 0, none⟩) (k + 1) cm := by obtain ⟨g, c, h, _⟩ := hp; exact ⟨g, c, by rw [← HOM.out.2]; exact h⟩
          obtain ⟨gm, cm, rfl⟩ := hvm
          clear hom hp hb7
          have HBW : Aside (Below w.heap.size w w7) := below_step (below_step (below_step (below_step HB1.out BW.out) HB4.out) M2.out) HB7.out
          have HPO : Aside (PRow wr.heap.size w7 (.slice (some ⟨go, 0, none⟩) k co) ob) := PRow.below HP4.out (below_step M2.out HB7.out)
          have HCM : Aside (gm < w7.heap.size ∧ ∀ i, i < k + 1 → w7.cell? ⟨gm, i, none⟩ = some (.int .i64 ((om.getD i 0 : Nat) : Int))) := by
            obtain ⟨g2, c2, h, _, h2, h3⟩ := HPM.out
            have hg : gm = g2 := by simpa [Value.ownBlock] using congrArg Value.ownBlock h
            subst hg
            exact ⟨h2, fun i hi => h3 i (by rw [HOM.out.2]; exact hi)⟩
          have HFIN : Aside (rl om k (k + 1) = ob) := by
            show _ = _
            unfold rl
            rw [List.take_of_length_le (by rw [HOM.out.2]; omega)]
            have := less HOM.out.1
            rw [la_len] at this
            exact this.unique HO.out
          clear HB1 BW HB4 M2 HB7 HP4 HPM HM FM M1
          go_wp2
          go_loopg [11, 58] (k + 1) (fun gk vr vi wx => ∃ i : Nat, vi = .int .i64 i ∧ i ≤ k + 1 ∧ k + 1 - i ≤ gk ∧ Aside (wx.ownsRow w7.heap.size 3 1 vr (rl om k i).length ((rl om k i).map fun (x : Nat) => Value.int .i64 (x : Int)) ∧ Below w7.heap.size w7 wx))
          case atStart => exact ⟨0, rfl, by omega, by omega, World.ownsRow_nil _ _ _ _, Below.refl _ _⟩
          case round =>
            obtain ⟨i, rfl, hi, hgi, HR⟩ := hrel
            by_cases hlti : i < k + 1
            · have y1 : (i : Int) < (k : Int) + 1 := by omega
              have hc : wr.cell? ⟨gm, i, none⟩ = some (.int .i64 ((om.getD i 0 : Nat) : Int)) := (HR.out.2.cell HCM.out.1).trans (HCM.out.2 i hlti)
              have hrs := rl_succ om k i (by rw [HOM.out.2]; exact hlti)
              have hsz := HR.out.2.size
              have hrl := rl_le om k i
              obtain ⟨x, hx⟩ : ∃ x, x = om.getD i 0 := ⟨_, rfl⟩
              rw [← hx] at hc hrs
              have HRS : Aside _ := hrs
              clear hx hrs
              by_cases hxk : x = k
              · have y2 : (x : Int) = (k : Int) := by omega
                have y3 : ((x : Int) != (k : Int)) = false := by rw [y2]; simp
                have HXK : Aside (x = k) := hxk
                clear hxk y2
                go_wp2
                go_roundg (k + 1 - (i + 1))
                case measure => omega
                case rel =>
                  refine ⟨i + 1, by go_num, by omega, Nat.le_refl _, ?_, HR.out.2⟩
                  rw [HRS.out, if_pos HXK.out]; exact HR.out.1
              · have y3 : ((x : Int) != (k : Int)) = true := by simpa using (by omega : ¬ (x : Int) = (k : Int))
                have HXK : Aside (¬ x = k) := hxk
                clear hxk
                go_wp2_with (at_builtin; refine app_1 rfl (.tmp 68) (.tmp 73) rfl Try.underlying32 info_int rfl rfl (by decide) w7.heap.size _ (rl om k i).length _ rfl HR.out.1 rfl (by omega) hsz ?_; intro vr' w8 x1 x2 x3; have X1 : Aside _ := x1; have X2 : Aside _ := x2; clear x1 x2 x3)
                go_roundg (k + 1 - (i + 1))
                case measure => omega
                case rel =>
                  refine ⟨i + 1, by go_num, by omega, Nat.le_refl _, ?_, HR.out.2.grown X2.out hsz (fun j hj => (World.ownsRow.lt HR.out.1 j hj).1)⟩
                  rw [HRS.out, if_neg HXK.out, List.map_append, List.length_append]; exact X1.out
            · obtain rfl : i = k + 1 := by omega
              have y1 : ¬ (k : Int) + 1 < (k : Int) + 1 := by omega
              have hnr : NRow wr u11 ob := by rw [← HFIN.out]; exact nrow_own HR.out.1
              have HNR : Aside _ := hnr
              clear hnr
              go_wp2_with fail
              refine (same_any _ _ ob (by rw [HO.out.length, la_len]; omega) _ HNR.out (PRow.below HPO.out HR.out.2).n).mono ?_
              rintro e w9 ⟨rfl, q9, rfl⟩
              go_wp2
              go_ret
              exact ⟨rfl, below_drewN (below_step HBW.out HR.out.2) _⟩

set_option maxRecDepth 100000 in
theorem lifted (os : Os) (started : os.Started) (H : Type) (enc : TypeId × Value → H) :
    ReturnsInHanded {} Try.checked os 9 .any (Rows.viewSlidesSpec.pre6 enc Try.prog Try.f9 Rows.viewSlidesRow.domain false) (Rows.viewSlidesSpec.post enc Try.prog Try.f9 false true false false) := by
  refine returnsInHanded_of_change (C := Try.checked) own started (by kernel_rfl) Try.func9
    (ChangeSpec.witness6 (enc := enc) (C := Try.checked) false ⟨#[], #[.slice none 0 0, .int .i64 0], []⟩ 8 (by kernel_rfl) (by kernel_rfl) (by kernel_rfl) (by kernel_rfl)) ?_
  intro W base args ds gs before hval0 hW hcnd _
  have hval : ∀ (j : Nat) t v, Try.f9.params[j]? = some t → args[j]? = some v → Value.okWide Try.prog W .any base t v := hval0
  have hW' := hW
  obtain ⟨p, q, hA0, hV, rfl, hfz, hnd⟩ := hW
  have hA : DataW.TrodAll enc Try.prog W 0 (fun _ => true) true Try.f9.params.toList args.toList ds p := hA0
  rw [Try.params9] at hA hval
  obtain ⟨v0, vs0, d0, ds0, p0, q0, hargs, rfl, rfl, h0, r0⟩ := trodAll_cons hA
  obtain ⟨v1, vs1, d1, ds1, p1, q1, rfl, rfl, rfl, h1, r1⟩ := trodAll_cons r0
  obtain ⟨rfl, rfl, rfl⟩ := trodAll_nil r1
  obtain rfl : args = #[v0, v1] := by cases args; simp_all
  obtain ⟨rfl, rfl⟩ := trodVars_none hV
  obtain ⟨e0, len0, cap0, rfl⟩ := okWide_slice Try.underlying32 (hval 0 32 v0 rfl rfl)
  have k0 := h0
  have lt0 : ∀ x ∈ p0, x.block < W.heap.size := by obtain ⟨m, hm⟩ := k0; exact DataW.trod_lt m _ _ _ hm
  obtain ⟨a0, w0⟩ := came_i Try.underlying32 Try.underlying3 (by kernel_rfl) h0
  obtain ⟨a1, rfl, rfl, rfl, w1⟩ := open_int Try.underlying3 (hval 1 3 v1 rfl rfl) h1
  clear hA0 hval0
  refine (walk _ a0 a1 W w0 w1).mono fun e W' ⟨he, bel⟩ => ?_
  subst he
  exact ⟨_, rfl, _, _, _, [], _, [], hW', trodAll_mk1 (shut_bool Try.underlying4 _), (trodAll_cons_mk (Below.trod laidOut (by kernel_rfl) (of_decide_eq_true (by kernel_rfl)) k0 bel lt0) (trodAll_cons_mk (shut_int Try.underlying3 w1) trodAll_mk0)), rfl, bel.frame _, fun h => by cases h⟩

theorem over : Rows.viewSlidesRow.holds Try.pinned (OpenSpec.ofChange Rows.viewSlidesSpec) :=
  OpenClaim.holds_of_wide 9 Try.f9 rfl rfl rfl rfl rfl rfl rfl ⟨rfl, rfl, rfl, rfl, rfl⟩ rfl rfl rfl rfl rfl (by kernel_rfl) Try.func9 (by kernel_rfl)
    (of_decide_eq_true (by kernel_rfl)) (by unfold Func.isWrapper; first | (rw [if_pos (by decide +kernel)]; kernel_rfl) | (rw [if_neg (by decide +kernel)]; exact ⟨rfl, rfl⟩))
    (fun os started H enc _ => lifted os started H enc)

/-- THE STATEMENT -/
theorem proved : Rows.ViewSlidesSaid := over
end Go.Proofs.Ytpcmeajphfifiaa.viewSlides

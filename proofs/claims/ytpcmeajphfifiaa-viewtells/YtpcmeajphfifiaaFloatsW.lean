/- The laws' 'floats': a list of floats made of raw numbers; one more element at the end of a row that the call itself made. -/
import Derived.Test.YtpcmeajphfifiaaOrderX
import Derived.Test.YtpcmeajphfifiaaHandG
import Derived.Test.YtpcmeajphfifiaaFrame
namespace Go.Proofs.Ytpcmeajphfifiaa
open Go.ChangeShapes Go.WideShapes Go.ChangeAt Go.RowKit Go.Sort Go.Shelf Go.Lib
open Fl (V nn fin rg sg U IsOrd)

theorem info_float : (Try.prog.info? 22).map (fun i => (i.zero, i.size, i.bytes)) = some (some (.float .f64 0), 1, 8) := by kernel_rfl

/-- 'append(out, y)', y just laid in a block of its own -/
theorem app_one {ops : Array Oper} {rest : List Oper} {o : Oper} {a : Act} {Q : Exit → Act → World → Prop} {t e : TypeId} {z y : Value} (wr : World) (hgd : o.guard = none) (s x : Operand)
    (ho : o.op = .call { callee := .builtin .append, args := #[s, x], argTypes := #[t, t] }) (ht : Try.prog.underlying t = some (.slice e))
    (hinfo : (Try.prog.info? e).map (fun i => (i.zero, i.size, i.bytes)) = some (some z, 1, 8)) (hz : z.cells.size = 1) (hy : y.oneCell' = true)
    (base : Nat) (v : Value) (n : Nat) (xs : List Value) (hs : a.eval s = v) (hown : wr.ownsRow base e 1 v n xs) (hx : a.eval x = .slice (some ⟨wr.heap.size, 0, none⟩) 1 1) (hn : n ≤ 1000) (hb : base ≤ wr.heap.size)
    (h : ∀ v' w', w'.ownsRow base e 1 v' (n + 1) (xs ++ [y]) → Below base wr w' → wpList Try.prog ops Q rest (a.put o.dst v') w') :
    wpList Try.prog ops Q (o :: rest) a (wr.alloc (.cells #[y] e)) := by
  obtain ⟨i0, hi, hz0, hz1, hz2⟩ := info_parts hinfo
  refine wpList_append_own _ hgd s x t ho base e i0 z 1 8 ht hi hz0 hz1 hz2 hz (by decide) v n xs hs (hown.alloc _) ⟨wr.heap.size, 0, none⟩ 1 1 [y] hx rfl ?_ ?_ ?_ ?_ ?_ ?_
  · intro j u hj
    match j, hj with
    | 0, hj => simp at hj; subst hj; simp [Addr.add]
    | k + 1, hj => simp at hj
  · intro u hu
    rw [List.mem_singleton] at hu; subst hu; exact hy
  · unfold maxLen; omega
  · omega
  · simp; omega
  · intro v' w' h1 h2 _
    refine h v' w' h1 ?_
    refine Below.grown ((Below.refl base wr).alloc hb _) h2 (by simp; omega) ?_
    intro k hk
    exact (hown.lt k hk).1

def fls (l : List Int) (raw : List Nat) (k : Nat) : List Nat := (List.range k).map fun i => hf (l.getD i 0) (if i < raw.length then raw.getD i 0 else 4602678819172646912)
theorem fls_succ (l : List Int) (raw : List Nat) (k : Nat) : (fls l raw (k + 1)).map (Value.float .f64) = (fls l raw k).map (Value.float .f64) ++ [.float .f64 (hf (l.getD k 0) (if k < raw.length then raw.getD k 0 else 4602678819172646912))] := by
  unfold fls; rw [List.range_succ]; simp
theorem fls_len (l : List Int) (raw : List Nat) (k : Nat) : (fls l raw k).length = k := by simp [fls]
theorem fls_lt (l : List Int) (raw : List Nat) (hr : ∀ n ∈ raw, n < 2 ^ 64) (k j : Nat) : (fls l raw k).getD j 0 < 2 ^ 64 := by
  unfold fls
  rw [List.getD_eq_getElem?_getD, List.getElem?_map]
  rcases Nat.lt_or_ge j k with h | h
  · rw [List.getElem?_range h]
    refine hf_lt _ _ ?_
    split
    · rename_i h2
      rw [List.getD_eq_getElem?_getD, List.getElem?_eq_getElem h2]
      exact hr _ (List.getElem_mem h2)
    · decide
  · rw [List.getElem?_eq_none (by simpa using h)]
    show (0 : Nat) < _; decide

theorem frow_own {w : World} {base : Nat} {e : TypeId} {v : Value} {n : Nat} {ds : List Nat} (h : w.ownsRow base e 1 v n (ds.map (Value.float .f64))) (hl : ds.length = n) : FRow w v ds := by
  rcases h.2 with ⟨rfl, rfl⟩ | ⟨g, cap, cur, rfl, h1, h2, h3, h4, h5, h6⟩
  · exact Or.inl ⟨List.eq_nil_of_length_eq_zero hl, _, _, rfl⟩
  · by_cases h0 : ds = []
    · left
      subst h0
      obtain rfl : n = 0 := by simpa using hl.symm
      exact ⟨rfl, _, _, rfl⟩
    · right
      refine ⟨h0, g, cap, by rw [hl], ?_, fun k hk => ?_⟩
      · exact (h.lt g rfl).2
      · have := World.ownsRow.cellAt h k (by omega)
        rw [this, List.getElem?_map, List.getElem?_eq_getElem hk]
        simp [hk]

set_option maxHeartbeats 4000000 in
set_option maxRecDepth 100000 in
theorem floats_both (ao0 ao1 : Option Addr) (n0 c0 n1 c1 : Nat) (l : List Int) (raw : List Nat) (hl1 : raw.length = n1) (m0 : n0 ≤ 9223372036854775807) (w : World)
    (hc0 : ∀ i, i < n0 → ∃ b o, ao0 = some ⟨b, o, none⟩ ∧ b < w.heap.size ∧ w.cell? ⟨b, o + i, none⟩ = some (.int .i64 (l.getD i 0)))
    (hc1 : ∀ i, i < n1 → ∃ b o, ao1 = some ⟨b, o, none⟩ ∧ b < w.heap.size ∧ w.cell? ⟨b, o + i, none⟩ = some (.float .f64 (raw.getD i 0))) :
    Calls Try.prog 23 #[.slice ao0 n0 c0, .slice ao1 n1 c1] w fun e w' => ∃ v, e = .returned v ∧ w'.ownsRow w.heap.size 22 1 v (min n0 20) ((fls l raw (min n0 20)).map (Value.float .f64)) ∧ Below w.heap.size w w' := by
  have H0 : Aside _ := hc0
  have H1 : Aside _ := hc1
  clear hc0 hc1
  obtain ⟨K, hK⟩ : ∃ K, K = min n0 20 := ⟨_, rfl⟩
  have hK' : Aside (K = min n0 20) := hK
  rw [← hK]
  have hK20 : K ≤ 20 := by omega
  clear hK
  go_enter Try.func23, Try.ntmps23
  go_wp2
  go_loopg [5, 6] K (fun gk vo vi wr => ∃ k : Nat, vi = .int .i64 k ∧ k ≤ K ∧ K - k ≤ gk ∧ Aside (wr.ownsRow w.heap.size 22 1 vo k ((fls l raw k).map (Value.float .f64)) ∧ Below w.heap.size w wr))
  case atStart => exact ⟨0, rfl, by omega, by omega, World.ownsRow_nil _ _ _ _, Below.refl _ _⟩
  case round =>
    obtain ⟨k, rfl, hk, hg, HR⟩ := hrel
    by_cases hlt : k < K
    · have z1 : (k : Int) < (n0 : Int) := by have := hK'.out; omega
      have z2 : (k : Int) < 20 := by omega
      obtain ⟨b0, o0, rfl, lb0, hc0⟩ := H0.out k (by omega)
      have hcell : wr.cell? ⟨b0, o0 + k, none⟩ = some (.int .i64 (l.getD k 0)) := (HR.out.2.cell lb0).trans hc0
      clear hc0 H0
      generalize hLk : l.getD k 0 = Lk at hcell
      have HL : Aside (l.getD k 0 = Lk) := hLk
      clear hLk
      have hown := HR.out.1
      have hbel := HR.out.2
      have hsz := hbel.size
      by_cases hr : k < n1
      · have z3 : (k : Int) < (n1 : Int) := by omega
        obtain ⟨b1, o1, rfl, lb1, hc1⟩ := H1.out k hr
        have hcell2 : wr.cell? ⟨b1, o1 + k, none⟩ = some (.float .f64 (raw.getD k 0)) := (HR.out.2.cell lb1).trans hc1
        clear hc1 H1
        generalize hRk : raw.getD k 0 = Rk at hcell2
        have HRk : Aside (raw.getD k 0 = Rk) := hRk
        have HO : Aside _ := hown
        have HB : Aside _ := hbel
        clear hRk hown hbel
        go_wp2_with (first
          | (go_at_call 19; refine (handg_any _ _ _).mono ?_; rintro e w' ⟨rfl, rfl⟩)
          | (at_builtin; refine app_one _ rfl (.tmp 26) (.tmp 33) rfl Try.underlying34 info_float rfl rfl w.heap.size _ k _ rfl HO.out rfl (by omega) hsz ?_; intro v' w2 hown2 hbel2; have HO2 : Aside _ := hown2; have HB2 : Aside _ := hbel2; clear hown2 hbel2))
        go_roundg (K - (k + 1))
        case measure => omega
        case rel =>
          refine ⟨k + 1, by go_num, by omega, Nat.le_refl _, ?_, HB.out.trans HB2.out⟩
          rw [fls_succ, HL.out, if_pos (by omega), HRk.out]
          exact HO2.out
      · have z3 : ¬ (k : Int) < (n1 : Int) := by omega
        have HO : Aside _ := hown
        have HB : Aside _ := hbel
        clear hown hbel
        go_wp2_with (first
          | (go_at_call 19; refine (handg_any _ _ _).mono ?_; rintro e w' ⟨rfl, rfl⟩)
          | (at_builtin; refine app_one _ rfl (.tmp 26) (.tmp 33) rfl Try.underlying34 info_float rfl rfl w.heap.size _ k _ rfl HO.out rfl (by omega) hsz ?_; intro v' w2 hown2 hbel2; have HO2 : Aside _ := hown2; have HB2 : Aside _ := hbel2; clear hown2 hbel2))
        go_roundg (K - (k + 1))
        case measure => omega
        case rel =>
          refine ⟨k + 1, by go_num, by omega, Nat.le_refl _, ?_, HB.out.trans HB2.out⟩
          rw [fls_succ, HL.out, if_neg (by omega)]
          exact HO2.out
    · obtain rfl : k = K := by omega
      have HF : Aside (¬ ((k : Int) < (n0 : Int) ∧ (k : Int) < 20)) := by have := hK'.out; show ¬ _; omega
      by_cases z1 : (k : Int) < (n0 : Int)
      · have z2 : ¬ (k : Int) < 20 := fun h => HF.out ⟨z1, h⟩
        go_wp2
        go_ret
        exact ⟨_, rfl, HR.out.1, HR.out.2⟩
      · go_wp2
        go_ret
        exact ⟨_, rfl, HR.out.1, HR.out.2⟩

theorem floats_any (s0 s1 : Value) (l : List Int) (raw : List Nat) (w : World) (h0 : CameI .i64 w s0 l) (h1 : CameF w s1 raw) :
    Calls Try.prog 23 #[s0, s1] w fun e w' => ∃ v, e = .returned v ∧ w'.ownsRow w.heap.size 22 1 v (min l.length 20) ((fls l raw (min l.length 20)).map (Value.float .f64)) ∧ Below w.heap.size w w' := by
  obtain ⟨a0, c0, rfl, k1, k2, _, k3⟩ := h0
  obtain ⟨a1, c1, rfl, j1, j2, _, j3⟩ := h1
  unfold maxLen at k2
  refine floats_both a0 a1 _ c0 _ c1 l raw rfl (by omega) w (fun i hi => ?_) (fun i hi => ?_)
  · rcases k3 with rfl | ⟨b, o, rfl, hb, hc⟩
    · simp at hi
    · exact ⟨b, o, rfl, hb, hc i hi⟩
  · rcases j3 with rfl | ⟨b, o, rfl, hb, hc⟩
    · simp at hi
    · exact ⟨b, o, rfl, hb, hc i hi⟩

end Go.Proofs.Ytpcmeajphfifiaa

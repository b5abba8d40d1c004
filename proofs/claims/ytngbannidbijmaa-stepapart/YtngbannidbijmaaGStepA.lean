/- Package step: its small functions. Package step: Legal. Package step: First. Package step: Right. Package step: input and room. -/
import Derived.Test.YtngbannidbijmaaStepV
import Derived.StillTailTactics
namespace Go.Proofs.Ytngbannidbijmaa
open Go.RowKit
set_option linter.unusedVariables false
set_option linter.unusedSimpArgs false

/-- numbers that are read -/
def RdN (B : Nat) (w : World) (v : Value) (l : List Int) : Prop := ∃ a cap, v = .slice a l.length cap ∧ l.length ≤ cap ∧ cap ≤ 9223372036854775807 ∧ (l = [] ∨ ∃ b off, a = some ⟨b, off, none⟩ ∧ b < B ∧ b < w.heap.size ∧ ∀ i, i < l.length → w.cell? ⟨b, off + i, none⟩ = some (.int .i64 (l.getD i 0)))
theorem RdN.only {B : Nat} {w w' : World} {v : Value} {l : List Int} {S : List Nat} (h : RdN B w v l) (o : Only S w w') (hS : ∀ g ∈ S, B ≤ g) : RdN B w' v l := by
  obtain ⟨a, cap, rfl, h1, h2, h⟩ := h
  refine ⟨a, cap, rfl, h1, h2, ?_⟩
  rcases h with h | ⟨b, off, rfl, hB, hb, hc⟩
  · exact Or.inl h
  · have hn : b ∉ S := fun hm => by have := hS b hm; omega
    exact Or.inr ⟨b, off, rfl, hB, Nat.lt_of_lt_of_le hb o.size, fun i hi => (o.cell (p := ⟨b, off + i, none⟩) hb hn).trans (hc i hi)⟩
theorem RdN.lower {B B' : Nat} {w : World} {v : Value} {l : List Int} (h : RdN B w v l) (hb : B ≤ B') : RdN B' w v l := by
  obtain ⟨a, cap, rfl, h1, h2, h⟩ := h
  refine ⟨a, cap, rfl, h1, h2, ?_⟩
  rcases h with h | ⟨b, off, rfl, hB, h⟩
  · exact Or.inl h
  · exact Or.inr ⟨b, off, rfl, Nat.lt_of_lt_of_le hB hb, h⟩
/-- a row of cells that is read -/
def RdC (B : Nat) (w : World) (v : Value) (l : List Cl) : Prop := ∃ a cap, v = .slice a l.length cap ∧ l.length ≤ cap ∧ cap ≤ 9223372036854775807 ∧ (l = [] ∨ ∃ b off, a = some ⟨b, off, none⟩ ∧ b < B ∧ b < w.heap.size ∧ ∀ i, i < l.length → ∀ j v, ((l.getD i ⟨false, ⟨0, 0, 0⟩⟩).cells)[j]? = some v → w.cell? ⟨b, off + i * 4 + j, none⟩ = some v)
theorem RdC.only {B : Nat} {w w' : World} {v : Value} {l : List Cl} {S : List Nat} (h : RdC B w v l) (o : Only S w w') (hS : ∀ g ∈ S, B ≤ g) : RdC B w' v l := by
  obtain ⟨a, cap, rfl, h1, h2, h⟩ := h
  refine ⟨a, cap, rfl, h1, h2, ?_⟩
  rcases h with h | ⟨b, off, rfl, hB, hb, hc⟩
  · exact Or.inl h
  · have hn : b ∉ S := fun hm => by have := hS b hm; omega
    exact Or.inr ⟨b, off, rfl, hB, Nat.lt_of_lt_of_le hb o.size, fun i hi j v hj => (o.cell (p := ⟨b, off + i * 4 + j, none⟩) hb hn).trans (hc i hi j v hj)⟩
theorem RdC.lower {B B' : Nat} {w : World} {v : Value} {l : List Cl} (h : RdC B w v l) (hb : B ≤ B') : RdC B' w v l := by
  obtain ⟨a, cap, rfl, h1, h2, h⟩ := h
  refine ⟨a, cap, rfl, h1, h2, ?_⟩
  rcases h with h | ⟨b, off, rfl, hB, h⟩
  · exact Or.inl h
  · exact Or.inr ⟨b, off, rfl, Nat.lt_of_lt_of_le hB hb, h⟩
theorem sbetween_any (n lo hi : Int) (w : World) : Calls Try.prog 32 #[.int .i64 n, .int .i64 lo, .int .i64 hi] w fun e w' => e = .returned (.bool (Body.btw n lo hi)) ∧ w' = w := by
  by_cases h : lo ≤ n
  · have e : Body.btw n lo hi = decide (n ≤ hi) := by simp [Body.btw, h]
    rw [e]
    go_enter Try.func32, Try.ntmps32
    go_wp2_with fail
    go_ret
    exact ⟨rfl, rfl⟩
  · have e : Body.btw n lo hi = false := by simp [Body.btw, h]
    rw [e]
    go_enter Try.func32, Try.ntmps32
    go_wp2_with fail
    go_ret
    exact ⟨rfl, rfl⟩
theorem swithin_any (n lo hi : Int) (w : World) : Calls Try.prog 76 #[.int .i64 n, .int .i64 lo, .int .i64 hi] w fun e w' => e = .returned (.int .i64 (Body.within n lo hi)) ∧ w' = w := by
  unfold Body.within
  by_cases h : n ≤ hi
  · by_cases h2 : lo < n
    · rw [if_pos h, if_pos h2]
      go_enter Try.func76, Try.ntmps76
      go_wp2_with fail
      go_ret
      exact ⟨rfl, rfl⟩
    · rw [if_pos h, if_neg h2]
      go_enter Try.func76, Try.ntmps76
      go_wp2_with fail
      go_ret
      exact ⟨rfl, rfl⟩
  · by_cases h2 : lo < hi
    · rw [if_neg h, if_pos h2]
      go_enter Try.func76, Try.ntmps76
      go_wp2_with fail
      go_ret
      exact ⟨rfl, rfl⟩
    · rw [if_neg h, if_neg h2]
      go_enter Try.func76, Try.ntmps76
      go_wp2_with fail
      go_ret
      exact ⟨rfl, rfl⟩

theorem israte_any (x : Nat) (w : World) : Calls Try.prog 33 #[.float .f64 x] w fun e w' => e = .returned (.bool (Step.rate x)) ∧ w' = w := by
  obtain ⟨a, ha⟩ : ∃ a, Step.geF x 0 = a := ⟨_, rfl⟩
  obtain ⟨b, hb⟩ : ∃ b, Step.leF x 9218868437227405311 = b := ⟨_, rfl⟩
  have e : Step.rate x = (a && b) := by unfold Step.rate; rw [ha, hb]
  rw [e]
  clear e
  unfold Step.geF at ha
  unfold Step.leF at hb
  cases a
  · go_enter Try.func33, Try.ntmps33
    go_wp2_with fail
    go_ret
    exact ⟨rfl, rfl⟩
  · go_enter Try.func33, Try.ntmps33
    go_wp2_with fail
    go_ret
    exact ⟨rfl, rfl⟩
theorem isdepth_any (x : Nat) (w : World) : Calls Try.prog 34 #[.float .f64 x] w fun e w' => e = .returned (.bool (Step.depth x)) ∧ w' = w := by
  obtain ⟨a, ha⟩ : ∃ a, Step.geF x 4607182418800017408 = a := ⟨_, rfl⟩
  obtain ⟨b, hb⟩ : ∃ b, Step.leF x 4652007308841189376 = b := ⟨_, rfl⟩
  have e : Step.depth x = (a && b) := by unfold Step.depth; rw [ha, hb]
  rw [e]
  clear e
  unfold Step.geF at ha
  unfold Step.leF at hb
  cases a
  · go_enter Try.func34, Try.ntmps34
    go_wp2_with fail
    go_ret
    exact ⟨rfl, rfl⟩
  · go_enter Try.func34, Try.ntmps34
    go_wp2_with fail
    go_ret
    exact ⟨rfl, rfl⟩
/-- where a number is among the first k -/
def Ix (l : List Int) (k : Nat) (m i : Int) : Prop := decide (0 ≤ i) = (l.take k).contains m
set_option maxRecDepth 100000 in
/-- is the number among the first k? -/
theorem sindex_any {B : Nat} {w : World} {a : Option Addr} {cap : Nat} {l : List Int} (h : RdN B w (.slice a l.length cap) l) (hn : l.length ≤ 1000000) (k c : Nat) (hk : k ≤ l.length) (m : Int) : Calls Try.prog 81 #[.slice a k c, .int .i64 m] w fun e w' => (∃ i : Int, e = .returned (.int .i64 i) ∧ Ix l k m i) ∧ w' = w := by
  obtain ⟨n, hN⟩ : ∃ n, l.length = n := ⟨_, rfl⟩
  have HN : Hid _ := hN
  rw [hN] at hn hk h
  have HR : Hid (RdN B w (.slice a n cap) l) := h
  clear hN h
  go_enter Try.func81, Try.ntmps81
  go_wp2_with fail
  go_loopg [8] (k + 1) (fun gk vi wr => ∃ i : Nat, vi = .int .i64 i ∧ i ≤ k ∧ k + 1 - i ≤ gk ∧ Hid (wr = w ∧ ∀ j, j < i → ¬ l.getD j 0 = m))
  case atStart => exact ⟨0, rfl, by omega, by omega, rfl, fun j hj => by omega⟩
  case round =>
    obtain ⟨i, rfl, hin, hg, HH⟩ := hrel
    obtain rfl := HH.out.1
    by_cases hlt : i < k
    rotate_left
    · have z1 : ¬ (i : Int) < (k : Int) := by omega
      go_wp2_with fail
      go_ret
      refine ⟨⟨-1, rfl, ?_⟩, rfl⟩
      show decide ((0 : Int) ≤ -1) = (l.take k).contains m
      rw [show decide ((0 : Int) ≤ -1) = false from rfl]
      symm
      rw [Bool.eq_false_iff, Ne, List.contains_iff_mem]
      intro hm
      obtain ⟨j, hj, e⟩ := List.mem_iff_getElem.1 hm
      rw [List.length_take] at hj
      refine HH.out.2 j (by omega) ?_
      rw [List.getElem_take] at e
      rw [List.getD_eq_getElem?_getD, List.getElem?_eq_getElem (by omega)]
      exact e
    · have z0 : (0 : Int) ≤ (i : Int) := by omega
      have z1 : (i : Int) < (k : Int) := by omega
      obtain ⟨oa', oc', e1, -, -, hr⟩ := HR.out
      injection e1 with e1 e2 e3
      subst e1 e3
      rcases hr with hr | ⟨b, off, e4, -, hb, hc⟩
      · have := HN.out; rw [hr] at this; simp at this; omega
      subst e4
      have c1 := hc i (by rw [HN.out]; omega)
      obtain ⟨o, ho⟩ : ∃ o, l.getD i 0 = o := ⟨_, rfl⟩
      have HO : Hid _ := ho
      rw [ho] at c1
      clear hc ho
      by_cases q : m = o
      · have HQ : Hid _ := q
        subst q
        go_wp2_with fail
        go_ret
        refine ⟨⟨i, rfl, ?_⟩, rfl⟩
        show decide ((0 : Int) ≤ (i : Int)) = (l.take k).contains m
        rw [show decide ((0 : Int) ≤ (i : Int)) = true by simp]
        symm
        rw [List.contains_iff_mem, ← HO.out]
        have hl : i < l.length := by rw [HN.out]; omega
        rw [List.getD_eq_getElem?_getD, List.getElem?_eq_getElem hl]
        exact List.mem_iff_getElem.2 ⟨i, by rw [List.length_take]; omega, List.getElem_take ..⟩
      · go_wp2_with fail
        go_roundg (k - i)
        case measure => omega
        case rel =>
          refine ⟨i + 1, by go_num, by omega, by omega, rfl, fun j hj => ?_⟩
          rcases Nat.lt_or_ge j i with h | h
          · exact HH.out.2 j h
          · have : j = i := by omega
            subst this
            rw [HO.out]; exact fun e => q e.symm
theorem contains_any {B : Nat} {w : World} {a : Option Addr} {cap : Nat} {l : List Int} (h : RdN B w (.slice a l.length cap) l) (hn : l.length ≤ 1000000) (k c : Nat) (hk : k ≤ l.length) (m : Int) : Calls Try.prog 60 #[.slice a k c, .int .i64 m] w fun e w' => e = .returned (.bool ((l.take k).contains m)) ∧ w' = w := by
  have X := sindex_any h hn k c hk m
  clear h hn hk
  go_enter Try.func60, Try.ntmps60
  go_wp2_with fail
  refine X.mono ?_
  rintro e w' ⟨⟨i, rfl, hi⟩, rfl⟩
  by_cases hz : 0 ≤ i
  · have e1 : Hid ((l.take k).contains m = true) := by show _ = _; rw [← hi]; simpa using hz
    clear hi
    go_wp2_with fail
    go_ret
    exact ⟨by rw [e1.out]; rfl, rfl⟩
  · have e1 : Hid ((l.take k).contains m = false) := by show _ = _; rw [← hi]; simpa using hz
    clear hi
    go_wp2_with fail
    go_ret
    exact ⟨by rw [e1.out]; simp [hz], rfl⟩
theorem tokens_mono {l : List Int} {n : Nat} (h : Step.tokens l n = true) : ∀ {i : Nat}, i ≤ n → Step.tokens l i = true := by
  induction n with
  | zero => intro i hi; have : i = 0 := by omega
            subst this; rfl
  | succ n ih =>
    intro i hi
    rcases Nat.lt_or_ge i (n + 1) with g | g
    · rw [Step.tokens, Bool.and_eq_true] at h
      exact ih h.1 (by omega)
    · have : i = n + 1 := by omega
      subst this; exact h
set_option maxRecDepth 100000 in
theorem tokens_any {B : Nat} {w : World} {v : Value} {l : List Int} (h : RdN B w v l) (hn : l.length ≤ 1000000) : Calls Try.prog 36 #[v] w fun e w' => e = .returned (.bool (Step.tokens l l.length)) ∧ w' = w := by
  have hnot : ∀ (x : Bool) (w : World), (Op.unary .not (.bool x)).run Try.prog w = .ok (.bool (!x)) w := fun _ _ => rfl
  obtain ⟨a, cap, rfl, hcap, hcm, -⟩ := id h
  obtain ⟨n, hN⟩ : ∃ n, l.length = n := ⟨_, rfl⟩
  have HN : Hid _ := hN
  have HR : Hid _ := h
  simp only [hN] at hn hcap ⊢
  clear hN h
  go_enter Try.func36, Try.ntmps36
  go_wp2_with fail
  go_loopg [7] (n + 1) (fun gk vi wr => ∃ i : Nat, vi = .int .i64 i ∧ i ≤ n ∧ n + 1 - i ≤ gk ∧ Hid (wr = w ∧ Step.tokens l i = true))
  case atStart => exact ⟨0, rfl, by omega, by omega, rfl, rfl⟩
  case round =>
    obtain ⟨i, rfl, hin, hg, HH⟩ := hrel
    obtain rfl := HH.out.1
    by_cases hlt : i < n
    rotate_left
    · have z1 : ¬ (i : Int) < (n : Int) := by omega
      go_wp2_with fail
      go_ret
      have : i = n := by omega
      subst this
      exact ⟨by rw [HH.out.2]; rfl, rfl⟩
    · have z0 : (0 : Int) ≤ (i : Int) := by omega
      have z1 : (i : Int) < (n : Int) := by omega
      have z2 : (i : Int) ≤ (cap : Int) := by omega
      obtain ⟨oa', oc', e1, -, -, hr⟩ := id HR.out
      injection e1 with e1 e2 e3
      subst e1 e3
      rcases hr with hr | ⟨b, off, e4, -, hb, hc⟩
      · have := HN.out; rw [hr] at this; simp at this; omega
      subst e4
      have c1 := hc i (by rw [HN.out]; exact hlt)
      obtain ⟨o, ho⟩ : ∃ o, l.getD i 0 = o := ⟨_, rfl⟩
      have HO : Hid _ := ho
      rw [ho] at c1
      clear hc ho
      have no : Step.tokens l (i + 1) = false → Step.tokens l n = false := fun h => by
        rw [Bool.eq_false_iff]
        intro h2
        rw [tokens_mono h2 (show i + 1 ≤ n by omega)] at h
        cases h
      have next : Hid (Step.tokens l (i + 1) = (Body.btw o 0 2147483646 && !((l.take i).contains o))) := by
        show Step.tokens l (i + 1) = _
        rw [Step.tokens, HH.out.2, HO.out, Bool.true_and]
      have NO : Hid _ := no
      clear no
      go_wp2_with fail
      refine (sbetween_any _ _ _ _).mono ?_
      rintro e w' ⟨rfl, rfl⟩
      obtain ⟨q, hq⟩ : ∃ q, Body.btw o 0 2147483646 = q := ⟨_, rfl⟩
      rw [hq] at next ⊢
      clear hq
      cases q
      · go_wp2_with fail
        go_ret
        exact ⟨by rw [NO.out (by rw [next.out]; rfl)]; rfl, rfl⟩
      go_wp2_with fail
      refine (contains_any HR.out (by rw [HN.out]; exact hn) i _ (by rw [HN.out]; omega) o).mono ?_
      rintro e w' ⟨rfl, rfl⟩
      obtain ⟨q, hq⟩ : ∃ q, (l.take i).contains o = q := ⟨_, rfl⟩
      rw [hq] at next ⊢
      clear hq
      cases q
      · go_wp2_with fail
        go_roundg (n - i)
        case measure => omega
        case rel => exact ⟨i + 1, by go_num, by omega, by omega, rfl, next.out⟩
      · go_wp2_with fail
        go_ret
        exact ⟨by rw [NO.out (by rw [next.out]; rfl)]; rfl, rfl⟩
set_option maxRecDepth 100000 in
theorem mayStand_any (b : Bd) (k : Nat) (pl : Int) (w : World) : Calls Try.prog 37 #[b.v, .int .i64 (k : Nat), .int .i64 pl] w fun e w' => e = .returned (.bool (Step.may b k pl)) ∧ Only [] w w' := by
  have H0 : Hid (Bl (w.alloc (.cells #[.int .i64 b.k, .int .i64 b.o, .int .i64 b.x, .int .i64 b.y, .int .i64 b.vx, .int .i64 b.vy, .int .i64 b.age, .int .i64 b.m0, .int .i64 b.m1, .int .i64 b.m2, .int .i64 b.m3, .int .i64 b.f] 33)) w.heap.size b ∧ Only [] w (w.alloc (.cells #[.int .i64 b.k, .int .i64 b.o, .int .i64 b.x, .int .i64 b.y, .int .i64 b.vx, .int .i64 b.vy, .int .i64 b.age, .int .i64 b.m0, .int .i64 b.m1, .int .i64 b.m2, .int .i64 b.m3, .int .i64 b.f] 33))) := ⟨Bl.new _ _ _, (Only.refl [] _).alloc _⟩
  obtain ⟨n, hn⟩ : ∃ n, w.heap.size = n := ⟨_, rfl⟩
  go_enter Try.func37, Try.ntmps37
  go_upto_region 1 with fail
  change Code.wp _ _ _ _ (w.alloc (.cells #[.int .i64 b.k, .int .i64 b.o, .int .i64 b.x, .int .i64 b.y, .int .i64 b.vx, .int .i64 b.vy, .int .i64 b.age, .int .i64 b.m0, .int .i64 b.m1, .int .i64 b.m2, .int .i64 b.m3, .int .i64 b.f] 33))
  simp only [hn] at H0 ⊢
  generalize w.alloc (.cells #[.int .i64 b.k, .int .i64 b.o, .int .i64 b.x, .int .i64 b.y, .int .i64 b.vx, .int .i64 b.vy, .int .i64 b.age, .int .i64 b.m0, .int .i64 b.m1, .int .i64 b.m2, .int .i64 b.m3, .int .i64 b.f] 33) = w1 at *
  have c0 := H0.out.1.all.1
  have c1 := H0.out.1.all.2.1
  clear hn
  by_cases p : (k : Int) < pl
  · have e : Step.may b k pl = (b.k == 1 && b.o == (k : Int)) := by unfold Step.may; rw [if_pos p]
    by_cases q : b.k = 1
    · by_cases r : b.o = (k : Int)
      · have E : Hid (Step.may b k pl = true) := by show _ = _; rw [e]; simp [q, r]
        clear e
        go_wp2_with fail
        go_ret
        exact ⟨by rw [E.out]; first | rfl | (simp [r]; done) | (simp [q]; done), H0.out.2⟩
      · have E : Hid (Step.may b k pl = false) := by show _ = _; rw [e]; simp [r]
        clear e
        go_wp2_with fail
        go_ret
        exact ⟨by rw [E.out]; first | rfl | (simp [r]; done) | (simp [q]; done), H0.out.2⟩
    · have E : Hid (Step.may b k pl = false) := by show _ = _; rw [e]; simp [q]
      clear e
      go_wp2_with fail
      go_ret
      exact ⟨by rw [E.out]; first | rfl | (simp [r]; done) | (simp [q]; done), H0.out.2⟩
  · have e : Step.may b k pl = (b.k == 0 || (b.k == 2 && decide (b.o < pl))) := by unfold Step.may; rw [if_neg p]
    by_cases q : b.k = 0
    · have E : Hid (Step.may b k pl = true) := by show _ = _; rw [e]; simp [q]
      clear e
      go_wp2_with fail
      go_ret
      exact ⟨by rw [E.out]; first | rfl | (simp [r]; done) | (simp [q]; done), H0.out.2⟩
    · by_cases r : b.k = 2
      · by_cases t : b.o < pl
        · have E : Hid (Step.may b k pl = true) := by show _ = _; rw [e]; simp [r, t]
          clear e
          go_wp2_with fail
          go_ret
          exact ⟨by rw [E.out]; first | rfl | (simp [r]; done) | (simp [q]; done), H0.out.2⟩
        · have E : Hid (Step.may b k pl = false) := by show _ = _; rw [e]; simp [r, t]
          clear e
          go_wp2_with fail
          go_ret
          exact ⟨by rw [E.out]; first | rfl | (simp [r]; done) | (simp [q]; done), H0.out.2⟩
      · have E : Hid (Step.may b k pl = false) := by show _ = _; rw [e]; simp [q, r]
        clear e
        go_wp2_with fail
        go_ret
        exact ⟨by rw [E.out]; first | rfl | (simp [r]; done) | (simp [q]; done), H0.out.2⟩
end Go.Proofs.Ytngbannidbijmaa
namespace Go.Proofs.Ytngbannidbijmaa
open Go.RowKit
set_option linter.unusedVariables false

/-- a config in a block of its own -/
structure Cb (w : World) (p : Nat) (c : Cf) (rv tv : Value) : Prop where
  blk : Blk w p (c.cells rv tv)
theorem Cb.only {w w' : World} {p : Nat} {c : Cf} {rv tv : Value} {S : List Nat} (h : Cb w p c rv tv) (o : Only S w w') (hn : p ∉ S) : Cb w' p c rv tv := ⟨h.blk.only o hn⟩
theorem Cb.new (c : Cf) (rv tv : Value) (w : World) (t : TypeId) : Cb (w.alloc (.cells #[.int .i64 c.pl, .int .i64 c.pe, .int .i64 c.gr, .int .i64 c.st, .int .i64 c.fr, .int .i64 c.sd, .float .f64 c.ra, .float .f64 c.de, rv, tv] t)) w.heap.size c rv tv := ⟨Blk.new w _ _⟩
/-- what a config has may be read -/
structure Rd (B : Nat) (w : World) (c : Cf) (rv tv : Value) : Prop where
  r : RdO B w rv c.rules
  t : RdN B w tv c.toks
  lr : c.rules.length ≤ 1000000
  lt : c.toks.length ≤ 1000000
theorem Rd.only {B : Nat} {w w' : World} {c : Cf} {rv tv : Value} {S : List Nat} (h : Rd B w c rv tv) (o : Only S w w') (hS : ∀ g ∈ S, B ≤ g) : Rd B w' c rv tv := ⟨h.r.only o hS, h.t.only o hS, h.lr, h.lt⟩
set_option maxRecDepth 100000 in
set_option maxHeartbeats 2000000 in
theorem legal_any {B : Nat} {w : World} {rv tv : Value} (c : Cf) (h : Rd B w c rv tv) : Calls Try.prog 16 #[c.v rv tv] w fun e w' => e = .returned (.bool (Step.legal c)) ∧ Only [] w w' := by
  obtain ⟨ta, tc, hte, -, -, -⟩ := id h.t
  obtain ⟨tn, htn⟩ : ∃ n, c.toks.length = n := ⟨_, rfl⟩
  have TN : Hid _ := htn
  rw [htn] at hte
  subst hte
  have H0 : Hid (Cb (w.alloc (.cells #[.int .i64 c.pl, .int .i64 c.pe, .int .i64 c.gr, .int .i64 c.st, .int .i64 c.fr, .int .i64 c.sd, .float .f64 c.ra, .float .f64 c.de, rv, .slice ta tn tc] 28)) w.heap.size c rv (.slice ta tn tc) ∧ Only [] w (w.alloc (.cells #[.int .i64 c.pl, .int .i64 c.pe, .int .i64 c.gr, .int .i64 c.st, .int .i64 c.fr, .int .i64 c.sd, .float .f64 c.ra, .float .f64 c.de, rv, .slice ta tn tc] 28)) ∧ Rd B (w.alloc (.cells #[.int .i64 c.pl, .int .i64 c.pe, .int .i64 c.gr, .int .i64 c.st, .int .i64 c.fr, .int .i64 c.sd, .float .f64 c.ra, .float .f64 c.de, rv, .slice ta tn tc] 28)) c rv (.slice ta tn tc)) := ⟨Cb.new _ _ _ _ _, (Only.refl [] _).alloc _, h.only ((Only.refl [] _).alloc _) (by simp)⟩
  obtain ⟨n, hn⟩ : ∃ n, w.heap.size = n := ⟨_, rfl⟩
  obtain ⟨q0, h0⟩ : ∃ q, Body.btw c.pl 1 8 = q := ⟨_, rfl⟩
  obtain ⟨q1, h1⟩ : ∃ q, Body.btw c.pe 1 8 = q := ⟨_, rfl⟩
  obtain ⟨q2, h2⟩ : ∃ q, Body.btw c.gr 0 60 = q := ⟨_, rfl⟩
  obtain ⟨q3, h3⟩ : ∃ q, Body.btw c.st 0 100 = q := ⟨_, rfl⟩
  obtain ⟨q4, h4⟩ : ∃ q, Body.btw c.fr 1 600 = q := ⟨_, rfl⟩
  obtain ⟨q5, h5⟩ : ∃ q, Body.btw c.sd 0 2147483647 = q := ⟨_, rfl⟩
  obtain ⟨q6, h6⟩ : ∃ q, Step.rate c.ra = q := ⟨_, rfl⟩
  obtain ⟨q7, h7⟩ : ∃ q, Step.depth c.de = q := ⟨_, rfl⟩
  obtain ⟨q8, h8⟩ : ∃ q, Rule.right c.rules = q := ⟨_, rfl⟩
  obtain ⟨q9, h9⟩ : ∃ q, decide ((tn : Int) = c.pl) = q := ⟨_, rfl⟩
  obtain ⟨q10, h10⟩ : ∃ q, Step.tokens c.toks tn = q := ⟨_, rfl⟩
  have LEG : Hid (Step.legal c = (q0 && (q1 && (q2 && (q3 && (q4 && (q5 && (q6 && (q7 && (q8 && (q9 && q10))))))))))) := by
    show _ = _
    unfold Step.legal
    rw [htn, h0, h1, h2, h3, h4, h5, h6, h7, h8, h9, h10]
  clear h htn
  go_enter Try.func16, Try.ntmps16
  go_upto_region 1 with fail
  change Code.wp _ _ _ _ (w.alloc (.cells #[.int .i64 c.pl, .int .i64 c.pe, .int .i64 c.gr, .int .i64 c.st, .int .i64 c.fr, .int .i64 c.sd, .float .f64 c.ra, .float .f64 c.de, rv, .slice ta tn tc] 28))
  simp only [hn] at H0 ⊢
  generalize w.alloc (.cells #[.int .i64 c.pl, .int .i64 c.pe, .int .i64 c.gr, .int .i64 c.st, .int .i64 c.fr, .int .i64 c.sd, .float .f64 c.ra, .float .f64 c.de, rv, .slice ta tn tc] 28) = w1 at *
  clear hn
  have c0 : w1.cell? ⟨n, 0, none⟩ = some (.int .i64 c.pl) := H0.out.1.blk.cell 0
  have c1 : w1.cell? ⟨n, 1, none⟩ = some (.int .i64 c.pe) := H0.out.1.blk.cell 1
  have c2 : w1.cell? ⟨n, 2, none⟩ = some (.int .i64 c.gr) := H0.out.1.blk.cell 2
  have c3 : w1.cell? ⟨n, 3, none⟩ = some (.int .i64 c.st) := H0.out.1.blk.cell 3
  have c4 : w1.cell? ⟨n, 4, none⟩ = some (.int .i64 c.fr) := H0.out.1.blk.cell 4
  have c5 : w1.cell? ⟨n, 5, none⟩ = some (.int .i64 c.sd) := H0.out.1.blk.cell 5
  have c6 : w1.cell? ⟨n, 6, none⟩ = some (.float .f64 c.ra) := H0.out.1.blk.cell 6
  have c7 : w1.cell? ⟨n, 7, none⟩ = some (.float .f64 c.de) := H0.out.1.blk.cell 7
  have c8 : w1.cell? ⟨n, 8, none⟩ = some (rv) := H0.out.1.blk.cell 8
  have c9 : w1.cell? ⟨n, 9, none⟩ = some (.slice ta tn tc) := H0.out.1.blk.cell 9
  go_wp2_with fail
  refine (sbetween_any _ _ _ _).mono ?_
  rintro e w' ⟨rfl, rfl⟩
  rw [h0]
  cases q0
  · go_wp2_with fail
    go_ret
    exact ⟨by rw [LEG.out]; rfl, H0.out.2.1⟩
  go_wp2_with fail
  refine (sbetween_any _ _ _ _).mono ?_
  rintro e w' ⟨rfl, rfl⟩
  rw [h1]
  cases q1
  · go_wp2_with fail
    go_ret
    exact ⟨by rw [LEG.out]; rfl, H0.out.2.1⟩
  go_wp2_with fail
  refine (sbetween_any _ _ _ _).mono ?_
  rintro e w' ⟨rfl, rfl⟩
  rw [h2]
  cases q2
  · go_wp2_with fail
    go_ret
    exact ⟨by rw [LEG.out]; rfl, H0.out.2.1⟩
  go_wp2_with fail
  refine (sbetween_any _ _ _ _).mono ?_
  rintro e w' ⟨rfl, rfl⟩
  rw [h3]
  cases q3
  · go_wp2_with fail
    go_ret
    exact ⟨by rw [LEG.out]; rfl, H0.out.2.1⟩
  go_wp2_with fail
  refine (sbetween_any _ _ _ _).mono ?_
  rintro e w' ⟨rfl, rfl⟩
  rw [h4]
  cases q4
  · go_wp2_with fail
    go_ret
    exact ⟨by rw [LEG.out]; rfl, H0.out.2.1⟩
  go_wp2_with fail
  refine (sbetween_any _ _ _ _).mono ?_
  rintro e w' ⟨rfl, rfl⟩
  rw [h5]
  cases q5
  · go_wp2_with fail
    go_ret
    exact ⟨by rw [LEG.out]; rfl, H0.out.2.1⟩
  go_wp2_with fail
  refine (israte_any _ _).mono ?_
  rintro e w' ⟨rfl, rfl⟩
  rw [h6]
  cases q6
  · go_wp2_with fail
    go_ret
    exact ⟨by rw [LEG.out]; rfl, H0.out.2.1⟩
  go_wp2_with fail
  refine (isdepth_any _ _).mono ?_
  rintro e w' ⟨rfl, rfl⟩
  rw [h7]
  cases q7
  · go_wp2_with fail
    go_ret
    exact ⟨by rw [LEG.out]; rfl, H0.out.2.1⟩
  go_wp2_with fail
  refine (right_any' H0.out.2.2.r H0.out.2.2.lr).mono ?_
  rintro e w2 ⟨rfl, o2⟩
  rw [h8]
  have H2 : Hid (Cb w2 n c rv (.slice ta tn tc) ∧ Only [] w w2 ∧ Rd B w2 c rv (.slice ta tn tc)) := ⟨H0.out.1.only o2 (by simp), H0.out.2.1.trans o2, H0.out.2.2.only o2 (by simp)⟩
  clear o2 H0 c0 c1 c2 c3 c4 c5 c6 c7 c8 c9
  have c0 : w2.cell? ⟨n, 0, none⟩ = some (.int .i64 c.pl) := H2.out.1.blk.cell 0
  have c9 : w2.cell? ⟨n, 9, none⟩ = some (.slice ta tn tc) := H2.out.1.blk.cell 9
  cases q8
  · go_wp2_with fail
    go_ret
    exact ⟨by rw [LEG.out]; rfl, H2.out.2.1⟩
  cases q9
  · have z : ¬ (tn : Int) = c.pl := by simpa using h9
    go_wp2_with fail
    go_ret
    exact ⟨by rw [LEG.out]; first | rfl | simp [z], H2.out.2.1⟩
  have z : (tn : Int) = c.pl := by simpa using h9
  have z2 : ((tn : Int) == c.pl) = true := by simpa using z
  clear z h9
  go_wp2_with fail
  refine (tokens_any H2.out.2.2.t H2.out.2.2.lt).mono ?_
  rintro e w3 ⟨rfl, rfl⟩
  rw [TN.out, h10]
  go_wp2_with fail
  go_ret
  exact ⟨by rw [LEG.out]; cases q10 <;> rfl, H2.out.2.1⟩
end Go.Proofs.Ytngbannidbijmaa
namespace Go.Proofs.Ytngbannidbijmaa
open Go.RowKit
set_option linter.unusedVariables false
set_option linter.unusedSimpArgs false

section
variable {w : World} {ops : Array Oper} {rest : List Oper} {o : Oper} {act : Act} {Q : Exit → Act → World → Prop} {p : Nat}
theorem Gs.set_body0 (s : Gs) (h : Step.Wf s) {i : Nat} (hi : i < 16) (b : Bd) : s.cells.take (2 + i * 12) ++ b.cells ++ s.cells.drop (2 + i * 12 + b.cells.length) = { s with bs := s.bs.set i b }.cells := by
  have := s.set_body h hi b [] []
  simpa using this
theorem Step.Wf.set {s : Gs} (h : Step.Wf s) (i : Nat) (b : Bd) : Step.Wf { s with bs := s.bs.set i b } := ⟨by show (s.bs.set i b).length = 16; rw [List.length_set]; exact h.b, h.s⟩
/-- a body is laid at a place of a state -/
theorem op_storeSb {s : Gs} (hgd : o.guard = none) (h : Sb w p s) {i : Nat} (hi : i < 16) (b : Bd) (x y : Operand) (ho : o.op = .store 33 x y) (hx : act.eval x = .pointer (some ⟨p, 2 + i * 12, none⟩)) (hy : act.eval y = b.v)
    (k : ∀ w', Sb w' p { s with bs := s.bs.set i b } → Only [p] w w' → w'.heap.size = w.heap.size → wpList Try.prog ops Q rest (act.put o.dst undef) w') : wpList Try.prog ops Q (o :: rest) act w := by
  have hl := Gs.len h.wf
  refine op_store (vs := b.cells) (cs := s.cells) hgd 33 x y ho (2 + i * 12) hx hy h.blk info_bd (by rw [hl, bd_len]; omega) b.one ?_
  intro w' hb o2 hz
  rw [s.set_body0 h.wf hi b] at hb
  exact k w' ⟨hb, h.wf.set i b⟩ o2 hz
/-- a whole state is laid -/
theorem op_storeS {s0 s : Gs} (hgd : o.guard = none) (h : Sb w p s0) (hs : Step.Wf s) (x y : Operand) (ho : o.op = .store 37 x y) (hx : act.eval x = .pointer (some ⟨p, 0, none⟩)) (hy : act.eval y = s.v)
    (k : ∀ w', Sb w' p s → Only [p] w w' → w'.heap.size = w.heap.size → wpList Try.prog ops Q rest (act.put o.dst undef) w') : wpList Try.prog ops Q (o :: rest) act w := by
  have hl := Gs.len h.wf
  have hl2 := Gs.len hs
  refine op_store (vs := s.cells) (cs := s0.cells) hgd 37 x y ho 0 hx hy h.blk (by rw [info_st, hl2]) (by rw [hl, hl2]; omega) s.one ?_
  intro w' hb o2 hz
  rw [List.take_zero, List.nil_append, List.drop_of_length_le (by rw [hl, hl2]; omega), List.append_nil] at hb
  exact k w' ⟨hb, hs⟩ o2 hz
/-- a whole state is read -/
theorem opg_loadS {s : Gs} (hw : Region.wanted o (yielded ops act.tmps) = true) {off : Nat} (hs : Step.Wf s) (x : Operand) (ho : o.op = .load 37 x) (hx : act.eval x = .pointer (some ⟨p, off, none⟩)) (hc : ∀ j v, s.cells[j]? = some v → w.cell? ⟨p, off + j, none⟩ = some v) (h : wpList Try.prog ops Q rest (act.put o.dst s.v) w) : wpList Try.prog ops Q (o :: rest) act w :=
  opg_loads hw (cs := s.cells) 37 x ho hx Try.underlying37 (by rw [info_st, Gs.len hs]) hc h
theorem opg_loadC {c : Cf} {rv tv : Value} (hw : Region.wanted o (yielded ops act.tmps) = true) (x : Operand) (ho : o.op = .load 28 x) (hx : act.eval x = .pointer (some ⟨p, 0, none⟩)) (hc : ∀ j v, (c.cells rv tv)[j]? = some v → w.cell? ⟨p, 0 + j, none⟩ = some v) (h : wpList Try.prog ops Q rest (act.put o.dst (c.v rv tv)) w) : wpList Try.prog ops Q (o :: rest) act w :=
  opg_loads hw (cs := c.cells rv tv) 28 x ho hx Try.underlying28 info_cf hc h
end
theorem res_st {n : Nat} {fn : Func} {W : World} {p : Nat} {s : Gs} {tm : Array Value} (h : Sb W p s) (hr : fn.results = #[.cell n 37]) (hp : tm.getD n undef = .pointer (some ⟨p, 0, none⟩)) : (results fn tm).run Try.prog W = .ok s.v W := by
  obtain ⟨t, ht⟩ := h.blk
  have hu : ∃ f, Try.prog.underlying 37 = some (.struct f) := ⟨_, Try.underlying37⟩
  obtain ⟨f, hu⟩ := hu
  exact results_cell_row (P := Try.prog) hr tm W p t s.cells.toArray (0, 0) _ hp ht hu rfl (by have := Gs.len h.wf; simp only [List.size_toArray, this]; exact info_st)
theorem borns_len (pl : Int) : ∀ n, (Step.borns pl n).length = 16 := by
  intro n
  induction n with
  | zero => rfl
  | succ n ih =>
    unfold Step.borns
    split
    · rw [List.length_set]; exact ih
    · exact ih
theorem borns_next {pl : Int} {n : Nat} (h : (n : Int) < pl) : Step.borns pl (n + 1) = (Step.borns pl n).set n (Body.born n pl) := by
  rw [Step.borns, if_pos h]
theorem borns_stop {pl : Int} {n : Nat} (h : ¬ (n : Int) < pl) (k : Nat) : Step.borns pl (n + k) = Step.borns pl n := by
  induction k with
  | zero => rfl
  | succ k ih => rw [← Nat.add_assoc, Step.borns, if_neg (by omega), ih]
theorem first_wf (c : Cf) : Step.Wf (Step.first c) := by
  unfold Step.first
  split
  · exact ⟨borns_len _ _, rfl⟩
  · exact Step.zero_wf
/-- what First has laid: its config, its result, the state under way -/
structure Fst (w W : World) (B q : Nat) (c : Cf) (rv tv : Value) (s : Gs) : Prop where
  conf : Cb W q c rv tv
  res : Sb W (q + 1) s
  only : Only [] w W
  rd : Rd B W c rv tv
  base : w.heap.size = q
  le : B ≤ q
theorem Fst.then {w W W' : World} {B q : Nat} {c : Cf} {rv tv : Value} {s : Gs} (h : Fst w W B q c rv tv s) (o : Only [] W W') : Fst w W' B q c rv tv s :=
  ⟨h.conf.only o (by simp), h.res.only o (by simp), h.only.trans o, h.rd.only o (by simp), h.base, h.le⟩
theorem Fst.turn {w W W' : World} {B q : Nat} {c : Cf} {rv tv : Value} {s : Gs} (h : Fst w W B q c rv tv s) {S : List Nat} (o : Only S W W') (hS : ∀ g ∈ S, q + 2 ≤ g) : Fst w W' B q c rv tv s :=
  ⟨h.conf.only o (fun m => by have := hS _ m; omega), h.res.only o (fun m => by have := hS _ m; omega), h.only.then o (fun x hx hl => by have := hS _ hx; have := h.base; omega), h.rd.only o (fun g hg => by have := hS g hg; have := h.le; omega), h.base, h.le⟩
set_option maxRecDepth 100000 in
set_option maxHeartbeats 400000 in
theorem first_any {B : Nat} {w : World} {rv tv : Value} (c : Cf) (h : Rd B w c rv tv) (hB : B ≤ w.heap.size) : Calls Try.prog 11 #[c.v rv tv] w fun e w' => e = .returned (Step.first c).v ∧ Only [] w w' := by
  obtain ⟨q, hq⟩ : ∃ q, w.heap.size = q := ⟨_, rfl⟩
  have H0 : Hid (Fst w ((w.alloc (.cells (c.cells rv tv).toArray 28)).alloc (.cells Step.zero.cells.toArray 37)) B q c rv tv Step.zero) := by
    have o : Only [] w ((w.alloc (.cells (c.cells rv tv).toArray 28)).alloc (.cells Step.zero.cells.toArray 37)) := ((Only.refl [] _).alloc _).alloc _
    have hs := Sb.new Step.zero_wf (w.alloc (.cells (c.cells rv tv).toArray 28)) 37
    have e : (w.alloc (.cells (c.cells rv tv).toArray 28)).heap.size = q + 1 := by simp [← hq]
    rw [e] at hs
    exact ⟨hq ▸ (Cb.new c rv tv w 28).only ((Only.refl [] _).alloc _) (by simp), hs, o, h.only o (by simp), hq, hq ▸ hB⟩
  clear h hB
  go_enter Try.func11, Try.ntmps11
  go_upto_region 0 with fail
  apply wp_region_lit
  refine op_val (w' := w.alloc (.cells (c.cells rv tv).toArray 28)) rfl (.pointer (some ⟨w.heap.size, 0, none⟩)) (by kernel_rfl) ?_
  simp only [Act.put, List.setIfInBounds_toArray, List.set_cons_succ, List.set_cons_zero]
  refine op_val (w' := (w.alloc (.cells (c.cells rv tv).toArray 28)).alloc (.cells Step.zero.cells.toArray 37)) rfl (.pointer (some ⟨(w.alloc (.cells (c.cells rv tv).toArray 28)).heap.size, 0, none⟩)) (by kernel_rfl) ?_
  simp only [Act.put, List.setIfInBounds_toArray, List.set_cons_succ, List.set_cons_zero]
  refine wpList_nil ?_
  rw [show (w.alloc (.cells (c.cells rv tv).toArray 28)).heap.size = q + 1 by simp [hq], hq]
  generalize (w.alloc (.cells (c.cells rv tv).toArray 28)).alloc (.cells Step.zero.cells.toArray 37) = w1 at *
  clear hq
  go_upto_region 1 with fail
  apply wp_region_lit
  refine opg_loadC (p := q) (by kernel_rfl) (.tmp 1) rfl (by kernel_rfl) H0.out.conf.blk.whole ?_
  simp only [Act.put, List.setIfInBounds_toArray, List.set_cons_succ, List.set_cons_zero]
  refine op_call (F := 16) (args := #[c.v rv tv]) (w1 := w1) rfl (by kernel_rfl) ?_
  refine (legal_any c H0.out.rd).mono ?_
  rintro x w2 ⟨rfl, o2⟩
  refine ⟨_, rfl, ?_⟩
  simp only [Act.put, List.setIfInBounds_toArray, List.set_cons_succ, List.set_cons_zero]
  have H2 : Hid (Fst w w2 B q c rv tv Step.zero) := H0.out.then o2
  clear H0 o2
  obtain ⟨lg, hlg⟩ : ∃ lg, Step.legal c = lg := ⟨_, rfl⟩
  have HL : Hid _ := hlg
  rw [hlg]
  clear hlg
  cases lg
  · have E : Hid (Step.first c = Step.zero) := by show _ = _; unfold Step.first; rw [if_neg (by rw [HL.out]; simp)]
    refine op_val (w' := w2) rfl (.bool true) (by kernel_rfl) ?_
    simp only [Act.put, List.setIfInBounds_toArray, List.set_cons_succ, List.set_cons_zero]
    refine wpList_nil ?_
    go_upto_region 2 with fail
    apply wp_region_lit
    refine op_val (w' := w2) rfl Step.zero.v (by kernel_rfl) ?_
    simp only [Act.put, List.setIfInBounds_toArray, List.set_cons_succ, List.set_cons_zero]
    refine op_storeS (p := q + 1) rfl H2.out.res Step.zero_wf (.tmp 2) (.tmp 8) rfl (by kernel_rfl) (by kernel_rfl) ?_
    intro w3 hb o3 hz
    have H3 : Hid (Sb w3 (q + 1) (Step.first c) ∧ Only [] w w3) := ⟨E.out ▸ hb, H2.out.only.then o3 (fun x hx hl => by have := H2.out.base; have h2 : x = q + 1 := (by simpa using hx); omega)⟩
    clear hb o3 hz H2
    refine wpList_nil ?_
    go_wp2_with fail
    exact bodyPost_ret (res_st H3.out.1 Try.results11 rfl) rfl ⟨rfl, H3.out.2⟩
  have P : Hid (1 ≤ c.pl ∧ c.pl ≤ 8) := Step.legal_pl HL.out
  have E : Hid (Step.first c = ⟨0, Dice.seed c.sd, Step.borns c.pl 16, List.replicate 8 0⟩) := by show _ = _; unfold Step.first; rw [if_pos HL.out]
  refine op_val (w' := w2) rfl (.bool false) (by kernel_rfl) ?_
  simp only [Act.put, List.setIfInBounds_toArray, List.set_cons_succ, List.set_cons_zero]
  refine wpList_nil ?_
  go_upto_region 3 with fail
  apply wp_region_lit
  refine op_val (w' := w2) rfl (.pointer (some ⟨q, 5, none⟩)) (by kernel_rfl) ?_
  simp only [Act.put, List.setIfInBounds_toArray, List.set_cons_succ, List.set_cons_zero]
  refine op_val (w' := w2) rfl (.int .i64 c.sd) (by have hcell : w2.cell? ⟨q, 5, none⟩ = some (.int .i64 c.sd) := H2.out.conf.blk.cell 5; go_simp) ?_
  simp only [Act.put, List.setIfInBounds_toArray, List.set_cons_succ, List.set_cons_zero]
  refine op_call (F := 28) (args := #[.int .i64 c.sd]) (w1 := w2) rfl (by kernel_rfl) ?_
  refine (seed_any _ _).mono ?_
  rintro x w3 ⟨rfl, rfl⟩
  refine ⟨_, rfl, ?_⟩
  simp only [Act.put, List.setIfInBounds_toArray, List.set_cons_succ, List.set_cons_zero]
  refine op_val (w' := w2) rfl (Gs.v ⟨0, Dice.seed c.sd, List.replicate 16 Body.zero, List.replicate 8 0⟩) (by kernel_rfl) ?_
  simp only [Act.put, List.setIfInBounds_toArray, List.set_cons_succ, List.set_cons_zero]
  refine op_val (w' := w2.alloc (.cells Step.zero.cells.toArray 37)) rfl (.pointer (some ⟨w2.heap.size, 0, none⟩)) (by kernel_rfl) ?_
  simp only [Act.put, List.setIfInBounds_toArray, List.set_cons_succ, List.set_cons_zero]
  have hz : q + 2 ≤ w2.heap.size := by have := H2.out.res.blk.lt; omega
  refine op_storeS (p := w2.heap.size) (s := ⟨0, Dice.seed c.sd, List.replicate 16 Body.zero, List.replicate 8 0⟩) rfl (Sb.new Step.zero_wf _ _) ⟨by kernel_rfl, by kernel_rfl⟩ (.tmp 3) (.tmp 12) rfl (by kernel_rfl) (by kernel_rfl) ?_
  intro w4 hb o4 hz4
  have o24 : Only [] w2 w4 := ((Only.refl [] w2).alloc _).then o4 (fun u hu hl => by have h2 : u = w2.heap.size := (by simpa using hu); omega)
  generalize w2.heap.size = p at *
  have H4 : Hid (Fst w w4 B q c rv tv Step.zero ∧ Sb w4 p ⟨0, Dice.seed c.sd, Step.borns c.pl 0, List.replicate 8 0⟩ ∧ q + 2 ≤ p) := ⟨H2.out.then o24, hb, hz⟩
  clear o24 hb o4 hz4 hz H2
  refine wpList_nil ?_
  have cp : w4.cell? ⟨q, 0, none⟩ = some (.int .i64 c.pl) := H4.out.1.conf.blk.cell 0
  go_wp2_with fail
  clear cp
  go_loopg [15] 17 (fun gk vi wr => ∃ i : Nat, vi = .int .i64 i ∧ (i : Int) ≤ c.pl ∧ i ≤ 8 ∧ 17 - i ≤ gk ∧ Hid (Fst w wr B q c rv tv Step.zero ∧ Sb wr p ⟨0, Dice.seed c.sd, Step.borns c.pl i, List.replicate 8 0⟩ ∧ q + 2 ≤ p))
  case atStart => exact ⟨0, rfl, by have := P.out; omega, by omega, by omega, H4.out⟩
  case round =>
    clear H4
    obtain ⟨i, rfl, hi, hi8, hg, HH⟩ := hrel
    by_cases hlt : (i : Int) < c.pl
    · have z0 : (0 : Int) ≤ (i : Int) := by omega
      have hi7 : i < 8 := by have := P.out.2; omega
      go_upto_region 7 with fail
      apply wp_region_lit
      refine op_val (w' := wr) rfl (.int .i64 i) (by kernel_rfl) ?_
      simp only [Act.put, List.setIfInBounds_toArray, List.set_cons_succ, List.set_cons_zero]
      refine op_val (w' := wr) rfl (.int .i64 i) (by kernel_rfl) ?_
      simp only [Act.put, List.setIfInBounds_toArray, List.set_cons_succ, List.set_cons_zero]
      refine op_val (w' := wr) rfl (.pointer (some ⟨q, 0, none⟩)) (by kernel_rfl) ?_
      simp only [Act.put, List.setIfInBounds_toArray, List.set_cons_succ, List.set_cons_zero]
      refine op_val (w' := wr) rfl (.int .i64 c.pl) (by have hcell : wr.cell? ⟨q, 0, none⟩ = some (.int .i64 c.pl) := HH.out.1.conf.blk.cell 0; go_simp) ?_
      simp only [Act.put, List.setIfInBounds_toArray, List.set_cons_succ, List.set_cons_zero]
      refine op_call (F := 25) (args := #[.int .i64 i, .int .i64 c.pl]) (w1 := wr) rfl (by kernel_rfl) ?_
      refine (born_any _ _ _).mono ?_
      rintro x w5 ⟨rfl, o5⟩
      refine ⟨_, rfl, ?_⟩
      simp only [Act.put, List.setIfInBounds_toArray, List.set_cons_succ, List.set_cons_zero]
      have H5 : Hid (Fst w w5 B q c rv tv Step.zero ∧ Sb w5 p ⟨0, Dice.seed c.sd, Step.borns c.pl i, List.replicate 8 0⟩ ∧ q + 2 ≤ p) := ⟨HH.out.1.then o5, HH.out.2.1.only o5 (by simp), HH.out.2.2⟩
      clear o5 HH
      refine op_val (w' := w5) rfl (.pointer (some ⟨p, 2, none⟩)) (by kernel_rfl) ?_
      simp only [Act.put, List.setIfInBounds_toArray, List.set_cons_succ, List.set_cons_zero]
      refine op_val (w' := w5) rfl (.pointer (some ⟨p, 2 + i * 12, none⟩)) (exec_at (by omega) (.tmp 23) (.tmp 18) rfl (by kernel_rfl) (by kernel_rfl)) ?_
      simp only [Act.put, List.setIfInBounds_toArray, List.set_cons_succ, List.set_cons_zero]
      refine op_storeSb (p := p) rfl H5.out.2.1 (i := i) (by omega) (Body.born i c.pl) (.tmp 24) (.tmp 22) rfl (by kernel_rfl) (by kernel_rfl) ?_
      intro w6 hb o6 hz
      rw [show ({ (⟨0, Dice.seed c.sd, Step.borns c.pl i, List.replicate 8 0⟩ : Gs) with bs := (Step.borns c.pl i).set i (Body.born i c.pl) } : Gs) = ⟨0, Dice.seed c.sd, Step.borns c.pl (i + 1), List.replicate 8 0⟩ by rw [borns_next hlt]] at hb
      have H6 : Hid (Fst w w6 B q c rv tv Step.zero ∧ Sb w6 p ⟨0, Dice.seed c.sd, Step.borns c.pl (i + 1), List.replicate 8 0⟩ ∧ q + 2 ≤ p) := ⟨H5.out.1.turn o6 (fun g hg => by have h2 : g = p := (by simpa using hg); have := H5.out.2.2; omega), hb, H5.out.2.2⟩
      clear hb o6 hz H5
      refine wpList_nil ?_
      go_wp2_with fail
      go_roundg (17 - (i + 1))
      case measure => omega
      case rel => exact ⟨i + 1, by go_num, by omega, by omega, by omega, H6.out⟩
    · go_upto_region 9 with fail
      apply wp_region_lit
      have e16 : Step.borns c.pl i = Step.borns c.pl 16 := by
        have := borns_stop hlt (16 - i)
        rw [show i + (16 - i) = 16 by omega] at this
        exact this.symm
      have HS : Sb wr p (Step.first c) := by rw [E.out, ← e16]; exact HH.out.2.1
      refine opg_loadS (p := p) (off := 0) (by kernel_rfl) (first_wf c) (.tmp 3) rfl (by kernel_rfl) HS.blk.whole ?_
      simp only [Act.put, List.setIfInBounds_toArray, List.set_cons_succ, List.set_cons_zero]
      refine op_storeS (p := q + 1) rfl HH.out.1.res (first_wf c) (.tmp 2) (.tmp 26) rfl (by kernel_rfl) (by kernel_rfl) ?_
      intro w6 hb o6 hz
      have H6 : Hid (Sb w6 (q + 1) (Step.first c) ∧ Only [] w w6) := ⟨hb, HH.out.1.only.then o6 (fun x hx hl => by have := HH.out.1.base; have h2 : x = q + 1 := (by simpa using hx); omega)⟩
      clear hb o6 hz HH HS
      refine wpList_nil ?_
      go_wp2_with fail
      exact bodyPost_ret (res_st H6.out.1 Try.results11 rfl) rfl ⟨rfl, H6.out.2⟩
end Go.Proofs.Ytngbannidbijmaa
namespace Go.Proofs.Ytngbannidbijmaa
open Go.RowKit
set_option linter.unusedVariables false
set_option linter.unusedSimpArgs false

theorem okB_mono {pl : Int} {bs : List Bd} {n : Nat} (h : Step.okB pl bs n = true) {i : Nat} (hi : i ≤ n) : Step.okB pl bs i = true :=
  (Step.okB_iff _ _ _).2 fun k hk => (Step.okB_iff _ _ _).1 h k (by omega)
theorem okS_mono {pl : Int} {sc : List Int} {n : Nat} (h : Step.okS pl sc n = true) {i : Nat} (hi : i ≤ n) : Step.okS pl sc i = true :=
  (Step.okS_iff _ _ _).2 fun k hk => (Step.okS_iff _ _ _).1 h k (by omega)
theorem right_noB {c : Cf} {s : Gs} {i : Nat} (hi : i ≤ 16) (h : Step.okB c.pl s.bs i = false) : Step.right c s = false := by
  rw [Bool.eq_false_iff]
  intro h2
  unfold Step.right at h2
  simp only [Bool.and_eq_true] at h2
  rw [okB_mono h2.2.2.1 hi] at h
  cases h
theorem right_noS {c : Cf} {s : Gs} {i : Nat} (hi : i ≤ 8) (h : Step.okS c.pl s.sc i = false) : Step.right c s = false := by
  rw [Bool.eq_false_iff]
  intro h2
  unfold Step.right at h2
  simp only [Bool.and_eq_true] at h2
  rw [okS_mono h2.2.2.2 hi] at h
  cases h
section
variable {w : World} {ops : Array Oper} {rest : List Oper} {o : Oper} {act : Act} {Q : Exit → Act → World → Prop} {p : Nat}
theorem run_loadsA {g off : Nat} {cs : List Value} (ty : TypeId) {n : Nat} {e : TypeId} (hu : Try.prog.underlying ty = some (.array n e)) (hi : (Try.prog.info? ty).map (·.size) = some cs.length) (h : ∀ j v, cs[j]? = some v → w.cell? ⟨g, off + j, none⟩ = some v) :
    (Instr.loadAt ty (.pointer (some ⟨g, off, none⟩))).run Try.prog w = .ok (.agg cs.toArray) w := by
  have hl : (loadCells ⟨g, off, none⟩ cs.length).run Try.prog w = .ok cs.toArray w :=
    run_loadCells_list (P := Try.prog) w ⟨g, off, none⟩ cs (fun j v hv => by rw [Addr.add_lit]; exact h j v hv)
  simp only [Instr.loadAt, Instr.sureAddr, Sem.run_bind, Sem.run_pure, Result.andThen]
  cases hq : Try.prog.info? ty with
  | none => simp [hq] at hi
  | some i =>
    have hs : i.size = cs.length := by simpa [hq] using hi
    have hagg : (isAgg ty).run Try.prog w = .ok true w := by
      unfold isAgg
      rw [Sem.run_bind, run_underlying hu w]
      rfl
    simp [loadVar, Sem.run_bind, hagg, sizeOf, typeInfo, hq, hs, hl]
/-- an array is read, wherever it lies -/
theorem opg_loadA (hw : Region.wanted o (yielded ops act.tmps) = true) {cs : List Value} {g off : Nat} (ty : TypeId) (x : Operand) (ho : o.op = .load ty x) (hx : act.eval x = .pointer (some ⟨g, off, none⟩))
    {n : Nat} {e : TypeId} (hu : Try.prog.underlying ty = some (.array n e)) (hi : (Try.prog.info? ty).map (·.size) = some cs.length) (hc : ∀ j v, cs[j]? = some v → w.cell? ⟨g, off + j, none⟩ = some v) (h : wpList Try.prog ops Q rest (act.put o.dst (.agg cs.toArray)) w) : wpList Try.prog ops Q (o :: rest) act w := by
  refine opg_val hw (.agg cs.toArray) ?_ h
  simp only [execOp, ho, hx, Sem.run_bind, run_loadsA ty hu hi hc, Result.andThen_ok, Sem.run_pure]
theorem opg_bodies {bs : List Bd} (hw : Region.wanted o (yielded ops act.tmps) = true) (hb : bs.length = 16) {off : Nat} (x : Operand) (ho : o.op = .load 34 x) (hx : act.eval x = .pointer (some ⟨p, off, none⟩)) (hc : ∀ j v, (flatB bs)[j]? = some v → w.cell? ⟨p, off + j, none⟩ = some v) (h : wpList Try.prog ops Q rest (act.put o.dst (.agg (flatB bs).toArray)) w) : wpList Try.prog ops Q (o :: rest) act w :=
  opg_loadA hw (cs := flatB bs) 34 x ho hx Try.underlying34 (by rw [info_bs, flatB_len, hb]) hc h
theorem opg_scores {sc : List Int} (hw : Region.wanted o (yielded ops act.tmps) = true) (hb : sc.length = 8) {off : Nat} (x : Operand) (ho : o.op = .load 35 x) (hx : act.eval x = .pointer (some ⟨p, off, none⟩)) (hc : ∀ j v, (nums sc)[j]? = some v → w.cell? ⟨p, off + j, none⟩ = some v) (h : wpList Try.prog ops Q rest (act.put o.dst (.agg (nums sc).toArray)) w) : wpList Try.prog ops Q (o :: rest) act w :=
  opg_loadA hw (cs := nums sc) 35 x ho hx Try.underlying35 (by rw [info_sc, nums, List.length_map, hb]) hc h
/-- a body in a block of its own is read -/
theorem opg_bl {b : Bd} (hw : Region.wanted o (yielded ops act.tmps) = true) (x : Operand) (ho : o.op = .load 33 x) (hx : act.eval x = .pointer (some ⟨p, 0, none⟩)) (hB : Bl w p b) (h : wpList Try.prog ops Q rest (act.put o.dst b.v) w) : wpList Try.prog ops Q (o :: rest) act w :=
  opg_loads hw (cs := b.cells) 33 x ho hx Try.underlying33 info_bd hB.blk.whole h
/-- .. and laid -/
theorem op_storeBl {b0 b : Bd} (hgd : o.guard = none) (h : Bl w p b0) (x y : Operand) (ho : o.op = .store 33 x y) (hx : act.eval x = .pointer (some ⟨p, 0, none⟩)) (hy : act.eval y = b.v)
    (k : ∀ w', Bl w' p b → Only [p] w w' → w'.heap.size = w.heap.size → wpList Try.prog ops Q rest (act.put o.dst undef) w') : wpList Try.prog ops Q (o :: rest) act w := by
  refine op_store (vs := b.cells) (cs := b0.cells) hgd 33 x y ho 0 hx hy h.blk info_bd (by simp [Bd.cells]) b.one ?_
  intro w' hb o2 hz
  rw [List.take_zero, List.nil_append, List.drop_of_length_le (by simp [Bd.cells]), List.append_nil] at hb
  exact k w' ⟨hb⟩ o2 hz
end
theorem Sb.bodies {w : World} {p : Nat} {s : Gs} (h : Sb w p s) : ∀ j v, (flatB s.bs)[j]? = some v → w.cell? ⟨p, 2 + j, none⟩ = some v := fun j v hj => by
  have hl := (List.getElem?_eq_some_iff.1 hj).1
  rw [h.blk.cell, show 2 + j = j + 1 + 1 by omega]
  show (Value.int .i64 s.fr :: Value.int .u64 s.d :: (flatB s.bs ++ nums s.sc))[j + 1 + 1]? = _
  rw [List.getElem?_cons_succ, List.getElem?_cons_succ, List.getElem?_append_left hl, hj]
theorem Sb.scores {w : World} {p : Nat} {s : Gs} (h : Sb w p s) : ∀ j v, (nums s.sc)[j]? = some v → w.cell? ⟨p, 194 + j, none⟩ = some v := fun j v hj => by
  have hl := (List.getElem?_eq_some_iff.1 hj).1
  rw [nums, List.length_map, h.wf.s] at hl
  rw [h.blk.cell, s.get_score h.wf hl, ← hj]
  simp [nums, List.getD_eq_getElem?_getD, show j < s.sc.length by rw [h.wf.s]; exact hl]
/-- what Right has laid -/
structure Rgt (w W : World) (B q : Nat) (c : Cf) (rv tv : Value) (s : Gs) : Prop where
  conf : Cb W q c rv tv
  st : Sb W (q + 1) s
  only : Only [] w W
  rd : Rd B W c rv tv
  base : w.heap.size = q
theorem Rgt.then {w W W' : World} {B q : Nat} {c : Cf} {rv tv : Value} {s : Gs} (h : Rgt w W B q c rv tv s) (o : Only [] W W') : Rgt w W' B q c rv tv s :=
  ⟨h.conf.only o (by simp), h.st.only o (by simp), h.only.trans o, h.rd.only o (by simp), h.base⟩
set_option maxRecDepth 100000 in
set_option maxHeartbeats 2000000 in
theorem sright_any {B : Nat} {w : World} {rv tv : Value} (c : Cf) (s : Gs) (h : Rd B w c rv tv) (hs : Step.Wf s) : Calls Try.prog 17 #[c.v rv tv, s.v] w fun e w' => e = .returned (.bool (Step.right c s)) ∧ Only [] w w' := by
  have hnot : ∀ (x : Bool) (w : World), (Op.unary .not (.bool x)).run Try.prog w = .ok (.bool (!x)) w := fun _ _ => rfl
  obtain ⟨q, hq⟩ : ∃ q, w.heap.size = q := ⟨_, rfl⟩
  have H0 : Hid (Rgt w ((w.alloc (.cells (c.cells rv tv).toArray 28)).alloc (.cells s.cells.toArray 37)) B q c rv tv s) := by
    have o : Only [] w ((w.alloc (.cells (c.cells rv tv).toArray 28)).alloc (.cells s.cells.toArray 37)) := ((Only.refl [] _).alloc _).alloc _
    have hb := Sb.new hs (w.alloc (.cells (c.cells rv tv).toArray 28)) 37
    rw [show (w.alloc (.cells (c.cells rv tv).toArray 28)).heap.size = q + 1 by simp [← hq]] at hb
    exact ⟨hq ▸ (Cb.new c rv tv w 28).only ((Only.refl [] _).alloc _) (by simp), hb, o, h.only o (by simp), hq⟩
  have WF : Hid _ := hs
  clear h hs
  go_enter Try.func17, Try.ntmps17
  go_upto_region 0 with fail
  apply wp_region_lit
  refine op_val (w' := w.alloc (.cells (c.cells rv tv).toArray 28)) rfl (.pointer (some ⟨w.heap.size, 0, none⟩)) (by kernel_rfl) ?_
  simp only [Act.put, List.setIfInBounds_toArray, List.set_cons_succ, List.set_cons_zero]
  refine op_val (w' := (w.alloc (.cells (c.cells rv tv).toArray 28)).alloc (.cells s.cells.toArray 37)) rfl (.pointer (some ⟨(w.alloc (.cells (c.cells rv tv).toArray 28)).heap.size, 0, none⟩)) (by kernel_rfl) ?_
  simp only [Act.put, List.setIfInBounds_toArray, List.set_cons_succ, List.set_cons_zero]
  refine op_val (w' := (w.alloc (.cells (c.cells rv tv).toArray 28)).alloc (.cells s.cells.toArray 37)) rfl (.bool false) (by kernel_rfl) ?_
  simp only [Act.put, List.setIfInBounds_toArray, List.set_cons_succ, List.set_cons_zero]
  refine wpList_nil ?_
  rw [show (w.alloc (.cells (c.cells rv tv).toArray 28)).heap.size = q + 1 by simp [hq], hq]
  generalize (w.alloc (.cells (c.cells rv tv).toArray 28)).alloc (.cells s.cells.toArray 37) = w1 at *
  clear hq
  go_upto_region 1 with fail
  apply wp_region_lit
  refine opg_loadC (p := q) (by kernel_rfl) (.tmp 2) rfl (by kernel_rfl) H0.out.conf.blk.whole ?_
  simp only [Act.put, List.setIfInBounds_toArray, List.set_cons_succ, List.set_cons_zero]
  refine op_call (F := 16) (args := #[c.v rv tv]) (w1 := w1) rfl (by kernel_rfl) ?_
  refine (legal_any c H0.out.rd).mono ?_
  rintro x w2 ⟨rfl, o2⟩
  refine ⟨_, rfl, ?_⟩
  simp only [Act.put, List.setIfInBounds_toArray, List.set_cons_succ, List.set_cons_zero]
  have H2 : Hid (Rgt w w2 B q c rv tv s) := H0.out.then o2
  clear H0 o2
  obtain ⟨lg, hlg⟩ : ∃ lg, Step.legal c = lg := ⟨_, rfl⟩
  obtain ⟨fo, hfo⟩ : ∃ fo, Body.btw s.fr 0 600 = fo := ⟨_, rfl⟩
  have HE : Hid (Step.right c s = (lg && (fo && (Step.okB c.pl s.bs 16 && Step.okS c.pl s.sc 8)))) := by show _ = _; unfold Step.right; rw [hlg, hfo]
  rw [hlg]
  clear hlg
  cases lg
  · refine op_val (w' := w2) rfl (.bool true) (by kernel_rfl) ?_
    simp only [Act.put, List.setIfInBounds_toArray, List.set_cons_succ, List.set_cons_zero]
    refine op_val (w' := w2) rfl (.bool true) (by kernel_rfl) ?_
    simp only [Act.put, List.setIfInBounds_toArray, List.set_cons_succ, List.set_cons_zero]
    go_wp2_with fail
    go_ret
    exact ⟨by rw [HE.out]; rfl, H2.out.only⟩
  refine op_val (w' := w2) rfl (.bool false) (by kernel_rfl) ?_
  simp only [Act.put, List.setIfInBounds_toArray, List.set_cons_succ, List.set_cons_zero]
  refine op_val (w' := w2) rfl (.bool false) (by kernel_rfl) ?_
  simp only [Act.put, List.setIfInBounds_toArray, List.set_cons_succ, List.set_cons_zero]
  have cf : w2.cell? ⟨q + 1, 0, none⟩ = some (.int .i64 s.fr) := H2.out.st.blk.cell 0
  go_wp2_with fail
  refine (sbetween_any _ _ _ _).mono ?_
  rintro x w3 ⟨rfl, rfl⟩
  rw [hfo]
  clear hfo cf
  cases fo
  · go_wp2_with fail
    go_ret
    exact ⟨by rw [HE.out]; rfl, H2.out.only⟩
  go_upto_region 3 with fail
  apply wp_region_lit
  refine op_val (w' := w3) rfl (.pointer (some ⟨q + 1, 2, none⟩)) (by kernel_rfl) ?_
  simp only [Act.put, List.setIfInBounds_toArray, List.set_cons_succ, List.set_cons_zero]
  refine opg_bodies (p := q + 1) (by kernel_rfl) WF.out.b (.tmp 18) rfl (by kernel_rfl) H2.out.st.bodies ?_
  simp only [Act.put, List.setIfInBounds_toArray, List.set_cons_succ, List.set_cons_zero]
  refine op_val (w' := w3) rfl (.int .i64 0) (by kernel_rfl) ?_
  simp only [Act.put, List.setIfInBounds_toArray, List.set_cons_succ, List.set_cons_zero]
  refine wpList_nil ?_
  go_wp2_with fail
  go_loopg [20] 17 (fun gk vi wr => ∃ i : Nat, vi = .int .i64 i ∧ i ≤ 16 ∧ 17 - i ≤ gk ∧ Hid (Rgt w wr B q c rv tv s ∧ Step.okB c.pl s.bs i = true))
  case atStart => exact ⟨0, rfl, by omega, by omega, H2.out, rfl⟩
  case round =>
    clear H2
    obtain ⟨i, rfl, hi, hg, HH⟩ := hrel
    by_cases hlt : i < 16
    · have z1 : (i : Int) < 16 := by omega
      obtain ⟨b, hb⟩ : ∃ b, s.bs.getD i Body.zero = b := ⟨_, rfl⟩
      have NX : Hid (Step.okB c.pl s.bs (i + 1) = (Body.right b && Step.may b i c.pl)) := by show _ = _; rw [Step.okB, HH.out.2, hb, Bool.true_and]
      go_upto_region 5 with fail
      apply wp_region_lit
      refine op_val (w' := wr) rfl (.int .i64 i) (by kernel_rfl) ?_
      simp only [Act.put, List.setIfInBounds_toArray, List.set_cons_succ, List.set_cons_zero]
      refine op_val (w' := wr) rfl (s.bs.getD i Body.zero).v (exec_ix WF.out.b hlt (.tmp 19) (.tmp 20) rfl (by kernel_rfl) (by kernel_rfl)) ?_
      simp only [Act.put, List.setIfInBounds_toArray, List.set_cons_succ, List.set_cons_zero]
      rw [hb]
      refine op_val (w' := wr.alloc (.cells Body.zero.cells.toArray 33)) rfl (.pointer (some ⟨wr.heap.size, 0, none⟩)) (by kernel_rfl) ?_
      simp only [Act.put, List.setIfInBounds_toArray, List.set_cons_succ, List.set_cons_zero]
      refine op_val (w' := wr.alloc (.cells Body.zero.cells.toArray 33)) rfl (.int .i64 i) (by kernel_rfl) ?_
      simp only [Act.put, List.setIfInBounds_toArray, List.set_cons_succ, List.set_cons_zero]
      refine op_storeBl (p := wr.heap.size) (b := b) rfl (Bl.new Body.zero _ _) (.tmp 6) (.tmp 23) rfl (by kernel_rfl) (by kernel_rfl) ?_
      intro w4 hb4 o4 hz4
      have o14 : Only [] wr w4 := ((Only.refl [] wr).alloc _).then o4 (fun u hu hl => by have h2 : u = wr.heap.size := (by simpa using hu); omega)
      have H4 : Hid (Rgt w w4 B q c rv tv s ∧ Bl w4 wr.heap.size b) := ⟨HH.out.1.then o14, hb4⟩
      generalize wr.heap.size = p at *
      clear hb4 o4 hz4 o14 HH hb
      simp only [Act.put, List.setIfInBounds_toArray, List.set_cons_succ, List.set_cons_zero]
      refine wpList_nil ?_
      go_upto_region 6 with fail
      apply wp_region_lit
      refine opg_bl (p := p) (by kernel_rfl) (.tmp 6) rfl (by kernel_rfl) H4.out.2 ?_
      simp only [Act.put, List.setIfInBounds_toArray, List.set_cons_succ, List.set_cons_zero]
      refine op_call (F := 23) (args := #[b.v]) (w1 := w4) rfl (by kernel_rfl) ?_
      refine (right_any _ _).mono ?_
      rintro x w5 ⟨rfl, o5⟩
      refine ⟨_, rfl, ?_⟩
      simp only [Act.put, List.setIfInBounds_toArray, List.set_cons_succ, List.set_cons_zero]
      have H5 : Hid (Rgt w w5 B q c rv tv s ∧ Bl w5 p b) := ⟨H4.out.1.then o5, H4.out.2.only o5 (by simp)⟩
      clear H4 o5
      obtain ⟨br, hbr⟩ : ∃ br, Body.right b = br := ⟨_, rfl⟩
      rw [show (b == Body.zero || Body.some b) = br from hbr]
      rw [hbr] at NX
      clear hbr
      cases br
      · refine op_val (w' := w5) rfl (.bool true) (by kernel_rfl) ?_
        simp only [Act.put, List.setIfInBounds_toArray, List.set_cons_succ, List.set_cons_zero]
        refine op_val (w' := w5) rfl (.bool true) (by kernel_rfl) ?_
        simp only [Act.put, List.setIfInBounds_toArray, List.set_cons_succ, List.set_cons_zero]
        go_wp2_with fail
        go_ret
        exact ⟨by rw [right_noB (by omega) (show Step.okB c.pl s.bs (i + 1) = false by rw [NX.out]; rfl)]; rfl, H5.out.1.only⟩
      refine op_val (w' := w5) rfl (.bool false) (by kernel_rfl) ?_
      simp only [Act.put, List.setIfInBounds_toArray, List.set_cons_succ, List.set_cons_zero]
      refine op_val (w' := w5) rfl (.bool false) (by kernel_rfl) ?_
      simp only [Act.put, List.setIfInBounds_toArray, List.set_cons_succ, List.set_cons_zero]
      refine opg_bl (p := p) (by kernel_rfl) (.tmp 6) rfl (by kernel_rfl) H5.out.2 ?_
      simp only [Act.put, List.setIfInBounds_toArray, List.set_cons_succ, List.set_cons_zero]
      refine opg_val (w' := w5) (by kernel_rfl) (.int .i64 i) (by kernel_rfl) ?_
      simp only [Act.put, List.setIfInBounds_toArray, List.set_cons_succ, List.set_cons_zero]
      refine opg_val (w' := w5) (by kernel_rfl) (.pointer (some ⟨q, 0, none⟩)) (by kernel_rfl) ?_
      simp only [Act.put, List.setIfInBounds_toArray, List.set_cons_succ, List.set_cons_zero]
      refine opg_val (w' := w5) (by kernel_rfl) (.int .i64 c.pl) (by have hcell : w5.cell? ⟨q, 0, none⟩ = some (.int .i64 c.pl) := H5.out.1.conf.blk.cell 0; go_simp) ?_
      simp only [Act.put, List.setIfInBounds_toArray, List.set_cons_succ, List.set_cons_zero]
      refine opg_call (F := 37) (args := #[b.v, .int .i64 i, .int .i64 c.pl]) (w1 := w5) (by kernel_rfl) (by kernel_rfl) ?_
      refine (mayStand_any b i c.pl w5).mono ?_
      rintro x w6 ⟨rfl, o6⟩
      refine ⟨_, rfl, ?_⟩
      simp only [Act.put, List.setIfInBounds_toArray, List.set_cons_succ, List.set_cons_zero]
      have H6 : Hid (Rgt w w6 B q c rv tv s) := H5.out.1.then o6
      clear H5 o6
      obtain ⟨bm, hbm⟩ : ∃ bm, Step.may b i c.pl = bm := ⟨_, rfl⟩
      rw [hbm] at NX ⊢
      clear hbm
      cases bm
      · go_wp2_with fail
        go_ret
        exact ⟨by rw [right_noB (by omega) (show Step.okB c.pl s.bs (i + 1) = false by rw [NX.out]; rfl)]; rfl, H6.out.only⟩
      · go_wp2_with fail
        go_roundg (17 - (i + 1))
        case measure => omega
        case rel => exact ⟨i + 1, by go_num, by omega, by omega, H6.out, NX.out⟩
    · have z1 : ¬ (i : Int) < 16 := by omega
      have e16 : i = 16 := by omega
      have HB : Hid (Step.okB c.pl s.bs 16 = true) := e16 ▸ HH.out.2
      have H2 : Hid (Rgt w wr B q c rv tv s) := HH.out.1
      clear HH
      go_upto_region 9 with fail
      apply wp_region_lit
      refine op_val (w' := wr) rfl (.pointer (some ⟨q + 1, 194, none⟩)) (by kernel_rfl) ?_
      simp only [Act.put, List.setIfInBounds_toArray, List.set_cons_succ, List.set_cons_zero]
      refine opg_scores (p := q + 1) (by kernel_rfl) WF.out.s (.tmp 36) rfl (by kernel_rfl) H2.out.st.scores ?_
      simp only [Act.put, List.setIfInBounds_toArray, List.set_cons_succ, List.set_cons_zero]
      refine op_val (w' := wr) rfl (.int .i64 0) (by kernel_rfl) ?_
      simp only [Act.put, List.setIfInBounds_toArray, List.set_cons_succ, List.set_cons_zero]
      refine wpList_nil ?_
      clear e16 hi hg z1 hlt
      generalize wr = W0 at *
      go_wp2_with fail
      go_loopg [38] 9 (fun gk vi wr => ∃ i : Nat, vi = .int .i64 i ∧ i ≤ 8 ∧ 9 - i ≤ gk ∧ Hid (Rgt w wr B q c rv tv s ∧ Step.okS c.pl s.sc i = true))
      case atStart => exact ⟨0, rfl, by omega, by omega, H2.out, rfl⟩
      case round =>
        clear H2
        obtain ⟨j, rfl, hj, hg, HH⟩ := hrel
        by_cases hlt : j < 8
        · have z0 : (0 : Int) ≤ (j : Int) := by omega
          have z1 : (j : Int) < 8 := by omega
          obtain ⟨n, hn⟩ : ∃ n, s.sc.getD j 0 = n := ⟨_, rfl⟩
          have NX : Hid (Step.okS c.pl s.sc (j + 1) = (Body.btw n 0 2147483647 && (decide ((j : Int) < c.pl) || n == 0))) := by show _ = _; rw [Step.okS, HH.out.2, hn, Bool.true_and]
          have no : Hid (Step.okS c.pl s.sc (j + 1) = false → Step.right c s = false) := right_noS (by omega)
          go_upto_region 11 with fail
          apply wp_region_lit
          refine op_val (w' := wr) rfl (.int .i64 j) (by kernel_rfl) ?_
          simp only [Act.put, List.setIfInBounds_toArray, List.set_cons_succ, List.set_cons_zero]
          refine op_val (w' := wr) rfl (.int .i64 (s.sc.getD j 0)) (exec_ixS WF.out.s hlt (.tmp 37) (.tmp 38) rfl (by kernel_rfl) (by kernel_rfl)) ?_
          simp only [Act.put, List.setIfInBounds_toArray, List.set_cons_succ, List.set_cons_zero]
          rw [hn]
          clear hn
          have cp : wr.cell? ⟨q, 0, none⟩ = some (.int .i64 c.pl) := HH.out.1.conf.blk.cell 0
          go_wp2_with fail
          refine (sbetween_any _ _ _ _).mono ?_
          rintro x w3 ⟨rfl, rfl⟩
          obtain ⟨q1, h1⟩ : ∃ q1, Body.btw n 0 2147483647 = q1 := ⟨_, rfl⟩
          rw [h1] at NX ⊢
          clear h1
          cases q1
          · go_wp2_with fail
            go_ret
            exact ⟨by rw [no.out (by rw [NX.out]; rfl)]; rfl, HH.out.1.only⟩
          by_cases hp : (j : Int) < c.pl
          · have z2 : ¬ c.pl ≤ (j : Int) := by omega
            have N2 : Hid (Step.okS c.pl s.sc (j + 1) = true) := by show _ = _; rw [NX.out]; simp [hp]
            clear hp NX
            go_wp2_with fail
            go_roundg (9 - (j + 1))
            case measure => omega
            case rel => exact ⟨j + 1, by go_num, by omega, by omega, HH.out.1, N2.out⟩
          · have z2 : c.pl ≤ (j : Int) := by omega
            by_cases h0 : n = 0
            · have N2 : Hid (Step.okS c.pl s.sc (j + 1) = true) := by show _ = _; rw [NX.out]; simp [h0]
              clear hp NX
              go_wp2_with fail
              go_roundg (9 - (j + 1))
              case measure => omega
              case rel => exact ⟨j + 1, by go_num, by omega, by omega, HH.out.1, N2.out⟩
            · have N2 : Hid (Step.okS c.pl s.sc (j + 1) = false) := by show _ = _; rw [NX.out]; simp [h0, z2]
              clear hp NX
              go_wp2_with fail
              go_ret
              exact ⟨by rw [no.out N2.out]; rfl, HH.out.1.only⟩
        · have z1 : ¬ (j : Int) < 8 := by omega
          have e8 : j = 8 := by omega
          have HS : Hid (Step.okS c.pl s.sc 8 = true) := by show _ = _; rw [← e8]; exact HH.out.2
          go_wp2_with fail
          go_ret
          exact ⟨by rw [HE.out, HB.out, HS.out]; rfl, HH.out.1.only⟩
end Go.Proofs.Ytngbannidbijmaa
namespace Go.Proofs.Ytngbannidbijmaa
open Go.RowKit
set_option linter.unusedVariables false
set_option linter.unusedSimpArgs false

theorem free_take {bs : List Bd} {i : Nat} (hi : i < bs.length) : Step.free (bs.take (i + 1)) = Step.free (bs.take i) + (if (bs.getD i Body.zero).k = 0 then 1 else 0) := by
  unfold Step.free
  rw [List.take_add_one, List.countP_append, List.getD_eq_getElem?_getD, List.getElem?_eq_getElem hi]
  simp [List.countP_cons]
theorem free_le (bs : List Bd) : Step.free bs ≤ bs.length := List.countP_le_length
set_option maxRecDepth 100000 in
set_option maxHeartbeats 2000000 in
theorem room_any {B : Nat} {w : World} {p : Nat} {c : Cf} {rv tv fv : Value} {s : Gs} {sh : List Bd} (F : Fr w p c rv tv s fv) (hs : SR B w fv sh) (hl : sh.length ≤ 1000000) : Calls Try.prog 75 #[.pointer (some ⟨p, 0, none⟩)] w fun e w' => e = .returned (.int .i64 ((Step.free s.bs : Int) - (sh.length : Int))) ∧ Only [] w w' := by
  obtain ⟨fa, fc, hfe, -⟩ := hs.form
  obtain ⟨m, hm⟩ : ∃ m, sh.length = m := ⟨_, rfl⟩
  rw [hm] at hfe hl
  subst hfe
  rw [hm]
  have H0 : Hid (Fr w p c rv tv s (.slice fa m fc) ∧ Only [] w w) := ⟨F, Only.refl _ _⟩
  clear F hs hm
  go_enter Try.func75, Try.ntmps75
  go_upto_region 2 with fail
  apply wp_region_lit
  refine op_val (w' := w) rfl (.pointer (some ⟨p, 0, none⟩)) (by kernel_rfl) ?_
  simp only [Act.put, List.setIfInBounds_toArray, List.set_cons_succ, List.set_cons_zero]
  refine op_val (w' := w) rfl (.pointer (some ⟨p, 0, none⟩)) (by kernel_rfl) ?_
  simp only [Act.put, List.setIfInBounds_toArray, List.set_cons_succ, List.set_cons_zero]
  refine op_val (w' := w) rfl (.pointer (some ⟨p, 10, none⟩)) (by kernel_rfl) ?_
  simp only [Act.put, List.setIfInBounds_toArray, List.set_cons_succ, List.set_cons_zero]
  refine op_val (w' := w) rfl (.pointer (some ⟨p, 12, none⟩)) (by kernel_rfl) ?_
  simp only [Act.put, List.setIfInBounds_toArray, List.set_cons_succ, List.set_cons_zero]
  refine opg_bodies (p := p) (by kernel_rfl) H0.out.1.wf.b (.tmp 9) rfl (by kernel_rfl) H0.out.1.bodies ?_
  simp only [Act.put, List.setIfInBounds_toArray, List.set_cons_succ, List.set_cons_zero]
  refine op_val (w' := w) rfl (.int .i64 0) (by kernel_rfl) ?_
  simp only [Act.put, List.setIfInBounds_toArray, List.set_cons_succ, List.set_cons_zero]
  refine wpList_nil ?_
  go_wp2_with fail
  go_loopg [3, 11] 17 (fun gk vn vi wr => ∃ i n : Nat, vi = .int .i64 i ∧ vn = .int .i64 n ∧ i ≤ 16 ∧ n ≤ i ∧ 17 - i ≤ gk ∧ Hid (Fr wr p c rv tv s (.slice fa m fc) ∧ Only [] w wr ∧ Step.free (s.bs.take i) = n))
  case atStart => exact ⟨0, 0, rfl, rfl, by omega, by omega, by omega, H0.out.1, H0.out.2, by simp [Step.free]⟩
  case round =>
    obtain ⟨i, n, rfl, rfl, hi, hni, hg, HH⟩ := hrel
    have WF : Hid _ := H0.out.1.wf
    clear H0
    by_cases hlt : i < 16
    · have z1 : (i : Int) < 16 := by omega
      obtain ⟨b, hb⟩ : ∃ b, s.bs.getD i Body.zero = b := ⟨_, rfl⟩
      have NX : Hid (Step.free (s.bs.take (i + 1)) = n + (if b.k = 0 then 1 else 0)) := by show _ = _; rw [free_take (by rw [WF.out.b]; exact hlt), HH.out.2.2, hb]
      go_upto_region 4 with fail
      apply wp_region_lit
      refine op_val (w' := wr) rfl (s.bs.getD i Body.zero).v (exec_ix WF.out.b hlt (.tmp 10) (.tmp 11) rfl (by kernel_rfl) (by kernel_rfl)) ?_
      simp only [Act.put, List.setIfInBounds_toArray, List.set_cons_succ, List.set_cons_zero]
      rw [hb]
      refine op_val (w' := wr.alloc (.cells Body.zero.cells.toArray 33)) rfl (.pointer (some ⟨wr.heap.size, 0, none⟩)) (by kernel_rfl) ?_
      simp only [Act.put, List.setIfInBounds_toArray, List.set_cons_succ, List.set_cons_zero]
      refine op_storeBl (p := wr.heap.size) (b := b) rfl (Bl.new Body.zero _ _) (.tmp 5) (.tmp 13) rfl (by kernel_rfl) (by kernel_rfl) ?_
      intro w4 hb4 o4 hz4
      have o14 : Only [] wr w4 := ((Only.refl [] wr).alloc _).then o4 (fun u hu hl => by have h2 : u = wr.heap.size := (by simpa using hu); omega)
      have H4 : Hid (Fr w4 p c rv tv s (.slice fa m fc) ∧ Only [] w w4) := ⟨HH.out.1.only o14 (by simp), HH.out.2.1.trans o14⟩
      generalize wr.heap.size = t at *
      have c0 := hb4.all.1
      clear hb4 o4 hz4 o14 HH hb
      simp only [Act.put, List.setIfInBounds_toArray, List.set_cons_succ, List.set_cons_zero]
      refine wpList_nil ?_
      by_cases hk : b.k = 0
      · have N2 : Hid (Step.free (s.bs.take (i + 1)) = n + 1) := by show _ = _; rw [NX.out, if_pos hk]
        have z2 : IntKind.i64.wrap ((n : Int) + 1) = (n + 1 : Nat) := by rw [IntWalk.i64_in _ (by omega)]; omega
        rw [hk] at c0
        clear hk NX
        go_wp2_with fail
        go_roundg (17 - (i + 1))
        case measure => omega
        case rel => exact ⟨i + 1, n + 1, by go_num, by first | rfl | (congr 1; omega) | simp, by omega, by omega, by omega, H4.out.1, H4.out.2, N2.out⟩
      · have N2 : Hid (Step.free (s.bs.take (i + 1)) = n) := by show _ = _; rw [NX.out, if_neg hk]; rfl
        clear NX
        go_wp2_with fail
        go_roundg (17 - (i + 1))
        case measure => omega
        case rel => exact ⟨i + 1, n, by go_num, rfl, by omega, by omega, by omega, H4.out.1, H4.out.2, N2.out⟩
    · have z1 : ¬ (i : Int) < 16 := by omega
      have e16 : i = 16 := by omega
      have N : Hid (Step.free s.bs = n) := by
        show _ = _
        have := HH.out.2.2
        rwa [e16, List.take_of_length_le (by rw [WF.out.b]; omega)] at this
      have cf : wr.cell? ⟨p, 212, none⟩ = some (.slice fa m fc) := HH.out.1.fired
      have z2 : IntKind.i64.wrap ((n : Int) - (m : Int)) = (n : Int) - (m : Int) := IntWalk.i64_in _ (by omega)
      go_wp2_with fail
      go_ret
      exact ⟨by rw [N.out]; first | rfl | simp, HH.out.2.1⟩
end Go.Proofs.Ytngbannidbijmaa

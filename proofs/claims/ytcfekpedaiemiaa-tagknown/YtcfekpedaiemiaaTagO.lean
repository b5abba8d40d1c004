/- Package tag: Close, Mark, Open. -/
import Derived.Test.YtcfekpedaiemiaaTagW
import Derived.Test.YtcfekpedaiemiaaConcat
import Derived.Test.YtcfekpedaiemiaaRegBy3
namespace Go.Proofs.Ytcfekpedaiemiaa
open Go.RowKit Tag

def ClosePost (w : World) (bs : List Nat) (e : Ending) (w' : World) : Prop := ∃ v, e = .returned v ∧ RowB w.heap.size w' v bs ∧ Only [] w w'
set_option maxHeartbeats 1000000 in
theorem close_any (k : Int) (v : Value) (bs : List Nat) (w : World) (h : ReadB w v bs) (hl : bs.length ≤ 140737488351232) :
    Calls Try.prog 10 #[.int .i64 k, v] w (ClosePost w (close k bs)) := by
  obtain ⟨a, cap, rfl⟩ : ∃ a cap, v = .slice a bs.length cap := by obtain ⟨_, a, cap, e, _⟩ := h; exact ⟨a, cap, e⟩
  have H : Hid _ := h
  go_enter Try.func10, Try.ntmps10
  go_wp2_with fail
  refine (sum_any k _ bs w h (by omega)).mono ?_
  rintro e w' ⟨rfl, rfl⟩
  have hs := sum_lt k bs
  obtain ⟨s, es⟩ : ∃ s, sum k bs = s := ⟨_, rfl⟩
  rw [es] at hs ⊢
  have ES : Hid _ := es
  clear h es
  go_wp2_with fail
  obtain ⟨w1, e1⟩ : ∃ w1, w1 = w.alloc (.cells #[.int .u8 ((s : Int) / 16777216), .int .u8 ((s : Int) / 65536 % 256), .int .u8 ((s : Int) / 256 % 256), .int .u8 ((s : Int) % 256)] 5) := ⟨_, rfl⟩
  rw [← e1]
  have o1 : Only [] w w1 := e1 ▸ (Only.refl [] w).alloc _
  have z1 : w1.heap.size = w.heap.size + 1 := by rw [e1]; simp
  have r1 : RowB w.heap.size w1 (.slice (some ⟨w.heap.size, 0, none⟩) 4 4) (four s) := by
    have := World.ownsRow_lit (base := w.heap.size) (e := 5) (size := 1) w #[.int .u8 ((s : Int) / 16777216), .int .u8 ((s : Int) / 65536 % 256), .int .u8 ((s : Int) / 256 % 256), .int .u8 ((s : Int) % 256)] 4 (Nat.le_refl _) (by decide) rfl
    rw [← e1] at this
    unfold RowB
    have e : bv (four s) = [.int .u8 ((s : Int) / 16777216), .int .u8 ((s : Int) / 65536 % 256), .int .u8 ((s : Int) / 256 % 256), .int .u8 ((s : Int) % 256)] := by
      simp only [bv, four, List.map_cons, List.map_nil]
      rw [show ((s / 16777216 % 256 : Nat) : Int) = (s : Int) / 16777216 by omega]
      simp
    rw [e]
    exact this
  clear e1
  rw [← z1]
  obtain ⟨w2, e2⟩ : ∃ w2, w2 = w1.alloc (.cells #[.slice a bs.length cap, .slice (some ⟨w.heap.size, 0, none⟩) 4 4] 22) := ⟨_, rfl⟩
  rw [← e2]
  have o2 : Only [] w1 w2 := e2 ▸ (Only.refl [] w1).alloc _
  have t2 : Two w2 w1.heap.size (.slice a bs.length cap) (.slice (some ⟨w.heap.size, 0, none⟩) 4 4) := e2 ▸ Two.new _ _ _ _
  have ho := o1.trans o2
  refine (concat_any w1.heap.size _ _ bs (four s) w2 (H.out.only ho (by simp)) ((r1.read (four_lt s)).only o2 (by simp)) t2.cell0 t2.cell1 (by rw [four_length]; omega) (by rw [four_length]; omega)).mono ?_
  rintro e w3 ⟨v3, rfl, r3, o3⟩
  go_wp2_with fail
  go_ret
  refine ⟨v3, rfl, ?_, ho.trans o3⟩
  unfold close
  rw [ES.out]
  exact r3.lower ho.size

theorem mark_any (v : Value) (bs : List Nat) (w : World) (h : ReadB w v bs) (hl : bs.length ≤ 140737488355328) :
    Calls Try.prog 11 #[v] w fun e w' => e = .returned (.int .i64 (Tag.mark bs : Nat)) ∧ w = w' := by
  have s1 := sum_lt 7 bs
  have s2 := sum_lt 11 bs
  go_enter Try.func11, Try.ntmps11
  go_wp2_with fail
  refine (sum_any 7 v bs w h hl).mono ?_
  rintro e w' ⟨rfl, rfl⟩
  go_wp2_with fail
  refine (sum_any 11 v bs w h hl).mono ?_
  rintro e w' ⟨rfl, rfl⟩
  go_wp2_with fail
  go_ret
  exact ⟨ret_i (by unfold Tag.mark; omega), rfl⟩

def OpenPost (w : World) (k : Int) (z : List Nat) (e : Ending) (w' : World) : Prop := ∃ v, e = .returned (.tuple #[v, .bool (opens k z)]) ∧ RowB w.heap.size w' v (body k z) ∧ Only [] w w'
theorem opens_short (k : Int) (z : List Nat) (h : z.length < 4) : opens k z = false := by unfold opens; rw [decide_eq_false (by omega)]; rfl
theorem opens_long (k : Int) (z : List Nat) (h : 4 ≤ z.length) : opens k z = decide (toldN 0 (z.drop (z.length - 4)) = sum k (z.take (z.length - 4))) := by unfold opens; rw [decide_eq_true h]; rfl
set_option maxRecDepth 100000 in
set_option maxHeartbeats 1000000 in
theorem open_any (k : Int) (v : Value) (z : List Nat) (w : World) (h : ReadC w v z) (hl : z.length ≤ 140737488355328) :
    Calls Try.prog 7 #[.int .i64 k, v] w (OpenPost w k z) := by
  obtain ⟨a, cap, rfl⟩ : ∃ a cap, v = .slice a z.length cap := by obtain ⟨_, a, cap, e, _⟩ := h; exact ⟨a, cap, e⟩
  by_cases h4 : z.length < 4
  · have z1 : (z.length : Int) < 4 := by omega
    have H : Hid _ := opens_short k z h4
    clear h
    go_enter Try.func7, Try.ntmps7
    go_wp2_with fail
    go_ret2
    refine ⟨.slice none 0 0, by rw [H.out]; rfl, ?_, Only.refl _ _⟩
    unfold body
    rw [H.out]
    exact World.ownsRow_nil _ _ _ _
  · have hO : Hid _ := opens_long k z (by omega)
    obtain ⟨b, off, rfl⟩ : ∃ b off, a = some ⟨b, off, none⟩ := by
      obtain ⟨_, a', cap', e, _, _, h⟩ := h
      injection e with e1 e2 e3
      subst e1
      rcases h with rfl | ⟨b, off, e, _⟩
      · simp at h4
      · exact ⟨b, off, e⟩
    have hcap : z.length ≤ cap := by obtain ⟨_, a', cap', e, h1, _⟩ := h; injection e with e1 e2 e3; omega
    obtain ⟨n, hn⟩ : ∃ n, z.length = n + 4 := ⟨z.length - 4, by omega⟩
    have hd : Hid _ := readC_drop h n (by omega)
    have ht : Hid _ := readC_take h n (by omega)
    rw [hn, show n + 4 - n = 4 by omega] at hd
    rw [hn] at hl hcap hO ⊢
    have HN : Hid _ := hn
    rw [show n + 4 - 4 = n by omega] at hO
    have y1 : ¬ ((n : Int) + 4 < 4) := by omega
    have y2 : (0 : Int) ≤ (n : Int) := by omega
    have y3 : (n : Int) ≤ (n : Int) + 4 := by omega
    have y4 : (n : Int) ≤ (cap : Int) := by omega
    have y5 : ¬ cap = n := by omega
    have y6 : ¬ n = cap := by omega
    clear h h4 hn
    go_enter Try.func7, Try.ntmps7
    go_wp2_with fail
    obtain ⟨T, hT⟩ : ∃ T, toldN 0 (z.drop n) = T := ⟨_, rfl⟩
    obtain ⟨S, hS⟩ : ∃ S, sum k (z.take n) = S := ⟨_, rfl⟩
    rw [hT, hS] at hO
    have HT : Hid _ := hT
    have HS : Hid _ := hS
    clear hT hS
    refine wp_region_by (fun a b => a = b) (fun _ => rfl) (fun h k => h.trans k) [(0, .int .i64 k), (1, .slice (some ⟨b, off, none⟩) (n + 4) cap), (6, .int .i64 (n : Int))] (by intro p hp; simp only [List.mem_cons, List.not_mem_nil, or_false] at hp; rcases hp with rfl | rfl | rfl <;> rfl) (by kernel_rfl) (by kernel_rfl) (fun _ => True) trivial ?_
    repeat (
      apply rb_val
      · first | rfl | exact ⟨by kernel_rfl, rfl⟩
      · intro a y hT hf
        simp at hf
        go_simp
        try rfl)
    refine rb_call (fun _ v => v = .int .i64 (T : Nat)) (fun _ => True) (by first | rfl | exact ⟨by kernel_rfl, rfl⟩) (by kernel_rfl) (fun _ _ _ _ h => h) (fun a y _ hT hf => ?_) ?_
    · subst hT
      simp at hf
      go_simp
      refine (told_any _ (z.drop n) _ (hd.out.read.only (only_drew w) (by simp)) (by rw [List.length_drop, HN.out]; omega)).mono ?_
      rintro e w' ⟨rfl, rfl⟩
      exact ⟨_, rfl, by rw [HT.out], rfl⟩
    repeat (
      apply rb_val
      · first | rfl | exact ⟨by kernel_rfl, rfl⟩
      · intro a y hT hf
        simp at hf
        go_simp
        try rfl)
    refine rb_call (fun _ v => v = .int .i64 (S : Nat)) (fun _ => True) (by first | rfl | exact ⟨by kernel_rfl, rfl⟩) (by kernel_rfl) (fun _ _ _ _ h => h) (fun a y _ hT hf => ?_) ?_
    · subst hT
      simp at hf
      go_simp
      refine (sum_any k _ (z.take n) _ (ht.out.read.only (only_drew w) (by simp)) (by rw [List.length_take]; omega)).mono ?_
      rintro e w' ⟨rfl, rfl⟩
      exact ⟨_, rfl, by rw [HS.out], rfl⟩
    repeat (
      apply rb_val
      · first | rfl | exact ⟨by kernel_rfl, rfl⟩
      · intro a y hT hf
        simp at hf
        go_simp
        try rfl)
    intro y _ hy
    subst hy
    simp only [FinA, Sp.R, forall_eq]
    simp only [Act.put, List.setIfInBounds_toArray, List.set_cons_succ, List.set_cons_zero]
    by_cases hts : T = S
    · have H1 : Hid (opens k z = true) := by show _ = _; rw [hO.out]; simpa using hts
      have z1 : (T : Int) = (S : Int) := by omega
      go_wp2_with fail
      refine (clone_any _ (z.take n) _ (ht.out.read.only (only_drew w) (by simp)) (by rw [List.length_take]; omega)).mono ?_
      rintro e w3 ⟨v3, rfl, r3, o3⟩
      go_wp2_with fail
      go_ret2
      refine ⟨v3, by rw [H1.out]; rfl, ?_, (only_drew w).trans o3⟩
      unfold body
      rw [H1.out, if_pos rfl, HN.out, Nat.add_sub_cancel]
      exact r3
    · have H1 : Hid (opens k z = false) := by show _ = _; rw [hO.out]; simpa using hts
      have z1 : ¬ (T : Int) = (S : Int) := by omega
      go_wp2_with fail
      go_ret2
      refine ⟨.slice none 0 0, by rw [H1.out]; rfl, ?_, only_drew w⟩
      unfold body
      rw [H1.out]
      exact World.ownsRow_nil _ _ _ _
end Go.Proofs.Ytcfekpedaiemiaa

/- The reference's reader of single bits; the hand's Few. -/
import Derived.Test.YtaamobhlbahnhaaBitsK
import Derived.Test.YtaamobhlbahnhaaRegBy3
import Derived.Deep.DeepCutAuto
import Derived.Deep.CutBlock
namespace Go.Proofs.Ytaamobhlbahnhaa
open Go.RowKit Bit

section
variable {w w' : World} {x y z : Value} {k : Nat}
theorem Three.frozen (h : Three w k x y z) (i : Nat) : w.frozen? ⟨k, i, none⟩ = false := by obtain ⟨t, h⟩ := h; simp [World.frozen?, h]
theorem Three.set1 (h : Three w k x y z) (u : Value) : Three (w.setCell ⟨k, 1, none⟩ u) k x u z := by
  obtain ⟨t, h⟩ := h
  exact ⟨t, by simp [World.setCell, Array.getElem?_modify, h]⟩
theorem Three.set2 (h : Three w k x y z) (u : Value) : Three (w.setCell ⟨k, 2, none⟩ u) k x y u := by
  obtain ⟨t, h⟩ := h
  exact ⟨t, by simp [World.setCell, Array.getElem?_modify, h]⟩
end

/-- the reference's reader of bs, at p; whether something lacked -/
structure RR (w : World) (b : Nat) (sv : Value) (bs : List Nat) (p : Nat) (sh : Bool) : Prop where
  three : Three w b sv (.int .i64 p) (.bool sh)
  read : ReadB w sv bs
  apart : sv.ownBlock ≠ some b
  le : p ≤ 8 * bs.length
theorem RR.only {w w' : World} {b : Nat} {sv : Value} {bs : List Nat} {p : Nat} {sh : Bool} {S : List Nat} (h : RR w b sv bs p sh) (o : Only S w w') (hb : b ∉ S) (hS : ∀ g, sv.ownBlock = some g → g ∉ S) : RR w' b sv bs p sh :=
  ⟨h.three.only o hb, h.read.only o hS, h.apart, h.le⟩

def RGetPost (b : Nat) (sv : Value) (bs : List Nat) (p k : Nat) (w : World) (e : Ending) (w' : World) : Prop :=
  e = .returned (.int .u64 (takenN bs p k : Nat)) ∧ RR w' b sv bs (p + k) false ∧ Only [b] w w'
def RLackPost (b : Nat) (sv : Value) (bs : List Nat) (p : Nat) (w : World) (e : Ending) (w' : World) : Prop :=
  e = .returned (.int .u64 0) ∧ RR w' b sv bs p true ∧ Only [b] w w'

theorem take_one (bs : List Nat) (p d : Nat) (h : p + d < 8 * bs.length) : takenN bs p (d + 1) = takenN bs p d * 2 + bs.getD ((p + d) / 8) 0 / 2 ^ (7 - (p + d) % 8) % 2 := by
  have := taken_step bs p d 1 (by omega) (by omega) (by omega)
  rw [this, show 8 - (p + d) % 8 - 1 = 7 - (p + d) % 8 by omega]
theorem one_num (T x s d : Nat) (hx : x < 256) (hT : T < 2 ^ d) (hd : d + 1 ≤ 64) :
    bits BinOp.or IntKind.u64 (IntKind.u64.wrap ((T : Int) * 2)) (IntKind.u64.wrap (bits BinOp.and IntKind.u8 ((x : Int) / 2 ^ s) 1)) = ((T * 2 + x / 2 ^ s % 2 : Nat) : Int) := by
  have e : (x : Int) / 2 ^ s = ((x / 2 ^ s : Nat) : Int) := by simp
  have h := u8_and_nat (x / 2 ^ s) 1 (Nat.lt_of_le_of_lt (Nat.div_le_self _ _) hx) (by omega)
  rw [nat_mask1] at h
  rw [e]
  rw [show ((1 : Nat) : Int) = (1 : Int) from rfl] at h
  rw [h]
  have hm : IntKind.u64.wrap ((x / 2 ^ s % 2 : Nat) : Int) = ((x / 2 ^ s % 2 : Nat) : Int) := by rw [wrap_u64]; omega
  rw [hm]
  have g := get_num T x 1 s d hT hd
  simp only [Nat.pow_one, Int.pow_one] at g
  have e2 : ((x : Int) / 2 ^ s % 2) = ((x / 2 ^ s % 2 : Nat) : Int) := by simp
  rw [e2] at g
  exact g

set_option maxHeartbeats 1000000 in
theorem rget_lack (b : Nat) (sv : Value) (bs : List Nat) (p : Nat) (n : Int) (hl : bs.length ≤ 1099511627776) (w : World) (h : RR w b sv bs p false) (hk : 8 * bs.length < p + sz n) :
    Calls Try.prog 28 #[.pointer (some ⟨b, 0, none⟩), .int .i64 n] w (RLackPost b sv bs p w) := by
  have le := h.le
  have c0 := h.three.cell0
  have c1 := h.three.cell1
  have c2 := h.three.cell2
  obtain ⟨_, a, cap, rfl, _⟩ := h.read
  have H : Hid _ := h
  have hN := sz_le n
  clear h
  go_enter Try.func28, Try.ntmps28
  go_upto_region 1 with fail
  go_cut [1] (fun v1 wx => wx = w ∧ v1 = .int .i64 (sz n : Int))
  case first =>
    rcases (show n < 0 ∨ (0 ≤ n ∧ n ≤ 64) ∨ 64 < n by omega) with h | h | h
    all_goals
      go_wp2_with fail
      all_goals
        go_meet
        refine ⟨rfl, ?_⟩
        congr 1
        unfold sz
        omega
  case rest =>
    obtain ⟨rfl, rfl⟩ := hcut
    generalize sz n = N at *
    have hw1 : IntKind.i64.wrap (8 * (bs.length : Int)) = 8 * bs.length := IntWalk.i64_in _ (by omega)
    have hw2 : IntKind.i64.wrap (8 * (bs.length : Int) - p) = 8 * bs.length - p := IntWalk.i64_in _ (by omega)
    have z1 : (8 * (bs.length : Int) - p) < (N : Int) := by omega
    have z2 : decide ((8 * (bs.length : Int) - p) < (N : Int)) = true := by simpa using z1
    go_wp2_with fail
    go_quiet (fail)
    have od := only_drewN wc nq
    have H2 : Hid (RR (wc.drewN nq) b (.slice a bs.length cap) bs p false ∧ Only [] wc (wc.drewN nq)) := ⟨H.out.only od (by simp) (by simp), od⟩
    clear od c0 c1 c2
    generalize wc.drewN nq = w2 at *
    have c2 := H2.out.1.three.cell2
    have f2 := H2.out.1.three.frozen 2
    go_wp2_with fail
    go_ret
    have oS : Only [b] w2 (w2.setCell ⟨b, 2, none⟩ (.bool true)) := (Only.refl _ _).setCell (by simp) _
    refine ⟨rfl, ⟨H2.out.1.three.set2 _, H2.out.1.read.only oS fun g hg hm => ?_, H2.out.1.apart, H2.out.1.le⟩, (H2.out.2.weaken (by simp)).trans oS⟩
    have : g = b := by simpa using hm
    exact H2.out.1.apart (this ▸ hg)

set_option maxHeartbeats 1000000 in
theorem rget_any (b : Nat) (sv : Value) (bs : List Nat) (p : Nat) (n : Int) (hl : bs.length ≤ 1099511627776) (w : World) (h : RR w b sv bs p false) (hk : p + sz n ≤ 8 * bs.length) :
    Calls Try.prog 28 #[.pointer (some ⟨b, 0, none⟩), .int .i64 n] w (RGetPost b sv bs p (sz n) w) := by
  have le := h.le
  have c0 := h.three.cell0
  have c1 := h.three.cell1
  have c2 := h.three.cell2
  obtain ⟨h8, a, cap, rfl, hrd⟩ := h.read
  have H : Hid _ := h
  have H8 : Hid _ := h8
  have HRD : Hid (bs = [] ∨ ∃ g off, a = some ⟨g, off, none⟩) := by
    rcases hrd with h | ⟨g, off, h, _⟩
    · exact Or.inl h
    · exact Or.inr ⟨g, off, h⟩
  have hN := sz_le n
  clear h h8 hrd
  go_enter Try.func28, Try.ntmps28
  go_upto_region 1 with fail
  go_cut [1] (fun v1 wx => wx = w ∧ v1 = .int .i64 (sz n : Int))
  case first =>
    rcases (show n < 0 ∨ (0 ≤ n ∧ n ≤ 64) ∨ 64 < n by omega) with h | h | h
    all_goals
      go_wp2_with fail
      all_goals
        go_meet
        refine ⟨rfl, ?_⟩
        congr 1
        unfold sz
        omega
  case rest =>
    obtain ⟨rfl, rfl⟩ := hcut
    generalize sz n = N at *
    have hw1 : IntKind.i64.wrap (8 * (bs.length : Int)) = 8 * bs.length := IntWalk.i64_in _ (by omega)
    have hw2 : IntKind.i64.wrap (8 * (bs.length : Int) - p) = 8 * bs.length - p := IntWalk.i64_in _ (by omega)
    have z1 : ¬ (8 * (bs.length : Int) - p) < (N : Int) := by omega
    have z2 : decide ((8 * (bs.length : Int) - p) < (N : Int)) = false := by simpa using z1
    go_wp2_with fail
    go_quiet (fail)
    have od := only_drewN wc nq
    have H2 : Hid (RR (wc.drewN nq) b (.slice a bs.length cap) bs p false ∧ Only [b] wc (wc.drewN nq)) := ⟨H.out.only od (by simp) (by simp), od.weaken (by simp)⟩
    clear od c0 c1 c2 hw1 hw2 z1 z2
    generalize wc.drewN nq = w2 at *
    go_wp2_with fail
    go_loopg [5, 6] 65 (fun gk vv vk wr => ∃ (d : Nat), vk = .int .i64 d ∧ vv = .int .u64 (takenN bs p d : Nat) ∧ d ≤ N ∧ N - d ≤ gk ∧ Hid (RR wr b (.slice a bs.length cap) bs (p + d) false ∧ Only [b] wc wr))
    case atStart => exact ⟨0, rfl, by simp [takenN, num], by omega, by omega, H2.out⟩
    case round =>
      obtain ⟨d, rfl, rfl, hd, hg, HR⟩ := hrel
      by_cases hlt : d < N
      · have z1 : (d : Int) < (N : Int) := by omega
        have tl := taken_lt bs p d
        have t1 := take_one bs p d (by omega)
        have q0 := HR.out.1.three.cell0
        have q1 := HR.out.1.three.cell1
        obtain ⟨g, off, rfl⟩ : ∃ g off, a = some ⟨g, off, none⟩ := by
          rcases HRD.out with h | h
          · rw [h] at hk; simp at hk; omega
          · exact h
        have hcells : ∀ i, i < bs.length → wr.cell? ⟨g, off + i, none⟩ = some (.int .u8 (bs.getD i 0 : Nat)) := by
          obtain ⟨_, a', cap', e, hh⟩ := HR.out.1.read
          simp only [Value.slice.injEq] at e
          rcases hh with rfl | ⟨g', off', e2, _, hc⟩
          · intro i hi; simp at hi
          · rw [e2] at e
            obtain ⟨e1, _, _⟩ := e
            injection e1 with e1
            injection e1 with e3 e4
            subst e3 e4
            exact hc
        obtain ⟨q, hq⟩ : ∃ q, p + d = q := ⟨_, rfl⟩
        have hbyte := hcells (q / 8) (by omega)
        have hb8 : bs.getD (q / 8) 0 < 256 := by
          rw [List.getD_eq_getElem?_getD, List.getElem?_eq_getElem (by omega)]
          exact H8.out _ (List.getElem_mem _)
        obtain ⟨x, hx⟩ : ∃ x, bs.getD (q / 8) 0 = x := ⟨_, rfl⟩
        rw [hq, hx] at t1
        rw [hx] at hb8 hbyte
        rw [hq] at q1
        obtain ⟨j, hj⟩ : ∃ j, q / 8 = j := ⟨_, rfl⟩
        rw [hj] at hbyte
        obtain ⟨s, hs⟩ : ∃ s, 7 - q % 8 = s := ⟨_, rfl⟩
        rw [hs] at t1
        obtain ⟨T, hT⟩ : ∃ T, takenN bs p d = T := ⟨_, rfl⟩
        rw [hT] at tl t1
        rw [hT]
        have lq : q ≤ 8796093022208 := by omega
        have hjl : (j : Int) < (bs.length : Int) := by omega
        have e1 : IntKind.i64.wrap ((q : Int) / 8) = (j : Int) := by rw [IntWalk.i64_in _ (by omega)]; omega
        have e2 : IntKind.i64.wrap ((q : Int).tdiv 8) = (j : Int) := by rw [Int.tdiv_eq_ediv_of_nonneg (by omega)]; exact e1
        have e3 : IntKind.i64.wrap (7 - (q : Int) % 8) = (s : Int) := by rw [IntWalk.i64_in _ (by omega)]; omega
        have e4 : IntKind.i64.wrap (7 - (q : Int).tmod 8) = (s : Int) := by rw [Int.tmod_eq_emod_of_nonneg (by omega)]; exact e3
        have e5 : IntKind.u64.wrap (s : Int) = (s : Int) := by rw [wrap_u64]; omega
        have e6 : (q : Int).tmod 8 = (q : Int) % 8 := Int.tmod_eq_emod_of_nonneg (by omega)
        have s7 : s ≤ 7 := by omega
        have ON := one_num T x s d hb8 tl (by omega)
        rw [← t1] at ON
        have AP : Hid (g ≠ b) := by show ¬ _; have := HR.out.1.apart; simpa [Value.ownBlock] using this
        have HONE : Hid _ := ON
        have HQ : Hid _ := hq
        clear hcells hx hq hj hs hT t1 ON
        go_wp2_with fail
        go_quiet (fail)
        rw [HONE.out]
        have HD : Hid (RR (wr.drewN nq) b (.slice (some ⟨g, off, none⟩) bs.length cap) bs q false ∧ Only [b] wc (wr.drewN nq)) := by
          have := HR.out.1.only (only_drewN wr nq) (by simp) (by simp)
          rw [HQ.out] at this
          exact ⟨this, HR.out.2.then (only_drewN wr nq) (by simp)⟩
        clear q0 q1 hbyte HR HONE e1 e2 e3 e4 e5 e6
        generalize wr.drewN nq = w3 at *
        have s1 := HD.out.1.three.cell1
        have s2 := HD.out.1.three.frozen 1
        go_wp2_with fail
        go_roundg (N - (d + 1))
        case measure => omega
        case rel =>
          have oS : Only [b] w3 (w3.setCell ⟨b, 1, none⟩ (.int .i64 (q + 1))) := (Only.refl _ _).setCell (by simp) _
          refine ⟨d + 1, by go_num, rfl, by omega, Nat.le_refl _, ?_, HD.out.2.trans oS⟩
          refine ⟨?_, HD.out.1.read.only oS (fun x hx => ?_), HD.out.1.apart, by have := HQ.out; omega⟩
          · have := HD.out.1.three.set1 (.int .i64 ((p + (d + 1) : Nat) : Int))
            rw [show ((p + (d + 1) : Nat) : Int) = (q : Int) + 1 by have := HQ.out; omega] at this ⊢
            exact this
          · have hx : g = x := by simpa [Value.ownBlock] using hx
            subst hx
            simpa using AP.out
      · obtain rfl : d = N := by omega
        go_wp2_with fail
        go_ret
        exact ⟨rfl, HR.out.1, HR.out.2⟩
end Go.Proofs.Ytaamobhlbahnhaa

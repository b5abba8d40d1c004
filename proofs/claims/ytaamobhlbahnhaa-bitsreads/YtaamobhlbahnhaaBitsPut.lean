/- Package bits: what a Writer is in memory; Put. -/
import Derived.Test.YtaamobhlbahnhaaBitsW
import Derived.Test.YtaamobhlbahnhaaOwn
import Derived.Deep.LoopGhost
import Derived.Deep.RegionHeld3
import Derived.Deep.RegionLaw
import Derived.StillTailTactics
import Derived.BigQuiet
import Derived.BigRegion
import Derived.RegionTactic
import Derived.Deep.DeepCutAuto
import Derived.Deep.CutBlock
namespace Go.Proofs.Ytaamobhlbahnhaa
open Go.RowKit Bit

/-- bytes as values -/
def bv (bs : List Nat) : List Value := bs.map fun (b : Nat) => .int .u8 (b : Int)
@[simp] theorem bv_length (bs : List Nat) : (bv bs).length = bs.length := by simp [bv]
theorem bv_get (bs : List Nat) (i : Nat) (b : Nat) (h : bs[i]? = some b) : (bv bs)[i]? = some (.int .u8 (b : Int)) := by simp [bv, h]
theorem bv_set (bs : List Nat) (i b : Nat) : (bv bs).set i (.int .u8 (b : Int)) = bv (bs.set i b) := by simp [bv, List.map_set]
theorem bv_one (bs : List Nat) : ∀ u ∈ bv bs, u.oneCell' = true := fun u hu => by
  obtain ⟨x, _, rfl⟩ := List.mem_map.1 hu; rfl

/-- a row of bytes of the call's own -/
def RowB (B : Nat) (w : World) (v : Value) (bs : List Nat) : Prop := w.ownsRow B 5 1 v bs.length (bv bs)
theorem RowB.only {B : Nat} {w w' : World} {v : Value} {bs : List Nat} {S : List Nat} (h : RowB B w v bs) (o : Only S w w') (hS : ∀ g, v.ownBlock = some g → g ∉ S) : RowB B w' v bs := own_only h o hS

/-- a Writer: the bits l, its bytes in the row sv -/
structure Wr (B : Nat) (w : World) (b : Nat) (sv : Value) (l : List Bool) : Prop where
  two : Two w b sv (.int .i64 l.length)
  row : RowB B w sv (pack l)
  apart : sv.ownBlock ≠ some b
theorem Wr.only {B : Nat} {w w' : World} {b : Nat} {sv : Value} {l : List Bool} {S : List Nat} (h : Wr B w b sv l) (o : Only S w w') (hb : b ∉ S) (hS : ∀ g, sv.ownBlock = some g → g ∉ S) : Wr B w' b sv l :=
  ⟨h.two.only o hb, h.row.only o hS, h.apart⟩
theorem Wr.from {B : Nat} {w : World} {b : Nat} {sv : Value} {l : List Bool} (h : Wr B w b sv l) : ∀ g, sv.ownBlock = some g → B ≤ g := fun g hg => (World.ownsRow.lt h.row g hg).1
theorem Wr.lt {B : Nat} {w : World} {b : Nat} {sv : Value} {l : List Bool} (h : Wr B w b sv l) : ∀ g, sv.ownBlock = some g → g < w.heap.size := fun g hg => (World.ownsRow.lt h.row g hg).2
def PutPost (B b : Nat) (w : World) (sv : Value) (l : List Bool) (e : Ending) (w' : World) : Prop := e = .returned (.tuple #[]) ∧ ∃ sv', Wr B w' b sv' l ∧ Moved b w w' sv sv'

theorem info_u8 : (Try.prog.info? 5).map (fun i => (i.zero, i.size, i.bytes)) = some (some (.int .u8 0), 1, 1) := by kernel_rfl

theorem put_num (x v m p t : Nat) (hx : x < 256) (hl : v / 2 ^ m % 2 ^ p * 2 ^ t < 256) :
    bits BinOp.or IntKind.u8 (x : Int) (IntKind.u64.wrap ((v : Int) / 2 ^ m % 2 ^ p * 2 ^ t) % 256) = ((x ||| v / 2 ^ m % 2 ^ p * 2 ^ t : Nat) : Int) := by
  have e : ((v : Int) / 2 ^ m % 2 ^ p * 2 ^ t) = ((v / 2 ^ m % 2 ^ p * 2 ^ t : Nat) : Int) := by simp
  rw [e, wrap_u64]
  generalize v / 2 ^ m % 2 ^ p * 2 ^ t = y at *
  rw [show (y : Int) % 18446744073709551616 % 256 = (y : Int) by omega]
  exact u8_or_nat x y hx hl
theorem bits_step (l : List Bool) (v m p N : Nat) (h : m + p ≤ N) : l ++ bitsOf (v / 2 ^ m) (N - m) = (l ++ bitsOf (v / 2 ^ (m + p)) (N - (m + p))) ++ bitsOf (v / 2 ^ m) p := by
  rw [show N - m = (N - (m + p)) + p by omega, bitsOf_add, Nat.div_div_eq_div_mul, ← Nat.pow_add, List.append_assoc]

set_option maxHeartbeats 1000000 in
theorem put_any (B b v : Nat) (n : Int) (hv : v < 18446744073709551616) (l : List Bool) (hl : l.length ≤ 1000000000) (sv : Value) (w : World) (h : Wr B w b sv l) (hB : B ≤ w.heap.size) :
    Calls Try.prog 11 #[.pointer (some ⟨b, 0, none⟩), .int .u64 v, .int .i64 n] w (PutPost B b w sv (l ++ bitsOf v (sz n))) := by
  have H : Hid _ := h
  have hN := sz_le n
  clear h
  go_enter Try.func11, Try.ntmps11
  go_wp2_with fail
  refine (size_any _ _).mono ?_
  rintro e w' ⟨rfl, rfl⟩
  go_wp2_with fail
  generalize sz n = N at *
  go_loopg [2] 65 (fun gk vn wr => ∃ (k : Nat) (sv' : Value), vn = .int .i64 k ∧ k ≤ N ∧ k ≤ gk ∧ Hid (Wr B wr b sv' (l ++ bitsOf (v / 2 ^ k) (N - k)) ∧ Moved b w wr sv sv'))
  case atStart => exact ⟨N, sv, rfl, Nat.le_refl _, by omega, by rw [Nat.sub_self, bitsOf, List.append_nil]; exact H.out, Moved.refl _ _ _⟩
  case round =>
    obtain ⟨k, sv', rfl, hk, hg, HR⟩ := hrel
    by_cases h0 : k = 0
    · subst h0
      go_wp2_with fail
      go_end0
      have e := HR.out.1
      simp only [Nat.pow_zero, Nat.div_one, Nat.sub_zero] at e
      exact ⟨rfl, sv', e, HR.out.2⟩
    · have z1 : (0 : Int) < (k : Int) := by omega
      obtain ⟨L, hL⟩ : ∃ L, l ++ bitsOf (v / 2 ^ k) (N - k) = L := ⟨_, rfl⟩
      rw [hL] at HR
      have hLl : L.length ≤ 1000000064 := by rw [← hL]; simp; omega
      have HL : Hid _ := hL
      clear hL
      have q0 := HR.out.1.two.cell0
      have q1 := HR.out.1.two.cell1
      have f0 := HR.out.1.two.frozen 0
      have f1 := HR.out.1.two.frozen 1
      have lt := HR.out.1.two.lt
      go_wp2_with fail
      refine (room_any _ (by omega) _).mono ?_
      rintro e w' ⟨rfl, rfl⟩
      have hr8 : 8 - L.length % 8 ≤ 8 := by omega
      have HRr : Hid (8 - L.length % 8 = 8 - L.length % 8) := rfl
      obtain ⟨r, hr⟩ : ∃ r, 8 - L.length % 8 = r := ⟨_, rfl⟩
      have hr1 : 1 ≤ r ∧ r ≤ 8 := by omega
      rw [hr]
      have Hr : Hid _ := hr
      clear hr HRr hr8
      go_upto_if 20 with fail
      go_cut [] (fun wx => ∃ sv1, Hid (Two wx b sv1 (.int .i64 L.length) ∧ RowB B wx sv1 (Bit.begun L) ∧ sv1.ownBlock ≠ some b ∧ Moved b w wx sv sv1))
      case first =>
        by_cases hq : L.length % 8 = 0
        · have e8 : r = 8 := by have := Hr.out; omega
          subst e8
          obtain ⟨w5, e5⟩ : ∃ w5, w5 = wr.alloc (.cells #[.int .u8 0] 5) := ⟨_, rfl⟩
          have o5 : Only [] wr w5 := e5 ▸ (Only.refl [] wr).alloc _
          have s5 : w5.heap.size = wr.heap.size + 1 := by rw [e5]; simp
          have n5 : Var w5 wr.heap.size (.int .u8 0) := e5 ▸ Var.new _ _ _
          have nc := n5.cell
          have news : ∀ j u, [Value.int .u8 0][j]? = some u → w5.cell? ((⟨wr.heap.size, 0, none⟩ : Addr).add j) = some u := fun j u hj => by
            match j, hj with
            | 0, hj => simp at hj; subst hj; simpa [Addr.add] using nc
            | k + 1, hj => simp at hj
          have row5 := HR.out.1.row.only o5 (by simp)
          have two5 := HR.out.1.two.only o5 (by simp)
          have ap := HR.out.1.apart
          have FIN : Hid (∀ g cap w6, w6.ownsRow B 5 1 (.slice (some ⟨g, 0, none⟩) ((pack L).length + 1) cap) ((pack L).length + 1) (bv (pack L) ++ [.int .u8 0]) → w5.grownBy w6 sv'.ownBlock → (sv'.ownBlock = some g ∨ g = wr.heap.size + 1) →
              Two w6 b sv' (.int .i64 L.length) ∧ Hid (Two (w6.setCell ⟨b, 0, none⟩ (.slice (some ⟨g, 0, none⟩) ((pack L).length + 1) cap)) b (.slice (some ⟨g, 0, none⟩) ((pack L).length + 1) cap) (.int .i64 L.length) ∧
                RowB B (w6.setCell ⟨b, 0, none⟩ (.slice (some ⟨g, 0, none⟩) ((pack L).length + 1) cap)) (.slice (some ⟨g, 0, none⟩) ((pack L).length + 1) cap) (Bit.begun L) ∧ (Value.slice (some ⟨g, 0, none⟩) ((pack L).length + 1) cap).ownBlock ≠ some b ∧
                Moved b w (w6.setCell ⟨b, 0, none⟩ (.slice (some ⟨g, 0, none⟩) ((pack L).length + 1) cap)) sv (.slice (some ⟨g, 0, none⟩) ((pack L).length + 1) cap))) := fun g cap w6 h1 h2 h3 => by
            have og := grown_only h2
            have t6 : Two w6 b sv' (.int .i64 L.length) := two5.only og (by simp [Option.mem_toList]; exact ap)
            have gne : g ≠ b := fun e => by
              subst e
              rcases h3 with h3 | h3
              · exact ap h3
              · omega
            have oS : Only [b] w6 (w6.setCell ⟨b, 0, none⟩ (.slice (some ⟨g, 0, none⟩) ((pack L).length + 1) cap)) := (Only.refl _ _).setCell (by simp) _
            refine ⟨t6, t6.set0 _, ?_, by simpa [Value.ownBlock] using gne, ?_⟩
            · unfold RowB Bit.begun
              rw [if_pos hq, List.length_append, List.length_singleton]
              have e : bv (pack L ++ [0]) = bv (pack L) ++ [.int .u8 0] := by simp [bv]
              rw [e]
              exact own_only h1 oS fun x hx => by
                have hx : g = x := by simpa [Value.ownBlock] using hx
                subst hx
                simpa using gne
            · have mv6 : Moved b w5 w6 sv' (.slice (some ⟨g, 0, none⟩) ((pack L).length + 1) cap) := ⟨og.weaken (fun k hk _ => List.mem_cons_of_mem _ hk), fun x hx => by
                have hx : g = x := by simpa [Value.ownBlock] using hx
                subst hx
                rcases h3 with h3 | h3
                · exact Or.inl h3
                · right; omega⟩
              exact ((HR.out.2.more o5 (by simp)).trans mv6).trans (Moved.of_only oS)
          have lp : (pack L).length ≤ 1000000064 := by rw [pack_length]; omega
          have LP : Hid ((pack L).length = (pack L).length) := rfl
          obtain ⟨i0, hi0, hz0, hz1, hz2⟩ := info_parts info_u8
          have II : Hid _ := hi0
          have I0 : Hid _ := hz0
          have I1 : Hid _ := hz1
          have I2 : Hid _ := hz2
          have ROW : Hid _ := row5
          have NEWS : Hid _ := news
          have S5 : Hid _ := s5
          have E5 : Hid _ := e5
          have HB5 : B ≤ w5.heap.size := by have := HR.out.2.only.size; omega
          have HQ : Hid _ := hq
          clear hi0 hz0 hz1 hz2 row5 news s5 e5 o5 n5 nc two5 ap hq
          go_wp2_with (
            at_builtin
            rw [← E5.out]
            refine wpList_append_lies w5 rfl (.tmp 25) (.tmp 26) 30 rfl B 5 i0 (.int .u8 0) 1 1 Try.underlying30 II.out I0.out I1.out I2.out rfl (by decide) sv' (pack L).length (bv (pack L)) rfl ROW.out ⟨wr.heap.size, 0, none⟩ 1 1 [.int .u8 0] rfl rfl NEWS.out (by intro u hu; simp at hu; subst hu; rfl) (by decide) (by unfold maxLen; omega) (by omega) HB5 (wr.heap.size + 1) S5.out ?_
            intro g cap w6 hown hgrow hat hlt
            have t6 := FIN.out g cap w6 hown hgrow hat
            have c0 := t6.1.cell0
            have f0 := t6.1.frozen 0
            have HH : Hid _ := t6.2
            clear hown hgrow hat hlt t6)
          go_meet
          exact ⟨_, HH⟩
        · have e8 : ¬ (r : Int) = 8 := by have := Hr.out; omega
          have hr' : ((r : Int) == 8) = false := by simpa using e8
          go_wp2_with fail
          go_meet
          refine ⟨sv', HR.out.1.two, ?_, HR.out.1.apart, HR.out.2⟩
          unfold Bit.begun
          rw [if_neg hq]
          exact HR.out.1.row
      case rest =>
        obtain ⟨sv1, HC⟩ := hcut
        clear q0 q1 f0 f1 lt
        go_upto_region 6 with fail
        have hcell := HC.out.1.cell0
        go_cut [7] (fun v7 wx => wx = wc ∧ ∃ p : Nat, v7 = .int .i64 p ∧ 1 ≤ p ∧ p ≤ k ∧ p ≤ r)
        case first =>
          by_cases hkr : k ≤ r
          · have hkr' : ¬ (r : Int) < k := by omega
            go_wp2_with fail
            go_meet
            exact ⟨rfl, k, rfl, by omega, Nat.le_refl _, hkr⟩
          · have hkr' : (r : Int) < k := by omega
            go_wp2_with fail
            go_meet
            exact ⟨rfl, r, rfl, by omega, by omega, Nat.le_refl _⟩
        case rest =>
          obtain ⟨rfl, p, rfl, hp1, hp2, hp3⟩ := hcut
          obtain ⟨m, rfl⟩ : ∃ m, k = m + p := ⟨k - p, by omega⟩
          obtain ⟨t, rfl⟩ : ∃ t, r = t + p := ⟨r - p, by omega⟩
          have hrow := HC.out.2.1
          unfold RowB at hrow
          rw [Bit.begun_length] at hrow
          obtain ⟨g, cap, rfl, hBg, hgl⟩ := World.ownsRow.form hrow (by omega)
          have hbyte := World.ownsRow.cellAt hrow (L.length / 8) (by omega)
          rw [bv_get _ _ _ (Bit.begun_last L)] at hbyte
          have hfz := World.ownsRow.frozenAt hrow (L.length / 8)
          have hlt := byteAt_lt L (L.length / 8)
          generalize hx : byteAt L (L.length / 8) = x at *
          generalize hj : L.length / 8 = j at *
          have hj1 : j ≤ 1000000064 := by omega
          have HX : Hid _ := hx
          have HJ : Hid _ := hj
          have HROW : Hid _ := hrow
          have hh0 : Hid _ := h0
          clear hx hj hrow z1 h0
          have hw1 : IntKind.i64.wrap (j : Int) = j := IntWalk.i64_in _ (by omega)
          have hw2 : IntKind.i64.wrap (t : Int) = t := IntWalk.i64_in _ (by omega)
          have hix : (j : Int) < (j : Int) + 1 := by omega
          have v0 : (0 : Int) ≤ (v : Int) / 2 ^ m := Int.ediv_nonneg (by omega) (Int.le_of_lt (Int.pow_pos (by decide)))
          have v1 : (v : Int) / 2 ^ m < 18446744073709551616 := Int.lt_of_le_of_lt (Int.ediv_le_self _ (by omega)) (by omega)
          have V : Hid _ := And.intro v0 v1
          clear v0 v1
          go_wp2_with fail
          go_still_tail 24, (by kernel_rfl)
          still_call (low_int _ _ V.out.1 V.out.2 (by omega) _)
          repeat still_step
          refine wpStill_nil ?_
          change wpList _ _ _ _ _ wc.drew
          have od := only_drew wc
          have HD : Hid (Two wc.drew b (.slice (some ⟨g, 0, none⟩) (j + 1) cap) (.int .i64 L.length) ∧ wc.drew.ownsRow B 5 1 (.slice (some ⟨g, 0, none⟩) (j + 1) cap) (j + 1) (bv (Bit.begun L)) ∧ g ≠ b ∧ Moved b w wc.drew sv (.slice (some ⟨g, 0, none⟩) (j + 1) cap)) :=
            ⟨HC.out.1.only od (by simp), own_only HROW.out od (by simp), by have := HC.out.2.2.1; simpa [Value.ownBlock] using this, HC.out.2.2.2.more od (by simp)⟩
          replace hbyte : wc.drew.cell? ⟨g, j, none⟩ = some (.int .u8 x) := hbyte
          clear od HC hcell HROW
          generalize wc.drew = w2 at *
          have tw : ∀ u, Two (w2.setCell ⟨g, j, none⟩ u) b (.slice (some ⟨g, 0, none⟩) (j + 1) cap) (.int .i64 L.length) := fun u => HD.out.1.other (by have := HD.out.2.2.1; simpa using fun e => this (Eq.symm e)) u
          have s1 : ∀ u, (w2.setCell ⟨g, j, none⟩ u).cell? ⟨b, 1, none⟩ = some (.int .i64 L.length) := fun u => (tw u).cell1
          have s2 : ∀ u, (w2.setCell ⟨g, j, none⟩ u).frozen? ⟨b, 1, none⟩ = false := fun u => (tw u).frozen 1
          have s3 : w2.frozen? ⟨g, j, none⟩ = false := World.ownsRow.frozenAt HD.out.2.1 j
          have s4 : w2.cell? ⟨g, j, none⟩ = some (.int .u8 x) := hbyte
          have TW : Hid _ := tw
          clear tw
          go_wp2_with fail
          go_roundg m
          case measure => omega
          case rel =>
            have hm8 : L.length % 8 + (bitsOf (v / 2 ^ m) p).length ≤ 8 := by have := Hr.out; rw [bitsOf_length]; omega
            have hmore := byteAt_more L (bitsOf (v / 2 ^ m) p) hm8
            have hpm := pack_more L (bitsOf (v / 2 ^ m) p) (by rw [bitsOf_length]; omega) hm8
            have ht : 8 - L.length % 8 - p = t := by have := Hr.out; omega
            have hb8 := byteAt_lt (L ++ bitsOf (v / 2 ^ m) p) (L.length / 8)
            rw [num_bitsOf, bitsOf_length, ht, HJ.out, HX.out] at hmore
            rw [num_bitsOf, bitsOf_length, ht, HJ.out, HX.out] at hpm
            rw [HJ.out, hmore.1] at hb8
            rw [put_num x v m p t hlt (by omega), hmore.2]
            have st := World.ownsRow.stored HD.out.2.1 j (.int .u8 ((x + v / 2 ^ m % 2 ^ p * 2 ^ t : Nat) : Int))
            have oS : Only [b] (w2.setCell ⟨g, j, none⟩ (.int .u8 ((x + v / 2 ^ m % 2 ^ p * 2 ^ t : Nat) : Int))) ((w2.setCell ⟨g, j, none⟩ (.int .u8 ((x + v / 2 ^ m % 2 ^ p * 2 ^ t : Nat) : Int))).setCell ⟨b, 1, none⟩ (.int .i64 (L.length + p))) := (Only.refl _ _).setCell (by simp) _
            have hlen : (pack (L ++ bitsOf (v / 2 ^ m) p)).length = j + 1 := by rw [pack_length, List.length_append, bitsOf_length]; have := Hr.out; have := HJ.out; omega
            refine ⟨m, .slice (some ⟨g, 0, none⟩) (j + 1) cap, rfl, by omega, Nat.le_refl _, ?_, ?_⟩
            · rw [bits_step l v m p N hk, HL.out]
              refine ⟨?_, ?_, by have := HD.out.2.2.1; simpa [Value.ownBlock] using this⟩
              · have := (TW.out (.int .u8 ((x + v / 2 ^ m % 2 ^ p * 2 ^ t : Nat) : Int))).set1 (.int .i64 ((L ++ bitsOf (v / 2 ^ m) p).length : Nat))
                rw [List.length_append, bitsOf_length] at this ⊢
                simpa using this
              · unfold RowB
                rw [hlen, ← hpm, ← bv_set]
                refine own_only st.1 oS fun y hy => ?_
                have hy : g = y := by simpa [Value.ownBlock] using hy
                subst hy
                simpa using HD.out.2.2.1
            · have mv : Moved b w2 (w2.setCell ⟨g, j, none⟩ (.int .u8 ((x + v / 2 ^ m % 2 ^ p * 2 ^ t : Nat) : Int))) (.slice (some ⟨g, 0, none⟩) (j + 1) cap) (.slice (some ⟨g, 0, none⟩) (j + 1) cap) :=
                ⟨(grown_only st.2).weaken (by simp [Value.ownBlock]), fun _ h => Or.inl h⟩
              exact (HD.out.2.2.2.trans mv).trans (Moved.of_only oS)
end Go.Proofs.Ytaamobhlbahnhaa

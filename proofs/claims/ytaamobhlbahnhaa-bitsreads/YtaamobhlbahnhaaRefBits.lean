/- The reference's writer of single bits: Put, Signed. -/
import Derived.Test.YtaamobhlbahnhaaBitsK
import Derived.Deep.DeepCutAuto
import Derived.Deep.CutBlock
namespace Go.Proofs.Ytaamobhlbahnhaa
open Go.RowKit Bit

/-- bools as values -/
def vb (l : List Bool) : List Value := l.map Value.bool
@[simp] theorem vb_length (l : List Bool) : (vb l).length = l.length := by simp [vb]
def RowV (B : Nat) (w : World) (v : Value) (l : List Bool) : Prop := w.ownsRow B 4 1 v l.length (vb l)
theorem RowV.only {B : Nat} {w w' : World} {v : Value} {l : List Bool} {S : List Nat} (h : RowV B w v l) (o : Only S w w') (hS : ∀ g, v.ownBlock = some g → g ∉ S) : RowV B w' v l := own_only h o hS
/-- the reference's writer: the bits l in the row sv -/
structure Rf (B : Nat) (w : World) (b : Nat) (sv : Value) (l : List Bool) : Prop where
  var : Var w b sv
  row : RowV B w sv l
  apart : sv.ownBlock ≠ some b
theorem Rf.only {B : Nat} {w w' : World} {b : Nat} {sv : Value} {l : List Bool} {S : List Nat} (h : Rf B w b sv l) (o : Only S w w') (hb : b ∉ S) (hS : ∀ g, sv.ownBlock = some g → g ∉ S) : Rf B w' b sv l :=
  ⟨h.var.only o hb, h.row.only o hS, h.apart⟩
theorem Rf.from {B : Nat} {w : World} {b : Nat} {sv : Value} {l : List Bool} (h : Rf B w b sv l) : ∀ g, sv.ownBlock = some g → B ≤ g := fun g hg => (World.ownsRow.lt h.row g hg).1
theorem Rf.lt {B : Nat} {w : World} {b : Nat} {sv : Value} {l : List Bool} (h : Rf B w b sv l) : ∀ g, sv.ownBlock = some g → g < w.heap.size := fun g hg => (World.ownsRow.lt h.row g hg).2
def RPost (B b : Nat) (w : World) (sv : Value) (l : List Bool) (e : Ending) (w' : World) : Prop := e = .returned (.tuple #[]) ∧ ∃ sv', Rf B w' b sv' l ∧ Moved b w w' sv sv'
theorem info_bool : (Try.prog.info? 4).map (fun i => (i.zero, i.size, i.bytes)) = some (some (.bool false), 1, 1) := by kernel_rfl

theorem bit_and (v m : Nat) (hv : v < 18446744073709551616) : bits BinOp.and IntKind.u64 ((v : Int) / 2 ^ m) 1 = (((v.testBit m).toNat : Nat) : Int) := by
  have e : (v : Int) / 2 ^ m = ((v / 2 ^ m : Nat) : Int) := by simp
  rw [e, testBit_toNat]
  have h := u64_and_nat (v / 2 ^ m) 1 (Nat.lt_of_le_of_lt (Nat.div_le_self _ _) hv) (by omega)
  rw [nat_mask1] at h
  exact h
theorem bits_next (l : List Bool) (v m N : Nat) (h : m + 1 ≤ N) : l ++ bitsOf (v / 2 ^ m) (N - m) = (l ++ bitsOf (v / 2 ^ (m + 1)) (N - (m + 1))) ++ [v.testBit m] := by
  rw [bits_step l v m 1 N h]
  congr 1
  show [(v / 2 ^ m).testBit 0] = _
  rw [Nat.testBit_div_two_pow]; simp

set_option maxHeartbeats 1000000 in
theorem rput_any (B b v : Nat) (n : Int) (hv : v < 18446744073709551616) (l : List Bool) (hl : l.length ≤ 1000000000) (sv : Value) (w : World) (h : Rf B w b sv l) (hB : B ≤ w.heap.size) :
    Calls Try.prog 23 #[.pointer (some ⟨b, 0, none⟩), .int .u64 v, .int .i64 n] w (RPost B b w sv (l ++ bitsOf v (sz n))) := by
  have H : Hid _ := h
  have hN := sz_le n
  clear h
  go_enter Try.func23, Try.ntmps23
  go_upto_region 0 with fail
  go_cut [6] (fun v6 wx => wx = w ∧ v6 = .int .i64 ((sz n : Int) - 1))
  case first =>
    rcases (show n < 0 ∨ (0 ≤ n ∧ n ≤ 64) ∨ 64 < n by omega) with h | h | h
    all_goals
      go_wp2_with fail
      all_goals
        go_meet
        refine ⟨rfl, ?_⟩
        congr 1
        unfold sz
        omega
  case rest =>
    obtain ⟨rfl, rfl⟩ := hcut
    generalize sz n = N at *
    go_wp2_with fail
    go_loopg [6] 65 (fun gk v6 wr => ∃ (m : Nat) (sv' : Value), v6 = .int .i64 ((m : Int) - 1) ∧ m ≤ N ∧ m ≤ gk ∧ Hid (Rf B wr b sv' (l ++ bitsOf (v / 2 ^ m) (N - m)) ∧ Moved b wc wr sv sv'))
    case atStart => exact ⟨N, sv, rfl, Nat.le_refl _, by omega, by rw [Nat.sub_self, bitsOf, List.append_nil]; exact H.out, Moved.refl _ _ _⟩
    case round =>
      obtain ⟨m, sv', rfl, hm, hg, HR⟩ := hrel
      cases m with
      | zero =>
        rw [show (((0 : Nat) : Int) - 1) = -1 by omega]
        go_wp2_with fail
        go_end0
        have e := HR.out.1
        simp only [Nat.pow_zero, Nat.div_one, Nat.sub_zero] at e
        exact ⟨rfl, sv', e, HR.out.2⟩
      | succ m =>
        rw [show (((m + 1 : Nat) : Int) - 1) = (m : Int) by omega]
        have z1 : (0 : Int) ≤ (m : Int) := by omega
        have hbit := bit_and v m hv
        have hnext := bits_next l v m N hm
        obtain ⟨t, ht⟩ : ∃ t, v.testBit m = t := ⟨_, rfl⟩
        rw [ht] at hbit hnext
        obtain ⟨L, hL⟩ : ∃ L, l ++ bitsOf (v / 2 ^ (m + 1)) (N - (m + 1)) = L := ⟨_, rfl⟩
        rw [hL] at HR hnext
        have hLl : L.length ≤ 1000000064 := by rw [← hL]; simp; omega
        have HN : Hid _ := hnext
        clear hL ht hnext
        have q0 := HR.out.1.var.cell
        have lt := HR.out.1.var.lt
        obtain ⟨w5, e5⟩ : ∃ w5, w5 = wr.alloc (.cells #[.bool t] 4) := ⟨_, rfl⟩
        have o5 : Only [] wr w5 := e5 ▸ (Only.refl [] wr).alloc _
        have s5 : w5.heap.size = wr.heap.size + 1 := by rw [e5]; simp
        have n5 : Var w5 wr.heap.size (.bool t) := e5 ▸ Var.new _ _ _
        have nc := n5.cell
        have news : ∀ j u, [Value.bool t][j]? = some u → w5.cell? ((⟨wr.heap.size, 0, none⟩ : Addr).add j) = some u := fun j u hj => by
          match j, hj with
          | 0, hj => simp at hj; subst hj; simpa [Addr.add] using nc
          | k + 1, hj => simp at hj
        have row5 := HR.out.1.row.only o5 (by simp)
        have var5 := HR.out.1.var.only o5 (by simp)
        have ap := HR.out.1.apart
        have FIN : Hid (∀ g cap w6, w6.ownsRow B 4 1 (.slice (some ⟨g, 0, none⟩) (L.length + 1) cap) (L.length + 1) (vb L ++ [.bool t]) → w5.grownBy w6 sv'.ownBlock → (sv'.ownBlock = some g ∨ g = wr.heap.size + 1) →
            Var w6 b sv' ∧ Hid (Rf B (w6.setCell ⟨b, 0, none⟩ (.slice (some ⟨g, 0, none⟩) (L.length + 1) cap)) b (.slice (some ⟨g, 0, none⟩) (L.length + 1) cap) (L ++ [t]) ∧ Moved b wc (w6.setCell ⟨b, 0, none⟩ (.slice (some ⟨g, 0, none⟩) (L.length + 1) cap)) sv (.slice (some ⟨g, 0, none⟩) (L.length + 1) cap))) := fun g cap w6 h1 h2 h3 => by
          have og := grown_only h2
          have t6 : Var w6 b sv' := var5.only og (by simp [Option.mem_toList]; exact ap)
          have gne : g ≠ b := fun e => by
            subst e
            rcases h3 with h3 | h3
            · exact ap h3
            · omega
          have oS : Only [b] w6 (w6.setCell ⟨b, 0, none⟩ (.slice (some ⟨g, 0, none⟩) (L.length + 1) cap)) := (Only.refl _ _).setCell (by simp) _
          refine ⟨t6, ⟨t6.set _, ?_, by simpa [Value.ownBlock] using gne⟩, ?_⟩
          · unfold RowV
            rw [List.length_append, List.length_singleton]
            have e : vb (L ++ [t]) = vb L ++ [.bool t] := by simp [vb]
            rw [e]
            exact own_only h1 oS fun x hx => by
              have hx : g = x := by simpa [Value.ownBlock] using hx
              subst hx
              simpa using gne
          · have mv6 : Moved b w5 w6 sv' (.slice (some ⟨g, 0, none⟩) (L.length + 1) cap) := ⟨og.weaken (fun k hk _ => List.mem_cons_of_mem _ hk), fun x hx => by
              have hx : g = x := by simpa [Value.ownBlock] using hx
              subst hx
              rcases h3 with h3 | h3
              · exact Or.inl h3
              · right; omega⟩
            exact ((HR.out.2.more o5 (by simp)).trans mv6).trans (Moved.of_only oS)
        obtain ⟨i0, hi0, hz0, hz1, hz2⟩ := info_parts info_bool
        have II : Hid _ := hi0
        have I0 : Hid _ := hz0
        have I1 : Hid _ := hz1
        have I2 : Hid _ := hz2
        have ROW : Hid _ := row5
        have NEWS : Hid _ := news
        have S5 : Hid _ := s5
        have E5 : Hid _ := e5
        have HB5 : B ≤ w5.heap.size := by have := HR.out.2.only.size; omega
        clear hi0 hz0 hz1 hz2 row5 news s5 e5 o5 n5 nc var5 ap
        cases t
        all_goals
          simp only [Bool.toNat_true, Bool.toNat_false] at hbit
          go_wp2_with (
            at_builtin
            rw [← E5.out]
            refine wpList_append_lies w5 rfl (.tmp 19) (.tmp 26) 41 rfl B 4 i0 (.bool false) 1 1 Try.underlying41 II.out I0.out I1.out I2.out rfl (by decide) sv' L.length (vb L) rfl ROW.out ⟨wr.heap.size, 0, none⟩ 1 1 _ rfl rfl NEWS.out (by intro u hu; simp at hu; subst hu; rfl) (by decide) (by unfold maxLen; omega) (by omega) HB5 (wr.heap.size + 1) S5.out ?_
            intro g cap w6 hown hgrow hat hlt
            have t6 := FIN.out g cap w6 hown hgrow hat
            have c0 := t6.1.cell
            have f0 := t6.1.frozen
            have HH : Hid _ := t6.2
            clear hown hgrow hat hlt t6)
          go_roundg m
          case measure => omega
          case rel => exact ⟨m, _, rfl, by omega, Nat.le_refl _, by rw [HN.out]; exact HH.out.1, HH.out.2⟩

theorem rsigned_any (B b : Nat) (x : Int) (n : Int) (l : List Bool) (hl : l.length ≤ 1000000000) (sv : Value) (w : World) (h : Rf B w b sv l) (hB : B ≤ w.heap.size) :
    Calls Try.prog 22 #[.pointer (some ⟨b, 0, none⟩), .int .i64 x, .int .i64 n] w (RPost B b w sv (l ++ bitsOf (x % 18446744073709551616).toNat (sz n))) := by
  have H : Hid _ := h
  clear h
  go_enter Try.func22, Try.ntmps22
  go_wp2_with fail
  rw [uint64_of]
  refine (rput_any B b _ n (by omega) l hl sv w H.out hB).mono ?_
  rintro e w' ⟨rfl, HH⟩
  have HP : Hid _ := HH
  clear HH
  go_wp2_with fail
  go_end0
  exact ⟨rfl, HP.out⟩
end Go.Proofs.Ytaamobhlbahnhaa

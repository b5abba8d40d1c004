/- The reference of chapter 12: Run, what it rests on. -/
import Derived.Test.YtfeloiodebjolaaRefRC
import Derived.Test.YtfeloiodebjolaaRefRD
import Derived.Test.YtfeloiodebjolaaRefRE
import Derived.Test.YtfeloiodebjolaaRuleG
import Derived.Test.YtfeloiodebjolaaM44
namespace Go.Proofs.Ytfeloiodebjolaa
open Go.RowKit
set_option linter.unusedVariables false

section
variable {w : World} {ops : Array Oper} {rest : List Oper} {o : Oper} {act : Act} {Q : Exit → Act → World → Prop}
theorem op_storeR {p : Nat} {e0 e : Ev} {s0 s : Value} (hgd : o.guard = none) (x y : Operand) (ho : o.op = .store 45 x y) (hx : act.eval x = .pointer (some ⟨p, 0, none⟩)) (hy : act.eval y = e.v s) (hB : Eb w p e0 s0) (hs : s.oneCell' = true)
    (h : ∀ w', Eb w' p e s → Only [p] w w' → w'.heap.size = w.heap.size → wpList Try.prog ops Q rest (act.put o.dst undef) w') : wpList Try.prog ops Q (o :: rest) act w := by
  refine op_store (vs := e.cells s) hgd 45 x y ho 0 hx hy hB.blk info_renv (by simp [Ev.cells]) (e.one hs) ?_
  intro w' hb ho hz
  have e1 : List.take 0 (e0.cells s0) ++ e.cells s ++ List.drop (0 + (e.cells s).length) (e0.cells s0) = e.cells s := by simp [Ev.cells]
  rw [e1] at hb
  exact h w' ⟨hb⟩ ho hz
end
theorem res_rrun {W : World} {p : Nat} {e : Ev} {s : Value} {c a : Int} {b : Bool} {tm : Array Value} (h : Eb W p e s) (hp : tm.getD 4 undef = .pointer (some ⟨p, 0, none⟩)) (h5 : tm.getD 5 undef = .int .i64 c) (h6 : tm.getD 6 undef = .int .i64 a) (h7 : tm.getD 7 undef = .bool b) :
    (results Try.f7 tm).run Try.prog W = .ok (.tuple #[e.v s, .int .i64 c, .int .i64 a, .bool b]) W := by
  obtain ⟨t, ht⟩ := h.blk
  have r1 := run_loadVar_row (P := Try.prog) W p t 45 (e.cells s).toArray (0, 0) _ ht Try.underlying45 rfl (by kernel_rfl)
  have hp' : tm[4]?.getD undef = .pointer (some ⟨p, 0, none⟩) := by simpa using hp
  have h5' : tm[5]?.getD undef = .int .i64 c := by simpa using h5
  have h6' : tm[6]?.getD undef = .int .i64 a := by simpa using h6
  have h7' : tm[7]?.getD undef = .bool b := by simpa using h7
  simp [results, Try.results7, hp', h5', h6', h7', asAddr, r1]
  rfl
/-- where it stands tells nothing but where it goes on -/
theorem flt_at (n at_ : Int) (o : Op3) (e : Ev) : Ref.flt n o e = match Rule.act n at_ o e with
    | .fault c => c
    | .next _ _ => 0 := by
  unfold Ref.flt Rule.act
  by_cases q1 : o.c = 1
  · simp only [if_pos q1]
    by_cases q : Rule.is o.a = true
    · simp only [if_pos q]
    · simp only [if_neg q]
  simp only [if_neg q1]
  by_cases q2 : 2 ≤ o.c ∧ o.c ≤ 6
  · simp only [if_pos q2]
    by_cases q : (Rule.is o.a && Rule.is o.b) = true
    · simp only [if_pos q]
      by_cases r : o.c = 6 ∧ Rule.reg e.b o.b = 0
      · simp only [if_pos r]
      · simp only [if_neg r]
    · simp only [if_neg q]
  simp only [if_neg q2]
  by_cases q7 : o.c = 7
  · simp only [if_pos q7]
    by_cases q : Rule.is o.a = true
    · simp only [if_pos q]
      by_cases r : Body.btw o.b 0 7 = true
      · simp only [if_pos r]
      · simp only [if_neg r]
    · simp only [if_neg q]
  simp only [if_neg q7]
  by_cases q8 : o.c = 8
  · simp only [if_pos q8]
    by_cases q : Rule.is o.b = true
    · simp only [if_pos q]
      by_cases r : Rule.is o.a = true
      · simp only [if_pos r]
      · simp only [if_neg r]
    · simp only [if_neg q]
  simp only [if_neg q8]
  by_cases q9 : o.c = 9
  · simp only [if_pos q9]
    by_cases q : Rule.is o.a = true
    · simp only [if_pos q]
      by_cases r : Rule.reg e.b o.a = 0
      · simp only [if_pos r]
        by_cases t : Body.btw o.b 0 n = true
        · simp only [if_pos t]
        · simp only [if_neg t]
      · simp only [if_neg r]
    · simp only [if_neg q]
  simp only [if_neg q9]
  by_cases q10 : o.c = 10
  · simp only [if_pos q10]
    by_cases t : Body.btw o.b 0 n = true
    · simp only [if_pos t]
    · simp only [if_neg t]
  simp only [if_neg q10]
  by_cases q11 : o.c = 11
  · simp only [if_pos q11]
    by_cases q : (Rule.is o.a && Rule.is o.b) = true
    · simp only [if_pos q]
      by_cases r : 1 ≤ Rule.reg e.b o.b
      · simp only [if_pos r]
      · simp only [if_neg r]
    · simp only [if_neg q]
  simp only [if_neg q11]
  by_cases q12 : o.c = 12
  · simp only [if_pos q12]
    by_cases q : (Rule.is o.a && Rule.is o.b) = true
    · simp only [if_pos q]
      by_cases r : (e.sh.length : Int) < e.room
      · simp only [if_pos r]
      · simp only [if_neg r]
    · simp only [if_neg q]
  simp only [if_neg q12]
  by_cases q13 : o.c = 13
  · simp only [if_pos q13]
  · simp only [if_neg q13]
theorem act_of_flt {n at_ : Int} {o : Op3} {e : Ev} {c : Int} (h : Ref.flt n o e = c) (hc : c ≠ 0) : Rule.act n at_ o e = .fault c := by
  have h2 := flt_at n at_ o e
  cases ha : Rule.act n at_ o e with
  | fault c' => rw [ha] at h2; rw [h] at h2; rw [h2]
  | next e' k => rw [ha] at h2; rw [h] at h2; exact absurd h2 hc
theorem act_of_none {n at_ : Int} {o : Op3} {e : Ev} (h : Ref.flt n o e = 0) : ∃ e' k, Rule.act n at_ o e = .next e' k := by
  have h2 := flt_at n at_ o e
  cases ha : Rule.act n at_ o e with
  | fault c =>
    rw [ha] at h2; rw [h] at h2
    have := (act_fault ha).1
    have h3 : 0 = c := h2
    omega
  | next e' k => exact ⟨e', k, rfl⟩
/-- where a run stands -/
structure RW (w wr : World) (q : Nat) (ov : Value) (l : List Op3) (e e' : Ev) (sv : Value) (k : Nat) (a : Int) : Prop where
  cur : Eb wr q e' sv
  res : Eb wr (q + 1) Ev.zero (.slice none 0 0)
  was : Eb wr (q + 2) e (.slice none 0 0)
  row : SR (q + 3) wr sv e'.sh
  ops : RdO w.heap.size wr ov l
  only : Only [] w wr
  base : w.heap.size = q
  sz : q + 3 ≤ wr.heap.size
  go : Rule.go l (64 - k) a e' = Rule.go l 64 0 e
  ok : Body.some e'.b = true
  k1 : e'.b.k = 1
  a0 : 0 ≤ a
  a1 : a ≤ l.length
  len : e'.sh.length ≤ k
  none : e'.sh = [] → sv = .slice none 0 0
theorem RW.then {w wr wr' : World} {q : Nat} {ov : Value} {l : List Op3} {e e' : Ev} {sv : Value} {k : Nat} {a : Int} (h : RW w wr q ov l e e' sv k a) (o : Only [] wr wr') : RW w wr' q ov l e e' sv k a :=
  ⟨h.cur.only o (by simp), h.res.only o (by simp), h.was.only o (by simp), h.row.only o (by simp), h.ops.only o (by simp), h.only.trans o, h.base, Nat.le_trans h.sz o.size, h.go, h.ok, h.k1, h.a0, h.a1, h.len, h.none⟩
/-- one op more: what is at q has turned, or it is where it was -/
theorem RW.step {w wr wr' : World} {q : Nat} {ov : Value} {l : List Op3} {e e' e2 : Ev} {sv sv2 : Value} {k : Nat} {a a2 : Int} (h : RW w wr q ov l e e' sv k a) (hk : k < 64) (hlt : a < l.length) (ha : Rule.act l.length a (l.getD a.toNat ⟨0, 0, 0⟩) e' = .next e2 a2)
    (cur : Eb wr' q e2 sv2) (o : Only [q] wr wr') (row : SR (q + 3) wr' sv2 e2.sh) (hn : e2.sh = [] → sv2 = .slice .none 0 0) : RW w wr' q ov l e e2 sv2 (k + 1) a2 := by
  obtain ⟨K, b0, b1⟩ := act_next ha h.a0 hlt
  have hb := h.base
  have hg := h.go
  rw [show 64 - k = (64 - (k + 1)) + 1 by omega, go_n hlt ha] at hg
  obtain ⟨ll, hsh, hll, _⟩ := K.sh
  refine ⟨cur, h.res.only o (by simp), h.was.only o (by simp), row, h.ops.only o (by simp; omega), h.only.then o (fun x hx hl => by have h2 : x = q := (by simpa using hx); omega), hb, Nat.le_trans h.sz o.size, hg, K.ok h.ok, by rw [K.k]; exact h.k1, b0, b1, ?_, hn⟩
  have := h.len
  rw [hsh, List.length_append]
  omega
/-- an 'append' to an empty slice just made -/
theorem app_fresh {B : Nat} {y : World} {v s : Value} {xs : List Bd} (hv : ∃ g, v = .slice (some ⟨g, 0, none⟩) 0 0) (h : SR B y v []) (hB : B ≤ y.heap.size) (r : RdS y s xs) (h0 : xs = [] → s = .slice none 0 0) (hl : xs.length ≤ 1000000) (ty : TypeId) :
    ∃ v' y', (Builtin.append_ #[37, 37] ty #[v, s]).run Try.prog y = .ok v' y' ∧ SR B y' v' xs ∧ Only [] y y' := by
  obtain ⟨g, rfl⟩ := hv
  by_cases hx : xs = []
  · subst hx
    have hs := h0 rfl
    subst hs
    obtain ⟨i0, hi, hz0, hz1, hz2⟩ := info3 info_body
    refine ⟨_, y, ?_, h, Only.refl _ _⟩
    simp [Builtin.append_, run_underlying Try.underlying37, sizeOf, typeInfo, hi, Builtin.lenOf, Builtin.firstCells, storeCells]
  · obtain ⟨v', y', hr, k1, k2, _⟩ := run_app_new h r hx (fun g' n' c' e => by
      have : 0 < xs.length := List.length_pos_iff.2 hx
      injection e with e1 e2 e3
      omega) (by simp; omega) hB ty
    exact ⟨v', y', hr, by simpa using k1, k2⟩
end Go.Proofs.Ytfeloiodebjolaa

/- Package rule: one op: what is given. -/
import Derived.Test.YtnicjbllkdpgcaaRuleF
namespace Go.Proofs.Ytnicjbllkdpgcaa
open Go.RowKit
set_option linter.unusedVariables false

/-- a machine that is under way, its ops a slice of n -/
structure St (B p : Nat) (w : World) (m : Mch) (sh : List Bd) (n : Nat) : Prop where
  mac : Mb w p m
  row : SR B w m.sh sh
  own : m.sh.ownBlock ≠ some p
  low : B ≤ p
  len : sh.length ≤ 1000000
  ok : Body.some m.b = true
  ops : ∃ a cap, m.ops = .slice a n cap
  few : n ≤ 1000000
  at0 : 0 ≤ m.at_
  at1 : m.at_ ≤ n
theorem St.only {B p : Nat} {w w' : World} {m : Mch} {sh : List Bd} {n : Nat} (h : St B p w m sh n) (o : Only [] w w') : St B p w' m sh n :=
  ⟨h.mac.only o (by simp), h.row.only o (by simp), h.own, h.low, h.len, h.ok, h.ops, h.few, h.at0, h.at1⟩
/-- the machine with something else in it -/
def Mch.with (m : Mch) (e : Ev) (v : Value) : Mch := { m with b := e.b, t := e.t, ix := e.ix, iy := e.iy, d := e.d, room := e.room, sh := v }
/-- what an op leaves -/
def DoPost (B p : Nat) (w : World) (m : Mch) (r : Rule.Res) (e : Ending) (w' : World) : Prop :=
  match r with
  | .fault c => e = broke c m.at_ ∧ Only [] w w'
  | .next e' k => e = .returned (.int .i64 k) ∧ ∃ v, Mb w' p (m.with e' v) ∧ SR B w' v e'.sh ∧ v.ownBlock ≠ some p ∧ Moved p w w' m.sh v
theorem doPost_fault {B p : Nat} {w w' : World} {m : Mch} {r : Rule.Res} {c : Int} {e : Ending} (hr : r = .fault c) (he : e = broke c m.at_) (o : Only [] w w') : DoPost B p w m r e w' := by subst hr; exact ⟨he, o⟩
theorem doPost_next {B p : Nat} {w w' : World} {m : Mch} {r : Rule.Res} {e' : Ev} {k : Int} {v : Value} {e : Ending} (hr : r = .next e' k) (he : e = .returned (.int .i64 k)) (h1 : Mb w' p (m.with e' v)) (h2 : SR B w' v e'.sh) (h3 : v.ownBlock ≠ some p) (h4 : Moved p w w' m.sh v) : DoPost B p w m r e w' := by subst hr; exact ⟨he, v, h1, h2, h3, h4⟩
/-- where nothing but the machine's own cells have turned -/
theorem doPost_own {B p : Nat} {w w1 w' : World} {m : Mch} {sh : List Bd} {n : Nat} {r : Rule.Res} {e' : Ev} {k : Int} {e : Ending} (hr : r = .next e' k) (he : e = .returned (.int .i64 k)) (S : St B p w1 m sh n) (o1 : Only [] w w1) (h1 : Mb w' p (m.with e' m.sh)) (o : Only [p] w1 w') (hs : e'.sh = sh) : DoPost B p w m r e w' :=
  doPost_next hr he h1 (by rw [hs]; exact S.row.only o (fun g hg hm => S.own (by rw [← (by simpa using hm : g = p)]; exact hg))) S.own (Moved.of_only ((o1.weaken (by simp)).trans o))
theorem is_nat {k : Int} (h : Rule.is k = true) : ∃ i : Nat, k = (i : Int) ∧ i < 4 := by
  simp only [Rule.is, Body.btw, Bool.and_eq_true, decide_eq_true_eq] at h
  exact ⟨k.toNat, by omega, by omega⟩
/-- the op within its box -/
def OpBox (w : World) (q : Nat) (c a b : Int) : Prop := Three w q (.int .i64 c) (.int .i64 a) (.int .i64 b)
end Go.Proofs.Ytnicjbllkdpgcaa

/- An Env: its registers. -/
import Derived.Test.YtfeloiodebjolaaRuleN0
namespace Go.Proofs.Ytfeloiodebjolaa
open Go.RowKit
set_option linter.unusedVariables false
theorem Eb.mem {w : World} {t : Nat} {e : Ev} {s : Value} (h : Eb w t e s) (i : Nat) (hi : i < 4) : w.cell? ⟨t, 7 + i, none⟩ = some (.int .i64 (Rule.reg e.b i)) := by
  have h4 : i = 0 ∨ i = 1 ∨ i = 2 ∨ i = 3 := by omega
  rcases h4 with rfl | rfl | rfl | rfl
  · exact h.blk.cell 7
  · exact h.blk.cell 8
  · exact h.blk.cell 9
  · exact h.blk.cell 10
theorem Eb.setr {w : World} {t : Nat} {e : Ev} {s : Value} (h : Eb w t e s) (i : Nat) (hi : i < 4) (v : Int) : Eb (w.setCell ⟨t, 7 + i, none⟩ (.int .i64 v)) t { e with b := Rule.setr e.b i v } s := by
  have h4 : i = 0 ∨ i = 1 ∨ i = 2 ∨ i = 3 := by omega
  rcases h4 with rfl | rfl | rfl | rfl
  · exact ⟨h.blk.set 7 _⟩
  · exact ⟨h.blk.set 8 _⟩
  · exact ⟨h.blk.set 9 _⟩
  · exact ⟨h.blk.set 10 _⟩
end Go.Proofs.Ytfeloiodebjolaa

/-
  No cell of these rows narrows 'for every input' (looked for: loops, veiled, ifaces, maps, wideKeys, modest, calm, conditions, laid).
  DERIVED. THE GIVEN ROWS OF THIS SEAT. 4 by the template 'for every input the law returns true; each argument reads behind the call as it read before'; 0 by the template 'total and deterministic' (their statements: YtnicjbllkdpgcaaTotals.lean).
  GIVEN WITH THE SEED: the statements are not yours to turn. If you find one false, say at which input.
  Laid BY PROGRAM, IN A SANDBOX (cutbox-rows.mjs): the forced cells as the released guide's own fill.sh prints them over the translation 2eb895924228fd30… (all of the seat's roots in one cut). By AI agents, Wed Nov 11 2026. No macro, syntax, notation, axiom, sorry.
-/
import Derived.Test.YtnicjbllkdpgcaaChecked
import GoSem.Claim
import GoSem.ClaimJoined
import GoSem.ClaimMapViews
import Derived.JoinedTies
import Derived.KernelRfl
namespace Go.Proofs.Ytnicjbllkdpgcaa
/- THE CELL 'sum', in the pinned program and in every row, IS THE sha256 OF THE DUMP (.gsa) THAT YtnicjbllkdpgcaaProg.lean LOADS. Nothing in Lean hashes anything: it is a label: what it is worth is what the hold of that sum in a sandbox is worth. -/
noncomputable def Try.pinned : Pinned := { name := "ytnicjbllkdpgcaa", sum := "2eb895924228fd30f2dd55347727e1345a013cfcff6fe53926fc3204b223db5b", checked := Try.checked }
namespace Rows
def none {H : Type} : Left H := { results := [], args := [] }

/-- 'doubletakelaw12.RuleKnown': WHATEVER THE INPUT: true; the input reads as it did. -/
def ruleKnownSpec : ChangeSpec := { name := "ruleKnown", fn := fun _ => fun
  | [] => { results := [.lit (.bool true)], args := [] }
  | _ => none }
def ruleKnownRow : OpenClaim := { program := "ytnicjbllkdpgcaa", sum := "2eb895924228fd30f2dd55347727e1345a013cfcff6fe53926fc3204b223db5b", func := "doubletake/doubletakelaw12.RuleKnown", spec := "ruleKnown", unfollowed := true, recurses := true, apart := false }
def RuleKnownSaid : Prop := ruleKnownRow.holds Try.pinned (OpenSpec.ofChange ruleKnownSpec)

/-- ITS FALSE NEIGHBOUR: 'it returns false'. Refute it at one input. -/
def ruleKnownWrong : ChangeSpec := { name := "ruleKnown", fn := fun _ => fun
  | [] => { results := [.lit (.bool false)], args := [] }
  | _ => none }
def RuleKnownWrongFalsely : Prop := ruleKnownRow.holds Try.pinned (OpenSpec.ofChange ruleKnownWrong)

/-- 'doubletakelaw12.RuleRuns': WHATEVER THE INPUT: true; the input reads as it did. -/
def ruleRunsSpec : ChangeSpec := { name := "ruleRuns", fn := fun _ => fun
  | [d1, d2] => { results := [.lit (.bool true)], args := [d1, d2] }
  | _ => none }
def ruleRunsRow : OpenClaim := { program := "ytnicjbllkdpgcaa", sum := "2eb895924228fd30f2dd55347727e1345a013cfcff6fe53926fc3204b223db5b", func := "doubletake/doubletakelaw12.RuleRuns", spec := "ruleRuns", unfollowed := true, recurses := true, apart := false }
def RuleRunsSaid : Prop := ruleRunsRow.holds Try.pinned (OpenSpec.ofChange ruleRunsSpec)

/-- ITS FALSE NEIGHBOUR: 'it returns false'. Refute it at one input. -/
def ruleRunsWrong : ChangeSpec := { name := "ruleRuns", fn := fun _ => fun
  | [d1, d2] => { results := [.lit (.bool false)], args := [d1, d2] }
  | _ => none }
def RuleRunsWrongFalsely : Prop := ruleRunsRow.holds Try.pinned (OpenSpec.ofChange ruleRunsWrong)

/-- 'doubletakelaw12.RuleTotal': WHATEVER THE INPUT: true; the input reads as it did. -/
def ruleTotalSpec : ChangeSpec := { name := "ruleTotal", fn := fun _ => fun
  | [d1, d2, d3] => { results := [.lit (.bool true)], args := [d1, d2, d3] }
  | _ => none }
def ruleTotalRow : OpenClaim := { program := "ytnicjbllkdpgcaa", sum := "2eb895924228fd30f2dd55347727e1345a013cfcff6fe53926fc3204b223db5b", func := "doubletake/doubletakelaw12.RuleTotal", spec := "ruleTotal", unfollowed := true, recurses := true, apart := false }
def RuleTotalSaid : Prop := ruleTotalRow.holds Try.pinned (OpenSpec.ofChange ruleTotalSpec)

/-- ITS FALSE NEIGHBOUR: 'it returns false'. Refute it at one input. -/
def ruleTotalWrong : ChangeSpec := { name := "ruleTotal", fn := fun _ => fun
  | [d1, d2, d3] => { results := [.lit (.bool false)], args := [d1, d2, d3] }
  | _ => none }
def RuleTotalWrongFalsely : Prop := ruleTotalRow.holds Try.pinned (OpenSpec.ofChange ruleTotalWrong)

/-- 'doubletakelaw12.RuleStops': WHATEVER THE INPUT: true; the input reads as it did. -/
def ruleStopsSpec : ChangeSpec := { name := "ruleStops", fn := fun _ => fun
  | [d1, d2, d3] => { results := [.lit (.bool true)], args := [d1, d2, d3] }
  | _ => none }
def ruleStopsRow : OpenClaim := { program := "ytnicjbllkdpgcaa", sum := "2eb895924228fd30f2dd55347727e1345a013cfcff6fe53926fc3204b223db5b", func := "doubletake/doubletakelaw12.RuleStops", spec := "ruleStops", unfollowed := true, recurses := true, apart := false }
def RuleStopsSaid : Prop := ruleStopsRow.holds Try.pinned (OpenSpec.ofChange ruleStopsSpec)

/-- ITS FALSE NEIGHBOUR: 'it returns false'. Refute it at one input. -/
def ruleStopsWrong : ChangeSpec := { name := "ruleStops", fn := fun _ => fun
  | [d1, d2, d3] => { results := [.lit (.bool false)], args := [d1, d2, d3] }
  | _ => none }
def RuleStopsWrongFalsely : Prop := ruleStopsRow.holds Try.pinned (OpenSpec.ofChange ruleStopsWrong)

/- THE SECOND FORM. 'bulk': how many values and letters a reading holds, each counted each time it is reached (what is shared counts as often as it is met; a slice's spare places count too). A statement '..UptoSaid' is the law's where the arguments, and the package variables that the reading takes, are together of bulk at most 1048576: NARROWER than '..Said'. Prove '..Said' where nothing that the law and all that it calls make is longer than what came in: it says more and counts as full. Else prove '..UptoSaid'. A law counts once. -/
mutual
def uptoBulk {H : Type} : DataW H → Nat
  | .lit (.string bytes) => bytes.length + 1
  | .lit _ => 1
  | .nil => 1
  | .ptr d => uptoBulk d + 1
  | .slice elems spare => uptoBulkAll elems + uptoBulkAll spare + 1
  | .agg parts => uptoBulkAll parts + 1
  | .iface _ d => uptoBulk d + 1
  | .map entries => uptoBulkEntries entries + 1
  | .held _ => 1
def uptoBulkAll {H : Type} : List (DataW H) → Nat
  | [] => 0
  | d :: r => uptoBulk d + uptoBulkAll r
def uptoBulkEntries {H : Type} : List (Lit × DataW H) → Nat
  | [] => 0
  | x :: r => uptoBulkEntry x + uptoBulkEntries r
def uptoBulkEntry {H : Type} : Lit × DataW H → Nat
  | (.string bytes, d) => bytes.length + uptoBulk d + 1
  | (_, d) => uptoBulk d + 1
 end
def uptoSmall : (H : Type) → List (DataW H) → Bool := fun _ ds => decide (uptoBulkAll ds ≤ 1048576)
def OpenSpec.upto (s : _root_.Go.ChangeSpec) : _root_.Go.OpenSpec := { _root_.Go.OpenSpec.ofChange s with cond := some uptoSmall }

/-- 'doubletakelaw12.RuleKnown', WHERE WHAT IT READS IS OF BULK AT MOST 1048576: true; the input reads as it did. -/
def ruleKnownUptoRow : OpenClaim := { program := "ytnicjbllkdpgcaa", sum := "2eb895924228fd30f2dd55347727e1345a013cfcff6fe53926fc3204b223db5b", func := "doubletake/doubletakelaw12.RuleKnown", spec := "ruleKnown", unfollowed := true, recurses := true, apart := false, narrowed := true }
def RuleKnownUptoSaid : Prop := ruleKnownUptoRow.holds Try.pinned (OpenSpec.upto ruleKnownSpec)

/-- 'doubletakelaw12.RuleRuns', WHERE WHAT IT READS IS OF BULK AT MOST 1048576: true; the input reads as it did. -/
def ruleRunsUptoRow : OpenClaim := { program := "ytnicjbllkdpgcaa", sum := "2eb895924228fd30f2dd55347727e1345a013cfcff6fe53926fc3204b223db5b", func := "doubletake/doubletakelaw12.RuleRuns", spec := "ruleRuns", unfollowed := true, recurses := true, apart := false, narrowed := true }
def RuleRunsUptoSaid : Prop := ruleRunsUptoRow.holds Try.pinned (OpenSpec.upto ruleRunsSpec)

/-- 'doubletakelaw12.RuleTotal', WHERE WHAT IT READS IS OF BULK AT MOST 1048576: true; the input reads as it did. -/
def ruleTotalUptoRow : OpenClaim := { program := "ytnicjbllkdpgcaa", sum := "2eb895924228fd30f2dd55347727e1345a013cfcff6fe53926fc3204b223db5b", func := "doubletake/doubletakelaw12.RuleTotal", spec := "ruleTotal", unfollowed := true, recurses := true, apart := false, narrowed := true }
def RuleTotalUptoSaid : Prop := ruleTotalUptoRow.holds Try.pinned (OpenSpec.upto ruleTotalSpec)

/-- 'doubletakelaw12.RuleStops', WHERE WHAT IT READS IS OF BULK AT MOST 1048576: true; the input reads as it did. -/
def ruleStopsUptoRow : OpenClaim := { program := "ytnicjbllkdpgcaa", sum := "2eb895924228fd30f2dd55347727e1345a013cfcff6fe53926fc3204b223db5b", func := "doubletake/doubletakelaw12.RuleStops", spec := "ruleStops", unfollowed := true, recurses := true, apart := false, narrowed := true }
def RuleStopsUptoSaid : Prop := ruleStopsUptoRow.holds Try.pinned (OpenSpec.upto ruleStopsSpec)

end Rows
end Go.Proofs.Ytnicjbllkdpgcaa

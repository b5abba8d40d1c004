/-
  No cell of these rows narrows 'for every input' (looked for: loops, veiled, ifaces, maps, wideKeys, modest, calm, conditions, laid).
  DERIVED. THE GIVEN ROWS OF THIS SEAT. 4 by the template 'for every input the law returns true; each argument reads behind the call as it read before'; 0 by the template 'total and deterministic' (their statements: YtfebpbahincieaaTotals.lean).
  GIVEN WITH THE SEED: the statements are not yours to turn. If you find one false, say at which input.
  Laid BY PROGRAM, IN A SANDBOX (cutbox-rows.mjs): the forced cells as the released guide's own fill.sh prints them over the translation da77223ed127428e… (all of the seat's roots in one cut). By AI agents, Wed Nov 11 2026. No macro, syntax, notation, axiom, sorry.
-/
import Derived.Test.YtfebpbahincieaaChecked
import GoSem.Claim
import GoSem.ClaimJoined
import GoSem.ClaimMapViews
import Derived.JoinedTies
import Derived.KernelRfl
namespace Go.Proofs.Ytfebpbahincieaa
/- THE CELL 'sum', in the pinned program and in every row, IS THE sha256 OF THE DUMP (.gsa) THAT YtfebpbahincieaaProg.lean LOADS. Nothing in Lean hashes anything: it is a label: what it is worth is what the hold of that sum in a sandbox is worth. -/
noncomputable def Try.pinned : Pinned := { name := "ytfebpbahincieaa", sum := "da77223ed127428ee94b9c50a674539a877d10dc464fd1903be212c90bf5a8d1", checked := Try.checked }
namespace Rows
def none {H : Type} : Left H := { results := [], args := [] }

/-- 'doubletakelaw9.MeterKnown': WHATEVER THE INPUT: true; the input reads as it did. -/
def meterKnownSpec : ChangeSpec := { name := "meterKnown", fn := fun _ => fun
  | [] => { results := [.lit (.bool true)], args := [] }
  | _ => none }
def meterKnownRow : OpenClaim := { program := "ytfebpbahincieaa", sum := "da77223ed127428ee94b9c50a674539a877d10dc464fd1903be212c90bf5a8d1", func := "doubletake/doubletakelaw9.MeterKnown", spec := "meterKnown", inPlace := ["math.Float64bits", "math.Float64frombits", "math.archCeil", "math.archFloor", "math.archTrunc"], apart := false }
def MeterKnownSaid : Prop := meterKnownRow.holds Try.pinned (OpenSpec.ofChange meterKnownSpec)

/-- ITS FALSE NEIGHBOUR: 'it returns false'. Refute it at one input. -/
def meterKnownWrong : ChangeSpec := { name := "meterKnown", fn := fun _ => fun
  | [] => { results := [.lit (.bool false)], args := [] }
  | _ => none }
def MeterKnownWrongFalsely : Prop := meterKnownRow.holds Try.pinned (OpenSpec.ofChange meterKnownWrong)

/-- 'doubletakelaw9.MeterNotes': WHATEVER THE INPUT: true; the input reads as it did. -/
def meterNotesSpec : ChangeSpec := { name := "meterNotes", fn := fun _ => fun
  | [d1, d2, d3] => { results := [.lit (.bool true)], args := [d1, d2, d3] }
  | _ => none }
def meterNotesRow : OpenClaim := { program := "ytfebpbahincieaa", sum := "da77223ed127428ee94b9c50a674539a877d10dc464fd1903be212c90bf5a8d1", func := "doubletake/doubletakelaw9.MeterNotes", spec := "meterNotes", inPlace := ["math.Float64frombits", "math.Float64bits", "math.archCeil", "math.archFloor", "math.archTrunc"], apart := false }
def MeterNotesSaid : Prop := meterNotesRow.holds Try.pinned (OpenSpec.ofChange meterNotesSpec)

/-- ITS FALSE NEIGHBOUR: 'it returns false'. Refute it at one input. -/
def meterNotesWrong : ChangeSpec := { name := "meterNotes", fn := fun _ => fun
  | [d1, d2, d3] => { results := [.lit (.bool false)], args := [d1, d2, d3] }
  | _ => none }
def MeterNotesWrongFalsely : Prop := meterNotesRow.holds Try.pinned (OpenSpec.ofChange meterNotesWrong)

/-- 'doubletakelaw9.MeterStays': WHATEVER THE INPUT: true; the input reads as it did. -/
def meterStaysSpec : ChangeSpec := { name := "meterStays", fn := fun _ => fun
  | [d1, d2, d3, d4] => { results := [.lit (.bool true)], args := [d1, d2, d3, d4] }
  | _ => none }
def meterStaysRow : OpenClaim := { program := "ytfebpbahincieaa", sum := "da77223ed127428ee94b9c50a674539a877d10dc464fd1903be212c90bf5a8d1", func := "doubletake/doubletakelaw9.MeterStays", spec := "meterStays", inPlace := ["math.Float64bits", "math.Float64frombits", "math.archCeil", "math.archFloor", "math.archTrunc"], apart := false }
def MeterStaysSaid : Prop := meterStaysRow.holds Try.pinned (OpenSpec.ofChange meterStaysSpec)

/-- ITS FALSE NEIGHBOUR: 'it returns false'. Refute it at one input. -/
def meterStaysWrong : ChangeSpec := { name := "meterStays", fn := fun _ => fun
  | [d1, d2, d3, d4] => { results := [.lit (.bool false)], args := [d1, d2, d3, d4] }
  | _ => none }
def MeterStaysWrongFalsely : Prop := meterStaysRow.holds Try.pinned (OpenSpec.ofChange meterStaysWrong)

/-- 'doubletakelaw9.MeterTwice': WHATEVER THE INPUT: true; the input reads as it did. -/
def meterTwiceSpec : ChangeSpec := { name := "meterTwice", fn := fun _ => fun
  | [d] => { results := [.lit (.bool true)], args := [d] }
  | _ => none }
def meterTwiceRow : OpenClaim := { program := "ytfebpbahincieaa", sum := "da77223ed127428ee94b9c50a674539a877d10dc464fd1903be212c90bf5a8d1", func := "doubletake/doubletakelaw9.MeterTwice", spec := "meterTwice", inPlace := ["math.Float64bits", "math.Float64frombits"], apart := false }
def MeterTwiceSaid : Prop := meterTwiceRow.holds Try.pinned (OpenSpec.ofChange meterTwiceSpec)

/-- ITS FALSE NEIGHBOUR: 'it returns false'. Refute it at one input. -/
def meterTwiceWrong : ChangeSpec := { name := "meterTwice", fn := fun _ => fun
  | [d] => { results := [.lit (.bool false)], args := [d] }
  | _ => none }
def MeterTwiceWrongFalsely : Prop := meterTwiceRow.holds Try.pinned (OpenSpec.ofChange meterTwiceWrong)

/- THE SECOND FORM. 'bulk': how many values and letters a reading holds, each counted each time it is reached (what is shared counts as often as it is met; a slice's spare places count too). A statement '..UptoSaid' is the law's where the arguments, and the package variables that the reading takes, are together of bulk at most 1048576: NARROWER than '..Said'. Prove '..Said' where nothing that the law and all that it calls make is longer than what came in: it says more and counts as full. Else prove '..UptoSaid'. A law counts once. -/
mutual
def uptoBulk {H : Type} : DataW H → Nat
  | .lit (.string bytes) => bytes.length + 1
  | .lit _ => 1
  | .nil => 1
  | .ptr d => uptoBulk d + 1
  | .slice elems spare => uptoBulkAll elems + uptoBulkAll spare + 1
  | .agg parts => uptoBulkAll parts + 1
  | .iface _ d => uptoBulk d + 1
  | .map entries => uptoBulkEntries entries + 1
  | .held _ => 1
def uptoBulkAll {H : Type} : List (DataW H) → Nat
  | [] => 0
  | d :: r => uptoBulk d + uptoBulkAll r
def uptoBulkEntries {H : Type} : List (Lit × DataW H) → Nat
  | [] => 0
  | x :: r => uptoBulkEntry x + uptoBulkEntries r
def uptoBulkEntry {H : Type} : Lit × DataW H → Nat
  | (.string bytes, d) => bytes.length + uptoBulk d + 1
  | (_, d) => uptoBulk d + 1
 end
def uptoSmall : (H : Type) → List (DataW H) → Bool := fun _ ds => decide (uptoBulkAll ds ≤ 1048576)
def OpenSpec.upto (s : _root_.Go.ChangeSpec) : _root_.Go.OpenSpec := { _root_.Go.OpenSpec.ofChange s with cond := some uptoSmall }

/-- 'doubletakelaw9.MeterKnown', WHERE WHAT IT READS IS OF BULK AT MOST 1048576: true; the input reads as it did. -/
def meterKnownUptoRow : OpenClaim := { program := "ytfebpbahincieaa", sum := "da77223ed127428ee94b9c50a674539a877d10dc464fd1903be212c90bf5a8d1", func := "doubletake/doubletakelaw9.MeterKnown", spec := "meterKnown", inPlace := ["math.Float64bits", "math.Float64frombits", "math.archCeil", "math.archFloor", "math.archTrunc"], apart := false, narrowed := true }
def MeterKnownUptoSaid : Prop := meterKnownUptoRow.holds Try.pinned (OpenSpec.upto meterKnownSpec)

/-- 'doubletakelaw9.MeterNotes', WHERE WHAT IT READS IS OF BULK AT MOST 1048576: true; the input reads as it did. -/
def meterNotesUptoRow : OpenClaim := { program := "ytfebpbahincieaa", sum := "da77223ed127428ee94b9c50a674539a877d10dc464fd1903be212c90bf5a8d1", func := "doubletake/doubletakelaw9.MeterNotes", spec := "meterNotes", inPlace := ["math.Float64frombits", "math.Float64bits", "math.archCeil", "math.archFloor", "math.archTrunc"], apart := false, narrowed := true }
def MeterNotesUptoSaid : Prop := meterNotesUptoRow.holds Try.pinned (OpenSpec.upto meterNotesSpec)

/-- 'doubletakelaw9.MeterStays', WHERE WHAT IT READS IS OF BULK AT MOST 1048576: true; the input reads as it did. -/
def meterStaysUptoRow : OpenClaim := { program := "ytfebpbahincieaa", sum := "da77223ed127428ee94b9c50a674539a877d10dc464fd1903be212c90bf5a8d1", func := "doubletake/doubletakelaw9.MeterStays", spec := "meterStays", inPlace := ["math.Float64bits", "math.Float64frombits", "math.archCeil", "math.archFloor", "math.archTrunc"], apart := false, narrowed := true }
def MeterStaysUptoSaid : Prop := meterStaysUptoRow.holds Try.pinned (OpenSpec.upto meterStaysSpec)

/-- 'doubletakelaw9.MeterTwice', WHERE WHAT IT READS IS OF BULK AT MOST 1048576: true; the input reads as it did. -/
def meterTwiceUptoRow : OpenClaim := { program := "ytfebpbahincieaa", sum := "da77223ed127428ee94b9c50a674539a877d10dc464fd1903be212c90bf5a8d1", func := "doubletake/doubletakelaw9.MeterTwice", spec := "meterTwice", inPlace := ["math.Float64bits", "math.Float64frombits"], apart := false, narrowed := true }
def MeterTwiceUptoSaid : Prop := meterTwiceUptoRow.holds Try.pinned (OpenSpec.upto meterTwiceSpec)

end Rows
end Go.Proofs.Ytfebpbahincieaa

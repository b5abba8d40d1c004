/-
  No cell of these rows narrows 'for every input' (looked for: loops, veiled, ifaces, maps, wideKeys, modest, calm, conditions, laid).
  DERIVED. THE GIVEN ROWS OF THIS SEAT. 7 by the template 'for every input the law returns true; each argument reads behind the call as it read before'; 0 by the template 'total and deterministic' (their statements: YtngbannidbijmaaTotals.lean).
  GIVEN WITH THE SEED: the statements are not yours to turn. If you find one false, say at which input.
  Laid BY PROGRAM, IN A SANDBOX (cutbox-rows.mjs): the forced cells as the released guide's own fill.sh prints them over the translation 1fa188350f8c1ca3… (all of the seat's roots in one cut). By AI agents, Wed Nov 11 2026. No macro, syntax, notation, axiom, sorry.
-/
import Derived.Test.YtngbannidbijmaaChecked
import GoSem.Claim
import GoSem.ClaimJoined
import GoSem.ClaimMapViews
import Derived.JoinedTies
import Derived.KernelRfl
namespace Go.Proofs.Ytngbannidbijmaa
/- THE CELL 'sum', in the pinned program and in every row, IS THE sha256 OF THE DUMP (.gsa) THAT YtngbannidbijmaaProg.lean LOADS. Nothing in Lean hashes anything: it is a label: what it is worth is what the hold of that sum in a sandbox is worth. -/
noncomputable def Try.pinned : Pinned := { name := "ytngbannidbijmaa", sum := "1fa188350f8c1ca351fa3ff31810077673d66b48ce5256fe900064f5cce25cf0", checked := Try.checked }
namespace Rows
def none {H : Type} : Left H := { results := [], args := [] }

/-- 'doubletakelaw13.StepKnown': WHATEVER THE INPUT: true; the input reads as it did. -/
def stepKnownSpec : ChangeSpec := { name := "stepKnown", fn := fun _ => fun
  | [] => { results := [.lit (.bool true)], args := [] }
  | _ => none }
def stepKnownRow : OpenClaim := { program := "ytngbannidbijmaa", sum := "1fa188350f8c1ca351fa3ff31810077673d66b48ce5256fe900064f5cce25cf0", func := "doubletake/doubletakelaw13.StepKnown", spec := "stepKnown", unfollowed := true, recurses := true, apart := false }
def StepKnownSaid : Prop := stepKnownRow.holds Try.pinned (OpenSpec.ofChange stepKnownSpec)

/-- ITS FALSE NEIGHBOUR: 'it returns false'. Refute it at one input. -/
def stepKnownWrong : ChangeSpec := { name := "stepKnown", fn := fun _ => fun
  | [] => { results := [.lit (.bool false)], args := [] }
  | _ => none }
def StepKnownWrongFalsely : Prop := stepKnownRow.holds Try.pinned (OpenSpec.ofChange stepKnownWrong)

/-- 'doubletakelaw13.StepTells': WHATEVER THE INPUT: true; the input reads as it did. -/
def stepTellsSpec : ChangeSpec := { name := "stepTells", fn := fun _ => fun
  | [d1, d2] => { results := [.lit (.bool true)], args := [d1, d2] }
  | _ => none }
def stepTellsRow : OpenClaim := { program := "ytngbannidbijmaa", sum := "1fa188350f8c1ca351fa3ff31810077673d66b48ce5256fe900064f5cce25cf0", func := "doubletake/doubletakelaw13.StepTells", spec := "stepTells", unfollowed := true, recurses := true, apart := false }
def StepTellsSaid : Prop := stepTellsRow.holds Try.pinned (OpenSpec.ofChange stepTellsSpec)

/-- ITS FALSE NEIGHBOUR: 'it returns false'. Refute it at one input. -/
def stepTellsWrong : ChangeSpec := { name := "stepTells", fn := fun _ => fun
  | [d1, d2] => { results := [.lit (.bool false)], args := [d1, d2] }
  | _ => none }
def StepTellsWrongFalsely : Prop := stepTellsRow.holds Try.pinned (OpenSpec.ofChange stepTellsWrong)

/-- 'doubletakelaw13.StepStays': WHATEVER THE INPUT: true; the input reads as it did. -/
def stepStaysSpec : ChangeSpec := { name := "stepStays", fn := fun _ => fun
  | [d1, d2, d3] => { results := [.lit (.bool true)], args := [d1, d2, d3] }
  | _ => none }
def stepStaysRow : OpenClaim := { program := "ytngbannidbijmaa", sum := "1fa188350f8c1ca351fa3ff31810077673d66b48ce5256fe900064f5cce25cf0", func := "doubletake/doubletakelaw13.StepStays", spec := "stepStays", unfollowed := true, recurses := true, apart := false }
def StepStaysSaid : Prop := stepStaysRow.holds Try.pinned (OpenSpec.ofChange stepStaysSpec)

/-- ITS FALSE NEIGHBOUR: 'it returns false'. Refute it at one input. -/
def stepStaysWrong : ChangeSpec := { name := "stepStays", fn := fun _ => fun
  | [d1, d2, d3] => { results := [.lit (.bool false)], args := [d1, d2, d3] }
  | _ => none }
def StepStaysWrongFalsely : Prop := stepStaysRow.holds Try.pinned (OpenSpec.ofChange stepStaysWrong)

/-- 'doubletakelaw13.StepApart': WHATEVER THE INPUT: true; the input reads as it did. -/
def stepApartSpec : ChangeSpec := { name := "stepApart", fn := fun _ => fun
  | [d1, d2, d3, d4] => { results := [.lit (.bool true)], args := [d1, d2, d3, d4] }
  | _ => none }
def stepApartRow : OpenClaim := { program := "ytngbannidbijmaa", sum := "1fa188350f8c1ca351fa3ff31810077673d66b48ce5256fe900064f5cce25cf0", func := "doubletake/doubletakelaw13.StepApart", spec := "stepApart", unfollowed := true, recurses := true, apart := false }
def StepApartSaid : Prop := stepApartRow.holds Try.pinned (OpenSpec.ofChange stepApartSpec)

/-- ITS FALSE NEIGHBOUR: 'it returns false'. Refute it at one input. -/
def stepApartWrong : ChangeSpec := { name := "stepApart", fn := fun _ => fun
  | [d1, d2, d3, d4] => { results := [.lit (.bool false)], args := [d1, d2, d3, d4] }
  | _ => none }
def StepApartWrongFalsely : Prop := stepApartRow.holds Try.pinned (OpenSpec.ofChange stepApartWrong)

/-- 'doubletakelaw13.StepFaults': WHATEVER THE INPUT: true; the input reads as it did. -/
def stepFaultsSpec : ChangeSpec := { name := "stepFaults", fn := fun _ => fun
  | [d1, d2, d3, d4] => { results := [.lit (.bool true)], args := [d1, d2, d3, d4] }
  | _ => none }
def stepFaultsRow : OpenClaim := { program := "ytngbannidbijmaa", sum := "1fa188350f8c1ca351fa3ff31810077673d66b48ce5256fe900064f5cce25cf0", func := "doubletake/doubletakelaw13.StepFaults", spec := "stepFaults", unfollowed := true, recurses := true, apart := false }
def StepFaultsSaid : Prop := stepFaultsRow.holds Try.pinned (OpenSpec.ofChange stepFaultsSpec)

/-- ITS FALSE NEIGHBOUR: 'it returns false'. Refute it at one input. -/
def stepFaultsWrong : ChangeSpec := { name := "stepFaults", fn := fun _ => fun
  | [d1, d2, d3, d4] => { results := [.lit (.bool false)], args := [d1, d2, d3, d4] }
  | _ => none }
def StepFaultsWrongFalsely : Prop := stepFaultsRow.holds Try.pinned (OpenSpec.ofChange stepFaultsWrong)

/-- 'doubletakelaw13.StepDefaults': WHATEVER THE INPUT: true; the input reads as it did. -/
def stepDefaultsSpec : ChangeSpec := { name := "stepDefaults", fn := fun _ => fun
  | [d1, d2, d3, d4] => { results := [.lit (.bool true)], args := [d1, d2, d3, d4] }
  | _ => none }
def stepDefaultsRow : OpenClaim := { program := "ytngbannidbijmaa", sum := "1fa188350f8c1ca351fa3ff31810077673d66b48ce5256fe900064f5cce25cf0", func := "doubletake/doubletakelaw13.StepDefaults", spec := "stepDefaults", unfollowed := true, recurses := true, apart := false }
def StepDefaultsSaid : Prop := stepDefaultsRow.holds Try.pinned (OpenSpec.ofChange stepDefaultsSpec)

/-- ITS FALSE NEIGHBOUR: 'it returns false'. Refute it at one input. -/
def stepDefaultsWrong : ChangeSpec := { name := "stepDefaults", fn := fun _ => fun
  | [d1, d2, d3, d4] => { results := [.lit (.bool false)], args := [d1, d2, d3, d4] }
  | _ => none }
def StepDefaultsWrongFalsely : Prop := stepDefaultsRow.holds Try.pinned (OpenSpec.ofChange stepDefaultsWrong)

/-- 'doubletakelaw13.StepFolds': WHATEVER THE INPUT: true; the input reads as it did. -/
def stepFoldsSpec : ChangeSpec := { name := "stepFolds", fn := fun _ => fun
  | [d1, d2, d3] => { results := [.lit (.bool true)], args := [d1, d2, d3] }
  | _ => none }
def stepFoldsRow : OpenClaim := { program := "ytngbannidbijmaa", sum := "1fa188350f8c1ca351fa3ff31810077673d66b48ce5256fe900064f5cce25cf0", func := "doubletake/doubletakelaw13.StepFolds", spec := "stepFolds", unfollowed := true, recurses := true, apart := false }
def StepFoldsSaid : Prop := stepFoldsRow.holds Try.pinned (OpenSpec.ofChange stepFoldsSpec)

/-- ITS FALSE NEIGHBOUR: 'it returns false'. Refute it at one input. -/
def stepFoldsWrong : ChangeSpec := { name := "stepFolds", fn := fun _ => fun
  | [d1, d2, d3] => { results := [.lit (.bool false)], args := [d1, d2, d3] }
  | _ => none }
def StepFoldsWrongFalsely : Prop := stepFoldsRow.holds Try.pinned (OpenSpec.ofChange stepFoldsWrong)

/- THE SECOND FORM. 'bulk': how many values and letters a reading holds, each counted each time it is reached (what is shared counts as often as it is met; a slice's spare places count too). A statement '..UptoSaid' is the law's where the arguments, and the package variables that the reading takes, are together of bulk at most 1048576: NARROWER than '..Said'. Prove '..Said' where nothing that the law and all that it calls make is longer than what came in: it says more and counts as full. Else prove '..UptoSaid'. A law counts once. -/
mutual
def uptoBulk {H : Type} : DataW H → Nat
  | .lit (.string bytes) => bytes.length + 1
  | .lit _ => 1
  | .nil => 1
  | .ptr d => uptoBulk d + 1
  | .slice elems spare => uptoBulkAll elems + uptoBulkAll spare + 1
  | .agg parts => uptoBulkAll parts + 1
  | .iface _ d => uptoBulk d + 1
  | .map entries => uptoBulkEntries entries + 1
  | .held _ => 1
def uptoBulkAll {H : Type} : List (DataW H) → Nat
  | [] => 0
  | d :: r => uptoBulk d + uptoBulkAll r
def uptoBulkEntries {H : Type} : List (Lit × DataW H) → Nat
  | [] => 0
  | x :: r => uptoBulkEntry x + uptoBulkEntries r
def uptoBulkEntry {H : Type} : Lit × DataW H → Nat
  | (.string bytes, d) => bytes.length + uptoBulk d + 1
  | (_, d) => uptoBulk d + 1
 end
def uptoSmall : (H : Type) → List (DataW H) → Bool := fun _ ds => decide (uptoBulkAll ds ≤ 1048576)
def OpenSpec.upto (s : _root_.Go.ChangeSpec) : _root_.Go.OpenSpec := { _root_.Go.OpenSpec.ofChange s with cond := some uptoSmall }

/-- 'doubletakelaw13.StepKnown', WHERE WHAT IT READS IS OF BULK AT MOST 1048576: true; the input reads as it did. -/
def stepKnownUptoRow : OpenClaim := { program := "ytngbannidbijmaa", sum := "1fa188350f8c1ca351fa3ff31810077673d66b48ce5256fe900064f5cce25cf0", func := "doubletake/doubletakelaw13.StepKnown", spec := "stepKnown", unfollowed := true, recurses := true, apart := false, narrowed := true }
def StepKnownUptoSaid : Prop := stepKnownUptoRow.holds Try.pinned (OpenSpec.upto stepKnownSpec)

/-- 'doubletakelaw13.StepTells', WHERE WHAT IT READS IS OF BULK AT MOST 1048576: true; the input reads as it did. -/
def stepTellsUptoRow : OpenClaim := { program := "ytngbannidbijmaa", sum := "1fa188350f8c1ca351fa3ff31810077673d66b48ce5256fe900064f5cce25cf0", func := "doubletake/doubletakelaw13.StepTells", spec := "stepTells", unfollowed := true, recurses := true, apart := false, narrowed := true }
def StepTellsUptoSaid : Prop := stepTellsUptoRow.holds Try.pinned (OpenSpec.upto stepTellsSpec)

/-- 'doubletakelaw13.StepStays', WHERE WHAT IT READS IS OF BULK AT MOST 1048576: true; the input reads as it did. -/
def stepStaysUptoRow : OpenClaim := { program := "ytngbannidbijmaa", sum := "1fa188350f8c1ca351fa3ff31810077673d66b48ce5256fe900064f5cce25cf0", func := "doubletake/doubletakelaw13.StepStays", spec := "stepStays", unfollowed := true, recurses := true, apart := false, narrowed := true }
def StepStaysUptoSaid : Prop := stepStaysUptoRow.holds Try.pinned (OpenSpec.upto stepStaysSpec)

/-- 'doubletakelaw13.StepApart', WHERE WHAT IT READS IS OF BULK AT MOST 1048576: true; the input reads as it did. -/
def stepApartUptoRow : OpenClaim := { program := "ytngbannidbijmaa", sum := "1fa188350f8c1ca351fa3ff31810077673d66b48ce5256fe900064f5cce25cf0", func := "doubletake/doubletakelaw13.StepApart", spec := "stepApart", unfollowed := true, recurses := true, apart := false, narrowed := true }
def StepApartUptoSaid : Prop := stepApartUptoRow.holds Try.pinned (OpenSpec.upto stepApartSpec)

/-- 'doubletakelaw13.StepFaults', WHERE WHAT IT READS IS OF BULK AT MOST 1048576: true; the input reads as it did. -/
def stepFaultsUptoRow : OpenClaim := { program := "ytngbannidbijmaa", sum := "1fa188350f8c1ca351fa3ff31810077673d66b48ce5256fe900064f5cce25cf0", func := "doubletake/doubletakelaw13.StepFaults", spec := "stepFaults", unfollowed := true, recurses := true, apart := false, narrowed := true }
def StepFaultsUptoSaid : Prop := stepFaultsUptoRow.holds Try.pinned (OpenSpec.upto stepFaultsSpec)

/-- 'doubletakelaw13.StepDefaults', WHERE WHAT IT READS IS OF BULK AT MOST 1048576: true; the input reads as it did. -/
def stepDefaultsUptoRow : OpenClaim := { program := "ytngbannidbijmaa", sum := "1fa188350f8c1ca351fa3ff31810077673d66b48ce5256fe900064f5cce25cf0", func := "doubletake/doubletakelaw13.StepDefaults", spec := "stepDefaults", unfollowed := true, recurses := true, apart := false, narrowed := true }
def StepDefaultsUptoSaid : Prop := stepDefaultsUptoRow.holds Try.pinned (OpenSpec.upto stepDefaultsSpec)

/-- 'doubletakelaw13.StepFolds', WHERE WHAT IT READS IS OF BULK AT MOST 1048576: true; the input reads as it did. -/
def stepFoldsUptoRow : OpenClaim := { program := "ytngbannidbijmaa", sum := "1fa188350f8c1ca351fa3ff31810077673d66b48ce5256fe900064f5cce25cf0", func := "doubletake/doubletakelaw13.StepFolds", spec := "stepFolds", unfollowed := true, recurses := true, apart := false, narrowed := true }
def StepFoldsUptoSaid : Prop := stepFoldsUptoRow.holds Try.pinned (OpenSpec.upto stepFoldsSpec)

end Rows
end Go.Proofs.Ytngbannidbijmaa

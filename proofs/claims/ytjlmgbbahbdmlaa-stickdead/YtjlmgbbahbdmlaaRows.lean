/-
  No cell of these rows narrows 'for every input' (looked for: loops, veiled, ifaces, maps, wideKeys, modest, calm, conditions, laid).
  DERIVED. THE GIVEN ROWS OF THIS SEAT. 5 by the template 'for every input the law returns true; each argument reads behind the call as it read before'; 0 by the template 'total and deterministic' (their statements: YtjlmgbbahbdmlaaTotals.lean).
  GIVEN WITH THE SEED: the statements are not yours to turn. If you find one false, say at which input.
  Laid BY PROGRAM, IN A SANDBOX (cutbox-rows.mjs): the forced cells as the released guide's own fill.sh prints them over the translation 7774144248277bcc… (all of the seat's roots in one cut). By AI agents, Wed Nov 11 2026. No macro, syntax, notation, axiom, sorry.
-/
import Derived.Test.YtjlmgbbahbdmlaaChecked
import GoSem.Claim
import GoSem.ClaimJoined
import GoSem.ClaimMapViews
import Derived.JoinedTies
import Derived.KernelRfl
namespace Go.Proofs.Ytjlmgbbahbdmlaa
/- THE CELL 'sum', in the pinned program and in every row, IS THE sha256 OF THE DUMP (.gsa) THAT YtjlmgbbahbdmlaaProg.lean LOADS. Nothing in Lean hashes anything: it is a label: what it is worth is what the hold of that sum in a sandbox is worth. -/
noncomputable def Try.pinned : Pinned := { name := "ytjlmgbbahbdmlaa", sum := "7774144248277bccabf16a203ca6dff03ff4bed1ad07871f43f0f0802b37de77", checked := Try.checked }
namespace Rows
def none {H : Type} : Left H := { results := [], args := [] }

/-- 'doubletakelaw1.StickKnown': WHATEVER THE INPUT: true; the input reads as it did. -/
def stickKnownSpec : ChangeSpec := { name := "stickKnown", fn := fun _ => fun
  | [] => { results := [.lit (.bool true)], args := [] }
  | _ => none }
def stickKnownRow : OpenClaim := { program := "ytjlmgbbahbdmlaa", sum := "7774144248277bccabf16a203ca6dff03ff4bed1ad07871f43f0f0802b37de77", func := "doubletake/doubletakelaw1.StickKnown", spec := "stickKnown", inPlace := ["math.Float64bits", "math.Float64frombits", "math.RoundToEven"], apart := false }
def StickKnownSaid : Prop := stickKnownRow.holds Try.pinned (OpenSpec.ofChange stickKnownSpec)

/-- ITS FALSE NEIGHBOUR: 'it returns false'. Refute it at one input. -/
def stickKnownWrong : ChangeSpec := { name := "stickKnown", fn := fun _ => fun
  | [] => { results := [.lit (.bool false)], args := [] }
  | _ => none }
def StickKnownWrongFalsely : Prop := stickKnownRow.holds Try.pinned (OpenSpec.ofChange stickKnownWrong)

/-- 'doubletakelaw1.StickTells': WHATEVER THE INPUT: true; the input reads as it did. -/
def stickTellsSpec : ChangeSpec := { name := "stickTells", fn := fun _ => fun
  | [d1, d2, d3, d4, d5] => { results := [.lit (.bool true)], args := [d1, d2, d3, d4, d5] }
  | _ => none }
def stickTellsRow : OpenClaim := { program := "ytjlmgbbahbdmlaa", sum := "7774144248277bccabf16a203ca6dff03ff4bed1ad07871f43f0f0802b37de77", func := "doubletake/doubletakelaw1.StickTells", spec := "stickTells", inPlace := ["math.Float64frombits", "math.Float64bits", "math.RoundToEven"], apart := false }
def StickTellsSaid : Prop := stickTellsRow.holds Try.pinned (OpenSpec.ofChange stickTellsSpec)

/-- ITS FALSE NEIGHBOUR: 'it returns false'. Refute it at one input. -/
def stickTellsWrong : ChangeSpec := { name := "stickTells", fn := fun _ => fun
  | [d1, d2, d3, d4, d5] => { results := [.lit (.bool false)], args := [d1, d2, d3, d4, d5] }
  | _ => none }
def StickTellsWrongFalsely : Prop := stickTellsRow.holds Try.pinned (OpenSpec.ofChange stickTellsWrong)

/-- 'doubletakelaw1.StickSides': WHATEVER THE INPUT: true; the input reads as it did. -/
def stickSidesSpec : ChangeSpec := { name := "stickSides", fn := fun _ => fun
  | [d1, d2, d3, d4, d5, d6, d7] => { results := [.lit (.bool true)], args := [d1, d2, d3, d4, d5, d6, d7] }
  | _ => none }
def stickSidesRow : OpenClaim := { program := "ytjlmgbbahbdmlaa", sum := "7774144248277bccabf16a203ca6dff03ff4bed1ad07871f43f0f0802b37de77", func := "doubletake/doubletakelaw1.StickSides", spec := "stickSides", inPlace := ["math.Float64frombits", "math.Float64bits", "math.RoundToEven"], apart := false }
def StickSidesSaid : Prop := stickSidesRow.holds Try.pinned (OpenSpec.ofChange stickSidesSpec)

/-- ITS FALSE NEIGHBOUR: 'it returns false'. Refute it at one input. -/
def stickSidesWrong : ChangeSpec := { name := "stickSides", fn := fun _ => fun
  | [d1, d2, d3, d4, d5, d6, d7] => { results := [.lit (.bool false)], args := [d1, d2, d3, d4, d5, d6, d7] }
  | _ => none }
def StickSidesWrongFalsely : Prop := stickSidesRow.holds Try.pinned (OpenSpec.ofChange stickSidesWrong)

/-- 'doubletakelaw1.StickDead': WHATEVER THE INPUT: true; the input reads as it did. -/
def stickDeadSpec : ChangeSpec := { name := "stickDead", fn := fun _ => fun
  | [d1, d2, d3, d4] => { results := [.lit (.bool true)], args := [d1, d2, d3, d4] }
  | _ => none }
def stickDeadRow : OpenClaim := { program := "ytjlmgbbahbdmlaa", sum := "7774144248277bccabf16a203ca6dff03ff4bed1ad07871f43f0f0802b37de77", func := "doubletake/doubletakelaw1.StickDead", spec := "stickDead", inPlace := ["math.Float64bits", "math.Float64frombits", "math.RoundToEven"], apart := false }
def StickDeadSaid : Prop := stickDeadRow.holds Try.pinned (OpenSpec.ofChange stickDeadSpec)

/-- ITS FALSE NEIGHBOUR: 'it returns false'. Refute it at one input. -/
def stickDeadWrong : ChangeSpec := { name := "stickDead", fn := fun _ => fun
  | [d1, d2, d3, d4] => { results := [.lit (.bool false)], args := [d1, d2, d3, d4] }
  | _ => none }
def StickDeadWrongFalsely : Prop := stickDeadRow.holds Try.pinned (OpenSpec.ofChange stickDeadWrong)

/-- 'doubletakelaw1.StickRound': WHATEVER THE INPUT: true; the input reads as it did. -/
def stickRoundSpec : ChangeSpec := { name := "stickRound", fn := fun _ => fun
  | [d1, d2] => { results := [.lit (.bool true)], args := [d1, d2] }
  | _ => none }
def stickRoundRow : OpenClaim := { program := "ytjlmgbbahbdmlaa", sum := "7774144248277bccabf16a203ca6dff03ff4bed1ad07871f43f0f0802b37de77", func := "doubletake/doubletakelaw1.StickRound", spec := "stickRound", inPlace := ["math.Float64bits", "math.Float64frombits", "math.RoundToEven"], apart := false }
def StickRoundSaid : Prop := stickRoundRow.holds Try.pinned (OpenSpec.ofChange stickRoundSpec)

/-- ITS FALSE NEIGHBOUR: 'it returns false'. Refute it at one input. -/
def stickRoundWrong : ChangeSpec := { name := "stickRound", fn := fun _ => fun
  | [d1, d2] => { results := [.lit (.bool false)], args := [d1, d2] }
  | _ => none }
def StickRoundWrongFalsely : Prop := stickRoundRow.holds Try.pinned (OpenSpec.ofChange stickRoundWrong)

/- THE SECOND FORM. 'bulk': how many values and letters a reading holds, each counted each time it is reached (what is shared counts as often as it is met; a slice's spare places count too). A statement '..UptoSaid' is the law's where the arguments, and the package variables that the reading takes, are together of bulk at most 1048576: NARROWER than '..Said'. Prove '..Said' where nothing that the law and all that it calls make is longer than what came in: it says more and counts as full. Else prove '..UptoSaid'. A law counts once. -/
mutual
def uptoBulk {H : Type} : DataW H → Nat
  | .lit (.string bytes) => bytes.length + 1
  | .lit _ => 1
  | .nil => 1
  | .ptr d => uptoBulk d + 1
  | .slice elems spare => uptoBulkAll elems + uptoBulkAll spare + 1
  | .agg parts => uptoBulkAll parts + 1
  | .iface _ d => uptoBulk d + 1
  | .map entries => uptoBulkEntries entries + 1
  | .held _ => 1
def uptoBulkAll {H : Type} : List (DataW H) → Nat
  | [] => 0
  | d :: r => uptoBulk d + uptoBulkAll r
def uptoBulkEntries {H : Type} : List (Lit × DataW H) → Nat
  | [] => 0
  | x :: r => uptoBulkEntry x + uptoBulkEntries r
def uptoBulkEntry {H : Type} : Lit × DataW H → Nat
  | (.string bytes, d) => bytes.length + uptoBulk d + 1
  | (_, d) => uptoBulk d + 1
 end
def uptoSmall : (H : Type) → List (DataW H) → Bool := fun _ ds => decide (uptoBulkAll ds ≤ 1048576)
def OpenSpec.upto (s : _root_.Go.ChangeSpec) : _root_.Go.OpenSpec := { _root_.Go.OpenSpec.ofChange s with cond := some uptoSmall }

/-- 'doubletakelaw1.StickKnown', WHERE WHAT IT READS IS OF BULK AT MOST 1048576: true; the input reads as it did. -/
def stickKnownUptoRow : OpenClaim := { program := "ytjlmgbbahbdmlaa", sum := "7774144248277bccabf16a203ca6dff03ff4bed1ad07871f43f0f0802b37de77", func := "doubletake/doubletakelaw1.StickKnown", spec := "stickKnown", inPlace := ["math.Float64bits", "math.Float64frombits", "math.RoundToEven"], apart := false, narrowed := true }
def StickKnownUptoSaid : Prop := stickKnownUptoRow.holds Try.pinned (OpenSpec.upto stickKnownSpec)

/-- 'doubletakelaw1.StickTells', WHERE WHAT IT READS IS OF BULK AT MOST 1048576: true; the input reads as it did. -/
def stickTellsUptoRow : OpenClaim := { program := "ytjlmgbbahbdmlaa", sum := "7774144248277bccabf16a203ca6dff03ff4bed1ad07871f43f0f0802b37de77", func := "doubletake/doubletakelaw1.StickTells", spec := "stickTells", inPlace := ["math.Float64frombits", "math.Float64bits", "math.RoundToEven"], apart := false, narrowed := true }
def StickTellsUptoSaid : Prop := stickTellsUptoRow.holds Try.pinned (OpenSpec.upto stickTellsSpec)

/-- 'doubletakelaw1.StickSides', WHERE WHAT IT READS IS OF BULK AT MOST 1048576: true; the input reads as it did. -/
def stickSidesUptoRow : OpenClaim := { program := "ytjlmgbbahbdmlaa", sum := "7774144248277bccabf16a203ca6dff03ff4bed1ad07871f43f0f0802b37de77", func := "doubletake/doubletakelaw1.StickSides", spec := "stickSides", inPlace := ["math.Float64frombits", "math.Float64bits", "math.RoundToEven"], apart := false, narrowed := true }
def StickSidesUptoSaid : Prop := stickSidesUptoRow.holds Try.pinned (OpenSpec.upto stickSidesSpec)

/-- 'doubletakelaw1.StickDead', WHERE WHAT IT READS IS OF BULK AT MOST 1048576: true; the input reads as it did. -/
def stickDeadUptoRow : OpenClaim := { program := "ytjlmgbbahbdmlaa", sum := "7774144248277bccabf16a203ca6dff03ff4bed1ad07871f43f0f0802b37de77", func := "doubletake/doubletakelaw1.StickDead", spec := "stickDead", inPlace := ["math.Float64bits", "math.Float64frombits", "math.RoundToEven"], apart := false, narrowed := true }
def StickDeadUptoSaid : Prop := stickDeadUptoRow.holds Try.pinned (OpenSpec.upto stickDeadSpec)

/-- 'doubletakelaw1.StickRound', WHERE WHAT IT READS IS OF BULK AT MOST 1048576: true; the input reads as it did. -/
def stickRoundUptoRow : OpenClaim := { program := "ytjlmgbbahbdmlaa", sum := "7774144248277bccabf16a203ca6dff03ff4bed1ad07871f43f0f0802b37de77", func := "doubletake/doubletakelaw1.StickRound", spec := "stickRound", inPlace := ["math.Float64bits", "math.Float64frombits", "math.RoundToEven"], apart := false, narrowed := true }
def StickRoundUptoSaid : Prop := stickRoundUptoRow.holds Try.pinned (OpenSpec.upto stickRoundSpec)

end Rows
end Go.Proofs.Ytjlmgbbahbdmlaa

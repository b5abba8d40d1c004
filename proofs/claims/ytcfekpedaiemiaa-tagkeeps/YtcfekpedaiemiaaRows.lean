/-
  No cell of these rows narrows 'for every input' (looked for: loops, veiled, ifaces, maps, wideKeys, modest, calm, conditions, laid).
  DERIVED. THE GIVEN ROWS OF THIS SEAT. 4 by the template 'for every input the law returns true; each argument reads behind the call as it read before'; 0 by the template 'total and deterministic' (their statements: YtcfekpedaiemiaaTotals.lean).
  GIVEN WITH THE SEED: the statements are not yours to turn. If you find one false, say at which input.
  Laid BY PROGRAM, IN A SANDBOX (cutbox-rows.mjs): the forced cells as the released guide's own fill.sh prints them over the translation 495b861c3ecfd864… (all of the seat's roots in one cut). By AI agents, Wed Nov 11 2026. No macro, syntax, notation, axiom, sorry.
-/
import Derived.Test.YtcfekpedaiemiaaChecked
import GoSem.Claim
import GoSem.ClaimJoined
import GoSem.ClaimMapViews
import Derived.JoinedTies
import Derived.KernelRfl
namespace Go.Proofs.Ytcfekpedaiemiaa
/- THE CELL 'sum', in the pinned program and in every row, IS THE sha256 OF THE DUMP (.gsa) THAT YtcfekpedaiemiaaProg.lean LOADS. Nothing in Lean hashes anything: it is a label: what it is worth is what the hold of that sum in a sandbox is worth. -/
noncomputable def Try.pinned : Pinned := { name := "ytcfekpedaiemiaa", sum := "495b861c3ecfd864a6e0711d9d4ad2784f542d25bf2e11ce28a94ef21884fad5", checked := Try.checked }
namespace Rows
def none {H : Type} : Left H := { results := [], args := [] }

/-- 'doubletakelaw5.TagKnown': WHATEVER THE INPUT: true; the input reads as it did. -/
def tagKnownSpec : ChangeSpec := { name := "tagKnown", fn := fun _ => fun
  | [] => { results := [.lit (.bool true)], args := [] }
  | _ => none }
def tagKnownRow : OpenClaim := { program := "ytcfekpedaiemiaa", sum := "495b861c3ecfd864a6e0711d9d4ad2784f542d25bf2e11ce28a94ef21884fad5", func := "doubletake/doubletakelaw5.TagKnown", spec := "tagKnown", apart := false }
def TagKnownSaid : Prop := tagKnownRow.holds Try.pinned (OpenSpec.ofChange tagKnownSpec)

/-- ITS FALSE NEIGHBOUR: 'it returns false'. Refute it at one input. -/
def tagKnownWrong : ChangeSpec := { name := "tagKnown", fn := fun _ => fun
  | [] => { results := [.lit (.bool false)], args := [] }
  | _ => none }
def TagKnownWrongFalsely : Prop := tagKnownRow.holds Try.pinned (OpenSpec.ofChange tagKnownWrong)

/-- 'doubletakelaw5.TagTells': WHATEVER THE INPUT: true; the input reads as it did. -/
def tagTellsSpec : ChangeSpec := { name := "tagTells", fn := fun _ => fun
  | [d1, d2, d3, d4, d5, d6] => { results := [.lit (.bool true)], args := [d1, d2, d3, d4, d5, d6] }
  | _ => none }
def tagTellsRow : OpenClaim := { program := "ytcfekpedaiemiaa", sum := "495b861c3ecfd864a6e0711d9d4ad2784f542d25bf2e11ce28a94ef21884fad5", func := "doubletake/doubletakelaw5.TagTells", spec := "tagTells", apart := false }
def TagTellsSaid : Prop := tagTellsRow.holds Try.pinned (OpenSpec.ofChange tagTellsSpec)

/-- ITS FALSE NEIGHBOUR: 'it returns false'. Refute it at one input. -/
def tagTellsWrong : ChangeSpec := { name := "tagTells", fn := fun _ => fun
  | [d1, d2, d3, d4, d5, d6] => { results := [.lit (.bool false)], args := [d1, d2, d3, d4, d5, d6] }
  | _ => none }
def TagTellsWrongFalsely : Prop := tagTellsRow.holds Try.pinned (OpenSpec.ofChange tagTellsWrong)

/-- 'doubletakelaw5.TagKeeps': WHATEVER THE INPUT: true; the input reads as it did. -/
def tagKeepsSpec : ChangeSpec := { name := "tagKeeps", fn := fun _ => fun
  | [d1, d2, d3, d4, d5] => { results := [.lit (.bool true)], args := [d1, d2, d3, d4, d5] }
  | _ => none }
def tagKeepsRow : OpenClaim := { program := "ytcfekpedaiemiaa", sum := "495b861c3ecfd864a6e0711d9d4ad2784f542d25bf2e11ce28a94ef21884fad5", func := "doubletake/doubletakelaw5.TagKeeps", spec := "tagKeeps", apart := false }
def TagKeepsSaid : Prop := tagKeepsRow.holds Try.pinned (OpenSpec.ofChange tagKeepsSpec)

/-- ITS FALSE NEIGHBOUR: 'it returns false'. Refute it at one input. -/
def tagKeepsWrong : ChangeSpec := { name := "tagKeeps", fn := fun _ => fun
  | [d1, d2, d3, d4, d5] => { results := [.lit (.bool false)], args := [d1, d2, d3, d4, d5] }
  | _ => none }
def TagKeepsWrongFalsely : Prop := tagKeepsRow.holds Try.pinned (OpenSpec.ofChange tagKeepsWrong)

/-- 'doubletakelaw5.TagMarks': WHATEVER THE INPUT: true; the input reads as it did. -/
def tagMarksSpec : ChangeSpec := { name := "tagMarks", fn := fun _ => fun
  | [d1, d2, d3, d4] => { results := [.lit (.bool true)], args := [d1, d2, d3, d4] }
  | _ => none }
def tagMarksRow : OpenClaim := { program := "ytcfekpedaiemiaa", sum := "495b861c3ecfd864a6e0711d9d4ad2784f542d25bf2e11ce28a94ef21884fad5", func := "doubletake/doubletakelaw5.TagMarks", spec := "tagMarks", apart := false }
def TagMarksSaid : Prop := tagMarksRow.holds Try.pinned (OpenSpec.ofChange tagMarksSpec)

/-- ITS FALSE NEIGHBOUR: 'it returns false'. Refute it at one input. -/
def tagMarksWrong : ChangeSpec := { name := "tagMarks", fn := fun _ => fun
  | [d1, d2, d3, d4] => { results := [.lit (.bool false)], args := [d1, d2, d3, d4] }
  | _ => none }
def TagMarksWrongFalsely : Prop := tagMarksRow.holds Try.pinned (OpenSpec.ofChange tagMarksWrong)

/- THE SECOND FORM. 'bulk': how many values and letters a reading holds, each counted each time it is reached (what is shared counts as often as it is met; a slice's spare places count too). A statement '..UptoSaid' is the law's where the arguments, and the package variables that the reading takes, are together of bulk at most 1048576: NARROWER than '..Said'. Prove '..Said' where nothing that the law and all that it calls make is longer than what came in: it says more and counts as full. Else prove '..UptoSaid'. A law counts once. -/
mutual
def uptoBulk {H : Type} : DataW H → Nat
  | .lit (.string bytes) => bytes.length + 1
  | .lit _ => 1
  | .nil => 1
  | .ptr d => uptoBulk d + 1
  | .slice elems spare => uptoBulkAll elems + uptoBulkAll spare + 1
  | .agg parts => uptoBulkAll parts + 1
  | .iface _ d => uptoBulk d + 1
  | .map entries => uptoBulkEntries entries + 1
  | .held _ => 1
def uptoBulkAll {H : Type} : List (DataW H) → Nat
  | [] => 0
  | d :: r => uptoBulk d + uptoBulkAll r
def uptoBulkEntries {H : Type} : List (Lit × DataW H) → Nat
  | [] => 0
  | x :: r => uptoBulkEntry x + uptoBulkEntries r
def uptoBulkEntry {H : Type} : Lit × DataW H → Nat
  | (.string bytes, d) => bytes.length + uptoBulk d + 1
  | (_, d) => uptoBulk d + 1
 end
def uptoSmall : (H : Type) → List (DataW H) → Bool := fun _ ds => decide (uptoBulkAll ds ≤ 1048576)
def OpenSpec.upto (s : _root_.Go.ChangeSpec) : _root_.Go.OpenSpec := { _root_.Go.OpenSpec.ofChange s with cond := some uptoSmall }

/-- 'doubletakelaw5.TagKnown', WHERE WHAT IT READS IS OF BULK AT MOST 1048576: true; the input reads as it did. -/
def tagKnownUptoRow : OpenClaim := { program := "ytcfekpedaiemiaa", sum := "495b861c3ecfd864a6e0711d9d4ad2784f542d25bf2e11ce28a94ef21884fad5", func := "doubletake/doubletakelaw5.TagKnown", spec := "tagKnown", apart := false, narrowed := true }
def TagKnownUptoSaid : Prop := tagKnownUptoRow.holds Try.pinned (OpenSpec.upto tagKnownSpec)

/-- 'doubletakelaw5.TagTells', WHERE WHAT IT READS IS OF BULK AT MOST 1048576: true; the input reads as it did. -/
def tagTellsUptoRow : OpenClaim := { program := "ytcfekpedaiemiaa", sum := "495b861c3ecfd864a6e0711d9d4ad2784f542d25bf2e11ce28a94ef21884fad5", func := "doubletake/doubletakelaw5.TagTells", spec := "tagTells", apart := false, narrowed := true }
def TagTellsUptoSaid : Prop := tagTellsUptoRow.holds Try.pinned (OpenSpec.upto tagTellsSpec)

/-- 'doubletakelaw5.TagKeeps', WHERE WHAT IT READS IS OF BULK AT MOST 1048576: true; the input reads as it did. -/
def tagKeepsUptoRow : OpenClaim := { program := "ytcfekpedaiemiaa", sum := "495b861c3ecfd864a6e0711d9d4ad2784f542d25bf2e11ce28a94ef21884fad5", func := "doubletake/doubletakelaw5.TagKeeps", spec := "tagKeeps", apart := false, narrowed := true }
def TagKeepsUptoSaid : Prop := tagKeepsUptoRow.holds Try.pinned (OpenSpec.upto tagKeepsSpec)

/-- 'doubletakelaw5.TagMarks', WHERE WHAT IT READS IS OF BULK AT MOST 1048576: true; the input reads as it did. -/
def tagMarksUptoRow : OpenClaim := { program := "ytcfekpedaiemiaa", sum := "495b861c3ecfd864a6e0711d9d4ad2784f542d25bf2e11ce28a94ef21884fad5", func := "doubletake/doubletakelaw5.TagMarks", spec := "tagMarks", apart := false, narrowed := true }
def TagMarksUptoSaid : Prop := tagMarksUptoRow.holds Try.pinned (OpenSpec.upto tagMarksSpec)

end Rows
end Go.Proofs.Ytcfekpedaiemiaa

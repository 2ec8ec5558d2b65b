/-
  No cell of these rows narrows 'for every input' (looked for: loops, veiled, ifaces, maps, wideKeys, modest, calm, conditions, laid).
  DERIVED. THE GIVEN ROWS OF THIS SEAT. 6 by the template 'for every input the law returns true; each argument reads behind the call as it read before'; 0 by the template 'total and deterministic' (their statements: YtneailhanohdhaaTotals.lean).
  GIVEN WITH THE SEED: the statements are not yours to turn. If you find one false, say at which input.
  Laid BY PROGRAM, IN A SANDBOX (cutbox-rows.mjs): the forced cells as the released guide's own fill.sh prints them over the translation 29417358dba83230… (all of the seat's roots in one cut). By AI agents, Wed Nov 11 2026. No macro, syntax, notation, axiom, sorry.
-/
import Derived.Test.YtneailhanohdhaaChecked
import GoSem.Claim
import GoSem.ClaimJoined
import GoSem.ClaimMapViews
import Derived.JoinedTies
import Derived.KernelRfl
namespace Go.Proofs.Ytneailhanohdhaa
/- THE CELL 'sum', in the pinned program and in every row, IS THE sha256 OF THE DUMP (.gsa) THAT YtneailhanohdhaaProg.lean LOADS. Nothing in Lean hashes anything: it is a label: what it is worth is what the hold of that sum in a sandbox is worth. -/
noncomputable def Try.pinned : Pinned := { name := "ytneailhanohdhaa", sum := "29417358dba832306837f71a0b5824b96c1d596efcac414279e1a2dca3586a88", checked := Try.checked }
namespace Rows
def none {H : Type} : Left H := { results := [], args := [] }

/-- 'bramblelaw01.TextPoints': WHATEVER THE INPUT: true; the input reads as it did. -/
def textPointsSpec : ChangeSpec := { name := "textPoints", fn := fun _ => fun
  | [d1, d2, d3] => { results := [.lit (.bool true)], args := [d1, d2, d3] }
  | _ => none }
def textPointsRow : OpenClaim := { program := "ytneailhanohdhaa", sum := "29417358dba832306837f71a0b5824b96c1d596efcac414279e1a2dca3586a88", func := "bramble/bramblelaw01.TextPoints", spec := "textPoints", inPlace := ["internal/bytealg.IndexByteString"], unfollowed := true, recurses := true, apart := false }
def TextPointsSaid : Prop := textPointsRow.holds Try.pinned (OpenSpec.ofChange textPointsSpec)

/-- ITS FALSE NEIGHBOUR: 'it returns false'. Refute it at one input. -/
def textPointsWrong : ChangeSpec := { name := "textPoints", fn := fun _ => fun
  | [d1, d2, d3] => { results := [.lit (.bool false)], args := [d1, d2, d3] }
  | _ => none }
def TextPointsWrongFalsely : Prop := textPointsRow.holds Try.pinned (OpenSpec.ofChange textPointsWrong)

/-- 'bramblelaw01.TextEdits': WHATEVER THE INPUT: true; the input reads as it did. -/
def textEditsSpec : ChangeSpec := { name := "textEdits", fn := fun _ => fun
  | [d1, d2, d3] => { results := [.lit (.bool true)], args := [d1, d2, d3] }
  | _ => none }
def textEditsRow : OpenClaim := { program := "ytneailhanohdhaa", sum := "29417358dba832306837f71a0b5824b96c1d596efcac414279e1a2dca3586a88", func := "bramble/bramblelaw01.TextEdits", spec := "textEdits", inPlace := ["internal/bytealg.IndexByteString"], unfollowed := true, recurses := true, apart := false }
def TextEditsSaid : Prop := textEditsRow.holds Try.pinned (OpenSpec.ofChange textEditsSpec)

/-- ITS FALSE NEIGHBOUR: 'it returns false'. Refute it at one input. -/
def textEditsWrong : ChangeSpec := { name := "textEdits", fn := fun _ => fun
  | [d1, d2, d3] => { results := [.lit (.bool false)], args := [d1, d2, d3] }
  | _ => none }
def TextEditsWrongFalsely : Prop := textEditsRow.holds Try.pinned (OpenSpec.ofChange textEditsWrong)

/-- 'bramblelaw01.TextDiffs': WHATEVER THE INPUT: true; the input reads as it did. -/
def textDiffsSpec : ChangeSpec := { name := "textDiffs", fn := fun _ => fun
  | [d1, d2, d3, d4] => { results := [.lit (.bool true)], args := [d1, d2, d3, d4] }
  | _ => none }
def textDiffsRow : OpenClaim := { program := "ytneailhanohdhaa", sum := "29417358dba832306837f71a0b5824b96c1d596efcac414279e1a2dca3586a88", func := "bramble/bramblelaw01.TextDiffs", spec := "textDiffs", inPlace := ["internal/bytealg.IndexByteString"], unfollowed := true, recurses := true, apart := false }
def TextDiffsSaid : Prop := textDiffsRow.holds Try.pinned (OpenSpec.ofChange textDiffsSpec)

/-- ITS FALSE NEIGHBOUR: 'it returns false'. Refute it at one input. -/
def textDiffsWrong : ChangeSpec := { name := "textDiffs", fn := fun _ => fun
  | [d1, d2, d3, d4] => { results := [.lit (.bool false)], args := [d1, d2, d3, d4] }
  | _ => none }
def TextDiffsWrongFalsely : Prop := textDiffsRow.holds Try.pinned (OpenSpec.ofChange textDiffsWrong)

/-- 'bramblelaw01.TextBack': WHATEVER THE INPUT: true; the input reads as it did. -/
def textBackSpec : ChangeSpec := { name := "textBack", fn := fun _ => fun
  | [d1, d2, d3] => { results := [.lit (.bool true)], args := [d1, d2, d3] }
  | _ => none }
def textBackRow : OpenClaim := { program := "ytneailhanohdhaa", sum := "29417358dba832306837f71a0b5824b96c1d596efcac414279e1a2dca3586a88", func := "bramble/bramblelaw01.TextBack", spec := "textBack", inPlace := ["internal/bytealg.IndexByteString"], unfollowed := true, recurses := true, apart := false }
def TextBackSaid : Prop := textBackRow.holds Try.pinned (OpenSpec.ofChange textBackSpec)

/-- ITS FALSE NEIGHBOUR: 'it returns false'. Refute it at one input. -/
def textBackWrong : ChangeSpec := { name := "textBack", fn := fun _ => fun
  | [d1, d2, d3] => { results := [.lit (.bool false)], args := [d1, d2, d3] }
  | _ => none }
def TextBackWrongFalsely : Prop := textBackRow.holds Try.pinned (OpenSpec.ofChange textBackWrong)

/-- 'bramblelaw01.TextMaps': WHATEVER THE INPUT: true; the input reads as it did. -/
def textMapsSpec : ChangeSpec := { name := "textMaps", fn := fun _ => fun
  | [d1, d2] => { results := [.lit (.bool true)], args := [d1, d2] }
  | _ => none }
def textMapsRow : OpenClaim := { program := "ytneailhanohdhaa", sum := "29417358dba832306837f71a0b5824b96c1d596efcac414279e1a2dca3586a88", func := "bramble/bramblelaw01.TextMaps", spec := "textMaps", inPlace := ["internal/bytealg.IndexByteString"], unfollowed := true, recurses := true, apart := false }
def TextMapsSaid : Prop := textMapsRow.holds Try.pinned (OpenSpec.ofChange textMapsSpec)

/-- ITS FALSE NEIGHBOUR: 'it returns false'. Refute it at one input. -/
def textMapsWrong : ChangeSpec := { name := "textMaps", fn := fun _ => fun
  | [d1, d2] => { results := [.lit (.bool false)], args := [d1, d2] }
  | _ => none }
def TextMapsWrongFalsely : Prop := textMapsRow.holds Try.pinned (OpenSpec.ofChange textMapsWrong)

/-- 'bramblelaw01.TextApart': WHATEVER THE INPUT: true; the input reads as it did. -/
def textApartSpec : ChangeSpec := { name := "textApart", fn := fun _ => fun
  | [d1, d2, d3] => { results := [.lit (.bool true)], args := [d1, d2, d3] }
  | _ => none }
def textApartRow : OpenClaim := { program := "ytneailhanohdhaa", sum := "29417358dba832306837f71a0b5824b96c1d596efcac414279e1a2dca3586a88", func := "bramble/bramblelaw01.TextApart", spec := "textApart", inPlace := ["internal/bytealg.IndexByteString"], unfollowed := true, recurses := true, apart := false }
def TextApartSaid : Prop := textApartRow.holds Try.pinned (OpenSpec.ofChange textApartSpec)

/-- ITS FALSE NEIGHBOUR: 'it returns false'. Refute it at one input. -/
def textApartWrong : ChangeSpec := { name := "textApart", fn := fun _ => fun
  | [d1, d2, d3] => { results := [.lit (.bool false)], args := [d1, d2, d3] }
  | _ => none }
def TextApartWrongFalsely : Prop := textApartRow.holds Try.pinned (OpenSpec.ofChange textApartWrong)

/- THE SECOND FORM. 'bulk': how many values and letters a reading holds, each counted each time it is reached (what is shared counts as often as it is met; a slice's spare places count too). A statement '..UptoSaid' is the law's where the arguments, and the package variables that the reading takes, are together of bulk at most 1048576: NARROWER than '..Said'. Prove '..Said' where nothing that the law and all that it calls make is longer than what came in: it says more and counts as full. Else prove '..UptoSaid'. A law counts once. -/
mutual
def uptoBulk {H : Type} : DataW H → Nat
  | .lit (.string bytes) => bytes.length + 1
  | .lit _ => 1
  | .nil => 1
  | .ptr d => uptoBulk d + 1
  | .slice elems spare => uptoBulkAll elems + uptoBulkAll spare + 1
  | .agg parts => uptoBulkAll parts + 1
  | .iface _ d => uptoBulk d + 1
  | .map entries => uptoBulkEntries entries + 1
  | .held _ => 1
def uptoBulkAll {H : Type} : List (DataW H) → Nat
  | [] => 0
  | d :: r => uptoBulk d + uptoBulkAll r
def uptoBulkEntries {H : Type} : List (Lit × DataW H) → Nat
  | [] => 0
  | x :: r => uptoBulkEntry x + uptoBulkEntries r
def uptoBulkEntry {H : Type} : Lit × DataW H → Nat
  | (.string bytes, d) => bytes.length + uptoBulk d + 1
  | (_, d) => uptoBulk d + 1
 end
def uptoSmall : (H : Type) → List (DataW H) → Bool := fun _ ds => decide (uptoBulkAll ds ≤ 1048576)
def OpenSpec.upto (s : _root_.Go.ChangeSpec) : _root_.Go.OpenSpec := { _root_.Go.OpenSpec.ofChange s with cond := some uptoSmall }

/-- 'bramblelaw01.TextPoints', WHERE WHAT IT READS IS OF BULK AT MOST 1048576: true; the input reads as it did. -/
def textPointsUptoRow : OpenClaim := { program := "ytneailhanohdhaa", sum := "29417358dba832306837f71a0b5824b96c1d596efcac414279e1a2dca3586a88", func := "bramble/bramblelaw01.TextPoints", spec := "textPoints", inPlace := ["internal/bytealg.IndexByteString"], unfollowed := true, recurses := true, apart := false, narrowed := true }
def TextPointsUptoSaid : Prop := textPointsUptoRow.holds Try.pinned (OpenSpec.upto textPointsSpec)

/-- 'bramblelaw01.TextEdits', WHERE WHAT IT READS IS OF BULK AT MOST 1048576: true; the input reads as it did. -/
def textEditsUptoRow : OpenClaim := { program := "ytneailhanohdhaa", sum := "29417358dba832306837f71a0b5824b96c1d596efcac414279e1a2dca3586a88", func := "bramble/bramblelaw01.TextEdits", spec := "textEdits", inPlace := ["internal/bytealg.IndexByteString"], unfollowed := true, recurses := true, apart := false, narrowed := true }
def TextEditsUptoSaid : Prop := textEditsUptoRow.holds Try.pinned (OpenSpec.upto textEditsSpec)

/-- 'bramblelaw01.TextDiffs', WHERE WHAT IT READS IS OF BULK AT MOST 1048576: true; the input reads as it did. -/
def textDiffsUptoRow : OpenClaim := { program := "ytneailhanohdhaa", sum := "29417358dba832306837f71a0b5824b96c1d596efcac414279e1a2dca3586a88", func := "bramble/bramblelaw01.TextDiffs", spec := "textDiffs", inPlace := ["internal/bytealg.IndexByteString"], unfollowed := true, recurses := true, apart := false, narrowed := true }
def TextDiffsUptoSaid : Prop := textDiffsUptoRow.holds Try.pinned (OpenSpec.upto textDiffsSpec)

/-- 'bramblelaw01.TextBack', WHERE WHAT IT READS IS OF BULK AT MOST 1048576: true; the input reads as it did. -/
def textBackUptoRow : OpenClaim := { program := "ytneailhanohdhaa", sum := "29417358dba832306837f71a0b5824b96c1d596efcac414279e1a2dca3586a88", func := "bramble/bramblelaw01.TextBack", spec := "textBack", inPlace := ["internal/bytealg.IndexByteString"], unfollowed := true, recurses := true, apart := false, narrowed := true }
def TextBackUptoSaid : Prop := textBackUptoRow.holds Try.pinned (OpenSpec.upto textBackSpec)

/-- 'bramblelaw01.TextMaps', WHERE WHAT IT READS IS OF BULK AT MOST 1048576: true; the input reads as it did. -/
def textMapsUptoRow : OpenClaim := { program := "ytneailhanohdhaa", sum := "29417358dba832306837f71a0b5824b96c1d596efcac414279e1a2dca3586a88", func := "bramble/bramblelaw01.TextMaps", spec := "textMaps", inPlace := ["internal/bytealg.IndexByteString"], unfollowed := true, recurses := true, apart := false, narrowed := true }
def TextMapsUptoSaid : Prop := textMapsUptoRow.holds Try.pinned (OpenSpec.upto textMapsSpec)

/-- 'bramblelaw01.TextApart', WHERE WHAT IT READS IS OF BULK AT MOST 1048576: true; the input reads as it did. -/
def textApartUptoRow : OpenClaim := { program := "ytneailhanohdhaa", sum := "29417358dba832306837f71a0b5824b96c1d596efcac414279e1a2dca3586a88", func := "bramble/bramblelaw01.TextApart", spec := "textApart", inPlace := ["internal/bytealg.IndexByteString"], unfollowed := true, recurses := true, apart := false, narrowed := true }
def TextApartUptoSaid : Prop := textApartUptoRow.holds Try.pinned (OpenSpec.upto textApartSpec)

end Rows
end Go.Proofs.Ytneailhanohdhaa

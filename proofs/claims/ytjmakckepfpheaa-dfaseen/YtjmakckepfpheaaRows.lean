/-
  No cell of these rows narrows 'for every input' (looked for: loops, veiled, ifaces, maps, wideKeys, modest, calm, conditions, laid).
  DERIVED. THE GIVEN ROWS OF THIS SEAT. 4 by the template 'for every input the law returns true; each argument reads behind the call as it read before'; 0 by the template 'total and deterministic' (their statements: YtjmakckepfpheaaTotals.lean).
  GIVEN WITH THE SEED: the statements are not yours to turn. If you find one false, say at which input.
  Laid BY PROGRAM, IN A SANDBOX (cutbox-rows.mjs): the forced cells as the released guide's own fill.sh prints them over the translation ce321fab622252d2… (all of the seat's roots in one cut). By AI agents, Wed Nov 11 2026. No macro, syntax, notation, axiom, sorry.
-/
import Derived.Test.YtjmakckepfpheaaChecked
import GoSem.Claim
import GoSem.ClaimJoined
import GoSem.ClaimMapViews
import Derived.JoinedTies
import Derived.KernelRfl
namespace Go.Proofs.Ytjmakckepfpheaa
/- THE CELL 'sum', in the pinned program and in every row, IS THE sha256 OF THE DUMP (.gsa) THAT YtjmakckepfpheaaProg.lean LOADS. Nothing in Lean hashes anything: it is a label: what it is worth is what the hold of that sum in a sandbox is worth. -/
noncomputable def Try.pinned : Pinned := { name := "ytjmakckepfpheaa", sum := "ce321fab622252d2f38b1a29e043210e02ba91206514f72b8eb035de2b6b9c16", checked := Try.checked }
namespace Rows
def none {H : Type} : Left H := { results := [], args := [] }

/-- 'bramblelaw05.DfaTells': WHATEVER THE INPUT: true; the input reads as it did. -/
def dfaTellsSpec : ChangeSpec := { name := "dfaTells", fn := fun _ => fun
  | [d1, d2, d3] => { results := [.lit (.bool true)], args := [d1, d2, d3] }
  | _ => none }
def dfaTellsRow : OpenClaim := { program := "ytjmakckepfpheaa", sum := "ce321fab622252d2f38b1a29e043210e02ba91206514f72b8eb035de2b6b9c16", func := "bramble/bramblelaw05.DfaTells", spec := "dfaTells", unfollowed := true, recurses := true, apart := false }
def DfaTellsSaid : Prop := dfaTellsRow.holds Try.pinned (OpenSpec.ofChange dfaTellsSpec)

/-- ITS FALSE NEIGHBOUR: 'it returns false'. Refute it at one input. -/
def dfaTellsWrong : ChangeSpec := { name := "dfaTells", fn := fun _ => fun
  | [d1, d2, d3] => { results := [.lit (.bool false)], args := [d1, d2, d3] }
  | _ => none }
def DfaTellsWrongFalsely : Prop := dfaTellsRow.holds Try.pinned (OpenSpec.ofChange dfaTellsWrong)

/-- 'bramblelaw05.DfaOne': WHATEVER THE INPUT: true; the input reads as it did. -/
def dfaOneSpec : ChangeSpec := { name := "dfaOne", fn := fun _ => fun
  | [d1, d2] => { results := [.lit (.bool true)], args := [d1, d2] }
  | _ => none }
def dfaOneRow : OpenClaim := { program := "ytjmakckepfpheaa", sum := "ce321fab622252d2f38b1a29e043210e02ba91206514f72b8eb035de2b6b9c16", func := "bramble/bramblelaw05.DfaOne", spec := "dfaOne", unfollowed := true, recurses := true, apart := false }
def DfaOneSaid : Prop := dfaOneRow.holds Try.pinned (OpenSpec.ofChange dfaOneSpec)

/-- ITS FALSE NEIGHBOUR: 'it returns false'. Refute it at one input. -/
def dfaOneWrong : ChangeSpec := { name := "dfaOne", fn := fun _ => fun
  | [d1, d2] => { results := [.lit (.bool false)], args := [d1, d2] }
  | _ => none }
def DfaOneWrongFalsely : Prop := dfaOneRow.holds Try.pinned (OpenSpec.ofChange dfaOneWrong)

/-- 'bramblelaw05.DfaSeen': WHATEVER THE INPUT: true; the input reads as it did. -/
def dfaSeenSpec : ChangeSpec := { name := "dfaSeen", fn := fun _ => fun
  | [d1, d2, d3] => { results := [.lit (.bool true)], args := [d1, d2, d3] }
  | _ => none }
def dfaSeenRow : OpenClaim := { program := "ytjmakckepfpheaa", sum := "ce321fab622252d2f38b1a29e043210e02ba91206514f72b8eb035de2b6b9c16", func := "bramble/bramblelaw05.DfaSeen", spec := "dfaSeen", unfollowed := true, recurses := true, apart := false }
def DfaSeenSaid : Prop := dfaSeenRow.holds Try.pinned (OpenSpec.ofChange dfaSeenSpec)

/-- ITS FALSE NEIGHBOUR: 'it returns false'. Refute it at one input. -/
def dfaSeenWrong : ChangeSpec := { name := "dfaSeen", fn := fun _ => fun
  | [d1, d2, d3] => { results := [.lit (.bool false)], args := [d1, d2, d3] }
  | _ => none }
def DfaSeenWrongFalsely : Prop := dfaSeenRow.holds Try.pinned (OpenSpec.ofChange dfaSeenWrong)

/-- 'bramblelaw05.DfaTurned': WHATEVER THE INPUT: true; the input reads as it did. -/
def dfaTurnedSpec : ChangeSpec := { name := "dfaTurned", fn := fun _ => fun
  | [d1, d2, d3] => { results := [.lit (.bool true)], args := [d1, d2, d3] }
  | _ => none }
def dfaTurnedRow : OpenClaim := { program := "ytjmakckepfpheaa", sum := "ce321fab622252d2f38b1a29e043210e02ba91206514f72b8eb035de2b6b9c16", func := "bramble/bramblelaw05.DfaTurned", spec := "dfaTurned", unfollowed := true, recurses := true, apart := false }
def DfaTurnedSaid : Prop := dfaTurnedRow.holds Try.pinned (OpenSpec.ofChange dfaTurnedSpec)

/-- ITS FALSE NEIGHBOUR: 'it returns false'. Refute it at one input. -/
def dfaTurnedWrong : ChangeSpec := { name := "dfaTurned", fn := fun _ => fun
  | [d1, d2, d3] => { results := [.lit (.bool false)], args := [d1, d2, d3] }
  | _ => none }
def DfaTurnedWrongFalsely : Prop := dfaTurnedRow.holds Try.pinned (OpenSpec.ofChange dfaTurnedWrong)

/- THE SECOND FORM. 'bulk': how many values and letters a reading holds, each counted each time it is reached (what is shared counts as often as it is met; a slice's spare places count too). A statement '..UptoSaid' is the law's where the arguments, and the package variables that the reading takes, are together of bulk at most 1048576: NARROWER than '..Said'. Prove '..Said' where nothing that the law and all that it calls make is longer than what came in: it says more and counts as full. Else prove '..UptoSaid'. A law counts once. -/
mutual
def uptoBulk {H : Type} : DataW H → Nat
  | .lit (.string bytes) => bytes.length + 1
  | .lit _ => 1
  | .nil => 1
  | .ptr d => uptoBulk d + 1
  | .slice elems spare => uptoBulkAll elems + uptoBulkAll spare + 1
  | .agg parts => uptoBulkAll parts + 1
  | .iface _ d => uptoBulk d + 1
  | .map entries => uptoBulkEntries entries + 1
  | .held _ => 1
def uptoBulkAll {H : Type} : List (DataW H) → Nat
  | [] => 0
  | d :: r => uptoBulk d + uptoBulkAll r
def uptoBulkEntries {H : Type} : List (Lit × DataW H) → Nat
  | [] => 0
  | x :: r => uptoBulkEntry x + uptoBulkEntries r
def uptoBulkEntry {H : Type} : Lit × DataW H → Nat
  | (.string bytes, d) => bytes.length + uptoBulk d + 1
  | (_, d) => uptoBulk d + 1
 end
def uptoSmall : (H : Type) → List (DataW H) → Bool := fun _ ds => decide (uptoBulkAll ds ≤ 1048576)
def OpenSpec.upto (s : _root_.Go.ChangeSpec) : _root_.Go.OpenSpec := { _root_.Go.OpenSpec.ofChange s with cond := some uptoSmall }

/-- 'bramblelaw05.DfaTells', WHERE WHAT IT READS IS OF BULK AT MOST 1048576: true; the input reads as it did. -/
def dfaTellsUptoRow : OpenClaim := { program := "ytjmakckepfpheaa", sum := "ce321fab622252d2f38b1a29e043210e02ba91206514f72b8eb035de2b6b9c16", func := "bramble/bramblelaw05.DfaTells", spec := "dfaTells", unfollowed := true, recurses := true, apart := false, narrowed := true }
def DfaTellsUptoSaid : Prop := dfaTellsUptoRow.holds Try.pinned (OpenSpec.upto dfaTellsSpec)

/-- 'bramblelaw05.DfaOne', WHERE WHAT IT READS IS OF BULK AT MOST 1048576: true; the input reads as it did. -/
def dfaOneUptoRow : OpenClaim := { program := "ytjmakckepfpheaa", sum := "ce321fab622252d2f38b1a29e043210e02ba91206514f72b8eb035de2b6b9c16", func := "bramble/bramblelaw05.DfaOne", spec := "dfaOne", unfollowed := true, recurses := true, apart := false, narrowed := true }
def DfaOneUptoSaid : Prop := dfaOneUptoRow.holds Try.pinned (OpenSpec.upto dfaOneSpec)

/-- 'bramblelaw05.DfaSeen', WHERE WHAT IT READS IS OF BULK AT MOST 1048576: true; the input reads as it did. -/
def dfaSeenUptoRow : OpenClaim := { program := "ytjmakckepfpheaa", sum := "ce321fab622252d2f38b1a29e043210e02ba91206514f72b8eb035de2b6b9c16", func := "bramble/bramblelaw05.DfaSeen", spec := "dfaSeen", unfollowed := true, recurses := true, apart := false, narrowed := true }
def DfaSeenUptoSaid : Prop := dfaSeenUptoRow.holds Try.pinned (OpenSpec.upto dfaSeenSpec)

/-- 'bramblelaw05.DfaTurned', WHERE WHAT IT READS IS OF BULK AT MOST 1048576: true; the input reads as it did. -/
def dfaTurnedUptoRow : OpenClaim := { program := "ytjmakckepfpheaa", sum := "ce321fab622252d2f38b1a29e043210e02ba91206514f72b8eb035de2b6b9c16", func := "bramble/bramblelaw05.DfaTurned", spec := "dfaTurned", unfollowed := true, recurses := true, apart := false, narrowed := true }
def DfaTurnedUptoSaid : Prop := dfaTurnedUptoRow.holds Try.pinned (OpenSpec.upto dfaTurnedSpec)

end Rows
end Go.Proofs.Ytjmakckepfpheaa

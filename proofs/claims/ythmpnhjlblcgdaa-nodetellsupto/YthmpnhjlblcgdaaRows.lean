/-
  NARROWER THAN 'FOR EVERY INPUT', by the rows' own cells (each row's printed sentence says how): NodeTells: loops · NodeFinds: loops · NodeLeaves: loops · NodeLeast: loops · NodeMoves: loops · NodeWider: loops.
  DERIVED. THE GIVEN ROWS OF THIS SEAT. 6 by the template 'for every input the law returns true; each argument reads behind the call as it read before'; 0 by the template 'total and deterministic' (their statements: YthmpnhjlblcgdaaTotals.lean).
  GIVEN WITH THE SEED: the statements are not yours to turn. If you find one false, say at which input.
  Laid BY PROGRAM, IN A SANDBOX (cutbox-rows.mjs): the forced cells as the released guide's own fill.sh prints them over the translation c750de69d0ee457a… (all of the seat's roots in one cut). By AI agents, Wed Nov 11 2026. No macro, syntax, notation, axiom, sorry.
-/
import Derived.Test.YthmpnhjlblcgdaaChecked
import GoSem.Claim
import GoSem.ClaimJoined
import GoSem.ClaimMapViews
import Derived.JoinedTies
import Derived.KernelRfl
namespace Go.Proofs.Ythmpnhjlblcgdaa
/- THE CELL 'sum', in the pinned program and in every row, IS THE sha256 OF THE DUMP (.gsa) THAT YthmpnhjlblcgdaaProg.lean LOADS. Nothing in Lean hashes anything: it is a label: what it is worth is what the hold of that sum in a sandbox is worth. -/
noncomputable def Try.pinned : Pinned := { name := "ythmpnhjlblcgdaa", sum := "c750de69d0ee457a48a6c530cf7c0cf8e3acfbc7a8003c3d355f2ecd9574fed9", checked := Try.checked }
namespace Rows
def none {H : Type} : Left H := { results := [], args := [] }

/-- 'bramblelaw14.NodeTells': WHATEVER THE INPUT: true; the input reads as it did. -/
def nodeTellsSpec : ChangeSpec := { name := "nodeTells", fn := fun _ => fun
  | [d1, d2, d3] => { results := [.lit (.bool true)], args := [d1, d2, d3] }
  | _ => none }
def nodeTellsRow : OpenClaim := { program := "ythmpnhjlblcgdaa", sum := "c750de69d0ee457a48a6c530cf7c0cf8e3acfbc7a8003c3d355f2ecd9574fed9", func := "bramble/bramblelaw14.NodeTells", spec := "nodeTells", inPlace := ["internal/abi.NoEscape"], unfollowed := true, recurses := true, loops := true, apart := false }
def NodeTellsSaid : Prop := nodeTellsRow.holds Try.pinned (OpenSpec.ofChange nodeTellsSpec)

/-- ITS FALSE NEIGHBOUR: 'it returns false'. Refute it at one input. -/
def nodeTellsWrong : ChangeSpec := { name := "nodeTells", fn := fun _ => fun
  | [d1, d2, d3] => { results := [.lit (.bool false)], args := [d1, d2, d3] }
  | _ => none }
def NodeTellsWrongFalsely : Prop := nodeTellsRow.holds Try.pinned (OpenSpec.ofChange nodeTellsWrong)

/-- 'bramblelaw14.NodeFinds': WHATEVER THE INPUT: true; the input reads as it did. -/
def nodeFindsSpec : ChangeSpec := { name := "nodeFinds", fn := fun _ => fun
  | [d1, d2, d3, d4, d5] => { results := [.lit (.bool true)], args := [d1, d2, d3, d4, d5] }
  | _ => none }
def nodeFindsRow : OpenClaim := { program := "ythmpnhjlblcgdaa", sum := "c750de69d0ee457a48a6c530cf7c0cf8e3acfbc7a8003c3d355f2ecd9574fed9", func := "bramble/bramblelaw14.NodeFinds", spec := "nodeFinds", inPlace := ["internal/abi.NoEscape"], unfollowed := true, recurses := true, loops := true, apart := false }
def NodeFindsSaid : Prop := nodeFindsRow.holds Try.pinned (OpenSpec.ofChange nodeFindsSpec)

/-- ITS FALSE NEIGHBOUR: 'it returns false'. Refute it at one input. -/
def nodeFindsWrong : ChangeSpec := { name := "nodeFinds", fn := fun _ => fun
  | [d1, d2, d3, d4, d5] => { results := [.lit (.bool false)], args := [d1, d2, d3, d4, d5] }
  | _ => none }
def NodeFindsWrongFalsely : Prop := nodeFindsRow.holds Try.pinned (OpenSpec.ofChange nodeFindsWrong)

/-- 'bramblelaw14.NodeLeaves': WHATEVER THE INPUT: true; the input reads as it did. -/
def nodeLeavesSpec : ChangeSpec := { name := "nodeLeaves", fn := fun _ => fun
  | [d1, d2] => { results := [.lit (.bool true)], args := [d1, d2] }
  | _ => none }
def nodeLeavesRow : OpenClaim := { program := "ythmpnhjlblcgdaa", sum := "c750de69d0ee457a48a6c530cf7c0cf8e3acfbc7a8003c3d355f2ecd9574fed9", func := "bramble/bramblelaw14.NodeLeaves", spec := "nodeLeaves", inPlace := ["internal/abi.NoEscape"], unfollowed := true, recurses := true, loops := true, apart := false }
def NodeLeavesSaid : Prop := nodeLeavesRow.holds Try.pinned (OpenSpec.ofChange nodeLeavesSpec)

/-- ITS FALSE NEIGHBOUR: 'it returns false'. Refute it at one input. -/
def nodeLeavesWrong : ChangeSpec := { name := "nodeLeaves", fn := fun _ => fun
  | [d1, d2] => { results := [.lit (.bool false)], args := [d1, d2] }
  | _ => none }
def NodeLeavesWrongFalsely : Prop := nodeLeavesRow.holds Try.pinned (OpenSpec.ofChange nodeLeavesWrong)

/-- 'bramblelaw14.NodeLeast': WHATEVER THE INPUT: true; the input reads as it did. -/
def nodeLeastSpec : ChangeSpec := { name := "nodeLeast", fn := fun _ => fun
  | [d1, d2, d3] => { results := [.lit (.bool true)], args := [d1, d2, d3] }
  | _ => none }
def nodeLeastRow : OpenClaim := { program := "ythmpnhjlblcgdaa", sum := "c750de69d0ee457a48a6c530cf7c0cf8e3acfbc7a8003c3d355f2ecd9574fed9", func := "bramble/bramblelaw14.NodeLeast", spec := "nodeLeast", inPlace := ["internal/abi.NoEscape"], unfollowed := true, recurses := true, loops := true, apart := false }
def NodeLeastSaid : Prop := nodeLeastRow.holds Try.pinned (OpenSpec.ofChange nodeLeastSpec)

/-- ITS FALSE NEIGHBOUR: 'it returns false'. Refute it at one input. -/
def nodeLeastWrong : ChangeSpec := { name := "nodeLeast", fn := fun _ => fun
  | [d1, d2, d3] => { results := [.lit (.bool false)], args := [d1, d2, d3] }
  | _ => none }
def NodeLeastWrongFalsely : Prop := nodeLeastRow.holds Try.pinned (OpenSpec.ofChange nodeLeastWrong)

/-- 'bramblelaw14.NodeMoves': WHATEVER THE INPUT: true; the input reads as it did. -/
def nodeMovesSpec : ChangeSpec := { name := "nodeMoves", fn := fun _ => fun
  | [d1, d2] => { results := [.lit (.bool true)], args := [d1, d2] }
  | _ => none }
def nodeMovesRow : OpenClaim := { program := "ythmpnhjlblcgdaa", sum := "c750de69d0ee457a48a6c530cf7c0cf8e3acfbc7a8003c3d355f2ecd9574fed9", func := "bramble/bramblelaw14.NodeMoves", spec := "nodeMoves", inPlace := ["internal/abi.NoEscape"], unfollowed := true, recurses := true, loops := true, apart := false }
def NodeMovesSaid : Prop := nodeMovesRow.holds Try.pinned (OpenSpec.ofChange nodeMovesSpec)

/-- ITS FALSE NEIGHBOUR: 'it returns false'. Refute it at one input. -/
def nodeMovesWrong : ChangeSpec := { name := "nodeMoves", fn := fun _ => fun
  | [d1, d2] => { results := [.lit (.bool false)], args := [d1, d2] }
  | _ => none }
def NodeMovesWrongFalsely : Prop := nodeMovesRow.holds Try.pinned (OpenSpec.ofChange nodeMovesWrong)

/-- 'bramblelaw14.NodeWider': WHATEVER THE INPUT: true; the input reads as it did. -/
def nodeWiderSpec : ChangeSpec := { name := "nodeWider", fn := fun _ => fun
  | [d1, d2, d3] => { results := [.lit (.bool true)], args := [d1, d2, d3] }
  | _ => none }
def nodeWiderRow : OpenClaim := { program := "ythmpnhjlblcgdaa", sum := "c750de69d0ee457a48a6c530cf7c0cf8e3acfbc7a8003c3d355f2ecd9574fed9", func := "bramble/bramblelaw14.NodeWider", spec := "nodeWider", inPlace := ["internal/abi.NoEscape"], unfollowed := true, recurses := true, loops := true, apart := false }
def NodeWiderSaid : Prop := nodeWiderRow.holds Try.pinned (OpenSpec.ofChange nodeWiderSpec)

/-- ITS FALSE NEIGHBOUR: 'it returns false'. Refute it at one input. -/
def nodeWiderWrong : ChangeSpec := { name := "nodeWider", fn := fun _ => fun
  | [d1, d2, d3] => { results := [.lit (.bool false)], args := [d1, d2, d3] }
  | _ => none }
def NodeWiderWrongFalsely : Prop := nodeWiderRow.holds Try.pinned (OpenSpec.ofChange nodeWiderWrong)

/- THE SECOND FORM. 'bulk': how many values and letters a reading holds, each counted each time it is reached (what is shared counts as often as it is met; a slice's spare places count too). A statement '..UptoSaid' is the law's where the arguments, and the package variables that the reading takes, are together of bulk at most 1048576: NARROWER than '..Said'. Prove '..Said' where nothing that the law and all that it calls make is longer than what came in: it says more and counts as full. Else prove '..UptoSaid'. A law counts once. -/
mutual
def uptoBulk {H : Type} : DataW H → Nat
  | .lit (.string bytes) => bytes.length + 1
  | .lit _ => 1
  | .nil => 1
  | .ptr d => uptoBulk d + 1
  | .slice elems spare => uptoBulkAll elems + uptoBulkAll spare + 1
  | .agg parts => uptoBulkAll parts + 1
  | .iface _ d => uptoBulk d + 1
  | .map entries => uptoBulkEntries entries + 1
  | .held _ => 1
def uptoBulkAll {H : Type} : List (DataW H) → Nat
  | [] => 0
  | d :: r => uptoBulk d + uptoBulkAll r
def uptoBulkEntries {H : Type} : List (Lit × DataW H) → Nat
  | [] => 0
  | x :: r => uptoBulkEntry x + uptoBulkEntries r
def uptoBulkEntry {H : Type} : Lit × DataW H → Nat
  | (.string bytes, d) => bytes.length + uptoBulk d + 1
  | (_, d) => uptoBulk d + 1
 end
def uptoSmall : (H : Type) → List (DataW H) → Bool := fun _ ds => decide (uptoBulkAll ds ≤ 1048576)
def OpenSpec.upto (s : _root_.Go.ChangeSpec) : _root_.Go.OpenSpec := { _root_.Go.OpenSpec.ofChange s with cond := some uptoSmall }

/-- 'bramblelaw14.NodeTells', WHERE WHAT IT READS IS OF BULK AT MOST 1048576: true; the input reads as it did. -/
def nodeTellsUptoRow : OpenClaim := { program := "ythmpnhjlblcgdaa", sum := "c750de69d0ee457a48a6c530cf7c0cf8e3acfbc7a8003c3d355f2ecd9574fed9", func := "bramble/bramblelaw14.NodeTells", spec := "nodeTells", inPlace := ["internal/abi.NoEscape"], unfollowed := true, recurses := true, loops := true, apart := false, narrowed := true }
def NodeTellsUptoSaid : Prop := nodeTellsUptoRow.holds Try.pinned (OpenSpec.upto nodeTellsSpec)

/-- 'bramblelaw14.NodeFinds', WHERE WHAT IT READS IS OF BULK AT MOST 1048576: true; the input reads as it did. -/
def nodeFindsUptoRow : OpenClaim := { program := "ythmpnhjlblcgdaa", sum := "c750de69d0ee457a48a6c530cf7c0cf8e3acfbc7a8003c3d355f2ecd9574fed9", func := "bramble/bramblelaw14.NodeFinds", spec := "nodeFinds", inPlace := ["internal/abi.NoEscape"], unfollowed := true, recurses := true, loops := true, apart := false, narrowed := true }
def NodeFindsUptoSaid : Prop := nodeFindsUptoRow.holds Try.pinned (OpenSpec.upto nodeFindsSpec)

/-- 'bramblelaw14.NodeLeaves', WHERE WHAT IT READS IS OF BULK AT MOST 1048576: true; the input reads as it did. -/
def nodeLeavesUptoRow : OpenClaim := { program := "ythmpnhjlblcgdaa", sum := "c750de69d0ee457a48a6c530cf7c0cf8e3acfbc7a8003c3d355f2ecd9574fed9", func := "bramble/bramblelaw14.NodeLeaves", spec := "nodeLeaves", inPlace := ["internal/abi.NoEscape"], unfollowed := true, recurses := true, loops := true, apart := false, narrowed := true }
def NodeLeavesUptoSaid : Prop := nodeLeavesUptoRow.holds Try.pinned (OpenSpec.upto nodeLeavesSpec)

/-- 'bramblelaw14.NodeLeast', WHERE WHAT IT READS IS OF BULK AT MOST 1048576: true; the input reads as it did. -/
def nodeLeastUptoRow : OpenClaim := { program := "ythmpnhjlblcgdaa", sum := "c750de69d0ee457a48a6c530cf7c0cf8e3acfbc7a8003c3d355f2ecd9574fed9", func := "bramble/bramblelaw14.NodeLeast", spec := "nodeLeast", inPlace := ["internal/abi.NoEscape"], unfollowed := true, recurses := true, loops := true, apart := false, narrowed := true }
def NodeLeastUptoSaid : Prop := nodeLeastUptoRow.holds Try.pinned (OpenSpec.upto nodeLeastSpec)

/-- 'bramblelaw14.NodeMoves', WHERE WHAT IT READS IS OF BULK AT MOST 1048576: true; the input reads as it did. -/
def nodeMovesUptoRow : OpenClaim := { program := "ythmpnhjlblcgdaa", sum := "c750de69d0ee457a48a6c530cf7c0cf8e3acfbc7a8003c3d355f2ecd9574fed9", func := "bramble/bramblelaw14.NodeMoves", spec := "nodeMoves", inPlace := ["internal/abi.NoEscape"], unfollowed := true, recurses := true, loops := true, apart := false, narrowed := true }
def NodeMovesUptoSaid : Prop := nodeMovesUptoRow.holds Try.pinned (OpenSpec.upto nodeMovesSpec)

/-- 'bramblelaw14.NodeWider', WHERE WHAT IT READS IS OF BULK AT MOST 1048576: true; the input reads as it did. -/
def nodeWiderUptoRow : OpenClaim := { program := "ythmpnhjlblcgdaa", sum := "c750de69d0ee457a48a6c530cf7c0cf8e3acfbc7a8003c3d355f2ecd9574fed9", func := "bramble/bramblelaw14.NodeWider", spec := "nodeWider", inPlace := ["internal/abi.NoEscape"], unfollowed := true, recurses := true, loops := true, apart := false, narrowed := true }
def NodeWiderUptoSaid : Prop := nodeWiderUptoRow.holds Try.pinned (OpenSpec.upto nodeWiderSpec)

end Rows
end Go.Proofs.Ythmpnhjlblcgdaa

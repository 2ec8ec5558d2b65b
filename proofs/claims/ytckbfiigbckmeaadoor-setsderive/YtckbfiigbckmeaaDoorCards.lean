/-
  DERIVED. GIVEN WITH THE SEED: THE CARDS: each row of YtckbfiigbckmeaaDoorRows.lean that lists a variable, with what it lists TIED to the program's text (the seventh form; the later family's looks); each row that meets fmt, with fmt's text TOLD by the authors' own Lean function (tested against real Go, not proved from fmt's source: count such statements apart). THE CARD IS WHAT COUNTS. Prove the row's statement (the work); the ties are given (YtckbfiigbckmeaaDoorTie.lean); close each card by the builder's one call (the guide's Derived/Test/ToyasCard.lean, 'card_holds'). Laid BY PROGRAM, IN A SANDBOX (cutbox-door.mjs). By AI agents, Wed Nov 11 2026. No macro, syntax, notation, axiom, sorry.
-/
import Derived.Test.YtckbfiigbckmeaaDoorRows
import GoSem.ClaimSeven
namespace Go.Proofs.YtckbfiigbckmeaaDoor
namespace Rows

/-- THE TIED CARD OF 'bramblelaw10.SetsTells'. -/
def setsTellsCard : Claim7 := { stood := { row := setsTellsRow, standIns := [], harness := (true, "e3acbb5cbed76ef4b85cd8acd3c9e307b7c6de81de729fa79effc48d812e15bd"), looks := false }, kinds := [], alts := [], laidByText := true, laidKinds := [.data], laidTests := true, laidLooks := .later }
def SetsTellsCardSaid : Prop := Claim7.holds Tryd.pinned (.plain (OpenSpec.ofChange setsTellsSpec)) setsTellsCard

/-- THE TIED CARD OF 'bramblelaw10.SetsDerive'. -/
def setsDeriveCard : Claim7 := { stood := { row := setsDeriveRow, standIns := [], harness := (true, "e3acbb5cbed76ef4b85cd8acd3c9e307b7c6de81de729fa79effc48d812e15bd"), looks := false }, kinds := [], alts := [], laidByText := true, laidKinds := [.data], laidTests := true, laidLooks := .later }
def SetsDeriveCardSaid : Prop := Claim7.holds Tryd.pinned (.plain (OpenSpec.ofChange setsDeriveSpec)) setsDeriveCard

/-- THE TIED CARD OF 'bramblelaw10.SetsGrow'. -/
def setsGrowCard : Claim7 := { stood := { row := setsGrowRow, standIns := [], harness := (true, "e3acbb5cbed76ef4b85cd8acd3c9e307b7c6de81de729fa79effc48d812e15bd"), looks := false }, kinds := [], alts := [], laidByText := true, laidKinds := [.data], laidTests := true, laidLooks := .later }
def SetsGrowCardSaid : Prop := Claim7.holds Tryd.pinned (.plain (OpenSpec.ofChange setsGrowSpec)) setsGrowCard

/-- THE TIED CARD OF 'bramblelaw10.SetsClosed'. -/
def setsClosedCard : Claim7 := { stood := { row := setsClosedRow, standIns := [], harness := (true, "e3acbb5cbed76ef4b85cd8acd3c9e307b7c6de81de729fa79effc48d812e15bd"), looks := false }, kinds := [], alts := [], laidByText := true, laidKinds := [.data], laidTests := true, laidLooks := .later }
def SetsClosedCardSaid : Prop := Claim7.holds Tryd.pinned (.plain (OpenSpec.ofChange setsClosedSpec)) setsClosedCard

/-- THE SECOND FORM's CARD OF 'bramblelaw10.SetsTells'. -/
def setsTellsUptoCard : Claim7 := { stood := { row := setsTellsUptoRow, standIns := [], harness := (true, "e3acbb5cbed76ef4b85cd8acd3c9e307b7c6de81de729fa79effc48d812e15bd"), looks := false }, kinds := [], alts := [], laidByText := true, laidKinds := [.data], laidTests := true, laidLooks := .later }
def SetsTellsUptoCardSaid : Prop := Claim7.holds Tryd.pinned (.plain (OpenSpec.upto setsTellsSpec)) setsTellsUptoCard

/-- THE SECOND FORM's CARD OF 'bramblelaw10.SetsDerive'. -/
def setsDeriveUptoCard : Claim7 := { stood := { row := setsDeriveUptoRow, standIns := [], harness := (true, "e3acbb5cbed76ef4b85cd8acd3c9e307b7c6de81de729fa79effc48d812e15bd"), looks := false }, kinds := [], alts := [], laidByText := true, laidKinds := [.data], laidTests := true, laidLooks := .later }
def SetsDeriveUptoCardSaid : Prop := Claim7.holds Tryd.pinned (.plain (OpenSpec.upto setsDeriveSpec)) setsDeriveUptoCard

/-- THE SECOND FORM's CARD OF 'bramblelaw10.SetsGrow'. -/
def setsGrowUptoCard : Claim7 := { stood := { row := setsGrowUptoRow, standIns := [], harness := (true, "e3acbb5cbed76ef4b85cd8acd3c9e307b7c6de81de729fa79effc48d812e15bd"), looks := false }, kinds := [], alts := [], laidByText := true, laidKinds := [.data], laidTests := true, laidLooks := .later }
def SetsGrowUptoCardSaid : Prop := Claim7.holds Tryd.pinned (.plain (OpenSpec.upto setsGrowSpec)) setsGrowUptoCard

/-- THE SECOND FORM's CARD OF 'bramblelaw10.SetsClosed'. -/
def setsClosedUptoCard : Claim7 := { stood := { row := setsClosedUptoRow, standIns := [], harness := (true, "e3acbb5cbed76ef4b85cd8acd3c9e307b7c6de81de729fa79effc48d812e15bd"), looks := false }, kinds := [], alts := [], laidByText := true, laidKinds := [.data], laidTests := true, laidLooks := .later }
def SetsClosedUptoCardSaid : Prop := Claim7.holds Tryd.pinned (.plain (OpenSpec.upto setsClosedSpec)) setsClosedUptoCard
end Rows
end Go.Proofs.YtckbfiigbckmeaaDoor

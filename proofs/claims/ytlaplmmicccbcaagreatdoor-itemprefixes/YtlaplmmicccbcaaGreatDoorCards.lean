/-
  DERIVED. GIVEN WITH THE SEED: THE CARDS: each row of YtlaplmmicccbcaaGreatDoorRows.lean that lists a variable, with what it lists TIED to the program's text (the seventh form; the later family's looks); each row that meets fmt, with fmt's text TOLD by the authors' own Lean function (tested against real Go, not proved from fmt's source: count such statements apart). THE CARD IS WHAT COUNTS. Prove the row's statement (the work); the ties are given (YtlaplmmicccbcaaGreatDoorTie.lean); close each card by the builder's one call (the guide's Derived/Test/ToyasCard.lean, 'card_holds'). Laid BY PROGRAM, IN A SANDBOX (cutbox-door.mjs). By AI agents, Wed Nov 11 2026. No macro, syntax, notation, axiom, sorry.
-/
import Derived.Test.YtlaplmmicccbcaaGreatDoorRows
import GoSem.ClaimSeven
namespace Go.Proofs.YtlaplmmicccbcaaGreatDoor
namespace Rows

/-- THE TIED CARD OF 'bramblelaw11.ItemTells'. -/
def itemTellsCard : Claim7 := { stood := { row := itemTellsRow, standIns := [], harness := (true, "78e23f28f78fc9bc861f6606028107e8085272ad01b57522f74cea83fce03b7b"), looks := false }, kinds := [], alts := [], laidByText := true, laidKinds := [.data], laidTests := true, laidLooks := .later }
def ItemTellsCardSaid : Prop := Claim7.holds Tryz.pinned (.plain (OpenSpec.ofChange itemTellsSpec)) itemTellsCard

/-- THE TIED CARD OF 'bramblelaw11.ItemAll'. -/
def itemAllCard : Claim7 := { stood := { row := itemAllRow, standIns := [], harness := (true, "78e23f28f78fc9bc861f6606028107e8085272ad01b57522f74cea83fce03b7b"), looks := false }, kinds := [], alts := [], laidByText := true, laidKinds := [.data], laidTests := true, laidLooks := .later }
def ItemAllCardSaid : Prop := Claim7.holds Tryz.pinned (.plain (OpenSpec.ofChange itemAllSpec)) itemAllCard

/-- THE TIED CARD OF 'bramblelaw11.ItemCloses'. -/
def itemClosesCard : Claim7 := { stood := { row := itemClosesRow, standIns := [], harness := (true, "78e23f28f78fc9bc861f6606028107e8085272ad01b57522f74cea83fce03b7b"), looks := false }, kinds := [], alts := [], laidByText := true, laidKinds := [.data], laidTests := true, laidLooks := .later }
def ItemClosesCardSaid : Prop := Claim7.holds Tryz.pinned (.plain (OpenSpec.ofChange itemClosesSpec)) itemClosesCard

/-- THE TIED CARD OF 'bramblelaw11.ItemPrefixes'. -/
def itemPrefixesCard : Claim7 := { stood := { row := itemPrefixesRow, standIns := [], harness := (true, "78e23f28f78fc9bc861f6606028107e8085272ad01b57522f74cea83fce03b7b"), looks := false }, kinds := [], alts := [], laidByText := true, laidKinds := [.data], laidTests := true, laidLooks := .later }
def ItemPrefixesCardSaid : Prop := Claim7.holds Tryz.pinned (.plain (OpenSpec.ofChange itemPrefixesSpec)) itemPrefixesCard

/-- THE TIED CARD OF 'bramblelaw11.ItemWhole'. -/
def itemWholeCard : Claim7 := { stood := { row := itemWholeRow, standIns := [], harness := (true, "78e23f28f78fc9bc861f6606028107e8085272ad01b57522f74cea83fce03b7b"), looks := false }, kinds := [], alts := [], laidByText := true, laidKinds := [.data], laidTests := true, laidLooks := .later }
def ItemWholeCardSaid : Prop := Claim7.holds Tryz.pinned (.plain (OpenSpec.ofChange itemWholeSpec)) itemWholeCard

/-- THE SECOND FORM's CARD OF 'bramblelaw11.ItemTells'. -/
def itemTellsUptoCard : Claim7 := { stood := { row := itemTellsUptoRow, standIns := [], harness := (true, "78e23f28f78fc9bc861f6606028107e8085272ad01b57522f74cea83fce03b7b"), looks := false }, kinds := [], alts := [], laidByText := true, laidKinds := [.data], laidTests := true, laidLooks := .later }
def ItemTellsUptoCardSaid : Prop := Claim7.holds Tryz.pinned (.plain (OpenSpec.upto itemTellsSpec)) itemTellsUptoCard

/-- THE SECOND FORM's CARD OF 'bramblelaw11.ItemAll'. -/
def itemAllUptoCard : Claim7 := { stood := { row := itemAllUptoRow, standIns := [], harness := (true, "78e23f28f78fc9bc861f6606028107e8085272ad01b57522f74cea83fce03b7b"), looks := false }, kinds := [], alts := [], laidByText := true, laidKinds := [.data], laidTests := true, laidLooks := .later }
def ItemAllUptoCardSaid : Prop := Claim7.holds Tryz.pinned (.plain (OpenSpec.upto itemAllSpec)) itemAllUptoCard

/-- THE SECOND FORM's CARD OF 'bramblelaw11.ItemCloses'. -/
def itemClosesUptoCard : Claim7 := { stood := { row := itemClosesUptoRow, standIns := [], harness := (true, "78e23f28f78fc9bc861f6606028107e8085272ad01b57522f74cea83fce03b7b"), looks := false }, kinds := [], alts := [], laidByText := true, laidKinds := [.data], laidTests := true, laidLooks := .later }
def ItemClosesUptoCardSaid : Prop := Claim7.holds Tryz.pinned (.plain (OpenSpec.upto itemClosesSpec)) itemClosesUptoCard

/-- THE SECOND FORM's CARD OF 'bramblelaw11.ItemPrefixes'. -/
def itemPrefixesUptoCard : Claim7 := { stood := { row := itemPrefixesUptoRow, standIns := [], harness := (true, "78e23f28f78fc9bc861f6606028107e8085272ad01b57522f74cea83fce03b7b"), looks := false }, kinds := [], alts := [], laidByText := true, laidKinds := [.data], laidTests := true, laidLooks := .later }
def ItemPrefixesUptoCardSaid : Prop := Claim7.holds Tryz.pinned (.plain (OpenSpec.upto itemPrefixesSpec)) itemPrefixesUptoCard

/-- THE SECOND FORM's CARD OF 'bramblelaw11.ItemWhole'. -/
def itemWholeUptoCard : Claim7 := { stood := { row := itemWholeUptoRow, standIns := [], harness := (true, "78e23f28f78fc9bc861f6606028107e8085272ad01b57522f74cea83fce03b7b"), looks := false }, kinds := [], alts := [], laidByText := true, laidKinds := [.data], laidTests := true, laidLooks := .later }
def ItemWholeUptoCardSaid : Prop := Claim7.holds Tryz.pinned (.plain (OpenSpec.upto itemWholeSpec)) itemWholeUptoCard
end Rows
end Go.Proofs.YtlaplmmicccbcaaGreatDoor

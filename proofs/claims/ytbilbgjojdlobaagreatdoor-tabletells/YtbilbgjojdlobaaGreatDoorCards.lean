/-
  DERIVED. GIVEN WITH THE SEED: THE CARDS: each row of YtbilbgjojdlobaaGreatDoorRows.lean that lists a variable, with what it lists TIED to the program's text (the seventh form; the later family's looks); each row that meets fmt, with fmt's text TOLD by the authors' own Lean function (tested against real Go, not proved from fmt's source: count such statements apart). THE CARD IS WHAT COUNTS. Prove the row's statement (the work); the ties are given (YtbilbgjojdlobaaGreatDoorTie.lean); close each card by the builder's one call (the guide's Derived/Test/ToyasCard.lean, 'card_holds'). Laid BY PROGRAM, IN A SANDBOX (cutbox-door.mjs). By AI agents, Wed Nov 11 2026. No macro, syntax, notation, axiom, sorry.
-/
import Derived.Test.YtbilbgjojdlobaaGreatDoorRows
import GoSem.ClaimSeven
namespace Go.Proofs.YtbilbgjojdlobaaGreatDoor
namespace Rows

/-- THE TIED CARD OF 'bramblelaw12.TableBuilds'. -/
def tableBuildsCard : Claim7 := { stood := { row := tableBuildsRow, standIns := [], harness := (true, "788a3e4e52a3919898e91a4dc82ec2f8a40b1e9553af6484ed91a1a633cc35f0"), looks := true }, kinds := [], alts := [], laidByText := true, laidKinds := [.data], laidTests := true, laidLooks := .later }
def TableBuildsCardSaid : Prop := Claim7.holds Tryz.pinned (.plain (OpenSpec.ofChange tableBuildsSpec)) tableBuildsCard

/-- THE TIED CARD OF 'bramblelaw12.TableTells'. -/
def tableTellsCard : Claim7 := { stood := { row := tableTellsRow, standIns := [], harness := (true, "788a3e4e52a3919898e91a4dc82ec2f8a40b1e9553af6484ed91a1a633cc35f0"), looks := true }, kinds := [], alts := [], laidByText := true, laidKinds := [.data], laidTests := true, laidLooks := .later }
def TableTellsCardSaid : Prop := Claim7.holds Tryz.pinned (.plain (OpenSpec.ofChange tableTellsSpec)) tableTellsCard

/-- THE TIED CARD OF 'bramblelaw12.TableBytes'. -/
def tableBytesCard : Claim7 := { stood := { row := tableBytesRow, standIns := [], harness := (true, "788a3e4e52a3919898e91a4dc82ec2f8a40b1e9553af6484ed91a1a633cc35f0"), looks := true }, kinds := [], alts := [], laidByText := true, laidKinds := [.data], laidTests := true, laidLooks := .later }
def TableBytesCardSaid : Prop := Claim7.holds Tryz.pinned (.plain (OpenSpec.ofChange tableBytesSpec)) tableBytesCard

/-- THE TIED CARD OF 'bramblelaw12.TableBack'. -/
def tableBackCard : Claim7 := { stood := { row := tableBackRow, standIns := [], harness := (true, "788a3e4e52a3919898e91a4dc82ec2f8a40b1e9553af6484ed91a1a633cc35f0"), looks := true }, kinds := [], alts := [], laidByText := true, laidKinds := [.data], laidTests := true, laidLooks := .later }
def TableBackCardSaid : Prop := Claim7.holds Tryz.pinned (.plain (OpenSpec.ofChange tableBackSpec)) tableBackCard

/-- THE TIED CARD OF 'bramblelaw12.TableGood'. -/
def tableGoodCard : Claim7 := { stood := { row := tableGoodRow, standIns := [], harness := (true, "788a3e4e52a3919898e91a4dc82ec2f8a40b1e9553af6484ed91a1a633cc35f0"), looks := true }, kinds := [], alts := [], laidByText := true, laidKinds := [.data], laidTests := true, laidLooks := .later }
def TableGoodCardSaid : Prop := Claim7.holds Tryz.pinned (.plain (OpenSpec.ofChange tableGoodSpec)) tableGoodCard

/-- THE SECOND FORM's CARD OF 'bramblelaw12.TableBuilds'. -/
def tableBuildsUptoCard : Claim7 := { stood := { row := tableBuildsUptoRow, standIns := [], harness := (true, "788a3e4e52a3919898e91a4dc82ec2f8a40b1e9553af6484ed91a1a633cc35f0"), looks := true }, kinds := [], alts := [], laidByText := true, laidKinds := [.data], laidTests := true, laidLooks := .later }
def TableBuildsUptoCardSaid : Prop := Claim7.holds Tryz.pinned (.plain (OpenSpec.upto tableBuildsSpec)) tableBuildsUptoCard

/-- THE SECOND FORM's CARD OF 'bramblelaw12.TableTells'. -/
def tableTellsUptoCard : Claim7 := { stood := { row := tableTellsUptoRow, standIns := [], harness := (true, "788a3e4e52a3919898e91a4dc82ec2f8a40b1e9553af6484ed91a1a633cc35f0"), looks := true }, kinds := [], alts := [], laidByText := true, laidKinds := [.data], laidTests := true, laidLooks := .later }
def TableTellsUptoCardSaid : Prop := Claim7.holds Tryz.pinned (.plain (OpenSpec.upto tableTellsSpec)) tableTellsUptoCard

/-- THE SECOND FORM's CARD OF 'bramblelaw12.TableBytes'. -/
def tableBytesUptoCard : Claim7 := { stood := { row := tableBytesUptoRow, standIns := [], harness := (true, "788a3e4e52a3919898e91a4dc82ec2f8a40b1e9553af6484ed91a1a633cc35f0"), looks := true }, kinds := [], alts := [], laidByText := true, laidKinds := [.data], laidTests := true, laidLooks := .later }
def TableBytesUptoCardSaid : Prop := Claim7.holds Tryz.pinned (.plain (OpenSpec.upto tableBytesSpec)) tableBytesUptoCard

/-- THE SECOND FORM's CARD OF 'bramblelaw12.TableBack'. -/
def tableBackUptoCard : Claim7 := { stood := { row := tableBackUptoRow, standIns := [], harness := (true, "788a3e4e52a3919898e91a4dc82ec2f8a40b1e9553af6484ed91a1a633cc35f0"), looks := true }, kinds := [], alts := [], laidByText := true, laidKinds := [.data], laidTests := true, laidLooks := .later }
def TableBackUptoCardSaid : Prop := Claim7.holds Tryz.pinned (.plain (OpenSpec.upto tableBackSpec)) tableBackUptoCard

/-- THE SECOND FORM's CARD OF 'bramblelaw12.TableGood'. -/
def tableGoodUptoCard : Claim7 := { stood := { row := tableGoodUptoRow, standIns := [], harness := (true, "788a3e4e52a3919898e91a4dc82ec2f8a40b1e9553af6484ed91a1a633cc35f0"), looks := true }, kinds := [], alts := [], laidByText := true, laidKinds := [.data], laidTests := true, laidLooks := .later }
def TableGoodUptoCardSaid : Prop := Claim7.holds Tryz.pinned (.plain (OpenSpec.upto tableGoodSpec)) tableGoodUptoCard
end Rows
end Go.Proofs.YtbilbgjojdlobaaGreatDoor

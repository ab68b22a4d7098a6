/-
  DERIVED. GIVEN WITH THE SEED: THE CARDS: each row of YtnmhcmjpcamoeaaDoorRows.lean that lists a variable, with what it lists TIED to the program's text (the seventh form; the later family's looks); each row that meets fmt, with fmt's text TOLD by the authors' own Lean function (tested against real Go, not proved from fmt's source: count such statements apart). THE CARD IS WHAT COUNTS. Prove the row's statement (the work); the ties are given (YtnmhcmjpcamoeaaDoorTie.lean); close each card by the builder's one call (the guide's Derived/Test/ToyasCard.lean, 'card_holds'). Laid BY PROGRAM, IN A SANDBOX (cutbox-door.mjs). By AI agents, Wed Nov 11 2026. No macro, syntax, notation, axiom, sorry.
-/
import Derived.Test.YtnmhcmjpcamoeaaDoorRows
import GoSem.ClaimSeven
namespace Go.Proofs.YtnmhcmjpcamoeaaDoor
namespace Rows

/-- THE TIED CARD OF 'pestlelaw12.SalsaQuarters'. -/
def salsaQuartersCard : Claim7 := { stood := { row := salsaQuartersRow, standIns := [], harness := (true, "7d43cf1ab5a3c8c9817e3e6a223b731879f3cf755a009b20ec6889dec5a65014"), looks := false }, kinds := [], alts := [], laidByText := true, laidKinds := [.data], laidTests := true, laidLooks := .later }
def SalsaQuartersCardSaid : Prop := Claim7.holds Tryd.pinned (.plain (OpenSpec.ofChange salsaQuartersSpec)) salsaQuartersCard

/-- THE TIED CARD OF 'pestlelaw12.SalsaCores'. -/
def salsaCoresCard : Claim7 := { stood := { row := salsaCoresRow, standIns := [], harness := (true, "7d43cf1ab5a3c8c9817e3e6a223b731879f3cf755a009b20ec6889dec5a65014"), looks := false }, kinds := [], alts := [], laidByText := true, laidKinds := [.data], laidTests := true, laidLooks := .later }
def SalsaCoresCardSaid : Prop := Claim7.holds Tryd.pinned (.plain (OpenSpec.ofChange salsaCoresSpec)) salsaCoresCard

/-- THE TIED CARD OF 'pestlelaw12.SalsaBytes'. -/
def salsaBytesCard : Claim7 := { stood := { row := salsaBytesRow, standIns := [], harness := (true, "7d43cf1ab5a3c8c9817e3e6a223b731879f3cf755a009b20ec6889dec5a65014"), looks := false }, kinds := [], alts := [], laidByText := true, laidKinds := [.data], laidTests := true, laidLooks := .later }
def SalsaBytesCardSaid : Prop := Claim7.holds Tryd.pinned (.plain (OpenSpec.ofChange salsaBytesSpec)) salsaBytesCard

/-- THE SECOND FORM's CARD OF 'pestlelaw12.SalsaQuarters'. -/
def salsaQuartersUptoCard : Claim7 := { stood := { row := salsaQuartersUptoRow, standIns := [], harness := (true, "7d43cf1ab5a3c8c9817e3e6a223b731879f3cf755a009b20ec6889dec5a65014"), looks := false }, kinds := [], alts := [], laidByText := true, laidKinds := [.data], laidTests := true, laidLooks := .later }
def SalsaQuartersUptoCardSaid : Prop := Claim7.holds Tryd.pinned (.plain (OpenSpec.upto salsaQuartersSpec)) salsaQuartersUptoCard

/-- THE SECOND FORM's CARD OF 'pestlelaw12.SalsaCores'. -/
def salsaCoresUptoCard : Claim7 := { stood := { row := salsaCoresUptoRow, standIns := [], harness := (true, "7d43cf1ab5a3c8c9817e3e6a223b731879f3cf755a009b20ec6889dec5a65014"), looks := false }, kinds := [], alts := [], laidByText := true, laidKinds := [.data], laidTests := true, laidLooks := .later }
def SalsaCoresUptoCardSaid : Prop := Claim7.holds Tryd.pinned (.plain (OpenSpec.upto salsaCoresSpec)) salsaCoresUptoCard

/-- THE SECOND FORM's CARD OF 'pestlelaw12.SalsaBytes'. -/
def salsaBytesUptoCard : Claim7 := { stood := { row := salsaBytesUptoRow, standIns := [], harness := (true, "7d43cf1ab5a3c8c9817e3e6a223b731879f3cf755a009b20ec6889dec5a65014"), looks := false }, kinds := [], alts := [], laidByText := true, laidKinds := [.data], laidTests := true, laidLooks := .later }
def SalsaBytesUptoCardSaid : Prop := Claim7.holds Tryd.pinned (.plain (OpenSpec.upto salsaBytesSpec)) salsaBytesUptoCard
end Rows
end Go.Proofs.YtnmhcmjpcamoeaaDoor

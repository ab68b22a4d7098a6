/-
  DERIVED. GIVEN WITH THE SEED: THE CARDS: each row of YtohmkhmanidljaaDoorRows.lean that lists a variable, with what it lists TIED to the program's text (the seventh form; the later family's looks); each row that meets fmt, with fmt's text TOLD by the authors' own Lean function (tested against real Go, not proved from fmt's source: count such statements apart). THE CARD IS WHAT COUNTS. Prove the row's statement (the work); the ties are given (YtohmkhmanidljaaDoorTie.lean); close each card by the builder's one call (the guide's Derived/Test/ToyasCard.lean, 'card_holds'). Laid BY PROGRAM, IN A SANDBOX (cutbox-door.mjs). By AI agents, Wed Nov 11 2026. No macro, syntax, notation, axiom, sorry.
-/
import Derived.Test.YtohmkhmanidljaaDoorRows
import GoSem.ClaimSeven
namespace Go.Proofs.YtohmkhmanidljaaDoor
namespace Rows

/-- THE TIED CARD OF 'pestlelaw24.RomixMixes'. -/
def romixMixesCard : Claim7 := { stood := { row := romixMixesRow, standIns := [], harness := (true, "ddcc13935d744ce0d58d9d8a6bf512060cff7e3ba7b6aa40f7abd11895d0b768"), looks := false }, kinds := [], alts := [], laidByText := true, laidKinds := [.data], laidTests := true, laidLooks := .later }
def RomixMixesCardSaid : Prop := Claim7.holds Tryd.pinned (.plain (OpenSpec.ofChange romixMixesSpec)) romixMixesCard

/-- THE TIED CARD OF 'pestlelaw24.RomixRows'. -/
def romixRowsCard : Claim7 := { stood := { row := romixRowsRow, standIns := [], harness := (true, "ddcc13935d744ce0d58d9d8a6bf512060cff7e3ba7b6aa40f7abd11895d0b768"), looks := false }, kinds := [], alts := [], laidByText := true, laidKinds := [.data], laidTests := true, laidLooks := .later }
def RomixRowsCardSaid : Prop := Claim7.holds Tryd.pinned (.plain (OpenSpec.ofChange romixRowsSpec)) romixRowsCard

/-- THE SECOND FORM's CARD OF 'pestlelaw24.RomixMixes'. -/
def romixMixesUptoCard : Claim7 := { stood := { row := romixMixesUptoRow, standIns := [], harness := (true, "ddcc13935d744ce0d58d9d8a6bf512060cff7e3ba7b6aa40f7abd11895d0b768"), looks := false }, kinds := [], alts := [], laidByText := true, laidKinds := [.data], laidTests := true, laidLooks := .later }
def RomixMixesUptoCardSaid : Prop := Claim7.holds Tryd.pinned (.plain (OpenSpec.upto romixMixesSpec)) romixMixesUptoCard

/-- THE SECOND FORM's CARD OF 'pestlelaw24.RomixRows'. -/
def romixRowsUptoCard : Claim7 := { stood := { row := romixRowsUptoRow, standIns := [], harness := (true, "ddcc13935d744ce0d58d9d8a6bf512060cff7e3ba7b6aa40f7abd11895d0b768"), looks := false }, kinds := [], alts := [], laidByText := true, laidKinds := [.data], laidTests := true, laidLooks := .later }
def RomixRowsUptoCardSaid : Prop := Claim7.holds Tryd.pinned (.plain (OpenSpec.upto romixRowsSpec)) romixRowsUptoCard
end Rows
end Go.Proofs.YtohmkhmanidljaaDoor

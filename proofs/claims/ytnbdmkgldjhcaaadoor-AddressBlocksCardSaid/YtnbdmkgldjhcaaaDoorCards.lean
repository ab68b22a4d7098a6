/-
  DERIVED. GIVEN WITH THE SEED: THE CARDS: each row of YtnbdmkgldjhcaaaDoorRows.lean that lists a variable, with what it lists TIED to the program's text (the seventh form; the later family's looks); each row that meets fmt, with fmt's text TOLD by the authors' own Lean function (tested against real Go, not proved from fmt's source: count such statements apart). THE CARD IS WHAT COUNTS. Prove the row's statement (the work); the ties are given (YtnbdmkgldjhcaaaDoorTie.lean); close each card by the builder's one call (the guide's Derived/Test/ToyasCard.lean, 'card_holds'). Laid BY PROGRAM, IN A SANDBOX (cutbox-door.mjs). By AI agents, Wed Nov 11 2026. No macro, syntax, notation, axiom, sorry.
-/
import Derived.Test.YtnbdmkgldjhcaaaDoorRows
import GoSem.ClaimSeven
namespace Go.Proofs.YtnbdmkgldjhcaaaDoor
namespace Rows

/-- THE TIED CARD OF 'pestlelaw30.AddressBlocks'. -/
def addressBlocksCard : Claim7 := { stood := { row := addressBlocksRow, standIns := [], harness := (true, "01bcb8ae89eb3c0affb18d9979627da21601c3e3e1edab3d362861528a9343d6"), looks := false }, kinds := [], alts := [], laidByText := true, laidKinds := [.data, .data], laidTests := true, laidLooks := .later }
def AddressBlocksCardSaid : Prop := Claim7.holds Tryd.pinned (.plain (OpenSpec.ofChange addressBlocksSpec)) addressBlocksCard

/-- THE TIED CARD OF 'pestlelaw30.AddressSource'. -/
def addressSourceCard : Claim7 := { stood := { row := addressSourceRow, standIns := [], harness := (true, "01bcb8ae89eb3c0affb18d9979627da21601c3e3e1edab3d362861528a9343d6"), looks := false }, kinds := [], alts := [], laidByText := true, laidKinds := [.data, .data], laidTests := true, laidLooks := .later }
def AddressSourceCardSaid : Prop := Claim7.holds Tryd.pinned (.plain (OpenSpec.ofChange addressSourceSpec)) addressSourceCard

/-- THE SECOND FORM's CARD OF 'pestlelaw30.AddressBlocks'. -/
def addressBlocksUptoCard : Claim7 := { stood := { row := addressBlocksUptoRow, standIns := [], harness := (true, "01bcb8ae89eb3c0affb18d9979627da21601c3e3e1edab3d362861528a9343d6"), looks := false }, kinds := [], alts := [], laidByText := true, laidKinds := [.data, .data], laidTests := true, laidLooks := .later }
def AddressBlocksUptoCardSaid : Prop := Claim7.holds Tryd.pinned (.plain (OpenSpec.upto addressBlocksSpec)) addressBlocksUptoCard

/-- THE SECOND FORM's CARD OF 'pestlelaw30.AddressSource'. -/
def addressSourceUptoCard : Claim7 := { stood := { row := addressSourceUptoRow, standIns := [], harness := (true, "01bcb8ae89eb3c0affb18d9979627da21601c3e3e1edab3d362861528a9343d6"), looks := false }, kinds := [], alts := [], laidByText := true, laidKinds := [.data, .data], laidTests := true, laidLooks := .later }
def AddressSourceUptoCardSaid : Prop := Claim7.holds Tryd.pinned (.plain (OpenSpec.upto addressSourceSpec)) addressSourceUptoCard
end Rows
end Go.Proofs.YtnbdmkgldjhcaaaDoor

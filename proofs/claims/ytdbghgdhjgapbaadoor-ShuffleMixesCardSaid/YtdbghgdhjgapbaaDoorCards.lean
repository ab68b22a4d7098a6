/-
  DERIVED. GIVEN WITH THE SEED: THE CARDS: each row of YtdbghgdhjgapbaaDoorRows.lean that lists a variable, with what it lists TIED to the program's text (the seventh form; the later family's looks); each row that meets fmt, with fmt's text TOLD by the authors' own Lean function (tested against real Go, not proved from fmt's source: count such statements apart). THE CARD IS WHAT COUNTS. Prove the row's statement (the work); the ties are given (YtdbghgdhjgapbaaDoorTie.lean); close each card by the builder's one call (the guide's Derived/Test/ToyasCard.lean, 'card_holds'). Laid BY PROGRAM, IN A SANDBOX (cutbox-door.mjs). By AI agents, Wed Nov 11 2026. No macro, syntax, notation, axiom, sorry.
-/
import Derived.Test.YtdbghgdhjgapbaaDoorRows
import GoSem.ClaimSeven
namespace Go.Proofs.YtdbghgdhjgapbaaDoor
namespace Rows

/-- THE TIED CARD OF 'pestlelaw23.ShuffleMixes'. -/
def shuffleMixesCard : Claim7 := { stood := { row := shuffleMixesRow, standIns := [], harness := (true, "8aa15354d021553dfb1c36ab26b109c28b6cb44342907807f3750a9df60007f1"), looks := false }, kinds := [], alts := [], laidByText := true, laidKinds := [.data], laidTests := true, laidLooks := .later }
def ShuffleMixesCardSaid : Prop := Claim7.holds Tryd.pinned (.plain (OpenSpec.ofChange shuffleMixesSpec)) shuffleMixesCard

/-- THE TIED CARD OF 'pestlelaw23.ShufflePlaces'. -/
def shufflePlacesCard : Claim7 := { stood := { row := shufflePlacesRow, standIns := [], harness := (true, "8aa15354d021553dfb1c36ab26b109c28b6cb44342907807f3750a9df60007f1"), looks := false }, kinds := [], alts := [], laidByText := true, laidKinds := [.data], laidTests := true, laidLooks := .later }
def ShufflePlacesCardSaid : Prop := Claim7.holds Tryd.pinned (.plain (OpenSpec.ofChange shufflePlacesSpec)) shufflePlacesCard

/-- THE SECOND FORM's CARD OF 'pestlelaw23.ShuffleMixes'. -/
def shuffleMixesUptoCard : Claim7 := { stood := { row := shuffleMixesUptoRow, standIns := [], harness := (true, "8aa15354d021553dfb1c36ab26b109c28b6cb44342907807f3750a9df60007f1"), looks := false }, kinds := [], alts := [], laidByText := true, laidKinds := [.data], laidTests := true, laidLooks := .later }
def ShuffleMixesUptoCardSaid : Prop := Claim7.holds Tryd.pinned (.plain (OpenSpec.upto shuffleMixesSpec)) shuffleMixesUptoCard

/-- THE SECOND FORM's CARD OF 'pestlelaw23.ShufflePlaces'. -/
def shufflePlacesUptoCard : Claim7 := { stood := { row := shufflePlacesUptoRow, standIns := [], harness := (true, "8aa15354d021553dfb1c36ab26b109c28b6cb44342907807f3750a9df60007f1"), looks := false }, kinds := [], alts := [], laidByText := true, laidKinds := [.data], laidTests := true, laidLooks := .later }
def ShufflePlacesUptoCardSaid : Prop := Claim7.holds Tryd.pinned (.plain (OpenSpec.upto shufflePlacesSpec)) shufflePlacesUptoCard
end Rows
end Go.Proofs.YtdbghgdhjgapbaaDoor

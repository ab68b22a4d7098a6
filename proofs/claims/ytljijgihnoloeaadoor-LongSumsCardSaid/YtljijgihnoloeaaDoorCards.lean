/-
  DERIVED. GIVEN WITH THE SEED: THE CARDS: each row of YtljijgihnoloeaaDoorRows.lean that lists a variable, with what it lists TIED to the program's text (the seventh form; the later family's looks); each row that meets fmt, with fmt's text TOLD by the authors' own Lean function (tested against real Go, not proved from fmt's source: count such statements apart). THE CARD IS WHAT COUNTS. Prove the row's statement (the work); the ties are given (YtljijgihnoloeaaDoorTie.lean); close each card by the builder's one call (the guide's Derived/Test/ToyasCard.lean, 'card_holds'). Laid BY PROGRAM, IN A SANDBOX (cutbox-door.mjs). By AI agents, Wed Nov 11 2026. No macro, syntax, notation, axiom, sorry.
-/
import Derived.Test.YtljijgihnoloeaaDoorRows
import GoSem.ClaimSeven
namespace Go.Proofs.YtljijgihnoloeaaDoor
namespace Rows

/-- THE TIED CARD OF 'pestlelaw07.BlakeSums'. -/
def blakeSumsCard : Claim7 := { stood := { row := blakeSumsRow, standIns := [], harness := (true, "319a8250efae618e506c2edd28829473516f912a79771b37292cfc963a685324"), looks := false }, kinds := [], alts := [], laidByText := true, laidKinds := [.data], laidTests := true, laidLooks := .later }
def BlakeSumsCardSaid : Prop := Claim7.holds Tryd.pinned (.plain (OpenSpec.ofChange blakeSumsSpec)) blakeSumsCard

/-- THE TIED CARD OF 'pestlelaw08.LongSums'. -/
def longSumsCard : Claim7 := { stood := { row := longSumsRow, standIns := [], harness := (true, "319a8250efae618e506c2edd28829473516f912a79771b37292cfc963a685324"), looks := false }, kinds := [], alts := [], laidByText := true, laidKinds := [.data], laidTests := true, laidLooks := .later }
def LongSumsCardSaid : Prop := Claim7.holds Tryd.pinned (.plain (OpenSpec.ofChange longSumsSpec)) longSumsCard

/-- THE TIED CARD OF 'pestlelaw08.LongSizes'. -/
def longSizesCard : Claim7 := { stood := { row := longSizesRow, standIns := [], harness := (true, "319a8250efae618e506c2edd28829473516f912a79771b37292cfc963a685324"), looks := false }, kinds := [], alts := [], laidByText := true, laidKinds := [.data], laidTests := true, laidLooks := .later }
def LongSizesCardSaid : Prop := Claim7.holds Tryd.pinned (.plain (OpenSpec.ofChange longSizesSpec)) longSizesCard

/-- THE SECOND FORM's CARD OF 'pestlelaw07.BlakeSums'. -/
def blakeSumsUptoCard : Claim7 := { stood := { row := blakeSumsUptoRow, standIns := [], harness := (true, "319a8250efae618e506c2edd28829473516f912a79771b37292cfc963a685324"), looks := false }, kinds := [], alts := [], laidByText := true, laidKinds := [.data], laidTests := true, laidLooks := .later }
def BlakeSumsUptoCardSaid : Prop := Claim7.holds Tryd.pinned (.plain (OpenSpec.upto blakeSumsSpec)) blakeSumsUptoCard

/-- THE SECOND FORM's CARD OF 'pestlelaw08.LongSums'. -/
def longSumsUptoCard : Claim7 := { stood := { row := longSumsUptoRow, standIns := [], harness := (true, "319a8250efae618e506c2edd28829473516f912a79771b37292cfc963a685324"), looks := false }, kinds := [], alts := [], laidByText := true, laidKinds := [.data], laidTests := true, laidLooks := .later }
def LongSumsUptoCardSaid : Prop := Claim7.holds Tryd.pinned (.plain (OpenSpec.upto longSumsSpec)) longSumsUptoCard

/-- THE SECOND FORM's CARD OF 'pestlelaw08.LongSizes'. -/
def longSizesUptoCard : Claim7 := { stood := { row := longSizesUptoRow, standIns := [], harness := (true, "319a8250efae618e506c2edd28829473516f912a79771b37292cfc963a685324"), looks := false }, kinds := [], alts := [], laidByText := true, laidKinds := [.data], laidTests := true, laidLooks := .later }
def LongSizesUptoCardSaid : Prop := Claim7.holds Tryd.pinned (.plain (OpenSpec.upto longSizesSpec)) longSizesUptoCard
end Rows
end Go.Proofs.YtljijgihnoloeaaDoor

/-
  DERIVED. GIVEN WITH THE SEED: THE CARDS: each row of YtfoodaobiknihaaDoorRows.lean that lists a variable, with what it lists TIED to the program's text (the seventh form; the later family's looks); each row that meets fmt, with fmt's text TOLD by the authors' own Lean function (tested against real Go, not proved from fmt's source: count such statements apart). THE CARD IS WHAT COUNTS. Prove the row's statement (the work); the ties are given (YtfoodaobiknihaaDoorTie.lean); close each card by the builder's one call (the guide's Derived/Test/ToyasCard.lean, 'card_holds'). Laid BY PROGRAM, IN A SANDBOX (cutbox-door.mjs). By AI agents, Wed Nov 11 2026. No macro, syntax, notation, axiom, sorry.
-/
import Derived.Test.YtfoodaobiknihaaDoorRows
import GoSem.ClaimSeven
namespace Go.Proofs.YtfoodaobiknihaaDoor
namespace Rows

/-- THE TIED CARD OF 'pestlelaw34.LaneEnds'. -/
def laneEndsCard : Claim7 := { stood := { row := laneEndsRow, standIns := [], harness := (true, "23a81a5ab19f0cb6c9a27c4c2fd4d019b3a1be23842a869338f90948df04aa29"), looks := false }, kinds := [], alts := [], laidByText := true, laidKinds := [.data, .data], laidTests := true, laidLooks := .later }
def LaneEndsCardSaid : Prop := Claim7.holds Tryd.pinned (.plain (OpenSpec.ofChange laneEndsSpec)) laneEndsCard

/-- THE SECOND FORM's CARD OF 'pestlelaw34.LaneEnds'. -/
def laneEndsUptoCard : Claim7 := { stood := { row := laneEndsUptoRow, standIns := [], harness := (true, "23a81a5ab19f0cb6c9a27c4c2fd4d019b3a1be23842a869338f90948df04aa29"), looks := false }, kinds := [], alts := [], laidByText := true, laidKinds := [.data, .data], laidTests := true, laidLooks := .later }
def LaneEndsUptoCardSaid : Prop := Claim7.holds Tryd.pinned (.plain (OpenSpec.upto laneEndsSpec)) laneEndsUptoCard
end Rows
end Go.Proofs.YtfoodaobiknihaaDoor

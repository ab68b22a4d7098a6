/-
  DERIVED. GIVEN WITH THE SEED: THE CARDS: each row of YtfoodaobiknihaaGreatDoorRows.lean that lists a variable, with what it lists TIED to the program's text (the seventh form; the later family's looks); each row that meets fmt, with fmt's text TOLD by the authors' own Lean function (tested against real Go, not proved from fmt's source: count such statements apart). THE CARD IS WHAT COUNTS. Prove the row's statement (the work); the ties are given (YtfoodaobiknihaaGreatDoorTie.lean); close each card by the builder's one call (the guide's Derived/Test/ToyasCard.lean, 'card_holds'). Laid BY PROGRAM, IN A SANDBOX (cutbox-door.mjs). By AI agents, Wed Nov 11 2026. No macro, syntax, notation, axiom, sorry.
-/
import Derived.Test.YtfoodaobiknihaaGreatDoorRows
import GoSem.ClaimSeven
namespace Go.Proofs.YtfoodaobiknihaaGreatDoor
namespace Rows

/-- THE TIED CARD OF 'pestlelaw34.LaneSteps'. -/
def laneStepsCard : Claim7 := { stood := { row := laneStepsRow, standIns := [], harness := (true, "c5f7fa22c065eec13592ba5bf1795041bc473bc4ef2ae09e25e0c53e6a251f29"), looks := false }, kinds := [], alts := [], laidByText := true, laidKinds := [.data, .data, .data], laidTests := true, laidLooks := .later }
def LaneStepsCardSaid : Prop := Claim7.holds Tryz.pinned (.plain (OpenSpec.ofChange laneStepsSpec)) laneStepsCard

/-- THE SECOND FORM's CARD OF 'pestlelaw34.LaneSteps'. -/
def laneStepsUptoCard : Claim7 := { stood := { row := laneStepsUptoRow, standIns := [], harness := (true, "c5f7fa22c065eec13592ba5bf1795041bc473bc4ef2ae09e25e0c53e6a251f29"), looks := false }, kinds := [], alts := [], laidByText := true, laidKinds := [.data, .data, .data], laidTests := true, laidLooks := .later }
def LaneStepsUptoCardSaid : Prop := Claim7.holds Tryz.pinned (.plain (OpenSpec.upto laneStepsSpec)) laneStepsUptoCard
end Rows
end Go.Proofs.YtfoodaobiknihaaGreatDoor
